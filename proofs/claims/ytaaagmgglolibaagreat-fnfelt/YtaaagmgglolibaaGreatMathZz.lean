namespace Go.Proofs.YtaaagmgglolibaaGreat
def nth (xs : List Int) (i : Nat) : Int := xs.getD i 0
def inB (x : Int) : Bool := decide (-1000 <= x) && decide (x <= 1000)
def okB (xs : List Int) : Bool := decide (1 <= xs.length) && decide (xs.length <= 4) && xs.all inB
def Zbf (a b : List Int) : Bool := okB a && okB b && decide (a.length = b.length)
def ZB (f : Nat -> Int) : Nat -> Int
 | 0 => 0
 | k + 1 => ZB f k + f k
def Zax (f : Nat -> Int) : Nat -> Int
 | 0 => 0
 | k + 1 => max (Zax f k) (f k)
def sqF (a b : List Int) (i : Nat) : Int := (nth a i - nth b i) * (nth a i - nth b i)
def Zbg (a b : List Int) (i : Nat) : Int := max (nth a i - nth b i) (nth b i - nth a i)
def ZN (a b : List Int) : Int := if Zbf a b = true then ZB (sqF a b) a.length else -1
def Zap (a b : List Int) : Int := if Zbf a b = true then ZB (Zbg a b) a.length else -1
def ZaF (a b : List Int) : Int := if Zbf a b = true then Zax (Zbg a b) a.length else -1
def Zb7 (f : Nat -> Int) (n : Nat) : List Int := (List.range n).map f
theorem Zjm (x : Int) : inB x = true ↔ -1000 <= x /\ x <= 1000 := by simp [inB]
theorem Zbz {xs : List Int} (h : okB xs = true) : 1 <= xs.length /\ xs.length <= 4 := by
 simp [okB] at h; omega
theorem Zcv {xs : List Int} (h : okB xs = true) (i : Nat) : -1000 <= nth xs i /\ nth xs i <= 1000 := by
 simp only [okB, Bool.and_eq_true, List.all_eq_true] at h
 by_cases hi : i < xs.length
 · have := h.2 xs[i] (List.getElem_mem hi)
   rw [Zjm] at this
   simpa [nth, List.getD, hi] using this
 · simp [nth, List.getD, hi]
theorem Zne {xs : List Int} (h1 : 1 <= xs.length) (h4 : xs.length <= 4) (h : ∀ i, i < xs.length -> -1000 <= nth xs i /\ nth xs i <= 1000) : okB xs = true := by
 simp only [okB, Bool.and_eq_true, List.all_eq_true, decide_eq_true_eq]
 refine ⟨⟨h1, h4⟩, fun x hx => ?_⟩
 obtain ⟨i, hi, rfl⟩ := List.getElem_of_mem hx
 rw [Zjm]
 have := h i hi
 simpa [nth, List.getD, hi] using this
theorem ZjF {xs : List Int} (h : xs.length < 1) : okB xs = false := by simp [okB]; omega
theorem ZkN {xs : List Int} (h : 4 < xs.length) : okB xs = false := by simp [okB]; omega
theorem Zi4 {xs : List Int} (i : Nat) (h : nth xs i < -1000 \/ 1000 < nth xs i) : okB xs = false := by
 rcases hb : okB xs with _ | _
 · rfl
 · have := Zcv hb i; omega
theorem ZbR {a b : List Int} (h : Zbf a b = true) : okB a = true /\ okB b = true /\ a.length = b.length := by
 simp [Zbf] at h; exact ⟨h.1.1, h.1.2, h.2⟩
theorem ZbF (f : Nat -> Int) (lo hi : Int) (h : ∀ i, lo <= f i /\ f i <= hi) (k : Nat) : lo * k <= ZB f k /\ ZB f k <= hi * k := by
 induction k with
 | zero => simp [ZB]
 | succ k ih =>
   have := h k
   simp only [ZB]
   rw [show ((k + 1 : Nat) : Int) = (k : Int) + 1 by omega, Int.mul_add, Int.mul_add]
   omega
theorem Zfj (f : Nat -> Int) (hi : Int) (h0 : 0 <= hi) (h : ∀ i, f i <= hi) (k : Nat) : 0 <= Zax f k /\ Zax f k <= hi := by
 induction k with
 | zero => simp [Zax]; exact h0
 | succ k ih => have := h k; simp only [Zax]; omega
theorem Zdg (x : Int) : 0 <= x * x := by
 rcases Int.le_total 0 x with h | h
 · exact Int.mul_nonneg h h
 · have := Int.mul_nonneg (a := -x) (b := -x) (by omega) (by omega)
   rwa [Int.neg_mul_neg] at this
theorem ZkR {x y m : Int} (_hm : 0 <= m) (hx : -m <= x /\ x <= m) (hy : -m <= y /\ y <= m) : -(m * m) <= x * y /\ x * y <= m * m := by
 have a1 := Int.mul_nonneg (a := m - x) (b := m + y) (by omega) (by omega)
 have a2 := Int.mul_nonneg (a := m + x) (b := m - y) (by omega) (by omega)
 have a3 := Int.mul_nonneg (a := m - x) (b := m - y) (by omega) (by omega)
 have a4 := Int.mul_nonneg (a := m + x) (b := m + y) (by omega) (by omega)
 simp only [Int.mul_add, Int.add_mul, Int.mul_sub, Int.sub_mul] at a1 a2 a3 a4
 rw [Int.mul_comm m y] at *
 generalize x * y = p at *
 generalize x * m = q at *
 generalize y * m = r at *
 generalize m * m = s at *
 omega
theorem ZeR {a b : List Int} (ha : okB a = true) (hb : okB b = true) (i : Nat) : 0 <= sqF a b i /\ sqF a b i <= 4000000 := by
 have h1 := Zcv ha i; have h2 := Zcv hb i
 refine ⟨Zdg _, ?_⟩
 have := (ZkR (x := nth a i - nth b i) (y := nth a i - nth b i) (m := 2000) (by omega) (by omega) (by omega)).2
 simpa [sqF] using this
theorem ZcG {a b : List Int} (ha : okB a = true) (hb : okB b = true) (i : Nat) : 0 <= Zbg a b i /\ Zbg a b i <= 2000 := by
 have h1 := Zcv ha i; have h2 := Zcv hb i
 unfold Zbg; omega
theorem Zaa (f : Nat -> Int) (n : Nat) : (Zb7 f n).length = n := by simp [Zb7]
theorem ZfM (f : Nat -> Int) (n i : Nat) (h : i < n) : nth (Zb7 f n) i = f i := by simp [nth, Zb7, List.getD, h]
theorem ZjE (f : Nat -> Int) (n : Nat) : Zb7 f (n + 1) = Zb7 f n ++ [f n] := by simp [Zb7, List.range_succ]
theorem Zcd (f g : Nat -> Int) (n : Nat) (h : ∀ i, i < n -> f i = g i) : ZB f n = ZB g n := by
 induction n with
 | zero => rfl
 | succ n ih => simp only [ZB]; rw [ih (fun i hi => h i (by omega)), h n (by omega)]
def ZjB (x y : Int) : Int := max x y
theorem ZbU {a b : List Int} (ha : okB a = true) (hb : okB b = true) (hl : a.length = b.length) : Zbf a b = true := by simp [Zbf, ha, hb, hl]
theorem ZfL {a b : List Int} (ha : okB a = false) : Zbf a b = false := by simp [Zbf, ha]
theorem ZeQ {a b : List Int} (hb : okB b = false) : Zbf a b = false := by simp [Zbf, hb]
theorem ZgT {a b : List Int} (hl : ¬ a.length = b.length) : Zbf a b = false := by simp [Zbf, hl]
set_option linter.unusedSimpArgs false
theorem Zfk {xs ys : List Int} (hl : xs.length = ys.length) (h : ∀ j, j < xs.length -> nth xs j = nth ys j) : xs = ys := by
 apply List.ext_getElem hl
 intro i h1 h2
 have := h i h1
 simpa [nth, List.getD, h1, h2] using this
theorem ZmH (a b : List Int) (i : Nat) : sqF a b i = Zbg a b i * Zbg a b i := by
 unfold sqF Zbg
 rcases Int.le_total (nth a i - nth b i) (nth b i - nth a i) with h | h
 · rw [Int.max_eq_right h, show nth b i - nth a i = -(nth a i - nth b i) by omega, Int.neg_mul_neg]
 · rw [Int.max_eq_left h]
theorem Zkl (f g h : Nat -> Int) (H : ∀ i, f i <= g i + h i) (n : Nat) : ZB f n <= ZB g n + ZB h n := by
 induction n with
 | zero => simp [ZB]
 | succ n ih => have := H n; simp only [ZB]; omega
theorem Zkm (f g h : Nat -> Int) (H : ∀ i, f i <= g i + h i) (n : Nat) : Zax f n <= Zax g n + Zax h n := by
 induction n with
 | zero => simp [Zax]
 | succ n ih => have := H n; simp only [Zax]; omega
theorem Zf2 (a b c : List Int) (i : Nat) : Zbg a b i <= Zbg a c i + Zbg c b i := by unfold Zbg; omega
theorem ZiI (g : Nat -> Int) (h : ∀ i, 0 <= g i) (n : Nat) : Zax g n <= ZB g n := by
 have h0 : ∀ n, 0 <= ZB g n := fun n => by
  induction n with
  | zero => simp [ZB]
  | succ n ih => have := h n; simp only [ZB]; omega
 induction n with
 | zero => simp [Zax, ZB]
 | succ n ih => have := h n; have := h0 n; simp only [Zax, ZB]; omega
theorem ZiJ (g : Nat -> Int) (n : Nat) : ZB g n <= n * Zax g n := by
 induction n with
 | zero => simp [ZB]
 | succ n ih =>
   simp only [ZB, Zax]
   have h1 : (n : Int) * Zax g n <= n * max (Zax g n) (g n) := Int.mul_le_mul_of_nonneg_left (by omega) (by omega)
   rw [show ((n + 1 : Nat) : Int) = (n : Int) + 1 by omega, Int.add_mul]
   omega
theorem ZgB (g : Nat -> Int) (n : Nat) : 0 <= ZB (fun i => g i * g i) n := by
 induction n with
 | zero => simp [ZB]
 | succ n ih => have := Zdg (g n); simp only [ZB]; omega
theorem ZnA (g : Nat -> Int) (n : Nat) : Zax g n * Zax g n <= ZB (fun i => g i * g i) n := by
 induction n with
 | zero => simp [Zax, ZB]
 | succ n ih =>
   simp only [Zax, ZB]
   have h1 := Zdg (g n)
   have h2 := ZgB g n
   rcases Int.le_total (Zax g n) (g n) with h | h
   · rw [Int.max_eq_right h]; omega
   · rw [Int.max_eq_left h]; omega
theorem Zhz (g : Nat -> Int) (h : ∀ i, 0 <= g i) (n : Nat) : 0 <= ZB g n /\ ZB (fun i => g i * g i) n <= ZB g n * ZB g n := by
 induction n with
 | zero => simp [ZB]
 | succ n ih =>
   have h1 := h n
   have h2 := Int.mul_nonneg ih.1 h1
   simp only [ZB]
   refine ⟨by omega, ?_⟩
   rw [Int.mul_add, Int.add_mul, Int.add_mul, Int.mul_comm (g n) (ZB g n)]
   omega
theorem Zkn (g : Nat -> Int) (n : Nat) : ZB g n * ZB g n <= n * ZB (fun i => g i * g i) n := by
 induction n with
 | zero => simp [ZB]
 | succ n ih =>
   simp only [ZB]
   generalize hs : ZB g n = s at *
   generalize hq : ZB (fun i => g i * g i) n = q at *
   generalize hx : g n = x at *
   rcases Nat.eq_zero_or_pos n with h0 | h0
   · subst h0
     have e1 : s = 0 := by rw [<- hs]; rfl
     have e2 : q = 0 := by rw [<- hq]; rfl
     rw [e1, e2]; simp
   · have hk : (0 : Int) < (n : Int) := by omega
     rw [show ((n + 1 : Nat) : Int) = (n : Int) + 1 by omega]
     generalize (n : Int) = k at *
     have h1 : 0 <= k * (q + k * (x * x) - 2 * (s * x)) := by
      have := Zdg (s - k * x)
      have e : (s - k * x) * (s - k * x) = s * s + k * (k * (x * x) - 2 * (s * x)) := by (try simp only [Int.two_mul]); simp only [Int.mul_add, Int.add_mul, Int.mul_sub, Int.sub_mul, Int.one_mul, Int.mul_one, Int.mul_comm, Int.mul_left_comm, Int.mul_assoc]; omega
      have e2 : k * (q + k * (x * x) - 2 * (s * x)) = k * q + k * (k * (x * x) - 2 * (s * x)) := by (try simp only [Int.two_mul]); simp only [Int.mul_add, Int.add_mul, Int.mul_sub, Int.sub_mul, Int.one_mul, Int.mul_one, Int.mul_comm, Int.mul_left_comm, Int.mul_assoc]; omega
      omega
     have h2 : 0 <= q + k * (x * x) - 2 * (s * x) := by
      rcases Int.lt_or_le (q + k * (x * x) - 2 * (s * x)) 0 with h | h
      · have := Int.mul_lt_mul_of_pos_left h hk
        omega
      · exact h
     have e3 : (s + x) * (s + x) = s * s + 2 * (s * x) + x * x := by (try simp only [Int.two_mul]); simp only [Int.mul_add, Int.add_mul, Int.mul_sub, Int.sub_mul, Int.one_mul, Int.mul_one, Int.mul_comm, Int.mul_left_comm, Int.mul_assoc]; omega
     have e4 : (k + 1) * (q + x * x) = k * q + q + k * (x * x) + x * x := by (try simp only [Int.two_mul]); simp only [Int.mul_add, Int.add_mul, Int.mul_sub, Int.sub_mul, Int.one_mul, Int.mul_one, Int.mul_comm, Int.mul_left_comm, Int.mul_assoc]; omega
     omega
theorem ZlA (g : Nat -> Int) (h : ∀ i, 0 <= g i) (n : Nat) (hz : ZB g n = 0) : ∀ i, i < n -> g i = 0 := by
 induction n with
 | zero => intro i hi; omega
 | succ n ih =>
   have h1 := h n
   have h2 := (Zhz g h n).1
   simp only [ZB] at hz
   intro i hi
   rcases Nat.lt_or_ge i n with h3 | h3
   · exact ih (by omega) i h3
   · rw [show i = n by omega]; omega
theorem third {a b c : List Int} (hab : Zbf a b = true) (hac : Zbf a c = true) :
 0 <= Zap a b /\ Zap a b <= 8000 /\ 0 <= ZaF a b /\ ZaF a b <= 2000 /\ 0 <= ZN a b /\ ZN a b <= 16000000 /\
 0 <= Zap a c /\ Zap a c <= 8000 /\ 0 <= Zap c b /\ Zap c b <= 8000 /\ 0 <= ZaF a c /\ ZaF a c <= 2000 /\ 0 <= ZaF c b /\ ZaF c b <= 2000 /\
 (Zap a b = 0 ↔ a = b) /\ Zap a b <= Zap a c + Zap c b /\ ZaF a b <= ZaF a c + ZaF c b /\ ZaF a b <= Zap a b /\
 Zap a b <= a.length * ZaF a b /\ ZaF a b * ZaF a b <= ZN a b /\ ZN a b <= Zap a b * Zap a b /\ Zap a b * Zap a b <= a.length * ZN a b := by
 obtain ⟨ha, hb, hl⟩ := ZbR hab
 obtain ⟨_, hc, hl'⟩ := ZbR hac
 have hcb : Zbf c b = true := ZbU hc hb (by omega)
 have h4 := Zbz ha
 have e1 : Zap a b = ZB (Zbg a b) a.length := by unfold Zap; rw [if_pos hab]
 have e2 : ZaF a b = Zax (Zbg a b) a.length := by unfold ZaF; rw [if_pos hab]
 have e3 : ZN a b = ZB (fun i => Zbg a b i * Zbg a b i) a.length := by unfold ZN; rw [if_pos hab]; exact Zcd _ _ _ (fun i _ => ZmH a b i)
 have e4 : Zap a c = ZB (Zbg a c) a.length := by unfold Zap; rw [if_pos hac]
 have e5 : Zap c b = ZB (Zbg c b) a.length := by unfold Zap; rw [if_pos hcb, hl']
 have e6 : ZaF a c = Zax (Zbg a c) a.length := by unfold ZaF; rw [if_pos hac]
 have e7 : ZaF c b = Zax (Zbg c b) a.length := by unfold ZaF; rw [if_pos hcb, hl']
 have e8 : ZN a b = ZB (sqF a b) a.length := by unfold ZN; rw [if_pos hab]
 have hab0 := fun i => (ZcG ha hb i).1
 have b1 := ZbF (Zbg a b) 0 2000 (ZcG ha hb) a.length
 have b2 := Zfj (Zbg a b) 2000 (by omega) (fun i => (ZcG ha hb i).2) a.length
 have b3 := ZbF (sqF a b) 0 4000000 (ZeR ha hb) a.length
 have b4 := ZbF (Zbg a c) 0 2000 (ZcG ha hc) a.length
 have b5 := ZbF (Zbg c b) 0 2000 (ZcG hc hb) a.length
 have b6 := Zfj (Zbg a c) 2000 (by omega) (fun i => (ZcG ha hc i).2) a.length
 have b7 := Zfj (Zbg c b) 2000 (by omega) (fun i => (ZcG hc hb i).2) a.length
 refine ⟨by omega, by omega, by omega, by omega, by omega, by omega, by omega, by omega, by omega, by omega, by omega, by omega, by omega, by omega, ?_, ?_, ?_, ?_, ?_, ?_, ?_, ?_⟩
 · rw [e1]
   constructor
   · intro hz
     refine Zfk hl (fun j hj => ?_)
     have := ZlA (Zbg a b) hab0 a.length hz j hj
     unfold Zbg at this; omega
   · rintro rfl
     have : ZB (Zbg a a) a.length = ZB (fun _ => 0) a.length := Zcd _ _ _ (fun i _ => by unfold Zbg; omega)
     rw [this]
     have := ZbF (fun _ => (0 : Int)) 0 0 (fun _ => ⟨Int.le_refl _, Int.le_refl _⟩) a.length
     omega
 · rw [e1, e4, e5]; exact Zkl _ _ _ (Zf2 a b c) _
 · rw [e2, e6, e7]; exact Zkm _ _ _ (Zf2 a b c) _
 · rw [e1, e2]; exact ZiI _ hab0 _
 · rw [e1, e2]; exact ZiJ _ _
 · rw [e2, e3]; exact ZnA _ _
 · rw [e1, e3]; exact (Zhz _ hab0 _).2
 · rw [e1, e3]; exact Zkn _ _
abbrev Mk := Int × List Int
def mid (ms : List Mk) (i : Nat) : Int := (ms.getD i (0, [])).1
def mat (ms : List Mk) (i : Nat) : List Int := (ms.getD i (0, [])).2
def ZbP (ms : List Mk) (i : Nat) : Bool :=
 decide (1 <= mid ms i) && decide (mid ms i <= 1000000) && okB (mat ms i) && decide ((mat ms i).length = (mat ms 0).length) && (decide (i = 0) || decide (mid ms (i - 1) < mid ms i))
def Zm (ms : List Mk) : Bool := decide (ms.length <= 60) && (List.range ms.length).all (ZbP ms)
def Zm2 (k : Int) : Bool := decide (1 <= k) && decide (k <= 3)
def betV (a b : List Int) (k : Int) : Int := if k = 1 then ZN a b else if k = 2 then Zap a b else if k = 3 then ZaF a b else -1
def betF (ms : List Mk) (p : List Int) (k : Int) (i : Nat) : Int := betV p (mat ms i) k
def mostV (ms : List Mk) (p : List Int) (k : Int) : Int := Zax (betF ms p k) ms.length
def ZlB (ms : List Mk) (k : Int) (i : Nat) : Int := mostV ms (mat ms i) k
def Zm3 (ms : List Mk) (k : Int) : Bool := decide (ms.length = 0) || !Zm ms || !Zm2 k
def diaV (ms : List Mk) (k : Int) : Int := if Zm3 ms k = true then -1 else Zax (ZlB ms k) ms.length
def ZlC (ms : List Mk) (k : Int) : Nat -> Nat
 | 0 => 0
 | n + 1 => if ZlB ms k n < ZlB ms k (ZlC ms k n) then n else ZlC ms k n
def midV (ms : List Mk) (k : Int) : Int := if Zm3 ms k = true then 0 else mid ms (ZlC ms k ms.length)
theorem ZZ (ms : List Mk) (i : Nat) : ZbP ms i = true ↔ 1 <= mid ms i /\ mid ms i <= 1000000 /\ okB (mat ms i) = true /\ (mat ms i).length = (mat ms 0).length /\ (i = 0 \/ mid ms (i - 1) < mid ms i) := by
 simp [ZbP, and_assoc]
theorem ZT {ms : List Mk} (h : Zm ms = true) : ms.length <= 60 := by simp [Zm] at h; exact h.1
theorem Zat {ms : List Mk} (h : Zm ms = true) {i : Nat} (hi : i < ms.length) : ZbP ms i = true := by
 simp only [Zm, Bool.and_eq_true, List.all_eq_true] at h
 exact h.2 i (List.mem_range.2 hi)
theorem Zeu {ms : List Mk} (h : 60 < ms.length) : Zm ms = false := by simp [Zm]; omega
theorem Zby {ms : List Mk} {i : Nat} (hi : i < ms.length) (h : ZbP ms i = false) : Zm ms = false := by
 rcases hb : Zm ms with _ | _
 · rfl
 · rw [Zat hb hi] at h; cases h
theorem Zf1 {ms : List Mk} (hl : ms.length <= 60) (h : ∀ i, i < ms.length -> ZbP ms i = true) : Zm ms = true := by
 simp only [Zm, Bool.and_eq_true, List.all_eq_true, decide_eq_true_eq]
 exact ⟨hl, fun i hi => h i (List.mem_range.1 hi)⟩
theorem Zc2 (ms : List Mk) (i : Nat) (h : ¬ (1 <= mid ms i /\ mid ms i <= 1000000 /\ okB (mat ms i) = true /\ (mat ms i).length = (mat ms 0).length /\ (i = 0 \/ mid ms (i - 1) < mid ms i))) : ZbP ms i = false := by
 rcases hb : ZbP ms i with _ | _
 · rfl
 · exact absurd ((ZZ ms i).1 hb) h
def Zm4 (n d : Int) : Int := if n < 0 \/ d < n then d else n
def zNear (D : Nat -> Nat -> Int) (i : Nat) (C : List Nat) : Int := C.foldl (fun n c => Zm4 n (D i c)) (-1)
def zRad (D : Nat -> Nat -> Int) (n : Nat) (C : List Nat) : Int := Zax (fun i => zNear D i C) n
def zD (ms : List Mk) (kd : Int) (i j : Nat) : Int := max 0 (betV (mat ms i) (mat ms j) kd)
def Z2 (ms : List Mk) (id : Int) : Nat -> Int
 | 0 => -1
 | m + 1 => if 0 <= Z2 ms id m then Z2 ms id m else if mid ms m = id then (m : Int) else -1
def Zk (ms : List Mk) (id : Int) : Int := Z2 ms id ms.length
def Zn (ms : List Mk) (id : Int) : Nat := (Zk ms id).toNat
theorem ZiK (ms : List Mk) (id : Int) (m : Nat) : -1 <= Z2 ms id m /\ Z2 ms id m < m /\ (0 <= Z2 ms id m -> mid ms (Z2 ms id m).toNat = id) := by
 induction m with
 | zero => simp [Z2]
 | succ m ih =>
   simp only [Z2]
   split
   · exact ⟨ih.1, by omega, ih.2.2⟩
   · split
     · rename_i h
       exact ⟨by omega, by omega, fun _ => by simpa using h⟩
     · exact ⟨by omega, by omega, fun h => by omega⟩
theorem Zfl {ms : List Mk} {id : Int} {m : Nat} (h : Z2 ms id m < 0) : ∀ j, j < m -> mid ms j ≠ id := by
 induction m with
 | zero => intro j hj; omega
 | succ m ih =>
   simp only [Z2] at h
   intro j hj
   by_cases h0 : 0 <= Z2 ms id m
   · rw [if_pos h0] at h; omega
   · rw [if_neg h0] at h
     rcases Nat.lt_or_ge j m with h1 | h1
     · exact ih (by omega) j h1
     · rw [show j = m by omega]
       intro e
       rw [if_pos e] at h
       omega
theorem Zx {ms : List Mk} {id : Int} (h : 0 <= Zk ms id) : Zn ms id < ms.length /\ ((Zn ms id : Nat) : Int) = Zk ms id /\ mid ms (Zn ms id) = id := by
 have := ZiK ms id ms.length
 unfold Zn Zk at *
 exact ⟨by omega, by omega, this.2.2 h⟩
theorem Zbu {ms : List Mk} (h : Zm ms = true) {i j : Nat} (hij : i < j) (hj : j < ms.length) : mid ms i < mid ms j := by
 induction j with
 | zero => omega
 | succ j ih =>
   have h1 := ((ZZ ms (j + 1)).1 (Zat h hj)).2.2.2.2
   simp at h1
   rcases Nat.lt_or_ge i j with h2 | h2
   · have := ih h2 (by omega); omega
   · rw [show i = j by omega]; exact h1
theorem Ze0 {ms : List Mk} (h : Zm ms = true) {i j : Nat} (hi : i < ms.length) (hj : j < ms.length) (e : mid ms i = mid ms j) : i = j := by
 rcases Nat.lt_trichotomy i j with h1 | h1 | h1
 · have := Zbu h h1 hj; omega
 · exact h1
 · have := Zbu h h1 hi; omega
theorem ZaO {ms : List Mk} (h : Zm ms = true) {i : Nat} (hi : i < ms.length) : Zk ms (mid ms i) = i /\ Zn ms (mid ms i) = i := by
 have hp : 0 <= Zk ms (mid ms i) := by
  rcases Int.lt_or_le (Zk ms (mid ms i)) 0 with h1 | h1
  · exact absurd rfl (Zfl h1 i hi)
  · exact h1
 obtain ⟨a, b, c⟩ := Zx hp
 have e := Ze0 h a hi c
 exact ⟨by omega, e⟩
def zNearI (ms : List Mk) (kd : Int) (p : List Int) (ids : List Int) : Int := ids.foldl (fun n id => Zm4 n (betV p (mat ms (Zn ms id)) kd)) (-1)
def radB (ms : List Mk) (ids : List Int) (kd : Int) : Bool := Zm ms && decide (ids.length ≠ 0) && Zm2 kd && ids.all (fun id => decide (0 <= Zk ms id))
def radI (ms : List Mk) (ids : List Int) (kd : Int) : Int := if radB ms ids kd = true then zRad (zD ms kd) ms.length (ids.map (Zn ms)) else -1
abbrev Ht := Int × Int
def Zu (a b : Ht) : Bool := decide (a.2 < b.2) || (decide (a.2 = b.2) && decide (a.1 < b.1))
def leH (a b : Ht) : Prop := a.2 < b.2 \/ (a.2 = b.2 /\ a.1 <= b.1)
def Zf (hs : List Ht) (i : Nat) : Ht := hs.getD i (0, 0)
def ZaM : List Ht -> Ht -> List Ht
 | [], h => [h]
 | x :: xs, h => if Zu h x = true then h :: x :: xs else x :: ZaM xs h
def ZQ (l : List Ht) : List Ht := l.foldl ZaM []
def ZaR (l : List Ht) : Prop := l.Pairwise leH
theorem Zae (a b : Ht) : Zu a b = true ↔ a.2 < b.2 \/ (a.2 = b.2 /\ a.1 < b.1) := by simp [Zu]
theorem ZF (a b : Ht) : Zu a b = false ↔ leH b a := by
 unfold leH
 rcases h : Zu a b with _ | _
 · have : ¬ (a.2 < b.2 \/ (a.2 = b.2 /\ a.1 < b.1)) := fun hh => by rw [(Zae a b).2 hh] at h; cases h
   constructor
   · intro _; omega
   · intro _; rfl
 · have := (Zae a b).1 h
   constructor
   · intro hh; cases hh
   · intro hh; omega
theorem ZaD (a : Ht) : leH a a := by unfold leH; omega
theorem Za0 {a b c : Ht} (h : leH a b) (k : leH b c) : leH a c := by unfold leH at *; omega
theorem ZcH {a b : Ht} (h : leH a b) (k : leH b a) : a = b := by
 unfold leH at *
 exact Prod.ext (by omega) (by omega)
theorem Za1 {a b : Ht} (h : Zu a b = true) : leH a b := by rw [Zae] at h; unfold leH; omega
theorem Zb0 (l : List Ht) (h : Ht) : (ZaM l h).Perm (h :: l) := by
 induction l with
 | nil => exact List.Perm.refl _
 | cons x xs ih =>
   unfold ZaM
   split
   · exact List.Perm.refl _
   · exact (List.Perm.cons x ih).trans (List.Perm.swap h x xs)
theorem Zc3 (l : List Ht) (h : Ht) : (ZaM l h).length = l.length + 1 := by rw [(Zb0 l h).length_eq]; rfl
theorem Zew {l : List Ht} (hl : ZaR l) (h : Ht) : ZaR (ZaM l h) := by
 unfold ZaR at *
 induction l with
 | nil => simp [ZaM]
 | cons x xs ih =>
   rw [List.pairwise_cons] at hl
   unfold ZaM
   split
   · rename_i ha
     have hx := Za1 ha
     exact List.pairwise_cons.2 ⟨fun y hy => by
      rcases List.mem_cons.1 hy with rfl | hy
      · exact hx
      · exact Za0 hx (hl.1 y hy), List.pairwise_cons.2 hl⟩
   · rename_i ha
     have hx : leH x h := (ZF h x).1 (by simpa using ha)
     refine List.pairwise_cons.2 ⟨fun y hy => ?_, ih hl.2⟩
     rcases List.mem_cons.1 ((Zb0 xs h).mem_iff.1 hy) with rfl | hy
     · exact hx
     · exact hl.1 y hy
theorem Zko (l acc : List Ht) : (l.foldl ZaM acc).Perm (acc ++ l) := by
 induction l generalizing acc with
 | nil => simp
 | cons x xs ih =>
   refine (ih (ZaM acc x)).trans ?_
   refine ((Zb0 acc x).append_right xs).trans ?_
   exact (List.perm_middle (a := x) (l₁ := acc) (l₂ := xs)).symm
theorem ZhA (l acc : List Ht) (h : ZaR acc) : ZaR (l.foldl ZaM acc) := by
 induction l generalizing acc with
 | nil => exact h
 | cons x xs ih => exact ih _ (Zew h x)
theorem ZU (l : List Ht) : (ZQ l).Perm l := by simpa [ZQ] using Zko l []
theorem ZaK (l : List Ht) : ZaR (ZQ l) := ZhA l [] List.Pairwise.nil
theorem ZcI (l : List Ht) : (ZQ l).length = l.length := (ZU l).length_eq
theorem Zfm (l : List Ht) (h : Ht) : ZQ (l ++ [h]) = ZaM (ZQ l) h := by simp [ZQ, List.foldl_append]
theorem Zdu {l m : List Ht} (hl : ZaR l) (hm : ZaR m) (hp : l.Perm m) : l = m := by
 unfold ZaR at *
 induction l generalizing m with
 | nil => exact (List.nil_perm.1 hp).symm
 | cons x xs ih =>
   cases m with
   | nil => exact absurd hp.length_eq (by simp)
   | cons y ys =>
     rw [List.pairwise_cons] at hl hm
     have hxy : leH x y := by
      rcases List.mem_cons.1 (hp.mem_iff.2 (List.mem_cons_self ..) : y ∈ x :: xs) with h | h
      · rw [h]; exact ZaD x
      · exact hl.1 y h
     have hyx : leH y x := by
      rcases List.mem_cons.1 (hp.mem_iff.1 (List.mem_cons_self ..) : x ∈ y :: ys) with h | h
      · rw [h]; exact ZaD y
      · exact hm.1 x h
     obtain rfl := ZcH hxy hyx
     rw [ih hl.2 hm.2 (List.Perm.cons_inv hp)]
theorem Zgx {l m : List Ht} (hm : ZaR m) (hp : m.Perm l) : m = ZQ l := Zdu hm (ZaK l) (hp.trans (ZU l).symm)
theorem Zhn {l m : List Ht} (hp : l.Perm m) : ZQ l = ZQ m := Zdu (ZaK l) (ZaK m) ((ZU l).trans (hp.trans (ZU m).symm))
def ZY (ids : List Int) (x : Int) : Bool := ids.contains x
def Zcs (ids : List Int) : List Ht -> List Ht
 | [] => []
 | x :: xs => if ZY ids x.1 = true then Zcs ids xs else x :: Zcs (ids ++ [x.1]) xs
def Zhm (l : List Ht) : List Ht := Zcs [] l
def ZbC (hs : List Ht) (i : Nat) : Bool := decide (1 <= (Zf hs i).1) && decide (0 <= (Zf hs i).2) && (decide (i = 0) || Zu (Zf hs (i - 1)) (Zf hs i))
def Zdo (hs : List Ht) : Bool := (List.range hs.length).all (ZbC hs)
theorem ZlD {hs : List Ht} (h : Zdo hs = true) {i : Nat} (hi : i < hs.length) : ZbC hs i = true := by
 simp only [Zdo, List.all_eq_true] at h
 exact h i (List.mem_range.2 hi)
theorem Zef {hs : List Ht} {i : Nat} (hi : i < hs.length) (h : ZbC hs i = false) : Zdo hs = false := by
 rcases hb : Zdo hs with _ | _
 · rfl
 · rw [ZlD hb hi] at h; cases h
theorem Zhr {hs : List Ht} (h : ∀ i, i < hs.length -> ZbC hs i = true) : Zdo hs = true := by
 simp only [Zdo, List.all_eq_true]
 exact fun i hi => h i (List.mem_range.1 hi)
def ZJ (ms : List Mk) (q : List Int) : Bool := Zm ms && okB q && (decide (ms.length = 0) || decide ((mat ms 0).length = q.length))
def ZfD (q : List Int) (m : Mk) : Ht := (m.1, ZN m.2 q)
def ZM (ms : List Mk) (q : List Int) : List Ht := ms.map (ZfD q)
def ZE (k : Int) : Bool := decide (1 <= k) && decide (k <= 60)
def ZW (ms : List Mk) (q : List Int) (k : Int) : List Ht := if ZJ ms q = true /\ ZE k = true then (ZQ (ZM ms q)).take k.toNat else []
theorem Zf0 {ms : List Mk} {q : List Int} (h : Zm ms = false) : ZJ ms q = false := by simp [ZJ, h]
theorem Zht {ms : List Mk} {q : List Int} (h : okB q = false) : ZJ ms q = false := by simp [ZJ, h]
def cn (cs : List (List Int)) (i : Nat) : List Int := cs.getD i []
theorem cn_at {cs : List (List Int)} {i : Nat} (h : i < cs.length) : cn cs i = cs[i] := by simp [cn, List.getD, h]
theorem ZjQ (a b : List Int) : ZN a b = ZN b a := by
 unfold ZN
 by_cases h : Zbf a b = true
 · obtain ⟨ha, hb, hl⟩ := ZbR h
   rw [if_pos h, if_pos (ZbU hb ha hl.symm), hl]
   refine Zcd _ _ _ (fun i _ => ?_)
   simp only [sqF]
   rw [show nth b i - nth a i = -(nth a i - nth b i) by omega, Int.neg_mul_neg]
 · have h' : ¬ Zbf b a = true := fun h2 => by
    obtain ⟨ha, hb, hl⟩ := ZbR h2
    exact h (ZbU hb ha hl.symm)
   rw [if_neg h, if_neg h']
def Zc4 (l : List Int) : Nat -> Bool
 | 0 => true
 | k + 1 => Zc4 l k && decide (nth l k < nth l (k + 1))
def Za4 (l : List Int) : Bool := Zc4 l (l.length - 1)
theorem ZgC (l : List Int) (n : Nat) : Zc4 l n = true ↔ ∀ j, j < n -> nth l j < nth l (j + 1) := by
 induction n with
 | zero => simp [Zc4]
 | succ n ih =>
   simp only [Zc4, Bool.and_eq_true, decide_eq_true_eq, ih]
   constructor
   · rintro ⟨h1, h2⟩ j hj
     rcases Nat.lt_or_ge j n with h | h
     · exact h1 j h
     · obtain rfl : j = n := by omega
       exact h2
   · exact fun h => ⟨fun j hj => h j (by omega), h n (by omega)⟩
theorem Zbb (l : List Int) : Za4 l = true ↔ ∀ j, j + 1 < l.length -> nth l j < nth l (j + 1) := by
 unfold Za4
 rw [ZgC]
 exact ⟨fun h j hj => h j (by omega), fun h j hj => h j (by omega)⟩
theorem Zkf {l : List Int} {j : Nat} (hj : j + 1 < l.length) (h : nth l (j + 1) <= nth l j) : Za4 l = false := by
 rcases e : Za4 l with _ | _
 · rfl
 · have := (Zbb l).1 e j hj; omega
theorem Zkp {l : List Int} (h : Za4 l = true) {i j : Nat} (hij : i < j) (hj : j < l.length) : nth l i < nth l j := by
 have h' := (Zbb l).1 h
 induction j with
 | zero => omega
 | succ j ih =>
   have h1 := h' j hj
   rcases Nat.lt_or_ge i j with h2 | h2
   · have := ih h2 (by omega); omega
   · obtain rfl : i = j := by omega
     exact h1
theorem ZI (l : List Int) (x : Int) : ZY l x = true ↔ x ∈ l := by simp [ZY]
theorem Zbj (l : List Int) (x : Int) : ZY l x = false ↔ x ∉ l := by
 rw [<- ZI]; simp
theorem Za5 {l : List Int} {k : Nat} (h : k < l.length) : ZY l (nth l k) = true := by
 rw [ZI]
 simp [nth, List.getD, h]
theorem Zde {l : List Int} {x : Int} (h : x ∈ l) : ∃ k, k < l.length /\ nth l k = x := by
 obtain ⟨k, hk, e⟩ := List.mem_iff_getElem.1 h
 exact ⟨k, hk, by simp [nth, List.getD, hk, e]⟩
def Zb4 (ms : List Mk) (ls : List (List Int)) (i : Nat) (x : Int) : Bool :=
 decide (0 <= Zk ms x) && decide (Zk ms x ≠ (i : Int)) && ZY (cn ls (Zn ms x)) (mid ms i)
def ZbN (ms : List Mk) (ls : List (List Int)) (i : Nat) : Bool := Za4 (cn ls i) && (cn ls i).all (Zb4 ms ls i)
def ZR (ms : List Mk) (ls : List (List Int)) : Bool := Zm ms && decide (ls.length = ms.length) && (List.range ls.length).all (ZbN ms ls)
theorem ZbV (ms : List Mk) (ls : List (List Int)) (i : Nat) (x : Int) : Zb4 ms ls i x = true ↔ 0 <= Zk ms x /\ Zk ms x ≠ (i : Int) /\ ZY (cn ls (Zn ms x)) (mid ms i) = true := by
 simp [Zb4, and_assoc]
theorem ZbW (ms : List Mk) (ls : List (List Int)) (i : Nat) : ZbN ms ls i = true ↔ Za4 (cn ls i) = true /\ ∀ k, k < (cn ls i).length -> Zb4 ms ls i (nth (cn ls i) k) = true := by
 simp only [ZbN, Bool.and_eq_true, List.all_eq_true]
 constructor
 · rintro ⟨h1, h2⟩
   exact ⟨h1, fun k hk => h2 _ ((ZI _ _).1 (Za5 hk))⟩
 · rintro ⟨h1, h2⟩
   refine ⟨h1, fun x hx => ?_⟩
   obtain ⟨k, hk, rfl⟩ := Zde hx
   exact h2 k hk
theorem ZbG (ms : List Mk) (ls : List (List Int)) : ZR ms ls = true ↔ Zm ms = true /\ ls.length = ms.length /\ ∀ i, i < ls.length -> ZbN ms ls i = true := by
 simp [ZR, and_assoc]
theorem ZdQ {ms : List Mk} {ls : List (List Int)} {i : Nat} (hi : i < ls.length) (h : ZbN ms ls i = false) : ZR ms ls = false := by
 rcases e : ZR ms ls with _ | _
 · rfl
 · have := ((ZbG ms ls).1 e).2.2 i hi
   rw [this] at h; cases h
theorem ZdA {ms : List Mk} {ls : List (List Int)} {i k : Nat} (hk : k < (cn ls i).length) (h : Zb4 ms ls i (nth (cn ls i) k) = false) : ZbN ms ls i = false := by
 rcases e : ZbN ms ls i with _ | _
 · rfl
 · have := ((ZbW ms ls i).1 e).2 k hk
   rw [this] at h; cases h
theorem Zh9 {ms : List Mk} {ls : List (List Int)} {i : Nat} (h : Za4 (cn ls i) = false) : ZbN ms ls i = false := by simp [ZbN, h]
theorem Zz {ms : List Mk} {ls : List (List Int)} (h : ZR ms ls = true) : Zm ms = true := ((ZbG ms ls).1 h).1
theorem Zaq {ms : List Mk} {ls : List (List Int)} (h : ZR ms ls = true) : ls.length = ms.length := ((ZbG ms ls).1 h).2.1
theorem ZaB {ms : List Mk} {ls : List (List Int)} (h : ZR ms ls = true) {i : Nat} (hi : i < ms.length) {x : Int} (hx : x ∈ cn ls i) : 0 <= Zk ms x /\ Zn ms x < ms.length /\ mid ms (Zn ms x) = x /\ Zn ms x ≠ i /\ mid ms i ∈ cn ls (Zn ms x) := by
 obtain ⟨k, hk, rfl⟩ := Zde hx
 have hl := Zaq h
 have h1 := (ZbV _ _ _ _).1 (((ZbW _ _ _).1 (((ZbG ms ls).1 h).2.2 i (by omega))).2 k hk)
 obtain ⟨a, b, c⟩ := Zx h1.1
 exact ⟨h1.1, a, c, fun e => h1.2.1 (by omega), (ZI _ _).1 h1.2.2⟩
theorem ZhB {ms : List Mk} {ls : List (List Int)} (h : ZR ms ls = true) {i : Nat} (hi : i < ms.length) : Za4 (cn ls i) = true :=
 ((ZbW _ _ _).1 (((ZbG ms ls).1 h).2.2 i (by have := Zaq h; omega))).1
theorem Zfn {l : List Int} (h : Za4 l = true) : l.Pairwise (fun a b => a < b) := by
 rw [List.pairwise_iff_getElem]
 intro i j hi' hj' hij
 have := Zkp h hij hj'
 simpa [nth, List.getD, hi', hj'] using this
theorem Zkq {n : Nat} (l : List Int) (f : Int -> Nat) (hd : l.Nodup) (hf : ∀ x ∈ l, f x < n) (hi : ∀ x ∈ l, ∀ y ∈ l, f x = f y -> x = y) : l.length <= n := by
 have hnd : (l.map f).Nodup := by
  rw [List.Nodup, List.pairwise_map]
  exact List.Pairwise.imp_of_mem (fun {a b} ha hb hab e => hab (hi a ha b hb e)) hd
 have h2 := hnd.length_le_of_subset (l₂ := List.range n) (fun y hy => by
  obtain ⟨x, hx, rfl⟩ := List.mem_map.1 hy
  exact List.mem_range.2 (hf x hx))
 simpa using h2
theorem Zbd {ms : List Mk} {l : List Int} (hd : l.Nodup) (hf : ∀ x ∈ l, 0 <= Zk ms x) : l.length <= ms.length :=
 Zkq l (Zn ms) hd (fun x hx => (Zx (hf x hx)).1) (fun x hx y hy e => by
  have a := (Zx (hf x hx)).2.2
  have b := (Zx (hf y hy)).2.2
  rw [e] at a; omega)
theorem Zce {ms : List Mk} {ls : List (List Int)} (h : ZR ms ls = true) {i : Nat} (hi : i < ms.length) : (cn ls i).length <= ms.length :=
 Zbd (List.Pairwise.imp (fun {a b} hab e => by omega) (Zfn (ZhB h hi))) (fun x hx => (ZaB h hi hx).1)
def Zl (ms : List Mk) (q : List Int) (x : Int) : Ht := (x, ZN (mat ms (Zn ms x)) q)
def Z3 (ms : List Mk) (q : List Int) (l : List Int) (b : Ht) : Nat -> Ht
 | 0 => b
 | k + 1 => if Zu (Zl ms q (nth l k)) (Z3 ms q l b k) = true then Zl ms q (nth l k) else Z3 ms q l b k
theorem Zkr (ms : List Mk) (q : List Int) (l : List Int) (b : Ht) (n : Nat) : (Z3 ms q l b n = b \/ ∃ k, k < n /\ Z3 ms q l b n = Zl ms q (nth l k) /\ Zu (Z3 ms q l b n) b = true) /\ leH (Z3 ms q l b n) b /\ ∀ k, k < n -> leH (Z3 ms q l b n) (Zl ms q (nth l k)) := by
 induction n with
 | zero => exact ⟨Or.inl rfl, ZaD _, fun k hk => by omega⟩
 | succ n ih =>
   obtain ⟨h1, h2, h3⟩ := ih
   simp only [Z3]
   by_cases ha : Zu (Zl ms q (nth l n)) (Z3 ms q l b n) = true
   · rw [if_pos ha]
     have hle := Za1 ha
     refine ⟨Or.inr ⟨n, by omega, rfl, ?_⟩, Za0 hle h2, fun k hk => ?_⟩
     · rw [Zae] at ha ⊢
       unfold leH at h2
       omega
     · rcases Nat.lt_or_ge k n with h | h
       · exact Za0 hle (h3 k h)
       · obtain rfl : k = n := by omega
         exact ZaD _
   · rw [if_neg ha]
     refine ⟨?_, h2, fun k hk => ?_⟩
     · rcases h1 with h | ⟨k, hk, e, e'⟩
       · exact Or.inl h
       · exact Or.inr ⟨k, by omega, e, e'⟩
     · rcases Nat.lt_or_ge k n with h | h
       · exact h3 k h
       · obtain rfl : k = n := by omega
         exact (ZF _ _).1 (by simpa using ha)
def ZdR (ms : List Mk) (ls : List (List Int)) (q : List Int) (x : Int) : Ht := Z3 ms q (cn ls (Zn ms x)) (Zl ms q x) (cn ls (Zn ms x)).length
def ZS (ms : List Mk) (ls : List (List Int)) (q : List Int) (x : Int) : Int := (ZdR ms ls q x).1
theorem Zcl (ms : List Mk) (ls : List (List Int)) (q : List Int) (x : Int) : (ZS ms ls q x = x \/ (ZS ms ls q x ∈ cn ls (Zn ms x) /\ Zu (Zl ms q (ZS ms ls q x)) (Zl ms q x) = true)) /\ ZdR ms ls q x = Zl ms q (ZS ms ls q x) /\ ∀ y ∈ cn ls (Zn ms x), leH (Zl ms q (ZS ms ls q x)) (Zl ms q y) := by
 obtain ⟨h1, h2, h3⟩ := Zkr ms q (cn ls (Zn ms x)) (Zl ms q x) (cn ls (Zn ms x)).length
 have he : ZdR ms ls q x = Zl ms q (ZS ms ls q x) := by
  unfold ZS ZdR
  rcases h1 with h | ⟨k, hk, e, -⟩
  · rw [h]; rfl
  · rw [e]; rfl
 refine ⟨?_, he, fun y hy => ?_⟩
 · rcases h1 with h | ⟨k, hk, e, ha⟩
   · left; unfold ZS ZdR; rw [h]; rfl
   · right
     have e' : ZS ms ls q x = nth (cn ls (Zn ms x)) k := by unfold ZS ZdR; rw [e]; rfl
     constructor
     · rw [e']; exact (ZI _ _).1 (Za5 hk)
     · rw [<- he]; exact ha
 · obtain ⟨k, hk, rfl⟩ := Zde hy
   rw [<- he]
   exact h3 k hk
def rkW (ms : List Mk) (q : List Int) (x : Int) : Nat := ((List.range ms.length).filter (fun i => Zu (Zl ms q (mid ms i)) (Zl ms q x))).length
theorem Zks {P Q : Nat -> Bool} (L : List Nat) (h : ∀ i, P i = true -> Q i = true) {a : Nat} (ha : a ∈ L) (hq : Q a = true) (hp : P a = false) : (L.filter P).length < (L.filter Q).length := by
 induction L with
 | nil => cases ha
 | cons b L ih =>
   have hle : (L.filter P).length <= (L.filter Q).length := by
    rw [<- List.countP_eq_length_filter, <- List.countP_eq_length_filter]
    exact List.countP_mono_left (fun x _ => h x)
   rcases List.mem_cons.1 ha with e | e
   · subst e
     simp [hq, hp]; omega
   · have := ih e
     rcases hb : P b with _ | _
     · rcases hb' : Q b with _ | _ <;> simp [hb, hb'] <;> omega
     · have := h b hb
       simp [hb, this]; omega
theorem ZgD {a b c : Ht} (h : Zu a b = true) (k : Zu b c = true) : Zu a c = true := by
 rw [Zae] at *; omega
theorem Zfo (a : Ht) : Zu a a = false := by
 rw [ZF]; exact ZaD a
theorem ZnB {ms : List Mk} (q : List Int) {x y : Int} (hy : 0 <= Zk ms y) (h : Zu (Zl ms q y) (Zl ms q x) = true) : rkW ms q y < rkW ms q x := by
 obtain ⟨a, b, c⟩ := Zx hy
 refine Zks _ (fun i hi => ZgD hi h) (List.mem_range.2 a) ?_ ?_
 · rw [c]; exact h
 · rw [c]; exact Zfo _
theorem ZnC (ms : List Mk) (q : List Int) (x : Int) : rkW ms q x <= ms.length := by
 have := List.length_filter_le (fun i => Zu (Zl ms q (mid ms i)) (Zl ms q x)) (List.range ms.length)
 simpa [rkW] using this
def ZbO (ms : List Mk) (ls : List (List Int)) (q : List Int) : Nat -> Int -> List Int
 | 0, x => [x]
 | f + 1, x => if ZS ms ls q x = x then [x] else x :: ZbO ms ls q f (ZS ms ls q x)
def Zac (ms : List Mk) (ls : List (List Int)) (q : List Int) (x : Int) : List Int := ZbO ms ls q (rkW ms q x) x
theorem ZbX {ms : List Mk} {ls : List (List Int)} {q : List Int} (h : ZR ms ls = true) {x : Int} (hx : 0 <= Zk ms x) : 0 <= Zk ms (ZS ms ls q x) := by
 rcases (Zcl ms ls q x).1 with e | ⟨e, -⟩
 · rw [e]; exact hx
 · exact (ZaB h (Zx hx).1 e).1
theorem Zcz {ms : List Mk} {ls : List (List Int)} {q : List Int} (h : ZR ms ls = true) {x : Int} (hx : 0 <= Zk ms x) (hne : ZS ms ls q x ≠ x) : rkW ms q (ZS ms ls q x) < rkW ms q x := by
 rcases (Zcl ms ls q x).1 with e | ⟨-, e⟩
 · exact absurd e hne
 · exact ZnB q (ZbX h hx) e
theorem ZiL {ms : List Mk} {ls : List (List Int)} {q : List Int} (h : ZR ms ls = true) : ∀ (f g : Nat) (x : Int), 0 <= Zk ms x -> rkW ms q x <= f -> rkW ms q x <= g -> ZbO ms ls q f x = ZbO ms ls q g x := by
 intro f
 induction f with
 | zero =>
   intro g x hx hf hg
   have hs : ZS ms ls q x = x := by
    rcases Int.lt_trichotomy (ZS ms ls q x) x with e | e | e
    · have := Zcz (q := q) h hx (by omega); omega
    · exact e
    · have := Zcz (q := q) h hx (by omega); omega
   cases g with
   | zero => rfl
   | succ g => simp [ZbO, hs]
 | succ f ih =>
   intro g x hx hf hg
   by_cases hs : ZS ms ls q x = x
   · cases g with
     | zero => simp [ZbO, hs]
     | succ g => simp [ZbO, hs]
   · have hr := Zcz (q := q) h hx hs
     cases g with
     | zero => omega
     | succ g =>
       simp only [ZbO, if_neg hs]
       rw [ih g _ (ZbX h hx) (by omega) (by omega)]
theorem Zdd {ms : List Mk} {ls : List (List Int)} {q : List Int} {x : Int} (hs : ZS ms ls q x = x) : Zac ms ls q x = [x] := by
 unfold Zac
 cases rkW ms q x with
 | zero => rfl
 | succ n => simp [ZbO, hs]
theorem ZdC {ms : List Mk} {ls : List (List Int)} {q : List Int} (h : ZR ms ls = true) {x : Int} (hx : 0 <= Zk ms x) (hs : ZS ms ls q x ≠ x) : Zac ms ls q x = x :: Zac ms ls q (ZS ms ls q x) := by
 have hr := Zcz (q := q) h hx hs
 unfold Zac
 obtain ⟨n, hn⟩ : ∃ n, rkW ms q x = n + 1 := ⟨rkW ms q x - 1, by omega⟩
 rw [hn]
 simp only [ZbO, if_neg hs]
 rw [ZiL h n _ _ (ZbX h hx) (by omega) (Nat.le_refl _)]
theorem ZhC {ms : List Mk} {ls : List (List Int)} {q : List Int} (f : Nat) (x : Int) : (ZbO ms ls q f x).length <= f + 1 := by
 induction f generalizing x with
 | zero => simp [ZbO]
 | succ f ih =>
   simp only [ZbO]
   split
   · simp
   · have := ih (ZS ms ls q x); simp; omega
theorem ZcT {ms : List Mk} {ls : List (List Int)} {q : List Int} (x : Int) : (Zac ms ls q x).length <= ms.length + 1 := by
 have h1 := ZhC (ms := ms) (ls := ls) (q := q) (rkW ms q x) x
 have h2 := ZnC ms q x
 unfold Zac; omega
def ZaX (ms : List Mk) (ls : List (List Int)) (fr : Int) (q : List Int) : Bool := ZR ms ls && ZJ ms q && decide (0 <= Zk ms fr)
def ZaH (ms : List Mk) (ls : List (List Int)) (fr : Int) (q : List Int) : List Int := if ZaX ms ls fr q = true then Zac ms ls q fr else []
theorem ZbZ (ms : List Mk) (ls : List (List Int)) (fr : Int) (q : List Int) : ZaX ms ls fr q = true ↔ ZR ms ls = true /\ ZJ ms q = true /\ 0 <= Zk ms fr := by simp [ZaX, and_assoc]
theorem Zbr {ms : List Mk} {ls : List (List Int)} (h : ZR ms ls = true) : ms.length <= 60 /\ (∀ i, (mat ms i).length <= 4) /\ ls.length <= 60 /\ ∀ i, (cn ls i).length <= 60 := by
 have hm := Zz h
 have h60 := ZT hm
 have hl := Zaq h
 refine ⟨h60, fun i => ?_, by omega, fun i => ?_⟩
 · rcases Nat.lt_or_ge i ms.length with hi | hi
   · have := ((ZZ ms i).1 (Zat hm hi)).2.2.1
     exact (Zbz this).2
   · have : mat ms i = [] := by simp [mat, List.getD, hi]
     rw [this]; simp
 · rcases Nat.lt_or_ge i ms.length with hi | hi
   · have := Zce h hi; omega
   · have : cn ls i = [] := by simp [cn, List.getD, show ls.length <= i by omega]
     rw [this]; simp
def ZA (s : List Ht) (op : List Int) : Nat -> Int
 | 0 => -1
 | k + 1 => if 0 <= ZA s op k then ZA s op k else if ZY op (Zf s k).1 = true then -1 else (k : Int)
theorem ZdN (s : List Ht) (op : List Int) (n : Nat) : -1 <= ZA s op n /\ ZA s op n < n /\ (0 <= ZA s op n -> ZY op (Zf s (ZA s op n).toNat).1 = false) /\ (ZA s op n < 0 -> ∀ k, k < n -> ZY op (Zf s k).1 = true) := by
 induction n with
 | zero => simp [ZA]
 | succ n ih =>
   obtain ⟨h1, h2, h3, h4⟩ := ih
   simp only [ZA]
   by_cases h : 0 <= ZA s op n
   · rw [if_pos h]
     exact ⟨h1, by omega, h3, fun h' => by omega⟩
   · rw [if_neg h]
     rcases hb : ZY op (Zf s n).1 with _ | _
     · simp only [Bool.false_eq_true, if_false]
       exact ⟨by omega, by omega, fun _ => by simpa using hb, fun h' => by omega⟩
     · simp only [if_true]
       refine ⟨by omega, by omega, fun h' => by omega, fun _ k hk => ?_⟩
       rcases Nat.lt_or_ge k n with e | e
       · exact h4 (by omega) k e
       · obtain rfl : k = n := by omega
         exact hb
theorem ZeT {s : List Ht} {op : List Int} {n m : Nat} (h : 0 <= ZA s op n) (hm : n <= m) : ZA s op m = ZA s op n := by
 induction m with
 | zero => rw [show n = 0 by omega]
 | succ m ih =>
   rcases Nat.lt_or_ge m n with e | e
   · rw [show n = m + 1 by omega]
   · have := ih e
     simp only [ZA]
     rw [if_pos (by omega), this]
def ZaT (ms : List Mk) (q : List Int) (l : List Int) (s : List Ht) (ids : List Int) : Nat -> List Ht × List Int
 | 0 => (s, ids)
 | k + 1 => if ZY (ZaT ms q l s ids k).2 (nth l k) = true then ZaT ms q l s ids k else (ZaM (ZaT ms q l s ids k).1 (Zl ms q (nth l k)), (ZaT ms q l s ids k).2 ++ [nth l k])
def Zjn (ms : List Mk) (ls : List (List Int)) (q : List Int) (wd : Nat) : Nat -> List Ht -> List Int -> List Int -> List Ht
 | 0, s, _, _ => s.take wd
 | f + 1, s, ids, op =>
   if ZA s op (min s.length wd) < 0 then s.take wd
   else Zjn ms ls q wd f (ZaT ms q (cn ls (Zn ms (Zf s (ZA s op (min s.length wd)).toNat).1)) s ids (cn ls (Zn ms (Zf s (ZA s op (min s.length wd)).toNat).1)).length).1
    (ZaT ms q (cn ls (Zn ms (Zf s (ZA s op (min s.length wd)).toNat).1)) s ids (cn ls (Zn ms (Zf s (ZA s op (min s.length wd)).toNat).1)).length).2
    (op ++ [(Zf s (ZA s op (min s.length wd)).toNat).1])
def ZaS (ms : List Mk) (ls : List (List Int)) (q : List Int) (wd : Nat) (s : List Ht) (ids op : List Int) : List Ht := Zjn ms ls q wd (ms.length - op.length) s ids op
structure Zan (ms : List Mk) (q : List Int) (s : List Ht) (ids : List Int) : Prop where
 nd : ids.Nodup
 find : ∀ x ∈ ids, 0 <= Zk ms x
 sn : s = ZQ (ids.map (Zl ms q))
structure Zcw (ms : List Mk) (ls : List (List Int)) (ids op : List Int) : Prop where
 nd : op.Nodup
 sub : ∀ x ∈ op, x ∈ ids
 all : ∀ x ∈ op, ∀ y ∈ cn ls (Zn ms x), y ∈ ids
theorem Zan.len {ms : List Mk} {q : List Int} {s : List Ht} {ids : List Int} (h : Zan ms q s ids) : s.length = ids.length := by rw [h.sn, ZcI, List.length_map]
theorem Zan.short {ms : List Mk} {q : List Int} {s : List Ht} {ids : List Int} (h : Zan ms q s ids) : ids.length <= ms.length := Zbd h.nd h.find
theorem Zan.at {ms : List Mk} {q : List Int} {s : List Ht} {ids : List Int} (h : Zan ms q s ids) {k : Nat} (hk : k < s.length) : (Zf s k).1 ∈ ids /\ Zf s k = Zl ms q (Zf s k).1 := by
 have hm : Zf s k ∈ ids.map (Zl ms q) := by
  have h1 : Zf s k ∈ s := by simp [Zf, List.getD, hk]
  rw [h.sn] at h1
  rw [h.sn]
  exact (ZU _).mem_iff.1 h1
 obtain ⟨x, hx, e⟩ := List.mem_map.1 hm
 rw [<- e]
 exact ⟨hx, rfl⟩
theorem Zan.mem {ms : List Mk} {q : List Int} {s : List Ht} {ids : List Int} (h : Zan ms q s ids) {x : Int} (hx : x ∈ ids) : ∃ k, k < s.length /\ Zf s k = Zl ms q x := by
 have h1 : Zl ms q x ∈ s := by
  rw [h.sn]
  exact (ZU _).mem_iff.2 (List.mem_map.2 ⟨x, hx, rfl⟩)
 obtain ⟨k, hk, e⟩ := List.mem_iff_getElem.1 h1
 exact ⟨k, hk, by simp [Zf, List.getD, hk, e]⟩
theorem ZeA {ms : List Mk} {q : List Int} {s : List Ht} {ids l : List Int} (h : Zan ms q s ids) (hl : ∀ x ∈ l, 0 <= Zk ms x) (n : Nat) (hn : n <= l.length) : Zan ms q (ZaT ms q l s ids n).1 (ZaT ms q l s ids n).2 /\ (∀ x ∈ ids, x ∈ (ZaT ms q l s ids n).2) /\ (∀ k, k < n -> nth l k ∈ (ZaT ms q l s ids n).2) /\ ∀ x ∈ (ZaT ms q l s ids n).2, x ∈ ids \/ x ∈ l := by
 induction n with
 | zero => exact ⟨h, fun x hx => hx, fun k hk => by omega, fun x hx => Or.inl hx⟩
 | succ n ih =>
   obtain ⟨h1, h2, h3, h4⟩ := ih (by omega)
   have hmem : nth l n ∈ l := (ZI _ _).1 (Za5 (by omega))
   simp only [ZaT]
   rcases hb : ZY (ZaT ms q l s ids n).2 (nth l n) with _ | _
   · simp only [Bool.false_eq_true, if_false]
     have hno := (Zbj _ _).1 hb
     refine ⟨⟨?_, ?_, ?_⟩, fun x hx => by simp [h2 x hx], fun k hk => ?_, fun x hx => ?_⟩
     · rw [List.nodup_append]
       refine ⟨h1.nd, by simp, fun a ha b hb' e => ?_⟩
       simp at hb'
       exact hno (by rw [<- hb', <- e]; exact ha)
     · intro x hx
       rcases List.mem_append.1 hx with e | e
       · exact h1.find x e
       · simp at e; rw [e]; exact hl _ hmem
     · rw [List.map_append, List.map_cons, List.map_nil, Zfm, <- h1.sn]
     · rcases Nat.lt_or_ge k n with e | e
       · simp [h3 k e]
       · obtain rfl : k = n := by omega
         simp
     · rcases List.mem_append.1 hx with e | e
       · exact h4 x e
       · simp at e; right; rw [e]; exact hmem
   · simp only [if_true]
     refine ⟨h1, h2, fun k hk => ?_, h4⟩
     rcases Nat.lt_or_ge k n with e | e
     · exact h3 k e
     · obtain rfl : k = n := by omega
       exact (ZI _ _).1 hb
theorem Zc9 {ms : List Mk} {ls : List (List Int)} {q : List Int} {wd : Nat} {s : List Ht} {ids op : List Int} (h : ZA s op (min s.length wd) < 0) : ZaS ms ls q wd s ids op = s.take wd := by
 unfold ZaS
 cases ms.length - op.length with
 | zero => rfl
 | succ f => simp only [Zjn, if_pos h]
theorem Zbs {ms : List Mk} {ls : List (List Int)} {q : List Int} {wd : Nat} {s : List Ht} {ids op : List Int} (hb : Zan ms q s ids) (ho : Zcw ms ls ids op) (h : 0 <= ZA s op (min s.length wd)) :
 (ZA s op (min s.length wd)).toNat < s.length /\ (Zf s (ZA s op (min s.length wd)).toNat).1 ∈ ids /\ (Zf s (ZA s op (min s.length wd)).toNat).1 ∉ op /\ op.length < ms.length := by
 obtain ⟨h1, h2, h3, -⟩ := ZdN s op (min s.length wd)
 have hlt : (ZA s op (min s.length wd)).toNat < s.length := by omega
 have hno := (Zbj _ _).1 (h3 h)
 have hin := (hb.at hlt).1
 refine ⟨hlt, hin, hno, ?_⟩
 have hs := Zbd (ms := ms) (l := op ++ [(Zf s (ZA s op (min s.length wd)).toNat).1]) (by
  rw [List.nodup_append]
  refine ⟨ho.nd, by simp, fun a ha b hb' e => ?_⟩
  simp at hb'
  exact hno (by rw [<- hb', <- e]; exact ha)) (fun x hx => by
  rcases List.mem_append.1 hx with e | e
  · exact hb.find x (ho.sub x e)
  · simp at e; rw [e]; exact hb.find _ hin)
 simp at hs
 omega
theorem Zdw {ms : List Mk} {ls : List (List Int)} {q : List Int} (hw : ZR ms ls = true) {wd : Nat} {s : List Ht} {ids op : List Int} (hb : Zan ms q s ids) (ho : Zcw ms ls ids op) (h : 0 <= ZA s op (min s.length wd)) {id : Int} (hid : (Zf s (ZA s op (min s.length wd)).toNat).1 = id) :
 ZaS ms ls q wd s ids op = ZaS ms ls q wd (ZaT ms q (cn ls (Zn ms id)) s ids (cn ls (Zn ms id)).length).1 (ZaT ms q (cn ls (Zn ms id)) s ids (cn ls (Zn ms id)).length).2 (op ++ [id]) /\ Zan ms q (ZaT ms q (cn ls (Zn ms id)) s ids (cn ls (Zn ms id)).length).1 (ZaT ms q (cn ls (Zn ms id)) s ids (cn ls (Zn ms id)).length).2 /\ Zcw ms ls (ZaT ms q (cn ls (Zn ms id)) s ids (cn ls (Zn ms id)).length).2 (op ++ [id]) := by
 obtain ⟨h1, h2, h3, h4⟩ := Zbs hb ho h
 rw [hid] at h2 h3
 have hx := Zx (hb.find _ h2)
 obtain ⟨k1, k2, k3, -⟩ := ZeA hb (l := cn ls (Zn ms id)) (fun x hx' => (ZaB hw hx.1 hx').1) _ (Nat.le_refl _)
 refine ⟨?_, k1, ?_, ?_, ?_⟩
 · unfold ZaS
   obtain ⟨f, hf⟩ : ∃ f, ms.length - op.length = f + 1 := ⟨ms.length - op.length - 1, by omega⟩
   rw [hf]
   simp only [Zjn]
   rw [if_neg (by omega), hid, List.length_append, List.length_cons, List.length_nil]
   congr 1
   omega
 · rw [List.nodup_append]
   refine ⟨ho.nd, by simp, fun a ha b hb' e => ?_⟩
   simp at hb'
   exact h3 (by rw [<- hb', <- e]; exact ha)
 · intro x hx'
   rcases List.mem_append.1 hx' with e | e
   · exact k2 x (ho.sub x e)
   · simp at e; rw [e]; exact k2 _ h2
 · intro x hx' y hy
   rcases List.mem_append.1 hx' with e | e
   · exact k2 y (ho.all x e y hy)
   · simp at e
     rw [e] at hy
     obtain ⟨k, hk, rfl⟩ := Zde hy
     exact k3 k hk
theorem Zkt {ms : List Mk} {ls : List (List Int)} {q : List Int} (hw : ZR ms ls = true) (wd : Nat) : ∀ (f : Nat) (s : List Ht) (ids op : List Int), ms.length - op.length <= f -> Zan ms q s ids -> Zcw ms ls ids op -> ∃ s' ids' op', ZaS ms ls q wd s ids op = s'.take wd /\ Zan ms q s' ids' /\ Zcw ms ls ids' op' /\ ZA s' op' (min s'.length wd) < 0 /\ ∀ x ∈ ids, x ∈ ids' := by
 intro f
 induction f with
 | zero =>
   intro s ids op hf hb ho
   refine ⟨s, ids, op, ?_, hb, ho, ?_, fun x hx => hx⟩
   · refine Zc9 ?_
     rcases Int.lt_or_le (ZA s op (min s.length wd)) 0 with e | e
     · exact e
     · have := (Zbs hb ho e).2.2.2; omega
   · rcases Int.lt_or_le (ZA s op (min s.length wd)) 0 with e | e
     · exact e
     · have := (Zbs hb ho e).2.2.2; omega
 | succ f ih =>
   intro s ids op hf hb ho
   rcases Int.lt_or_le (ZA s op (min s.length wd)) 0 with e | e
   · exact ⟨s, ids, op, Zc9 e, hb, ho, e, fun x hx => hx⟩
   · obtain ⟨k1, k2, k3⟩ := Zdw hw hb ho e rfl
     have h4 := (Zbs hb ho e).2.2.2
     obtain ⟨s', ids', op', j1, j2, j3, j4, j5⟩ := ih _ _ _ (by simp; omega) k2 k3
     refine ⟨s', ids', op', by rw [k1, j1], j2, j3, j4, fun x hx => j5 x ?_⟩
     have h2 := (Zbs hb ho e).2.1
     exact (ZeA hb (l := cn ls (Zn ms (Zf s (ZA s op (min s.length wd)).toNat).1)) (fun y hy => (ZaB hw (Zx (hb.find _ h2)).1 hy).1) _ (Nat.le_refl _)).2.1 x hx
theorem Zdv {ms : List Mk} {ls : List (List Int)} {q : List Int} {fr : Int} (hf : 0 <= Zk ms fr) : Zan ms q [Zl ms q fr] [fr] /\ Zcw ms ls [fr] [] :=
 ⟨⟨by simp, fun x hx => by simp at hx; rw [hx]; exact hf, by simp [ZQ, ZaM]⟩, ⟨by simp, fun x hx => by simp at hx, fun x hx => by simp at hx⟩⟩
def Zau (ms : List Mk) (ls : List (List Int)) (fr : Int) (q : List Int) (wide : Int) : List Ht := if ZaX ms ls fr q = true /\ ZE wide = true then ZaS ms ls q wide.toNat [Zl ms q fr] [fr] [] else []
end Go.Proofs.YtaaagmgglolibaaGreat
namespace Go.Proofs.YtaaagmgglolibaaGreat
open Go
theorem Zfp {ms : List Mk} {ls : List (List Int)} {q : List Int} {fr : Int} (ht : ZaX ms ls fr q = true) : ZR ms ls = true /\ ZJ ms q = true /\ 0 <= Zk ms fr := by
 unfold ZaX at ht
 simp only [Bool.and_eq_true, decide_eq_true_eq] at ht
 exact ⟨ht.1.1, ht.1.2, ht.2⟩
theorem ZlE {ms : List Mk} (hm : Zm ms = true) (q : List Int) : (ms.map (fun m => m.1)).map (Zl ms q) = ZM ms q := by
 rw [List.map_map, ZM]
 refine List.map_congr_left (fun m hmm => ?_)
 obtain ⟨i, hi, rfl⟩ := List.getElem_of_mem hmm
 have e1 : mid ms i = (ms[i]).1 := by simp [mid, List.getD, hi]
 have e2 : mat ms i = (ms[i]).2 := by simp [mat, List.getD, hi]
 show Zl ms q (ms[i]).1 = ZfD q ms[i]
 rw [<- e1]
 unfold Zl
 rw [(ZaO hm hi).2, e1, e2]
 rfl
theorem Zhe {ms : List Mk} {ls : List (List Int)} {q : List Int} {fr : Int} (ht : ZaX ms ls fr q = true) {wide : Int} (hk : ZE wide = true) : ∃ s ids, Zan ms q s ids /\ Zau ms ls fr q wide = s.take wide.toNat := by
 obtain ⟨hw, -, hf⟩ := Zfp ht
 obtain ⟨b0, o0⟩ := Zdv (ls := ls) (q := q) hf
 obtain ⟨s, ids, op, e, hb, ho, hout, hin⟩ := Zkt hw wide.toNat _ _ _ _ (Nat.le_refl _) b0 o0
 refine ⟨s, ids, hb, ?_⟩
 unfold Zau
 rw [if_pos ⟨ht, hk⟩]
 exact e
end Go.Proofs.YtaaagmgglolibaaGreat
namespace Go.Proofs.YtaaagmgglolibaaGreat
def Z0 (l : List Ht) : Prop := l.Pairwise (fun a b => Zu a b = true)
theorem ZhD {a b : Ht} (h : leH a b) (hne : a.1 ≠ b.1) : Zu a b = true := by rw [Zae]; unfold leH at h; omega
theorem ZcC {l : List Ht} (hs : ZaR l) (hd : l.Pairwise (fun a b => a.1 ≠ b.1)) : Z0 l := by
 unfold ZaR at hs; unfold Z0
 induction l with
 | nil => exact List.Pairwise.nil
 | cons x xs ih =>
   rw [List.pairwise_cons] at *
   exact ⟨fun y hy => ZhD (hs.1 y hy) (hd.1 y hy), ih hs.2 hd.2⟩
theorem Zch {l m : List Ht} (hp : l.Perm m) (h : l.Pairwise (fun a b => a.1 ≠ b.1)) : m.Pairwise (fun a b => a.1 ≠ b.1) :=
 (hp.pairwise_iff (fun h e => h e.symm)).1 h
theorem Zc0 {ms : List Mk} (hm : Zm ms = true) (q : List Int) : (ZM ms q).Pairwise (fun a b => a.1 ≠ b.1) := by
 rw [List.pairwise_iff_getElem]
 intro i j hi hj hij
 simp only [ZM, List.length_map] at hi hj
 have hr : mid ms i < mid ms j := by
  clear hi
  induction j with
  | zero => omega
  | succ j ih =>
    have h1 := ((ZZ ms (j + 1)).1 (Zat hm hj)).2.2.2.2
    simp at h1
    rcases Nat.lt_or_ge i j with h2 | h2
    · have := ih (by omega) h2; omega
    · rw [show i = j by omega]; exact h1
 simp only [ZM, List.getElem_map, ZfD]
 simp only [mid, List.getD, List.getElem?_eq_getElem hi, List.getElem?_eq_getElem hj, Option.getD_some] at hr
 omega
theorem ZlF {ms : List Mk} {q : List Int} (ht : ZJ ms q = true) {i : Nat} (hi : i < ms.length) : Zbf (mat ms i) q = true := by
 simp [ZJ] at ht
 obtain ⟨⟨hm, hq⟩, hl⟩ := ht
 have h1 := (ZZ ms i).1 (Zat hm hi)
 have h0 : (mat ms 0).length = q.length := by
  rcases hl with h | h
  · subst h; simp at hi
  · exact h
 exact ZbU h1.2.2.1 hq (by omega)
theorem ZdF {ms : List Mk} {q : List Int} (ht : ZJ ms q = true) : Zm ms = true := by
 simp [ZJ] at ht; exact ht.1.1
theorem ZhE {a b : List Int} (h : Zbf a b = true) : 0 <= ZN a b := by
 have hb := (ZbR h)
 have := ZbF (sqF a b) 0 4000000 (ZeR hb.1 hb.2.1) a.length
 simp [ZN, h]; omega
theorem Zhh {ms : List Mk} {q : List Int} (ht : ZJ ms q = true) {x : Ht} (hx : x ∈ ZM ms q) : 1 <= x.1 /\ 0 <= x.2 /\ ∃ i, i < ms.length /\ x = (mid ms i, ZN (mat ms i) q) := by
 obtain ⟨m, hm, rfl⟩ := List.mem_map.1 hx
 obtain ⟨i, hi, rfl⟩ := List.getElem_of_mem hm
 have e1 : mid ms i = ms[i].1 := by simp [mid, List.getD, hi]
 have e2 : mat ms i = ms[i].2 := by simp [mat, List.getD, hi]
 have h1 := (ZZ ms i).1 (Zat (ZdF ht) hi)
 refine ⟨by unfold ZfD; omega, ?_, i, hi, by unfold ZfD; rw [e1, e2]⟩
 have := ZhE (ZlF ht hi)
 rw [e2] at this
 exact this
theorem Zhg {l : List Ht} (hs : Z0 l) (hg : ∀ x ∈ l, 1 <= x.1 /\ 0 <= x.2) : Zdo l = true := by
 refine Zhr fun i hi => ?_
 have hm : Zf l i ∈ l := by simp [Zf, List.getD, hi]
 have := hg _ hm
 simp only [ZbC, Bool.and_eq_true, decide_eq_true_eq, Bool.or_eq_true]
 refine ⟨⟨this.1, this.2⟩, ?_⟩
 rcases Nat.eq_zero_or_pos i with h0 | h0
 · exact Or.inl h0
 · right
   have := (List.pairwise_iff_getElem.1 hs) (i - 1) i (by omega) hi (by omega)
   simpa [Zf, List.getD, hi, show i - 1 < l.length by omega] using this
theorem ZjW {ms : List Mk} {q : List Int} (ht : ZJ ms q = true) : Z0 (ZQ (ZM ms q)) :=
 ZcC (ZaK _) (Zch (ZU _).symm (Zc0 (ZdF ht) q))
theorem Z0.take {l : List Ht} (h : Z0 l) (k : Nat) : Z0 (l.take k) := List.Pairwise.sublist (List.take_sublist k l) h
theorem Z0.filter {l : List Ht} (h : Z0 l) (p : Ht -> Bool) : Z0 (l.filter p) := List.Pairwise.sublist List.filter_sublist h
end Go.Proofs.YtaaagmgglolibaaGreat
namespace Go.Proofs.YtaaagmgglolibaaGreat
open Go
theorem Zcf {ms : List Mk} {q : List Int} {s : List Ht} {ids : List Int} (h : Zan ms q s ids) : s.Pairwise (fun a b => a.1 ≠ b.1) := by
 rw [h.sn]
 refine Zch (ZU _).symm ?_
 rw [List.pairwise_map]
 exact List.Pairwise.imp (fun hne e => hne e) h.nd
theorem Zf3 {ms : List Mk} {q : List Int} {s : List Ht} {ids : List Int} (h : Zan ms q s ids) (hm : Zm ms = true) {x : Ht} (hx : x ∈ s) : x ∈ ZM ms q := by
 rw [h.sn] at hx
 obtain ⟨y, hy, rfl⟩ := List.mem_map.1 ((ZU _).mem_iff.1 hx)
 rw [<- ZlE hm]
 refine List.mem_map.2 ⟨y, ?_, rfl⟩
 obtain ⟨a, -, c⟩ := Zx (h.find y hy)
 refine List.mem_map.2 ⟨ms[Zn ms y], List.getElem_mem a, ?_⟩
 have e : mid ms (Zn ms y) = (ms[Zn ms y]).1 := by simp [mid, List.getD, a]
 rw [<- e]
 exact c
theorem ZeE (ms : List Mk) (ls : List (List Int)) (fr : Int) (q : List Int) (wide : Int) : Zdo (Zau ms ls fr q wide) = true /\ (∀ x ∈ Zau ms ls fr q wide, x ∈ ZM ms q) /\ ((0 < wide -> ((Zau ms ls fr q wide).length : Int) <= wide) /\ (Zau ms ls fr q wide).length <= 60) := by
 by_cases h : ZaX ms ls fr q = true /\ ZE wide = true
 · obtain ⟨ht, hk⟩ := h
   obtain ⟨s, ids, hb, e⟩ := Zhe (ls := ls) ht hk
   obtain ⟨hw, htd, -⟩ := Zfp ht
   have hm := Zz hw
   have h60 := ZT hm
   have hs := hb.short
   have hl := hb.len
   have ha : Z0 s := ZcC (by rw [hb.sn]; exact ZaK _) (Zcf hb)
   rw [e]
   refine ⟨Zhg (ha.take _) (fun x hx => ?_), fun x hx => Zf3 hb hm (List.mem_of_mem_take hx), fun h0 => ?_, ?_⟩
   · have := Zhh htd (Zf3 hb hm (List.mem_of_mem_take hx))
     exact ⟨this.1, this.2.1⟩
   · rw [List.length_take]; omega
   · rw [List.length_take]; omega
 · have e : Zau ms ls fr q wide = [] := by unfold Zau; rw [if_neg h]
   rw [e]
   exact ⟨rfl, ⟨fun x hx => (List.not_mem_nil hx).elim, ⟨fun h0 => Int.le_of_lt h0, Nat.zero_le _⟩⟩⟩
end Go.Proofs.YtaaagmgglolibaaGreat
namespace Go.Proofs.YtaaagmgglolibaaGreat
end Go.Proofs.YtaaagmgglolibaaGreat
namespace Go.Proofs.YtaaagmgglolibaaGreat
open Go
def ZiM (ms : List Mk) (ls : List (List Int)) (q : List Int) : List Int -> Prop
 | [] => False
 | [y] => 0 <= Zk ms y /\ ZS ms ls q y = y
 | y :: z :: l => 0 <= Zk ms y /\ z = ZS ms ls q y /\ z ≠ y /\ ZiM ms ls q (z :: l)
theorem Zfq (ms : List Mk) (ls : List (List Int)) (q : List Int) (x : Int) : ∃ l, Zac ms ls q x = x :: l := by
 unfold Zac
 cases rkW ms q x with
 | zero => exact ⟨_, rfl⟩
 | succ n =>
   simp only [ZbO]
   split
   · exact ⟨_, rfl⟩
   · exact ⟨_, rfl⟩
theorem ZlG {ms : List Mk} {ls : List (List Int)} {q : List Int} (h : ZR ms ls = true) : ∀ (n : Nat) (x : Int), rkW ms q x <= n -> 0 <= Zk ms x -> ZiM ms ls q (Zac ms ls q x) := by
 intro n
 induction n with
 | zero =>
   intro x hr hx
   by_cases hs : ZS ms ls q x = x
   · rw [Zdd hs]; exact ⟨hx, hs⟩
   · have := Zcz (q := q) h hx hs
     omega
 | succ n ih =>
   intro x hr hx
   by_cases hs : ZS ms ls q x = x
   · rw [Zdd hs]; exact ⟨hx, hs⟩
   · have h1 := Zcz (q := q) h hx hs
     have h2 := ih (ZS ms ls q x) (by omega) (ZbX h hx)
     rw [ZdC h hx hs]
     obtain ⟨l, e⟩ := Zfq ms ls q (ZS ms ls q x)
     rw [e] at h2 ⊢
     exact ⟨hx, rfl, hs, h2⟩
theorem ZmI {ms : List Mk} {ls : List (List Int)} {q : List Int} : ∀ (l : List Int), ZiM ms ls q l -> ∀ i, i < l.length -> 0 <= Zk ms (nth l i) /\ (i + 1 < l.length -> nth l (i + 1) = ZS ms ls q (nth l i) /\ nth l (i + 1) ≠ nth l i) /\ (i + 1 = l.length -> ZS ms ls q (nth l i) = nth l i) := by
 intro l
 induction l with
 | nil => intro h; exact h.elim
 | cons y l ih =>
   intro h i hi
   cases l with
   | nil =>
     have : i = 0 := by simp at hi; exact hi
     subst this
     exact ⟨h.1, fun h' => by simp at h', fun _ => h.2⟩
   | cons z l =>
     cases i with
     | zero => exact ⟨h.1, fun _ => ⟨h.2.1, h.2.2.1⟩, fun h' => by simp at h'⟩
     | succ i =>
       obtain ⟨a, b, c⟩ := ih h.2.2.2 i (by simpa using hi)
       exact ⟨a, fun h' => b (by simpa using h'), fun h' => c (by simpa using h')⟩
theorem Zku {ms : List Mk} {ls : List (List Int)} {q : List Int} (h : ZR ms ls = true) {x : Int} (hx : 0 <= Zk ms x) (hs : ZS ms ls q x ≠ x) : Zu (Zl ms q (ZS ms ls q x)) (Zl ms q x) = true /\ x ∈ cn ls (Zn ms (ZS ms ls q x)) := by
 obtain ⟨h1, h2, h3⟩ := Zcl ms ls q x
 rcases h1 with e | ⟨hm, ha⟩
 · exact absurd e hs
 · obtain ⟨a, b, c⟩ := Zx hx
   obtain ⟨d1, d2, d3, d4, d5⟩ := ZaB h a hm
   rw [c] at d5
   exact ⟨ha, d5⟩
theorem ZiN {ms : List Mk} {ls : List (List Int)} {q : List Int} {x : Int} (hs : ZS ms ls q x = x) {y : Int} (hy : y ∈ cn ls (Zn ms x)) : leH (Zl ms q x) (Zl ms q y) := by
 obtain ⟨h1, h2, h3⟩ := Zcl ms ls q x
 have := h3 y hy
 rw [hs] at this
 exact this
theorem ZlH {ms : List Mk} {ls : List (List Int)} {q : List Int} {fr : Int} (ht : ZaX ms ls fr q = true) : nth (ZaH ms ls fr q) 0 = fr /\ 0 < (ZaH ms ls fr q).length /\ ∀ i, i < (ZaH ms ls fr q).length -> 0 <= Zk ms (nth (ZaH ms ls fr q) i) /\
 (i + 1 < (ZaH ms ls fr q).length -> Zu (Zl ms q (nth (ZaH ms ls fr q) (i + 1))) (Zl ms q (nth (ZaH ms ls fr q) i)) = true /\ nth (ZaH ms ls fr q) i ∈ cn ls (Zn ms (nth (ZaH ms ls fr q) (i + 1)))) /\
 (i + 1 = (ZaH ms ls fr q).length -> ∀ y ∈ cn ls (Zn ms (nth (ZaH ms ls fr q) i)), leH (Zl ms q (nth (ZaH ms ls fr q) i)) (Zl ms q y)) := by
 have hh : ZR ms ls = true /\ 0 <= Zk ms fr := by
  unfold ZaX at ht
  simp only [Bool.and_eq_true, decide_eq_true_eq] at ht
  exact ⟨ht.1.1, ht.2⟩
 have e : ZaH ms ls fr q = Zac ms ls q fr := by unfold ZaH; rw [if_pos ht]
 rw [e]
 obtain ⟨l, el⟩ := Zfq ms ls q fr
 refine ⟨by rw [el]; rfl, by rw [el]; simp, fun i hi => ?_⟩
 obtain ⟨a, b, c⟩ := ZmI _ (ZlG hh.1 _ fr (Nat.le_refl _) hh.2) i hi
 refine ⟨a, fun h1 => ?_, fun h1 y hy => ZiN (c h1) hy⟩
 obtain ⟨b1, b2⟩ := b h1
 rw [b1] at b2 ⊢
 exact Zku hh.1 a b2
end Go.Proofs.YtaaagmgglolibaaGreat
namespace Go.Proofs.YtaaagmgglolibaaGreat
def Zba : List Int -> Int -> List Int
 | [], n => [n]
 | x :: l, n => if x < n then x :: Zba l n else if x = n then x :: l else n :: x :: l
def Zgj (ids : List Int) : List Int := ids.foldl Zba []
theorem ZhF (l : List Int) (n y : Int) : y ∈ Zba l n ↔ y = n \/ y ∈ l := by
 induction l with
 | nil => simp [Zba]
 | cons x l ih =>
   simp only [Zba]
   by_cases h1 : x < n
   · rw [if_pos h1, List.mem_cons, ih, List.mem_cons]
     constructor
     · rintro (h | h | h)
       · exact Or.inr (Or.inl h)
       · exact Or.inl h
       · exact Or.inr (Or.inr h)
     · rintro (h | h | h)
       · exact Or.inr (Or.inl h)
       · exact Or.inl h
       · exact Or.inr (Or.inr h)
   · rw [if_neg h1]
     by_cases h2 : x = n
     · rw [if_pos h2, h2]; simp
     · rw [if_neg h2]; simp
theorem ZiO {l : List Int} (h : l.Pairwise (fun a b => a < b)) (n : Int) : (Zba l n).Pairwise (fun a b => a < b) := by
 induction l with
 | nil => simp [Zba]
 | cons x l ih =>
   obtain ⟨h1, h2⟩ := List.pairwise_cons.1 h
   simp only [Zba]
   by_cases hx : x < n
   · rw [if_pos hx, List.pairwise_cons]
     refine ⟨fun y hy => ?_, ih h2⟩
     rcases (ZhF l n y).1 hy with e | e
     · rw [e]; exact hx
     · exact h1 y e
   · rw [if_neg hx]
     by_cases he : x = n
     · rw [if_pos he]; exact h
     · rw [if_neg he, List.pairwise_cons]
       refine ⟨fun y hy => ?_, h⟩
       rcases List.mem_cons.1 hy with e | e
       · rw [e]; omega
       · have := h1 y e; omega
theorem Zf4 (ids acc : List Int) (h : acc.Pairwise (fun a b => a < b)) : (ids.foldl Zba acc).Pairwise (fun a b => a < b) /\ ∀ y, y ∈ ids.foldl Zba acc ↔ y ∈ acc \/ y ∈ ids := by
 induction ids generalizing acc with
 | nil => exact ⟨h, fun y => by simp⟩
 | cons x ids ih =>
   obtain ⟨h1, h2⟩ := ih (Zba acc x) (ZiO h x)
   refine ⟨h1, fun y => ?_⟩
   rw [List.foldl_cons, h2, ZhF, List.mem_cons]
   constructor
   · rintro ((e | e) | e)
     · exact Or.inr (Or.inl e)
     · exact Or.inl e
     · exact Or.inr (Or.inr e)
   · rintro (e | e | e)
     · exact Or.inl (Or.inr e)
     · exact Or.inl (Or.inl e)
     · exact Or.inr e
theorem ZhG (ids : List Int) (y : Int) : y ∈ Zgj ids ↔ y ∈ ids := by
 have := (Zf4 ids [] List.Pairwise.nil).2 y
 simpa [Zgj] using this
theorem Zfr {l : List Int} (h : l.Pairwise (fun a b => a < b)) : Za4 l = true := by
 rw [Zbb]
 intro j hj
 have h' := List.pairwise_iff_getElem.1 h j (j + 1) (by omega) hj (by omega)
 have e1 : nth l j = l[j] := by simp [nth, List.getD, show j < l.length by omega]
 have e2 : nth l (j + 1) = l[j + 1] := by simp [nth, List.getD, hj]
 rw [e1, e2]
 exact h'
theorem Zkv (ids : List Int) : Za4 (Zgj ids) = true := Zfr (Zf4 ids [] List.Pairwise.nil).1
def ZdH (ms : List Mk) (ls : List (List Int)) (ids : List Int) (x : Int) (i : Nat) : List Int := if ZY ids (mid ms i) = true then cn ls i ++ [x] else cn ls i
def Zey (ms : List Mk) (ls : List (List Int)) (ids : List Int) (x : Int) : List (List Int) := (List.range ms.length).map (ZdH ms ls ids x) ++ [Zgj ids]
theorem ZdP (ms : List Mk) (ls : List (List Int)) (ids : List Int) (x : Int) : (Zey ms ls ids x).length = ms.length + 1 := by simp [Zey]
theorem ZgE {ms : List Mk} {ls : List (List Int)} {ids : List Int} {x : Int} {i : Nat} (h : i < ms.length) : cn (Zey ms ls ids x) i = ZdH ms ls ids x i := by
 simp [cn, Zey, List.getD, h, List.getElem?_append_left]
theorem Zf5 (ms : List Mk) (ls : List (List Int)) (ids : List Int) (x : Int) : cn (Zey ms ls ids x) ms.length = Zgj ids := by
 simp [cn, Zey, List.getD]
theorem Zfs {ms : List Mk} {ls : List (List Int)} {ids : List Int} {x y : Int} {i : Nat} : y ∈ ZdH ms ls ids x i ↔ y ∈ cn ls i \/ (y = x /\ ZY ids (mid ms i) = true) := by
 unfold ZdH
 by_cases h : ZY ids (mid ms i) = true
 · rw [if_pos h]; simp [h]
 · rw [if_neg h]; simp [h]
theorem Zft {ms : List Mk} {m : Mk} {i : Nat} (h : i < ms.length) : mid (ms ++ [m]) i = mid ms i := by simp [mid, List.getD, h, List.getElem?_append_left]
theorem ZkV {ms : List Mk} {m : Mk} {i : Nat} (h : i < ms.length) : mat (ms ++ [m]) i = mat ms i := by simp [mat, List.getD, h, List.getElem?_append_left]
theorem Zfu (ms : List Mk) (m : Mk) : mid (ms ++ [m]) ms.length = m.1 := by simp [mid, List.getD]
theorem ZkW (ms : List Mk) (m : Mk) : mat (ms ++ [m]) ms.length = m.2 := by simp [mat, List.getD]
theorem ZeV {ms : List Mk} {ls : List (List Int)} {ids : List Int} {m : Mk} (hw : ZR ms ls = true) (hm : Zm (ms ++ [m]) = true) (hids : ∀ x ∈ ids, 0 <= Zk ms x) : ZR (ms ++ [m]) (Zey ms ls ids m.1) = true := by
 have hmw := Zz hw
 have hlen := Zaq hw
 have hz : ∀ {j}, j < ms.length -> Zk (ms ++ [m]) (mid ms j) = (j : Int) /\ Zn (ms ++ [m]) (mid ms j) = j := fun {j} hj => by
  have := ZaO hm (i := j) (by simp; omega)
  rwa [Zft hj] at this
 have hzl : Zk (ms ++ [m]) m.1 = (ms.length : Int) /\ Zn (ms ++ [m]) m.1 = ms.length := by
  have := ZaO hm (i := ms.length) (by simp)
  rwa [Zfu] at this
 have hidx : ∀ x ∈ ids, ∃ j, j < ms.length /\ mid ms j = x := fun x hx => ⟨Zn ms x, (Zx (hids x hx)).1, (Zx (hids x hx)).2.2⟩
 refine (ZbG _ _).2 ⟨hm, by rw [ZdP]; simp, fun i hi => ?_⟩
 rw [ZdP] at hi
 refine (ZbW _ _ _).2 ?_
 rcases Nat.lt_or_ge i ms.length with h | h
 · rw [ZgE h]
   constructor
   · refine Zfr ?_
     have hp := Zfn (ZhB hw h)
     unfold ZdH
     by_cases hb : ZY ids (mid ms i) = true
     · rw [if_pos hb, List.pairwise_append]
       refine ⟨hp, by simp, fun a ha b hb' => ?_⟩
       simp at hb'
       have hl := ZaB hw h ha
       have := Zbu hm (i := Zn ms a) (j := ms.length) hl.2.1 (by simp)
       rw [Zft hl.2.1, Zfu, hl.2.2.1] at this
       rw [hb']
       exact this
     · rw [if_neg hb]; exact hp
   · intro k hk
     have hx : nth (ZdH ms ls ids m.1 i) k ∈ ZdH ms ls ids m.1 i := (ZI _ _).1 (Za5 hk)
     generalize nth (ZdH ms ls ids m.1 i) k = x at hx
     rw [ZbV, Zft h]
     rcases Zfs.1 hx with hx | ⟨rfl, hxb⟩
     · have hl := ZaB hw h hx
       have h2 := hz hl.2.1
       rw [hl.2.2.1] at h2
       refine ⟨by omega, by have := hl.2.2.2.1; omega, ?_⟩
       rw [h2.2, ZgE hl.2.1, ZI]
       exact Zfs.2 (Or.inl hl.2.2.2.2)
     · refine ⟨by omega, by omega, ?_⟩
       rw [hzl.2, Zf5, ZI, ZhG]
       exact (ZI _ _).1 hxb
 · obtain rfl : i = ms.length := by omega
   rw [Zf5]
   refine ⟨Zkv ids, fun k hk => ?_⟩
   have hx : nth (Zgj ids) k ∈ ids := (ZhG _ _).1 ((ZI _ _).1 (Za5 hk))
   generalize nth (Zgj ids) k = x at hx
   obtain ⟨j, hj, rfl⟩ := hidx x hx
   rw [ZbV, Zfu, (hz hj).1, (hz hj).2, ZgE hj, ZI]
   exact ⟨by omega, by omega, Zfs.2 (Or.inr ⟨rfl, (ZI _ _).2 hx⟩)⟩
def ZdO (ms : List Mk) (p : List Int) (most : Int) : List Int := (ZW ms p most).map (fun h => h.1)
theorem Zdx {ms : List Mk} (hm : Zm ms = true) {p : List Int} {most : Int} : ∀ x ∈ ZdO ms p most, 0 <= Zk ms x := by
 intro x hx
 obtain ⟨h, hh, rfl⟩ := List.mem_map.1 hx
 unfold ZW at hh
 split at hh
 · have h1 := (ZU _).mem_iff.1 (List.mem_of_mem_take hh)
   obtain ⟨mk, hmk, rfl⟩ := List.mem_map.1 h1
   obtain ⟨i, hi, e⟩ := List.mem_iff_getElem.1 hmk
   have e2 : mid ms i = mk.1 := by simp [mid, List.getD, hi, e]
   show 0 <= Zk ms mk.1
   rw [<- e2, (ZaO hm hi).1]
   omega
 · simp at hh
def Zav (s : List Ht) : List Int := s.map (fun h => h.1)
theorem Zha (s : List Ht) : (Zav s).length = s.length := by simp [Zav]
theorem Zd1 {s : List Ht} {x : Int} : x ∈ Zav s ↔ ∃ h ∈ s, h.1 = x := by simp [Zav]
theorem Zcn {s : List Ht} {k : Nat} (hk : k < s.length) : (Zf s k).1 ∈ Zav s := Zd1.2 ⟨_, by simp [Zf, List.getD, hk], rfl⟩
theorem Zdf {s : List Ht} {x : Int} (h : x ∈ Zav s) : ∃ k, k < s.length /\ (Zf s k).1 = x := by
 obtain ⟨h, hm, e⟩ := Zd1.1 h
 obtain ⟨k, hk, e'⟩ := List.mem_iff_getElem.1 hm
 exact ⟨k, hk, by simp [Zf, List.getD, hk, e', e]⟩
theorem ZbY {s : List Ht} {k : Nat} (hk : k < s.length) : Zf s k ∈ s := by simp [Zf, List.getD, hk]
def Zb9 (dd : Int -> Int) (s : List Ht) (x : Int) : List Ht := if ZY (Zav s) x = true then s else ZaM s (x, dd x)
def Zbq (dd : Int -> Int) (s : List Ht) (l : List Int) : List Ht := l.foldl (Zb9 dd) s
theorem ZiP (dd : Int -> Int) (s : List Ht) (l : List Int) (x : Int) : Zbq dd s (l ++ [x]) = Zb9 dd (Zbq dd s l) x := by simp [Zbq, List.foldl_append]
theorem Ze6 (dd : Int -> Int) (s : List Ht) (l : List Int) {k : Nat} (hk : k < l.length) : Zbq dd s (l.take (k + 1)) = Zb9 dd (Zbq dd s (l.take k)) (nth l k) := by
 rw [List.take_add_one, List.getElem?_eq_getElem hk]
 simp only [Option.toList_some]
 rw [ZiP]
 simp [nth, List.getD, hk]
structure Zbp (dd : Int -> Int) (s : List Ht) : Prop where
 so : ZaR s
 nd : (Zav s).Nodup
 far : ∀ h ∈ s, h.2 = dd h.1
theorem ZlI (s : List Ht) (h : Ht) (x : Int) : x ∈ Zav (ZaM s h) ↔ x = h.1 \/ x ∈ Zav s := by
 simp only [Zd1, (Zb0 s h).mem_iff, List.mem_cons]
 constructor
 · rintro ⟨g, e | e, rfl⟩
   · left; rw [e]
   · right; exact ⟨g, e, rfl⟩
 · rintro (rfl | ⟨g, e, rfl⟩)
   · exact ⟨h, Or.inl rfl, rfl⟩
   · exact ⟨g, Or.inr e, rfl⟩
theorem Zbp.nil (dd : Int -> Int) : Zbp dd [] := ⟨List.Pairwise.nil, by simp [Zav], fun h hh => by cases hh⟩
theorem Zbp.see {dd : Int -> Int} {s : List Ht} (h : Zbp dd s) (x : Int) : Zbp dd (Zb9 dd s x) := by
 unfold Zb9
 rcases hb : ZY (Zav s) x with _ | _
 · simp only [Bool.false_eq_true, if_false]
   have hno := (Zbj _ _).1 hb
   refine ⟨Zew h.so _, ?_, fun g hg => ?_⟩
   · have hp : (Zav (ZaM s (x, dd x))).Perm (x :: Zav s) := by simpa [Zav] using (Zb0 s (x, dd x)).map (fun h => h.1)
     rw [hp.nodup_iff, List.nodup_cons]
     exact ⟨hno, h.nd⟩
   · rcases List.mem_cons.1 ((Zb0 s (x, dd x)).mem_iff.1 hg) with e | e
     · rw [e]
     · exact h.far g e
 · simp only [if_true]; exact h
theorem Zd2 {dd : Int -> Int} {s : List Ht} {x y : Int} : y ∈ Zav (Zb9 dd s x) ↔ y = x \/ y ∈ Zav s := by
 unfold Zb9
 rcases hb : ZY (Zav s) x with _ | _
 · simp only [Bool.false_eq_true, if_false]
   exact ZlI _ _ _
 · simp only [if_true]
   constructor
   · exact Or.inr
   · rintro (rfl | e)
     · exact (ZI _ _).1 hb
     · exact e
theorem ZcV {dd : Int -> Int} {s : List Ht} (h : Zbp dd s) (l : List Int) : Zbp dd (Zbq dd s l) /\ ∀ y, y ∈ Zav (Zbq dd s l) ↔ y ∈ l \/ y ∈ Zav s := by
 induction l generalizing s with
 | nil => exact ⟨h, fun y => by simp [Zbq]⟩
 | cons x l ih =>
   obtain ⟨h1, h2⟩ := ih (h.see x)
   refine ⟨h1, fun y => ?_⟩
   have e := h2 y
   show y ∈ Zav (Zbq dd (Zb9 dd s x) l) ↔ _
   rw [e, Zd2, List.mem_cons]
   constructor
   · rintro (a | a | a)
     · exact Or.inl (Or.inr a)
     · exact Or.inl (Or.inl a)
     · exact Or.inr a
   · rintro ((a | a) | a)
     · exact Or.inr (Or.inl a)
     · exact Or.inl a
     · exact Or.inr (Or.inr a)
def Zbv (h : Ht) : List Ht -> Nat
 | [] => 0
 | x :: l => if Zu x h = true then Zbv h l + 1 else 0
theorem Zgq (h : Ht) (l : List Ht) : Zbv h l <= l.length := by
 induction l with
 | nil => simp [Zbv]
 | cons x l ih => simp only [Zbv]; split <;> simp <;> omega
theorem Zg9 (h : Ht) (l : List Ht) (i : Nat) (hi : i < Zbv h l) : Zu (Zf l i) h = true := by
 induction l generalizing i with
 | nil => simp [Zbv] at hi
 | cons x l ih =>
   simp only [Zbv] at hi
   by_cases hx : Zu x h = true
   · rw [if_pos hx] at hi
     match i with
     | 0 => simpa [Zf] using hx
     | i + 1 => simpa [Zf] using ih i (by omega)
   · simp [hx] at hi
theorem ZfQ {l : List Ht} (hs : ZaR l) (h : Ht) (i : Nat) (hi : Zbv h l <= i) (hl : i < l.length) : Zu (Zf l i) h = false := by
 induction l generalizing i with
 | nil => simp at hl
 | cons x l ih =>
   simp only [Zbv] at hi
   have hs2 := List.pairwise_cons.1 hs
   by_cases hx : Zu x h = true
   · rw [if_pos hx] at hi
     match i with
     | 0 => omega
     | i + 1 =>
       simp at hl
       have := ih hs2.2 i (by omega) hl
       simpa [Zf] using this
   · match i with
     | 0 => simpa [Zf] using hx
     | i + 1 =>
       simp at hl
       have hm : l[i] ∈ l := List.getElem_mem hl
       have h1 := hs2.1 _ hm
       have e : Zf (x :: l) (i + 1) = l[i] := by simp [Zf, List.getD, hl]
       rw [e]
       have hx' := (ZF _ _).1 (by simpa using hx)
       exact (ZF _ _).2 (Za0 hx' h1)
theorem Zld (dd : Int -> Int) {s : List Ht} {x : Int} (hx : x ∉ Zav s) : ZaM s (x, dd x) = s.take (Zbv (x, dd x) s) ++ (x, dd x) :: s.drop (Zbv (x, dd x) s) := by
 have key : ∀ l : List Ht, (∀ g ∈ l, g.1 ≠ x) -> ZaM l (x, dd x) = l.take (Zbv (x, dd x) l) ++ (x, dd x) :: l.drop (Zbv (x, dd x) l) := by
  intro l
  induction l with
  | nil => intro _; rfl
  | cons g l ih =>
    intro hg
    have h1 := hg g (by simp)
    have h2 := ih (fun g' hg' => hg g' (by simp [hg']))
    simp only [ZaM, Zbv]
    by_cases ha : Zu g (x, dd x) = true
    · have hb : Zu (x, dd x) g = false := (ZF _ _).2 (Za1 ha)
      simp [ha, hb, h2]
    · have hb : Zu (x, dd x) g = true := by
       have ha' := (ZF _ _).1 (by simpa using ha)
       rw [Zae]
       unfold leH at ha'
       simp only at *
       omega
      simp [ha, hb]
 exact key s fun g hg e => hx (Zd1.2 ⟨g, hg, e⟩)
theorem Zle {dd : Int -> Int} {s : List Ht} (h : Zbp dd s) (x : Int) : ZY (Zav s) x = (decide (Zbv (x, dd x) s < s.length) && decide ((Zf s (Zbv (x, dd x) s)).1 = x)) := by
 rcases hb : ZY (Zav s) x with _ | _
 · have hno := (Zbj _ _).1 hb
   symm
   rw [Bool.and_eq_false_iff]
   by_cases hl : Zbv (x, dd x) s < s.length
   · right
     exact decide_eq_false fun e => hno (by rw [<- e]; exact Zcn hl)
   · left; exact decide_eq_false hl
 · obtain ⟨k, hk, e⟩ := Zdf ((ZI _ _).1 hb)
   have he : Zf s k = (x, dd x) := by
    have := h.far _ (ZbY hk)
    rw [<- e, <- this]
   have h1 : Zbv (x, dd x) s <= k := by
    rcases Nat.lt_or_ge k (Zbv (x, dd x) s) with c | c
    · have := Zg9 _ _ _ c
      rw [he, Zfo] at this; cases this
    · exact c
   have h2 : Zbv (x, dd x) s < s.length := by omega
   have h3 := ZfQ h.so (x, dd x) _ (Nat.le_refl _) h2
   have h4 : leH (Zf s (Zbv (x, dd x) s)) (Zf s k) := by
    rcases Nat.lt_or_ge (Zbv (x, dd x) s) k with c | c
    · have := List.pairwise_iff_getElem.1 h.so _ _ h2 hk c
      simpa [Zf, List.getD, h2, hk] using this
    · rw [show Zbv (x, dd x) s = k by omega]; exact ZaD _
   have h5 := ZcH h4 (by rw [he]; exact (ZF _ _).1 h3)
   rw [h5, he]
   simp [h2]
structure Zco (ms : List Mk) (ls : List (List Int)) (dd : Int -> Int) (s : List Ht) (op : List Int) : Prop where
 look : Zbp dd s
 find : ∀ x ∈ Zav s, 0 <= Zk ms x
 nd : op.Nodup
 sub : ∀ x ∈ op, x ∈ Zav s
 all : ∀ x ∈ op, ∀ y ∈ cn ls (Zn ms x), y ∈ Zav s
theorem Zco.short {ms : List Mk} {ls : List (List Int)} {dd : Int -> Int} {s : List Ht} {op : List Int} (h : Zco ms ls dd s op) : s.length <= ms.length := by
 have := Zbd h.look.nd h.find
 rwa [Zha] at this
theorem Zco.shortO {ms : List Mk} {ls : List (List Int)} {dd : Int -> Int} {s : List Ht} {op : List Int} (h : Zco ms ls dd s op) : op.length <= ms.length := Zbd h.nd (fun x hx => h.find x (h.sub x hx))
theorem Zco.nil (ms : List Mk) (ls : List (List Int)) (dd : Int -> Int) : Zco ms ls dd [] [] := ⟨Zbp.nil dd, fun x hx => (by simp [Zav] at hx), (by simp), fun x hx => (by simp at hx), fun x hx => (by simp at hx)⟩
theorem Zco.see {ms : List Mk} {ls : List (List Int)} {dd : Int -> Int} {s : List Ht} {op : List Int} (h : Zco ms ls dd s op) {x : Int} (hx : 0 <= Zk ms x) : Zco ms ls dd (Zb9 dd s x) op :=
 ⟨h.look.see x, fun y hy => by
  rcases Zd2.1 hy with e | e
  · rw [e]; exact hx
  · exact h.find y e, h.nd, fun y hy => Zd2.2 (Or.inr (h.sub y hy)), fun y hy z hz => Zd2.2 (Or.inr (h.all y hy z hz))⟩
def ZbI (s : List Ht) (op : List Int) (wd : Nat) : Int := (Zf s (ZA s op (min s.length wd)).toNat).1
theorem ZdT {s : List Ht} {op : List Int} {wd : Nat} (h : 0 <= ZA s op (min s.length wd)) : (ZA s op (min s.length wd)).toNat < s.length /\ ZbI s op wd ∈ Zav s /\ ZbI s op wd ∉ op := by
 obtain ⟨h1, h2, h3, -⟩ := ZdN s op (min s.length wd)
 have hlt : (ZA s op (min s.length wd)).toNat < s.length := by omega
 exact ⟨hlt, Zcn hlt, (Zbj _ _).1 (h3 h)⟩
theorem Zco.opened {ms : List Mk} {ls : List (List Int)} (hw : ZR ms ls = true) {dd : Int -> Int} {s : List Ht} {op : List Int} (h : Zco ms ls dd s op) {x : Int} (hx : x ∈ Zav s) (hn : x ∉ op) : Zco ms ls dd (Zbq dd s (cn ls (Zn ms x))) (op ++ [x]) := by
 have hf := Zx (h.find x hx)
 obtain ⟨h1, h2⟩ := ZcV h.look (cn ls (Zn ms x))
 refine ⟨h1, fun y hy => ?_, ?_, fun y hy => ?_, fun y hy z hz => ?_⟩
 · rcases (h2 y).1 hy with e | e
   · exact (ZaB hw hf.1 e).1
   · exact h.find y e
 · rw [List.nodup_append]
   refine ⟨h.nd, by simp, fun a ha b hb e => ?_⟩
   simp at hb
   exact hn (by rw [<- hb, <- e]; exact ha)
 · rcases List.mem_append.1 hy with e | e
   · exact (h2 y).2 (Or.inr (h.sub y e))
   · simp at e; rw [e]; exact (h2 x).2 (Or.inr hx)
 · rcases List.mem_append.1 hy with e | e
   · exact (h2 z).2 (Or.inr (h.all y e z hz))
   · simp at e; rw [e] at hz; exact (h2 z).2 (Or.inl hz)
inductive LkTo (ms : List Mk) (ls : List (List Int)) (dd : Int -> Int) (wd : Nat) (s0 : List Ht) (op0 : List Int) : List Ht -> List Int -> Prop
 | refl : LkTo ms ls dd wd s0 op0 s0 op0
 | step {s : List Ht} {op : List Int} : LkTo ms ls dd wd s0 op0 s op -> 0 <= ZA s op (min s.length wd) -> LkTo ms ls dd wd s0 op0 (Zbq dd s (cn ls (Zn ms (ZbI s op wd)))) (op ++ [ZbI s op wd])
theorem LkTo.ok {ms : List Mk} {ls : List (List Int)} (hw : ZR ms ls = true) {dd : Int -> Int} {wd : Nat} {s0 s : List Ht} {op0 op : List Int} (h : LkTo ms ls dd wd s0 op0 s op) (h0 : Zco ms ls dd s0 op0) : Zco ms ls dd s op := by
 induction h with
 | refl => exact h0
 | step _ h2 ih => exact ih.opened hw (ZdT h2).2.1 (ZdT h2).2.2
theorem Zco.room {ms : List Mk} {ls : List (List Int)} {dd : Int -> Int} {s : List Ht} {op : List Int} (h : Zco ms ls dd s op) {x : Int} (hx : x ∈ Zav s) (hn : x ∉ op) : op.length < ms.length := by
 have := Zbd (ms := ms) (l := op ++ [x]) (by
  rw [List.nodup_append]
  refine ⟨h.nd, by simp, fun a ha b hb e => ?_⟩
  simp at hb
  exact hn (by rw [<- hb, <- e]; exact ha)) (fun y hy => by
  rcases List.mem_append.1 hy with e | e
  · exact h.find y (h.sub y e)
  · simp at e; rw [e]; exact h.find x hx)
 simp at this
 omega
def ZcB (ms : List Mk) (q : List Int) (x : Int) : Int := ZN (mat ms (Zn ms x)) q
theorem Zkw {ms : List Mk} {q : List Int} {s : List Ht} {ids : List Int} (h : Zan ms q s ids) (l : List Int) (hl : ∀ x ∈ l, 0 <= Zk ms x) (k : Nat) (hk : k <= l.length) : (ZaT ms q l s ids k).1 = Zbq (ZcB ms q) s (l.take k) := by
 induction k with
 | zero => simp [ZaT, Zbq]
 | succ k ih =>
   have ih' := ih (by omega)
   obtain ⟨h1, -, -, -⟩ := ZeA h hl k (by omega)
   rw [Ze6 _ _ _ (by omega), <- ih']
   simp only [ZaT, Zb9]
   have e : ZY (Zav (ZaT ms q l s ids k).1) (nth l k) = ZY (ZaT ms q l s ids k).2 (nth l k) := by
    rw [Bool.eq_iff_iff, ZI, ZI]
    constructor
    · intro hm
      obtain ⟨j, hj, e⟩ := Zdf hm
      rw [<- e]; exact (h1.at hj).1
    · intro hm
      obtain ⟨j, hj, e⟩ := h1.mem hm
      have := Zcn hj
      rw [e] at this; exact this
   rw [e]
   split <;> rfl
theorem LkTo.beam {ms : List Mk} {ls : List (List Int)} (hw : ZR ms ls = true) {q : List Int} {wd : Nat} {s0 s : List Ht} {ids0 op0 op : List Int} (h : LkTo ms ls (ZcB ms q) wd s0 op0 s op) (hb : Zan ms q s0 ids0) (ho : Zcw ms ls ids0 op0) : ∃ ids, Zan ms q s ids /\ Zcw ms ls ids op /\ ZaS ms ls q wd s0 ids0 op0 = ZaS ms ls q wd s ids op := by
 induction h with
 | refl => exact ⟨ids0, hb, ho, rfl⟩
 | @step s op _ h2 ih =>
   obtain ⟨ids, k1, k2, k3⟩ := ih
   obtain ⟨j1, j2, j3⟩ := Zdw hw k1 k2 h2 (id := ZbI s op wd) rfl
   have hin := (Zbs k1 k2 h2).2.1
   have hf := Zx (k1.find _ hin)
   have e := Zkw k1 (cn ls (Zn ms (ZbI s op wd))) (fun x hx => (ZaB hw hf.1 hx).1) _ (Nat.le_refl _)
   rw [List.take_length] at e
   rw [e] at j1 j2
   exact ⟨_, j2, j3, k3.trans j1⟩
theorem ZjS {ms : List Mk} {ls : List (List Int)} (hw : ZR ms ls = true) {q : List Int} {wd : Nat} {fr : Int} (hf : 0 <= Zk ms fr) {s : List Ht} {op : List Int} (h : LkTo ms ls (ZcB ms q) wd [(fr, ZcB ms q fr)] [] s op) (he : ZA s op (min s.length wd) < 0) : ZaS ms ls q wd [Zl ms q fr] [fr] [] = s.take wd := by
 obtain ⟨hb, ho⟩ := Zdv (ls := ls) (q := q) hf
 obtain ⟨ids, -, -, e⟩ := h.beam hw hb ho
 exact e.trans (Zc9 he)
theorem ZcA {ms : List Mk} {ls : List (List Int)} {dd : Int -> Int} {fr : Int} (hf : 0 <= Zk ms fr) : Zb9 dd [] fr = [(fr, dd fr)] /\ Zco ms ls dd [(fr, dd fr)] [] := by
 have e : Zb9 dd [] fr = [(fr, dd fr)] := rfl
 refine ⟨e, ?_⟩
 rw [<- e]
 exact (Zco.nil ms ls dd).see hf
theorem ZiQ {dd : Int -> Int} {s : List Ht} (h : Zbp dd s) {x : Int} (hx : x ∈ Zav s) (hl : ∀ y ∈ Zav s, leH (x, dd x) (y, dd y)) : 0 < s.length /\ Zf s 0 = (x, dd x) := by
 obtain ⟨k, hk, e⟩ := Zdf hx
 have h0 : 0 < s.length := by omega
 refine ⟨h0, ?_⟩
 have hf0 := h.far _ (ZbY h0)
 have hfk := h.far _ (ZbY hk)
 have e0 : Zf s 0 = ((Zf s 0).1, dd (Zf s 0).1) := by rw [<- hf0]
 have ek : Zf s k = (x, dd x) := by rw [<- e, <- hfk]
 refine ZcH ?_ (by rw [e0]; exact hl _ (Zcn h0))
 rw [<- ek]
 rcases Nat.eq_zero_or_pos k with c | c
 · rw [c]; exact ZaD _
 · have := List.pairwise_iff_getElem.1 h.so _ _ h0 hk c
   simpa [Zf, List.getD, h0, hk] using this
theorem Zjo {dd : Int -> Int} {s : List Ht} (h : Zbp dd s) {x : Int} (hx : x ∈ Zav s) : leH (Zf s 0) (x, dd x) := by
 obtain ⟨k, hk, e⟩ := Zdf hx
 have h0 : 0 < s.length := by omega
 have hfk := h.far _ (ZbY hk)
 have ek : Zf s k = (x, dd x) := by rw [<- e, <- hfk]
 rw [<- ek]
 rcases Nat.eq_zero_or_pos k with c | c
 · rw [c]; exact ZaD _
 · have := List.pairwise_iff_getElem.1 h.so _ _ h0 hk c
   simpa [Zf, List.getD, h0, hk] using this
theorem LkTo.walk {ms : List Mk} {ls : List (List Int)} (hw : ZR ms ls = true) {q : List Int} {fr : Int} (hf : 0 <= Zk ms fr) {s : List Ht} {op : List Int} (h : LkTo ms ls (ZcB ms q) 1 [(fr, ZcB ms q fr)] [] s op) :
 ∃ x, 0 < s.length /\ Zf s 0 = (x, ZcB ms q x) /\ 0 <= Zk ms x /\ ((x ∉ op /\ Zac ms ls q fr = op ++ Zac ms ls q x) \/ (x ∈ op /\ Zac ms ls q fr = op)) := by
 have hok0 := (ZcA (ls := ls) (dd := ZcB ms q) hf).2
 induction h with
 | refl => exact ⟨fr, by simp, rfl, hf, Or.inl ⟨by simp, by simp⟩⟩
 | @step s op h1 h2 ih =>
   obtain ⟨x, hl, e0, hx, hc⟩ := ih
   have hok := h1.ok hw hok0
   have hmin : min s.length 1 = 1 := by omega
   have hxs : x ∈ Zav s := by have := Zcn hl; rw [e0] at this; exact this
   rcases hc with ⟨hno, hwk⟩ | ⟨hyes, -⟩
   · have ho : ZA s op (min s.length 1) = 0 := by
      rw [hmin]
      simp only [ZA, e0]
      rw [if_neg (by omega), if_neg (by rw [(Zbj _ _).2 hno]; simp)]
      rfl
     have hn : ZbI s op 1 = x := by unfold ZbI; rw [ho]; simp [e0]
     rw [hn]
     have hok' := hok.opened hw hxs hno
     obtain ⟨-, hmem⟩ := ZcV hok.look (cn ls (Zn ms x))
     obtain ⟨s1, s2, s3⟩ := Zcl ms ls q x
     have hle : leH (Zl ms q (ZS ms ls q x)) (Zl ms q x) := by
      rcases s1 with e | ⟨-, e⟩
      · rw [e]; exact ZaD _
      · exact Za1 e
     have hin : ZS ms ls q x ∈ Zav (Zbq (ZcB ms q) s (cn ls (Zn ms x))) := by
      rcases s1 with e | ⟨e, -⟩
      · rw [e]; exact (hmem x).2 (Or.inr hxs)
      · exact (hmem _).2 (Or.inl e)
     obtain ⟨k1, k2⟩ := ZiQ hok'.look hin (fun y hy => by
      rcases (hmem y).1 hy with e | e
      · exact s3 y e
      · have := Zjo hok.look e
        rw [e0] at this
        exact Za0 hle this)
     refine ⟨ZS ms ls q x, k1, k2, ZbX hw hx, ?_⟩
     by_cases hs : ZS ms ls q x = x
     · right
       refine ⟨by rw [hs]; simp, ?_⟩
       rw [hwk, Zdd hs]
     · left
       have ha : Zu (Zl ms q (ZS ms ls q x)) (Zl ms q x) = true := by
        rcases s1 with e | ⟨-, e⟩
        · exact absurd e hs
        · exact e
       refine ⟨fun hm => ?_, ?_⟩
       · rcases List.mem_append.1 hm with e | e
         · have := Zjo hok.look (hok.sub _ e)
           rw [e0] at this
           have := (ZF _ _).2 this
           rw [show ((ZS ms ls q x, ZcB ms q (ZS ms ls q x)) : Ht) = Zl ms q (ZS ms ls q x) from rfl, show ((x, ZcB ms q x) : Ht) = Zl ms q x from rfl, ha] at this
           cases this
         · simp at e; exact hs e
       · rw [hwk, ZdC hw hx hs]; simp
   · exfalso
     have hlt : ZA s op (min s.length 1) < 0 := by
      rw [hmin]
      simp only [ZA, e0]
      rw [if_neg (by omega), if_pos ((ZI _ _).2 hyes)]
      omega
     omega
theorem ZjR {ms : List Mk} {ls : List (List Int)} (hw : ZR ms ls = true) {q : List Int} {fr : Int} (hf : 0 <= Zk ms fr) {s : List Ht} {op : List Int} (h : LkTo ms ls (ZcB ms q) 1 [(fr, ZcB ms q fr)] [] s op) (he : ZA s op (min s.length 1) < 0) : Zac ms ls q fr = op := by
 obtain ⟨x, hl, e0, -, hc⟩ := h.walk hw hf
 rcases hc with ⟨hno, -⟩ | ⟨-, e⟩
 · exfalso
   have hmin : min s.length 1 = 1 := by omega
   rw [hmin] at he
   simp only [ZA, e0] at he
   rw [if_neg (by omega), if_neg (by rw [(Zbj _ _).2 hno]; simp)] at he
   omega
 · exact e
theorem ZlJ (l : List Int) (n : Int) : (Zba l n).length <= l.length + 1 := by
 induction l with
 | nil => simp [Zba]
 | cons x l ih =>
   simp only [Zba]
   split
   · simp; omega
   · split <;> simp
theorem Zh7 (ids acc : List Int) : (ids.foldl Zba acc).length <= acc.length + ids.length := by
 induction ids generalizing acc with
 | nil => simp
 | cons x ids ih =>
   have h1 := ih (Zba acc x)
   have h2 := ZlJ acc x
   simp only [List.foldl_cons, List.length_cons]
   omega
def ZeU (ms : List Mk) (ls : List (List Int)) (ids : List Int) (y : Int) : List (List Int) := (List.range ms.length).map (ZdH ms ls ids y)
theorem Zd3 (ms : List Mk) (ls : List (List Int)) (ids : List Int) (y : Int) : (ZeU ms ls ids y).length = ms.length := by simp [ZeU]
theorem ZeB {ms : List Mk} {ls : List (List Int)} {ids : List Int} {y : Int} {j : Nat} (h : j < ms.length) : (ZeU ms ls ids y)[j]? = some (ZdH ms ls ids y j) := by simp [ZeU, h]
theorem ZkX {ms : List Mk} {ls : List (List Int)} (hl : ls.length = ms.length) (y : Int) : ZeU ms ls [] y = ls := by
 apply List.ext_getElem?
 intro k
 rcases Nat.lt_or_ge k ms.length with h | h
 · rw [ZeB h]
   have h' : k < ls.length := by omega
   simp [ZdH, ZY, cn, List.getD, h']
 · rw [List.getElem?_eq_none (by rw [Zd3]; exact h), List.getElem?_eq_none (by omega)]
theorem ZhH {ids : List Int} {i : Nat} (h : i < ids.length) (z : Int) : z ∈ ids.take (i + 1) ↔ z ∈ ids.take i \/ z = nth ids i := by
 rw [List.take_add_one, List.mem_append]
 have e : ids[i]?.toList = [nth ids i] := by simp [nth, List.getD, h]
 rw [e]; simp
theorem ZiR {ids : List Int} (hd : ids.Nodup) {i : Nat} (h : i < ids.length) : nth ids i ∉ ids.take i := by
 intro hm
 obtain ⟨k, hk, e⟩ := List.mem_iff_getElem.1 hm
 rw [List.length_take] at hk
 rw [List.getElem_take] at e
 have e2 : nth ids i = ids[i] := by simp [nth, List.getD, h]
 rw [e2] at e
 have := List.pairwise_iff_getElem.1 hd k i (by omega) h (by omega)
 exact this e
theorem ZfO {ms : List Mk} {ls : List (List Int)} (hm : Zm ms = true) {ids : List Int} (hd : ids.Nodup) {i j : Nat} (hi : i < ids.length) (hj : j < ms.length) (hx : nth ids i = mid ms j) (y : Int) :
 ZdH ms ls (ids.take i) y j = cn ls j /\ (ZeU ms ls (ids.take i) y).set j (cn ls j ++ [y]) = ZeU ms ls (ids.take (i + 1)) y := by
 have hno : ZY (ids.take i) (mid ms j) = false := by rw [Zbj, <- hx]; exact ZiR hd hi
 refine ⟨by simp [ZdH, hno], ?_⟩
 apply List.ext_getElem?
 intro k
 rcases Nat.lt_or_ge k ms.length with h | h
 · rw [ZeB h]
   by_cases hk : j = k
   · subst hk
     rw [List.getElem?_set_self (by rw [Zd3]; exact h)]
     have : ZY (ids.take (i + 1)) (mid ms j) = true := by rw [ZI, ZhH hi]; exact Or.inr hx.symm
     simp [ZdH, this]
   · rw [List.getElem?_set_ne hk, ZeB h]
     have : ZY (ids.take (i + 1)) (mid ms k) = ZY (ids.take i) (mid ms k) := by
      rw [Bool.eq_iff_iff, ZI, ZI, ZhH hi, hx]
      constructor
      · rintro (e | e)
        · exact e
        · exact absurd (Ze0 hm h hj e).symm hk
      · exact Or.inl
     simp [ZdH, this]
 · rw [List.getElem?_eq_none (by rw [List.length_set, Zd3]; exact h), List.getElem?_eq_none (by rw [Zd3]; exact h)]
theorem ZkY (ms : List Mk) (ls : List (List Int)) (ids : List Int) (y : Int) : ZeU ms ls ids y ++ [Zgj ids] = Zey ms ls ids y := rfl
theorem ZgX {ms : List Mk} (hm : Zm ms = true) (p : List Int) (most : Int) : (ZdO ms p most).Nodup := by
 unfold ZdO ZW
 split
 · have h1 : ((ZM ms p).map (fun h => h.1)).Nodup := by
    rw [ZM, List.map_map, List.Nodup, List.pairwise_map, List.pairwise_iff_getElem]
    intro i j hi hj hij e
    have := Zbu hm hij hj
    have e1 : mid ms i = ms[i].1 := by simp [mid, List.getD, hi]
    have e2 : mid ms j = ms[j].1 := by simp [mid, List.getD, hj]
    have e' : ms[i].1 = ms[j].1 := e
    omega
   have h2 : ((ZQ (ZM ms p)).map (fun h => h.1)).Nodup := (((ZU (ZM ms p)).map (fun h => h.1)).nodup_iff).2 h1
   rw [List.map_take]
   exact List.Nodup.sublist (List.take_sublist _ _) h2
 · simp
theorem Zh6 (ms : List Mk) (q : List Int) (k : Int) : (ZW ms q k).length <= 60 := by
 unfold ZW
 split
 · rename_i h
   rw [List.length_take]
   have : ZE k = true := h.2
   simp [ZE] at this
   omega
 · simp
def ZbK (l : List Ht) (i j : Nat) : List Ht := (l.set i (Zf l j)).set j (Zf l i)
theorem Zbk (l : List Ht) (i j : Nat) : (ZbK l i j).length = l.length := by simp [ZbK]
theorem ZhI (l : List Ht) (i k : Nat) (x : Ht) (hk : k < l.length) : Zf (l.set i x) k = if k = i then x else Zf l k := by
 unfold Zf
 by_cases h : k = i
 · subst h; simp [List.getD, hk]
 · simp [List.getD, h, Ne.symm h]
theorem ZdW (l : List Ht) (i j k : Nat) (_hi : i < l.length) (_hj : j < l.length) (hk : k < l.length) : Zf (ZbK l i j) k = if k = j then Zf l i else if k = i then Zf l j else Zf l k := by
 unfold ZbK
 rw [ZhI _ _ _ _ (by simp; exact hk)]
 split
 · rfl
 · rw [ZhI _ _ _ _ hk]
theorem Zfa (l : List Ht) (i j : Nat) (hi : i < l.length) (hj : j < l.length) : (ZbK l i j).Perm l := by
 have e1 : Zf l j = l[j] := by simp [Zf, List.getD, hj]
 have e2 : Zf l i = l[i] := by simp [Zf, List.getD, hi]
 unfold ZbK
 rw [e1, e2]
 exact List.set_set_perm hi hj
def par (c : Nat) : Nat := (c - 1) / 2
def ZbL (l : List Ht) (n : Nat) : Prop := ∀ c, 0 < c -> c < n -> leH (Zf l (par c)) (Zf l c)
def ZnD (l : List Ht) (n i : Nat) : Prop := (∀ c, 0 < c -> c < n -> par c ≠ i -> leH (Zf l (par c)) (Zf l c)) /\ ∀ c, 0 < c -> c < n -> par c = i -> 0 < i -> leH (Zf l (par i)) (Zf l c)
theorem Ziv {l : List Ht} {n : Nat} (h : ZbL l n) (c : Nat) (hc : c < n) : leH (Zf l 0) (Zf l c) := by
 induction c using Nat.strongRecOn with
 | _ c ih =>
   rcases Nat.eq_zero_or_pos c with h0 | h0
   · subst h0; exact ZaD _
   · have hp : par c < c := by unfold par; omega
     exact Za0 (ih (par c) hp (by omega)) (h c h0 hc)
theorem ZiS {l : List Ht} {n : Nat} (h : ZbL l (n + 1)) (hn : n < l.length) : ZnD (ZbK l 0 n) n 0 := by
 have at' : ∀ k, k < n -> Zf (ZbK l 0 n) k = if k = n then Zf l 0 else if k = 0 then Zf l n else Zf l k := fun k hk => ZdW l 0 n k (by omega) (by omega) (by omega)
 refine ⟨fun c h0 hc hne => ?_, fun c h0 hc hp h1 => by omega⟩
 have hpc : par c < c := by unfold par; omega
 rw [at' c hc, at' (par c) (by omega), if_neg (show ¬ c = n by omega), if_neg (show ¬ c = 0 by omega), if_neg (show ¬ par c = n by omega), if_neg hne]
 exact h c h0 (by omega)
def ZfX (s : Nat) (l : List Ht) (n : Nat) : Prop := ∀ c, 0 < c -> c < n -> s <= par c -> leH (Zf l (par c)) (Zf l c)
def Zfb (s : Nat) (l : List Ht) (n i : Nat) : Prop := (∀ c, 0 < c -> c < n -> s <= par c -> par c ≠ i -> leH (Zf l (par c)) (Zf l c)) /\ ∀ c, 0 < c -> c < n -> par c = i -> 0 < i -> s <= par i -> leH (Zf l (par i)) (Zf l c)
theorem Zfd {l : List Ht} {n : Nat} (h : ZfX 0 l n) : ZbL l n := fun c h0 hc => h c h0 hc (Nat.zero_le _)
theorem Zir (l : List Ht) (n : Nat) : ZfX (n / 2) l n := fun c h0 hc hp => by exfalso; unfold par at hp; omega
theorem Zis {l : List Ht} {n i : Nat} (h : ZfX (i + 1) l n) : Zfb i l n i :=
 ⟨fun c h0 hc hp hne => h c h0 hc (by omega), fun c h0 hc hp hi hs => by exfalso; unfold par at hs; omega⟩
theorem Zj2 {l : List Ht} {n : Nat} (h : ZbL l (n + 1)) (hn : n < l.length) : Zfb 0 (ZbK l 0 n) n 0 := by
 obtain ⟨h1, h2⟩ := ZiS h hn
 exact ⟨fun c h0 hc _ hne => h1 c h0 hc hne, fun c h0 hc hp hi _ => h2 c h0 hc hp hi⟩
theorem ZcD {s : Nat} {l : List Ht} {n i : Nat} (h : Zfb s l n i) (hc : ∀ c, 0 < c -> c < n -> par c = i -> leH (Zf l i) (Zf l c)) : ZfX s l n := fun c h0 h1 h2 => by
 by_cases e : par c = i
 · rw [e]; exact hc c h0 h1 e
 · exact h.1 c h0 h1 h2 e
theorem ZdE {s : Nat} {l : List Ht} {n i j : Nat} (h : Zfb s l n i) (hs : s <= i) (hn : n <= l.length) (hj : j < n) (hj0 : 0 < j) (hp : par j = i) (hmin : ∀ c, 0 < c -> c < n -> par c = i -> leH (Zf l j) (Zf l c)) (ha : Zu (Zf l j) (Zf l i) = true) : Zfb s (ZbK l i j) n j := by
 have hij : i < j := by rw [<- hp]; unfold par; omega
 have hle := Za1 ha
 have at' : ∀ k, k < n -> Zf (ZbK l i j) k = if k = j then Zf l i else if k = i then Zf l j else Zf l k := fun k hk => ZdW l i j k (by omega) (by omega) (by omega)
 refine ⟨fun c hc0 hc hsc hne => ?_, fun c hc0 hc hpc hp0 hsp => ?_⟩
 · have hpc : par c < c := by unfold par; omega
   rw [at' c hc, at' (par c) (by omega), if_neg hne]
   by_cases e1 : c = j
   · rw [if_pos e1, if_pos (by rw [e1]; exact hp)]; exact hle
   · rw [if_neg e1]
     by_cases e2 : c = i
     · rw [if_pos e2]
       have e3 : par c ≠ i := by omega
       rw [if_neg e3]
       have := h.2 j hj0 hj hp (by omega) (by rw [<- e2]; exact hsc)
       rw [<- e2] at this
       exact this
     · rw [if_neg e2]
       by_cases e3 : par c = i
       · rw [if_pos e3]; exact hmin c hc0 hc e3
       · rw [if_neg e3]; exact h.1 c hc0 hc hsc e3
 · have hpc2 : par c < c := by unfold par; omega
   rw [hp, at' c hc, at' i (by omega), if_neg (show ¬ c = j by omega), if_neg (show ¬ c = i by omega), if_neg (show ¬ i = j by omega), if_pos rfl]
   have := h.1 c hc0 hc (by omega) (by omega)
   rw [hpc] at this
   exact this
theorem kids (c i : Nat) (h0 : 0 < c) (hp : par c = i) : c = 2 * i + 1 \/ c = 2 * i + 2 := by unfold par at hp; omega
end Go.Proofs.YtaaagmgglolibaaGreat
