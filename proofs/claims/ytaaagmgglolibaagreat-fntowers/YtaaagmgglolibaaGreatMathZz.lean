namespace Go.Proofs.YtaaagmgglolibaaGreat
def nth (xs : List Int) (i : Nat) : Int := xs.getD i 0
def inB (x : Int) : Bool := decide (-1000 <= x) && decide (x <= 1000)
def okB (xs : List Int) : Bool := decide (1 <= xs.length) && decide (xs.length <= 4) && xs.all inB
def Zbr (a b : List Int) : Bool := okB a && okB b && decide (a.length = b.length)
def ZB (f : Nat -> Int) : Nat -> Int
 | 0 => 0
 | k + 1 => ZB f k + f k
def ZaD (f : Nat -> Int) : Nat -> Int
 | 0 => 0
 | k + 1 => max (ZaD f k) (f k)
def sqF (a b : List Int) (i : Nat) : Int := (nth a i - nth b i) * (nth a i - nth b i)
def Zbu (a b : List Int) (i : Nat) : Int := max (nth a i - nth b i) (nth b i - nth a i)
def ZO (a b : List Int) : Int := if Zbr a b = true then ZB (sqF a b) a.length else -1
def Zat (a b : List Int) : Int := if Zbr a b = true then ZB (Zbu a b) a.length else -1
def ZaN (a b : List Int) : Int := if Zbr a b = true then ZaD (Zbu a b) a.length else -1
def ZaW (f : Nat -> Int) (n : Nat) : List Int := (List.range n).map f
theorem Zkd (x : Int) : inB x = true ↔ -1000 <= x /\ x <= 1000 := by simp [inB]
theorem ZbS {xs : List Int} (h : okB xs = true) : 1 <= xs.length /\ xs.length <= 4 := by
 simp [okB] at h; omega
theorem ZcI {xs : List Int} (h : okB xs = true) (i : Nat) : -1000 <= nth xs i /\ nth xs i <= 1000 := by
 simp only [okB, Bool.and_eq_true, List.all_eq_true] at h
 by_cases hi : i < xs.length
 · have := h.2 xs[i] (List.getElem_mem hi)
   rw [Zkd] at this
   simpa [nth, List.getD, hi] using this
 · simp [nth, List.getD, hi]
theorem Zom {xs : List Int} (h1 : 1 <= xs.length) (h4 : xs.length <= 4) (h : ∀ i, i < xs.length -> -1000 <= nth xs i /\ nth xs i <= 1000) : okB xs = true := by
 simp only [okB, Bool.and_eq_true, List.all_eq_true, decide_eq_true_eq]
 refine ⟨⟨h1, h4⟩, fun x hx => ?_⟩
 obtain ⟨i, hi, rfl⟩ := List.getElem_of_mem hx
 rw [Zkd]
 have := h i hi
 simpa [nth, List.getD, hi] using this
theorem Zkn {xs : List Int} (h : xs.length < 1) : okB xs = false := by simp [okB]; omega
theorem ZlE {xs : List Int} (h : 4 < xs.length) : okB xs = false := by simp [okB]; omega
theorem ZjQ {xs : List Int} (i : Nat) (h : nth xs i < -1000 \/ 1000 < nth xs i) : okB xs = false := by
 rcases hb : okB xs with _ | _
 · rfl
 · have := ZcI hb i; omega
theorem Zb8 {a b : List Int} (h : Zbr a b = true) : okB a = true /\ okB b = true /\ a.length = b.length := by
 simp [Zbr] at h; exact ⟨h.1.1, h.1.2, h.2⟩
theorem ZbU (f : Nat -> Int) (lo hi : Int) (h : ∀ i, lo <= f i /\ f i <= hi) (k : Nat) : lo * k <= ZB f k /\ ZB f k <= hi * k := by
 induction k with
 | zero => simp [ZB]
 | succ k ih =>
   have := h k
   simp only [ZB]
   rw [show ((k + 1 : Nat) : Int) = (k : Int) + 1 by omega, Int.mul_add, Int.mul_add]
   omega
theorem ZfP (f : Nat -> Int) (hi : Int) (h0 : 0 <= hi) (h : ∀ i, f i <= hi) (k : Nat) : 0 <= ZaD f k /\ ZaD f k <= hi := by
 induction k with
 | zero => simp [ZaD]; exact h0
 | succ k ih => have := h k; simp only [ZaD]; omega
theorem Zdv (x : Int) : 0 <= x * x := by
 rcases Int.le_total 0 x with h | h
 · exact Int.mul_nonneg h h
 · have := Int.mul_nonneg (a := -x) (b := -x) (by omega) (by omega)
   rwa [Int.neg_mul_neg] at this
theorem ZlI {x y m : Int} (_hm : 0 <= m) (hx : -m <= x /\ x <= m) (hy : -m <= y /\ y <= m) : -(m * m) <= x * y /\ x * y <= m * m := by
 have a1 := Int.mul_nonneg (a := m - x) (b := m + y) (by omega) (by omega)
 have a2 := Int.mul_nonneg (a := m + x) (b := m - y) (by omega) (by omega)
 have a3 := Int.mul_nonneg (a := m - x) (b := m - y) (by omega) (by omega)
 have a4 := Int.mul_nonneg (a := m + x) (b := m + y) (by omega) (by omega)
 simp only [Int.mul_add, Int.add_mul, Int.mul_sub, Int.sub_mul] at a1 a2 a3 a4
 rw [Int.mul_comm m y] at *
 generalize x * y = p at *
 generalize x * m = q at *
 generalize y * m = r at *
 generalize m * m = s at *
 omega
theorem Zfh {a b : List Int} (ha : okB a = true) (hb : okB b = true) (i : Nat) : 0 <= sqF a b i /\ sqF a b i <= 4000000 := by
 have h1 := ZcI ha i; have h2 := ZcI hb i
 refine ⟨Zdv _, ?_⟩
 have := (ZlI (x := nth a i - nth b i) (y := nth a i - nth b i) (m := 2000) (by omega) (by omega) (by omega)).2
 simpa [sqF] using this
theorem ZcU {a b : List Int} (ha : okB a = true) (hb : okB b = true) (i : Nat) : 0 <= Zbu a b i /\ Zbu a b i <= 2000 := by
 have h1 := ZcI ha i; have h2 := ZcI hb i
 unfold Zbu; omega
theorem ZC (f : Nat -> Int) (n : Nat) : (ZaW f n).length = n := by simp [ZaW]
theorem Zep (f : Nat -> Int) (n i : Nat) (h : i < n) : nth (ZaW f n) i = f i := by simp [nth, ZaW, List.getD, h]
theorem Zgm (f : Nat -> Int) (n : Nat) : ZaW f (n + 1) = ZaW f n ++ [f n] := by simp [ZaW, List.range_succ]
theorem Zcu (f g : Nat -> Int) (n : Nat) (h : ∀ i, i < n -> f i = g i) : ZB f n = ZB g n := by
 induction n with
 | zero => rfl
 | succ n ih => simp only [ZB]; rw [ih (fun i hi => h i (by omega)), h n (by omega)]
theorem Zca {a b : List Int} (ha : okB a = true) (hb : okB b = true) (hl : a.length = b.length) : Zbr a b = true := by simp [Zbr, ha, hb, hl]
theorem Zgo {a b : List Int} (ha : okB a = false) : Zbr a b = false := by simp [Zbr, ha]
theorem Zfg {a b : List Int} (hb : okB b = false) : Zbr a b = false := by simp [Zbr, hb]
theorem Zhz {a b : List Int} (hl : ¬ a.length = b.length) : Zbr a b = false := by simp [Zbr, hl]
set_option linter.unusedSimpArgs false
theorem ZfQ {xs ys : List Int} (hl : xs.length = ys.length) (h : ∀ j, j < xs.length -> nth xs j = nth ys j) : xs = ys := by
 apply List.ext_getElem hl
 intro i h1 h2
 have := h i h1
 simpa [nth, List.getD, h1, h2] using this
theorem ZnS (a b : List Int) (i : Nat) : sqF a b i = Zbu a b i * Zbu a b i := by
 unfold sqF Zbu
 rcases Int.le_total (nth a i - nth b i) (nth b i - nth a i) with h | h
 · rw [Int.max_eq_right h, show nth b i - nth a i = -(nth a i - nth b i) by omega, Int.neg_mul_neg]
 · rw [Int.max_eq_left h]
theorem Zk5 (f g h : Nat -> Int) (H : ∀ i, f i <= g i + h i) (n : Nat) : ZB f n <= ZB g n + ZB h n := by
 induction n with
 | zero => simp [ZB]
 | succ n ih => have := H n; simp only [ZB]; omega
theorem Zk6 (f g h : Nat -> Int) (H : ∀ i, f i <= g i + h i) (n : Nat) : ZaD f n <= ZaD g n + ZaD h n := by
 induction n with
 | zero => simp [ZaD]
 | succ n ih => have := H n; simp only [ZaD]; omega
theorem ZgH (a b c : List Int) (i : Nat) : Zbu a b i <= Zbu a c i + Zbu c b i := by unfold Zbu; omega
theorem Zjm (g : Nat -> Int) (h : ∀ i, 0 <= g i) (n : Nat) : ZaD g n <= ZB g n := by
 have h0 : ∀ n, 0 <= ZB g n := fun n => by
  induction n with
  | zero => simp [ZB]
  | succ n ih => have := h n; simp only [ZB]; omega
 induction n with
 | zero => simp [ZaD, ZB]
 | succ n ih => have := h n; have := h0 n; simp only [ZaD, ZB]; omega
theorem Zjn (g : Nat -> Int) (n : Nat) : ZB g n <= n * ZaD g n := by
 induction n with
 | zero => simp [ZB]
 | succ n ih =>
   simp only [ZB, ZaD]
   have h1 : (n : Int) * ZaD g n <= n * max (ZaD g n) (g n) := Int.mul_le_mul_of_nonneg_left (by omega) (by omega)
   rw [show ((n + 1 : Nat) : Int) = (n : Int) + 1 by omega, Int.add_mul]
   omega
theorem Zhg (g : Nat -> Int) (n : Nat) : 0 <= ZB (fun i => g i * g i) n := by
 induction n with
 | zero => simp [ZB]
 | succ n ih => have := Zdv (g n); simp only [ZB]; omega
theorem ZoQ (g : Nat -> Int) (n : Nat) : ZaD g n * ZaD g n <= ZB (fun i => g i * g i) n := by
 induction n with
 | zero => simp [ZaD, ZB]
 | succ n ih =>
   simp only [ZaD, ZB]
   have h1 := Zdv (g n)
   have h2 := Zhg g n
   rcases Int.le_total (ZaD g n) (g n) with h | h
   · rw [Int.max_eq_right h]; omega
   · rw [Int.max_eq_left h]; omega
theorem Zie (g : Nat -> Int) (h : ∀ i, 0 <= g i) (n : Nat) : 0 <= ZB g n /\ ZB (fun i => g i * g i) n <= ZB g n * ZB g n := by
 induction n with
 | zero => simp [ZB]
 | succ n ih =>
   have h1 := h n
   have h2 := Int.mul_nonneg ih.1 h1
   simp only [ZB]
   refine ⟨by omega, ?_⟩
   rw [Int.mul_add, Int.add_mul, Int.add_mul, Int.mul_comm (g n) (ZB g n)]
   omega
theorem Zk7 (g : Nat -> Int) (n : Nat) : ZB g n * ZB g n <= n * ZB (fun i => g i * g i) n := by
 induction n with
 | zero => simp [ZB]
 | succ n ih =>
   simp only [ZB]
   generalize hs : ZB g n = s at *
   generalize hq : ZB (fun i => g i * g i) n = q at *
   generalize hx : g n = x at *
   rcases Nat.eq_zero_or_pos n with h0 | h0
   · subst h0
     have e1 : s = 0 := by rw [<- hs]; rfl
     have e2 : q = 0 := by rw [<- hq]; rfl
     rw [e1, e2]; simp
   · have hk : (0 : Int) < (n : Int) := by omega
     rw [show ((n + 1 : Nat) : Int) = (n : Int) + 1 by omega]
     generalize (n : Int) = k at *
     have h1 : 0 <= k * (q + k * (x * x) - 2 * (s * x)) := by
      have := Zdv (s - k * x)
      have e : (s - k * x) * (s - k * x) = s * s + k * (k * (x * x) - 2 * (s * x)) := by (try simp only [Int.two_mul]); simp only [Int.mul_add, Int.add_mul, Int.mul_sub, Int.sub_mul, Int.one_mul, Int.mul_one, Int.mul_comm, Int.mul_left_comm, Int.mul_assoc]; omega
      have e2 : k * (q + k * (x * x) - 2 * (s * x)) = k * q + k * (k * (x * x) - 2 * (s * x)) := by (try simp only [Int.two_mul]); simp only [Int.mul_add, Int.add_mul, Int.mul_sub, Int.sub_mul, Int.one_mul, Int.mul_one, Int.mul_comm, Int.mul_left_comm, Int.mul_assoc]; omega
      omega
     have h2 : 0 <= q + k * (x * x) - 2 * (s * x) := by
      rcases Int.lt_or_le (q + k * (x * x) - 2 * (s * x)) 0 with h | h
      · have := Int.mul_lt_mul_of_pos_left h hk
        omega
      · exact h
     have e3 : (s + x) * (s + x) = s * s + 2 * (s * x) + x * x := by (try simp only [Int.two_mul]); simp only [Int.mul_add, Int.add_mul, Int.mul_sub, Int.sub_mul, Int.one_mul, Int.mul_one, Int.mul_comm, Int.mul_left_comm, Int.mul_assoc]; omega
     have e4 : (k + 1) * (q + x * x) = k * q + q + k * (x * x) + x * x := by (try simp only [Int.two_mul]); simp only [Int.mul_add, Int.add_mul, Int.mul_sub, Int.sub_mul, Int.one_mul, Int.mul_one, Int.mul_comm, Int.mul_left_comm, Int.mul_assoc]; omega
     omega
theorem ZmG (g : Nat -> Int) (h : ∀ i, 0 <= g i) (n : Nat) (hz : ZB g n = 0) : ∀ i, i < n -> g i = 0 := by
 induction n with
 | zero => intro i hi; omega
 | succ n ih =>
   have h1 := h n
   have h2 := (Zie g h n).1
   simp only [ZB] at hz
   intro i hi
   rcases Nat.lt_or_ge i n with h3 | h3
   · exact ih (by omega) i h3
   · rw [show i = n by omega]; omega
theorem third {a b c : List Int} (hab : Zbr a b = true) (hac : Zbr a c = true) :
 0 <= Zat a b /\ Zat a b <= 8000 /\ 0 <= ZaN a b /\ ZaN a b <= 2000 /\ 0 <= ZO a b /\ ZO a b <= 16000000 /\
 0 <= Zat a c /\ Zat a c <= 8000 /\ 0 <= Zat c b /\ Zat c b <= 8000 /\ 0 <= ZaN a c /\ ZaN a c <= 2000 /\ 0 <= ZaN c b /\ ZaN c b <= 2000 /\
 (Zat a b = 0 ↔ a = b) /\ Zat a b <= Zat a c + Zat c b /\ ZaN a b <= ZaN a c + ZaN c b /\ ZaN a b <= Zat a b /\
 Zat a b <= a.length * ZaN a b /\ ZaN a b * ZaN a b <= ZO a b /\ ZO a b <= Zat a b * Zat a b /\ Zat a b * Zat a b <= a.length * ZO a b := by
 obtain ⟨ha, hb, hl⟩ := Zb8 hab
 obtain ⟨_, hc, hl'⟩ := Zb8 hac
 have hcb : Zbr c b = true := Zca hc hb (by omega)
 have h4 := ZbS ha
 have e1 : Zat a b = ZB (Zbu a b) a.length := by unfold Zat; rw [if_pos hab]
 have e2 : ZaN a b = ZaD (Zbu a b) a.length := by unfold ZaN; rw [if_pos hab]
 have e3 : ZO a b = ZB (fun i => Zbu a b i * Zbu a b i) a.length := by unfold ZO; rw [if_pos hab]; exact Zcu _ _ _ (fun i _ => ZnS a b i)
 have e4 : Zat a c = ZB (Zbu a c) a.length := by unfold Zat; rw [if_pos hac]
 have e5 : Zat c b = ZB (Zbu c b) a.length := by unfold Zat; rw [if_pos hcb, hl']
 have e6 : ZaN a c = ZaD (Zbu a c) a.length := by unfold ZaN; rw [if_pos hac]
 have e7 : ZaN c b = ZaD (Zbu c b) a.length := by unfold ZaN; rw [if_pos hcb, hl']
 have e8 : ZO a b = ZB (sqF a b) a.length := by unfold ZO; rw [if_pos hab]
 have hab0 := fun i => (ZcU ha hb i).1
 have b1 := ZbU (Zbu a b) 0 2000 (ZcU ha hb) a.length
 have b2 := ZfP (Zbu a b) 2000 (by omega) (fun i => (ZcU ha hb i).2) a.length
 have b3 := ZbU (sqF a b) 0 4000000 (Zfh ha hb) a.length
 have b4 := ZbU (Zbu a c) 0 2000 (ZcU ha hc) a.length
 have b5 := ZbU (Zbu c b) 0 2000 (ZcU hc hb) a.length
 have b6 := ZfP (Zbu a c) 2000 (by omega) (fun i => (ZcU ha hc i).2) a.length
 have b7 := ZfP (Zbu c b) 2000 (by omega) (fun i => (ZcU hc hb i).2) a.length
 refine ⟨by omega, by omega, by omega, by omega, by omega, by omega, by omega, by omega, by omega, by omega, by omega, by omega, by omega, by omega, ?_, ?_, ?_, ?_, ?_, ?_, ?_, ?_⟩
 · rw [e1]
   constructor
   · intro hz
     refine ZfQ hl (fun j hj => ?_)
     have := ZmG (Zbu a b) hab0 a.length hz j hj
     unfold Zbu at this; omega
   · rintro rfl
     have : ZB (Zbu a a) a.length = ZB (fun _ => 0) a.length := Zcu _ _ _ (fun i _ => by unfold Zbu; omega)
     rw [this]
     have := ZbU (fun _ => (0 : Int)) 0 0 (fun _ => ⟨Int.le_refl _, Int.le_refl _⟩) a.length
     omega
 · rw [e1, e4, e5]; exact Zk5 _ _ _ (ZgH a b c) _
 · rw [e2, e6, e7]; exact Zk6 _ _ _ (ZgH a b c) _
 · rw [e1, e2]; exact Zjm _ hab0 _
 · rw [e1, e2]; exact Zjn _ _
 · rw [e2, e3]; exact ZoQ _ _
 · rw [e1, e3]; exact (Zie _ hab0 _).2
 · rw [e1, e3]; exact Zk7 _ _
abbrev Mk := Int × List Int
def mid (ms : List Mk) (i : Nat) : Int := (ms.getD i (0, [])).1
def mat (ms : List Mk) (i : Nat) : List Int := (ms.getD i (0, [])).2
def Zb7 (ms : List Mk) (i : Nat) : Bool :=
 decide (1 <= mid ms i) && decide (mid ms i <= 1000000) && okB (mat ms i) && decide ((mat ms i).length = (mat ms 0).length) && (decide (i = 0) || decide (mid ms (i - 1) < mid ms i))
def Zk (ms : List Mk) : Bool := decide (ms.length <= 60) && (List.range ms.length).all (Zb7 ms)
def Zoe (k : Int) : Bool := decide (1 <= k) && decide (k <= 3)
def betV (a b : List Int) (k : Int) : Int := if k = 1 then ZO a b else if k = 2 then Zat a b else if k = 3 then ZaN a b else -1
def betF (ms : List Mk) (p : List Int) (k : Int) (i : Nat) : Int := betV p (mat ms i) k
def mostV (ms : List Mk) (p : List Int) (k : Int) : Int := ZaD (betF ms p k) ms.length
def ZmH (ms : List Mk) (k : Int) (i : Nat) : Int := mostV ms (mat ms i) k
def Zof (ms : List Mk) (k : Int) : Bool := decide (ms.length = 0) || !Zk ms || !Zoe k
def diaV (ms : List Mk) (k : Int) : Int := if Zof ms k = true then -1 else ZaD (ZmH ms k) ms.length
def ZmI (ms : List Mk) (k : Int) : Nat -> Nat
 | 0 => 0
 | n + 1 => if ZmH ms k n < ZmH ms k (ZmI ms k n) then n else ZmI ms k n
def midV (ms : List Mk) (k : Int) : Int := if Zof ms k = true then 0 else mid ms (ZmI ms k ms.length)
theorem ZK (ms : List Mk) (i : Nat) : Zb7 ms i = true ↔ 1 <= mid ms i /\ mid ms i <= 1000000 /\ okB (mat ms i) = true /\ (mat ms i).length = (mat ms 0).length /\ (i = 0 \/ mid ms (i - 1) < mid ms i) := by
 simp [Zb7, and_assoc]
theorem ZM {ms : List Mk} (h : Zk ms = true) : ms.length <= 60 := by simp [Zk] at h; exact h.1
theorem Z9 {ms : List Mk} (h : Zk ms = true) {i : Nat} (hi : i < ms.length) : Zb7 ms i = true := by
 simp only [Zk, Bool.and_eq_true, List.all_eq_true] at h
 exact h.2 i (List.mem_range.2 hi)
theorem ZeS {ms : List Mk} (h : 60 < ms.length) : Zk ms = false := by simp [Zk]; omega
theorem ZbP {ms : List Mk} {i : Nat} (hi : i < ms.length) (h : Zb7 ms i = false) : Zk ms = false := by
 rcases hb : Zk ms with _ | _
 · rfl
 · rw [Z9 hb hi] at h; cases h
theorem ZgD {ms : List Mk} (hl : ms.length <= 60) (h : ∀ i, i < ms.length -> Zb7 ms i = true) : Zk ms = true := by
 simp only [Zk, Bool.and_eq_true, List.all_eq_true, decide_eq_true_eq]
 exact ⟨hl, fun i hi => h i (List.mem_range.1 hi)⟩
theorem Zdd (ms : List Mk) (i : Nat) (h : ¬ (1 <= mid ms i /\ mid ms i <= 1000000 /\ okB (mat ms i) = true /\ (mat ms i).length = (mat ms 0).length /\ (i = 0 \/ mid ms (i - 1) < mid ms i))) : Zb7 ms i = false := by
 rcases hb : Zb7 ms i with _ | _
 · rfl
 · exact absurd ((ZK ms i).1 hb) h
def Zog (n d : Int) : Int := if n < 0 \/ d < n then d else n
def zNear (D : Nat -> Nat -> Int) (i : Nat) (C : List Nat) : Int := C.foldl (fun n c => Zog n (D i c)) (-1)
def zRad (D : Nat -> Nat -> Int) (n : Nat) (C : List Nat) : Int := ZaD (fun i => zNear D i C) n
def zD (ms : List Mk) (kd : Int) (i j : Nat) : Int := max 0 (betV (mat ms i) (mat ms j) kd)
def Z7 (ms : List Mk) (id : Int) : Nat -> Int
 | 0 => -1
 | m + 1 => if 0 <= Z7 ms id m then Z7 ms id m else if mid ms m = id then (m : Int) else -1
def Zr (ms : List Mk) (id : Int) : Int := Z7 ms id ms.length
def Zs (ms : List Mk) (id : Int) : Nat := (Zr ms id).toNat
theorem Zjo (ms : List Mk) (id : Int) (m : Nat) : -1 <= Z7 ms id m /\ Z7 ms id m < m /\ (0 <= Z7 ms id m -> mid ms (Z7 ms id m).toNat = id) := by
 induction m with
 | zero => simp [Z7]
 | succ m ih =>
   simp only [Z7]
   split
   · exact ⟨ih.1, by omega, ih.2.2⟩
   · split
     · rename_i h
       exact ⟨by omega, by omega, fun _ => by simpa using h⟩
     · exact ⟨by omega, by omega, fun h => by omega⟩
theorem Zjp {ms : List Mk} {id : Int} {m : Nat} (h : Z7 ms id m < 0) : ∀ j, j < m -> mid ms j ≠ id := by
 induction m with
 | zero => intro j hj; omega
 | succ m ih =>
   simp only [Z7] at h
   intro j hj
   by_cases h0 : 0 <= Z7 ms id m
   · rw [if_pos h0] at h; omega
   · rw [if_neg h0] at h
     rcases Nat.lt_or_ge j m with h1 | h1
     · exact ih (by omega) j h1
     · rw [show j = m by omega]
       intro e
       rw [if_pos e] at h
       omega
theorem Zz {ms : List Mk} {id : Int} (h : 0 <= Zr ms id) : Zs ms id < ms.length /\ ((Zs ms id : Nat) : Int) = Zr ms id /\ mid ms (Zs ms id) = id := by
 have := Zjo ms id ms.length
 unfold Zs Zr at *
 exact ⟨by omega, by omega, this.2.2 h⟩
theorem ZbM {ms : List Mk} (h : Zk ms = true) {i j : Nat} (hij : i < j) (hj : j < ms.length) : mid ms i < mid ms j := by
 induction j with
 | zero => omega
 | succ j ih =>
   have h1 := ((ZK ms (j + 1)).1 (Z9 h hj)).2.2.2.2
   simp at h1
   rcases Nat.lt_or_ge i j with h2 | h2
   · have := ih h2 (by omega); omega
   · rw [show i = j by omega]; exact h1
theorem Zfr {ms : List Mk} (h : Zk ms = true) {i j : Nat} (hi : i < ms.length) (hj : j < ms.length) (e : mid ms i = mid ms j) : i = j := by
 rcases Nat.lt_trichotomy i j with h1 | h1 | h1
 · have := ZbM h h1 hj; omega
 · exact h1
 · have := ZbM h h1 hi; omega
theorem Zax {ms : List Mk} (h : Zk ms = true) {i : Nat} (hi : i < ms.length) : Zr ms (mid ms i) = i /\ Zs ms (mid ms i) = i := by
 have hp : 0 <= Zr ms (mid ms i) := by
  rcases Int.lt_or_le (Zr ms (mid ms i)) 0 with h1 | h1
  · exact absurd rfl (Zjp h1 i hi)
  · exact h1
 obtain ⟨a, b, c⟩ := Zz hp
 have e := Zfr h a hi c
 exact ⟨by omega, e⟩
def zNearI (ms : List Mk) (kd : Int) (p : List Int) (ids : List Int) : Int := ids.foldl (fun n id => Zog n (betV p (mat ms (Zs ms id)) kd)) (-1)
def radB (ms : List Mk) (ids : List Int) (kd : Int) : Bool := Zk ms && decide (ids.length ≠ 0) && Zoe kd && ids.all (fun id => decide (0 <= Zr ms id))
def radI (ms : List Mk) (ids : List Int) (kd : Int) : Int := if radB ms ids kd = true then zRad (zD ms kd) ms.length (ids.map (Zs ms)) else -1
abbrev Ht := Int × Int
def Zx (a b : Ht) : Bool := decide (a.2 < b.2) || (decide (a.2 = b.2) && decide (a.1 < b.1))
def leH (a b : Ht) : Prop := a.2 < b.2 \/ (a.2 = b.2 /\ a.1 <= b.1)
def Zg (hs : List Ht) (i : Nat) : Ht := hs.getD i (0, 0)
def ZaT : List Ht -> Ht -> List Ht
 | [], h => [h]
 | x :: xs, h => if Zx h x = true then h :: x :: xs else x :: ZaT xs h
def ZZ (l : List Ht) : List Ht := l.foldl ZaT []
def ZaY (l : List Ht) : Prop := l.Pairwise leH
theorem ZaR (a b : Ht) : Zx a b = true ↔ a.2 < b.2 \/ (a.2 = b.2 /\ a.1 < b.1) := by simp [Zx]
theorem ZJ (a b : Ht) : Zx a b = false ↔ leH b a := by
 unfold leH
 rcases h : Zx a b with _ | _
 · have : ¬ (a.2 < b.2 \/ (a.2 = b.2 /\ a.1 < b.1)) := fun hh => by rw [(ZaR a b).2 hh] at h; cases h
   constructor
   · intro _; omega
   · intro _; rfl
 · have := (ZaR a b).1 h
   constructor
   · intro hh; cases hh
   · intro hh; omega
theorem ZaL (a : Ht) : leH a a := by unfold leH; omega
theorem Za8 {a b c : Ht} (h : leH a b) (k : leH b c) : leH a c := by unfold leH at *; omega
theorem ZcV {a b : Ht} (h : leH a b) (k : leH b a) : a = b := by
 unfold leH at *
 exact Prod.ext (by omega) (by omega)
theorem Za9 {a b : Ht} (h : Zx a b = true) : leH a b := by rw [ZaR] at h; unfold leH; omega
theorem Zcg (l : List Ht) (h : Ht) : (ZaT l h).Perm (h :: l) := by
 induction l with
 | nil => exact List.Perm.refl _
 | cons x xs ih =>
   unfold ZaT
   split
   · exact List.Perm.refl _
   · exact (List.Perm.cons x ih).trans (List.Perm.swap h x xs)
theorem Zde (l : List Ht) (h : Ht) : (ZaT l h).length = l.length + 1 := by rw [(Zcg l h).length_eq]; rfl
theorem ZeU {l : List Ht} (hl : ZaY l) (h : Ht) : ZaY (ZaT l h) := by
 unfold ZaY at *
 induction l with
 | nil => simp [ZaT]
 | cons x xs ih =>
   rw [List.pairwise_cons] at hl
   unfold ZaT
   split
   · rename_i ha
     have hx := Za9 ha
     exact List.pairwise_cons.2 ⟨fun y hy => by
      rcases List.mem_cons.1 hy with rfl | hy
      · exact hx
      · exact Za8 hx (hl.1 y hy), List.pairwise_cons.2 hl⟩
   · rename_i ha
     have hx : leH x h := (ZJ h x).1 (by simpa using ha)
     refine List.pairwise_cons.2 ⟨fun y hy => ?_, ih hl.2⟩
     rcases List.mem_cons.1 ((Zcg xs h).mem_iff.1 hy) with rfl | hy
     · exact hx
     · exact hl.1 y hy
theorem Zk8 (l acc : List Ht) : (l.foldl ZaT acc).Perm (acc ++ l) := by
 induction l generalizing acc with
 | nil => simp
 | cons x xs ih =>
   refine (ih (ZaT acc x)).trans ?_
   refine ((Zcg acc x).append_right xs).trans ?_
   exact (List.perm_middle (a := x) (l₁ := acc) (l₂ := xs)).symm
theorem Zif (l acc : List Ht) (h : ZaY acc) : ZaY (l.foldl ZaT acc) := by
 induction l generalizing acc with
 | nil => exact h
 | cons x xs ih => exact ih _ (ZeU h x)
theorem Zac (l : List Ht) : (ZZ l).Perm l := by simpa [ZZ] using Zk8 l []
theorem Zby (l : List Ht) : ZaY (ZZ l) := Zif l [] List.Pairwise.nil
theorem ZcW (l : List Ht) : (ZZ l).length = l.length := (Zac l).length_eq
theorem ZfR (l : List Ht) (h : Ht) : ZZ (l ++ [h]) = ZaT (ZZ l) h := by simp [ZZ, List.foldl_append]
theorem ZdK {l m : List Ht} (hl : ZaY l) (hm : ZaY m) (hp : l.Perm m) : l = m := by
 unfold ZaY at *
 induction l generalizing m with
 | nil => exact (List.nil_perm.1 hp).symm
 | cons x xs ih =>
   cases m with
   | nil => exact absurd hp.length_eq (by simp)
   | cons y ys =>
     rw [List.pairwise_cons] at hl hm
     have hxy : leH x y := by
      rcases List.mem_cons.1 (hp.mem_iff.2 (List.mem_cons_self ..) : y ∈ x :: xs) with h | h
      · rw [h]; exact ZaL x
      · exact hl.1 y h
     have hyx : leH y x := by
      rcases List.mem_cons.1 (hp.mem_iff.1 (List.mem_cons_self ..) : x ∈ y :: ys) with h | h
      · rw [h]; exact ZaL y
      · exact hm.1 x h
     obtain rfl := ZcV hxy hyx
     rw [ih hl.2 hm.2 (List.Perm.cons_inv hp)]
theorem Zg7 {l m : List Ht} (hm : ZaY m) (hp : m.Perm l) : m = ZZ l := ZdK hm (Zby l) (hp.trans (Zac l).symm)
theorem ZhW {l m : List Ht} (hp : l.Perm m) : ZZ l = ZZ m := ZdK (Zby l) (Zby m) ((Zac l).trans (hp.trans (Zac m).symm))
def ZY (ids : List Int) (x : Int) : Bool := ids.contains x
def ZcE (ids : List Int) : List Ht -> List Ht
 | [] => []
 | x :: xs => if ZY ids x.1 = true then ZcE ids xs else x :: ZcE (ids ++ [x.1]) xs
def ZhV (l : List Ht) : List Ht := ZcE [] l
def Zbz (hs : List Ht) (i : Nat) : Bool := decide (1 <= (Zg hs i).1) && decide (0 <= (Zg hs i).2) && (decide (i = 0) || Zx (Zg hs (i - 1)) (Zg hs i))
def ZcG (hs : List Ht) : Bool := (List.range hs.length).all (Zbz hs)
theorem ZmJ {hs : List Ht} (h : ZcG hs = true) {i : Nat} (hi : i < hs.length) : Zbz hs i = true := by
 simp only [ZcG, List.all_eq_true] at h
 exact h i (List.mem_range.2 hi)
theorem Zey {hs : List Ht} {i : Nat} (hi : i < hs.length) (h : Zbz hs i = false) : ZcG hs = false := by
 rcases hb : ZcG hs with _ | _
 · rfl
 · rw [ZmJ hb hi] at h; cases h
theorem Zh0 {hs : List Ht} (h : ∀ i, i < hs.length -> Zbz hs i = true) : ZcG hs = true := by
 simp only [ZcG, List.all_eq_true]
 exact fun i hi => h i (List.mem_range.1 hi)
def ZP (ms : List Mk) (q : List Int) : Bool := Zk ms && okB q && (decide (ms.length = 0) || decide ((mat ms 0).length = q.length))
def Zg8 (q : List Int) (m : Mk) : Ht := (m.1, ZO m.2 q)
def Z1 (ms : List Mk) (q : List Int) : List Ht := ms.map (Zg8 q)
def ZI (k : Int) : Bool := decide (1 <= k) && decide (k <= 60)
def Zau (ms : List Mk) (q : List Int) (k : Int) : List Ht := if ZP ms q = true /\ ZI k = true then (ZZ (Z1 ms q)).take k.toNat else []
theorem Zgz {ms : List Mk} {q : List Int} (h : Zk ms = false) : ZP ms q = false := by simp [ZP, h]
theorem Zh2 {ms : List Mk} {q : List Int} (h : okB q = false) : ZP ms q = false := by simp [ZP, h]
def cn (cs : List (List Int)) (i : Nat) : List Int := cs.getD i []
theorem cn_at {cs : List (List Int)} {i : Nat} (h : i < cs.length) : cn cs i = cs[i] := by simp [cn, List.getD, h]
theorem ZkB (a b : List Int) : ZO a b = ZO b a := by
 unfold ZO
 by_cases h : Zbr a b = true
 · obtain ⟨ha, hb, hl⟩ := Zb8 h
   rw [if_pos h, if_pos (Zca hb ha hl.symm), hl]
   refine Zcu _ _ _ (fun i _ => ?_)
   simp only [sqF]
   rw [show nth b i - nth a i = -(nth a i - nth b i) by omega, Int.neg_mul_neg]
 · have h' : ¬ Zbr b a = true := fun h2 => by
    obtain ⟨ha, hb, hl⟩ := Zb8 h2
    exact h (Zca hb ha hl.symm)
   rw [if_neg h, if_neg h']
def Zdf (l : List Int) : Nat -> Bool
 | 0 => true
 | k + 1 => Zdf l k && decide (nth l k < nth l (k + 1))
def Zbc (l : List Int) : Bool := Zdf l (l.length - 1)
theorem Zhh (l : List Int) (n : Nat) : Zdf l n = true ↔ ∀ j, j < n -> nth l j < nth l (j + 1) := by
 induction n with
 | zero => simp [Zdf]
 | succ n ih =>
   simp only [Zdf, Bool.and_eq_true, decide_eq_true_eq, ih]
   constructor
   · rintro ⟨h1, h2⟩ j hj
     rcases Nat.lt_or_ge j n with h | h
     · exact h1 j h
     · obtain rfl : j = n := by omega
       exact h2
   · exact fun h => ⟨fun j hj => h j (by omega), h n (by omega)⟩
theorem Zbj (l : List Int) : Zbc l = true ↔ ∀ j, j + 1 < l.length -> nth l j < nth l (j + 1) := by
 unfold Zbc
 rw [Zhh]
 exact ⟨fun h j hj => h j (by omega), fun h j hj => h j (by omega)⟩
theorem Zk2 {l : List Int} {j : Nat} (hj : j + 1 < l.length) (h : nth l (j + 1) <= nth l j) : Zbc l = false := by
 rcases e : Zbc l with _ | _
 · rfl
 · have := (Zbj l).1 e j hj; omega
theorem Zk9 {l : List Int} (h : Zbc l = true) {i j : Nat} (hij : i < j) (hj : j < l.length) : nth l i < nth l j := by
 have h' := (Zbj l).1 h
 induction j with
 | zero => omega
 | succ j ih =>
   have h1 := h' j hj
   rcases Nat.lt_or_ge i j with h2 | h2
   · have := ih h2 (by omega); omega
   · obtain rfl : i = j := by omega
     exact h1
theorem ZE (l : List Int) (x : Int) : ZY l x = true ↔ x ∈ l := by simp [ZY]
theorem Zbw (l : List Int) (x : Int) : ZY l x = false ↔ x ∉ l := by
 rw [<- ZE]; simp
theorem Zbd {l : List Int} {k : Nat} (h : k < l.length) : ZY l (nth l k) = true := by
 rw [ZE]
 simp [nth, List.getD, h]
theorem Zdr {l : List Int} {x : Int} (h : x ∈ l) : ∃ k, k < l.length /\ nth l k = x := by
 obtain ⟨k, hk, e⟩ := List.mem_iff_getElem.1 h
 exact ⟨k, hk, by simp [nth, List.getD, hk, e]⟩
def Zcl (ms : List Mk) (ls : List (List Int)) (i : Nat) (x : Int) : Bool :=
 decide (0 <= Zr ms x) && decide (Zr ms x ≠ (i : Int)) && ZY (cn ls (Zs ms x)) (mid ms i)
def Zb5 (ms : List Mk) (ls : List (List Int)) (i : Nat) : Bool := Zbc (cn ls i) && (cn ls i).all (Zcl ms ls i)
def ZR (ms : List Mk) (ls : List (List Int)) : Bool := Zk ms && decide (ls.length = ms.length) && (List.range ls.length).all (Zb5 ms ls)
theorem Zcb (ms : List Mk) (ls : List (List Int)) (i : Nat) (x : Int) : Zcl ms ls i x = true ↔ 0 <= Zr ms x /\ Zr ms x ≠ (i : Int) /\ ZY (cn ls (Zs ms x)) (mid ms i) = true := by
 simp [Zcl, and_assoc]
theorem Zcc (ms : List Mk) (ls : List (List Int)) (i : Nat) : Zb5 ms ls i = true ↔ Zbc (cn ls i) = true /\ ∀ k, k < (cn ls i).length -> Zcl ms ls i (nth (cn ls i) k) = true := by
 simp only [Zb5, Bool.and_eq_true, List.all_eq_true]
 constructor
 · rintro ⟨h1, h2⟩
   exact ⟨h1, fun k hk => h2 _ ((ZE _ _).1 (Zbd hk))⟩
 · rintro ⟨h1, h2⟩
   refine ⟨h1, fun x hx => ?_⟩
   obtain ⟨k, hk, rfl⟩ := Zdr hx
   exact h2 k hk
theorem ZbW (ms : List Mk) (ls : List (List Int)) : ZR ms ls = true ↔ Zk ms = true /\ ls.length = ms.length /\ ∀ i, i < ls.length -> Zb5 ms ls i = true := by
 simp [ZR, and_assoc]
theorem Zd6 {ms : List Mk} {ls : List (List Int)} {i : Nat} (hi : i < ls.length) (h : Zb5 ms ls i = false) : ZR ms ls = false := by
 rcases e : ZR ms ls with _ | _
 · rfl
 · have := ((ZbW ms ls).1 e).2.2 i hi
   rw [this] at h; cases h
theorem ZdR {ms : List Mk} {ls : List (List Int)} {i k : Nat} (hk : k < (cn ls i).length) (h : Zcl ms ls i (nth (cn ls i) k) = false) : Zb5 ms ls i = false := by
 rcases e : Zb5 ms ls i with _ | _
 · rfl
 · have := ((Zcc ms ls i).1 e).2 k hk
   rw [this] at h; cases h
theorem ZiQ {ms : List Mk} {ls : List (List Int)} {i : Nat} (h : Zbc (cn ls i) = false) : Zb5 ms ls i = false := by simp [Zb5, h]
theorem Zt {ms : List Mk} {ls : List (List Int)} (h : ZR ms ls = true) : Zk ms = true := ((ZbW ms ls).1 h).1
theorem Zag {ms : List Mk} {ls : List (List Int)} (h : ZR ms ls = true) : ls.length = ms.length := ((ZbW ms ls).1 h).2.1
theorem ZaA {ms : List Mk} {ls : List (List Int)} (h : ZR ms ls = true) {i : Nat} (hi : i < ms.length) {x : Int} (hx : x ∈ cn ls i) : 0 <= Zr ms x /\ Zs ms x < ms.length /\ mid ms (Zs ms x) = x /\ Zs ms x ≠ i /\ mid ms i ∈ cn ls (Zs ms x) := by
 obtain ⟨k, hk, rfl⟩ := Zdr hx
 have hl := Zag h
 have h1 := (Zcb _ _ _ _).1 (((Zcc _ _ _).1 (((ZbW ms ls).1 h).2.2 i (by omega))).2 k hk)
 obtain ⟨a, b, c⟩ := Zz h1.1
 exact ⟨h1.1, a, c, fun e => h1.2.1 (by omega), (ZE _ _).1 h1.2.2⟩
theorem ZfS {ms : List Mk} {ls : List (List Int)} (h : ZR ms ls = true) {i : Nat} (hi : i < ms.length) : Zbc (cn ls i) = true :=
 ((Zcc _ _ _).1 (((ZbW ms ls).1 h).2.2 i (by have := Zag h; omega))).1
theorem ZdY {l : List Int} (h : Zbc l = true) : l.Pairwise (fun a b => a < b) := by
 rw [List.pairwise_iff_getElem]
 intro i j hi' hj' hij
 have := Zk9 h hij hj'
 simpa [nth, List.getD, hi', hj'] using this
theorem Zla {n : Nat} (l : List Int) (f : Int -> Nat) (hd : l.Nodup) (hf : ∀ x ∈ l, f x < n) (hi : ∀ x ∈ l, ∀ y ∈ l, f x = f y -> x = y) : l.length <= n := by
 have hnd : (l.map f).Nodup := by
  rw [List.Nodup, List.pairwise_map]
  exact List.Pairwise.imp_of_mem (fun {a b} ha hb hab e => hab (hi a ha b hb e)) hd
 have h2 := hnd.length_le_of_subset (l₂ := List.range n) (fun y hy => by
  obtain ⟨x, hx, rfl⟩ := List.mem_map.1 hy
  exact List.mem_range.2 (hf x hx))
 simpa using h2
theorem Za7 {ms : List Mk} {l : List Int} (hd : l.Nodup) (hf : ∀ x ∈ l, 0 <= Zr ms x) : l.length <= ms.length :=
 Zla l (Zs ms) hd (fun x hx => (Zz (hf x hx)).1) (fun x hx y hy e => by
  have a := (Zz (hf x hx)).2.2
  have b := (Zz (hf y hy)).2.2
  rw [e] at a; omega)
theorem ZbV {ms : List Mk} {ls : List (List Int)} (h : ZR ms ls = true) {i : Nat} (hi : i < ms.length) : (cn ls i).length <= ms.length :=
 Za7 (List.Pairwise.imp (fun {a b} hab e => by omega) (ZdY (ZfS h hi))) (fun x hx => (ZaA h hi hx).1)
def Zl (ms : List Mk) (q : List Int) (x : Int) : Ht := (x, ZO (mat ms (Zs ms x)) q)
def Z3 (ms : List Mk) (q : List Int) (l : List Int) (b : Ht) : Nat -> Ht
 | 0 => b
 | k + 1 => if Zx (Zl ms q (nth l k)) (Z3 ms q l b k) = true then Zl ms q (nth l k) else Z3 ms q l b k
theorem Zlb (ms : List Mk) (q : List Int) (l : List Int) (b : Ht) (n : Nat) : (Z3 ms q l b n = b \/ ∃ k, k < n /\ Z3 ms q l b n = Zl ms q (nth l k) /\ Zx (Z3 ms q l b n) b = true) /\ leH (Z3 ms q l b n) b /\ ∀ k, k < n -> leH (Z3 ms q l b n) (Zl ms q (nth l k)) := by
 induction n with
 | zero => exact ⟨Or.inl rfl, ZaL _, fun k hk => by omega⟩
 | succ n ih =>
   obtain ⟨h1, h2, h3⟩ := ih
   simp only [Z3]
   by_cases ha : Zx (Zl ms q (nth l n)) (Z3 ms q l b n) = true
   · rw [if_pos ha]
     have hle := Za9 ha
     refine ⟨Or.inr ⟨n, by omega, rfl, ?_⟩, Za8 hle h2, fun k hk => ?_⟩
     · rw [ZaR] at ha ⊢
       unfold leH at h2
       omega
     · rcases Nat.lt_or_ge k n with h | h
       · exact Za8 hle (h3 k h)
       · obtain rfl : k = n := by omega
         exact ZaL _
   · rw [if_neg ha]
     refine ⟨?_, h2, fun k hk => ?_⟩
     · rcases h1 with h | ⟨k, hk, e, e'⟩
       · exact Or.inl h
       · exact Or.inr ⟨k, by omega, e, e'⟩
     · rcases Nat.lt_or_ge k n with h | h
       · exact h3 k h
       · obtain rfl : k = n := by omega
         exact (ZJ _ _).1 (by simpa using ha)
def Zd7 (ms : List Mk) (ls : List (List Int)) (q : List Int) (x : Int) : Ht := Z3 ms q (cn ls (Zs ms x)) (Zl ms q x) (cn ls (Zs ms x)).length
def ZV (ms : List Mk) (ls : List (List Int)) (q : List Int) (x : Int) : Int := (Zd7 ms ls q x).1
theorem ZcA (ms : List Mk) (ls : List (List Int)) (q : List Int) (x : Int) : (ZV ms ls q x = x \/ (ZV ms ls q x ∈ cn ls (Zs ms x) /\ Zx (Zl ms q (ZV ms ls q x)) (Zl ms q x) = true)) /\ Zd7 ms ls q x = Zl ms q (ZV ms ls q x) /\ ∀ y ∈ cn ls (Zs ms x), leH (Zl ms q (ZV ms ls q x)) (Zl ms q y) := by
 obtain ⟨h1, h2, h3⟩ := Zlb ms q (cn ls (Zs ms x)) (Zl ms q x) (cn ls (Zs ms x)).length
 have he : Zd7 ms ls q x = Zl ms q (ZV ms ls q x) := by
  unfold ZV Zd7
  rcases h1 with h | ⟨k, hk, e, -⟩
  · rw [h]; rfl
  · rw [e]; rfl
 refine ⟨?_, he, fun y hy => ?_⟩
 · rcases h1 with h | ⟨k, hk, e, ha⟩
   · left; unfold ZV Zd7; rw [h]; rfl
   · right
     have e' : ZV ms ls q x = nth (cn ls (Zs ms x)) k := by unfold ZV Zd7; rw [e]; rfl
     constructor
     · rw [e']; exact (ZE _ _).1 (Zbd hk)
     · rw [<- he]; exact ha
 · obtain ⟨k, hk, rfl⟩ := Zdr hy
   rw [<- he]
   exact h3 k hk
def rkW (ms : List Mk) (q : List Int) (x : Int) : Nat := ((List.range ms.length).filter (fun i => Zx (Zl ms q (mid ms i)) (Zl ms q x))).length
theorem Zlc {P Q : Nat -> Bool} (L : List Nat) (h : ∀ i, P i = true -> Q i = true) {a : Nat} (ha : a ∈ L) (hq : Q a = true) (hp : P a = false) : (L.filter P).length < (L.filter Q).length := by
 induction L with
 | nil => cases ha
 | cons b L ih =>
   have hle : (L.filter P).length <= (L.filter Q).length := by
    rw [<- List.countP_eq_length_filter, <- List.countP_eq_length_filter]
    exact List.countP_mono_left (fun x _ => h x)
   rcases List.mem_cons.1 ha with e | e
   · subst e
     simp [hq, hp]; omega
   · have := ih e
     rcases hb : P b with _ | _
     · rcases hb' : Q b with _ | _ <;> simp [hb, hb'] <;> omega
     · have := h b hb
       simp [hb, this]; omega
theorem Zhi {a b c : Ht} (h : Zx a b = true) (k : Zx b c = true) : Zx a c = true := by
 rw [ZaR] at *; omega
theorem ZfT (a : Ht) : Zx a a = false := by
 rw [ZJ]; exact ZaL a
theorem ZoR {ms : List Mk} (q : List Int) {x y : Int} (hy : 0 <= Zr ms y) (h : Zx (Zl ms q y) (Zl ms q x) = true) : rkW ms q y < rkW ms q x := by
 obtain ⟨a, b, c⟩ := Zz hy
 refine Zlc _ (fun i hi => Zhi hi h) (List.mem_range.2 a) ?_ ?_
 · rw [c]; exact h
 · rw [c]; exact ZfT _
theorem ZoS (ms : List Mk) (q : List Int) (x : Int) : rkW ms q x <= ms.length := by
 have := List.length_filter_le (fun i => Zx (Zl ms q (mid ms i)) (Zl ms q x)) (List.range ms.length)
 simpa [rkW] using this
def Zb6 (ms : List Mk) (ls : List (List Int)) (q : List Int) : Nat -> Int -> List Int
 | 0, x => [x]
 | f + 1, x => if ZV ms ls q x = x then [x] else x :: Zb6 ms ls q f (ZV ms ls q x)
def Zab (ms : List Mk) (ls : List (List Int)) (q : List Int) (x : Int) : List Int := Zb6 ms ls q (rkW ms q x) x
theorem Zcd {ms : List Mk} {ls : List (List Int)} {q : List Int} (h : ZR ms ls = true) {x : Int} (hx : 0 <= Zr ms x) : 0 <= Zr ms (ZV ms ls q x) := by
 rcases (ZcA ms ls q x).1 with e | ⟨e, -⟩
 · rw [e]; exact hx
 · exact (ZaA h (Zz hx).1 e).1
theorem ZcO {ms : List Mk} {ls : List (List Int)} {q : List Int} (h : ZR ms ls = true) {x : Int} (hx : 0 <= Zr ms x) (hne : ZV ms ls q x ≠ x) : rkW ms q (ZV ms ls q x) < rkW ms q x := by
 rcases (ZcA ms ls q x).1 with e | ⟨-, e⟩
 · exact absurd e hne
 · exact ZoR q (Zcd h hx) e
theorem Zjq {ms : List Mk} {ls : List (List Int)} {q : List Int} (h : ZR ms ls = true) : ∀ (f g : Nat) (x : Int), 0 <= Zr ms x -> rkW ms q x <= f -> rkW ms q x <= g -> Zb6 ms ls q f x = Zb6 ms ls q g x := by
 intro f
 induction f with
 | zero =>
   intro g x hx hf hg
   have hs : ZV ms ls q x = x := by
    rcases Int.lt_trichotomy (ZV ms ls q x) x with e | e | e
    · have := ZcO (q := q) h hx (by omega); omega
    · exact e
    · have := ZcO (q := q) h hx (by omega); omega
   cases g with
   | zero => rfl
   | succ g => simp [Zb6, hs]
 | succ f ih =>
   intro g x hx hf hg
   by_cases hs : ZV ms ls q x = x
   · cases g with
     | zero => simp [Zb6, hs]
     | succ g => simp [Zb6, hs]
   · have hr := ZcO (q := q) h hx hs
     cases g with
     | zero => omega
     | succ g =>
       simp only [Zb6, if_neg hs]
       rw [ih g _ (Zcd h hx) (by omega) (by omega)]
theorem Zdq {ms : List Mk} {ls : List (List Int)} {q : List Int} {x : Int} (hs : ZV ms ls q x = x) : Zab ms ls q x = [x] := by
 unfold Zab
 cases rkW ms q x with
 | zero => rfl
 | succ n => simp [Zb6, hs]
theorem ZdT {ms : List Mk} {ls : List (List Int)} {q : List Int} (h : ZR ms ls = true) {x : Int} (hx : 0 <= Zr ms x) (hs : ZV ms ls q x ≠ x) : Zab ms ls q x = x :: Zab ms ls q (ZV ms ls q x) := by
 have hr := ZcO (q := q) h hx hs
 unfold Zab
 obtain ⟨n, hn⟩ : ∃ n, rkW ms q x = n + 1 := ⟨rkW ms q x - 1, by omega⟩
 rw [hn]
 simp only [Zb6, if_neg hs]
 rw [Zjq h n _ _ (Zcd h hx) (by omega) (Nat.le_refl _)]
theorem Zig {ms : List Mk} {ls : List (List Int)} {q : List Int} (f : Nat) (x : Int) : (Zb6 ms ls q f x).length <= f + 1 := by
 induction f generalizing x with
 | zero => simp [Zb6]
 | succ f ih =>
   simp only [Zb6]
   split
   · simp
   · have := ih (ZV ms ls q x); simp; omega
theorem Zc5 {ms : List Mk} {ls : List (List Int)} {q : List Int} (x : Int) : (Zab ms ls q x).length <= ms.length + 1 := by
 have h1 := Zig (ms := ms) (ls := ls) (q := q) (rkW ms q x) x
 have h2 := ZoS ms q x
 unfold Zab; omega
def Za4 (ms : List Mk) (ls : List (List Int)) (fr : Int) (q : List Int) : Bool := ZR ms ls && ZP ms q && decide (0 <= Zr ms fr)
def ZaO (ms : List Mk) (ls : List (List Int)) (fr : Int) (q : List Int) : List Int := if Za4 ms ls fr q = true then Zab ms ls q fr else []
theorem Zcf (ms : List Mk) (ls : List (List Int)) (fr : Int) (q : List Int) : Za4 ms ls fr q = true ↔ ZR ms ls = true /\ ZP ms q = true /\ 0 <= Zr ms fr := by simp [Za4, and_assoc]
theorem Za6 {ms : List Mk} {ls : List (List Int)} (h : ZR ms ls = true) : ms.length <= 60 /\ (∀ i, (mat ms i).length <= 4) /\ ls.length <= 60 /\ ∀ i, (cn ls i).length <= 60 := by
 have hm := Zt h
 have h60 := ZM hm
 have hl := Zag h
 refine ⟨h60, fun i => ?_, by omega, fun i => ?_⟩
 · rcases Nat.lt_or_ge i ms.length with hi | hi
   · have := ((ZK ms i).1 (Z9 hm hi)).2.2.1
     exact (ZbS this).2
   · have : mat ms i = [] := by simp [mat, List.getD, hi]
     rw [this]; simp
 · rcases Nat.lt_or_ge i ms.length with hi | hi
   · have := ZbV h hi; omega
   · have : cn ls i = [] := by simp [cn, List.getD, show ls.length <= i by omega]
     rw [this]; simp
def Zy (s : List Ht) (op : List Int) : Nat -> Int
 | 0 => -1
 | k + 1 => if 0 <= Zy s op k then Zy s op k else if ZY op (Zg s k).1 = true then -1 else (k : Int)
theorem Zd4 (s : List Ht) (op : List Int) (n : Nat) : -1 <= Zy s op n /\ Zy s op n < n /\ (0 <= Zy s op n -> ZY op (Zg s (Zy s op n).toNat).1 = false) /\ (Zy s op n < 0 -> ∀ k, k < n -> ZY op (Zg s k).1 = true) := by
 induction n with
 | zero => simp [Zy]
 | succ n ih =>
   obtain ⟨h1, h2, h3, h4⟩ := ih
   simp only [Zy]
   by_cases h : 0 <= Zy s op n
   · rw [if_pos h]
     exact ⟨h1, by omega, h3, fun h' => by omega⟩
   · rw [if_neg h]
     rcases hb : ZY op (Zg s n).1 with _ | _
     · simp only [Bool.false_eq_true, if_false]
       exact ⟨by omega, by omega, fun _ => by simpa using hb, fun h' => by omega⟩
     · simp only [if_true]
       refine ⟨by omega, by omega, fun h' => by omega, fun _ k hk => ?_⟩
       rcases Nat.lt_or_ge k n with e | e
       · exact h4 (by omega) k e
       · obtain rfl : k = n := by omega
         exact hb
theorem Zfj {s : List Ht} {op : List Int} {n m : Nat} (h : 0 <= Zy s op n) (hm : n <= m) : Zy s op m = Zy s op n := by
 induction m with
 | zero => rw [show n = 0 by omega]
 | succ m ih =>
   rcases Nat.lt_or_ge m n with e | e
   · rw [show n = m + 1 by omega]
   · have := ih e
     simp only [Zy]
     rw [if_pos (by omega), this]
def Za2 (ms : List Mk) (q : List Int) (l : List Int) (s : List Ht) (ids : List Int) : Nat -> List Ht × List Int
 | 0 => (s, ids)
 | k + 1 => if ZY (Za2 ms q l s ids k).2 (nth l k) = true then Za2 ms q l s ids k else (ZaT (Za2 ms q l s ids k).1 (Zl ms q (nth l k)), (Za2 ms q l s ids k).2 ++ [nth l k])
def Zke (ms : List Mk) (ls : List (List Int)) (q : List Int) (wd : Nat) : Nat -> List Ht -> List Int -> List Int -> List Ht
 | 0, s, _, _ => s.take wd
 | f + 1, s, ids, op =>
   if Zy s op (min s.length wd) < 0 then s.take wd
   else Zke ms ls q wd f (Za2 ms q (cn ls (Zs ms (Zg s (Zy s op (min s.length wd)).toNat).1)) s ids (cn ls (Zs ms (Zg s (Zy s op (min s.length wd)).toNat).1)).length).1
    (Za2 ms q (cn ls (Zs ms (Zg s (Zy s op (min s.length wd)).toNat).1)) s ids (cn ls (Zs ms (Zg s (Zy s op (min s.length wd)).toNat).1)).length).2
    (op ++ [(Zg s (Zy s op (min s.length wd)).toNat).1])
def Za1 (ms : List Mk) (ls : List (List Int)) (q : List Int) (wd : Nat) (s : List Ht) (ids op : List Int) : List Ht := Zke ms ls q wd (ms.length - op.length) s ids op
structure Zao (ms : List Mk) (q : List Int) (s : List Ht) (ids : List Int) : Prop where
 nd : ids.Nodup
 find : ∀ x ∈ ids, 0 <= Zr ms x
 sn : s = ZZ (ids.map (Zl ms q))
structure ZcK (ms : List Mk) (ls : List (List Int)) (ids op : List Int) : Prop where
 nd : op.Nodup
 sub : ∀ x ∈ op, x ∈ ids
 all : ∀ x ∈ op, ∀ y ∈ cn ls (Zs ms x), y ∈ ids
theorem Zao.len {ms : List Mk} {q : List Int} {s : List Ht} {ids : List Int} (h : Zao ms q s ids) : s.length = ids.length := by rw [h.sn, ZcW, List.length_map]
theorem Zao.short {ms : List Mk} {q : List Int} {s : List Ht} {ids : List Int} (h : Zao ms q s ids) : ids.length <= ms.length := Za7 h.nd h.find
theorem Zao.at {ms : List Mk} {q : List Int} {s : List Ht} {ids : List Int} (h : Zao ms q s ids) {k : Nat} (hk : k < s.length) : (Zg s k).1 ∈ ids /\ Zg s k = Zl ms q (Zg s k).1 := by
 have hm : Zg s k ∈ ids.map (Zl ms q) := by
  have h1 : Zg s k ∈ s := by simp [Zg, List.getD, hk]
  rw [h.sn] at h1
  rw [h.sn]
  exact (Zac _).mem_iff.1 h1
 obtain ⟨x, hx, e⟩ := List.mem_map.1 hm
 rw [<- e]
 exact ⟨hx, rfl⟩
theorem Zao.mem {ms : List Mk} {q : List Int} {s : List Ht} {ids : List Int} (h : Zao ms q s ids) {x : Int} (hx : x ∈ ids) : ∃ k, k < s.length /\ Zg s k = Zl ms q x := by
 have h1 : Zl ms q x ∈ s := by
  rw [h.sn]
  exact (Zac _).mem_iff.2 (List.mem_map.2 ⟨x, hx, rfl⟩)
 obtain ⟨k, hk, e⟩ := List.mem_iff_getElem.1 h1
 exact ⟨k, hk, by simp [Zg, List.getD, hk, e]⟩
theorem Ze0 {ms : List Mk} {q : List Int} {s : List Ht} {ids l : List Int} (h : Zao ms q s ids) (hl : ∀ x ∈ l, 0 <= Zr ms x) (n : Nat) (hn : n <= l.length) : Zao ms q (Za2 ms q l s ids n).1 (Za2 ms q l s ids n).2 /\ (∀ x ∈ ids, x ∈ (Za2 ms q l s ids n).2) /\ (∀ k, k < n -> nth l k ∈ (Za2 ms q l s ids n).2) /\ ∀ x ∈ (Za2 ms q l s ids n).2, x ∈ ids \/ x ∈ l := by
 induction n with
 | zero => exact ⟨h, fun x hx => hx, fun k hk => by omega, fun x hx => Or.inl hx⟩
 | succ n ih =>
   obtain ⟨h1, h2, h3, h4⟩ := ih (by omega)
   have hmem : nth l n ∈ l := (ZE _ _).1 (Zbd (by omega))
   simp only [Za2]
   rcases hb : ZY (Za2 ms q l s ids n).2 (nth l n) with _ | _
   · simp only [Bool.false_eq_true, if_false]
     have hno := (Zbw _ _).1 hb
     refine ⟨⟨?_, ?_, ?_⟩, fun x hx => by simp [h2 x hx], fun k hk => ?_, fun x hx => ?_⟩
     · rw [List.nodup_append]
       refine ⟨h1.nd, by simp, fun a ha b hb' e => ?_⟩
       simp at hb'
       exact hno (by rw [<- hb', <- e]; exact ha)
     · intro x hx
       rcases List.mem_append.1 hx with e | e
       · exact h1.find x e
       · simp at e; rw [e]; exact hl _ hmem
     · rw [List.map_append, List.map_cons, List.map_nil, ZfR, <- h1.sn]
     · rcases Nat.lt_or_ge k n with e | e
       · simp [h3 k e]
       · obtain rfl : k = n := by omega
         simp
     · rcases List.mem_append.1 hx with e | e
       · exact h4 x e
       · simp at e; right; rw [e]; exact hmem
   · simp only [if_true]
     refine ⟨h1, h2, fun k hk => ?_, h4⟩
     rcases Nat.lt_or_ge k n with e | e
     · exact h3 k e
     · obtain rfl : k = n := by omega
       exact (ZE _ _).1 hb
theorem Zdm {ms : List Mk} {ls : List (List Int)} {q : List Int} {wd : Nat} {s : List Ht} {ids op : List Int} (h : Zy s op (min s.length wd) < 0) : Za1 ms ls q wd s ids op = s.take wd := by
 unfold Za1
 cases ms.length - op.length with
 | zero => rfl
 | succ f => simp only [Zke, if_pos h]
theorem ZbJ {ms : List Mk} {ls : List (List Int)} {q : List Int} {wd : Nat} {s : List Ht} {ids op : List Int} (hb : Zao ms q s ids) (ho : ZcK ms ls ids op) (h : 0 <= Zy s op (min s.length wd)) :
 (Zy s op (min s.length wd)).toNat < s.length /\ (Zg s (Zy s op (min s.length wd)).toNat).1 ∈ ids /\ (Zg s (Zy s op (min s.length wd)).toNat).1 ∉ op /\ op.length < ms.length := by
 obtain ⟨h1, h2, h3, -⟩ := Zd4 s op (min s.length wd)
 have hlt : (Zy s op (min s.length wd)).toNat < s.length := by omega
 have hno := (Zbw _ _).1 (h3 h)
 have hin := (hb.at hlt).1
 refine ⟨hlt, hin, hno, ?_⟩
 have hs := Za7 (ms := ms) (l := op ++ [(Zg s (Zy s op (min s.length wd)).toNat).1]) (by
  rw [List.nodup_append]
  refine ⟨ho.nd, by simp, fun a ha b hb' e => ?_⟩
  simp at hb'
  exact hno (by rw [<- hb', <- e]; exact ha)) (fun x hx => by
  rcases List.mem_append.1 hx with e | e
  · exact hb.find x (ho.sub x e)
  · simp at e; rw [e]; exact hb.find _ hin)
 simp at hs
 omega
theorem ZdM {ms : List Mk} {ls : List (List Int)} {q : List Int} (hw : ZR ms ls = true) {wd : Nat} {s : List Ht} {ids op : List Int} (hb : Zao ms q s ids) (ho : ZcK ms ls ids op) (h : 0 <= Zy s op (min s.length wd)) {id : Int} (hid : (Zg s (Zy s op (min s.length wd)).toNat).1 = id) :
 Za1 ms ls q wd s ids op = Za1 ms ls q wd (Za2 ms q (cn ls (Zs ms id)) s ids (cn ls (Zs ms id)).length).1 (Za2 ms q (cn ls (Zs ms id)) s ids (cn ls (Zs ms id)).length).2 (op ++ [id]) /\ Zao ms q (Za2 ms q (cn ls (Zs ms id)) s ids (cn ls (Zs ms id)).length).1 (Za2 ms q (cn ls (Zs ms id)) s ids (cn ls (Zs ms id)).length).2 /\ ZcK ms ls (Za2 ms q (cn ls (Zs ms id)) s ids (cn ls (Zs ms id)).length).2 (op ++ [id]) := by
 obtain ⟨h1, h2, h3, h4⟩ := ZbJ hb ho h
 rw [hid] at h2 h3
 have hx := Zz (hb.find _ h2)
 obtain ⟨k1, k2, k3, -⟩ := Ze0 hb (l := cn ls (Zs ms id)) (fun x hx' => (ZaA hw hx.1 hx').1) _ (Nat.le_refl _)
 refine ⟨?_, k1, ?_, ?_, ?_⟩
 · unfold Za1
   obtain ⟨f, hf⟩ : ∃ f, ms.length - op.length = f + 1 := ⟨ms.length - op.length - 1, by omega⟩
   rw [hf]
   simp only [Zke]
   rw [if_neg (by omega), hid, List.length_append, List.length_cons, List.length_nil]
   congr 1
   omega
 · rw [List.nodup_append]
   refine ⟨ho.nd, by simp, fun a ha b hb' e => ?_⟩
   simp at hb'
   exact h3 (by rw [<- hb', <- e]; exact ha)
 · intro x hx'
   rcases List.mem_append.1 hx' with e | e
   · exact k2 x (ho.sub x e)
   · simp at e; rw [e]; exact k2 _ h2
 · intro x hx' y hy
   rcases List.mem_append.1 hx' with e | e
   · exact k2 y (ho.all x e y hy)
   · simp at e
     rw [e] at hy
     obtain ⟨k, hk, rfl⟩ := Zdr hy
     exact k3 k hk
theorem ZgI {ms : List Mk} {ls : List (List Int)} {q : List Int} (hw : ZR ms ls = true) (wd : Nat) : ∀ (f : Nat) (s : List Ht) (ids op : List Int), ms.length - op.length <= f -> Zao ms q s ids -> ZcK ms ls ids op -> ∃ s' ids' op', Za1 ms ls q wd s ids op = s'.take wd /\ Zao ms q s' ids' /\ ZcK ms ls ids' op' /\ Zy s' op' (min s'.length wd) < 0 /\ ∀ x ∈ ids, x ∈ ids' := by
 intro f
 induction f with
 | zero =>
   intro s ids op hf hb ho
   refine ⟨s, ids, op, ?_, hb, ho, ?_, fun x hx => hx⟩
   · refine Zdm ?_
     rcases Int.lt_or_le (Zy s op (min s.length wd)) 0 with e | e
     · exact e
     · have := (ZbJ hb ho e).2.2.2; omega
   · rcases Int.lt_or_le (Zy s op (min s.length wd)) 0 with e | e
     · exact e
     · have := (ZbJ hb ho e).2.2.2; omega
 | succ f ih =>
   intro s ids op hf hb ho
   rcases Int.lt_or_le (Zy s op (min s.length wd)) 0 with e | e
   · exact ⟨s, ids, op, Zdm e, hb, ho, e, fun x hx => hx⟩
   · obtain ⟨k1, k2, k3⟩ := ZdM hw hb ho e rfl
     have h4 := (ZbJ hb ho e).2.2.2
     obtain ⟨s', ids', op', j1, j2, j3, j4, j5⟩ := ih _ _ _ (by simp; omega) k2 k3
     refine ⟨s', ids', op', by rw [k1, j1], j2, j3, j4, fun x hx => j5 x ?_⟩
     have h2 := (ZbJ hb ho e).2.1
     exact (Ze0 hb (l := cn ls (Zs ms (Zg s (Zy s op (min s.length wd)).toNat).1)) (fun y hy => (ZaA hw (Zz (hb.find _ h2)).1 hy).1) _ (Nat.le_refl _)).2.1 x hx
theorem ZcJ {ms : List Mk} {ls : List (List Int)} {q : List Int} {fr : Int} (hf : 0 <= Zr ms fr) : Zao ms q [Zl ms q fr] [fr] /\ ZcK ms ls [fr] [] :=
 ⟨⟨by simp, fun x hx => by simp at hx; rw [hx]; exact hf, by simp [ZZ, ZaT]⟩, ⟨by simp, fun x hx => by simp at hx, fun x hx => by simp at hx⟩⟩
def ZaI (ms : List Mk) (ls : List (List Int)) (fr : Int) (q : List Int) (wide : Int) : List Ht := if Za4 ms ls fr q = true /\ ZI wide = true then Za1 ms ls q wide.toNat [Zl ms q fr] [fr] [] else []
end Go.Proofs.YtaaagmgglolibaaGreat
namespace Go.Proofs.YtaaagmgglolibaaGreat
open Go
theorem ZdZ {ms : List Mk} {ls : List (List Int)} {q : List Int} {fr : Int} (ht : Za4 ms ls fr q = true) : ZR ms ls = true /\ ZP ms q = true /\ 0 <= Zr ms fr := by
 unfold Za4 at ht
 simp only [Bool.and_eq_true, decide_eq_true_eq] at ht
 exact ⟨ht.1.1, ht.1.2, ht.2⟩
theorem ZmK {ms : List Mk} (hm : Zk ms = true) (q : List Int) : (ms.map (fun m => m.1)).map (Zl ms q) = Z1 ms q := by
 rw [List.map_map, Z1]
 refine List.map_congr_left (fun m hmm => ?_)
 obtain ⟨i, hi, rfl⟩ := List.getElem_of_mem hmm
 have e1 : mid ms i = (ms[i]).1 := by simp [mid, List.getD, hi]
 have e2 : mat ms i = (ms[i]).2 := by simp [mat, List.getD, hi]
 show Zl ms q (ms[i]).1 = Zg8 q ms[i]
 rw [<- e1]
 unfold Zl
 rw [(Zax hm hi).2, e1, e2]
 rfl
theorem ZmL {ms : List Mk} {ls : List (List Int)} {q : List Int} {fr : Int} (ht : Za4 ms ls fr q = true) {wide : Int} (hk : ZI wide = true) : ∃ s ids, Zao ms q s ids /\ ZaI ms ls fr q wide = s.take wide.toNat := by
 obtain ⟨hw, -, hf⟩ := ZdZ ht
 obtain ⟨b0, o0⟩ := ZcJ (ls := ls) (q := q) hf
 obtain ⟨s, ids, op, e, hb, ho, hout, hin⟩ := ZgI hw wide.toNat _ _ _ _ (Nat.le_refl _) b0 o0
 refine ⟨s, ids, hb, ?_⟩
 unfold ZaI
 rw [if_pos ⟨ht, hk⟩]
 exact e
end Go.Proofs.YtaaagmgglolibaaGreat
namespace Go.Proofs.YtaaagmgglolibaaGreat
def Zcp (l : List Ht) : Prop := l.Pairwise (fun a b => Zx a b = true)
theorem Zih {a b : Ht} (h : leH a b) (hne : a.1 ≠ b.1) : Zx a b = true := by rw [ZaR]; unfold leH at h; omega
theorem Zhj {l : List Ht} (hs : ZaY l) (hd : l.Pairwise (fun a b => a.1 ≠ b.1)) : Zcp l := by
 unfold ZaY at hs; unfold Zcp
 induction l with
 | nil => exact List.Pairwise.nil
 | cons x xs ih =>
   rw [List.pairwise_cons] at *
   exact ⟨fun y hy => Zih (hs.1 y hy) (hd.1 y hy), ih hs.2 hd.2⟩
theorem ZdG {l m : List Ht} (hp : l.Perm m) (h : l.Pairwise (fun a b => a.1 ≠ b.1)) : m.Pairwise (fun a b => a.1 ≠ b.1) :=
 (hp.pairwise_iff (fun h e => h e.symm)).1 h
theorem ZfI {ms : List Mk} (hm : Zk ms = true) (q : List Int) : (Z1 ms q).Pairwise (fun a b => a.1 ≠ b.1) := by
 rw [List.pairwise_iff_getElem]
 intro i j hi hj hij
 simp only [Z1, List.length_map] at hi hj
 have hr : mid ms i < mid ms j := by
  clear hi
  induction j with
  | zero => omega
  | succ j ih =>
    have h1 := ((ZK ms (j + 1)).1 (Z9 hm hj)).2.2.2.2
    simp at h1
    rcases Nat.lt_or_ge i j with h2 | h2
    · have := ih (by omega) h2; omega
    · rw [show i = j by omega]; exact h1
 simp only [Z1, List.getElem_map, Zg8]
 simp only [mid, List.getD, List.getElem?_eq_getElem hi, List.getElem?_eq_getElem hj, Option.getD_some] at hr
 omega
theorem ZmM {ms : List Mk} {q : List Int} (ht : ZP ms q = true) {i : Nat} (hi : i < ms.length) : Zbr (mat ms i) q = true := by
 simp [ZP] at ht
 obtain ⟨⟨hm, hq⟩, hl⟩ := ht
 have h1 := (ZK ms i).1 (Z9 hm hi)
 have h0 : (mat ms 0).length = q.length := by
  rcases hl with h | h
  · subst h; simp at hi
  · exact h
 exact Zca h1.2.2.1 hq (by omega)
theorem ZfJ {ms : List Mk} {q : List Int} (ht : ZP ms q = true) : Zk ms = true := by
 simp [ZP] at ht; exact ht.1.1
theorem Zii {a b : List Int} (h : Zbr a b = true) : 0 <= ZO a b := by
 have hb := (Zb8 h)
 have := ZbU (sqF a b) 0 4000000 (Zfh hb.1 hb.2.1) a.length
 simp [ZO, h]; omega
theorem ZmN {ms : List Mk} {q : List Int} (ht : ZP ms q = true) {x : Ht} (hx : x ∈ Z1 ms q) : 1 <= x.1 /\ 0 <= x.2 /\ ∃ i, i < ms.length /\ x = (mid ms i, ZO (mat ms i) q) := by
 obtain ⟨m, hm, rfl⟩ := List.mem_map.1 hx
 obtain ⟨i, hi, rfl⟩ := List.getElem_of_mem hm
 have e1 : mid ms i = ms[i].1 := by simp [mid, List.getD, hi]
 have e2 : mat ms i = ms[i].2 := by simp [mat, List.getD, hi]
 have h1 := (ZK ms i).1 (Z9 (ZfJ ht) hi)
 refine ⟨by unfold Zg8; omega, ?_, i, hi, by unfold Zg8; rw [e1, e2]⟩
 have := Zii (ZmM ht hi)
 rw [e2] at this
 exact this
theorem ZmO {l : List Ht} (hs : Zcp l) (hg : ∀ x ∈ l, 1 <= x.1 /\ 0 <= x.2) : ZcG l = true := by
 refine Zh0 fun i hi => ?_
 have hm : Zg l i ∈ l := by simp [Zg, List.getD, hi]
 have := hg _ hm
 simp only [Zbz, Bool.and_eq_true, decide_eq_true_eq, Bool.or_eq_true]
 refine ⟨⟨this.1, this.2⟩, ?_⟩
 rcases Nat.eq_zero_or_pos i with h0 | h0
 · exact Or.inl h0
 · right
   have := (List.pairwise_iff_getElem.1 hs) (i - 1) i (by omega) hi (by omega)
   simpa [Zg, List.getD, hi, show i - 1 < l.length by omega] using this
theorem Zcp.take {l : List Ht} (h : Zcp l) (k : Nat) : Zcp (l.take k) := List.Pairwise.sublist (List.take_sublist k l) h
end Go.Proofs.YtaaagmgglolibaaGreat
namespace Go.Proofs.YtaaagmgglolibaaGreat
open Go
theorem Zef {ms : List Mk} {q : List Int} {s : List Ht} {ids : List Int} (h : Zao ms q s ids) : s.Pairwise (fun a b => a.1 ≠ b.1) := by
 rw [h.sn]
 refine ZdG (Zac _).symm ?_
 rw [List.pairwise_map]
 exact List.Pairwise.imp (fun hne e => hne e) h.nd
theorem ZgJ {ms : List Mk} {q : List Int} {s : List Ht} {ids : List Int} (h : Zao ms q s ids) (hm : Zk ms = true) {x : Ht} (hx : x ∈ s) : x ∈ Z1 ms q := by
 rw [h.sn] at hx
 obtain ⟨y, hy, rfl⟩ := List.mem_map.1 ((Zac _).mem_iff.1 hx)
 rw [<- ZmK hm]
 refine List.mem_map.2 ⟨y, ?_, rfl⟩
 obtain ⟨a, -, c⟩ := Zz (h.find y hy)
 refine List.mem_map.2 ⟨ms[Zs ms y], List.getElem_mem a, ?_⟩
 have e : mid ms (Zs ms y) = (ms[Zs ms y]).1 := by simp [mid, List.getD, a]
 rw [<- e]
 exact c
theorem Zhk (ms : List Mk) (ls : List (List Int)) (fr : Int) (q : List Int) (wide : Int) : ZcG (ZaI ms ls fr q wide) = true /\ (∀ x ∈ ZaI ms ls fr q wide, x ∈ Z1 ms q) /\ ((0 < wide -> ((ZaI ms ls fr q wide).length : Int) <= wide) /\ (ZaI ms ls fr q wide).length <= 60) := by
 by_cases h : Za4 ms ls fr q = true /\ ZI wide = true
 · obtain ⟨ht, hk⟩ := h
   obtain ⟨s, ids, hb, e⟩ := ZmL (ls := ls) ht hk
   obtain ⟨hw, htd, -⟩ := ZdZ ht
   have hm := Zt hw
   have h60 := ZM hm
   have hs := hb.short
   have hl := hb.len
   have ha : Zcp s := Zhj (by rw [hb.sn]; exact Zby _) (Zef hb)
   rw [e]
   refine ⟨ZmO (ha.take _) (fun x hx => ?_), fun x hx => ZgJ hb hm (List.mem_of_mem_take hx), fun h0 => ?_, ?_⟩
   · have := ZmN htd (ZgJ hb hm (List.mem_of_mem_take hx))
     exact ⟨this.1, this.2.1⟩
   · rw [List.length_take]; omega
   · rw [List.length_take]; omega
 · have e : ZaI ms ls fr q wide = [] := by unfold ZaI; rw [if_neg h]
   rw [e]
   exact ⟨rfl, ⟨fun x hx => (List.not_mem_nil hx).elim, ⟨fun h0 => Int.le_of_lt h0, Nat.zero_le _⟩⟩⟩
end Go.Proofs.YtaaagmgglolibaaGreat
namespace Go.Proofs.YtaaagmgglolibaaGreat
end Go.Proofs.YtaaagmgglolibaaGreat
namespace Go.Proofs.YtaaagmgglolibaaGreat
open Go
def Zjr (ms : List Mk) (ls : List (List Int)) (q : List Int) : List Int -> Prop
 | [] => False
 | [y] => 0 <= Zr ms y /\ ZV ms ls q y = y
 | y :: z :: l => 0 <= Zr ms y /\ z = ZV ms ls q y /\ z ≠ y /\ Zjr ms ls q (z :: l)
theorem ZfU (ms : List Mk) (ls : List (List Int)) (q : List Int) (x : Int) : ∃ l, Zab ms ls q x = x :: l := by
 unfold Zab
 cases rkW ms q x with
 | zero => exact ⟨_, rfl⟩
 | succ n =>
   simp only [Zb6]
   split
   · exact ⟨_, rfl⟩
   · exact ⟨_, rfl⟩
theorem ZmP {ms : List Mk} {ls : List (List Int)} {q : List Int} (h : ZR ms ls = true) : ∀ (n : Nat) (x : Int), rkW ms q x <= n -> 0 <= Zr ms x -> Zjr ms ls q (Zab ms ls q x) := by
 intro n
 induction n with
 | zero =>
   intro x hr hx
   by_cases hs : ZV ms ls q x = x
   · rw [Zdq hs]; exact ⟨hx, hs⟩
   · have := ZcO (q := q) h hx hs
     omega
 | succ n ih =>
   intro x hr hx
   by_cases hs : ZV ms ls q x = x
   · rw [Zdq hs]; exact ⟨hx, hs⟩
   · have h1 := ZcO (q := q) h hx hs
     have h2 := ih (ZV ms ls q x) (by omega) (Zcd h hx)
     rw [ZdT h hx hs]
     obtain ⟨l, e⟩ := ZfU ms ls q (ZV ms ls q x)
     rw [e] at h2 ⊢
     exact ⟨hx, rfl, hs, h2⟩
theorem ZnT {ms : List Mk} {ls : List (List Int)} {q : List Int} : ∀ (l : List Int), Zjr ms ls q l -> ∀ i, i < l.length -> 0 <= Zr ms (nth l i) /\ (i + 1 < l.length -> nth l (i + 1) = ZV ms ls q (nth l i) /\ nth l (i + 1) ≠ nth l i) /\ (i + 1 = l.length -> ZV ms ls q (nth l i) = nth l i) := by
 intro l
 induction l with
 | nil => intro h; exact h.elim
 | cons y l ih =>
   intro h i hi
   cases l with
   | nil =>
     have : i = 0 := by simp at hi; exact hi
     subst this
     exact ⟨h.1, fun h' => by simp at h', fun _ => h.2⟩
   | cons z l =>
     cases i with
     | zero => exact ⟨h.1, fun _ => ⟨h.2.1, h.2.2.1⟩, fun h' => by simp at h'⟩
     | succ i =>
       obtain ⟨a, b, c⟩ := ih h.2.2.2 i (by simpa using hi)
       exact ⟨a, fun h' => b (by simpa using h'), fun h' => c (by simpa using h')⟩
theorem Zld {ms : List Mk} {ls : List (List Int)} {q : List Int} (h : ZR ms ls = true) {x : Int} (hx : 0 <= Zr ms x) (hs : ZV ms ls q x ≠ x) : Zx (Zl ms q (ZV ms ls q x)) (Zl ms q x) = true /\ x ∈ cn ls (Zs ms (ZV ms ls q x)) := by
 obtain ⟨h1, h2, h3⟩ := ZcA ms ls q x
 rcases h1 with e | ⟨hm, ha⟩
 · exact absurd e hs
 · obtain ⟨a, b, c⟩ := Zz hx
   obtain ⟨d1, d2, d3, d4, d5⟩ := ZaA h a hm
   rw [c] at d5
   exact ⟨ha, d5⟩
theorem Zjs {ms : List Mk} {ls : List (List Int)} {q : List Int} {x : Int} (hs : ZV ms ls q x = x) {y : Int} (hy : y ∈ cn ls (Zs ms x)) : leH (Zl ms q x) (Zl ms q y) := by
 obtain ⟨h1, h2, h3⟩ := ZcA ms ls q x
 have := h3 y hy
 rw [hs] at this
 exact this
theorem ZmQ {ms : List Mk} {ls : List (List Int)} {q : List Int} {fr : Int} (ht : Za4 ms ls fr q = true) : nth (ZaO ms ls fr q) 0 = fr /\ 0 < (ZaO ms ls fr q).length /\ ∀ i, i < (ZaO ms ls fr q).length -> 0 <= Zr ms (nth (ZaO ms ls fr q) i) /\
 (i + 1 < (ZaO ms ls fr q).length -> Zx (Zl ms q (nth (ZaO ms ls fr q) (i + 1))) (Zl ms q (nth (ZaO ms ls fr q) i)) = true /\ nth (ZaO ms ls fr q) i ∈ cn ls (Zs ms (nth (ZaO ms ls fr q) (i + 1)))) /\
 (i + 1 = (ZaO ms ls fr q).length -> ∀ y ∈ cn ls (Zs ms (nth (ZaO ms ls fr q) i)), leH (Zl ms q (nth (ZaO ms ls fr q) i)) (Zl ms q y)) := by
 have hh : ZR ms ls = true /\ 0 <= Zr ms fr := by
  unfold Za4 at ht
  simp only [Bool.and_eq_true, decide_eq_true_eq] at ht
  exact ⟨ht.1.1, ht.2⟩
 have e : ZaO ms ls fr q = Zab ms ls q fr := by unfold ZaO; rw [if_pos ht]
 rw [e]
 obtain ⟨l, el⟩ := ZfU ms ls q fr
 refine ⟨by rw [el]; rfl, by rw [el]; simp, fun i hi => ?_⟩
 obtain ⟨a, b, c⟩ := ZnT _ (ZmP hh.1 _ fr (Nat.le_refl _) hh.2) i hi
 refine ⟨a, fun h1 => ?_, fun h1 y hy => Zjs (c h1) hy⟩
 obtain ⟨b1, b2⟩ := b h1
 rw [b1] at b2 ⊢
 exact Zld hh.1 a b2
end Go.Proofs.YtaaagmgglolibaaGreat
namespace Go.Proofs.YtaaagmgglolibaaGreat
def ZaB : List Int -> Int -> List Int
 | [], n => [n]
 | x :: l, n => if x < n then x :: ZaB l n else if x = n then x :: l else n :: x :: l
def Zc0 (ids : List Int) : List Int := ids.foldl ZaB []
theorem Zij (l : List Int) (n y : Int) : y ∈ ZaB l n ↔ y = n \/ y ∈ l := by
 induction l with
 | nil => simp [ZaB]
 | cons x l ih =>
   simp only [ZaB]
   by_cases h1 : x < n
   · rw [if_pos h1, List.mem_cons, ih, List.mem_cons]
     constructor
     · rintro (h | h | h)
       · exact Or.inr (Or.inl h)
       · exact Or.inl h
       · exact Or.inr (Or.inr h)
     · rintro (h | h | h)
       · exact Or.inr (Or.inl h)
       · exact Or.inl h
       · exact Or.inr (Or.inr h)
   · rw [if_neg h1]
     by_cases h2 : x = n
     · rw [if_pos h2, h2]; simp
     · rw [if_neg h2]; simp
theorem Zjt {l : List Int} (h : l.Pairwise (fun a b => a < b)) (n : Int) : (ZaB l n).Pairwise (fun a b => a < b) := by
 induction l with
 | nil => simp [ZaB]
 | cons x l ih =>
   obtain ⟨h1, h2⟩ := List.pairwise_cons.1 h
   simp only [ZaB]
   by_cases hx : x < n
   · rw [if_pos hx, List.pairwise_cons]
     refine ⟨fun y hy => ?_, ih h2⟩
     rcases (Zij l n y).1 hy with e | e
     · rw [e]; exact hx
     · exact h1 y e
   · rw [if_neg hx]
     by_cases he : x = n
     · rw [if_pos he]; exact h
     · rw [if_neg he, List.pairwise_cons]
       refine ⟨fun y hy => ?_, h⟩
       rcases List.mem_cons.1 hy with e | e
       · rw [e]; omega
       · have := h1 y e; omega
theorem ZeD (ids acc : List Int) (h : acc.Pairwise (fun a b => a < b)) : (ids.foldl ZaB acc).Pairwise (fun a b => a < b) /\ ∀ y, y ∈ ids.foldl ZaB acc ↔ y ∈ acc \/ y ∈ ids := by
 induction ids generalizing acc with
 | nil => exact ⟨h, fun y => by simp⟩
 | cons x ids ih =>
   obtain ⟨h1, h2⟩ := ih (ZaB acc x) (Zjt h x)
   refine ⟨h1, fun y => ?_⟩
   rw [List.foldl_cons, h2, Zij, List.mem_cons]
   constructor
   · rintro ((e | e) | e)
     · exact Or.inr (Or.inl e)
     · exact Or.inl e
     · exact Or.inr (Or.inr e)
   · rintro (e | e | e)
     · exact Or.inl (Or.inr e)
     · exact Or.inl (Or.inl e)
     · exact Or.inr e
theorem ZfV (ids : List Int) (y : Int) : y ∈ Zc0 ids ↔ y ∈ ids := by
 have := (ZeD ids [] List.Pairwise.nil).2 y
 simpa [Zc0] using this
theorem ZfW {l : List Int} (h : l.Pairwise (fun a b => a < b)) : Zbc l = true := by
 rw [Zbj]
 intro j hj
 have h' := List.pairwise_iff_getElem.1 h j (j + 1) (by omega) hj (by omega)
 have e1 : nth l j = l[j] := by simp [nth, List.getD, show j < l.length by omega]
 have e2 : nth l (j + 1) = l[j + 1] := by simp [nth, List.getD, hj]
 rw [e1, e2]
 exact h'
theorem Zle (ids : List Int) : Zbc (Zc0 ids) = true := ZfW (ZeD ids [] List.Pairwise.nil).1
def Zcw (ms : List Mk) (ls : List (List Int)) (ids : List Int) (x : Int) (i : Nat) : List Int := if ZY ids (mid ms i) = true then cn ls i ++ [x] else cn ls i
def ZcN (ms : List Mk) (ls : List (List Int)) (ids : List Int) (x : Int) : List (List Int) := (List.range ms.length).map (Zcw ms ls ids x) ++ [Zc0 ids]
theorem Zc3 (ms : List Mk) (ls : List (List Int)) (ids : List Int) (x : Int) : (ZcN ms ls ids x).length = ms.length + 1 := by simp [ZcN]
theorem Ze4 {ms : List Mk} {ls : List (List Int)} {ids : List Int} {x : Int} {i : Nat} (h : i < ms.length) : cn (ZcN ms ls ids x) i = Zcw ms ls ids x i := by
 simp [cn, ZcN, List.getD, h, List.getElem?_append_left]
theorem ZeE (ms : List Mk) (ls : List (List Int)) (ids : List Int) (x : Int) : cn (ZcN ms ls ids x) ms.length = Zc0 ids := by
 simp [cn, ZcN, List.getD]
theorem ZfX {ms : List Mk} {ls : List (List Int)} {ids : List Int} {x y : Int} {i : Nat} : y ∈ Zcw ms ls ids x i ↔ y ∈ cn ls i \/ (y = x /\ ZY ids (mid ms i) = true) := by
 unfold Zcw
 by_cases h : ZY ids (mid ms i) = true
 · rw [if_pos h]; simp [h]
 · rw [if_neg h]; simp [h]
theorem Zdg {ms : List Mk} {m : Mk} {i : Nat} (h : i < ms.length) : mid (ms ++ [m]) i = mid ms i := by simp [mid, List.getD, h, List.getElem?_append_left]
theorem ZhD {ms : List Mk} {m : Mk} {i : Nat} (h : i < ms.length) : mat (ms ++ [m]) i = mat ms i := by simp [mat, List.getD, h, List.getElem?_append_left]
theorem Zdh (ms : List Mk) (m : Mk) : mid (ms ++ [m]) ms.length = m.1 := by simp [mid, List.getD]
theorem ZhE (ms : List Mk) (m : Mk) : mat (ms ++ [m]) ms.length = m.2 := by simp [mat, List.getD]
theorem ZdO {ms : List Mk} {ls : List (List Int)} {ids : List Int} {m : Mk} (hw : ZR ms ls = true) (hm : Zk (ms ++ [m]) = true) (hids : ∀ x ∈ ids, 0 <= Zr ms x) : ZR (ms ++ [m]) (ZcN ms ls ids m.1) = true := by
 have hmw := Zt hw
 have hlen := Zag hw
 have hz : ∀ {j}, j < ms.length -> Zr (ms ++ [m]) (mid ms j) = (j : Int) /\ Zs (ms ++ [m]) (mid ms j) = j := fun {j} hj => by
  have := Zax hm (i := j) (by simp; omega)
  rwa [Zdg hj] at this
 have hzl : Zr (ms ++ [m]) m.1 = (ms.length : Int) /\ Zs (ms ++ [m]) m.1 = ms.length := by
  have := Zax hm (i := ms.length) (by simp)
  rwa [Zdh] at this
 have hidx : ∀ x ∈ ids, ∃ j, j < ms.length /\ mid ms j = x := fun x hx => ⟨Zs ms x, (Zz (hids x hx)).1, (Zz (hids x hx)).2.2⟩
 refine (ZbW _ _).2 ⟨hm, by rw [Zc3]; simp, fun i hi => ?_⟩
 rw [Zc3] at hi
 refine (Zcc _ _ _).2 ?_
 rcases Nat.lt_or_ge i ms.length with h | h
 · rw [Ze4 h]
   constructor
   · refine ZfW ?_
     have hp := ZdY (ZfS hw h)
     unfold Zcw
     by_cases hb : ZY ids (mid ms i) = true
     · rw [if_pos hb, List.pairwise_append]
       refine ⟨hp, by simp, fun a ha b hb' => ?_⟩
       simp at hb'
       have hl := ZaA hw h ha
       have := ZbM hm (i := Zs ms a) (j := ms.length) hl.2.1 (by simp)
       rw [Zdg hl.2.1, Zdh, hl.2.2.1] at this
       rw [hb']
       exact this
     · rw [if_neg hb]; exact hp
   · intro k hk
     have hx : nth (Zcw ms ls ids m.1 i) k ∈ Zcw ms ls ids m.1 i := (ZE _ _).1 (Zbd hk)
     generalize nth (Zcw ms ls ids m.1 i) k = x at hx
     rw [Zcb, Zdg h]
     rcases ZfX.1 hx with hx | ⟨rfl, hxb⟩
     · have hl := ZaA hw h hx
       have h2 := hz hl.2.1
       rw [hl.2.2.1] at h2
       refine ⟨by omega, by have := hl.2.2.2.1; omega, ?_⟩
       rw [h2.2, Ze4 hl.2.1, ZE]
       exact ZfX.2 (Or.inl hl.2.2.2.2)
     · refine ⟨by omega, by omega, ?_⟩
       rw [hzl.2, ZeE, ZE, ZfV]
       exact (ZE _ _).1 hxb
 · obtain rfl : i = ms.length := by omega
   rw [ZeE]
   refine ⟨Zle ids, fun k hk => ?_⟩
   have hx : nth (Zc0 ids) k ∈ ids := (ZfV _ _).1 ((ZE _ _).1 (Zbd hk))
   generalize nth (Zc0 ids) k = x at hx
   obtain ⟨j, hj, rfl⟩ := hidx x hx
   rw [Zcb, Zdh, (hz hj).1, (hz hj).2, Ze4 hj, ZE]
   exact ⟨by omega, by omega, ZfX.2 (Or.inr ⟨rfl, (ZE _ _).2 hx⟩)⟩
def Zb4 (ms : List Mk) (p : List Int) (most : Int) : List Int := (Zau ms p most).map (fun h => h.1)
def ZgB (most : Int) : Bool := decide (1 <= most) && decide (most <= 8)
def ZaS (ms : List Mk) (ls : List (List Int)) (m : Mk) (most : Int) : Bool := ZR ms ls && ZgB most && Zk (ms ++ [m])
theorem Zck {ms : List Mk} (hm : Zk ms = true) {p : List Int} {most : Int} : ∀ x ∈ Zb4 ms p most, 0 <= Zr ms x := by
 intro x hx
 obtain ⟨h, hh, rfl⟩ := List.mem_map.1 hx
 unfold Zau at hh
 split at hh
 · have h1 := (Zac _).mem_iff.1 (List.mem_of_mem_take hh)
   obtain ⟨mk, hmk, rfl⟩ := List.mem_map.1 h1
   obtain ⟨i, hi, e⟩ := List.mem_iff_getElem.1 hmk
   have e2 : mid ms i = mk.1 := by simp [mid, List.getD, hi, e]
   show 0 <= Zr ms mk.1
   rw [<- e2, (Zax hm hi).1]
   omega
 · simp at hh
def ZaC (s : List Ht) : List Int := s.map (fun h => h.1)
theorem ZhS (s : List Ht) : (ZaC s).length = s.length := by simp [ZaC]
theorem Zeg {s : List Ht} {x : Int} : x ∈ ZaC s ↔ ∃ h ∈ s, h.1 = x := by simp [ZaC]
theorem ZcC {s : List Ht} {k : Nat} (hk : k < s.length) : (Zg s k).1 ∈ ZaC s := Zeg.2 ⟨_, by simp [Zg, List.getD, hk], rfl⟩
theorem Zds {s : List Ht} {x : Int} (h : x ∈ ZaC s) : ∃ k, k < s.length /\ (Zg s k).1 = x := by
 obtain ⟨h, hm, e⟩ := Zeg.1 h
 obtain ⟨k, hk, e'⟩ := List.mem_iff_getElem.1 hm
 exact ⟨k, hk, by simp [Zg, List.getD, hk, e', e]⟩
theorem Zce {s : List Ht} {k : Nat} (hk : k < s.length) : Zg s k ∈ s := by simp [Zg, List.getD, hk]
def Zcr (dd : Int -> Int) (s : List Ht) (x : Int) : List Ht := if ZY (ZaC s) x = true then s else ZaT s (x, dd x)
def ZbH (dd : Int -> Int) (s : List Ht) (l : List Int) : List Ht := l.foldl (Zcr dd) s
theorem Zju (dd : Int -> Int) (s : List Ht) (l : List Int) (x : Int) : ZbH dd s (l ++ [x]) = Zcr dd (ZbH dd s l) x := by simp [ZbH, List.foldl_append]
theorem ZfA (dd : Int -> Int) (s : List Ht) (l : List Int) {k : Nat} (hk : k < l.length) : ZbH dd s (l.take (k + 1)) = Zcr dd (ZbH dd s (l.take k)) (nth l k) := by
 rw [List.take_add_one, List.getElem?_eq_getElem hk]
 simp only [Option.toList_some]
 rw [Zju]
 simp [nth, List.getD, hk]
structure ZbG (dd : Int -> Int) (s : List Ht) : Prop where
 so : ZaY s
 nd : (ZaC s).Nodup
 far : ∀ h ∈ s, h.2 = dd h.1
theorem ZmR (s : List Ht) (h : Ht) (x : Int) : x ∈ ZaC (ZaT s h) ↔ x = h.1 \/ x ∈ ZaC s := by
 simp only [Zeg, (Zcg s h).mem_iff, List.mem_cons]
 constructor
 · rintro ⟨g, e | e, rfl⟩
   · left; rw [e]
   · right; exact ⟨g, e, rfl⟩
 · rintro (rfl | ⟨g, e, rfl⟩)
   · exact ⟨h, Or.inl rfl, rfl⟩
   · exact ⟨g, Or.inr e, rfl⟩
theorem ZbG.nil (dd : Int -> Int) : ZbG dd [] := ⟨List.Pairwise.nil, by simp [ZaC], fun h hh => by cases hh⟩
theorem ZbG.see {dd : Int -> Int} {s : List Ht} (h : ZbG dd s) (x : Int) : ZbG dd (Zcr dd s x) := by
 unfold Zcr
 rcases hb : ZY (ZaC s) x with _ | _
 · simp only [Bool.false_eq_true, if_false]
   have hno := (Zbw _ _).1 hb
   refine ⟨ZeU h.so _, ?_, fun g hg => ?_⟩
   · have hp : (ZaC (ZaT s (x, dd x))).Perm (x :: ZaC s) := by simpa [ZaC] using (Zcg s (x, dd x)).map (fun h => h.1)
     rw [hp.nodup_iff, List.nodup_cons]
     exact ⟨hno, h.nd⟩
   · rcases List.mem_cons.1 ((Zcg s (x, dd x)).mem_iff.1 hg) with e | e
     · rw [e]
     · exact h.far g e
 · simp only [if_true]; exact h
theorem Zeh {dd : Int -> Int} {s : List Ht} {x y : Int} : y ∈ ZaC (Zcr dd s x) ↔ y = x \/ y ∈ ZaC s := by
 unfold Zcr
 rcases hb : ZY (ZaC s) x with _ | _
 · simp only [Bool.false_eq_true, if_false]
   exact ZmR _ _ _
 · simp only [if_true]
   constructor
   · exact Or.inr
   · rintro (rfl | e)
     · exact (ZE _ _).1 hb
     · exact e
theorem Zc8 {dd : Int -> Int} {s : List Ht} (h : ZbG dd s) (l : List Int) : ZbG dd (ZbH dd s l) /\ ∀ y, y ∈ ZaC (ZbH dd s l) ↔ y ∈ l \/ y ∈ ZaC s := by
 induction l generalizing s with
 | nil => exact ⟨h, fun y => by simp [ZbH]⟩
 | cons x l ih =>
   obtain ⟨h1, h2⟩ := ih (h.see x)
   refine ⟨h1, fun y => ?_⟩
   have e := h2 y
   show y ∈ ZaC (ZbH dd (Zcr dd s x) l) ↔ _
   rw [e, Zeh, List.mem_cons]
   constructor
   · rintro (a | a | a)
     · exact Or.inl (Or.inr a)
     · exact Or.inl (Or.inl a)
     · exact Or.inr a
   · rintro ((a | a) | a)
     · exact Or.inr (Or.inl a)
     · exact Or.inl a
     · exact Or.inr (Or.inr a)
def ZbN (h : Ht) : List Ht -> Nat
 | [] => 0
 | x :: l => if Zx x h = true then ZbN h l + 1 else 0
theorem Zg5 (h : Ht) (l : List Ht) : ZbN h l <= l.length := by
 induction l with
 | nil => simp [ZbN]
 | cons x l ih => simp only [ZbN]; split <;> simp <;> omega
theorem ZhR (h : Ht) (l : List Ht) (i : Nat) (hi : i < ZbN h l) : Zx (Zg l i) h = true := by
 induction l generalizing i with
 | nil => simp [ZbN] at hi
 | cons x l ih =>
   simp only [ZbN] at hi
   by_cases hx : Zx x h = true
   · rw [if_pos hx] at hi
     match i with
     | 0 => simpa [Zg] using hx
     | i + 1 => simpa [Zg] using ih i (by omega)
   · simp [hx] at hi
theorem Zgt {l : List Ht} (hs : ZaY l) (h : Ht) (i : Nat) (hi : ZbN h l <= i) (hl : i < l.length) : Zx (Zg l i) h = false := by
 induction l generalizing i with
 | nil => simp at hl
 | cons x l ih =>
   simp only [ZbN] at hi
   have hs2 := List.pairwise_cons.1 hs
   by_cases hx : Zx x h = true
   · rw [if_pos hx] at hi
     match i with
     | 0 => omega
     | i + 1 =>
       simp at hl
       have := ih hs2.2 i (by omega) hl
       simpa [Zg] using this
   · match i with
     | 0 => simpa [Zg] using hx
     | i + 1 =>
       simp at hl
       have hm : l[i] ∈ l := List.getElem_mem hl
       have h1 := hs2.1 _ hm
       have e : Zg (x :: l) (i + 1) = l[i] := by simp [Zg, List.getD, hl]
       rw [e]
       have hx' := (ZJ _ _).1 (by simpa using hx)
       exact (ZJ _ _).2 (Za8 hx' h1)
theorem Zl9 (dd : Int -> Int) {s : List Ht} {x : Int} (hx : x ∉ ZaC s) : ZaT s (x, dd x) = s.take (ZbN (x, dd x) s) ++ (x, dd x) :: s.drop (ZbN (x, dd x) s) := by
 have key : ∀ l : List Ht, (∀ g ∈ l, g.1 ≠ x) -> ZaT l (x, dd x) = l.take (ZbN (x, dd x) l) ++ (x, dd x) :: l.drop (ZbN (x, dd x) l) := by
  intro l
  induction l with
  | nil => intro _; rfl
  | cons g l ih =>
    intro hg
    have h1 := hg g (by simp)
    have h2 := ih (fun g' hg' => hg g' (by simp [hg']))
    simp only [ZaT, ZbN]
    by_cases ha : Zx g (x, dd x) = true
    · have hb : Zx (x, dd x) g = false := (ZJ _ _).2 (Za9 ha)
      simp [ha, hb, h2]
    · have hb : Zx (x, dd x) g = true := by
       have ha' := (ZJ _ _).1 (by simpa using ha)
       rw [ZaR]
       unfold leH at ha'
       simp only at *
       omega
      simp [ha, hb]
 exact key s fun g hg e => hx (Zeg.2 ⟨g, hg, e⟩)
theorem Zma {dd : Int -> Int} {s : List Ht} (h : ZbG dd s) (x : Int) : ZY (ZaC s) x = (decide (ZbN (x, dd x) s < s.length) && decide ((Zg s (ZbN (x, dd x) s)).1 = x)) := by
 rcases hb : ZY (ZaC s) x with _ | _
 · have hno := (Zbw _ _).1 hb
   symm
   rw [Bool.and_eq_false_iff]
   by_cases hl : ZbN (x, dd x) s < s.length
   · right
     exact decide_eq_false fun e => hno (by rw [<- e]; exact ZcC hl)
   · left; exact decide_eq_false hl
 · obtain ⟨k, hk, e⟩ := Zds ((ZE _ _).1 hb)
   have he : Zg s k = (x, dd x) := by
    have := h.far _ (Zce hk)
    rw [<- e, <- this]
   have h1 : ZbN (x, dd x) s <= k := by
    rcases Nat.lt_or_ge k (ZbN (x, dd x) s) with c | c
    · have := ZhR _ _ _ c
      rw [he, ZfT] at this; cases this
    · exact c
   have h2 : ZbN (x, dd x) s < s.length := by omega
   have h3 := Zgt h.so (x, dd x) _ (Nat.le_refl _) h2
   have h4 : leH (Zg s (ZbN (x, dd x) s)) (Zg s k) := by
    rcases Nat.lt_or_ge (ZbN (x, dd x) s) k with c | c
    · have := List.pairwise_iff_getElem.1 h.so _ _ h2 hk c
      simpa [Zg, List.getD, h2, hk] using this
    · rw [show ZbN (x, dd x) s = k by omega]; exact ZaL _
   have h5 := ZcV h4 (by rw [he]; exact (ZJ _ _).1 h3)
   rw [h5, he]
   simp [h2]
structure ZcD (ms : List Mk) (ls : List (List Int)) (dd : Int -> Int) (s : List Ht) (op : List Int) : Prop where
 look : ZbG dd s
 find : ∀ x ∈ ZaC s, 0 <= Zr ms x
 nd : op.Nodup
 sub : ∀ x ∈ op, x ∈ ZaC s
 all : ∀ x ∈ op, ∀ y ∈ cn ls (Zs ms x), y ∈ ZaC s
theorem ZcD.short {ms : List Mk} {ls : List (List Int)} {dd : Int -> Int} {s : List Ht} {op : List Int} (h : ZcD ms ls dd s op) : s.length <= ms.length := by
 have := Za7 h.look.nd h.find
 rwa [ZhS] at this
theorem ZcD.shortO {ms : List Mk} {ls : List (List Int)} {dd : Int -> Int} {s : List Ht} {op : List Int} (h : ZcD ms ls dd s op) : op.length <= ms.length := Za7 h.nd (fun x hx => h.find x (h.sub x hx))
theorem ZcD.nil (ms : List Mk) (ls : List (List Int)) (dd : Int -> Int) : ZcD ms ls dd [] [] := ⟨ZbG.nil dd, fun x hx => (by simp [ZaC] at hx), (by simp), fun x hx => (by simp at hx), fun x hx => (by simp at hx)⟩
theorem ZcD.see {ms : List Mk} {ls : List (List Int)} {dd : Int -> Int} {s : List Ht} {op : List Int} (h : ZcD ms ls dd s op) {x : Int} (hx : 0 <= Zr ms x) : ZcD ms ls dd (Zcr dd s x) op :=
 ⟨h.look.see x, fun y hy => by
  rcases Zeh.1 hy with e | e
  · rw [e]; exact hx
  · exact h.find y e, h.nd, fun y hy => Zeh.2 (Or.inr (h.sub y hy)), fun y hy z hz => Zeh.2 (Or.inr (h.all y hy z hz))⟩
def ZbY (s : List Ht) (op : List Int) (wd : Nat) : Int := (Zg s (Zy s op (min s.length wd)).toNat).1
theorem Zd9 {s : List Ht} {op : List Int} {wd : Nat} (h : 0 <= Zy s op (min s.length wd)) : (Zy s op (min s.length wd)).toNat < s.length /\ ZbY s op wd ∈ ZaC s /\ ZbY s op wd ∉ op := by
 obtain ⟨h1, h2, h3, -⟩ := Zd4 s op (min s.length wd)
 have hlt : (Zy s op (min s.length wd)).toNat < s.length := by omega
 exact ⟨hlt, ZcC hlt, (Zbw _ _).1 (h3 h)⟩
theorem ZcD.opened {ms : List Mk} {ls : List (List Int)} (hw : ZR ms ls = true) {dd : Int -> Int} {s : List Ht} {op : List Int} (h : ZcD ms ls dd s op) {x : Int} (hx : x ∈ ZaC s) (hn : x ∉ op) : ZcD ms ls dd (ZbH dd s (cn ls (Zs ms x))) (op ++ [x]) := by
 have hf := Zz (h.find x hx)
 obtain ⟨h1, h2⟩ := Zc8 h.look (cn ls (Zs ms x))
 refine ⟨h1, fun y hy => ?_, ?_, fun y hy => ?_, fun y hy z hz => ?_⟩
 · rcases (h2 y).1 hy with e | e
   · exact (ZaA hw hf.1 e).1
   · exact h.find y e
 · rw [List.nodup_append]
   refine ⟨h.nd, by simp, fun a ha b hb e => ?_⟩
   simp at hb
   exact hn (by rw [<- hb, <- e]; exact ha)
 · rcases List.mem_append.1 hy with e | e
   · exact (h2 y).2 (Or.inr (h.sub y e))
   · simp at e; rw [e]; exact (h2 x).2 (Or.inr hx)
 · rcases List.mem_append.1 hy with e | e
   · exact (h2 z).2 (Or.inr (h.all y e z hz))
   · simp at e; rw [e] at hz; exact (h2 z).2 (Or.inl hz)
inductive LkTo (ms : List Mk) (ls : List (List Int)) (dd : Int -> Int) (wd : Nat) (s0 : List Ht) (op0 : List Int) : List Ht -> List Int -> Prop
 | refl : LkTo ms ls dd wd s0 op0 s0 op0
 | step {s : List Ht} {op : List Int} : LkTo ms ls dd wd s0 op0 s op -> 0 <= Zy s op (min s.length wd) -> LkTo ms ls dd wd s0 op0 (ZbH dd s (cn ls (Zs ms (ZbY s op wd)))) (op ++ [ZbY s op wd])
theorem LkTo.ok {ms : List Mk} {ls : List (List Int)} (hw : ZR ms ls = true) {dd : Int -> Int} {wd : Nat} {s0 s : List Ht} {op0 op : List Int} (h : LkTo ms ls dd wd s0 op0 s op) (h0 : ZcD ms ls dd s0 op0) : ZcD ms ls dd s op := by
 induction h with
 | refl => exact h0
 | step _ h2 ih => exact ih.opened hw (Zd9 h2).2.1 (Zd9 h2).2.2
theorem ZcD.room {ms : List Mk} {ls : List (List Int)} {dd : Int -> Int} {s : List Ht} {op : List Int} (h : ZcD ms ls dd s op) {x : Int} (hx : x ∈ ZaC s) (hn : x ∉ op) : op.length < ms.length := by
 have := Za7 (ms := ms) (l := op ++ [x]) (by
  rw [List.nodup_append]
  refine ⟨h.nd, by simp, fun a ha b hb e => ?_⟩
  simp at hb
  exact hn (by rw [<- hb, <- e]; exact ha)) (fun y hy => by
  rcases List.mem_append.1 hy with e | e
  · exact h.find y (h.sub y e)
  · simp at e; rw [e]; exact h.find x hx)
 simp at this
 omega
def ZcQ (ms : List Mk) (q : List Int) (x : Int) : Int := ZO (mat ms (Zs ms x)) q
theorem Zlf {ms : List Mk} {q : List Int} {s : List Ht} {ids : List Int} (h : Zao ms q s ids) (l : List Int) (hl : ∀ x ∈ l, 0 <= Zr ms x) (k : Nat) (hk : k <= l.length) : (Za2 ms q l s ids k).1 = ZbH (ZcQ ms q) s (l.take k) := by
 induction k with
 | zero => simp [Za2, ZbH]
 | succ k ih =>
   have ih' := ih (by omega)
   obtain ⟨h1, -, -, -⟩ := Ze0 h hl k (by omega)
   rw [ZfA _ _ _ (by omega), <- ih']
   simp only [Za2, Zcr]
   have e : ZY (ZaC (Za2 ms q l s ids k).1) (nth l k) = ZY (Za2 ms q l s ids k).2 (nth l k) := by
    rw [Bool.eq_iff_iff, ZE, ZE]
    constructor
    · intro hm
      obtain ⟨j, hj, e⟩ := Zds hm
      rw [<- e]; exact (h1.at hj).1
    · intro hm
      obtain ⟨j, hj, e⟩ := h1.mem hm
      have := ZcC hj
      rw [e] at this; exact this
   rw [e]
   split <;> rfl
theorem LkTo.beam {ms : List Mk} {ls : List (List Int)} (hw : ZR ms ls = true) {q : List Int} {wd : Nat} {s0 s : List Ht} {ids0 op0 op : List Int} (h : LkTo ms ls (ZcQ ms q) wd s0 op0 s op) (hb : Zao ms q s0 ids0) (ho : ZcK ms ls ids0 op0) : ∃ ids, Zao ms q s ids /\ ZcK ms ls ids op /\ Za1 ms ls q wd s0 ids0 op0 = Za1 ms ls q wd s ids op := by
 induction h with
 | refl => exact ⟨ids0, hb, ho, rfl⟩
 | @step s op _ h2 ih =>
   obtain ⟨ids, k1, k2, k3⟩ := ih
   obtain ⟨j1, j2, j3⟩ := ZdM hw k1 k2 h2 (id := ZbY s op wd) rfl
   have hin := (ZbJ k1 k2 h2).2.1
   have hf := Zz (k1.find _ hin)
   have e := Zlf k1 (cn ls (Zs ms (ZbY s op wd))) (fun x hx => (ZaA hw hf.1 hx).1) _ (Nat.le_refl _)
   rw [List.take_length] at e
   rw [e] at j1 j2
   exact ⟨_, j2, j3, k3.trans j1⟩
theorem ZkD {ms : List Mk} {ls : List (List Int)} (hw : ZR ms ls = true) {q : List Int} {wd : Nat} {fr : Int} (hf : 0 <= Zr ms fr) {s : List Ht} {op : List Int} (h : LkTo ms ls (ZcQ ms q) wd [(fr, ZcQ ms q fr)] [] s op) (he : Zy s op (min s.length wd) < 0) : Za1 ms ls q wd [Zl ms q fr] [fr] [] = s.take wd := by
 obtain ⟨hb, ho⟩ := ZcJ (ls := ls) (q := q) hf
 obtain ⟨ids, -, -, e⟩ := h.beam hw hb ho
 exact e.trans (Zdm he)
theorem ZcP {ms : List Mk} {ls : List (List Int)} {dd : Int -> Int} {fr : Int} (hf : 0 <= Zr ms fr) : Zcr dd [] fr = [(fr, dd fr)] /\ ZcD ms ls dd [(fr, dd fr)] [] := by
 have e : Zcr dd [] fr = [(fr, dd fr)] := rfl
 refine ⟨e, ?_⟩
 rw [<- e]
 exact (ZcD.nil ms ls dd).see hf
theorem Zjv {dd : Int -> Int} {s : List Ht} (h : ZbG dd s) {x : Int} (hx : x ∈ ZaC s) (hl : ∀ y ∈ ZaC s, leH (x, dd x) (y, dd y)) : 0 < s.length /\ Zg s 0 = (x, dd x) := by
 obtain ⟨k, hk, e⟩ := Zds hx
 have h0 : 0 < s.length := by omega
 refine ⟨h0, ?_⟩
 have hf0 := h.far _ (Zce h0)
 have hfk := h.far _ (Zce hk)
 have e0 : Zg s 0 = ((Zg s 0).1, dd (Zg s 0).1) := by rw [<- hf0]
 have ek : Zg s k = (x, dd x) := by rw [<- e, <- hfk]
 refine ZcV ?_ (by rw [e0]; exact hl _ (ZcC h0))
 rw [<- ek]
 rcases Nat.eq_zero_or_pos k with c | c
 · rw [c]; exact ZaL _
 · have := List.pairwise_iff_getElem.1 h.so _ _ h0 hk c
   simpa [Zg, List.getD, h0, hk] using this
theorem Zkf {dd : Int -> Int} {s : List Ht} (h : ZbG dd s) {x : Int} (hx : x ∈ ZaC s) : leH (Zg s 0) (x, dd x) := by
 obtain ⟨k, hk, e⟩ := Zds hx
 have h0 : 0 < s.length := by omega
 have hfk := h.far _ (Zce hk)
 have ek : Zg s k = (x, dd x) := by rw [<- e, <- hfk]
 rw [<- ek]
 rcases Nat.eq_zero_or_pos k with c | c
 · rw [c]; exact ZaL _
 · have := List.pairwise_iff_getElem.1 h.so _ _ h0 hk c
   simpa [Zg, List.getD, h0, hk] using this
theorem LkTo.walk {ms : List Mk} {ls : List (List Int)} (hw : ZR ms ls = true) {q : List Int} {fr : Int} (hf : 0 <= Zr ms fr) {s : List Ht} {op : List Int} (h : LkTo ms ls (ZcQ ms q) 1 [(fr, ZcQ ms q fr)] [] s op) :
 ∃ x, 0 < s.length /\ Zg s 0 = (x, ZcQ ms q x) /\ 0 <= Zr ms x /\ ((x ∉ op /\ Zab ms ls q fr = op ++ Zab ms ls q x) \/ (x ∈ op /\ Zab ms ls q fr = op)) := by
 have hok0 := (ZcP (ls := ls) (dd := ZcQ ms q) hf).2
 induction h with
 | refl => exact ⟨fr, by simp, rfl, hf, Or.inl ⟨by simp, by simp⟩⟩
 | @step s op h1 h2 ih =>
   obtain ⟨x, hl, e0, hx, hc⟩ := ih
   have hok := h1.ok hw hok0
   have hmin : min s.length 1 = 1 := by omega
   have hxs : x ∈ ZaC s := by have := ZcC hl; rw [e0] at this; exact this
   rcases hc with ⟨hno, hwk⟩ | ⟨hyes, -⟩
   · have ho : Zy s op (min s.length 1) = 0 := by
      rw [hmin]
      simp only [Zy, e0]
      rw [if_neg (by omega), if_neg (by rw [(Zbw _ _).2 hno]; simp)]
      rfl
     have hn : ZbY s op 1 = x := by unfold ZbY; rw [ho]; simp [e0]
     rw [hn]
     have hok' := hok.opened hw hxs hno
     obtain ⟨-, hmem⟩ := Zc8 hok.look (cn ls (Zs ms x))
     obtain ⟨s1, s2, s3⟩ := ZcA ms ls q x
     have hle : leH (Zl ms q (ZV ms ls q x)) (Zl ms q x) := by
      rcases s1 with e | ⟨-, e⟩
      · rw [e]; exact ZaL _
      · exact Za9 e
     have hin : ZV ms ls q x ∈ ZaC (ZbH (ZcQ ms q) s (cn ls (Zs ms x))) := by
      rcases s1 with e | ⟨e, -⟩
      · rw [e]; exact (hmem x).2 (Or.inr hxs)
      · exact (hmem _).2 (Or.inl e)
     obtain ⟨k1, k2⟩ := Zjv hok'.look hin (fun y hy => by
      rcases (hmem y).1 hy with e | e
      · exact s3 y e
      · have := Zkf hok.look e
        rw [e0] at this
        exact Za8 hle this)
     refine ⟨ZV ms ls q x, k1, k2, Zcd hw hx, ?_⟩
     by_cases hs : ZV ms ls q x = x
     · right
       refine ⟨by rw [hs]; simp, ?_⟩
       rw [hwk, Zdq hs]
     · left
       have ha : Zx (Zl ms q (ZV ms ls q x)) (Zl ms q x) = true := by
        rcases s1 with e | ⟨-, e⟩
        · exact absurd e hs
        · exact e
       refine ⟨fun hm => ?_, ?_⟩
       · rcases List.mem_append.1 hm with e | e
         · have := Zkf hok.look (hok.sub _ e)
           rw [e0] at this
           have := (ZJ _ _).2 this
           rw [show ((ZV ms ls q x, ZcQ ms q (ZV ms ls q x)) : Ht) = Zl ms q (ZV ms ls q x) from rfl, show ((x, ZcQ ms q x) : Ht) = Zl ms q x from rfl, ha] at this
           cases this
         · simp at e; exact hs e
       · rw [hwk, ZdT hw hx hs]; simp
   · exfalso
     have hlt : Zy s op (min s.length 1) < 0 := by
      rw [hmin]
      simp only [Zy, e0]
      rw [if_neg (by omega), if_pos ((ZE _ _).2 hyes)]
      omega
     omega
theorem ZkC {ms : List Mk} {ls : List (List Int)} (hw : ZR ms ls = true) {q : List Int} {fr : Int} (hf : 0 <= Zr ms fr) {s : List Ht} {op : List Int} (h : LkTo ms ls (ZcQ ms q) 1 [(fr, ZcQ ms q fr)] [] s op) (he : Zy s op (min s.length 1) < 0) : Zab ms ls q fr = op := by
 obtain ⟨x, hl, e0, -, hc⟩ := h.walk hw hf
 rcases hc with ⟨hno, -⟩ | ⟨-, e⟩
 · exfalso
   have hmin : min s.length 1 = 1 := by omega
   rw [hmin] at he
   simp only [Zy, e0] at he
   rw [if_neg (by omega), if_neg (by rw [(Zbw _ _).2 hno]; simp)] at he
   omega
 · exact e
theorem ZmS (l : List Int) (n : Int) : (ZaB l n).length <= l.length + 1 := by
 induction l with
 | nil => simp [ZaB]
 | cons x l ih =>
   simp only [ZaB]
   split
   · simp; omega
   · split <;> simp
theorem Zfm (ids acc : List Int) : (ids.foldl ZaB acc).length <= acc.length + ids.length := by
 induction ids generalizing acc with
 | nil => simp
 | cons x ids ih =>
   have h1 := ih (ZaB acc x)
   have h2 := ZmS acc x
   simp only [List.foldl_cons, List.length_cons]
   omega
def Zfl (ms : List Mk) (ls : List (List Int)) (ids : List Int) (y : Int) : List (List Int) := (List.range ms.length).map (Zcw ms ls ids y)
theorem Zei (ms : List Mk) (ls : List (List Int)) (ids : List Int) (y : Int) : (Zfl ms ls ids y).length = ms.length := by simp [Zfl]
theorem Ze1 {ms : List Mk} {ls : List (List Int)} {ids : List Int} {y : Int} {j : Nat} (h : j < ms.length) : (Zfl ms ls ids y)[j]? = some (Zcw ms ls ids y j) := by simp [Zfl, h]
theorem ZlM {ms : List Mk} {ls : List (List Int)} (hl : ls.length = ms.length) (y : Int) : Zfl ms ls [] y = ls := by
 apply List.ext_getElem?
 intro k
 rcases Nat.lt_or_ge k ms.length with h | h
 · rw [Ze1 h]
   have h' : k < ls.length := by omega
   simp [Zcw, ZY, cn, List.getD, h']
 · rw [List.getElem?_eq_none (by rw [Zei]; exact h), List.getElem?_eq_none (by omega)]
theorem Zej {ids : List Int} {i : Nat} (h : i < ids.length) (z : Int) : z ∈ ids.take (i + 1) ↔ z ∈ ids.take i \/ z = nth ids i := by
 rw [List.take_add_one, List.mem_append]
 have e : ids[i]?.toList = [nth ids i] := by simp [nth, List.getD, h]
 rw [e]; simp
theorem ZfY {ids : List Int} (hd : ids.Nodup) {i : Nat} (h : i < ids.length) : nth ids i ∉ ids.take i := by
 intro hm
 obtain ⟨k, hk, e⟩ := List.mem_iff_getElem.1 hm
 rw [List.length_take] at hk
 rw [List.getElem_take] at e
 have e2 : nth ids i = ids[i] := by simp [nth, List.getD, h]
 rw [e2] at e
 have := List.pairwise_iff_getElem.1 hd k i (by omega) h (by omega)
 exact this e
theorem Zgr {ms : List Mk} {ls : List (List Int)} (hm : Zk ms = true) {ids : List Int} (hd : ids.Nodup) {i j : Nat} (hi : i < ids.length) (hj : j < ms.length) (hx : nth ids i = mid ms j) (y : Int) :
 Zcw ms ls (ids.take i) y j = cn ls j /\ (Zfl ms ls (ids.take i) y).set j (cn ls j ++ [y]) = Zfl ms ls (ids.take (i + 1)) y := by
 have hno : ZY (ids.take i) (mid ms j) = false := by rw [Zbw, <- hx]; exact ZfY hd hi
 refine ⟨by simp [Zcw, hno], ?_⟩
 apply List.ext_getElem?
 intro k
 rcases Nat.lt_or_ge k ms.length with h | h
 · rw [Ze1 h]
   by_cases hk : j = k
   · subst hk
     rw [List.getElem?_set_self (by rw [Zei]; exact h)]
     have : ZY (ids.take (i + 1)) (mid ms j) = true := by rw [ZE, Zej hi]; exact Or.inr hx.symm
     simp [Zcw, this]
   · rw [List.getElem?_set_ne hk, Ze1 h]
     have : ZY (ids.take (i + 1)) (mid ms k) = ZY (ids.take i) (mid ms k) := by
      rw [Bool.eq_iff_iff, ZE, ZE, Zej hi, hx]
      constructor
      · rintro (e | e)
        · exact e
        · exact absurd (Zfr hm h hj e).symm hk
      · exact Or.inl
     simp [Zcw, this]
 · rw [List.getElem?_eq_none (by rw [List.length_set, Zei]; exact h), List.getElem?_eq_none (by rw [Zei]; exact h)]
theorem ZlN (ms : List Mk) (ls : List (List Int)) (ids : List Int) (y : Int) : Zfl ms ls ids y ++ [Zc0 ids] = ZcN ms ls ids y := rfl
theorem ZeN {ms : List Mk} (hm : Zk ms = true) (p : List Int) (most : Int) : (Zb4 ms p most).Nodup := by
 unfold Zb4 Zau
 split
 · have h1 : ((Z1 ms p).map (fun h => h.1)).Nodup := by
    rw [Z1, List.map_map, List.Nodup, List.pairwise_map, List.pairwise_iff_getElem]
    intro i j hi hj hij e
    have := ZbM hm hij hj
    have e1 : mid ms i = ms[i].1 := by simp [mid, List.getD, hi]
    have e2 : mid ms j = ms[j].1 := by simp [mid, List.getD, hj]
    have e' : ms[i].1 = ms[j].1 := e
    omega
   have h2 : ((ZZ (Z1 ms p)).map (fun h => h.1)).Nodup := (((Zac (Z1 ms p)).map (fun h => h.1)).nodup_iff).2 h1
   rw [List.map_take]
   exact List.Nodup.sublist (List.take_sublist _ _) h2
 · simp
theorem Zfk (ms : List Mk) (q : List Int) (k : Int) : (Zau ms q k).length <= 60 := by
 unfold Zau
 split
 · rename_i h
   rw [List.length_take]
   have : ZI k = true := h.2
   simp [ZI] at this
   omega
 · simp
def Zb0 (l : List Ht) (i j : Nat) : List Ht := (l.set i (Zg l j)).set j (Zg l i)
theorem Zbx (l : List Ht) (i j : Nat) : (Zb0 l i j).length = l.length := by simp [Zb0]
theorem Zik (l : List Ht) (i k : Nat) (x : Ht) (hk : k < l.length) : Zg (l.set i x) k = if k = i then x else Zg l k := by
 unfold Zg
 by_cases h : k = i
 · subst h; simp [List.getD, hk]
 · simp [List.getD, h, Ne.symm h]
theorem Zea (l : List Ht) (i j k : Nat) (_hi : i < l.length) (_hj : j < l.length) (hk : k < l.length) : Zg (Zb0 l i j) k = if k = j then Zg l i else if k = i then Zg l j else Zg l k := by
 unfold Zb0
 rw [Zik _ _ _ _ (by simp; exact hk)]
 split
 · rfl
 · rw [Zik _ _ _ _ hk]
theorem ZfD (l : List Ht) (i j : Nat) (hi : i < l.length) (hj : j < l.length) : (Zb0 l i j).Perm l := by
 have e1 : Zg l j = l[j] := by simp [Zg, List.getD, hj]
 have e2 : Zg l i = l[i] := by simp [Zg, List.getD, hi]
 unfold Zb0
 rw [e1, e2]
 exact List.set_set_perm hi hj
def par (c : Nat) : Nat := (c - 1) / 2
def Zb1 (l : List Ht) (n : Nat) : Prop := ∀ c, 0 < c -> c < n -> leH (Zg l (par c)) (Zg l c)
def ZoT (l : List Ht) (n i : Nat) : Prop := (∀ c, 0 < c -> c < n -> par c ≠ i -> leH (Zg l (par c)) (Zg l c)) /\ ∀ c, 0 < c -> c < n -> par c = i -> 0 < i -> leH (Zg l (par i)) (Zg l c)
theorem Zi6 {l : List Ht} {n : Nat} (h : Zb1 l n) (c : Nat) (hc : c < n) : leH (Zg l 0) (Zg l c) := by
 induction c using Nat.strongRecOn with
 | _ c ih =>
   rcases Nat.eq_zero_or_pos c with h0 | h0
   · subst h0; exact ZaL _
   · have hp : par c < c := by unfold par; omega
     exact Za8 (ih (par c) hp (by omega)) (h c h0 hc)
theorem Zjw {l : List Ht} {n : Nat} (h : Zb1 l (n + 1)) (hn : n < l.length) : ZoT (Zb0 l 0 n) n 0 := by
 have at' : ∀ k, k < n -> Zg (Zb0 l 0 n) k = if k = n then Zg l 0 else if k = 0 then Zg l n else Zg l k := fun k hk => Zea l 0 n k (by omega) (by omega) (by omega)
 refine ⟨fun c h0 hc hne => ?_, fun c h0 hc hp h1 => by omega⟩
 have hpc : par c < c := by unfold par; omega
 rw [at' c hc, at' (par c) (by omega), if_neg (show ¬ c = n by omega), if_neg (show ¬ c = 0 by omega), if_neg (show ¬ par c = n by omega), if_neg hne]
 exact h c h0 (by omega)
def Zgw (s : Nat) (l : List Ht) (n : Nat) : Prop := ∀ c, 0 < c -> c < n -> s <= par c -> leH (Zg l (par c)) (Zg l c)
def ZfE (s : Nat) (l : List Ht) (n i : Nat) : Prop := (∀ c, 0 < c -> c < n -> s <= par c -> par c ≠ i -> leH (Zg l (par c)) (Zg l c)) /\ ∀ c, 0 < c -> c < n -> par c = i -> 0 < i -> s <= par i -> leH (Zg l (par i)) (Zg l c)
theorem ZfG {l : List Ht} {n : Nat} (h : Zgw 0 l n) : Zb1 l n := fun c h0 hc => h c h0 hc (Nat.zero_le _)
theorem Zi2 (l : List Ht) (n : Nat) : Zgw (n / 2) l n := fun c h0 hc hp => by exfalso; unfold par at hp; omega
theorem Zi3 {l : List Ht} {n i : Nat} (h : Zgw (i + 1) l n) : ZfE i l n i :=
 ⟨fun c h0 hc hp hne => h c h0 hc (by omega), fun c h0 hc hp hi hs => by exfalso; unfold par at hs; omega⟩
theorem ZkJ {l : List Ht} {n : Nat} (h : Zb1 l (n + 1)) (hn : n < l.length) : ZfE 0 (Zb0 l 0 n) n 0 := by
 obtain ⟨h1, h2⟩ := Zjw h hn
 exact ⟨fun c h0 hc _ hne => h1 c h0 hc hne, fun c h0 hc hp hi _ => h2 c h0 hc hp hi⟩
theorem ZcR {s : Nat} {l : List Ht} {n i : Nat} (h : ZfE s l n i) (hc : ∀ c, 0 < c -> c < n -> par c = i -> leH (Zg l i) (Zg l c)) : Zgw s l n := fun c h0 h1 h2 => by
 by_cases e : par c = i
 · rw [e]; exact hc c h0 h1 e
 · exact h.1 c h0 h1 h2 e
theorem ZdV {s : Nat} {l : List Ht} {n i j : Nat} (h : ZfE s l n i) (hs : s <= i) (hn : n <= l.length) (hj : j < n) (hj0 : 0 < j) (hp : par j = i) (hmin : ∀ c, 0 < c -> c < n -> par c = i -> leH (Zg l j) (Zg l c)) (ha : Zx (Zg l j) (Zg l i) = true) : ZfE s (Zb0 l i j) n j := by
 have hij : i < j := by rw [<- hp]; unfold par; omega
 have hle := Za9 ha
 have at' : ∀ k, k < n -> Zg (Zb0 l i j) k = if k = j then Zg l i else if k = i then Zg l j else Zg l k := fun k hk => Zea l i j k (by omega) (by omega) (by omega)
 refine ⟨fun c hc0 hc hsc hne => ?_, fun c hc0 hc hpc hp0 hsp => ?_⟩
 · have hpc : par c < c := by unfold par; omega
   rw [at' c hc, at' (par c) (by omega), if_neg hne]
   by_cases e1 : c = j
   · rw [if_pos e1, if_pos (by rw [e1]; exact hp)]; exact hle
   · rw [if_neg e1]
     by_cases e2 : c = i
     · rw [if_pos e2]
       have e3 : par c ≠ i := by omega
       rw [if_neg e3]
       have := h.2 j hj0 hj hp (by omega) (by rw [<- e2]; exact hsc)
       rw [<- e2] at this
       exact this
     · rw [if_neg e2]
       by_cases e3 : par c = i
       · rw [if_pos e3]; exact hmin c hc0 hc e3
       · rw [if_neg e3]; exact h.1 c hc0 hc hsc e3
 · have hpc2 : par c < c := by unfold par; omega
   rw [hp, at' c hc, at' i (by omega), if_neg (show ¬ c = j by omega), if_neg (show ¬ c = i by omega), if_neg (show ¬ i = j by omega), if_pos rfl]
   have := h.1 c hc0 hc (by omega) (by omega)
   rw [hpc] at this
   exact this
theorem kids (c i : Nat) (h0 : 0 < c) (hp : par c = i) : c = 2 * i + 1 \/ c = 2 * i + 2 := by unfold par at hp; omega
end Go.Proofs.YtaaagmgglolibaaGreat
