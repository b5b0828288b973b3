/-
  Plain mathematics for the laws of chapter 12: threads by numbers; what the five functions answer.
-/
import Derived.Test.YtfbindjacmaeoaaECells
namespace Go.Proofs.Ytfbindjacmaeoaa

def eOf (ms : List Mk) (t : Th) : Eg := (zIdx ms t.1, zIdx ms t.2.1)
def thOf (ms : List Mk) (kd : Int) (e : Eg) : Th := (mid ms e.1, mid ms e.2, betV (mat ms e.1) (mat ms e.2) kd)
def thAhead (a b : Th) : Bool := if a.2.2 ≠ b.2.2 then decide (a.2.2 < b.2.2) else if a.1 ≠ b.1 then decide (a.1 < b.1) else decide (a.2.1 < b.2.1)
theorem eOf_thOf {ms : List Mk} (h : marksB ms = true) (kd : Int) {e : Eg} (h1 : e.1 < ms.length) (h2 : e.2 < ms.length) : eOf ms (thOf ms kd e) = e := by
  unfold eOf thOf
  rw [(zFind_mid h h1).2, (zFind_mid h h2).2]
theorem mid_lt_iff {ms : List Mk} (h : marksB ms = true) {i j : Nat} (hi : i < ms.length) (hj : j < ms.length) : mid ms i < mid ms j ↔ i < j := by
  constructor
  · intro hl
    rcases Nat.lt_trichotomy i j with h1 | h1 | h1
    · exact h1
    · subst h1; omega
    · have := zmid_rises h h1 hi; omega
  · exact fun hl => zmid_rises h hl hj
theorem mid_eq_iff {ms : List Mk} (h : marksB ms = true) {i j : Nat} (hi : i < ms.length) (hj : j < ms.length) : mid ms i = mid ms j ↔ i = j := ⟨zmid_inj h hi hj, fun e => by rw [e]⟩
theorem thAhead_eq {ms : List Mk} (h : marksB ms = true) {kd : Int} (hk : kindB kd = true) {e f : Eg} (e1 : e.1 < ms.length) (e2 : e.2 < ms.length) (f1 : f.1 < ms.length) (f2 : f.2 < ms.length) : thAhead (thOf ms kd e) (thOf ms kd f) = eAhead (zD ms kd) e f := by
  have a1 : (thOf ms kd e).2.2 = wt (zD ms kd) e := (zD_in h kd hk e1 e2).symm
  have a2 : (thOf ms kd f).2.2 = wt (zD ms kd) f := (zD_in h kd hk f1 f2).symm
  have b1 : (thOf ms kd e).1 = mid ms e.1 := rfl
  have b2 : (thOf ms kd f).1 = mid ms f.1 := rfl
  have c1 : (thOf ms kd e).2.1 = mid ms e.2 := rfl
  have c2 : (thOf ms kd f).2.1 = mid ms f.2 := rfl
  have d1 := mid_lt_iff h e1 f1
  have d2 := mid_lt_iff h e2 f2
  have d3 := mid_eq_iff h e1 f1
  unfold thAhead
  rw [a1, a2, b1, b2, c1, c2]
  rw [Bool.eq_iff_iff, eAhead_iff]
  by_cases hw : wt (zD ms kd) e = wt (zD ms kd) f
  · rw [if_neg (by simpa using hw)]
    by_cases hm : mid ms e.1 = mid ms f.1
    · rw [if_neg (by simpa using hm), decide_eq_true_eq, d2]
      have := d3.1 hm
      omega
    · rw [if_pos hm, decide_eq_true_eq, d1]
      have : ¬ e.1 = f.1 := fun e' => hm (d3.2 e')
      omega
  · rw [if_pos hw, decide_eq_true_eq]
    omega

/-- The labels of parts, as numbers. -/
def labL (ms : List Mk) (ts : List Th) : List Int := tabL (fun k => ((lab (ts.map (eOf ms)) k : Nat) : Int)) ms.length
theorem labL_at {ms : List Mk} {ts : List Th} {i : Nat} (h : i < ms.length) : nth (labL ms ts) i = (lab (ts.map (eOf ms)) i : Nat) := tabL_getD _ _ _ h
theorem labL_len (ms : List Mk) (ts : List Th) : (labL ms ts).length = ms.length := tabL_length _ _
def thrB (ms : List Mk) (kd : Int) : Bool := marksB ms && kindB kd
/-- Threads. -/
def thrL (ms : List Mk) (kd : Int) : List Th := if thrB ms kd = true then (thrE (zD ms kd) ms.length).map (thOf ms kd) else []
/-- Is a thread one of marks, with their distance? -/
def tOkB (ms : List Mk) (kd : Int) (t : Th) : Bool := decide (0 ≤ zFind ms t.1) && decide (0 ≤ zFind ms t.2.1) && decide (zFind ms t.1 < zFind ms t.2.1) && decide (t.2.2 = betV (mat ms (zIdx ms t.1)) (mat ms (zIdx ms t.2.1)) kd)
theorem tOkB_iff (ms : List Mk) (kd : Int) (t : Th) : tOkB ms kd t = true ↔ 0 ≤ zFind ms t.1 ∧ 0 ≤ zFind ms t.2.1 ∧ zFind ms t.1 < zFind ms t.2.1 ∧ t.2.2 = betV (mat ms (zIdx ms t.1)) (mat ms (zIdx ms t.2.1)) kd := by simp [tOkB, and_assoc]
/-- Tied. -/
def tiedB (ms : List Mk) (ts : List Th) (kd : Int) : Bool := thrB ms kd && decide (ts.length + 1 = ms.length) && ts.all (tOkB ms kd) && (List.range ms.length).all (fun i => decide (lab (ts.map (eOf ms)) i = lab (ts.map (eOf ms)) 0))
/-- Total. -/
def lngB (t : Th) : Bool := decide (0 ≤ t.2.2) && decide (t.2.2 ≤ 1099511627776)
def totS (ts : List Th) : Int := (ts.map (fun t => t.2.2)).sum
def totV (ts : List Th) : Int := if ts.all lngB = true then totS ts else -1
/-- Groups: those whose label is their own place, each with its own. -/
def grpAt (ms : List Mk) (p : Nat → Nat) (i : Nat) : List Int := ((List.range ms.length).filter (fun j => decide (p j = i))).map (mid ms)
def grpOf (ms : List Mk) (p : Nat → Nat) : List (List Int) := ((List.range ms.length).filter (fun i => decide (p i = i))).map (grpAt ms p)
def grpB (ms : List Mk) (kd k : Int) : Bool := thrB ms kd && decide (1 ≤ k) && decide (k ≤ ms.length)
def grpL (ms : List Mk) (kd k : Int) : List (List Int) := if grpB ms kd k = true then grpOf ms (lab ((thrE (zD ms kd) ms.length).take (ms.length - k.toNat))) else []

/-- What is tied by numbers is tied by places. -/
theorem eOf_map {ms : List Mk} (h : marksB ms = true) (kd : Int) {E : List Eg} (hE : ∀ e ∈ E, e.1 < ms.length ∧ e.2 < ms.length) : (E.map (thOf ms kd)).map (eOf ms) = E := by
  rw [List.map_map]
  induction E with
  | nil => rfl
  | cons e E ih =>
    simp only [List.map_cons, Function.comp]
    rw [eOf_thOf h kd (hE e (List.mem_cons_self ..)).1 (hE e (List.mem_cons_self ..)).2]
    congr 1
    exact ih (fun x hx => hE x (List.mem_cons_of_mem _ hx))
theorem thrE_lt {D : Nat → Nat → Int} {n : Nat} : ∀ e ∈ thrE D n, e.1 < n ∧ e.2 < n := fun e he => by have := thrE_mem he; omega
theorem thrB_iff (ms : List Mk) (kd : Int) : thrB ms kd = true ↔ marksB ms = true ∧ kindB kd = true := by simp [thrB]
/-- The threads are such that tie all together. -/
theorem thr_tied {ms : List Mk} {kd : Int} (h : thrB ms kd = true) (hn : 0 < ms.length) : tiedB ms (thrL ms kd) kd = true := by
  obtain ⟨hm, hk⟩ := (thrB_iff ms kd).1 h
  have hl := thrE_len (D := zD ms kd) (n := ms.length) hn
  have ht := thrE_tied (D := zD ms kd) (n := ms.length) hn
  have eT : thrL ms kd = (thrE (zD ms kd) ms.length).map (thOf ms kd) := by rw [thrL, if_pos h]
  simp only [tiedB, eT, h, Bool.true_and, Bool.and_eq_true, decide_eq_true_eq, List.length_map, List.all_eq_true]
  refine ⟨⟨hl, fun t ht' => ?_⟩, fun i hi => ?_⟩
  · obtain ⟨e, he, rfl⟩ := List.mem_map.1 ht'
    have hb := thrE_lt e he
    have hlt := (thrE_mem he).1
    rw [tOkB_iff]
    show 0 ≤ zFind ms (mid ms e.1) ∧ 0 ≤ zFind ms (mid ms e.2) ∧ zFind ms (mid ms e.1) < zFind ms (mid ms e.2) ∧ betV (mat ms e.1) (mat ms e.2) kd = betV (mat ms (zIdx ms (mid ms e.1))) (mat ms (zIdx ms (mid ms e.2))) kd
    rw [(zFind_mid hm hb.1).1, (zFind_mid hm hb.2).1, (zFind_mid hm hb.1).2, (zFind_mid hm hb.2).2]
    exact ⟨by omega, by omega, by omega, rfl⟩
  · rw [eOf_map hm kd thrE_lt]
    exact ht i (List.mem_range.1 hi)
theorem tot_sum {ms : List Mk} {kd : Int} (hm : marksB ms = true) (hk : kindB kd = true) {ts : List Th} (hs : ts.all (tOkB ms kd) = true) : totV ts = sumW (zD ms kd) (ts.map (eOf ms)) := by
  have hall : ∀ t ∈ ts, t.2.2 = wt (zD ms kd) (eOf ms t) ∧ 0 ≤ t.2.2 ∧ t.2.2 ≤ 16000000 := fun t ht => by
    obtain ⟨h1, h2, h3, h4⟩ := (tOkB_iff ms kd t).1 (List.all_eq_true.1 hs t ht)
    have e1 := zD_in hm kd hk (zIdx_lt h1).1 (zIdx_lt h2).1
    have e2 := zD_nn ms kd (zIdx ms t.1) (zIdx ms t.2.1)
    have e3 := zD_le ms kd (zIdx ms t.1) (zIdx ms t.2.1)
    refine ⟨?_, by omega, by omega⟩
    show t.2.2 = zD ms kd (zIdx ms t.1) (zIdx ms t.2.1)
    omega
  have hl : ts.all lngB = true := List.all_eq_true.2 (fun t ht => by
    have := hall t ht
    simp only [lngB, Bool.and_eq_true, decide_eq_true_eq]
    omega)
  rw [totV, if_pos hl]
  unfold totS sumW
  rw [List.map_map]
  congr 1
  exact List.map_congr_left (fun t ht => (hall t ht).1)
/-- Kruskal, by numbers. -/
theorem kruskal {ms : List Mk} {ts : List Th} {kd : Int} (h : tiedB ms ts kd = true) : totV (thrL ms kd) ≤ totV ts := by
  have h' := h
  simp only [tiedB, Bool.and_eq_true, decide_eq_true_eq, List.all_eq_true] at h'
  obtain ⟨⟨⟨hB, hl⟩, hok⟩, hc⟩ := h'
  obtain ⟨hm, hk⟩ := (thrB_iff ms kd).1 hB
  have hT := thr_tied hB (by omega : 0 < ms.length)
  simp only [tiedB, Bool.and_eq_true] at hT
  rw [tot_sum hm hk hT.1.2, tot_sum hm hk (List.all_eq_true.2 hok)]
  rw [show (thrL ms kd).map (eOf ms) = thrE (zD ms kd) ms.length by rw [thrL, if_pos hB]; exact eOf_map hm kd thrE_lt]
  refine thrE_least (fun i j => ⟨zD_nn ms kd i j, zD_le ms kd i j⟩) _ (fun e he => ?_) (by rw [List.length_map]; exact hl) (fun i hi => hc i (List.mem_range.2 hi))
  obtain ⟨t, ht, rfl⟩ := List.mem_map.1 he
  obtain ⟨h1, h2, h3, -⟩ := (tOkB_iff ms kd t).1 (hok t ht)
  have a := zIdx_lt h1
  have b := zIdx_lt h2
  exact ⟨by show zIdx ms t.1 < zIdx ms t.2.1; omega, b.1⟩

end Go.Proofs.Ytfbindjacmaeoaa
