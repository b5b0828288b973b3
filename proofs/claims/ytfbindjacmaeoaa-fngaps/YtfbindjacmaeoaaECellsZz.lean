/-
  Rows of threads in memory: three cells a thread, its two numbers and how long it is.
  Plain mathematics for the laws of chapter 12: threads by numbers; what the five functions answer.
  Plain mathematics of a heap of threads in a list (no program is named here): what a step up and a step down keep, and that the first is the least.
  Plain mathematics for the laws of chapter 12: who is in which group, by numbers; the gap; the groups of the threads.
  Plain mathematics for the program's own way in chapter 12: threads taken from a heap one by one; which of them ties two parts.
-/
import Derived.Test.YtfbindjacmaeoaaMathZz
import Derived.Test.YtfbindjacmaeoaaAppendZz
namespace Go.Proofs.Ytfbindjacmaeoaa
open Go Go.RowKit

abbrev Th := Int × Int × Int
def tnth (ts : List Th) (i : Nat) : Th := ts.getD i (0, 0, 0)
def tCells : List Th → List Value
  | [] => []
  | t :: ts => .int .i64 t.1 :: .int .i64 t.2.1 :: .int .i64 t.2.2 :: tCells ts
def TSeg (w : World) (b off : Nat) (ts : List Th) : Prop := ∀ i, i < ts.length → w.cell? ⟨b, off + i * 3, none⟩ = some (.int .i64 (tnth ts i).1) ∧ w.cell? ⟨b, off + i * 3 + 1, none⟩ = some (.int .i64 (tnth ts i).2.1) ∧ w.cell? ⟨b, off + i * 3 + 2, none⟩ = some (.int .i64 (tnth ts i).2.2)
def TView (w : World) (ao : Option Addr) (ts : List Th) : Prop := ts = [] ∨ ∃ b off, ao = some ⟨b, off, none⟩ ∧ b < w.heap.size ∧ TSeg w b off ts
/-- A row of threads of the call's own, from block base on. -/
def TRow (base : Nat) (w : World) (g c : Nat) (ts : List Th) : Prop := w.ownsRow base 41 3 (.slice (some ⟨g, 0, none⟩) ts.length c) ts.length (tCells ts)

theorem tCells_length (ts : List Th) : (tCells ts).length = ts.length * 3 := by
  induction ts with
  | nil => rfl
  | cons d ds ih => simp [tCells, ih]; omega
theorem tCells_append (ds es : List Th) : tCells (ds ++ es) = tCells ds ++ tCells es := by
  induction ds with
  | nil => rfl
  | cons d ds ih => simp [tCells, ih]
theorem tCells_at (ds : List Th) (i : Nat) (h : i < ds.length) : (tCells ds)[i * 3]? = some (.int .i64 (tnth ds i).1) ∧ (tCells ds)[i * 3 + 1]? = some (.int .i64 (tnth ds i).2.1) ∧ (tCells ds)[i * 3 + 2]? = some (.int .i64 (tnth ds i).2.2) := by
  induction ds generalizing i with
  | nil => simp at h
  | cons d ds ih =>
    match i, h with
    | 0, _ => exact ⟨rfl, rfl, rfl⟩
    | k + 1, h =>
      have := ih k (by simpa using h)
      rw [show (k + 1) * 3 = k * 3 + 1 + 1 + 1 by omega]
      exact this
theorem tCells_one (ts : List Th) : ∀ u ∈ tCells ts, u.oneCell' = true := by
  induction ts with
  | nil => intro u hu; cases hu
  | cons d ds ih =>
    intro u hu
    simp only [tCells, List.mem_cons] at hu
    rcases hu with rfl | rfl | rfl | hu
    · rfl
    · rfl
    · rfl
    · exact ih u hu
theorem tnth_drop (ts : List Th) (k i : Nat) : tnth (ts.drop k) i = tnth ts (k + i) := by simp [tnth, List.getD]
theorem tnth_take (ts : List Th) (k i : Nat) (h : i < k) : tnth (ts.take k) i = tnth ts i := by simp [tnth, List.getD, h]
theorem tnth_mem {ts : List Th} {i : Nat} (h : i < ts.length) : tnth ts i ∈ ts := by simp [tnth, List.getD, h]
theorem tnth_get {ts : List Th} {i : Nat} (h : i < ts.length) : tnth ts i = ts[i] := by simp [tnth, List.getD, h]
theorem ts_eq {ts ks : List Th} (hl : ts.length = ks.length) (h : ∀ i, i < ts.length → tnth ts i = tnth ks i) : ts = ks := by
  apply List.ext_getElem hl
  intro i h1 h2
  have := h i h1
  simpa [tnth, List.getD, h1, h2] using this

theorem TSeg.below {w w' : World} {B b off : Nat} {ts : List Th} (h : TSeg w b off ts) (hb : b < B) (hw : Below B w w') : TSeg w' b off ts := fun i hi =>
  ⟨(hw.cell (p := ⟨b, off + i * 3, none⟩) hb).trans (h i hi).1, (hw.cell (p := ⟨b, off + i * 3 + 1, none⟩) hb).trans (h i hi).2.1, (hw.cell (p := ⟨b, off + i * 3 + 2, none⟩) hb).trans (h i hi).2.2⟩
theorem TSeg.drop {w : World} {b off : Nat} {ts : List Th} (h : TSeg w b off ts) (k : Nat) : TSeg w b (off + k * 3) (ts.drop k) := fun i hi => by
  have := h (k + i) (by simp at hi; omega)
  rw [tnth_drop, show off + k * 3 + i * 3 = off + (k + i) * 3 by omega]
  exact this
theorem TSeg.take {w : World} {b off : Nat} {ts : List Th} (h : TSeg w b off ts) (k : Nat) : TSeg w b off (ts.take k) := fun i hi => by
  have hi2 : i < k ∧ i < ts.length := by simp at hi; omega
  rw [tnth_take ts k i hi2.1]
  exact h i hi2.2
theorem TView.below {w w' : World} {B : Nat} {ao : Option Addr} {ts : List Th} (h : TView w ao ts) (hB : w.heap.size ≤ B) (hw : Below B w w') : TView w' ao ts := by
  rcases h with h | ⟨b, off, e, hb, hs⟩
  · exact Or.inl h
  · exact Or.inr ⟨b, off, e, Nat.lt_of_lt_of_le hb hw.size, hs.below (Nat.lt_of_lt_of_le hb hB) hw⟩
theorem TView.next {w w' : World} {ao : Option Addr} {ts : List Th} (h : TView w ao ts) (hw : Below w.heap.size w w') : TView w' ao ts := h.below (Nat.le_refl _) hw
theorem TView.drewN {w : World} {ao : Option Addr} {ts : List Th} (h : TView w ao ts) (n : Nat) : TView (w.drewN n) ao ts := h
theorem TView.drew {w : World} {ao : Option Addr} {ts : List Th} (h : TView w ao ts) : TView w.drew ao ts := h
theorem TView.seg {w : World} {ao : Option Addr} {ts : List Th} (h : TView w ao ts) (h0 : 0 < ts.length) : ∃ b off, ao = some ⟨b, off, none⟩ ∧ b < w.heap.size ∧ TSeg w b off ts := by
  rcases h with h | h
  · subst h; simp at h0
  · exact h

theorem TSeg.src {w : World} {b off : Nat} {ts : List Th} (h : TSeg w b off ts) (j : Nat) (u : Value) (hu : (tCells ts)[j]? = some u) : w.cell? ((⟨b, off, none⟩ : Addr).add j) = some u := by
  have hj : j < ts.length * 3 := by
    rcases Nat.lt_or_ge j (ts.length * 3) with h1 | h1
    · exact h1
    · rw [List.getElem?_eq_none (by rw [tCells_length]; exact h1)] at hu; cases hu
  rw [Go.WideShapes.add_plain]
  have hi : j / 3 < ts.length := by omega
  have hc := tCells_at ts (j / 3) hi
  have hs := h (j / 3) hi
  have hm : j % 3 = 0 ∨ j % 3 = 1 ∨ j % 3 = 2 := by omega
  rcases hm with e | e | e
  · have ej : j = j / 3 * 3 := by omega
    rw [ej] at hu ⊢
    rw [hs.1]; rw [hc.1] at hu; exact hu
  · have ej : j = j / 3 * 3 + 1 := by omega
    rw [ej] at hu ⊢
    rw [← Nat.add_assoc, hs.2.1]; rw [hc.2.1] at hu; exact hu
  · have ej : j = j / 3 * 3 + 2 := by omega
    rw [ej] at hu ⊢
    rw [← Nat.add_assoc, hs.2.2]; rw [hc.2.2] at hu; exact hu
theorem TView.src {w : World} {ao : Option Addr} {ts : List Th} (h : TView w ao ts) : SrcAt w 3 ao ts.length (tCells ts) := by
  refine ⟨tCells_length ts, tCells_one ts, ?_⟩
  rcases h with h | ⟨b, off, rfl, _, hs⟩
  · subst h; exact Or.inl rfl
  · exact Or.inr ⟨_, rfl, hs.src⟩

theorem TRow.lt {base : Nat} {w : World} {g c : Nat} {ts : List Th} (h : TRow base w g c ts) : base ≤ g ∧ g < w.heap.size := World.ownsRow.lt h g rfl
theorem TRow.seg {base : Nat} {w : World} {g c : Nat} {ts : List Th} (h : TRow base w g c ts) : TSeg w g 0 ts := fun i hi => by
  have := tCells_at ts i hi
  rw [Nat.zero_add, World.ownsRow.cellAt h _ (by omega), World.ownsRow.cellAt h _ (by omega), World.ownsRow.cellAt h _ (by omega)]
  exact this
theorem TRow.view {base : Nat} {w : World} {g c : Nat} {ts : List Th} (h : TRow base w g c ts) : TView w (some ⟨g, 0, none⟩) ts := Or.inr ⟨g, 0, rfl, h.lt.2, h.seg⟩
theorem TRow.cap {base : Nat} {w : World} {g c : Nat} {ts : List Th} (h : TRow base w g c ts) : ts.length ≤ c := by
  obtain ⟨_, ⟨h1, _⟩ | ⟨g', c', cur, h1, _, _, h2, _⟩⟩ := h
  · cases h1
  · injection h1 with e1 e2 e3
    omega
theorem TRow.mono {base base' : Nat} {w : World} {g c : Nat} {ts : List Th} (h : TRow base w g c ts) (hb : base' ≤ base) : TRow base' w g c ts :=
  ⟨h.1, h.2.imp id fun ⟨g, cap, cur, h1, h2, h3⟩ => ⟨g, cap, cur, h1, Nat.le_trans hb h2, h3⟩⟩
theorem TRow.kept {base : Nat} {w w' : World} {g c : Nat} {r : Option Nat} {ts : List Th} (h : TRow base w g c ts) (hg : w.grownBy w' r) (hr : some g ≠ r) : TRow base w' g c ts :=
  World.ownsRow.kept h hg (Or.inr hr)
theorem TRow.below {base B : Nat} {w w' : World} {g c : Nat} {ts : List Th} (h : TRow base w g c ts) (hB : w.heap.size ≤ B) (hw : Below B w w') : TRow base w' g c ts :=
  World.ownsRow.kept h (row := none) ⟨hw.os, hw.tape, hw.output, hw.size, fun i hi _ => hw.block i (Nat.lt_of_lt_of_le hi hB)⟩ (Or.inr (by simp [Value.ownBlock]))
theorem TRow.start (w : World) (base : Nat) (hb : base ≤ w.heap.size) : TRow base (w.alloc (.cells #[] 41)) w.heap.size 0 [] := World.ownsRow_lit w #[] 0 hb (Nat.zero_le _) rfl
theorem TRow.of {base : Nat} {w : World} {g c n : Nat} {ts : List Th} {xs : List Value} (h : w.ownsRow base 41 3 (.slice (some ⟨g, 0, none⟩) n c) n xs) (hn : n = ts.length) (hx : xs = tCells ts) : TRow base w g c ts := by
  subst hn hx; exact h
theorem TRow.snoc {base : Nat} {w : World} {g c : Nat} {ts : List Th} {t : Th} (h : w.ownsRow base 41 3 (.slice (some ⟨g, 0, none⟩) (ts.length + 1) c) (ts.length + 1) (tCells ts ++ tCells [t])) : TRow base w g c (ts ++ [t]) := by
  unfold TRow
  rw [List.length_append, List.length_singleton, tCells_append]
  exact h
theorem one_srcT {w : World} {n : Nat} {t : Th} (hb : w.heap[n]? = some (.cells #[.int .i64 t.1, .int .i64 t.2.1, .int .i64 t.2.2] 41 (0, 0))) : SrcAt w 3 (some ⟨n, 0, none⟩) 1 (tCells [t]) :=
  ⟨rfl, tCells_one [t], Or.inr ⟨_, rfl, World.news_of_block (cs := #[.int .i64 t.1, .int .i64 t.2.1, .int .i64 t.2.2]) hb⟩⟩

end Go.Proofs.Ytfbindjacmaeoaa
namespace Go.Proofs.Ytfbindjacmaeoaa

def eOf (ms : List Mk) (t : Th) : Eg := (zIdx ms t.1, zIdx ms t.2.1)
def thOf (ms : List Mk) (kd : Int) (e : Eg) : Th := (mid ms e.1, mid ms e.2, betV (mat ms e.1) (mat ms e.2) kd)
def thAhead (a b : Th) : Bool := if a.2.2 ≠ b.2.2 then decide (a.2.2 < b.2.2) else if a.1 ≠ b.1 then decide (a.1 < b.1) else decide (a.2.1 < b.2.1)
theorem eOf_thOf {ms : List Mk} (h : marksB ms = true) (kd : Int) {e : Eg} (h1 : e.1 < ms.length) (h2 : e.2 < ms.length) : eOf ms (thOf ms kd e) = e := by
  unfold eOf thOf
  rw [(zFind_mid h h1).2, (zFind_mid h h2).2]
theorem mid_lt_iff {ms : List Mk} (h : marksB ms = true) {i j : Nat} (hi : i < ms.length) (hj : j < ms.length) : mid ms i < mid ms j ↔ i < j := by
  constructor
  · intro hl
    rcases Nat.lt_trichotomy i j with h1 | h1 | h1
    · exact h1
    · subst h1; omega
    · have := zmid_rises h h1 hi; omega
  · exact fun hl => zmid_rises h hl hj
theorem mid_eq_iff {ms : List Mk} (h : marksB ms = true) {i j : Nat} (hi : i < ms.length) (hj : j < ms.length) : mid ms i = mid ms j ↔ i = j := ⟨zmid_inj h hi hj, fun e => by rw [e]⟩
theorem thAhead_eq {ms : List Mk} (h : marksB ms = true) {kd : Int} (hk : kindB kd = true) {e f : Eg} (e1 : e.1 < ms.length) (e2 : e.2 < ms.length) (f1 : f.1 < ms.length) (f2 : f.2 < ms.length) : thAhead (thOf ms kd e) (thOf ms kd f) = eAhead (zD ms kd) e f := by
  have a1 : (thOf ms kd e).2.2 = wt (zD ms kd) e := (zD_in h kd hk e1 e2).symm
  have a2 : (thOf ms kd f).2.2 = wt (zD ms kd) f := (zD_in h kd hk f1 f2).symm
  have b1 : (thOf ms kd e).1 = mid ms e.1 := rfl
  have b2 : (thOf ms kd f).1 = mid ms f.1 := rfl
  have c1 : (thOf ms kd e).2.1 = mid ms e.2 := rfl
  have c2 : (thOf ms kd f).2.1 = mid ms f.2 := rfl
  have d1 := mid_lt_iff h e1 f1
  have d2 := mid_lt_iff h e2 f2
  have d3 := mid_eq_iff h e1 f1
  unfold thAhead
  rw [a1, a2, b1, b2, c1, c2]
  rw [Bool.eq_iff_iff, eAhead_iff]
  by_cases hw : wt (zD ms kd) e = wt (zD ms kd) f
  · rw [if_neg (by simpa using hw)]
    by_cases hm : mid ms e.1 = mid ms f.1
    · rw [if_neg (by simpa using hm), decide_eq_true_eq, d2]
      have := d3.1 hm
      omega
    · rw [if_pos hm, decide_eq_true_eq, d1]
      have : ¬ e.1 = f.1 := fun e' => hm (d3.2 e')
      omega
  · rw [if_pos hw, decide_eq_true_eq]
    omega

/-- The labels of parts, as numbers. -/
def labL (ms : List Mk) (ts : List Th) : List Int := tabL (fun k => ((lab (ts.map (eOf ms)) k : Nat) : Int)) ms.length
theorem labL_at {ms : List Mk} {ts : List Th} {i : Nat} (h : i < ms.length) : nth (labL ms ts) i = (lab (ts.map (eOf ms)) i : Nat) := tabL_getD _ _ _ h
theorem labL_len (ms : List Mk) (ts : List Th) : (labL ms ts).length = ms.length := tabL_length _ _
def thrB (ms : List Mk) (kd : Int) : Bool := marksB ms && kindB kd
/-- Threads. -/
def thrL (ms : List Mk) (kd : Int) : List Th := if thrB ms kd = true then (thrE (zD ms kd) ms.length).map (thOf ms kd) else []
/-- Is a thread one of marks, with their distance? -/
def tOkB (ms : List Mk) (kd : Int) (t : Th) : Bool := decide (0 ≤ zFind ms t.1) && decide (0 ≤ zFind ms t.2.1) && decide (zFind ms t.1 < zFind ms t.2.1) && decide (t.2.2 = betV (mat ms (zIdx ms t.1)) (mat ms (zIdx ms t.2.1)) kd)
theorem tOkB_iff (ms : List Mk) (kd : Int) (t : Th) : tOkB ms kd t = true ↔ 0 ≤ zFind ms t.1 ∧ 0 ≤ zFind ms t.2.1 ∧ zFind ms t.1 < zFind ms t.2.1 ∧ t.2.2 = betV (mat ms (zIdx ms t.1)) (mat ms (zIdx ms t.2.1)) kd := by simp [tOkB, and_assoc]
/-- Tied. -/
def tiedB (ms : List Mk) (ts : List Th) (kd : Int) : Bool := thrB ms kd && decide (ts.length + 1 = ms.length) && ts.all (tOkB ms kd) && (List.range ms.length).all (fun i => decide (lab (ts.map (eOf ms)) i = lab (ts.map (eOf ms)) 0))
/-- Total. -/
def lngB (t : Th) : Bool := decide (0 ≤ t.2.2) && decide (t.2.2 ≤ 1099511627776)
def totS (ts : List Th) : Int := (ts.map (fun t => t.2.2)).sum
def totV (ts : List Th) : Int := if ts.all lngB = true then totS ts else -1
/-- Groups: those whose label is their own place, each with its own. -/
def grpAt (ms : List Mk) (p : Nat → Nat) (i : Nat) : List Int := ((List.range ms.length).filter (fun j => decide (p j = i))).map (mid ms)
def grpOf (ms : List Mk) (p : Nat → Nat) : List (List Int) := ((List.range ms.length).filter (fun i => decide (p i = i))).map (grpAt ms p)
def grpB (ms : List Mk) (kd k : Int) : Bool := thrB ms kd && decide (1 ≤ k) && decide (k ≤ ms.length)
def grpL (ms : List Mk) (kd k : Int) : List (List Int) := if grpB ms kd k = true then grpOf ms (lab ((thrE (zD ms kd) ms.length).take (ms.length - k.toNat))) else []

/-- What is tied by numbers is tied by places. -/
theorem eOf_map {ms : List Mk} (h : marksB ms = true) (kd : Int) {E : List Eg} (hE : ∀ e ∈ E, e.1 < ms.length ∧ e.2 < ms.length) : (E.map (thOf ms kd)).map (eOf ms) = E := by
  rw [List.map_map]
  induction E with
  | nil => rfl
  | cons e E ih =>
    simp only [List.map_cons, Function.comp]
    rw [eOf_thOf h kd (hE e (List.mem_cons_self ..)).1 (hE e (List.mem_cons_self ..)).2]
    congr 1
    exact ih (fun x hx => hE x (List.mem_cons_of_mem _ hx))
theorem thrE_lt {D : Nat → Nat → Int} {n : Nat} : ∀ e ∈ thrE D n, e.1 < n ∧ e.2 < n := fun e he => by have := thrE_mem he; omega
theorem thrB_iff (ms : List Mk) (kd : Int) : thrB ms kd = true ↔ marksB ms = true ∧ kindB kd = true := by simp [thrB]
/-- The threads are such that tie all together. -/
theorem thr_tied {ms : List Mk} {kd : Int} (h : thrB ms kd = true) (hn : 0 < ms.length) : tiedB ms (thrL ms kd) kd = true := by
  obtain ⟨hm, hk⟩ := (thrB_iff ms kd).1 h
  have hl := thrE_len (D := zD ms kd) (n := ms.length) hn
  have ht := thrE_tied (D := zD ms kd) (n := ms.length) hn
  have eT : thrL ms kd = (thrE (zD ms kd) ms.length).map (thOf ms kd) := by rw [thrL, if_pos h]
  simp only [tiedB, eT, h, Bool.true_and, Bool.and_eq_true, decide_eq_true_eq, List.length_map, List.all_eq_true]
  refine ⟨⟨hl, fun t ht' => ?_⟩, fun i hi => ?_⟩
  · obtain ⟨e, he, rfl⟩ := List.mem_map.1 ht'
    have hb := thrE_lt e he
    have hlt := (thrE_mem he).1
    rw [tOkB_iff]
    show 0 ≤ zFind ms (mid ms e.1) ∧ 0 ≤ zFind ms (mid ms e.2) ∧ zFind ms (mid ms e.1) < zFind ms (mid ms e.2) ∧ betV (mat ms e.1) (mat ms e.2) kd = betV (mat ms (zIdx ms (mid ms e.1))) (mat ms (zIdx ms (mid ms e.2))) kd
    rw [(zFind_mid hm hb.1).1, (zFind_mid hm hb.2).1, (zFind_mid hm hb.1).2, (zFind_mid hm hb.2).2]
    exact ⟨by omega, by omega, by omega, rfl⟩
  · rw [eOf_map hm kd thrE_lt]
    exact ht i (List.mem_range.1 hi)
theorem tot_sum {ms : List Mk} {kd : Int} (hm : marksB ms = true) (hk : kindB kd = true) {ts : List Th} (hs : ts.all (tOkB ms kd) = true) : totV ts = sumW (zD ms kd) (ts.map (eOf ms)) := by
  have hall : ∀ t ∈ ts, t.2.2 = wt (zD ms kd) (eOf ms t) ∧ 0 ≤ t.2.2 ∧ t.2.2 ≤ 16000000 := fun t ht => by
    obtain ⟨h1, h2, h3, h4⟩ := (tOkB_iff ms kd t).1 (List.all_eq_true.1 hs t ht)
    have e1 := zD_in hm kd hk (zIdx_lt h1).1 (zIdx_lt h2).1
    have e2 := zD_nn ms kd (zIdx ms t.1) (zIdx ms t.2.1)
    have e3 := zD_le ms kd (zIdx ms t.1) (zIdx ms t.2.1)
    refine ⟨?_, by omega, by omega⟩
    show t.2.2 = zD ms kd (zIdx ms t.1) (zIdx ms t.2.1)
    omega
  have hl : ts.all lngB = true := List.all_eq_true.2 (fun t ht => by
    have := hall t ht
    simp only [lngB, Bool.and_eq_true, decide_eq_true_eq]
    omega)
  rw [totV, if_pos hl]
  unfold totS sumW
  rw [List.map_map]
  congr 1
  exact List.map_congr_left (fun t ht => (hall t ht).1)
/-- Kruskal, by numbers. -/
theorem kruskal {ms : List Mk} {ts : List Th} {kd : Int} (h : tiedB ms ts kd = true) : totV (thrL ms kd) ≤ totV ts := by
  have h' := h
  simp only [tiedB, Bool.and_eq_true, decide_eq_true_eq, List.all_eq_true] at h'
  obtain ⟨⟨⟨hB, hl⟩, hok⟩, hc⟩ := h'
  obtain ⟨hm, hk⟩ := (thrB_iff ms kd).1 hB
  have hT := thr_tied hB (by omega : 0 < ms.length)
  simp only [tiedB, Bool.and_eq_true] at hT
  rw [tot_sum hm hk hT.1.2, tot_sum hm hk (List.all_eq_true.2 hok)]
  rw [show (thrL ms kd).map (eOf ms) = thrE (zD ms kd) ms.length by rw [thrL, if_pos hB]; exact eOf_map hm kd thrE_lt]
  refine thrE_least (fun i j => ⟨zD_nn ms kd i j, zD_le ms kd i j⟩) _ (fun e he => ?_) (by rw [List.length_map]; exact hl) (fun i hi => hc i (List.mem_range.2 hi))
  obtain ⟨t, ht, rfl⟩ := List.mem_map.1 he
  obtain ⟨h1, h2, h3, -⟩ := (tOkB_iff ms kd t).1 (hok t ht)
  have a := zIdx_lt h1
  have b := zIdx_lt h2
  exact ⟨by show zIdx ms t.1 < zIdx ms t.2.1; omega, b.1⟩

end Go.Proofs.Ytfbindjacmaeoaa
namespace Go.Proofs.Ytfbindjacmaeoaa

def leT (a b : Th) : Prop := a.2.2 < b.2.2 ∨ (a.2.2 = b.2.2 ∧ (a.1 < b.1 ∨ (a.1 = b.1 ∧ a.2.1 ≤ b.2.1)))
theorem thAhead_iff (a b : Th) : thAhead a b = true ↔ a.2.2 < b.2.2 ∨ (a.2.2 = b.2.2 ∧ (a.1 < b.1 ∨ (a.1 = b.1 ∧ a.2.1 < b.2.1))) := by
  unfold thAhead
  split
  · rw [decide_eq_true_eq]; omega
  · split
    · rw [decide_eq_true_eq]; omega
    · rw [decide_eq_true_eq]; omega
theorem thAhead_false (a b : Th) : thAhead a b = false ↔ leT b a := by
  have h := thAhead_iff a b
  unfold leT
  rcases e : thAhead a b with _ | _
  · rw [e] at h
    have : ¬ (a.2.2 < b.2.2 ∨ (a.2.2 = b.2.2 ∧ (a.1 < b.1 ∨ (a.1 = b.1 ∧ a.2.1 < b.2.1)))) := fun k => by have := h.2 k; cases this
    simp only [true_iff]
    omega
  · have := h.1 e
    simp only [Bool.true_eq_false, false_iff]
    omega
theorem leT_refl (a : Th) : leT a a := by unfold leT; omega
theorem leT_trans {a b c : Th} (h : leT a b) (k : leT b c) : leT a c := by unfold leT at *; omega
theorem leT_antisymm {a b : Th} (h : leT a b) (k : leT b a) : a = b := by
  unfold leT at *
  exact Prod.ext (by omega) (Prod.ext (by omega) (by omega))
theorem leT_of_ahead {a b : Th} (h : thAhead a b = true) : leT a b := by rw [thAhead_iff] at h; unfold leT; omega
theorem tnth_set (l : List Th) (i k : Nat) (x : Th) (hk : k < l.length) : tnth (l.set i x) k = if k = i then x else tnth l k := by
  unfold tnth
  by_cases h : k = i
  · subst h; simp [List.getD, hk]
  · simp [List.getD, h, Ne.symm h]

def swapLT (l : List Th) (i j : Nat) : List Th := (l.set i (tnth l j)).set j (tnth l i)
theorem swapL_lengthT (l : List Th) (i j : Nat) : (swapLT l i j).length = l.length := by simp [swapLT]

theorem swapL_atT (l : List Th) (i j k : Nat) (_hi : i < l.length) (_hj : j < l.length) (hk : k < l.length) : tnth (swapLT l i j) k = if k = j then tnth l i else if k = i then tnth l j else tnth l k := by
  unfold swapLT
  rw [tnth_set _ _ _ _ (by simp; exact hk)]
  split
  · rfl
  · rw [tnth_set _ _ _ _ hk]
theorem swapL_permT (l : List Th) (i j : Nat) (hi : i < l.length) (hj : j < l.length) : (swapLT l i j).Perm l := by
  have e1 : tnth l j = l[j] := by simp [tnth, List.getD, hj]
  have e2 : tnth l i = l[i] := by simp [tnth, List.getD, hi]
  unfold swapLT
  rw [e1, e2]
  exact List.set_set_perm hi hj
def parT (c : Nat) : Nat := (c - 1) / 2
/-- The first n are a heap. -/
def HeapNT (l : List Th) (n : Nat) : Prop := ∀ c, 0 < c → c < n → leT (tnth l (parT c)) (tnth l c)
/-- A heap but for what stands above j. -/
def UpAtT (l : List Th) (n j : Nat) : Prop := (∀ c, 0 < c → c < n → c ≠ j → leT (tnth l (parT c)) (tnth l c)) ∧ ∀ c, 0 < c → c < n → parT c = j → 0 < j → leT (tnth l (parT j)) (tnth l c)
/-- A heap but for what stands below i. -/
def DownAtT (l : List Th) (n i : Nat) : Prop := (∀ c, 0 < c → c < n → parT c ≠ i → leT (tnth l (parT c)) (tnth l c)) ∧ ∀ c, 0 < c → c < n → parT c = i → 0 < i → leT (tnth l (parT i)) (tnth l c)

theorem heap_firstT {l : List Th} {n : Nat} (h : HeapNT l n) (c : Nat) (hc : c < n) : leT (tnth l 0) (tnth l c) := by
  induction c using Nat.strongRecOn with
  | _ c ih =>
    rcases Nat.eq_zero_or_pos c with h0 | h0
    · subst h0; exact leT_refl _
    · have hp : parT c < c := by unfold parT; omega
      exact leT_trans (ih (parT c) hp (by omega)) (h c h0 hc)
theorem up_doneT {l : List Th} {n j : Nat} (h : UpAtT l n j) (hj : j = 0 ∨ leT (tnth l (parT j)) (tnth l j)) : HeapNT l n := fun c h0 hc => by
  by_cases e : c = j
  · subst e
    rcases hj with hj | hj
    · omega
    · exact hj
  · exact h.1 c h0 hc e
theorem up_stepT {l : List Th} {n j : Nat} (h : UpAtT l n j) (hn : n ≤ l.length) (h0 : 0 < j) (hj : j < n) (ha : thAhead (tnth l j) (tnth l (parT j)) = true) : UpAtT (swapLT l (parT j) j) n (parT j) := by
  have hp : parT j < j := by unfold parT; omega
  have hle := leT_of_ahead ha
  have at' : ∀ k, k < n → tnth (swapLT l (parT j) j) k = if k = j then tnth l (parT j) else if k = parT j then tnth l j else tnth l k := fun k hk => swapL_atT l (parT j) j k (by omega) (by omega) (by omega)
  refine ⟨fun c hc0 hc hne => ?_, fun c hc0 hc hpc hp0 => ?_⟩
  · have hpc : parT c < c := by unfold parT; omega
    rw [at' c hc, at' (parT c) (by omega)]
    by_cases e1 : c = j
    · subst e1
      rw [if_pos rfl, if_neg (by omega), if_pos rfl]
      exact hle
    · rw [if_neg e1, if_neg hne]
      by_cases e2 : parT c = j
      · rw [if_pos e2]
        exact h.2 c hc0 hc e2 h0
      · rw [if_neg e2]
        by_cases e3 : parT c = parT j
        · rw [if_pos e3]
          have := h.1 c hc0 hc e1
          rw [e3] at this
          exact leT_trans hle this
        · rw [if_neg e3]
          exact h.1 c hc0 hc e1
  · have hpp : parT (parT j) < parT j := by unfold parT at *; omega
    have hpc2 : parT c < c := by unfold parT; omega
    rw [at' c hc, at' (parT (parT j)) (by omega), if_neg (by omega), if_neg (by omega)]
    have hgp := h.1 (parT j) hp0 (by omega) (by omega)
    by_cases e1 : c = j
    · rw [if_pos e1]; exact hgp
    · rw [if_neg e1, if_neg (by omega)]
      have := h.1 c hc0 hc e1
      rw [hpc] at this
      exact leT_trans hgp this
theorem up_startT {l : List Th} (h : HeapNT l l.length) (x : Th) : UpAtT (l ++ [x]) (l.length + 1) l.length := by
  have at' : ∀ k, k < l.length → tnth (l ++ [x]) k = tnth l k := fun k hk => by simp [tnth, List.getD, List.getElem?_append_left hk]
  refine ⟨fun c h0 hc hne => ?_, fun c h0 hc hp h1 => ?_⟩
  · have hp : parT c < c := by unfold parT; omega
    rw [at' c (by omega), at' (parT c) (by omega)]
    exact h c h0 (by omega)
  · exfalso; unfold parT at hp; omega
theorem down_doneT {l : List Th} {n i : Nat} (h : DownAtT l n i) (hc : ∀ c, 0 < c → c < n → parT c = i → leT (tnth l i) (tnth l c)) : HeapNT l n := fun c h0 h1 => by
  by_cases e : parT c = i
  · rw [e]; exact hc c h0 h1 e
  · exact h.1 c h0 h1 e
theorem down_stepT {l : List Th} {n i j : Nat} (h : DownAtT l n i) (hn : n ≤ l.length) (hj : j < n) (hj0 : 0 < j) (hp : parT j = i) (hmin : ∀ c, 0 < c → c < n → parT c = i → leT (tnth l j) (tnth l c)) (ha : thAhead (tnth l j) (tnth l i) = true) : DownAtT (swapLT l i j) n j := by
  have hij : i < j := by rw [← hp]; unfold parT; omega
  have hle := leT_of_ahead ha
  have at' : ∀ k, k < n → tnth (swapLT l i j) k = if k = j then tnth l i else if k = i then tnth l j else tnth l k := fun k hk => swapL_atT l i j k (by omega) (by omega) (by omega)
  refine ⟨fun c hc0 hc hne => ?_, fun c hc0 hc hpc hp0 => ?_⟩
  · have hpc : parT c < c := by unfold parT; omega
    rw [at' c hc, at' (parT c) (by omega), if_neg hne]
    by_cases e1 : c = j
    · rw [if_pos e1, if_pos (by rw [e1]; exact hp)]; exact hle
    · rw [if_neg e1]
      by_cases e2 : c = i
      · rw [if_pos e2]
        have e3 : parT c ≠ i := by omega
        rw [if_neg e3]
        have := h.2 j hj0 hj hp (by omega)
        rw [← e2] at this
        exact this
      · rw [if_neg e2]
        by_cases e3 : parT c = i
        · rw [if_pos e3]; exact hmin c hc0 hc e3
        · rw [if_neg e3]; exact h.1 c hc0 hc e3
  · have hpc2 : parT c < c := by unfold parT; omega
    rw [hp, at' c hc, at' i (by omega), if_neg (show ¬ c = j by omega), if_neg (show ¬ c = i by omega), if_neg (show ¬ i = j by omega), if_pos rfl]
    have := h.1 c hc0 hc (by omega)
    rw [hpc] at this
    exact this
theorem down_startT {l : List Th} {n : Nat} (h : HeapNT l (n + 1)) (hn : n < l.length) : DownAtT (swapLT l 0 n) n 0 := by
  have at' : ∀ k, k < n → tnth (swapLT l 0 n) k = if k = n then tnth l 0 else if k = 0 then tnth l n else tnth l k := fun k hk => swapL_atT l 0 n k (by omega) (by omega) (by omega)
  refine ⟨fun c h0 hc hne => ?_, fun c h0 hc hp h1 => by omega⟩
  have hpc : parT c < c := by unfold parT; omega
  rw [at' c hc, at' (parT c) (by omega), if_neg (show ¬ c = n by omega), if_neg (show ¬ c = 0 by omega), if_neg (show ¬ parT c = n by omega), if_neg hne]
  exact h c h0 (by omega)

/-- From s on the first n are a heap. -/
def HeapST (s : Nat) (l : List Th) (n : Nat) : Prop := ∀ c, 0 < c → c < n → s ≤ parT c → leT (tnth l (parT c)) (tnth l c)
/-- From s on a heap but for what stands below i. -/
def DownST (s : Nat) (l : List Th) (n i : Nat) : Prop := (∀ c, 0 < c → c < n → s ≤ parT c → parT c ≠ i → leT (tnth l (parT c)) (tnth l c)) ∧ ∀ c, 0 < c → c < n → parT c = i → 0 < i → s ≤ parT i → leT (tnth l (parT i)) (tnth l c)
theorem heapS_zeroT {l : List Th} {n : Nat} (h : HeapST 0 l n) : HeapNT l n := fun c h0 hc => h c h0 hc (Nat.zero_le _)
theorem heapS_halfT (l : List Th) (n : Nat) : HeapST (n / 2) l n := fun c h0 hc hp => by exfalso; unfold parT at hp; omega
theorem downS_initT {l : List Th} {n i : Nat} (h : HeapST (i + 1) l n) : DownST i l n i :=
  ⟨fun c h0 hc hp hne => h c h0 hc (by omega), fun c h0 hc hp hi hs => by exfalso; unfold parT at hs; omega⟩
theorem downS_popT {l : List Th} {n : Nat} (h : HeapNT l (n + 1)) (hn : n < l.length) : DownST 0 (swapLT l 0 n) n 0 := by
  obtain ⟨h1, h2⟩ := down_startT h hn
  exact ⟨fun c h0 hc _ hne => h1 c h0 hc hne, fun c h0 hc hp hi _ => h2 c h0 hc hp hi⟩
theorem downS_doneT {s : Nat} {l : List Th} {n i : Nat} (h : DownST s l n i) (hc : ∀ c, 0 < c → c < n → parT c = i → leT (tnth l i) (tnth l c)) : HeapST s l n := fun c h0 h1 h2 => by
  by_cases e : parT c = i
  · rw [e]; exact hc c h0 h1 e
  · exact h.1 c h0 h1 h2 e
theorem downS_stepT {s : Nat} {l : List Th} {n i j : Nat} (h : DownST s l n i) (hs : s ≤ i) (hn : n ≤ l.length) (hj : j < n) (hj0 : 0 < j) (hp : parT j = i) (hmin : ∀ c, 0 < c → c < n → parT c = i → leT (tnth l j) (tnth l c)) (ha : thAhead (tnth l j) (tnth l i) = true) : DownST s (swapLT l i j) n j := by
  have hij : i < j := by rw [← hp]; unfold parT; omega
  have hle := leT_of_ahead ha
  have at' : ∀ k, k < n → tnth (swapLT l i j) k = if k = j then tnth l i else if k = i then tnth l j else tnth l k := fun k hk => swapL_atT l i j k (by omega) (by omega) (by omega)
  refine ⟨fun c hc0 hc hsc hne => ?_, fun c hc0 hc hpc hp0 hsp => ?_⟩
  · have hpc : parT c < c := by unfold parT; omega
    rw [at' c hc, at' (parT c) (by omega), if_neg hne]
    by_cases e1 : c = j
    · rw [if_pos e1, if_pos (by rw [e1]; exact hp)]; exact hle
    · rw [if_neg e1]
      by_cases e2 : c = i
      · rw [if_pos e2]
        have e3 : parT c ≠ i := by omega
        rw [if_neg e3]
        have := h.2 j hj0 hj hp (by omega) (by rw [← e2]; exact hsc)
        rw [← e2] at this
        exact this
      · rw [if_neg e2]
        by_cases e3 : parT c = i
        · rw [if_pos e3]; exact hmin c hc0 hc e3
        · rw [if_neg e3]; exact h.1 c hc0 hc hsc e3
  · have hpc2 : parT c < c := by unfold parT; omega
    rw [hp, at' c hc, at' i (by omega), if_neg (show ¬ c = j by omega), if_neg (show ¬ c = i by omega), if_neg (show ¬ i = j by omega), if_pos rfl]
    have := h.1 c hc0 hc (by omega) (by omega)
    rw [hpc] at this
    exact this
/-- The children of i. -/
theorem kidsT (c i : Nat) (h0 : 0 < c) (hp : parT c = i) : c = 2 * i + 1 ∨ c = 2 * i + 2 := by unfold parT at hp; omega
theorem par_leftT (i : Nat) : parT (2 * i + 1) = i := by unfold parT; omega
theorem par_rightT (i : Nat) : parT (2 * i + 2) = i := by unfold parT; omega

end Go.Proofs.Ytfbindjacmaeoaa
namespace Go.Proofs.Ytfbindjacmaeoaa

/-- These numbers into group g; nothing where one is none of theirs or stands already. -/
def inIds (ms : List Mk) (g : Nat) : List Int → (Nat → Nat) → Option (Nat → Nat)
  | [], h => some h
  | id :: ids, h => if zFind ms id < 0 ∨ h (zIdx ms id) ≠ 0 then none else inIds ms g ids (fun i => if i = zIdx ms id then g + 1 else h i)
def inGrp (ms : List Mk) : List (List Int) → Nat → (Nat → Nat) → Option (Nat → Nat)
  | [], _, h => some h
  | ids :: gs, g, h => if ids = [] then none else match inIds ms g ids h with
    | none => none
    | some h' => inGrp ms gs (g + 1) h'
def lenS (gs : List (List Int)) : Nat := (gs.map List.length).sum
def gapB (ms : List Mk) (kd : Int) (gs : List (List Int)) : Bool := thrB ms kd && decide (2 ≤ gs.length)
def gapI (ms : List Mk) (kd : Int) (gs : List (List Int)) : Int := if gapB ms kd gs = true then match inGrp ms gs 0 (fun _ => 0) with
    | none => -1
    | some h => if lenS gs = ms.length then gapAll h (zD ms kd) ms.length else -1
  else -1
theorem inIds_snoc (ms : List Mk) (g : Nat) (ids : List Int) (id : Int) : ∀ h, inIds ms g (ids ++ [id]) h = match inIds ms g ids h with
    | none => none
    | some h' => if zFind ms id < 0 ∨ h' (zIdx ms id) ≠ 0 then none else some (fun i => if i = zIdx ms id then g + 1 else h' i) := by
  induction ids with
  | nil => intro h; simp [inIds]
  | cons x ids ih =>
    intro h
    simp only [List.cons_append, inIds]
    split
    · rfl
    · exact ih _
theorem inGrp_snoc (ms : List Mk) (gs : List (List Int)) (ids : List Int) : ∀ g h, inGrp ms (gs ++ [ids]) g h = match inGrp ms gs g h with
    | none => none
    | some h' => if ids = [] then none else inIds ms (g + gs.length) ids h' := by
  induction gs with
  | nil =>
    intro g h
    simp only [List.nil_append, inGrp, List.length_nil, Nat.add_zero]
    split
    · rfl
    · cases inIds ms g ids h <;> rfl
  | cons x gs ih =>
    intro g h
    simp only [List.cons_append, inGrp]
    split
    · rfl
    · cases inIds ms g x h with
      | none => rfl
      | some h' => simp only [ih]; rw [List.length_cons, show g + 1 + gs.length = g + (gs.length + 1) by omega]
/-- What stands stays; each one of them stands in g. -/
theorem inIds_keep {ms : List Mk} {g : Nat} : ∀ {ids : List Int} {h h' : Nat → Nat}, inIds ms g ids h = some h' → (∀ i, h i ≠ 0 → h' i = h i) ∧ ∀ id ∈ ids, zIdx ms id < ms.length ∧ h' (zIdx ms id) = g + 1
  | [], h, h', e => by
    simp only [inIds, Option.some.injEq] at e
    subst e
    exact ⟨fun _ _ => rfl, fun id hid => by simp at hid⟩
  | x :: ids, h, h', e => by
    simp only [inIds] at e
    split at e
    · cases e
    · rename_i hc
      have hf : 0 ≤ zFind ms x := by omega
      have h0 : h (zIdx ms x) = 0 := by omega
      obtain ⟨k1, k2⟩ := inIds_keep e
      refine ⟨fun i hi => ?_, fun id hid => ?_⟩
      · have hne : i ≠ zIdx ms x := fun e' => hi (by rw [e']; exact h0)
        have := k1 i (by simp [hne]; exact hi)
        simpa [hne] using this
      · rcases List.mem_cons.1 hid with e' | e'
        · subst e'
          exact ⟨(zIdx_lt hf).1, by have := k1 (zIdx ms id) (by simp); simpa using this⟩
        · exact k2 id e'
/-- Each group has some. -/
theorem inGrp_has {ms : List Mk} : ∀ {gs : List (List Int)} {g : Nat} {h h' : Nat → Nat}, inGrp ms gs g h = some h' → (∀ i, h i ≠ 0 → h' i = h i) ∧ ∀ j, j < gs.length → ∃ i, i < ms.length ∧ h' i = g + j + 1
  | [], g, h, h', e => by
    simp only [inGrp, Option.some.injEq] at e
    subst e
    exact ⟨fun _ _ => rfl, fun j hj => by simp at hj⟩
  | ids :: gs, g, h, h', e => by
    simp only [inGrp] at e
    split at e
    · cases e
    · rename_i hne
      rcases hi : inIds ms g ids h with _ | h1
      · rw [hi] at e; cases e
      · rw [hi] at e
        obtain ⟨a1, a2⟩ := inIds_keep hi
        obtain ⟨b1, b2⟩ := inGrp_has e
        refine ⟨fun i hi' => ?_, fun j hj => ?_⟩
        · have := a1 i hi'
          rw [b1 i (by rw [this]; exact hi'), this]
        · cases j with
          | zero =>
            cases ids with
            | nil => exact absurd rfl hne
            | cons x ids =>
              obtain ⟨c1, c2⟩ := a2 x (List.mem_cons_self ..)
              exact ⟨_, c1, by rw [b1 _ (by rw [c2]; omega), c2]⟩
          | succ j =>
            obtain ⟨i, hi1, hi2⟩ := b2 j (by simpa using hj)
            exact ⟨i, hi1, by omega⟩
/-- A part's own numbers go into its group. -/
theorem inIds_part {ms : List Mk} (hm : marksB ms = true) (g : Nat) : ∀ (J : List Nat), J.Nodup → (∀ j ∈ J, j < ms.length) → ∀ h : Nat → Nat, (∀ j ∈ J, h j = 0) → inIds ms g (J.map (mid ms)) h = some (fun i => if i ∈ J then g + 1 else h i)
  | [], _, _, h, _ => by simp [inIds]
  | j :: J, hd, hJ, h, h0 => by
    have hd' := List.nodup_cons.1 hd
    have hj := hJ j (List.mem_cons_self ..)
    obtain ⟨f1, f2⟩ := zFind_mid hm hj
    simp only [List.map_cons, inIds]
    rw [f1, f2, if_neg (by have := h0 j (List.mem_cons_self ..); omega)]
    rw [inIds_part hm g J hd'.2 (fun x hx => hJ x (List.mem_cons_of_mem _ hx)) _ (fun x hx => by
      have : x ≠ j := fun e => hd'.1 (e ▸ hx)
      simp [this, h0 x (List.mem_cons_of_mem _ hx)])]
    congr 1
    funext i
    by_cases h1 : i ∈ J
    · simp [h1]
    · by_cases h2 : i = j
      · simp [h2]
      · simp [h1, h2]
/-- The parts' groups, put in one by one: who has one label is in one group. -/
theorem inGrp_parts {ms : List Mk} (hm : marksB ms = true) (p : Nat → Nat) : ∀ (R : List Nat), R.Nodup → (∀ r ∈ R, r < ms.length ∧ p r = r) → ∀ (g : Nat) (h : Nat → Nat), (∀ i, i < ms.length → p i ∈ R → h i = 0) →
    ∃ h', inGrp ms (R.map (grpAt ms p)) g h = some h' ∧ (∀ i, ¬ (i < ms.length ∧ p i ∈ R) → h' i = h i) ∧ ∀ i, i < ms.length → p i ∈ R → h' i = g + R.idxOf (p i) + 1
  | [], _, _, g, h, _ => ⟨h, rfl, fun _ _ => rfl, fun i _ hi => by simp at hi⟩
  | r :: R, hd, hR, g, h, h0 => by
    have hd' := List.nodup_cons.1 hd
    have hr := hR r (List.mem_cons_self ..)
    have hJ : ∀ i, i ∈ (List.range ms.length).filter (fun j => decide (p j = r)) ↔ i < ms.length ∧ p i = r := fun i => by rw [List.mem_filter, List.mem_range]; simp
    have h1 := inIds_part hm g ((List.range ms.length).filter (fun j => decide (p j = r))) (List.Pairwise.filter _ List.nodup_range) (fun j hj => ((hJ j).1 hj).1) h (fun j hj => h0 j ((hJ j).1 hj).1 (by rw [((hJ j).1 hj).2]; exact List.mem_cons_self ..))
    have hne : grpAt ms p r ≠ [] := fun e => by
      have : r ∈ (List.range ms.length).filter (fun j => decide (p j = r)) := (hJ r).2 hr
      have hmem : mid ms r ∈ grpAt ms p r := List.mem_map_of_mem this
      rw [e] at hmem
      simp at hmem
    obtain ⟨h', e1, e2, e3⟩ := inGrp_parts hm p R hd'.2 (fun x hx => hR x (List.mem_cons_of_mem _ hx)) (g + 1) (fun i => if i ∈ (List.range ms.length).filter (fun j => decide (p j = r)) then g + 1 else h i) (fun i hi hp => by
      have hnr : p i ≠ r := fun e => hd'.1 (e ▸ hp)
      have : ¬ i ∈ (List.range ms.length).filter (fun j => decide (p j = r)) := fun hh => hnr ((hJ i).1 hh).2
      rw [if_neg this]
      exact h0 i hi (List.mem_cons_of_mem _ hp))
    refine ⟨h', ?_, fun i hi => ?_, fun i hi hp => ?_⟩
    · simp only [List.map_cons, inGrp]
      rw [if_neg hne]
      have e4 : inIds ms g (grpAt ms p r) h = some (fun i => if i ∈ (List.range ms.length).filter (fun j => decide (p j = r)) then g + 1 else h i) := h1
      rw [e4]
      exact e1
    · rw [e2 i (fun hh => hi ⟨hh.1, List.mem_cons_of_mem _ hh.2⟩)]
      have : ¬ i ∈ (List.range ms.length).filter (fun j => decide (p j = r)) := fun hh => hi ⟨((hJ i).1 hh).1, by rw [((hJ i).1 hh).2]; exact List.mem_cons_self ..⟩
      rw [if_neg this]
    · by_cases hpr : p i = r
      · have hin : i ∈ (List.range ms.length).filter (fun j => decide (p j = r)) := (hJ i).2 ⟨hi, hpr⟩
        rw [e2 i (fun hh => hd'.1 (hpr ▸ hh.2)), if_pos hin, hpr]
        simp
      · have hp' : p i ∈ R := by
          rcases List.mem_cons.1 hp with e | e
          · exact absurd e hpr
          · exact e
        have hb : (r == p i) = false := by simp; exact fun e => hpr e.symm
        rw [e3 i hi hp', List.idxOf_cons, hb]
        simp only [cond_false]
        omega
theorem filter_one {p : Nat → Nat} {r : Nat} {R : List Nat} (hr : r ∉ R) (L : List Nat) : (L.filter (fun j => decide (p j = r))).length + (L.filter (fun j => decide (p j ∈ R))).length = (L.filter (fun j => decide (p j ∈ r :: R))).length := by
  induction L with
  | nil => rfl
  | cons x L ih =>
    by_cases h1 : p x = r
    · have h2 : p x ∉ R := by rw [h1]; exact hr
      rw [List.filter_cons_of_pos (by simpa using h1), List.filter_cons_of_neg (by simpa using h2), List.filter_cons_of_pos (by simp [h1])]
      simp only [List.length_cons]
      omega
    · by_cases h2 : p x ∈ R
      · rw [List.filter_cons_of_neg (by simpa using h1), List.filter_cons_of_pos (by simpa using h2), List.filter_cons_of_pos (by simp [h2])]
        simp only [List.length_cons]
        omega
      · rw [List.filter_cons_of_neg (by simpa using h1), List.filter_cons_of_neg (by simpa using h2), List.filter_cons_of_neg (by simp [h1, h2])]
        exact ih
theorem filter_count {p : Nat → Nat} (L : List Nat) (R : List Nat) (hd : R.Nodup) : (R.map (fun r => (L.filter (fun j => decide (p j = r))).length)).sum = (L.filter (fun j => decide (p j ∈ R))).length := by
  induction R with
  | nil => rw [List.filter_eq_nil_iff.2 (fun _ _ => by simp)]; rfl
  | cons r R ih =>
    have hd' := List.nodup_cons.1 hd
    rw [List.map_cons, List.sum_cons, ih hd'.2]
    exact filter_one hd'.1 L
/-- The groups of labels: all are in them, each once; the gap is that of the labels. -/
theorem grp_gap {ms : List Mk} {kd : Int} (hB : thrB ms kd = true) (E : List Eg) (h2 : 2 ≤ (grpOf ms (lab E)).length) : gapI ms kd (grpOf ms (lab E)) = gapAll (lab E) (zD ms kd) ms.length ∧ lenS (grpOf ms (lab E)) = ms.length := by
  obtain ⟨hm, hk⟩ := (thrB_iff ms kd).1 hB
  have hok := lab_ok E
  have hrep : ∀ i, i < ms.length → lab E i ∈ (List.range ms.length).filter (fun i => decide (lab E i = i)) := fun i hi => by
    have := hok.le i
    exact List.mem_filter.2 ⟨List.mem_range.2 (by omega), by simpa using hok.idem i⟩
  have hlen : lenS (grpOf ms (lab E)) = ms.length := by
    unfold lenS grpOf
    rw [List.map_map]
    have e1 : (List.length ∘ grpAt ms (lab E)) = fun r => ((List.range ms.length).filter (fun j => decide (lab E j = r))).length := by
      funext r
      simp [Function.comp, grpAt]
    rw [e1, filter_count _ _ (List.Pairwise.filter _ List.nodup_range)]
    rw [List.filter_eq_self.2 (fun j hj => by simpa using hrep j (List.mem_range.1 hj)), List.length_range]
  obtain ⟨h, e1, -, e3⟩ := inGrp_parts hm (lab E) ((List.range ms.length).filter (fun i => decide (lab E i = i))) (List.Pairwise.filter _ List.nodup_range) (fun r hr => by
    have := List.mem_filter.1 hr
    exact ⟨List.mem_range.1 this.1, by simpa using this.2⟩) 0 (fun _ => 0) (fun _ _ _ => rfl)
  refine ⟨?_, hlen⟩
  rw [gapI, if_pos (by simp [gapB, hB, h2])]
  have e4 : inGrp ms (grpOf ms (lab E)) 0 (fun _ => 0) = some h := e1
  rw [e4]
  simp only
  rw [if_pos hlen]
  refine gapAll_same (fun i k hi hk' => ?_)
  rw [e3 i hi (hrep i hi), e3 k hk' (hrep k hk')]
  constructor
  · intro e
    have e5 : List.idxOf (lab E i) ((List.range ms.length).filter (fun i => decide (lab E i = i))) = List.idxOf (lab E k) ((List.range ms.length).filter (fun i => decide (lab E i = i))) := by omega
    have q1 := List.getElem_idxOf (List.idxOf_lt_length_of_mem (hrep i hi))
    have q2 := List.getElem_idxOf (List.idxOf_lt_length_of_mem (hrep k hk'))
    rw [← q1, ← q2]
    simp only [e5]
  · intro e; rw [e]
theorem grpOf_len (ms : List Mk) (p : Nat → Nat) : (grpOf ms p).length = comps ms.length p := by simp [grpOf, comps]
theorem grpB_iff (ms : List Mk) (kd k : Int) : grpB ms kd k = true ↔ thrB ms kd = true ∧ 1 ≤ k ∧ k ≤ ms.length := by simp [grpB, and_assoc]
theorem grpL_len {ms : List Mk} {kd k : Int} (h : grpB ms kd k = true) : ((grpL ms kd k).length : Int) = k := by
  obtain ⟨h1, h2, h3⟩ := (grpB_iff ms kd k).1 h
  rw [grpL, if_pos h, grpOf_len, groups_are (by omega) (by omega)]
  omega
/-- No other groups, as many, have a greater gap. -/
theorem gaps {ms : List Mk} {kd : Int} {k : Nat} (h : grpB ms kd k = true) (h2 : 2 ≤ k) : 0 ≤ gapI ms kd (grpL ms kd k) ∧ ∀ gs : List (List Int), gs.length = k → gapI ms kd gs ≤ gapI ms kd (grpL ms kd k) := by
  obtain ⟨hB, h1, h3⟩ := (grpB_iff ms kd k).1 h
  have hl := grpL_len h
  have eL : grpL ms kd k = grpOf ms (lab ((thrE (zD ms kd) ms.length).take (ms.length - k))) := by rw [grpL, if_pos h, Int.toNat_natCast]
  rw [eL] at hl
  have hg := (grp_gap hB ((thrE (zD ms kd) ms.length).take (ms.length - k)) (by omega)).1
  obtain ⟨b1, b2⟩ := gaps_best (D := zD ms kd) (zD_nn ms kd) (zD_comm ms kd) (n := ms.length) (k := k) h2 (by omega)
  rw [eL, hg]
  refine ⟨b1, fun gs hgs => ?_⟩
  unfold gapI
  split
  · rcases hi : inGrp ms gs 0 (fun _ => 0) with _ | h'
    · simp only; omega
    · simp only
      split
      · refine b2 h' (fun g hg' => ?_)
        obtain ⟨i, hi1, hi2⟩ := (inGrp_has hi).2 g (by omega)
        exact ⟨i, hi1, by omega⟩
      · omega
  · omega

end Go.Proofs.Ytfbindjacmaeoaa
namespace Go.Proofs.Ytfbindjacmaeoaa

def egn (S : List Eg) (i : Nat) : Eg := S.getD i (0, 0)
theorem egn_get {S : List Eg} {i : Nat} (h : i < S.length) : egn S i = S[i] := by simp [egn, List.getD, h]
theorem egn_mem {S : List Eg} {i : Nat} (h : i < S.length) : egn S i ∈ S := by rw [egn_get h]; exact List.getElem_mem h
theorem drop_egn {S : List Eg} {i : Nat} (h : i < S.length) : S.drop i = egn S i :: S.drop (i + 1) := by rw [egn_get h]; exact List.drop_eq_getElem_cons h
theorem take_egn {S : List Eg} {i : Nat} (h : i < S.length) : S.take (i + 1) = S.take i ++ [egn S i] := by rw [egn_get h]; exact List.take_succ_eq_append_getElem h
theorem egn_drop (S : List Eg) (k i : Nat) : egn (S.drop k) i = egn S (k + i) := by simp [egn, List.getD]
/-- All have it, or there is a first that has not. -/
theorem first_not (P : Eg → Bool) : ∀ S : List Eg, (∀ e ∈ S, P e = true) ∨ ∃ m, m < S.length ∧ (∀ j, j < m → P (egn S j) = true) ∧ P (egn S m) = false
  | [] => Or.inl (fun e he => by simp at he)
  | e :: S => by
    rcases h : P e with _ | _
    · exact Or.inr ⟨0, by simp, fun j hj => by omega, by simpa [egn] using h⟩
    · rcases first_not P S with h1 | ⟨m, h1, h2, h3⟩
      · exact Or.inl (fun x hx => by
          rcases List.mem_cons.1 hx with e' | e'
          · rw [e']; exact h
          · exact h1 x e')
      · refine Or.inr ⟨m + 1, by simpa using h1, fun j hj => ?_, by simpa [egn] using h3⟩
        cases j with
        | zero => simpa [egn] using h
        | succ j => simpa [egn] using h2 j (by omega)
theorem kru_app (A B : List Eg) : ∃ Z, kruF (A ++ B) = kruF A ++ Z := by
  refine snoc_ind (P := fun B => ∃ Z, kruF (A ++ B) = kruF A ++ Z) ⟨[], by simp⟩ (fun B e ih => ?_) B
  obtain ⟨Z, hZ⟩ := ih
  rw [← List.append_assoc, kru_snoc]
  split
  · exact ⟨Z, hZ⟩
  · exact ⟨Z ++ [e], by rw [hZ, List.append_assoc]⟩
theorem kru_idle (A B : List Eg) (h : ∀ e ∈ B, lab (kruF A) e.1 = lab (kruF A) e.2) : kruF (A ++ B) = kruF A := by
  revert h
  refine snoc_ind (P := fun B => (∀ e ∈ B, lab (kruF A) e.1 = lab (kruF A) e.2) → kruF (A ++ B) = kruF A) (fun _ => by simp) (fun B e ih h => ?_) B
  rw [← List.append_assoc, kru_snoc, ih (fun x hx => h x (List.mem_append_left _ hx)), if_pos (h e (by simp))]
/-- The next thread of all that is kept: the first of those left that ties two parts. -/
theorem kru_next {S1 S : List Eg} {k : Nat} (h1 : kruF S1 = (kruF (S1 ++ S)).take k) (hk : k < (kruF (S1 ++ S)).length) :
    ∃ m, m < S.length ∧ (∀ j, j < m → lab (kruF S1) (egn S j).1 = lab (kruF S1) (egn S j).2) ∧ lab (kruF S1) (egn S m).1 ≠ lab (kruF S1) (egn S m).2 ∧ kruF (S1 ++ S.take (m + 1)) = (kruF (S1 ++ S)).take (k + 1) ∧ egn S m = egn (kruF (S1 ++ S)) k := by
  have hlen : (kruF S1).length = k := by rw [h1, List.length_take]; omega
  rcases first_not (fun e => decide (lab (kruF S1) e.1 = lab (kruF S1) e.2)) S with h | ⟨m, hm, ha, hb⟩
  · exfalso
    have := kru_idle S1 S (fun e he => by simpa using h e he)
    rw [this] at hk
    omega
  · have hb' : lab (kruF S1) (egn S m).1 ≠ lab (kruF S1) (egn S m).2 := by simpa using hb
    have hidle : kruF (S1 ++ S.take m) = kruF S1 := kru_idle _ _ (fun e he => by
      obtain ⟨j, hj, rfl⟩ := List.getElem_of_mem he
      rw [List.length_take] at hj
      rw [List.getElem_take]
      have := ha j (by omega)
      rw [egn_get (by omega)] at this
      simpa using this)
    have hnew : kruF (S1 ++ S.take (m + 1)) = kruF S1 ++ [egn S m] := by
      rw [take_egn hm, ← List.append_assoc, kru_snoc, hidle, if_neg hb']
    obtain ⟨Z, hZ⟩ := kru_app (S1 ++ S.take (m + 1)) (S.drop (m + 1))
    rw [List.append_assoc, List.take_append_drop, hnew] at hZ
    refine ⟨m, hm, fun j hj => by simpa using ha j hj, hb', ?_, ?_⟩
    · rw [hnew, hZ, List.take_append_of_le_length (by simp [hlen]), List.take_of_length_le (by simp [hlen])]
    · rw [hZ]
      have : ((kruF S1 ++ [egn S m]) ++ Z).getD k (0, 0) = egn S m := by
        rw [List.append_assoc]
        simp [List.getD, ← hlen]
      exact this.symm

/-- The threads of these pairs, in their order. -/
def thsL (ms : List Mk) (kd : Int) (P : List Eg) : List Th := P.map (thOf ms kd)
theorem thsL_len (ms : List Mk) (kd : Int) (P : List Eg) : (thsL ms kd P).length = P.length := by simp [thsL]
theorem thsL_snoc (ms : List Mk) (kd : Int) (P : List Eg) (e : Eg) : thsL ms kd (P ++ [e]) = thsL ms kd P ++ [thOf ms kd e] := by simp [thsL]
theorem thsL_at (ms : List Mk) (kd : Int) (P : List Eg) {i : Nat} (h : i < P.length) : tnth (thsL ms kd P) i = thOf ms kd (egn P i) := by simp [tnth, thsL, egn, List.getD, h]
/-- What a heap of the threads of S is. -/
structure HpOk (ms : List Mk) (kd : Int) (S : List Eg) (l : List Th) : Prop where
  perm : l.Perm (thsL ms kd S)
  heap : HeapNT l l.length
theorem HpOk.len {ms : List Mk} {kd : Int} {S : List Eg} {l : List Th} (h : HpOk ms kd S l) : l.length = S.length := by rw [h.perm.length_eq, thsL_len]
theorem HpOk.first {ms : List Mk} (hm : marksB ms = true) {kd : Int} (hk : kindB kd = true) {S : List Eg} {l : List Th} (h : HpOk ms kd S l) (hS : Ord12 (zD ms kd) S) (hr : ∀ e ∈ S, e.1 < ms.length ∧ e.2 < ms.length) (h0 : 0 < S.length) : tnth l 0 = thOf ms kd (egn S 0) := by
  have hl := h.len
  have hmem : thOf ms kd (egn S 0) ∈ l := h.perm.mem_iff.2 (List.mem_map_of_mem (egn_mem h0))
  obtain ⟨c, hc, e⟩ := List.getElem_of_mem hmem
  have h1 := heap_firstT h.heap c hc
  rw [tnth_get hc, e] at h1
  have hmem2 : tnth l 0 ∈ thsL ms kd S := h.perm.mem_iff.1 (tnth_mem (by omega))
  obtain ⟨x, hx, hx2⟩ := List.mem_map.1 hmem2
  refine leT_antisymm h1 ?_
  rw [← hx2]
  obtain ⟨j, hj, rfl⟩ := List.getElem_of_mem hx
  rcases Nat.eq_zero_or_pos j with e0 | e0
  · subst e0
    rw [egn_get h0]
    exact leT_refl _
  · have ha := (List.pairwise_iff_getElem.1 hS) 0 j h0 hj e0
    have b0 := hr _ (List.getElem_mem h0)
    have bj := hr _ (List.getElem_mem hj)
    rw [egn_get h0]
    refine leT_of_ahead ?_
    rw [thAhead_eq hm hk b0.1 b0.2 bj.1 bj.2]
    exact ha
theorem HpOk.next {ms : List Mk} {kd : Int} {S : List Eg} {l l' : List Th} (h : HpOk ms kd S l) (h0 : 0 < S.length) (e : tnth l 0 = thOf ms kd (egn S 0)) (hp : (tnth l 0 :: l').Perm l) (hh : HeapNT l' l'.length) : HpOk ms kd (S.drop 1) l' := by
  refine ⟨?_, hh⟩
  have h1 := hp.trans h.perm
  rw [e] at h1
  have h2 : thsL ms kd S = thOf ms kd (egn S 0) :: thsL ms kd (S.drop 1) := by
    have := drop_egn h0
    rw [List.drop_zero] at this
    conv => lhs; rw [this]
    rfl
  rw [h2] at h1
  exact h1.cons_inv
theorem ord_drop {D : Nat → Nat → Int} {S : List Eg} (h : Ord12 D S) (k : Nat) : Ord12 D (S.drop k) := h.sublist (List.drop_sublist k S)
theorem pairs_srt (ms : List Mk) (kd : Int) (n : Nat) (D : Nat → Nat → Int) : (thsL ms kd (pairsTo n n)).Perm (thsL ms kd (srtE D n)) := by
  refine List.Perm.map _ ((List.perm_ext_iff_of_nodup (pairs_nodup n n) (srtE_ord D n).nodup).2 (fun e => ?_))
  rw [mem_srtE, mem_pairs]
  omega

end Go.Proofs.Ytfbindjacmaeoaa
