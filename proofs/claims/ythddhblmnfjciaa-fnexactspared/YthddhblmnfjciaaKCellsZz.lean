/-
  Rows of knots in memory: five cells a knot.
  A block of five cells.
-/
import Derived.Test.YthddhblmnfjciaaSCellsZz
import Derived.Test.YthddhblmnfjciaaBMarkZz
import Derived.Test.YthddhblmnfjciaaAppendZz
import Derived.Test.YthddhblmnfjciaaMCellsZz
namespace Go.Proofs.Ythddhblmnfjciaa
open Go Go.RowKit

theorem Try.info95 : (Try.prog.info? 95).map (fun i => (i.zero, i.size, i.bytes)) = some (some (.agg #[.int .i64 0, .slice none 0 0, .int .i64 0, .int .i64 0, .int .i64 0]), 5, 56) := by kernel_rfl

/-- A knot in a row: its mark, where its place lies, its axis, less, more. -/
abbrev Dk := Sm × Int × Int × Int
def dkCells : List Dk → List Value
  | [] => []
  | d :: ds => .int .i64 d.1.1 :: .slice d.1.2.1 d.1.2.2.2.length d.1.2.2.1 :: .int .i64 d.2.1 :: .int .i64 d.2.2.1 :: .int .i64 d.2.2.2 :: dkCells ds
def dkKn (d : Dk) : Kn := (smMark d.1, d.2)
def dnth (ds : List Dk) (i : Nat) : Dk := ds.getD i ((0, none, 0, []), 0, 0, 0)
def KRow (base : Nat) (w : World) (g c : Nat) (ds : List Dk) : Prop := w.ownsRow base 95 5 (.slice (some ⟨g, 0, none⟩) ds.length c) ds.length (dkCells ds)

theorem dkCells_length (ds : List Dk) : (dkCells ds).length = ds.length * 5 := by
  induction ds with
  | nil => rfl
  | cons d ds ih => simp [dkCells, ih]; omega
theorem dkCells_append (ds es : List Dk) : dkCells (ds ++ es) = dkCells ds ++ dkCells es := by
  induction ds with
  | nil => rfl
  | cons d ds ih => simp [dkCells, ih]
theorem dkCells_one (ds : List Dk) : ∀ u ∈ dkCells ds, u.oneCell' = true := by
  induction ds with
  | nil => intro u hu; cases hu
  | cons d ds ih =>
    intro u hu
    simp only [dkCells, List.mem_cons] at hu
    rcases hu with rfl | rfl | rfl | rfl | rfl | hu
    · rfl
    · rfl
    · rfl
    · rfl
    · rfl
    · exact ih u hu
theorem dkCells_at (ds : List Dk) (i : Nat) (h : i < ds.length) : (dkCells ds)[i * 5]? = some (.int .i64 (dnth ds i).1.1) ∧ (dkCells ds)[i * 5 + 1]? = some (.slice (dnth ds i).1.2.1 (dnth ds i).1.2.2.2.length (dnth ds i).1.2.2.1) ∧ (dkCells ds)[i * 5 + 2]? = some (.int .i64 (dnth ds i).2.1) ∧ (dkCells ds)[i * 5 + 3]? = some (.int .i64 (dnth ds i).2.2.1) ∧ (dkCells ds)[i * 5 + 4]? = some (.int .i64 (dnth ds i).2.2.2) := by
  induction ds generalizing i with
  | nil => simp at h
  | cons d ds ih =>
    match i, h with
    | 0, _ => exact ⟨rfl, rfl, rfl, rfl, rfl⟩
    | k + 1, h =>
      have := ih k (by simpa using h)
      rw [show (k + 1) * 5 = k * 5 + 1 + 1 + 1 + 1 + 1 by omega]
      exact this
theorem dkCells_less (pre : List Dk) (d : Dk) (rest : List Dk) (v : Int) : (dkCells (pre ++ d :: rest)).set (pre.length * 5 + 3) (.int .i64 v) = dkCells (pre ++ (d.1, d.2.1, v, d.2.2.2) :: rest) := by
  induction pre with
  | nil => rfl
  | cons p pre ih =>
    rw [List.cons_append, List.cons_append, dkCells, dkCells, ← ih, List.length_cons, show (pre.length + 1) * 5 + 3 = (pre.length * 5 + 3) + 1 + 1 + 1 + 1 + 1 by omega]
    rfl
theorem dkCells_more (pre : List Dk) (d : Dk) (rest : List Dk) (v : Int) : (dkCells (pre ++ d :: rest)).set (pre.length * 5 + 4) (.int .i64 v) = dkCells (pre ++ (d.1, d.2.1, d.2.2.1, v) :: rest) := by
  induction pre with
  | nil => rfl
  | cons p pre ih =>
    rw [List.cons_append, List.cons_append, dkCells, dkCells, ← ih, List.length_cons, show (pre.length + 1) * 5 + 4 = (pre.length * 5 + 4) + 1 + 1 + 1 + 1 + 1 by omega]
    rfl

theorem KRow.lt {base : Nat} {w : World} {g c : Nat} {ds : List Dk} (h : KRow base w g c ds) : base ≤ g ∧ g < w.heap.size := World.ownsRow.lt h g rfl
theorem KRow.cap {base : Nat} {w : World} {g c : Nat} {ds : List Dk} (h : KRow base w g c ds) : ds.length ≤ c := by
  obtain ⟨_, ⟨h1, _⟩ | ⟨g', c', cur, h1, _, _, h2, _⟩⟩ := h
  · cases h1
  · injection h1 with e1 e2 e3; omega
theorem KRow.of {base : Nat} {w : World} {g c n : Nat} {ds : List Dk} {xs : List Value} (h : w.ownsRow base 95 5 (.slice (some ⟨g, 0, none⟩) n c) n xs) (hn : n = ds.length) (hx : xs = dkCells ds) : KRow base w g c ds := by
  subst hn hx; exact h
theorem KRow.kept {base : Nat} {w w' : World} {g c : Nat} {r : Option Nat} {ds : List Dk} (h : KRow base w g c ds) (hg : w.grownBy w' r) (hr : some g ≠ r) : KRow base w' g c ds := World.ownsRow.kept h hg (Or.inr hr)
theorem KRow.mono {base base' : Nat} {w : World} {g c : Nat} {ds : List Dk} (h : KRow base w g c ds) (hb : base' ≤ base) : KRow base' w g c ds :=
  ⟨h.1, h.2.imp id fun ⟨g, cap, cur, h1, h2, h3⟩ => ⟨g, cap, cur, h1, Nat.le_trans hb h2, h3⟩⟩
theorem grown_below {w w' : World} (hw : Below w.heap.size w w') : w.grownBy w' none := ⟨hw.os, hw.tape, hw.output, hw.size, fun i hi _ => hw.block i hi⟩
theorem KRow.below {base : Nat} {w w' : World} {g c : Nat} {ds : List Dk} (h : KRow base w g c ds) (hw : Below w.heap.size w w') : KRow base w' g c ds := h.kept (grown_below hw) (by simp)
theorem KRow.start (w : World) (base : Nat) (hb : base ≤ w.heap.size) : KRow base (w.alloc (.cells #[] 95)) w.heap.size 0 [] := World.ownsRow_lit w #[] 0 hb (Nat.zero_le _) rfl
theorem KRow.cell {base : Nat} {w : World} {g c : Nat} {ds : List Dk} (h : KRow base w g c ds) {i : Nat} (hi : i < ds.length) : w.cell? ⟨g, i * 5, none⟩ = some (.int .i64 (dnth ds i).1.1) ∧ w.cell? ⟨g, i * 5 + 1, none⟩ = some (.slice (dnth ds i).1.2.1 (dnth ds i).1.2.2.2.length (dnth ds i).1.2.2.1) ∧ w.cell? ⟨g, i * 5 + 2, none⟩ = some (.int .i64 (dnth ds i).2.1) ∧ w.cell? ⟨g, i * 5 + 3, none⟩ = some (.int .i64 (dnth ds i).2.2.1) ∧ w.cell? ⟨g, i * 5 + 4, none⟩ = some (.int .i64 (dnth ds i).2.2.2) := by
  obtain ⟨c0, c1, c2, c3, c4⟩ := dkCells_at ds i hi
  exact ⟨by rw [World.ownsRow.cellAt h _ (by omega)]; exact c0, by rw [World.ownsRow.cellAt h _ (by omega)]; exact c1, by rw [World.ownsRow.cellAt h _ (by omega)]; exact c2, by rw [World.ownsRow.cellAt h _ (by omega)]; exact c3, by rw [World.ownsRow.cellAt h _ (by omega)]; exact c4⟩
theorem KRow.less {base : Nat} {w : World} {g c : Nat} {pre rest : List Dk} {d : Dk} (h : KRow base w g c (pre ++ d :: rest)) (v : Int) : KRow base (w.setCell ⟨g, pre.length * 5 + 3, none⟩ (.int .i64 v)) g c (pre ++ (d.1, d.2.1, v, d.2.2.2) :: rest) := by
  have h1 := (World.ownsRow.stored h (pre.length * 5 + 3) (.int .i64 v)).1
  rw [dkCells_less] at h1
  exact KRow.of h1 (by simp) rfl
theorem KRow.more {base : Nat} {w : World} {g c : Nat} {pre rest : List Dk} {d : Dk} (h : KRow base w g c (pre ++ d :: rest)) (v : Int) : KRow base (w.setCell ⟨g, pre.length * 5 + 4, none⟩ (.int .i64 v)) g c (pre ++ (d.1, d.2.1, d.2.2.1, v) :: rest) := by
  have h1 := (World.ownsRow.stored h (pre.length * 5 + 4) (.int .i64 v)).1
  rw [dkCells_more] at h1
  exact KRow.of h1 (by simp) rfl
theorem one_srcK {w : World} {n : Nat} {d : Dk} (hb : w.heap[n]? = some (.cells #[.int .i64 d.1.1, .slice d.1.2.1 d.1.2.2.2.length d.1.2.2.1, .int .i64 d.2.1, .int .i64 d.2.2.1, .int .i64 d.2.2.2] 95 (0, 0))) : SrcAt w 5 (some ⟨n, 0, none⟩) 1 (dkCells [d]) :=
  ⟨rfl, dkCells_one [d], Or.inr ⟨_, rfl, World.news_of_block (cs := #[.int .i64 d.1.1, .slice d.1.2.1 d.1.2.2.2.length d.1.2.2.1, .int .i64 d.2.1, .int .i64 d.2.2.1, .int .i64 d.2.2.2]) hb⟩⟩

theorem seg_srcK {w : World} {b off : Nat} {xs : List Int} (h : Seg w b off xs) : SrcAt w 1 (some ⟨b, off, none⟩) xs.length (xs.map (Value.int .i64)) := by
  refine ⟨by simp, fun u hu => ?_, Or.inr ⟨_, rfl, fun j u hu => ?_⟩⟩
  · obtain ⟨x, _, rfl⟩ := List.mem_map.1 hu; rfl
  · rw [Go.WideShapes.add_plain]
    have hj : j < xs.length := by
      rcases Nat.lt_or_ge j xs.length with h1 | h1
      · exact h1
      · rw [List.getElem?_eq_none (by simpa using h1)] at hu; cases hu
    rw [h j hj, ← hu]
    simp [nth, List.getD, hj]

/-- Each knot's place is a row of its own, apart from the knots' row and from the others', from block B on. -/
def KOuts (B : Nat) (w : World) (g : Nat) (ds : List Dk) : Prop :=
  (∀ d ∈ ds, ∃ h, d.1.2.1 = some ⟨h, 0, none⟩ ∧ IRow B w h d.1.2.2.1 d.1.2.2.2 ∧ h ≠ g) ∧ ds.Pairwise fun a b => a.1.2.1 ≠ b.1.2.1
theorem KOuts.nil (B : Nat) (w : World) (g : Nat) : KOuts B w g [] := ⟨fun d hd => (by cases hd), List.Pairwise.nil⟩
theorem KOuts.kept {B : Nat} {w w' : World} {g : Nat} {ds : List Dk} (h : KOuts B w g ds) (hg : w.grownBy w' (some g)) : KOuts B w' g ds :=
  ⟨fun d hd => by
    obtain ⟨k, e, r, n⟩ := h.1 d hd
    exact ⟨k, e, r.kept hg (fun x => n (Option.some.inj x)), n⟩, h.2⟩
theorem KOuts.below {B : Nat} {w w' : World} {g : Nat} {ds : List Dk} (h : KOuts B w g ds) (hw : Below w.heap.size w w') : KOuts B w' g ds :=
  ⟨fun d hd => by
    obtain ⟨k, e, r, n⟩ := h.1 d hd
    exact ⟨k, e, r.below hw, n⟩, h.2⟩
/-- The row went elsewhere, or stayed. -/
theorem KOuts.moved {B : Nat} {w w' : World} {g g' : Nat} {ds : List Dk} (h : KOuts B w g ds) (hg : w.grownBy w' (some g)) (hm : g' = g ∨ w.heap.size ≤ g') : KOuts B w' g' ds :=
  ⟨fun d hd => by
    obtain ⟨k, e, r, n⟩ := h.1 d hd
    refine ⟨k, e, r.kept hg (fun x => n (Option.some.inj x)), ?_⟩
    rcases hm with rfl | hm
    · exact n
    · have := r.lt.2; omega, h.2⟩
theorem KOuts.mono {B B' : Nat} {w : World} {g : Nat} {ds : List Dk} (h : KOuts B w g ds) (hb : B' ≤ B) : KOuts B' w g ds :=
  ⟨fun d hd => by
    obtain ⟨k, e, r, n⟩ := h.1 d hd
    exact ⟨k, e, r.mono hb, n⟩, h.2⟩
theorem KOuts.append {B M : Nat} {w : World} {g : Nat} {ds es : List Dk} (h : KOuts B w g ds) (k : KOuts M w g es) (hb : B ≤ M) (hl : ∀ d ∈ ds, ∀ a, d.1.2.1 = some a → a.block < M) : KOuts B w g (ds ++ es) := by
  refine ⟨fun d hd => ?_, List.pairwise_append.2 ⟨h.2, k.2, fun a ha b hb' e => ?_⟩⟩
  · rcases List.mem_append.1 hd with hd | hd
    · exact h.1 d hd
    · obtain ⟨x, e, r, n⟩ := k.1 d hd
      exact ⟨x, e, r.mono hb, n⟩
  · obtain ⟨x, e1, r, n⟩ := h.1 a ha
    obtain ⟨y, e2, s, m⟩ := k.1 b hb'
    have h1 := hl a ha _ e1
    have h2 := s.lt.1
    rw [e1, e2] at e
    injection e with e
    injection e with e
    simp at h1; omega
theorem KOuts.block {B : Nat} {w : World} {g : Nat} {ds : List Dk} (h : KOuts B w g ds) : ∀ d ∈ ds, ∀ a, d.1.2.1 = some a → a.block < w.heap.size := fun d hd a ha => by
  obtain ⟨k, e, r, n⟩ := h.1 d hd
  rw [e] at ha
  injection ha with ha
  subst ha
  exact r.lt.2
theorem grownK_trans {w w1 w2 : World} {g g' : Nat} (h : w.grownBy w1 (some g)) (k : w1.grownBy w2 (some g')) (hm : g' = g ∨ w.heap.size ≤ g') : w.grownBy w2 (some g) :=
  ⟨k.os.trans h.os, k.tape.trans h.tape, k.output.trans h.output, Nat.le_trans h.size k.size, fun i hi hne => by
    refine (k.block i (Nat.lt_of_lt_of_le hi h.size) ?_).trans (h.block i hi hne)
    rcases hm with rfl | hm
    · exact hne
    · intro e; injection e with e; omega⟩
theorem grown_after {w w1 w2 : World} {g : Nat} (h : Below w.heap.size w w1) (k : w1.grownBy w2 (some g)) : w.grownBy w2 (some g) :=
  ⟨k.os.trans h.os, k.tape.trans h.tape, k.output.trans h.output, Nat.le_trans h.size k.size, fun i hi hne => (k.block i (Nat.lt_of_lt_of_le hi h.size) hne).trans (h.block i hi)⟩
theorem grown_then {w w1 w2 : World} {g : Nat} (h : w.grownBy w1 (some g)) (k : Below w1.heap.size w1 w2) : w.grownBy w2 (some g) :=
  ⟨k.os.trans h.os, k.tape.trans h.tape, k.output.trans h.output, Nat.le_trans h.size k.size, fun i hi hne => (k.block i (Nat.lt_of_lt_of_le hi h.size)).trans (h.block i hi hne)⟩
theorem below_grown {w0 w w' : World} {B g : Nat} (h : Below B w0 w) (k : w.grownBy w' (some g)) (hB : B ≤ w.heap.size) (hg : B ≤ g) : Below B w0 w' := h.grown k hB (by intro x hx; cases hx; exact hg)

end Go.Proofs.Ythddhblmnfjciaa
namespace Go.Proofs.Ythddhblmnfjciaa
open Go Go.RowKit

/-- A block of five cells. -/
def Five (w : World) (p : Nat) (a b c d e : Value) (t : TypeId) : Prop := w.heap[p]? = some (.cells #[a, b, c, d, e] t (0, 0))
theorem Five.lt {w : World} {p : Nat} {a b c d e : Value} {t : TypeId} (h : Five w p a b c d e t) : p < w.heap.size := by
  rcases Nat.lt_or_ge p w.heap.size with h1 | h1
  · exact h1
  · unfold Five at h; rw [Array.getElem?_eq_none h1] at h; cases h
theorem Five.cells {w : World} {p : Nat} {a b c d e : Value} {t : TypeId} (h : Five w p a b c d e t) : w.cell? ⟨p, 0, none⟩ = some a ∧ w.cell? ⟨p, 1, none⟩ = some b ∧ w.cell? ⟨p, 2, none⟩ = some c ∧ w.cell? ⟨p, 3, none⟩ = some d ∧ w.cell? ⟨p, 4, none⟩ = some e := by unfold Five at h; simp [World.cell?, h]
theorem Five.frozen {w : World} {p : Nat} {a b c d e : Value} {t : TypeId} (h : Five w p a b c d e t) (j : Nat) : w.frozen? ⟨p, j, none⟩ = false := by unfold Five at h; simp [World.frozen?, h]
theorem Five.below {w w' : World} {p : Nat} {a b c d e : Value} {t : TypeId} (h : Five w p a b c d e t) (hb : Below w.heap.size w w') : Five w' p a b c d e t := (hb.block p h.lt).trans h
theorem Five.new (w : World) (a b c d e : Value) (t : TypeId) : Five (w.alloc (.cells #[a, b, c, d, e] t)) w.heap.size a b c d e t := heap_alloc_new w _

theorem Five.kept {w w' : World} {p : Nat} {a b c d e : Value} {t : TypeId} {r : Option Nat} (h : Five w p a b c d e t) (hg : w.grownBy w' r) (hr : some p ≠ r) : Five w' p a b c d e t := (hg.block p h.lt hr).trans h
theorem Five.set2 {w : World} {p : Nat} {a b c d e : Value} {t : TypeId} (h : Five w p a b c d e t) (x : Value) : Five (w.setCell ⟨p, 2, none⟩ x) p a b x d e t := by
  unfold Five World.setCell at *
  simp only [Array.getElem?_modify, if_true, h]
  rfl

end Go.Proofs.Ythddhblmnfjciaa
