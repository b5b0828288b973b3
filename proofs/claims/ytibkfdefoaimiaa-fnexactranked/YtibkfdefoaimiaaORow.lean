/-
  Rows of numbers of a call's own, of whatever room.
-/
import Derived.Test.YtibkfdefoaimiaaORnkI
import Derived.Test.YtibkfdefoaimiaaAppend
namespace Go.Proofs.Ytibkfdefoaimiaa
open Go Go.RowKit

def nvs (xs : List Int) : List Value := xs.map (Value.int .i64)
def NRow (base : Nat) (w : World) (g c : Nat) (xs : List Int) : Prop := w.ownsRow base 2 1 (.slice (some ⟨g, 0, none⟩) xs.length c) xs.length (nvs xs)
theorem NRow.lt {base : Nat} {w : World} {g c : Nat} {xs : List Int} (h : NRow base w g c xs) : base ≤ g ∧ g < w.heap.size := World.ownsRow.lt h g rfl
theorem NRow.seg {base : Nat} {w : World} {g c : Nat} {xs : List Int} (h : NRow base w g c xs) : Seg w g 0 xs := fun i hi => by
  rw [Nat.zero_add, World.ownsRow.cellAt h i (by omega)]
  simp [nvs, nth, hi]
theorem NRow.cap {base : Nat} {w : World} {g c : Nat} {xs : List Int} (h : NRow base w g c xs) : xs.length ≤ c := by
  obtain ⟨_, ⟨h1, _⟩ | ⟨g', c', cur, h1, _, _, h2, _⟩⟩ := h
  · cases h1
  · injection h1 with e1 e2 e3; omega
theorem NRow.below {base B : Nat} {w w' : World} {g c : Nat} {xs : List Int} (h : NRow base w g c xs) (hB : w.heap.size ≤ B) (hw : Below B w w') : NRow base w' g c xs :=
  World.ownsRow.kept h (row := none) ⟨hw.os, hw.tape, hw.output, hw.size, fun i hi _ => hw.block i (Nat.lt_of_lt_of_le hi hB)⟩ (Or.inr (by simp [Value.ownBlock]))
theorem NRow.start (w : World) (base : Nat) (hb : base ≤ w.heap.size) : NRow base (w.alloc (.cells #[] 2)) w.heap.size 0 [] := World.ownsRow_lit w #[] 0 hb (Nat.zero_le _) rfl
theorem NRow.of {base : Nat} {w : World} {g c n : Nat} {xs : List Int} {vs : List Value} (h : w.ownsRow base 2 1 (.slice (some ⟨g, 0, none⟩) n c) n vs) (hn : n = xs.length) (hx : vs = nvs xs) : NRow base w g c xs := by
  subst hn hx; exact h
theorem nsrc {w : World} {g off : Nat} {xs : List Int} (h : Seg w g off xs) : SrcAt w 1 (some ⟨g, off, none⟩) xs.length (nvs xs) :=
  ⟨by simp [nvs], fun u hu => by simp [nvs] at hu; obtain ⟨x, _, rfl⟩ := hu; rfl, Or.inr ⟨_, rfl, fun j u hu => by
    have hj : j < xs.length := by
      rcases Nat.lt_or_ge j xs.length with h1 | h1
      · exact h1
      · rw [List.getElem?_eq_none (by simp [nvs]; exact h1)] at hu; cases hu
    have e : u = .int .i64 (nth xs j) := by simp [nvs, hj] at hu; simp [nth, hj, ← hu]
    have := h j hj
    rw [e, ← this]
    by_cases h0 : j = 0
    · subst h0; simp [Addr.add]
    · simp [Addr.add, h0]⟩⟩
theorem Seg.drop8 {w : World} {g off : Nat} {xs : List Int} (h : Seg w g off xs) (j : Nat) : Seg w g (off + j) (xs.drop j) := fun i hi => by
  have hi' : j + i < xs.length := by simp at hi; omega
  have := h (j + i) hi'
  rw [show off + j + i = off + (j + i) by omega, this]
  simp [nth, List.getElem?_drop]
theorem Seg.take8 {w : World} {g off : Nat} {xs : List Int} (h : Seg w g off xs) (j : Nat) : Seg w g off (xs.take j) := fun i hi => by
  have hi' : i < xs.length ∧ i < j := by simp at hi; omega
  rw [h i hi'.1]
  simp [nth, hi'.2]
theorem SrcAt.none8 (w : World) (ao : Option Addr) : SrcAt w 1 ao 0 [] := ⟨by simp, fun u hu => (by cases hu), Or.inl rfl⟩

theorem one_src8 {w : World} {n : Nat} {v : Int} (hb : w.heap[n]? = some (.cells #[.int .i64 v] 2 (0, 0))) : SrcAt w 1 (some ⟨n, 0, none⟩) 1 (nvs [v]) :=
  ⟨rfl, fun u hu => by simp [nvs] at hu; rw [hu]; rfl, Or.inr ⟨_, rfl, World.news_of_block (cs := #[.int .i64 v]) hb⟩⟩
theorem put_lit8 {base : Nat} (w3 : World) (X : Obj) (hb : base ≤ w3.heap.size) : ((w3.alloc X).alloc (.cells #[] 2)).drew.ownsRow base 2 1 (.slice (some ⟨w3.heap.size + 1, 0, none⟩) 0 0) 0 [] := by
  have := World.ownsRow_lit (base := base) (e := 2) (size := 1) (w3.alloc X) #[] 0 (by simp; omega) (Nat.zero_le _) rfl
  rw [show (w3.alloc X).heap.size = w3.heap.size + 1 by simp] at this
  exact World.ownsRow.drew this
/-- What holds all through a statement that puts a number into a row: the number's own cell, and all that was there. -/
def DN (w3 : World) (b o : Nat) (u : Value) (w' : World) : Prop := w'.cell? ⟨b, o, none⟩ = some u ∧ Below w3.heap.size w3 w'
theorem DN.of {w3 w' : World} {b o : Nat} {u : Value} (hq : b < w3.heap.size) (e0 : w3.cell? ⟨b, o, none⟩ = some u) (L : Below w3.heap.size w3 w') : DN w3 b o u w' :=
  ⟨(L.cell (p := ⟨b, o, none⟩) hq).trans e0, L⟩
theorem DN.grown {w3 w' w4 : World} {b o n : Nat} {u : Value} (hs : DN w3 b o u w') (hq : b < w3.heap.size) (hg : w'.grownBy w4 (some n)) (hn : w3.heap.size ≤ n) : DN w3 b o u w4 := by
  have hz := hs.2.size
  have L : Below w3.heap.size w' w4 := (Below.refl _ _).grown hg (by omega) (by intro k hk; cases hk; exact hn)
  exact ⟨(L.cell (p := ⟨b, o, none⟩) hq).trans hs.1, hs.2.trans L⟩

/-- Where a mark of a greater Id goes: behind all of no greater woven number. -/
theorem put_place {es : List (Int × Int)} {d : Int × Int} {j : Nat} (hj : j ≤ es.length) (hid : ∀ x ∈ es, x.2 < d.2) (h1 : ∀ i (h : i < es.length), i < j → es[i].1 ≤ d.1) (h2 : ∀ h : j < es.length, d.1 < es[j].1) : insBy plt d es = es.take j ++ d :: es.drop j := by
  have e := posBy_uniq plt d es j hj (fun i h hij => by
    rw [plt_iff]
    have a1 := h1 i h hij
    have a2 := hid _ (List.getElem_mem h)
    omega) (fun h => by
    rw [plt_not]
    have a1 := h2 h
    omega)
  have := insBy_eq plt d es
  rw [e] at this
  exact this
end Go.Proofs.Ytibkfdefoaimiaa
