import Derived.Test.YtaaagmgglolibaaGreatMathZz
import Derived.Test.YtaaagmgglolibaaGreatAppendZz
namespace Go.Proofs.YtaaagmgglolibaaGreat
open Go Go.RowKit
def Zi : List Ht -> List Value
 | [] => []
 | h :: hs => .int .i64 h.1 :: .int .i64 h.2 :: Zi hs
def Zca (w : World) (b off : Nat) (hs : List Ht) : Prop := ∀ i, i < hs.length -> w.cell? ⟨b, off + i * 2, none⟩ = some (.int .i64 (Zf hs i).1) /\ w.cell? ⟨b, off + i * 2 + 1, none⟩ = some (.int .i64 (Zf hs i).2)
def Z6 (w : World) (ao : Option Addr) (hs : List Ht) : Prop := hs = [] \/ ∃ b off, ao = some ⟨b, off, none⟩ /\ b < w.heap.size /\ Zca w b off hs
def Zy (base : Nat) (w : World) (g c : Nat) (hs : List Ht) : Prop := w.ownsRow base 66 2 (.slice (some ⟨g, 0, none⟩) hs.length c) hs.length (Zi hs)
theorem Zay (hs : List Ht) : (Zi hs).length = hs.length * 2 := by
 induction hs with
 | nil => rfl
 | cons d ds ih => simp [Zi, ih]; omega
theorem Z7 (ds es : List Ht) : Zi (ds ++ es) = Zi ds ++ Zi es := by
 induction ds with
 | nil => rfl
 | cons d ds ih => simp [Zi, ih]
theorem ZfW (ds : List Ht) (i : Nat) (h : i < ds.length) : (Zi ds)[i * 2]? = some (.int .i64 (Zf ds i).1) /\ (Zi ds)[i * 2 + 1]? = some (.int .i64 (Zf ds i).2) := by
 induction ds generalizing i with
 | nil => simp at h
 | cons d ds ih =>
   match i, h with
   | 0, _ => exact ⟨rfl, rfl⟩
   | k + 1, h =>
     have := ih k (by simpa using h)
     rw [show (k + 1) * 2 = k * 2 + 1 + 1 by omega]
     exact this
theorem Ze8 (hs : List Ht) : ∀ u ∈ Zi hs, u.oneCell' = true := by
 induction hs with
 | nil => intro u hu; cases hu
 | cons d ds ih =>
   intro u hu
   simp only [Zi, List.mem_cons] at hu
   rcases hu with rfl | rfl | hu
   · rfl
   · rfl
   · exact ih u hu
theorem ZjY (hs : List Ht) (k i : Nat) : Zf (hs.drop k) i = Zf hs (k + i) := by simp [Zf, List.getD]
theorem Zed (hs : List Ht) (k i : Nat) (h : i < k) : Zf (hs.take k) i = Zf hs i := by simp [Zf, List.getD, h]
theorem ZgY {hs : List Ht} {i : Nat} (h : i < hs.length) : Zf hs i ∈ hs := by simp [Zf, List.getD, h]
theorem hs_eq {hs ks : List Ht} (hl : hs.length = ks.length) (h : ∀ i, i < hs.length -> Zf hs i = Zf ks i) : hs = ks := by
 apply List.ext_getElem hl
 intro i h1 h2
 have := h i h1
 simpa [Zf, List.getD, h1, h2] using this
theorem Zca.below {w w' : World} {B b off : Nat} {hs : List Ht} (h : Zca w b off hs) (hb : b < B) (hw : Below B w w') : Zca w' b off hs := fun i hi =>
 ⟨(hw.cell (p := ⟨b, off + i * 2, none⟩) hb).trans (h i hi).1, (hw.cell (p := ⟨b, off + i * 2 + 1, none⟩) hb).trans (h i hi).2⟩
theorem Zca.drop {w : World} {b off : Nat} {hs : List Ht} (h : Zca w b off hs) (k : Nat) : Zca w b (off + k * 2) (hs.drop k) := fun i hi => by
 have := h (k + i) (by simp at hi; omega)
 rw [ZjY, show off + k * 2 + i * 2 = off + (k + i) * 2 by omega]
 exact this
theorem Zca.take {w : World} {b off : Nat} {hs : List Ht} (h : Zca w b off hs) (k : Nat) : Zca w b off (hs.take k) := fun i hi => by
 have hi2 : i < k /\ i < hs.length := by simp at hi; omega
 rw [Zed hs k i hi2.1]
 exact h i hi2.2
theorem Z6.below {w w' : World} {B : Nat} {ao : Option Addr} {hs : List Ht} (h : Z6 w ao hs) (hB : w.heap.size <= B) (hw : Below B w w') : Z6 w' ao hs := by
 rcases h with h | ⟨b, off, e, hb, hs⟩
 · exact Or.inl h
 · exact Or.inr ⟨b, off, e, Nat.lt_of_lt_of_le hb hw.size, hs.below (Nat.lt_of_lt_of_le hb hB) hw⟩
theorem Z6.next {w w' : World} {ao : Option Addr} {hs : List Ht} (h : Z6 w ao hs) (hw : Below w.heap.size w w') : Z6 w' ao hs := h.below (Nat.le_refl _) hw
theorem Z6.seg {w : World} {ao : Option Addr} {hs : List Ht} (h : Z6 w ao hs) (h0 : 0 < hs.length) : ∃ b off, ao = some ⟨b, off, none⟩ /\ b < w.heap.size /\ Zca w b off hs := by
 rcases h with h | h
 · subst h; simp at h0
 · exact h
theorem Zca.src {w : World} {b off : Nat} {hs : List Ht} (h : Zca w b off hs) (j : Nat) (u : Value) (hu : (Zi hs)[j]? = some u) : w.cell? ((⟨b, off, none⟩ : Addr).add j) = some u := by
 have hj : j < hs.length * 2 := by
  rcases Nat.lt_or_ge j (hs.length * 2) with h1 | h1
  · exact h1
  · rw [List.getElem?_eq_none (by rw [Zay]; exact h1)] at hu; cases hu
 rw [Go.WideShapes.add_plain]
 have hi : j / 2 < hs.length := by omega
 have hc := ZfW hs (j / 2) hi
 have hs := h (j / 2) hi
 rcases Nat.mod_two_eq_zero_or_one j with e | e
 · have ej : j = j / 2 * 2 := by omega
   rw [ej] at hu ⊢
   rw [hs.1]; rw [hc.1] at hu; exact hu
 · have ej : j = j / 2 * 2 + 1 := by omega
   rw [ej] at hu ⊢
   rw [<- Nat.add_assoc, hs.2]; rw [hc.2] at hu; exact hu
theorem Z6.src {w : World} {ao : Option Addr} {hs : List Ht} (h : Z6 w ao hs) : Zai w 2 ao hs.length (Zi hs) := by
 refine ⟨Zay hs, Ze8 hs, ?_⟩
 rcases h with h | ⟨b, off, rfl, _, hs⟩
 · subst h; exact Or.inl rfl
 · exact Or.inr ⟨_, rfl, hs.src⟩
theorem Zy.lt {base : Nat} {w : World} {g c : Nat} {hs : List Ht} (h : Zy base w g c hs) : base <= g /\ g < w.heap.size := World.ownsRow.lt h g rfl
theorem Zy.seg {base : Nat} {w : World} {g c : Nat} {hs : List Ht} (h : Zy base w g c hs) : Zca w g 0 hs := fun i hi => by
 have := ZfW hs i hi
 rw [Nat.zero_add, World.ownsRow.cellAt h _ (by omega), World.ownsRow.cellAt h _ (by omega)]
 exact this
theorem Zy.view {base : Nat} {w : World} {g c : Nat} {hs : List Ht} (h : Zy base w g c hs) : Z6 w (some ⟨g, 0, none⟩) hs := Or.inr ⟨g, 0, rfl, h.lt.2, h.seg⟩
theorem Zy.cap {base : Nat} {w : World} {g c : Nat} {hs : List Ht} (h : Zy base w g c hs) : hs.length <= c := by
 obtain ⟨_, ⟨h1, _⟩ | ⟨g', c', cur, h1, _, _, h2, _⟩⟩ := h
 · cases h1
 · injection h1 with e1 e2 e3
   omega
theorem Zy.mono {base base' : Nat} {w : World} {g c : Nat} {hs : List Ht} (h : Zy base w g c hs) (hb : base' <= base) : Zy base' w g c hs :=
 ⟨h.1, h.2.imp id fun ⟨g, cap, cur, h1, h2, h3⟩ => ⟨g, cap, cur, h1, Nat.le_trans hb h2, h3⟩⟩
theorem Zy.kept {base : Nat} {w w' : World} {g c : Nat} {r : Option Nat} {hs : List Ht} (h : Zy base w g c hs) (hg : w.grownBy w' r) (hr : some g ≠ r) : Zy base w' g c hs :=
 World.ownsRow.kept h hg (Or.inr hr)
theorem Zy.below {base B : Nat} {w w' : World} {g c : Nat} {hs : List Ht} (h : Zy base w g c hs) (hB : w.heap.size <= B) (hw : Below B w w') : Zy base w' g c hs :=
 World.ownsRow.kept h (row := none) ⟨hw.os, hw.tape, hw.output, hw.size, fun i hi _ => hw.block i (Nat.lt_of_lt_of_le hi hB)⟩ (Or.inr (by simp [Value.ownBlock]))
theorem Zy.start (w : World) (base : Nat) (hb : base <= w.heap.size) : Zy base (w.alloc (.cells #[] 66)) w.heap.size 0 [] := World.ownsRow_lit w #[] 0 hb (Nat.zero_le _) rfl
theorem Zy.of {base : Nat} {w : World} {g c n : Nat} {hs : List Ht} {xs : List Value} (h : w.ownsRow base 66 2 (.slice (some ⟨g, 0, none⟩) n c) n xs) (hn : n = hs.length) (hx : xs = Zi hs) : Zy base w g c hs := by
 subst hn hx; exact h
end Go.Proofs.YtaaagmgglolibaaGreat
