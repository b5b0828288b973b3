/-
  The program's own least and greatest of points, number by number: less, more, slices.Clone, end, lowest, highest.
-/
import Derived.Test.YthcjkneifkmkdaaBI0Zz
import Derived.Test.YthcjkneifkmkdaaBMarkZz
import Derived.Test.YthcjkneifkmkdaaAppendZz
import Derived.Lib.SliceRun
namespace Go.Proofs.Ythcjkneifkmkdaa
open Go Go.RowKit

def loP (P : Nat → List Int) (k : Nat) : Nat → Int
  | 0 => nth (P 0) k
  | j + 1 => min (nth (P (j + 1)) k) (loP P k j)
def hiP (P : Nat → List Int) (k : Nat) : Nat → Int
  | 0 => nth (P 0) k
  | j + 1 => max (nth (P (j + 1)) k) (hiP P k j)
/-- Of n numbers the first i as f says, the others as g says. -/
def mixL (f g : Nat → Int) (n i : Nat) : List Int := tabL (fun k => if k < i then f k else g k) n
theorem mixL_length (f g : Nat → Int) (n i : Nat) : (mixL f g n i).length = n := tabL_length _ _
theorem mixL_zero (f g : Nat → Int) (n : Nat) : mixL f g n 0 = tabL g n := by simp [mixL]
theorem mixL_all (f g : Nat → Int) (n : Nat) : mixL f g n n = tabL f n := by
  unfold mixL tabL
  exact List.map_congr_left fun k hk => by rw [if_pos (List.mem_range.1 hk)]
theorem mixL_at (f g : Nat → Int) (n i : Nat) (h : i < n) : nth (mixL f g n i) i = g i := by
  unfold mixL; rw [tabL_getD _ _ _ h, if_neg (by omega)]
theorem mixL_set (f g : Nat → Int) (n i : Nat) (h : i < n) : (mixL f g n i).set i (f i) = mixL f g n (i + 1) := by
  apply eq_of_nth
  · rw [List.length_set, mixL_length, mixL_length]
  · intro j hj
    rw [List.length_set, mixL_length] at hj
    have e : nth (mixL f g n (i + 1)) j = if j < i + 1 then f j else g j := tabL_getD _ _ _ hj
    have e2 : nth (mixL f g n i) j = if j < i then f j else g j := tabL_getD _ _ _ hj
    rw [e]
    by_cases hji : i = j
    · subst hji
      rw [if_pos (by omega)]
      simp [nth, List.getD, mixL_length, h]
    · have : nth ((mixL f g n i).set i (f i)) j = nth (mixL f g n i) j := by simp [nth, List.getD, hji]
      rw [this, e2]
      by_cases hlt : j < i
      · rw [if_pos hlt, if_pos (by omega)]
      · rw [if_neg hlt, if_neg (by omega)]

theorem seg_src {w : World} {b off : Nat} {xs : List Int} (h : Seg w b off xs) : SrcAt w 1 (some ⟨b, off, none⟩) xs.length (xs.map (Value.int .i64)) := by
  refine ⟨by simp, fun u hu => ?_, Or.inr ⟨_, rfl, fun j u hu => ?_⟩⟩
  · obtain ⟨x, _, rfl⟩ := List.mem_map.1 hu; rfl
  · rw [Go.WideShapes.add_plain]
    have hj : j < xs.length := by
      rcases Nat.lt_or_ge j xs.length with h1 | h1
      · exact h1
      · rw [List.getElem?_eq_none (by simpa using h1)] at hu; cases hu
    rw [h j hj, ← hu]
    simp [nth, List.getD, hj]

/-- m points of n numbers each, told by their places. -/
def PRow (w : World) (b off m n : Nat) (P : Nat → List Int) : Prop :=
  ∀ j, j < m → (P j).length = n ∧ ∃ b' o' c', w.cell? ⟨b, off + j, none⟩ = some (.slice (some ⟨b', o', none⟩) n c') ∧ b' < w.heap.size ∧ Seg w b' o' (P j)
theorem PRow.below {w w' : World} {b off m n : Nat} {P : Nat → List Int} (h : PRow w b off m n P) (hb : b < w.heap.size) (hw : Below w.heap.size w w') : PRow w' b off m n P := fun j hj => by
  obtain ⟨hl, b', o', c', hc, hb', hs⟩ := h j hj
  exact ⟨hl, b', o', c', (hw.cell (p := ⟨b, off + j, none⟩) hb).trans hc, Nat.lt_of_lt_of_le hb' hw.size, hs.below hb' hw⟩

set_option maxRecDepth 100000 in
set_option maxHeartbeats 400000 in
theorem pClone (b off cap : Nat) (xs : List Int) (w : World) (hs : Seg w b off xs) (hb : b < w.heap.size) (hn : xs.length ≤ 1048576) :
    Calls Try.prog 75 #[.slice (some ⟨b, off, none⟩) xs.length cap] w fun e w' => ∃ g c, e = .returned (.slice (some ⟨g, 0, none⟩) xs.length c) ∧ IRow w.heap.size w' g c xs ∧ Below w.heap.size w w' := by
  obtain ⟨j0, hj0, hy0, hy1, hy2⟩ := info_parts Try.info2
  have hA := alloc_below w (.cells #[] 2)
  have HR := hidP (IRow.start w w.heap.size (Nat.le_refl _))
  have HS := hidP (seg_src (hs.below hb hA))
  have HA := hidP hA
  have q49 : (binOp .eql 55 (.slice (some ⟨b, off, none⟩) xs.length cap) (.slice none 0 0)).run Try.prog w = .ok (.bool false) w := Lib.run_eql_slice_nil w 55 2 _ _ _ _ _ Try.underlying55
  clear hA hs
  go_enter Try.func75, Try.ntmps75
  go_wp2_with (at_builtin; refine wpList_append_at _ rfl (.tmp 5) (.tmp 6) 55 rfl w.heap.size 2 j0 _ 1 8 Try.underlying55 hj0 hy0 hy1 hy2 rfl (by omega) w.heap.size 0 0 [] rfl HR.out (some ⟨b, off, none⟩) xs.length cap (xs.map (Value.int .i64)) rfl HS.out (by unfold maxLen; omega) (by omega) (by simp) (w.heap.size + 1) (by simp) ?_; intro gg cc w4 hown hgrow hat hltt)
  go_ret
  exact ⟨gg, cc, rfl, IRow.of hown (by omega) (by simp), HA.out.grown hgrow (by simp) (by intro k hk; cases hk; omega)⟩

end Go.Proofs.Ythcjkneifkmkdaa
