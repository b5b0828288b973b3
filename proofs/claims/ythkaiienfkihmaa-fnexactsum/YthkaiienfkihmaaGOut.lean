/-
  What stays of rows of rows while other blocks are written over; rows of rows that are handed out.
-/
import Derived.Test.YthkaiienfkihmaaGList
namespace Go.Proofs.Ythkaiienfkihmaa
open Go Go.RowKit

theorem nums_length (rs : List Rw) : (nums rs).length = rs.length := by simp [nums]
theorem nums_snoc (rs : List Rw) (r : Rw) : nums (rs ++ [r]) = nums rs ++ [r.2.2] := by simp [nums]
theorem LRow.same {base : Nat} {w w' : World} {g c : Nat} {rs : List Rw} (h : LRow base w g c rs) (e : w'.heap[g]? = w.heap[g]?) : LRow base w' g c rs := by
  obtain ⟨h1, h2⟩ := h
  refine ⟨h1, ?_⟩
  rcases h2 with h2 | ⟨g', cp, cur, e1, h3, h4, h5⟩
  · exact Or.inl h2
  · have hg : g = g' := by injection e1 with e2; injection e2 with e2; injection e2
    subst hg
    exact Or.inr ⟨g, cp, cur, e1, h3, e.trans h4, h5⟩
theorem LMem.same {base : Nat} {w w' : World} {g c : Nat} {rs : List Rw} (h : LMem base w g c rs) (e : ∀ i, (i = g ∨ ∃ r ∈ rs, i = r.1) → w'.heap[i]? = w.heap[i]?) : LMem base w' g c rs :=
  ⟨h.row.same (e g (Or.inl rfl)), fun x hx => (h.rows x hx).same (e x.1 (Or.inr ⟨x, hx, rfl⟩)), h.apart, h.off⟩
theorem LMem.all {base : Nat} {w : World} {g c : Nat} {rs : List Rw} (h : LMem base w g c rs) : ∀ i, (i = g ∨ ∃ r ∈ rs, i = r.1) → base ≤ i ∧ i < w.heap.size := fun i hi => by
  rcases hi with rfl | ⟨r, hr, rfl⟩
  · exact h.row.lt
  · exact (h.rows r hr).lt
/-- Nothing, or a row of rows of the call's own. -/
def LOut (base : Nat) (w : World) (ao : Option Addr) (c : Nat) (rs : List Rw) : Prop := (ao = none ∧ c = 0 ∧ rs = []) ∨ ∃ g, ao = some ⟨g, 0, none⟩ ∧ LMem base w g c rs
theorem LOut.view {base : Nat} {w : World} {ao : Option Addr} {c : Nat} {rs : List Rw} (h : LOut base w ao c rs) : LView w ao (nums rs) := by
  rcases h with ⟨_, _, rfl⟩ | ⟨g, rfl, h⟩
  · exact Or.inl rfl
  · exact h.view
theorem LOut.below {base : Nat} {w w' : World} {ao : Option Addr} {c : Nat} {rs : List Rw} (h : LOut base w ao c rs) (hb : Below w.heap.size w w') : LOut base w' ao c rs :=
  h.imp id fun ⟨g, e, hm⟩ => ⟨g, e, hm.below hb⟩
theorem LOut.same {base : Nat} {w w' : World} {ao : Option Addr} {c : Nat} {rs : List Rw} (h : LOut base w ao c rs) (e : ∀ i, base ≤ i → i < w.heap.size → w'.heap[i]? = w.heap[i]?) : LOut base w' ao c rs :=
  h.imp id fun ⟨g, e1, hm⟩ => ⟨g, e1, hm.same fun i hi => e i (hm.all i hi).1 (hm.all i hi).2⟩
theorem nums_small {rs : List Rw} {R : List (List Int)} (h : nums rs = R) (hR : R.length ≤ 60 ∧ ∀ l ∈ R, l.length ≤ 4) : rs.length = R.length ∧ rs.length ≤ 60 ∧ ∀ r ∈ rs, r.2.2.length ≤ 4 := by
  subst h
  refine ⟨(nums_length rs).symm, by rw [← nums_length]; exact hR.1, fun r hr => hR.2 _ (List.mem_map_of_mem hr)⟩

set_option maxHeartbeats 400000 in
theorem markSS_nil (ao : Option Addr) (cap : Nat) (k0 : Int) (w : World) :
    Calls Try.prog 32 #[.slice ao 0 cap, .int .i64 k0] w fun e w' => e = .returned (.int .i64 k0) ∧ w' = w := by
  go_enter Try.func32, Try.ntmps32
  go_wp2
  refine wp_loop_rounds 1 ?_
  rw [rounds_succ]
  go_wp2
  go_ret
  exact ⟨rfl, rfl⟩
/-- What is handed out is marked: only its own blocks turn, and what it has then is told. -/
theorem markOL (base c : Nat) (ao : Option Addr) (rs : List Rw) (w : World) (h : LOut base w ao c rs) (hn : rs.length ≤ 60) (hat : ∀ r ∈ rs, r.2.2.length ≤ 4) :
    Calls Try.prog 32 #[.slice ao rs.length c, .int .i64 1] w fun e w' => e = .returned (.int .i64 (1 + totR rs)) ∧ LView w' ao (nums (mkRs 1 rs)) ∧ w'.os = w.os ∧ w'.tape = w.tape ∧ w'.output = w.output ∧ w.heap.size ≤ w'.heap.size ∧ ∀ i, i < w.heap.size → i < base → w'.heap[i]? = w.heap[i]? := by
  rcases h with ⟨rfl, rfl, rfl⟩ | ⟨g, rfl, hm⟩
  · refine (markSS_nil none 0 1 w).mono ?_
    rintro e w' ⟨rfl, rfl⟩
    exact ⟨rfl, Or.inl rfl, rfl, rfl, rfl, Nat.le_refl _, fun _ _ _ => rfl⟩
  · refine (markSS base g c rs 1 w hm hn hat (by omega) (by omega)).mono ?_
    rintro e w' ⟨rfl, hm', h1, h2, h3, h4, h5⟩
    exact ⟨rfl, hm'.view, h1, h2, h3, h4, fun i hi hb => h5 i hi (fun r hr e => by have := (hm.rows r hr).lt.1; omega)⟩

end Go.Proofs.Ythkaiienfkihmaa
