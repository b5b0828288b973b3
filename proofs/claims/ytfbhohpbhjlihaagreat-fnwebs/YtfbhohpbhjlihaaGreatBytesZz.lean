/-
  The bytes of a draw, as the frame tells of them; big.
-/
import Derived.Test.YtfbhohpbhjlihaaGreatArgsZz
import Derived.Test.YtfbhohpbhjlihaaGreatMovedSZz
import Derived.Test.YtfbhohpbhjlihaaGreatMathZz
namespace Go.Proofs.YtfbhohpbhjlihaaGreat
open Go Go.RowKit

theorem IsRow.code {w : World} {a : Option Addr} {len cap : Nat} {zs : List Int} (h : IsRow .u8 w a len cap zs) : CodeV w a len ∧ len ≤ maxLen := by
  rcases h with ⟨rfl, rfl, rfl, rfl⟩ | ⟨x, rfl, hl, hm, hz, hcell, hwz⟩
  · exact ⟨Or.inl rfl, Nat.zero_le _⟩
  · refine ⟨?_, by omega⟩
    rcases Nat.eq_zero_or_pos len with h0 | h0
    · exact Or.inl h0
    · obtain ⟨b, off, spot⟩ := x
      have hc := hcell 0 (by omega)
      have hspot : spot = none := by simpa [Addr.add] using World.cell?_spot hc
      subst hspot
      refine Or.inr ⟨b, off, rfl, by simpa [Addr.add] using cell_lt hc, fun i hi => ?_⟩
      have hi2 : i < zs.length := by omega
      have h1 := hcell i hi2
      have hb := bounds_u8 (hwz (zs.getD i 0) (by simp [List.getD, hi2]))
      refine ⟨zs.getD i 0, hb.1, hb.2, ?_⟩
      by_cases h0 : i = 0
      · subst h0; simpa [Addr.add] using h1
      · simpa [Addr.add, h0] using h1

set_option maxHeartbeats 400000 in
theorem bigC (ao : Option Addr) (n cap : Nat) (w : World) :
    Calls Tryz.prog 11 #[.slice ao n cap] w fun e w' => e = .returned (.bool (decide (4096 < (n : Int)))) ∧ w = w' := by
  go_enter Tryz.func11, Tryz.ntmps11
  go_wp2
  go_ret
  exact ⟨rfl, rfl⟩

theorem ok_small {xs : List Int} (h1 : 1 ≤ xs.length) (h4 : xs.length ≤ 4) (h : ∀ x ∈ xs, -7 ≤ x ∧ x ≤ 7) : okB xs = true :=
  okB_mk h1 h4 (fun i hi => by
    have := h xs[i] (List.getElem_mem hi)
    have e : nth xs i = xs[i] := by simp [nth, List.getD, hi]
    rw [e]; omega)

theorem code_view {H : Type} {enc : TypeId × Value → H} {W : World} {n : Nat} {a : Option Addr} {len cap : Nat} {x : DataW H × List MemPlace} (h : DataW.trod enc Tryz.prog W 0 (fun _ => true) true n 22 [.slice a len cap] = some x) :
    CodeV W a len ∧ len ≤ maxLen := by
  rcases Go.ChangeShapes.open_ints Tryz.underlying22 Tryz.underlying5 (by kernel_rfl) h with ⟨hcs, _⟩ | ⟨y, l, c, zs, hcs, _, hl, hm, hz, _, hcell, hwz⟩
  · simp at hcs
    obtain ⟨rfl, rfl, rfl⟩ := hcs
    exact ⟨Or.inl rfl, Nat.zero_le _⟩
  · simp at hcs
    obtain ⟨rfl, rfl, rfl⟩ := hcs
    have hr : IsRow .u8 W (some y) len cap zs := .inr ⟨_, rfl, hl, hm, by simpa using hz, hcell, hwz⟩
    exact hr.code

end Go.Proofs.YtfbhohpbhjlihaaGreat
