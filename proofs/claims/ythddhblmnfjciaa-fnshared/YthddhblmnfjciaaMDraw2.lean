/-
  The draws that the law of middles takes.
-/
import Derived.Test.YthddhblmnfjciaaMAny
import Derived.Test.YthddhblmnfjciaaBytes
import Derived.Test.YthddhblmnfjciaaMArgs
namespace Go.Proofs.Ythddhblmnfjciaa
open Go Go.RowKit

theorem code_view {H : Type} {enc : TypeId × Value → H} {W : World} {n : Nat} {a : Option Addr} {len cap : Nat} {x : DataW H × List MemPlace} (h : DataW.trod enc Try.prog W 0 (fun _ => true) true n 72 [.slice a len cap] = some x) :
    CodeV W a len ∧ len ≤ maxLen := by
  rcases Go.ChangeShapes.open_ints Try.underlying72 Try.underlying5 (by kernel_rfl) h with ⟨hcs, _⟩ | ⟨y, l, c, zs, hcs, _, hl, hm, hz, _, hcell, hwz⟩
  · simp at hcs
    obtain ⟨rfl, rfl, rfl⟩ := hcs
    exact ⟨Or.inl rfl, Nat.zero_le _⟩
  · simp at hcs
    obtain ⟨rfl, rfl, rfl⟩ := hcs
    have hr : IsRow .u8 W (some y) len cap zs := .inr ⟨_, rfl, hl, hm, by simpa using hz, hcell, hwz⟩
    exact hr.code

/-- What a draw of marks and a kind hands back, ready for a call. -/
def MGot (w : World) (g c : Nat) (ms : List Mk) : Prop := MView w (some ⟨g, 0, none⟩) ms ∧ MSmall ms ∧ ms.length ≤ c ∧ ms.length ≤ 60
theorem MNew.got {base : Nat} {w : World} {g c : Nat} {ms : List Mk} {most : Int} (h : MNew base w g c ms most) (hm : most ≤ 60) : MGot w g c ms := ⟨h.view, h.small hm, h.2.1, by have := h.1; omega⟩

end Go.Proofs.Ythddhblmnfjciaa
