/-
  The given order of hits, the least of two, is a number there, HitsOk.
  A method that is called through an interface value, of the type of a pointer to hits: which function is entered, with what receiver. And the program's own ahead and Less.
-/
import Derived.Test.YtbmljcpeonopmaaHCellsZz
import Derived.Test.YtbmljcpeonopmaaMCopyZz
import Derived.Deep.RegionHeld3
import Derived.Laws.ByValue
namespace Go.Proofs.Ytbmljcpeonopmaa
open Go Go.RowKit

theorem ahead_lt {a b : Ht} (h : a.2 < b.2) : aheadB a b = true := by rw [aheadB_iff]; omega
theorem ahead_id {a b : Ht} (h : a.2 = b.2) (h' : a.1 < b.1) : aheadB a b = true := by rw [aheadB_iff]; omega
theorem ahead_far {a b : Ht} (h : ¬ a.2 < b.2) (h' : ¬ a.2 = b.2) : aheadB a b = false := by rw [aheadB_false]; unfold leH; omega
theorem ahead_no {a b : Ht} (h : a.2 = b.2) (h' : ¬ a.1 < b.1) : aheadB a b = false := by rw [aheadB_false]; unfold leH; omega

theorem contains_nth {xs : List Int} {k : Nat} {x : Int} (hk : k < xs.length) (h : nth xs k = x) : hasB xs x = true := by
  simp only [hasB, List.contains_iff_mem]
  have e : nth xs k = xs[k] := by simp [nth, List.getD, hk]
  rw [← h, e]
  exact List.getElem_mem hk
theorem contains_none {xs : List Int} {x : Int} (h : ∀ j, j < xs.length → nth xs j ≠ x) : hasB xs x = false := by
  rcases hb : hasB xs x with _ | _
  · rfl
  · simp only [hasB, List.contains_iff_mem] at hb
    obtain ⟨i, hi, e⟩ := List.getElem_of_mem hb
    exact absurd (by rw [← e]; simp [nth, List.getD, hi]) (h i hi)

set_option maxHeartbeats 400000 in
theorem sHas (ao : Option Addr) (cap : Nat) (xs : List Int) (x : Int) (w : World) (hv : View w ao xs) (hn : xs.length ≤ 4194304) :
    Calls Try.prog 109 #[.slice ao xs.length cap, .int .i64 x] w fun e w' => e = .returned (.bool (hasB xs x)) ∧ w' = w := by
  go_enter Try.func109, Try.ntmps109
  go_wp2
  go_loop [5] (fun i => ∃ k : Nat, k ≤ xs.length ∧ i = .int .i64 k ∧ ∀ j, j < k → nth xs j ≠ x) (fun i => xs.length - (intOf i).toNat)
  case atStart => exact ⟨0, Nat.zero_le _, rfl, fun j hj => by omega⟩
  case round =>
    obtain ⟨k, hk, rfl, hall⟩ := hrel
    have HA := hidP hall
    clear hall
    by_cases hlt : k < xs.length
    · obtain ⟨b, off, rfl, hb, hs⟩ : ∃ b off, ao = some ⟨b, off, none⟩ ∧ b < w.heap.size ∧ Seg w b off xs := by
        rcases hv with h | h
        · subst h; simp at hlt
        · exact h
      have hc := hs k hlt
      by_cases he : nth xs k = x
      · have HV := hidP (contains_nth hlt he)
        have heb : (nth xs k == x) = true := by simp [he]
        clear he
        go_wp2
        go_ret
        exact ⟨ret_bool HV.out.symm, rfl⟩
      · have heb : (nth xs k == x) = false := by simp [he]
        have HE := hidP he
        clear he
        go_wp2
        go_round
        case rel => exact ⟨k + 1, by omega, by go_num, fun j hj => by
          rcases Nat.lt_or_ge j k with h | h
          · exact HA.out j h
          · rw [show j = k by omega]; exact HE.out⟩
        case measure => simp [intOf]; omega
    · go_wp2
      go_ret
      obtain rfl : k = xs.length := by omega
      exact ⟨ret_bool (Eq.symm (contains_none HA.out)), rfl⟩

theorem hitOkAt_iff (hs : List Ht) (i : Nat) : hitOkAt hs i = true ↔ 1 ≤ (hnth hs i).1 ∧ 0 ≤ (hnth hs i).2 ∧ (i = 0 ∨ aheadB (hnth hs (i - 1)) (hnth hs i) = true) := by
  simp [hitOkAt, and_assoc]
theorem hitOkAt_false (hs : List Ht) (i : Nat) (h : ¬ (1 ≤ (hnth hs i).1 ∧ 0 ≤ (hnth hs i).2 ∧ (i = 0 ∨ aheadB (hnth hs (i - 1)) (hnth hs i) = true))) : hitOkAt hs i = false := by
  rcases hb : hitOkAt hs i with _ | _
  · rfl
  · exact absurd ((hitOkAt_iff hs i).1 hb) h

end Go.Proofs.Ytbmljcpeonopmaa
namespace Go.Proofs.Ytbmljcpeonopmaa
open Go Go.RowKit

def methodRow (P : Program) (t : TypeId) (name : String) : Option (Bool × Option (FuncId × Bool)) := ((P.info? t).bind fun i => i.methods.find? (·.name == name)).map fun m => (m.path.isEmpty, m.func)
theorem method_row {t : TypeId} {name : String} {f : FuncId} {b : Bool} (h : methodRow Try.prog t name = some (true, some (f, b))) : ∃ i m, Try.prog.info? t = some i ∧ i.methods.find? (·.name == name) = some m ∧ m.path.toList = [] ∧ m.func = some (f, b) := by
  unfold methodRow at h
  cases hi : Try.prog.info? t with
  | none => rw [hi] at h; cases h
  | some i =>
    rw [hi] at h
    cases hm : i.methods.find? (·.name == name) with
    | none => simp [hm] at h
    | some m =>
      simp [hm] at h
      exact ⟨i, m, rfl, hm, by simpa using h.1, h.2⟩
theorem wrap_nil (P : Program) (t : TypeId) (a : Addr) (s nm : String) (w : World) : Sem.run P (Builtin.ssaWrapNilChk_ #[t] t #[.pointer (some a), strVal s, strVal nm]) w = .ok (.pointer (some a)) w := rfl
theorem depth_all : Try.prog.types.size + 100 = 271 := by kernel_rfl
end Go.Proofs.Ytbmljcpeonopmaa
