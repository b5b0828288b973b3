/-
  The program's allIn and marksNamed.
-/
import Derived.Test.YtbmljcpeonopmaaHSpecZz
import Derived.Test.YtbmljcpeonopmaaSCellsZz
import Derived.Test.YtbmljcpeonopmaaArgsZz
import Derived.Deep.CutRange
namespace Go.Proofs.Ytbmljcpeonopmaa
open Go Go.RowKit

set_option maxHeartbeats 400000 in
theorem pIndex (ao : Option Addr) (cap : Nat) (xs : List Int) (x : Int) (w : World) (hv : View w ao xs) (hn : xs.length ≤ 4194304) :
    Calls Try.prog 125 #[.slice ao xs.length cap, .int .i64 x] w fun e w' => (∃ r : Int, e = .returned (.int .i64 r) ∧ decide (0 ≤ r) = hasB xs x) ∧ w' = w := by
  go_enter Try.func125, Try.ntmps125
  go_wp2_with fail
  go_loop [8] (fun i => ∃ k : Nat, k ≤ xs.length ∧ i = .int .i64 k ∧ ∀ j, j < k → nth xs j ≠ x) (fun i => xs.length - (intOf i).toNat)
  case atStart => exact ⟨0, Nat.zero_le _, rfl, fun j hj => by omega⟩
  case round =>
    obtain ⟨k, hk, rfl, hall⟩ := hrel
    have HA := hidP hall
    clear hall
    by_cases hlt : k < xs.length
    · obtain ⟨b, off, rfl, hb, hs⟩ : ∃ b off, ao = some ⟨b, off, none⟩ ∧ b < w.heap.size ∧ Seg w b off xs := by
        rcases hv with h | h
        · subst h; simp at hlt
        · exact h
      have hc := hs k hlt
      by_cases he : nth xs k = x
      · have HV := hidP (contains_nth hlt he)
        have heb : (x == nth xs k) = true := by simp [he]
        clear he
        go_wp2_with fail
        go_ret
        exact ⟨⟨(k : Int), rfl, by rw [HV.out]; simp⟩, rfl⟩
      · have heb : (x == nth xs k) = false := by simp; exact fun e => he e.symm
        have HE := hidP he
        clear he
        go_wp2_with fail
        go_round
        case rel => exact ⟨k + 1, by omega, by go_num, fun j hj => by
          rcases Nat.lt_or_ge j k with h | h
          · exact HA.out j h
          · rw [show j = k by omega]; exact HE.out⟩
        case measure => simp [intOf]; omega
    · go_wp2_with fail
      go_ret
      obtain rfl : k = xs.length := by omega
      exact ⟨⟨-1, rfl, by rw [contains_none HA.out]; rfl⟩, rfl⟩

set_option maxHeartbeats 400000 in
theorem pHas (ao : Option Addr) (cap : Nat) (xs : List Int) (x : Int) (w : World) (hv : View w ao xs) (hn : xs.length ≤ 4194304) :
    Calls Try.prog 123 #[.slice ao xs.length cap, .int .i64 x] w fun e w' => e = .returned (.bool (hasB xs x)) ∧ w' = w := by
  have HI := hidP (pIndex ao cap xs x w hv hn)
  clear hv
  go_enter Try.func123, Try.ntmps123
  go_wp2_with fail
  refine HI.out.mono ?_
  rintro e w2 ⟨⟨r, rfl, hr⟩, hw⟩
  subst w2
  go_wp2_with fail
  go_ret
  exact ⟨ret_bool (by rw [← hr]), rfl⟩

def allB (ids all : List Int) : Bool := ids.all (fun x => hasB all x)
theorem allB_no {ids all : List Int} {k : Nat} (hk : k < ids.length) (h : hasB all (nth ids k) = false) : allB ids all = false := by
  simp only [allB, List.all_eq_false]
  refine ⟨ids[k], List.getElem_mem hk, ?_⟩
  have e : nth ids k = ids[k] := by simp [nth, List.getD, hk]
  rw [← e, h]; simp
theorem allB_yes {ids all : List Int} (h : ∀ j, j < ids.length → hasB all (nth ids j) = true) : allB ids all = true := by
  simp only [allB, List.all_eq_true]
  intro x hx
  obtain ⟨j, hj, rfl⟩ := List.getElem_of_mem hx
  have := h j hj
  simpa [nth, List.getD, hj] using this

def namedD (ds : List Sm) (ids : List Int) (k : Nat) : List Sm := (ds.take k).filter (fun d => hasB ids d.1)
theorem namedD_yes {ds : List Sm} {ids : List Int} {k : Nat} (hk : k < ds.length) (h : hasB ids (snth ds k).1 = true) : namedD ds ids (k + 1) = namedD ds ids k ++ [snth ds k] := by
  have e := snth_get hk
  rw [namedD, List.take_succ_eq_append_getElem hk, List.filter_append, ← e]
  simp [h, namedD]
theorem namedD_no {ds : List Sm} {ids : List Int} {k : Nat} (hk : k < ds.length) (h : hasB ids (snth ds k).1 = false) : namedD ds ids (k + 1) = namedD ds ids k := by
  have e := snth_get hk
  rw [namedD, List.take_succ_eq_append_getElem hk, List.filter_append, ← e]
  simp [h, namedD]
theorem namedD_len (ds : List Sm) (ids : List Int) (k : Nat) : (namedD ds ids k).length ≤ k := by
  have h1 := List.length_filter_le (fun d : Sm => hasB ids d.1) (ds.take k)
  have h2 : (ds.take k).length ≤ k := by simp; omega
  unfold namedD
  omega

end Go.Proofs.Ytbmljcpeonopmaa
