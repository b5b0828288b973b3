/-
  The program's own hasId.
-/
import Derived.Test.YtgfcdfiekancnaaHM4
import Derived.Test.YtgfcdfiekancnaaArgs
namespace Go.Proofs.Ytgfcdfiekancnaa
open Go Go.RowKit

def hasH (hs : List Ht) (id : Int) : Bool := hasB (hs.map Prod.fst) id
theorem hasH_yes {hs : List Ht} {id : Int} {k : Nat} (hk : k < hs.length) (h : (hnth hs k).1 = id) : hasH hs id = true := by
  unfold hasH hasB
  rw [List.contains_iff_mem, ← h]
  exact List.mem_map_of_mem (hnth_mem hk)
theorem hasH_no {hs : List Ht} {id : Int} (h : ∀ j, j < hs.length → (hnth hs j).1 ≠ id) : hasH hs id = false := by
  rcases hb : hasH hs id with _ | _
  · rfl
  · unfold hasH hasB at hb
    rw [List.contains_iff_mem, List.mem_map] at hb
    obtain ⟨x, hx, e⟩ := hb
    obtain ⟨j, hj, e2⟩ := List.getElem_of_mem hx
    exact absurd (by rw [← e, ← e2]; simp [hnth, List.getD, hj]) (h j hj)

set_option maxHeartbeats 1000000 in
theorem iHas1 (q : Nat) (id : Int) (a : Ht) (w : World) (hq : q < w.heap.size) (hc : w.cell? ⟨q, 0, none⟩ = some (.int .i64 id)) :
    Calls Try.prog 84 #[.agg #[.int .i64 a.1, .int .i64 a.2], .pointer (some ⟨q, 0, none⟩)] w fun e w' => e = .returned (.bool (a.1 == id)) ∧ Below w.heap.size w w' := by
  have hB := (Below.refl w.heap.size w).alloc (Nat.le_refl _) (.cells #[.int .i64 a.1, .int .i64 a.2] 68)
  have hc2 : (w.alloc (.cells #[.int .i64 a.1, .int .i64 a.2] 68)).cell? ⟨q, 0, none⟩ = some (.int .i64 id) := (hB.cell (p := ⟨q, 0, none⟩) hq).trans hc
  go_enter Try.func84, Try.ntmps84
  go_wp2
  go_ret
  exact ⟨rfl, hB⟩

set_option maxHeartbeats 2000000 in
theorem iIndex (ao : Option Addr) (cap q : Nat) (id : Int) (hs : List Ht) (w : World) (hv : HView w ao hs) (hn : hs.length ≤ 1048576) (hq : q < w.heap.size) (hc : w.cell? ⟨q, 0, none⟩ = some (.int .i64 id)) :
    Calls Try.prog 90 #[.slice ao hs.length cap, .func (.func 84) #[] #[.pointer (some ⟨q, 0, none⟩)]] w fun e w' => (∃ r : Int, e = .returned (.int .i64 r) ∧ (0 ≤ r ↔ hasH hs id = true)) ∧ Below w.heap.size w w' := by
  go_enter Try.func90, Try.ntmps90
  go_wp2
  go_loopw [8] (fun i wr => ∃ k : Nat, k ≤ hs.length ∧ i = .int .i64 k ∧ (∀ j, j < k → (hnth hs j).1 ≠ id) ∧ Below w.heap.size w wr) (fun i _ => hs.length - (intOf i).toNat)
  case atStart => exact ⟨0, Nat.zero_le _, rfl, fun j hj => by omega, Below.refl _ _⟩
  case round =>
    obtain ⟨k, hk, rfl, hno, hb⟩ := hrel
    have HN := hidP hno
    have HB := hidP hb
    by_cases hlt : k < hs.length
    · obtain ⟨b, off, rfl, hbw, hseg⟩ := hv.seg (by omega)
      obtain ⟨hc0, hc1⟩ := hseg.below hbw hb k hlt
      have HC := hidP (iHas1 q id (hnth hs k) wr (Nat.lt_of_lt_of_le hq hb.size) ((hb.cell (p := ⟨q, 0, none⟩) hq).trans hc))
      clear hno hb hseg
      go_wp2_with fail
      refine HC.out.mono ?_
      rintro e w2 ⟨rfl, hb2⟩
      have HB2 := hidP (chain HB.out hb2)
      clear hb2
      by_cases he : (hnth hs k).1 = id
      · have he2 : ((hnth hs k).1 == id) = true := by simp [he]
        have HY := hidP (hasH_yes hlt he)
        rw [he2]
        clear he he2
        go_wp2
        go_ret
        exact ⟨⟨k, rfl, fun _ => HY.out, fun _ => by omega⟩, HB2.out⟩
      · have he2 : ((hnth hs k).1 == id) = false := by simp [he]
        have HX := hidP he
        rw [he2]
        clear he he2
        go_wp2
        go_roundw
        case rel => exact ⟨k + 1, by omega, by go_num, fun j hj => by
          rcases Nat.lt_or_ge j k with h | h
          · exact HN.out j h
          · rw [show j = k by omega]; exact HX.out, HB2.out⟩
        case measure => simp [intOf]; omega
    · clear hno hb
      go_wp2
      go_ret
      exact ⟨⟨-1, rfl, fun h => by omega, fun h => by rw [hasH_no (fun j hj => HN.out j (by omega))] at h; cases h⟩, HB.out⟩

set_option maxHeartbeats 1000000 in
theorem iContains (ao : Option Addr) (cap q : Nat) (id : Int) (hs : List Ht) (w : World) (hv : HView w ao hs) (hn : hs.length ≤ 1048576) (hq : q < w.heap.size) (hc : w.cell? ⟨q, 0, none⟩ = some (.int .i64 id)) :
    Calls Try.prog 83 #[.slice ao hs.length cap, .func (.func 84) #[] #[.pointer (some ⟨q, 0, none⟩)]] w fun e w' => e = .returned (.bool (hasH hs id)) ∧ Below w.heap.size w w' := by
  have HC := hidP (iIndex ao cap q id hs w hv hn hq hc)
  clear hv hc
  go_enter Try.func83, Try.ntmps83
  go_wp2_with fail
  refine HC.out.mono ?_
  rintro e w2 ⟨⟨r, rfl, hr⟩, hb⟩
  go_wp2
  go_ret
  exact ⟨ret_bool (by simp), hb⟩

set_option maxHeartbeats 1000000 in
theorem iHasId (ao : Option Addr) (cap : Nat) (id : Int) (hs : List Ht) (w : World) (hv : HView w ao hs) (hn : hs.length ≤ 1048576) :
    Calls Try.prog 72 #[.slice ao hs.length cap, .int .i64 id] w fun e w' => e = .returned (.bool (hasH hs id)) ∧ Below w.heap.size w w' := by
  have hB := (Below.refl w.heap.size w).alloc (Nat.le_refl _) (.cells #[.int .i64 id] 2)
  have HC := hidP (iContains ao cap w.heap.size id hs (w.alloc (.cells #[.int .i64 id] 2)) (hv.next hB) hn (by simp) (by simp))
  have HB := hidP hB
  clear hv hB
  go_enter Try.func72, Try.ntmps72
  go_wp2_with fail
  refine HC.out.mono ?_
  rintro e w2 ⟨rfl, hb⟩
  go_wp2
  go_ret
  exact ⟨rfl, chain HB.out hb⟩

end Go.Proofs.Ytgfcdfiekancnaa
