/-
  The library's Chunk over bytes, for every loop body that leaves its two boxes as they lie.
-/
import Derived.RangeFuncNested
import Derived.RangeFuncBound
import Derived.RangeFuncCalls
import Derived.RangeFuncLeaves
import Derived.RangeFuncWrites
import Derived.Shelf.Abstract
import Derived.Shelf.RegionOpen
import Derived.WalkKit
import Derived.OwnWalkIn
import Derived.TacticsInMore
import Derived.LoopNIn
import Derived.LoopIn
import Derived.Test.YtaaagmgglolibaaPcSpecZz
import Derived.Test.YtaaagmgglolibaaORgnZz
namespace Go.Proofs.Ytaaagmgglolibaa
open Go Go.RowKit Go.Shelf

attribute [local go_sem] Oper.semAt_some

set_option maxHeartbeats 400000 in
theorem iChunk (B len cap : Nat) (z : Int) (w : World) (hz : 1 ≤ z) :
    Calls Try.prog 14 #[.slice (some ⟨B, 0, none⟩) len cap, .int .i64 z] w fun e w' => e = .returned (.func (.func 16) #[] #[.pointer (some ⟨w.heap.size, 0, none⟩), .pointer (some ⟨w.heap.size + 1, 0, none⟩)]) ∧ w' = (w.alloc (.cells #[.slice (some ⟨B, 0, none⟩) len cap] 34)).alloc (.cells #[.int .i64 z] 3) := by
  have hz' : ¬ (z < 1) := by omega
  go_enter Try.func14, Try.ntmps14
  go_wp2
  go_ret
  exact ⟨rfl, rfl⟩

/-- The pieces by their numbers. -/
def pcsL (m k : Nat) : List (Fin m) := (List.finRange m).take k
theorem pcsL_len {m k : Nat} (h : k ≤ m) : (pcsL m k).length = k := by simp [pcsL]; omega
theorem pcsL_succ {m k : Nat} (h : k < m) : pcsL m (k + 1) = pcsL m k ++ [⟨k, h⟩] := by
  unfold pcsL
  rw [List.take_succ_eq_append_getElem (by simp; exact h), List.getElem_finRange]
  rfl
theorem pcsL_all (m : Nat) : pcsL m m = List.finRange m := by
  unfold pcsL; exact List.take_of_length_le (by simp)
/-- How long a piece is. -/
def pcW (s : ByteArray) (z k : Nat) : Nat := min z (s.size - k * z)
def encP (B : Nat) (s : ByteArray) (z : Nat) (p : Fin (pcN s z)) : Array Value := #[.slice (some ⟨B, p.1 * z, none⟩) (pcW s z p.1) (pcW s z p.1)]

set_option maxRecDepth 100000 in
set_option maxHeartbeats 4000000 in
theorem chunk_in (F : Fence) (n : Nat) (hf : F.fn 16) (hro : F.round = none) (hn : 1 ≤ n) (l Bs Bn B cb z : Nat) (s : ByteArray) (hz : 0 < z) (hz2 : z ≤ 1000) (hs : s.size ≤ 100000) (hcb : s.size ≤ cb) (J Jx : List (Fin (pcN s z)) → World → Prop)
    (hD : ∀ pre W, J pre W → J pre W.drew)
    (hY : ∀ pre p W, J pre W → pre.length < pcN s z → YieldAt F (n - 1) Try.prog l (encP B s z p) W fun e W' =>
      (e = .returned (.bool true) ∧ J (pre ++ [p]) W' ∧ W'.heap[Bs]? = W.heap[Bs]? ∧ W'.heap[Bn]? = W.heap[Bn]?) ∨ (e = .returned (.bool false) ∧ Jx (pre ++ [p]) W'))
    (W : World) (hBs : W.heap[Bs]? = some (.cells #[.slice (some ⟨B, 0, none⟩) s.size cb] 34)) (hBn : W.heap[Bn]? = some (.cells #[.int .i64 (z : Int)] 3)) (h0 : J [] W) :
    CallsIn F n Try.prog 16 #[.func (.yield l) #[] #[], .pointer (some ⟨Bs, 0, none⟩), .pointer (some ⟨Bn, 0, none⟩)] W fun e W' => (∃ v, e = .returned v) ∧
      ((∃ ys, ys = pcsL (pcN s z) (pcN s z) ∧ J ys W') ∨ (∃ pre, True ∧ Jx pre W')) := by
  refine callsIn_of_wp Try.func16 rfl hf ?_ hro
  simp only [Try.ntmps16, List.size_toArray, List.length_cons, List.length_nil, Nat.reduceAdd, Nat.reduceSub, Array.replicate_succ, Array.replicate_zero, List.push_toArray, List.append_toArray, List.nil_append, List.cons_append]
  gi_wp2
  gi_loopw [4] (fun p wr => ∃ k : Nat, p = .int .i64 ((k * z : Nat) : Int) ∧ k ≤ pcN s z ∧ wr.heap[Bs]? = some (.cells #[.slice (some ⟨B, 0, none⟩) s.size cb] 34) ∧ wr.heap[Bn]? = some (.cells #[.int .i64 (z : Int)] 3) ∧ J (pcsL (pcN s z) k) wr)
    (fun p wr => s.size + z - (intOf p).toNat)
  case atStart => exact ⟨0, by simp, Nat.zero_le _, hBs, hBn, h0⟩
  case round =>
    obtain ⟨k, rfl, hk, hc, hc2, hJs⟩ := hrel
    have hcell : wr.cell? ⟨Bs, 0, none⟩ = some (.slice (some ⟨B, 0, none⟩) s.size cb) := by simp [World.cell?, hc]
    have hcell2 : wr.cell? ⟨Bn, 0, none⟩ = some (.int .i64 (z : Int)) := by simp [World.cell?, hc2]
    by_cases hlt : k * z < s.size
    · have hkN := (pcN_iff hz).2 hlt
      have HYk := hidS (fun V hV => hY (pcsL (pcN s z) k) ⟨k, hkN⟩ V hV (by rw [pcsL_len hk]; exact hkN))
      obtain ⟨a, ha⟩ : ∃ a, k * z = a := ⟨_, rfl⟩
      have HAE := hidS ha
      rw [ha] at hlt ⊢
      clear ha
      have hi0 : (0 : Int) ≤ (a : Int) := Int.natCast_nonneg _
      have hi1 : (a : Int) < (s.size : Int) := by omega
      have HD0 := hidS (hD _ _ hJs)
      clear hJs
      have hmix : Try.prog.follows .mixedOrders = true := by kernel_rfl
      have HPW : Hid ((if s.size - a < z then ((s.size - a : Nat) : Int) else (z : Int)) = ((pcW s z k : Nat) : Int)) := by
        show _ = _
        unfold pcW
        rw [HAE.out]
        split <;> omega
      have hpw : pcW s z k ≤ s.size - a ∧ 1 ≤ pcW s z k := by unfold pcW; rw [HAE.out]; omega
      obtain ⟨pw, hpe⟩ : ∃ pw, pcW s z k = pw := ⟨_, rfl⟩
      have HPE := hidS hpe
      rw [hpe] at HPW hpw
      clear hpe
      gi_wp2
      gi_region_o
      all_goals rw [HPW.out]
      all_goals clear HPW
      all_goals gi_wp2
      all_goals
        obtain ⟨fn, tmps, assign, body, hy, hR⟩ := HYk.out _ HD0.out
        dsimp only [encP] at hy
        rw [HAE.out, HPE.out] at hy
        rw [hy]
        gi_wp2
        refine hR.mono ?_
        rintro e W3 (⟨rfl, hJ3, hk3, hk4⟩ | ⟨rfl, hJx3⟩)
        · have hcell3 : W3.cell? ⟨Bn, 0, none⟩ = some (.int .i64 (z : Int)) := by
            have : W3.heap[Bn]? = some (.cells #[.int .i64 (z : Int)] 3) := hk4.trans hc2
            simp [World.cell?, this]
          have HNX : Hid (((k + 1) * z : Nat) = a + z) := by show _ = _; rw [Nat.succ_mul, HAE.out]
          clear hcell hcell2
          gi_wp2
          go_roundw
          case rel => exact ⟨k + 1, by rw [HNX.out]; go_num, by omega, hk3.trans hc, hk4.trans hc2, by rw [pcsL_succ hkN]; exact hJ3⟩
          case measure => simp [intOf]; omega
        · gi_wp2
          refine bodyPost_ret (results_none rfl _ _ _) rfl ?_
          exact ⟨⟨_, rfl⟩, .inr ⟨_, trivial, hJx3⟩⟩
    · have hkN : k = pcN s z := by
        have := mt (pcN_iff (s := s) (k := k) hz).1 hlt
        omega
      obtain ⟨a, ha⟩ : ∃ a, k * z = a := ⟨_, rfl⟩
      rw [ha] at hlt ⊢
      have hcond : ¬ ((a : Int) < (s.size : Int)) := by omega
      have HJ := hidS hJs
      clear ha hJs
      gi_wp2
      go_end0
      have HJ2 := HJ.out
      rw [hkN] at HJ2
      first | exact ⟨⟨_, rfl⟩, .inl ⟨_, rfl, HJ2⟩⟩ | exact ⟨⟨_, rfl⟩, .inl HJ2⟩

theorem chunk_stops (F : Fence) (n : Nat) (hf : F.fn 16) (hro : F.round = none) (hn : 1 ≤ n) (Bs Bn B cb z : Nat) (s : ByteArray) (hz : 0 < z) (hz2 : z ≤ 1000) (hs : s.size ≤ 100000) (hcb : s.size ≤ cb) (w : World)
    (hBs : w.heap[Bs]? = some (.cells #[.slice (some ⟨B, 0, none⟩) s.size cb] 34)) (hBn : w.heap[Bn]? = some (.cells #[.int .i64 (z : Int)] 3)) :
    SeqStopsK F n Try.prog 16 #[.pointer (some ⟨Bs, 0, none⟩), .pointer (some ⟨Bn, 0, none⟩)] (encP B s z) (fun W W' => W'.heap[Bs]? = W.heap[Bs]? ∧ W'.heap[Bn]? = W.heap[Bn]?) (fun ys => ys = pcsL (pcN s z) (pcN s z)) (fun _ => True) (pcN s z) w := by
  intro l J Jx W hW hJ hJx hY h0
  have b1 : Bs < w.heap.size := (Array.getElem?_eq_some_iff.1 hBs).1
  have b2 : Bn < w.heap.size := (Array.getElem?_eq_some_iff.1 hBn).1
  exact chunk_in F n hf hro hn l Bs Bn B cb z s hz hz2 hs hcb J Jx (fun pre V hV => hJ pre V V.drew none hV ⟨rfl, rfl, rfl, Nat.le_refl _, fun _ _ _ => rfl⟩ (fun r e => by cases e)) hY W ((hW.block Bs b1).trans hBs) ((hW.block Bn b2).trans hBn) h0
end Go.Proofs.Ytaaagmgglolibaa
