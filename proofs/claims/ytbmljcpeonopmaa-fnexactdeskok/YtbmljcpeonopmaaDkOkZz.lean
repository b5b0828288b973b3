/-
  A desk in memory; both DeskOk.
  The program's DeskOk.
-/
import Derived.Test.YtbmljcpeonopmaaDkBZz
import Derived.Test.YtbmljcpeonopmaaSsMarkZz
import Derived.Test.YtbmljcpeonopmaaStImpZz
import Derived.Test.YtbmljcpeonopmaaBMarkZz
import Derived.Test.YtbmljcpeonopmaaAppendZz
namespace Go.Proofs.Ytbmljcpeonopmaa
open Go Go.RowKit

/-- The six cells of a desk. -/
structure DkIn (v : Bool) (w : World) (X : Nat) (am aw aq : Option Addr) (cm cw cs : Nat) (wd : Int) (ms : List Mk) (d : Int) (ts : List Wb) (nx : Int) (ss : List ThS7) : Prop where
  lt : X < w.heap.size
  c0 : w.cell? ⟨X, 0, none⟩ = some (.int .i64 wd)
  c1 : w.cell? ⟨X, 1, none⟩ = some (.slice am ms.length cm)
  c2 : w.cell? ⟨X, 2, none⟩ = some (.int .i64 d)
  c3 : w.cell? ⟨X, 3, none⟩ = some (.slice aw ts.length cw)
  c4 : w.cell? ⟨X, 4, none⟩ = some (.int .i64 nx)
  c5 : w.cell? ⟨X, 5, none⟩ = some (.slice aq ss.length cs)
  mv : MView w am ms
  wv : WbView v w aw ts
  sv : TViewS7 w aq ss
theorem DkIn.box {v : Bool} {w : World} {am aw aq : Option Addr} {cm cw cs : Nat} {wd : Int} {ms : List Mk} {d : Int} {ts : List Wb} {nx : Int} {ss : List ThS7} {t : TypeId} (hm : MView w am ms) (hw : WbView v w aw ts) (hs : TViewS7 w aq ss) : DkIn v (w.alloc (.cells #[.int .i64 wd, .slice am ms.length cm, .int .i64 d, .slice aw ts.length cw, .int .i64 nx, .slice aq ss.length cs] t)) w.heap.size am aw aq cm cw cs wd ms d ts nx ss :=
  ⟨by simp, by simp, by simp, by simp, by simp, by simp, by simp, hm.next ((Below.refl _ _).alloc (Nat.le_refl _) _), hw.next ((Below.refl _ _).alloc (Nat.le_refl _) _), hs.next ((Below.refl _ _).alloc (Nat.le_refl _) _)⟩
theorem DkIn.below {v : Bool} {w w' : World} {X : Nat} {am aw aq : Option Addr} {cm cw cs : Nat} {wd : Int} {ms : List Mk} {d : Int} {ts : List Wb} {nx : Int} {ss : List ThS7} (h : DkIn v w X am aw aq cm cw cs wd ms d ts nx ss) (L : Below w.heap.size w w') : DkIn v w' X am aw aq cm cw cs wd ms d ts nx ss :=
  ⟨Nat.lt_of_lt_of_le h.lt L.size, (L.cell (p := ⟨X, 0, none⟩) h.lt).trans h.c0, (L.cell (p := ⟨X, 1, none⟩) h.lt).trans h.c1, (L.cell (p := ⟨X, 2, none⟩) h.lt).trans h.c2, (L.cell (p := ⟨X, 3, none⟩) h.lt).trans h.c3, (L.cell (p := ⟨X, 4, none⟩) h.lt).trans h.c4, (L.cell (p := ⟨X, 5, none⟩) h.lt).trans h.c5, h.mv.next L, h.wv.next L, h.sv.next L⟩
def dkB (wd : Int) (ms : List Mk) (d : Int) (ts : List Wb) (nx : Int) (ss : List ThS7) : Bool := stB wd ms d ts nx && ssB ss

set_option maxRecDepth 100000 in
set_option maxHeartbeats 4000000 in
theorem sDeskOk (v : Bool) (am aw aq : Option Addr) (cm cw cs : Nat) (wd : Int) (ms : List Mk) (d : Int) (ts : List Wb) (nx : Int) (ss : List ThS7) (w : World) (hm : MView w am ms) (hw : WbView v w aw ts) (hs : TViewS7 w aq ss) (hsm : StSmall ms ts) (hn : ss.length ≤ 1048576) :
    Calls Try.prog 20 #[.agg #[.int .i64 wd, .slice am ms.length cm, .int .i64 d, .slice aw ts.length cw, .int .i64 nx, .slice aq ss.length cs]] w fun e w' => e = .returned (.bool (dkB wd ms d ts nx ss)) ∧ Below w.heap.size w w' := by
  obtain ⟨W, hW⟩ : ∃ W, w.alloc (.cells #[.int .i64 wd, .slice am ms.length cm, .int .i64 d, .slice aw ts.length cw, .int .i64 nx, .slice aq ss.length cs] 57) = W := ⟨_, rfl⟩
  have hB : Below w.heap.size w W := by rw [← hW]; exact (Below.refl _ _).alloc (Nat.le_refl _) _
  have hI : DkIn v W w.heap.size am aw aq cm cw cs wd ms d ts nx ss := by rw [← hW]; exact DkIn.box hm hw hs
  have HC := hidP (sStateOk v am aw cm cw wd ms d ts nx W hI.mv hI.wv hsm)
  obtain ⟨b0, h0⟩ : ∃ b, stB wd ms d ts nx = b := ⟨_, rfl⟩
  rw [h0] at HC
  have HV : Hid (dkB wd ms d ts nx ss = (b0 && ssB ss)) := by show _ = _; rw [dkB, h0]
  have HB := hidP hB
  have HI := hidP hI
  have k0 := hI.c0
  have k1 := hI.c1
  have k2 := hI.c2
  have k3 := hI.c3
  have k4 := hI.c4
  clear hm hw hs hB hI hsm h0
  go_enter Try.func20, Try.ntmps20
  go_wp2_with fail
  refine HC.out.mono ?_
  rintro e w1 ⟨rfl, L1⟩
  clear hW k0 k1 k2 k3 k4
  have hI1 := HI.out.below L1
  have k5 := hI1.c5
  have HI1 := hidP hI1
  have HB1 := hidP (chain HB.out L1)
  clear hI1 L1
  cases b0 with
  | false =>
    go_wp2_with fail
    go_ret
    exact ⟨ret_bool HV.out.symm, HB1.out⟩
  | true =>
    by_cases h8 : 8 < ss.length
    · have HV2 : Hid (dkB wd ms d ts nx ss = false) := by show _ = _; rw [HV.out, ssB_long h8]; rfl
      go_wp2_with fail
      go_ret
      exact ⟨ret_bool HV2.out.symm, HB1.out⟩
    · have H8 := hidP h8
      go_wp2_with fail
      clear k5 h8
      go_loopw [3] (fun i wr => ∃ k : Nat, k ≤ ss.length ∧ i = .int .i64 k ∧ (∀ j, j < k → ssAt ss j = true) ∧ Below w1.heap.size w1 wr) (fun i _ => ss.length - (intOf i).toNat)
      case atStart => exact ⟨0, Nat.zero_le _, rfl, fun j hj => by omega, Below.refl _ _⟩
      case round =>
        obtain ⟨k, hk, rfl, hall, L⟩ := hrel
        have HA := hidP hall
        have HL := hidP L
        have hIr := HI1.out.below L
        have hc5 := hIr.c5
        have hxl := hIr.lt
        clear hall L
        by_cases hlt : k < ss.length
        · obtain ⟨b, off, rfl, hb, hseg⟩ := hIr.sv.seg (by omega)
          obtain ⟨q0, q1, q2⟩ := hseg k hlt
          have hi0 : (0 : Int) ≤ (k : Int) := Int.natCast_nonneg _
          have hi1 : (k : Int) < (ss.length : Int) := by omega
          have hk9 : k < 9 := by have := H8.out; omega
          have HO : Hid (ssAt ss k = false → dkB wd ms d ts nx ss = false) := fun h => by rw [HV.out, ssB_out hlt h]; rfl
          have HAT : Hid (ssAt ss k = (inR (tnthS7 ss k).1 0 7 && (inR (tnthS7 ss k).2.1 1 1000000 && (inR (tnthS7 ss k).2.2 (-1) 1000000 && (decide (k = 0) || decide ((tnthS7 ss (k - 1)).1 < (tnthS7 ss k).1)))))) := rfl
          have HP : Hid (∀ j, j < ss.length → wr.cell? ⟨b, off + j * 3, none⟩ = some (.int .i64 (tnthS7 ss j).1)) := fun j hj => (hseg j hj).1
          obtain ⟨cl, hcl⟩ : ∃ x, (tnthS7 ss k).1 = x := ⟨_, rfl⟩
          obtain ⟨sq, hsq⟩ : ∃ x, (tnthS7 ss k).2.1 = x := ⟨_, rfl⟩
          obtain ⟨rp, hrp⟩ : ∃ x, (tnthS7 ss k).2.2 = x := ⟨_, rfl⟩
          rw [hcl, hsq, hrp] at HAT
          rw [hcl] at q0
          rw [hsq] at q1
          rw [hrp] at q2
          clear hcl hsq hrp
          obtain ⟨V, hV⟩ : ∃ V, wr.alloc (.cells #[.int .i64 cl, .int .i64 sq, .int .i64 rp] 92) = V := ⟨_, rfl⟩
          have LV : Below wr.heap.size wr V := by rw [← hV]; exact (Below.refl _ _).alloc (Nat.le_refl _) _
          have y0 : V.cell? ⟨wr.heap.size, 0, none⟩ = some (.int .i64 cl) := by rw [← hV]; simp
          have y1 : V.cell? ⟨wr.heap.size, 1, none⟩ = some (.int .i64 sq) := by rw [← hV]; simp
          have y2 : V.cell? ⟨wr.heap.size, 2, none⟩ = some (.int .i64 rp) := by rw [← hV]; simp
          have v5 := (LV.cell (p := ⟨w.heap.size, 5, none⟩) hxl).trans hc5
          have HVV := hidP hV
          have HLV := hidP (chain HL.out LV)
          have HPV : Hid (∀ j, j < ss.length → V.cell? ⟨b, off + j * 3, none⟩ = some (.int .i64 (tnthS7 ss j).1)) := fun j hj => (LV.cell (p := ⟨b, off + j * 3, none⟩) hb).trans (HP.out j hj)
          clear hIr hseg hV LV
          go_upto_region 7 with fail
          rw [HVV.out]
          clear hc5 q0 q1 q2
          rcases a0 : inR cl 0 7 with _ | _
          · go_quiet (first | (go_at_call 46; exact Calls.quiet_of_same (sIn _ _ _ _)))
            go_wp2
            go_ret
            exact ⟨ret_bool (HO.out (by rw [HAT.out, a0]; rfl)).symm, chain HB1.out (chain HLV.out (below_drewN (Below.refl _ _) _))⟩
          · rcases a1 : inR sq 1 1000000 with _ | _
            · go_quiet (first | (go_at_call 46; exact Calls.quiet_of_same (sIn _ _ _ _)))
              go_wp2
              go_ret
              exact ⟨ret_bool (HO.out (by rw [HAT.out, a0, a1]; rfl)).symm, chain HB1.out (chain HLV.out (below_drewN (Below.refl _ _) _))⟩
            · rcases a2 : inR rp (-1) 1000000 with _ | _
              · go_quiet (first | (go_at_call 46; exact Calls.quiet_of_same (sIn _ _ _ _)))
                go_wp2
                go_ret
                exact ⟨ret_bool (HO.out (by rw [HAT.out, a0, a1, a2]; rfl)).symm, chain HB1.out (chain HLV.out (below_drewN (Below.refl _ _) _))⟩
              · rcases Nat.eq_zero_or_pos k with h0 | h0
                · subst h0
                  have HY : Hid (ssAt ss 0 = true) := by show _ = _; rw [HAT.out, a0, a1, a2]; rfl
                  go_quiet (first | (go_at_call 46; exact Calls.quiet_of_same (sIn _ _ _ _)))
                  go_wp2
                  go_roundw
                  case rel => exact ⟨1, by omega, by go_num, fun j hj => by rw [show j = 0 by omega]; exact HY.out, chain HLV.out (below_drewN (Below.refl _ _) _)⟩
                  case measure => simp [intOf]; omega
                · obtain ⟨j, rfl⟩ : ∃ j, k = j + 1 := ⟨k - 1, by omega⟩
                  have he0 := HPV.out j (by omega)
                  have hj1 : (j : Int) < (ss.length : Int) := by omega
                  have hwr : IntKind.i64.wrap (((j + 1 : Nat) : Int) - 1) = j := by rw [IntWalk.i64_in _ ⟨by omega, by omega⟩]; omega
                  have hwr2 : IntKind.i64.wrap ((j : Int) + 1 - 1) = j := by rw [IntWalk.i64_in _ ⟨by omega, by omega⟩]; omega
                  have hg : (0 : Int) < ((j + 1 : Nat) : Int) := by omega
                  by_cases hr : cl ≤ (tnthS7 ss j).1
                  · have HN : Hid (ssAt ss (j + 1) = false) := by show _ = _; rw [HAT.out, a0, a1, a2]; simp; omega
                    go_quiet (first | (go_at_call 46; exact Calls.quiet_of_same (sIn _ _ _ _)))
                    go_wp2
                    go_ret
                    exact ⟨ret_bool (HO.out HN.out).symm, chain HB1.out (chain HLV.out (below_drewN (Below.refl _ _) _))⟩
                  · have HY : Hid (ssAt ss (j + 1) = true) := by show _ = _; rw [HAT.out, a0, a1, a2]; simp; omega
                    go_quiet (first | (go_at_call 46; exact Calls.quiet_of_same (sIn _ _ _ _)))
                    go_wp2
                    go_roundw
                    case rel => exact ⟨j + 1 + 1, by omega, by go_num, fun i hi => by
                      rcases Nat.lt_or_ge i (j + 1) with h | h
                      · exact HA.out i h
                      · rw [show i = j + 1 by omega]; exact HY.out, chain HLV.out (below_drewN (Below.refl _ _) _)⟩
                    case measure => simp [intOf]; omega
        · obtain rfl : k = ss.length := by omega
          have HV2 : Hid (dkB wd ms d ts nx ss = true) := by show _ = _; rw [HV.out, (ssB_iff ss).2 ⟨by have := H8.out; omega, HA.out⟩]; rfl
          clear hIr
          go_wp2_with fail
          go_ret
          exact ⟨ret_bool HV2.out.symm, chain HB1.out HL.out⟩

set_option maxHeartbeats 400000 in
theorem pRiseC (ao : Option Addr) (cap : Nat) (l : List Int) (w : World) (hv : View w ao l) (hn : l.length ≤ 1048576) :
    Calls Try.prog 84 #[.slice ao l.length cap, .int .i64 0, .int .i64 7] w fun e w' => e = .returned (.bool (upC l)) ∧ w' = w := by
  go_enter Try.func84, Try.ntmps84
  go_wp2
  go_loop [1, 11] (fun lo i => ∃ k : Nat, k ≤ l.length ∧ i = .int .i64 k ∧ lo = .int .i64 (lowC l k) ∧ ∀ j, j < k → lowC l j ≤ nth l j ∧ nth l j ≤ 7) (fun _ i => l.length - (intOf i).toNat)
  case atStart => exact ⟨0, Nat.zero_le _, rfl, rfl, fun j hj => by omega⟩
  case round =>
    obtain ⟨k, hk, rfl, rfl, hkeep⟩ := hrel
    have HK := hidP hkeep
    have hlo := lowC_ok hkeep
    clear hkeep
    obtain ⟨lo, hlow⟩ : ∃ lo, lowC l k = lo := ⟨_, rfl⟩
    rw [hlow] at hlo
    rw [hlow]
    have HLO := hidP hlow
    clear hlow
    by_cases hlt : k < l.length
    · obtain ⟨b, off, rfl, hb, hs⟩ : ∃ b off, ao = some ⟨b, off, none⟩ ∧ b < w.heap.size ∧ Seg w b off l := by
        rcases hv with h | h
        · subst h; simp at hlt
        · exact h
      have hc := hs k hlt
      by_cases ha : nth l k < lo
      · go_wp2
        go_ret
        exact ⟨ret_bool (Eq.symm (upC_no hlt (Or.inl (by rw [HLO.out]; exact ha)))), rfl⟩
      · by_cases hb : 7 < nth l k
        · go_wp2
          go_ret
          exact ⟨ret_bool (Eq.symm (upC_no hlt (Or.inr hb))), rfl⟩
        · go_wp2
          go_round
          case rel => exact ⟨k + 1, by omega, by go_num, by simp [lowC], fun j hj => by
            rcases Nat.lt_or_ge j k with e | e
            · exact HK.out j e
            · rw [show j = k by omega]; exact ⟨by rw [HLO.out]; omega, by omega⟩⟩
          case measure => simp [intOf]; omega
    · go_wp2
      go_ret
      obtain rfl : k = l.length := by omega
      exact ⟨ret_bool (Eq.symm ((upC_iff l).2 HK.out)), rfl⟩
end Go.Proofs.Ytbmljcpeonopmaa
namespace Go.Proofs.Ytbmljcpeonopmaa
open Go Go.RowKit

theorem clL_take {ss : List ThS7} {m : Nat} (h : m < ss.length) : clL (ss.take (m + 1)) = clL (ss.take m) ++ [(tnthS7 ss m).1] := by
  unfold clL
  rw [List.take_succ_eq_append_getElem h, List.map_append]
  simp only [List.map_cons, List.map_nil, tnthS7, List.getD, List.getElem?_eq_getElem h, Option.getD_some]
set_option maxRecDepth 100000 in
set_option maxHeartbeats 2000000 in
theorem iSessionsOk (ao : Option Addr) (cs : Nat) (ss : List ThS7) (w : World) (hv : TViewS7 w ao ss) (hn : ss.length ≤ 1048576) :
    Calls Try.prog 54 #[.slice ao ss.length cs] w fun e w' => e = .returned (.bool (ssB ss)) ∧ Below w.heap.size w w' := by
  obtain ⟨j0, hj0, hy0, hy1, hy2⟩ := info_parts Try.info2
  have HV := hidP hv
  clear hv
  go_enter Try.func54, Try.ntmps54
  go_wp2_with fail
  go_loopw [3, 9] (fun v k wr => ∃ (m g c l : Nat), m ≤ ss.length ∧ k = .int .i64 m ∧ v = .slice (some ⟨g, 0, none⟩) l c ∧ l = m ∧ IRow w.heap.size wr g c (clL (ss.take m)) ∧ (∀ j, j < m → rqAt ss j = true) ∧ Below w.heap.size w wr) (fun _ k _ => ss.length - (intOf k).toNat)
  case atStart => exact ⟨0, w.heap.size, 0, 0, Nat.zero_le _, rfl, rfl, rfl, IRow.start w _ (Nat.le_refl _), fun j hj => by omega, (Below.refl _ _).alloc (Nat.le_refl _) _⟩
  case round =>
    obtain ⟨m, g, c, l, hml, rfl, rfl, hl, hrow, hall, L⟩ := hrel
    have hgl := hrow.lt
    have hzg := L.size
    have HROW := hidP hrow
    have HL := hidP L
    have HA := hidP hall
    have HLE := hidP hl
    have hsv := HV.out.next L
    by_cases hlt : m < ss.length
    · obtain ⟨b, off, rfl, hb, hseg⟩ := hsv.seg (by omega)
      obtain ⟨q0, q1, q2⟩ := hseg m hlt
      have hm0 : (0 : Int) ≤ (m : Int) := Int.natCast_nonneg _
      have hm1 : (m : Int) < (ss.length : Int) := by omega
      have hm3 : l ≤ 1048576 := by omega
      have HRQ : Hid (rqAt ss m = (inR (tnthS7 ss m).2.1 1 1000000 && inR (tnthS7 ss m).2.2 (-1) 1000000)) := rfl
      obtain ⟨cl, hcl⟩ : ∃ x, (tnthS7 ss m).1 = x := ⟨_, rfl⟩
      obtain ⟨sq, hsq⟩ : ∃ x, (tnthS7 ss m).2.1 = x := ⟨_, rfl⟩
      obtain ⟨rp, hrp⟩ : ∃ x, (tnthS7 ss m).2.2 = x := ⟨_, rfl⟩
      have HCL := hidP hcl
      rw [hcl] at q0
      rw [hsq] at q1 HRQ
      rw [hrp] at q2 HRQ
      clear hcl hsq hrp hsv hseg hrow hall L hl
      obtain ⟨V, hV⟩ : ∃ V, wr.alloc (.cells #[.int .i64 cl, .int .i64 sq, .int .i64 rp] 92) = V := ⟨_, rfl⟩
      have LV : Below wr.heap.size wr V := by rw [← hV]; exact (Below.refl _ _).alloc (Nat.le_refl _) _
      have sV : V.heap.size = wr.heap.size + 1 := by rw [← hV]; simp
      have y0 : V.cell? ⟨wr.heap.size, 0, none⟩ = some (.int .i64 cl) := by rw [← hV]; simp
      have y1 : V.cell? ⟨wr.heap.size, 1, none⟩ = some (.int .i64 sq) := by rw [← hV]; simp
      have y2 : V.cell? ⟨wr.heap.size, 2, none⟩ = some (.int .i64 rp) := by rw [← hV]; simp
      have HLV := hidP (HL.out.trans (LV.mono hzg))
      have HRV : Hid (V.ownsRow w.heap.size 2 1 (.slice (some ⟨g, 0, none⟩) l c) l ((clL (ss.take m)).map (Value.int .i64))) := by
        have h := HROW.out.below LV
        unfold IRow at h
        rw [show (clL (ss.take m)).length = l by rw [clL_len, List.length_take, Nat.min_eq_left (by omega)]; exact HLE.out.symm] at h
        exact h
      have HVV := hidP hV
      have HU := hidP (fun W' => iUpTo sq W')
      have HSV := hidP sV
      obtain ⟨b1, hb1⟩ : ∃ x, inR sq 1 1000000 = x := ⟨_, rfl⟩
      rw [hb1] at HRQ HU
      clear hV LV hb1 sV
      go_upto_region 5 with fail
      rw [HVV.out]
      clear q0 q1 q2
      go_wp2_with fail
      refine (HU.out _).mono ?_
      rintro e w1 ⟨rfl, hw1⟩
      have hw2 := hw1.symm
      subst hw2
      cases b1 with
      | false =>
        have HB : Hid (ssB ss = false) := ss_bad hlt (by rw [HRQ.out]; rfl)
        go_wp2_with fail
        go_ret
        exact ⟨ret_bool HB.out.symm, HLV.out⟩
      | true =>
        by_cases hr1 : rp < -1
        · have HB : Hid (ssB ss = false) := ss_bad hlt (by rw [HRQ.out, inR_low (by omega)]; rfl)
          go_wp2_with fail
          go_ret
          exact ⟨ret_bool HB.out.symm, HLV.out⟩
        · by_cases hr2 : 1000000 < rp
          · have HB : Hid (ssB ss = false) := ss_bad hlt (by rw [HRQ.out, inR_high (by omega)]; rfl)
            go_wp2_with fail
            go_ret
            exact ⟨ret_bool HB.out.symm, HLV.out⟩
          · have HB : Hid (rqAt ss m = true) := by show _ = _; rw [HRQ.out, inR_true (by omega) (by omega)]; rfl
            skip
            have hVs := HLV.out.size
            have hgV : g < V.heap.size := by have := HSV.out; omega
            go_wp2_with (at_builtin; refine wpList_append_lies _ rfl (.tmp 27) (.tmp 30) 128 rfl w.heap.size 2 j0 _ 1 8 Try.underlying128 hj0 hy0 hy1 hy2 rfl (by omega) (.slice (some ⟨g, 0, none⟩) l c) l ((clL (ss.take m)).map (Value.int .i64)) rfl (World.ownsRow.alloc HRV.out _) ⟨V.heap.size, 0, none⟩ 1 1 [.int .i64 cl] rfl rfl (World.news_of_block (cs := #[.int .i64 cl]) (t := 2) (fr := (0, 0)) (heap_alloc_new V _)) (by simp [Value.oneCell']) (by omega) (by unfold maxLen; omega) (by omega) (by simp; omega) (V.heap.size + 1) (by simp) ?_; intro g8 c8 w8 hown hgrow hat8 hlt8)
            have HF8 : Hid (l + 1 = m + 1 ∧ IRow w.heap.size w8 g8 c8 (clL (ss.take (m + 1))) ∧ Below w.heap.size w w8) := by
              have hl := HLE.out
              refine ⟨by omega, ?_, ?_⟩
              · rw [clL_take hlt, HCL.out]
                exact IRow.of hown (by rw [List.length_append, clL_len, List.length_take, Nat.min_eq_left (by omega)]; simp; omega) (by simp)
              · refine (HLV.out.alloc HLV.out.size _).grown hgrow (by simp; have := HLV.out.size; omega) ?_
                intro q hq
                simp [Value.ownBlock] at hq
                omega
            clear hown hgrow hat8 hlt8
            go_wp2_with fail
            go_roundw
            case rel => exact ⟨m + 1, g8, c8, l + 1, by omega, by go_num, rfl, HF8.out.1, HF8.out.2.1, fun j hj => by
              rcases Nat.lt_or_ge j m with e | e
              · exact HA.out j e
              · rw [show j = m by omega]; exact HB.out, HF8.out.2.2⟩
            case measure => simp [intOf]; omega
    · obtain rfl : m = ss.length := by omega
      have hr := HROW.out
      rw [List.take_length] at hr
      have HC := hidP (pRiseC (some ⟨g, 0, none⟩) c (clL ss) wr hr.view (by rw [clL_len]; exact hn))
      rw [clL_len, ss_look HA.out] at HC
      have hll := HLE.out
      subst hll
      clear hr hrow hall L hsv hl
      go_wp2_with fail
      refine HC.out.mono ?_
      rintro e w2 ⟨rfl, hw2⟩
      subst w2
      go_wp2_with fail
      go_ret
      exact ⟨rfl, HL.out⟩

set_option maxRecDepth 100000 in
set_option maxHeartbeats 1000000 in
theorem iDeskOk (am aw aq : Option Addr) (cm cw cs : Nat) (wd : Int) (ms : List Mk) (d : Int) (ts : List Wb) (nx : Int) (ss : List ThS7) (w : World) (hm : MView w am ms) (hw : WbView true w aw ts) (hs : TViewS7 w aq ss) (hsm : StSmall ms ts) (hn : ss.length ≤ 1048576) :
    Calls Try.prog 22 #[.agg #[.int .i64 wd, .slice am ms.length cm, .int .i64 d, .slice aw ts.length cw, .int .i64 nx, .slice aq ss.length cs]] w fun e w' => e = .returned (.bool (dkB wd ms d ts nx ss)) ∧ Below w.heap.size w w' := by
  obtain ⟨W, hW⟩ : ∃ W, w.alloc (.cells #[.int .i64 wd, .slice am ms.length cm, .int .i64 d, .slice aw ts.length cw, .int .i64 nx, .slice aq ss.length cs] 57) = W := ⟨_, rfl⟩
  have hB : Below w.heap.size w W := by rw [← hW]; exact (Below.refl _ _).alloc (Nat.le_refl _) _
  have hI : DkIn true W w.heap.size am aw aq cm cw cs wd ms d ts nx ss := by rw [← hW]; exact DkIn.box hm hw hs
  have HC := hidP (iSessionsOk aq cs ss W hI.sv hn)
  have HS := hidP hsm
  obtain ⟨b0, h0⟩ : ∃ b, ssB ss = b := ⟨_, rfl⟩
  rw [h0] at HC
  have HV : Hid (dkB wd ms d ts nx ss = (b0 && stB wd ms d ts nx)) := by show _ = _; rw [dkB, h0, Bool.and_comm]
  have HB := hidP hB
  have HI := hidP hI
  have k5 := hI.c5
  clear hm hw hs hB hI hsm h0
  go_enter Try.func22, Try.ntmps22
  go_wp2_with fail
  refine HC.out.mono ?_
  rintro e w1 ⟨rfl, L1⟩
  clear hW k5
  have hI1 := HI.out.below L1
  have k0 := hI1.c0
  have k1 := hI1.c1
  have k2 := hI1.c2
  have k3 := hI1.c3
  have k4 := hI1.c4
  have HT := hidP (iStateOk am aw cm cw wd ms d ts nx w1 hI1.mv hI1.wv HS.out)
  have HB1 := hidP (chain HB.out L1)
  clear hI1 L1
  cases b0 with
  | false =>
    go_wp2_with fail
    go_ret
    exact ⟨ret_bool HV.out.symm, HB1.out⟩
  | true =>
    obtain ⟨b1, h1⟩ : ∃ b, stB wd ms d ts nx = b := ⟨_, rfl⟩
    rw [h1] at HT HV
    clear h1
    go_wp2_with fail
    refine HT.out.mono ?_
    rintro e w2 ⟨rfl, L2⟩
    have HB2 := hidP (chain HB1.out L2)
    clear L2 k0 k1 k2 k3 k4
    go_wp2_with fail
    go_ret
    exact ⟨ret_bool (by rw [HV.out]; rfl), HB2.out⟩
end Go.Proofs.Ytbmljcpeonopmaa
