/-
  A desk's sessions, as a plain list: when they are right.
  A desk in memory; both DeskOk.
  The laws' own helpers over a desk: szDesk, toDesk, eqDesk.
-/
import Derived.Test.YtbmljcpeonopmaaAppendZz
import Derived.Test.YtbmljcpeonopmaaMCopyZz
import Derived.Test.YtbmljcpeonopmaaSsCopyZz
import Derived.Test.YtbmljcpeonopmaaTwArgsZz
import Derived.Test.YtbmljcpeonopmaaBMarkZz
namespace Go.Proofs.Ytbmljcpeonopmaa
open Go Go.RowKit

def ssAt (ss : List ThS7) (i : Nat) : Bool := inR (tnthS7 ss i).1 0 7 && (inR (tnthS7 ss i).2.1 1 1000000 && (inR (tnthS7 ss i).2.2 (-1) 1000000 && (decide (i = 0) || decide ((tnthS7 ss (i - 1)).1 < (tnthS7 ss i).1))))
def ssB (ss : List ThS7) : Bool := decide (ss.length ≤ 8) && (List.range ss.length).all (ssAt ss)
theorem ssB_iff (ss : List ThS7) : ssB ss = true ↔ ss.length ≤ 8 ∧ ∀ i, i < ss.length → ssAt ss i = true := by simp [ssB]
theorem ssB_out {ss : List ThS7} {i : Nat} (h : i < ss.length) (e : ssAt ss i = false) : ssB ss = false := by
  rcases hb : ssB ss with _ | _
  · rfl
  · have := ((ssB_iff ss).1 hb).2 i h
    rw [e] at this; cases this
theorem ssB_long {ss : List ThS7} (h : 8 < ss.length) : ssB ss = false := by
  rcases hb : ssB ss with _ | _
  · rfl
  · have := ((ssB_iff ss).1 hb).1
    omega
/-- The clients, one after another. -/
def clL (ss : List ThS7) : List Int := ss.map (·.1)
theorem clL_len (ss : List ThS7) : (clL ss).length = ss.length := by simp [clL]
theorem clL_at {ss : List ThS7} {i : Nat} (h : i < ss.length) : nth (clL ss) i = (tnthS7 ss i).1 := by simp [nth, clL, tnthS7, List.getD, h]
/-- What the next number may not be below. -/
def lowC (l : List Int) (k : Nat) : Int := if k = 0 then 0 else nth l (k - 1) + 1
def upC (l : List Int) : Bool := (List.range l.length).all (fun k => decide (lowC l k ≤ nth l k) && decide (nth l k ≤ 7))
theorem upC_iff (l : List Int) : upC l = true ↔ ∀ k, k < l.length → lowC l k ≤ nth l k ∧ nth l k ≤ 7 := by simp [upC]
theorem upC_no {l : List Int} {k : Nat} (h : k < l.length) (e : nth l k < lowC l k ∨ 7 < nth l k) : upC l = false := by
  rcases hb : upC l with _ | _
  · rfl
  · have := (upC_iff l).1 hb k h
    omega
theorem lowC_ok {l : List Int} {k : Nat} (h : ∀ j, j < k → lowC l j ≤ nth l j ∧ nth l j ≤ 7) : 0 ≤ lowC l k ∧ lowC l k ≤ 8 := by
  induction k with
  | zero => simp [lowC]
  | succ k ih =>
    have h1 := ih (fun j hj => h j (by omega))
    have h2 := h k (by omega)
    have e : lowC l (k + 1) = nth l k + 1 := by simp [lowC]
    rw [e]
    omega
theorem lowC_ge {l : List Int} {k : Nat} (h : ∀ j, j < k → lowC l j ≤ nth l j ∧ nth l j ≤ 7) : (k : Int) ≤ lowC l k := by
  induction k with
  | zero => simp [lowC]
  | succ k ih =>
    have h1 := ih (fun j hj => h j (by omega))
    have h2 := h k (by omega)
    have e : lowC l (k + 1) = nth l k + 1 := by simp [lowC]
    rw [e]
    omega
def rqAt (ss : List ThS7) (i : Nat) : Bool := inR (tnthS7 ss i).2.1 1 1000000 && inR (tnthS7 ss i).2.2 (-1) 1000000
/-- How the program looks at them. -/
theorem ss_look {ss : List ThS7} (h : ∀ i, i < ss.length → rqAt ss i = true) : upC (clL ss) = ssB ss := by
  have hr : ∀ {x lo hi : Int}, inR x lo hi = true ↔ lo ≤ x ∧ x ≤ hi := fun {x lo hi} => ⟨fun h => inR_of h, fun h => inR_true h.1 h.2⟩
  rcases h1 : upC (clL ss) with _ | _
  · rcases h2 : ssB ss with _ | _
    · rfl
    · exfalso
      obtain ⟨-, hall⟩ := (ssB_iff ss).1 h2
      have : upC (clL ss) = true := (upC_iff _).2 (fun k hk => by
        rw [clL_len] at hk
        have hk' := hall k hk
        simp only [ssAt, Bool.and_eq_true, Bool.or_eq_true, decide_eq_true_eq] at hk'
        obtain ⟨a, -, -, d⟩ := hk'
        have a' := hr.1 a
        rw [clL_at hk]
        refine ⟨?_, a'.2⟩
        unfold lowC
        rcases d with rfl | d
        · rw [if_pos rfl]; exact a'.1
        · by_cases e : k = 0
          · rw [if_pos e]; exact a'.1
          · rw [if_neg e, clL_at (by omega)]; omega)
      rw [h1] at this; cases this
  · symm
    have hu := (upC_iff _).1 h1
    rw [clL_len] at hu
    refine (ssB_iff ss).2 ⟨?_, fun i hi => ?_⟩
    · have h3 := lowC_ge (l := clL ss) (k := ss.length) (fun j hj => hu j hj)
      have h4 := (lowC_ok (l := clL ss) (k := ss.length) (fun j hj => hu j hj)).2
      omega
    · have h3 := hu i hi
      have h4 := lowC_ok (l := clL ss) (k := i) (fun j hj => hu j (by omega))
      have h5 := h i hi
      simp only [rqAt, Bool.and_eq_true] at h5
      simp only [ssAt, Bool.and_eq_true, Bool.or_eq_true, decide_eq_true_eq]
      rw [clL_at hi] at h3
      refine ⟨inR_true (by omega) h3.2, h5.1, h5.2, ?_⟩
      by_cases e : i = 0
      · exact Or.inl e
      · have e2 : lowC (clL ss) i = (tnthS7 ss (i - 1)).1 + 1 := by unfold lowC; rw [if_neg e, clL_at (by omega)]
        exact Or.inr (by omega)
theorem ss_bad {ss : List ThS7} {i : Nat} (hi : i < ss.length) (h : rqAt ss i = false) : ssB ss = false := by
  refine ssB_out hi ?_
  rcases e : ssAt ss i with _ | _
  · rfl
  · simp only [ssAt, Bool.and_eq_true] at e
    simp only [rqAt, e.2.1, e.2.2.1] at h
    cases h
end Go.Proofs.Ytbmljcpeonopmaa
namespace Go.Proofs.Ytbmljcpeonopmaa
open Go Go.RowKit

/-- The six cells of a desk. -/
structure DkIn (v : Bool) (w : World) (X : Nat) (am aw aq : Option Addr) (cm cw cs : Nat) (wd : Int) (ms : List Mk) (d : Int) (ts : List Wb) (nx : Int) (ss : List ThS7) : Prop where
  lt : X < w.heap.size
  c0 : w.cell? ⟨X, 0, none⟩ = some (.int .i64 wd)
  c1 : w.cell? ⟨X, 1, none⟩ = some (.slice am ms.length cm)
  c2 : w.cell? ⟨X, 2, none⟩ = some (.int .i64 d)
  c3 : w.cell? ⟨X, 3, none⟩ = some (.slice aw ts.length cw)
  c4 : w.cell? ⟨X, 4, none⟩ = some (.int .i64 nx)
  c5 : w.cell? ⟨X, 5, none⟩ = some (.slice aq ss.length cs)
  mv : MView w am ms
  wv : WbView v w aw ts
  sv : TViewS7 w aq ss
theorem DkIn.box {v : Bool} {w : World} {am aw aq : Option Addr} {cm cw cs : Nat} {wd : Int} {ms : List Mk} {d : Int} {ts : List Wb} {nx : Int} {ss : List ThS7} {t : TypeId} (hm : MView w am ms) (hw : WbView v w aw ts) (hs : TViewS7 w aq ss) : DkIn v (w.alloc (.cells #[.int .i64 wd, .slice am ms.length cm, .int .i64 d, .slice aw ts.length cw, .int .i64 nx, .slice aq ss.length cs] t)) w.heap.size am aw aq cm cw cs wd ms d ts nx ss :=
  ⟨by simp, by simp, by simp, by simp, by simp, by simp, by simp, hm.next ((Below.refl _ _).alloc (Nat.le_refl _) _), hw.next ((Below.refl _ _).alloc (Nat.le_refl _) _), hs.next ((Below.refl _ _).alloc (Nat.le_refl _) _)⟩
theorem DkIn.below {v : Bool} {w w' : World} {X : Nat} {am aw aq : Option Addr} {cm cw cs : Nat} {wd : Int} {ms : List Mk} {d : Int} {ts : List Wb} {nx : Int} {ss : List ThS7} (h : DkIn v w X am aw aq cm cw cs wd ms d ts nx ss) (L : Below w.heap.size w w') : DkIn v w' X am aw aq cm cw cs wd ms d ts nx ss :=
  ⟨Nat.lt_of_lt_of_le h.lt L.size, (L.cell (p := ⟨X, 0, none⟩) h.lt).trans h.c0, (L.cell (p := ⟨X, 1, none⟩) h.lt).trans h.c1, (L.cell (p := ⟨X, 2, none⟩) h.lt).trans h.c2, (L.cell (p := ⟨X, 3, none⟩) h.lt).trans h.c3, (L.cell (p := ⟨X, 4, none⟩) h.lt).trans h.c4, (L.cell (p := ⟨X, 5, none⟩) h.lt).trans h.c5, h.mv.next L, h.wv.next L, h.sv.next L⟩
def dkB (wd : Int) (ms : List Mk) (d : Int) (ts : List Wb) (nx : Int) (ss : List ThS7) : Bool := stB wd ms d ts nx && ssB ss

set_option maxRecDepth 100000 in
set_option maxHeartbeats 4000000 in
theorem sDeskOk (v : Bool) (am aw aq : Option Addr) (cm cw cs : Nat) (wd : Int) (ms : List Mk) (d : Int) (ts : List Wb) (nx : Int) (ss : List ThS7) (w : World) (hm : MView w am ms) (hw : WbView v w aw ts) (hs : TViewS7 w aq ss) (hsm : StSmall ms ts) (hn : ss.length ≤ 1048576) :
    Calls Try.prog 20 #[.agg #[.int .i64 wd, .slice am ms.length cm, .int .i64 d, .slice aw ts.length cw, .int .i64 nx, .slice aq ss.length cs]] w fun e w' => e = .returned (.bool (dkB wd ms d ts nx ss)) ∧ Below w.heap.size w w' := by
  obtain ⟨W, hW⟩ : ∃ W, w.alloc (.cells #[.int .i64 wd, .slice am ms.length cm, .int .i64 d, .slice aw ts.length cw, .int .i64 nx, .slice aq ss.length cs] 57) = W := ⟨_, rfl⟩
  have hB : Below w.heap.size w W := by rw [← hW]; exact (Below.refl _ _).alloc (Nat.le_refl _) _
  have hI : DkIn v W w.heap.size am aw aq cm cw cs wd ms d ts nx ss := by rw [← hW]; exact DkIn.box hm hw hs
  have HC := hidP (sStateOk v am aw cm cw wd ms d ts nx W hI.mv hI.wv hsm)
  obtain ⟨b0, h0⟩ : ∃ b, stB wd ms d ts nx = b := ⟨_, rfl⟩
  rw [h0] at HC
  have HV : Hid (dkB wd ms d ts nx ss = (b0 && ssB ss)) := by show _ = _; rw [dkB, h0]
  have HB := hidP hB
  have HI := hidP hI
  have k0 := hI.c0
  have k1 := hI.c1
  have k2 := hI.c2
  have k3 := hI.c3
  have k4 := hI.c4
  clear hm hw hs hB hI hsm h0
  go_enter Try.func20, Try.ntmps20
  go_wp2_with fail
  refine HC.out.mono ?_
  rintro e w1 ⟨rfl, L1⟩
  clear hW k0 k1 k2 k3 k4
  have hI1 := HI.out.below L1
  have k5 := hI1.c5
  have HI1 := hidP hI1
  have HB1 := hidP (chain HB.out L1)
  clear hI1 L1
  cases b0 with
  | false =>
    go_wp2_with fail
    go_ret
    exact ⟨ret_bool HV.out.symm, HB1.out⟩
  | true =>
    by_cases h8 : 8 < ss.length
    · have HV2 : Hid (dkB wd ms d ts nx ss = false) := by show _ = _; rw [HV.out, ssB_long h8]; rfl
      go_wp2_with fail
      go_ret
      exact ⟨ret_bool HV2.out.symm, HB1.out⟩
    · have H8 := hidP h8
      go_wp2_with fail
      clear k5 h8
      go_loopw [3] (fun i wr => ∃ k : Nat, k ≤ ss.length ∧ i = .int .i64 k ∧ (∀ j, j < k → ssAt ss j = true) ∧ Below w1.heap.size w1 wr) (fun i _ => ss.length - (intOf i).toNat)
      case atStart => exact ⟨0, Nat.zero_le _, rfl, fun j hj => by omega, Below.refl _ _⟩
      case round =>
        obtain ⟨k, hk, rfl, hall, L⟩ := hrel
        have HA := hidP hall
        have HL := hidP L
        have hIr := HI1.out.below L
        have hc5 := hIr.c5
        have hxl := hIr.lt
        clear hall L
        by_cases hlt : k < ss.length
        · obtain ⟨b, off, rfl, hb, hseg⟩ := hIr.sv.seg (by omega)
          obtain ⟨q0, q1, q2⟩ := hseg k hlt
          have hi0 : (0 : Int) ≤ (k : Int) := Int.natCast_nonneg _
          have hi1 : (k : Int) < (ss.length : Int) := by omega
          have hk9 : k < 9 := by have := H8.out; omega
          have HO : Hid (ssAt ss k = false → dkB wd ms d ts nx ss = false) := fun h => by rw [HV.out, ssB_out hlt h]; rfl
          have HAT : Hid (ssAt ss k = (inR (tnthS7 ss k).1 0 7 && (inR (tnthS7 ss k).2.1 1 1000000 && (inR (tnthS7 ss k).2.2 (-1) 1000000 && (decide (k = 0) || decide ((tnthS7 ss (k - 1)).1 < (tnthS7 ss k).1)))))) := rfl
          have HP : Hid (∀ j, j < ss.length → wr.cell? ⟨b, off + j * 3, none⟩ = some (.int .i64 (tnthS7 ss j).1)) := fun j hj => (hseg j hj).1
          obtain ⟨cl, hcl⟩ : ∃ x, (tnthS7 ss k).1 = x := ⟨_, rfl⟩
          obtain ⟨sq, hsq⟩ : ∃ x, (tnthS7 ss k).2.1 = x := ⟨_, rfl⟩
          obtain ⟨rp, hrp⟩ : ∃ x, (tnthS7 ss k).2.2 = x := ⟨_, rfl⟩
          rw [hcl, hsq, hrp] at HAT
          rw [hcl] at q0
          rw [hsq] at q1
          rw [hrp] at q2
          clear hcl hsq hrp
          obtain ⟨V, hV⟩ : ∃ V, wr.alloc (.cells #[.int .i64 cl, .int .i64 sq, .int .i64 rp] 92) = V := ⟨_, rfl⟩
          have LV : Below wr.heap.size wr V := by rw [← hV]; exact (Below.refl _ _).alloc (Nat.le_refl _) _
          have y0 : V.cell? ⟨wr.heap.size, 0, none⟩ = some (.int .i64 cl) := by rw [← hV]; simp
          have y1 : V.cell? ⟨wr.heap.size, 1, none⟩ = some (.int .i64 sq) := by rw [← hV]; simp
          have y2 : V.cell? ⟨wr.heap.size, 2, none⟩ = some (.int .i64 rp) := by rw [← hV]; simp
          have v5 := (LV.cell (p := ⟨w.heap.size, 5, none⟩) hxl).trans hc5
          have HVV := hidP hV
          have HLV := hidP (chain HL.out LV)
          have HPV : Hid (∀ j, j < ss.length → V.cell? ⟨b, off + j * 3, none⟩ = some (.int .i64 (tnthS7 ss j).1)) := fun j hj => (LV.cell (p := ⟨b, off + j * 3, none⟩) hb).trans (HP.out j hj)
          clear hIr hseg hV LV
          go_upto_region 7 with fail
          rw [HVV.out]
          clear hc5 q0 q1 q2
          rcases a0 : inR cl 0 7 with _ | _
          · go_quiet (first | (go_at_call 46; exact Calls.quiet_of_same (sIn _ _ _ _)))
            go_wp2
            go_ret
            exact ⟨ret_bool (HO.out (by rw [HAT.out, a0]; rfl)).symm, chain HB1.out (chain HLV.out (below_drewN (Below.refl _ _) _))⟩
          · rcases a1 : inR sq 1 1000000 with _ | _
            · go_quiet (first | (go_at_call 46; exact Calls.quiet_of_same (sIn _ _ _ _)))
              go_wp2
              go_ret
              exact ⟨ret_bool (HO.out (by rw [HAT.out, a0, a1]; rfl)).symm, chain HB1.out (chain HLV.out (below_drewN (Below.refl _ _) _))⟩
            · rcases a2 : inR rp (-1) 1000000 with _ | _
              · go_quiet (first | (go_at_call 46; exact Calls.quiet_of_same (sIn _ _ _ _)))
                go_wp2
                go_ret
                exact ⟨ret_bool (HO.out (by rw [HAT.out, a0, a1, a2]; rfl)).symm, chain HB1.out (chain HLV.out (below_drewN (Below.refl _ _) _))⟩
              · rcases Nat.eq_zero_or_pos k with h0 | h0
                · subst h0
                  have HY : Hid (ssAt ss 0 = true) := by show _ = _; rw [HAT.out, a0, a1, a2]; rfl
                  go_quiet (first | (go_at_call 46; exact Calls.quiet_of_same (sIn _ _ _ _)))
                  go_wp2
                  go_roundw
                  case rel => exact ⟨1, by omega, by go_num, fun j hj => by rw [show j = 0 by omega]; exact HY.out, chain HLV.out (below_drewN (Below.refl _ _) _)⟩
                  case measure => simp [intOf]; omega
                · obtain ⟨j, rfl⟩ : ∃ j, k = j + 1 := ⟨k - 1, by omega⟩
                  have he0 := HPV.out j (by omega)
                  have hj1 : (j : Int) < (ss.length : Int) := by omega
                  have hwr : IntKind.i64.wrap (((j + 1 : Nat) : Int) - 1) = j := by rw [IntWalk.i64_in _ ⟨by omega, by omega⟩]; omega
                  have hwr2 : IntKind.i64.wrap ((j : Int) + 1 - 1) = j := by rw [IntWalk.i64_in _ ⟨by omega, by omega⟩]; omega
                  have hg : (0 : Int) < ((j + 1 : Nat) : Int) := by omega
                  by_cases hr : cl ≤ (tnthS7 ss j).1
                  · have HN : Hid (ssAt ss (j + 1) = false) := by show _ = _; rw [HAT.out, a0, a1, a2]; simp; omega
                    go_quiet (first | (go_at_call 46; exact Calls.quiet_of_same (sIn _ _ _ _)))
                    go_wp2
                    go_ret
                    exact ⟨ret_bool (HO.out HN.out).symm, chain HB1.out (chain HLV.out (below_drewN (Below.refl _ _) _))⟩
                  · have HY : Hid (ssAt ss (j + 1) = true) := by show _ = _; rw [HAT.out, a0, a1, a2]; simp; omega
                    go_quiet (first | (go_at_call 46; exact Calls.quiet_of_same (sIn _ _ _ _)))
                    go_wp2
                    go_roundw
                    case rel => exact ⟨j + 1 + 1, by omega, by go_num, fun i hi => by
                      rcases Nat.lt_or_ge i (j + 1) with h | h
                      · exact HA.out i h
                      · rw [show i = j + 1 by omega]; exact HY.out, chain HLV.out (below_drewN (Below.refl _ _) _)⟩
                    case measure => simp [intOf]; omega
        · obtain rfl : k = ss.length := by omega
          have HV2 : Hid (dkB wd ms d ts nx ss = true) := by show _ = _; rw [HV.out, (ssB_iff ss).2 ⟨by have := H8.out; omega, HA.out⟩]; rfl
          clear hIr
          go_wp2_with fail
          go_ret
          exact ⟨ret_bool HV2.out.symm, chain HB1.out HL.out⟩

set_option maxHeartbeats 400000 in
theorem pRiseC (ao : Option Addr) (cap : Nat) (l : List Int) (w : World) (hv : View w ao l) (hn : l.length ≤ 1048576) :
    Calls Try.prog 84 #[.slice ao l.length cap, .int .i64 0, .int .i64 7] w fun e w' => e = .returned (.bool (upC l)) ∧ w' = w := by
  go_enter Try.func84, Try.ntmps84
  go_wp2
  go_loop [1, 11] (fun lo i => ∃ k : Nat, k ≤ l.length ∧ i = .int .i64 k ∧ lo = .int .i64 (lowC l k) ∧ ∀ j, j < k → lowC l j ≤ nth l j ∧ nth l j ≤ 7) (fun _ i => l.length - (intOf i).toNat)
  case atStart => exact ⟨0, Nat.zero_le _, rfl, rfl, fun j hj => by omega⟩
  case round =>
    obtain ⟨k, hk, rfl, rfl, hkeep⟩ := hrel
    have HK := hidP hkeep
    have hlo := lowC_ok hkeep
    clear hkeep
    obtain ⟨lo, hlow⟩ : ∃ lo, lowC l k = lo := ⟨_, rfl⟩
    rw [hlow] at hlo
    rw [hlow]
    have HLO := hidP hlow
    clear hlow
    by_cases hlt : k < l.length
    · obtain ⟨b, off, rfl, hb, hs⟩ : ∃ b off, ao = some ⟨b, off, none⟩ ∧ b < w.heap.size ∧ Seg w b off l := by
        rcases hv with h | h
        · subst h; simp at hlt
        · exact h
      have hc := hs k hlt
      by_cases ha : nth l k < lo
      · go_wp2
        go_ret
        exact ⟨ret_bool (Eq.symm (upC_no hlt (Or.inl (by rw [HLO.out]; exact ha)))), rfl⟩
      · by_cases hb : 7 < nth l k
        · go_wp2
          go_ret
          exact ⟨ret_bool (Eq.symm (upC_no hlt (Or.inr hb))), rfl⟩
        · go_wp2
          go_round
          case rel => exact ⟨k + 1, by omega, by go_num, by simp [lowC], fun j hj => by
            rcases Nat.lt_or_ge j k with e | e
            · exact HK.out j e
            · rw [show j = k by omega]; exact ⟨by rw [HLO.out]; omega, by omega⟩⟩
          case measure => simp [intOf]; omega
    · go_wp2
      go_ret
      obtain rfl : k = l.length := by omega
      exact ⟨ret_bool (Eq.symm ((upC_iff l).2 HK.out)), rfl⟩
end Go.Proofs.Ytbmljcpeonopmaa
namespace Go.Proofs.Ytbmljcpeonopmaa
open Go Go.RowKit

def DkSmall (ms : List Mk) (ts : List Wb) (ss : List ThS7) : Prop := StSmall ms ts ∧ ss.length ≤ 1048576
theorem six_cells {w : World} {q : Nat} {a b c d e f : Value} {t : TypeId} (h : w.heap[q]? = some (.cells #[a, b, c, d, e, f] t)) : w.cell? ⟨q, 0, none⟩ = some a ∧ w.cell? ⟨q, 1, none⟩ = some b ∧ w.cell? ⟨q, 2, none⟩ = some c ∧ w.cell? ⟨q, 3, none⟩ = some d ∧ w.cell? ⟨q, 4, none⟩ = some e ∧ w.cell? ⟨q, 5, none⟩ = some f ∧ (∀ j, w.frozen? ⟨q, j, none⟩ = false) ∧ q < w.heap.size := by
  refine ⟨by simp [World.cell?, h], by simp [World.cell?, h], by simp [World.cell?, h], by simp [World.cell?, h], by simp [World.cell?, h], by simp [World.cell?, h], fun j => by simp [World.frozen?, h], ?_⟩
  rcases Nat.lt_or_ge q w.heap.size with e | e
  · exact e
  · rw [Array.getElem?_eq_none e] at h; cases h
theorem six_five {w : World} {q : Nat} {a b c d e f a' b' c' d' e' : Value} {t : TypeId} (h : w.heap[q]? = some (.cells #[a, b, c, d, e, f] t)) : (((((w.setCell ⟨q, 0, none⟩ a').setCell ⟨q, 1, none⟩ b').setCell ⟨q, 2, none⟩ c').setCell ⟨q, 3, none⟩ d').setCell ⟨q, 4, none⟩ e').heap[q]? = some (.cells #[a', b', c', d', e', f] t) := by
  simp [World.setCell, Array.getElem?_modify, h]
theorem six_all {w : World} {q : Nat} {a b c d e f a' b' c' d' e' f' : Value} {t : TypeId} (h : w.heap[q]? = some (.cells #[a, b, c, d, e, f] t)) : ((((((w.setCell ⟨q, 0, none⟩ a').setCell ⟨q, 1, none⟩ b').setCell ⟨q, 2, none⟩ c').setCell ⟨q, 3, none⟩ d').setCell ⟨q, 4, none⟩ e').setCell ⟨q, 5, none⟩ f').heap[q]? = some (.cells #[a', b', c', d', e', f'] t) := by
  simp [World.setCell, Array.getElem?_modify, h]
theorem six_far5 {w : World} {q b : Nat} {a' b' c' d' e' : Value} (h : b ≠ q) : (((((w.setCell ⟨q, 0, none⟩ a').setCell ⟨q, 1, none⟩ b').setCell ⟨q, 2, none⟩ c').setCell ⟨q, 3, none⟩ d').setCell ⟨q, 4, none⟩ e').heap[b]? = w.heap[b]? := by
  rw [Below.heap_setCell _ ⟨q, 4, none⟩ _ b h, Below.heap_setCell _ ⟨q, 3, none⟩ _ b h, Below.heap_setCell _ ⟨q, 2, none⟩ _ b h, Below.heap_setCell _ ⟨q, 1, none⟩ _ b h, Below.heap_setCell _ ⟨q, 0, none⟩ _ b h]
theorem six_far {w : World} {q b : Nat} {a' b' c' d' e' f' : Value} (h : b ≠ q) : ((((((w.setCell ⟨q, 0, none⟩ a').setCell ⟨q, 1, none⟩ b').setCell ⟨q, 2, none⟩ c').setCell ⟨q, 3, none⟩ d').setCell ⟨q, 4, none⟩ e').setCell ⟨q, 5, none⟩ f').heap[b]? = w.heap[b]? := by
  rw [Below.heap_setCell _ ⟨q, 5, none⟩ _ b h]; exact six_far5 h

set_option maxRecDepth 100000 in
set_option maxHeartbeats 1000000 in
theorem szDk (v : Bool) (am aw aq : Option Addr) (cm cw cs : Nat) (wd : Int) (ms : List Mk) (d : Int) (ts : List Wb) (nx : Int) (ss : List ThS7) (w : World) (hm : MView w am ms) (hw : WbView v w aw ts) (hs : TViewS7 w aq ss) (hf : StFit ms ts) (hn : ss.length ≤ maxLen) :
    Calls Try.prog 19 #[.agg #[.int .i64 wd, .slice am ms.length cm, .int .i64 d, .slice aw ts.length cw, .int .i64 nx, .slice aq ss.length cs], .int .i64 1048576] w fun e w' => ∃ r, e = .returned (.int .i64 r) ∧ r ≤ 1048576 ∧ (r < 0 ∨ DkSmall ms ts ss) ∧ Below w.heap.size w w' := by
  obtain ⟨W, hW⟩ : ∃ W, w.alloc (.cells #[.int .i64 wd, .slice am ms.length cm, .int .i64 d, .slice aw ts.length cw, .int .i64 nx, .slice aq ss.length cs] 52) = W := ⟨_, rfl⟩
  have hB : Below w.heap.size w W := by rw [← hW]; exact (Below.refl _ _).alloc (Nat.le_refl _) _
  have hI : DkIn v W w.heap.size am aw aq cm cw cs wd ms d ts nx ss := by rw [← hW]; exact DkIn.box hm hw hs
  have HC := hidP (szSt v am aw cm cw wd ms d ts nx W hI.mv hI.wv hf)
  have HS := hidP (fun (r : Int) (W' : World) (h0 : 0 ≤ r) (h1 : r ≤ 1048576) => szTSS7 aq ss.length cs r W' hn h0 h1)
  have HB := hidP hB
  have HI := hidP hI
  have HCU := hidP (fun (r : Int) (h0 : 0 ≤ r) (h1 : r ≤ 1048576) => cutV_le (left := r) ss.length (by omega) h1)
  have HCS := hidP (fun (r : Int) (h1 : r ≤ 1048576) (h : 0 ≤ cutV r ss.length) => cutV_small (left := r) (n := ss.length) h1 h)
  have k0 := hI.c0
  have k1 := hI.c1
  have k2 := hI.c2
  have k3 := hI.c3
  have k4 := hI.c4
  clear hm hw hs hB hI hf
  go_enter Try.func19, Try.ntmps19
  go_wp2_with fail
  refine HC.out.mono ?_
  rintro e w1 ⟨r, rfl, hr1, hr, L1⟩
  clear hW k0 k1 k2 k3 k4
  by_cases hneg : r < 0
  · go_wp2_with fail
    go_ret
    exact ⟨-1, rfl, by omega, Or.inl (by omega), chain HB.out L1⟩
  have hsm : StSmall ms ts := by rcases hr with h | h; exact absurd h hneg; exact h
  have HSM := hidP hsm
  have k5 := (HI.out.below L1).c5
  have HB1 := hidP (chain HB.out L1)
  have HS1 := hidP (HS.out r w1 (by omega) hr1)
  have h2 := HCU.out r (by omega) hr1
  have h3 := HCS.out r hr1
  obtain ⟨q, hq⟩ : ∃ q, cutV r ss.length = q := ⟨_, rfl⟩
  rw [hq] at HS1 h2 h3
  have H3 := hidP h3
  clear hr L1 hsm hq h3
  go_wp2_with fail
  refine HS1.out.mono ?_
  rintro e w2 ⟨rfl, hw2⟩
  have hw3 := hw2.symm
  subst hw3
  by_cases hneg2 : q < 0
  · go_wp2_with fail
    go_ret
    exact ⟨-1, rfl, by omega, Or.inl (by omega), HB1.out⟩
  · go_wp2_with fail
    go_ret
    exact ⟨q, rfl, h2.2, Or.inr ⟨HSM.out, H3.out (by omega)⟩, HB1.out⟩

set_option maxRecDepth 100000 in
set_option maxHeartbeats 1000000 in
theorem eqDk (v v' : Bool) (am aw aq : Option Addr) (cm cw cs : Nat) (wd : Int) (ms : List Mk) (d : Int) (ts : List Wb) (nx : Int) (ss : List ThS7) (bm bw bq : Option Addr) (dm dw ds : Nat) (w : World) (hm : MView w am ms) (hw : WbView v w aw ts) (hs : TViewS7 w aq ss) (hm' : MView w bm ms) (hw' : WbView v' w bw ts) (hs' : TViewS7 w bq ss) (hsm : DkSmall ms ts ss) :
    Calls Try.prog 23 #[.agg #[.int .i64 wd, .slice am ms.length cm, .int .i64 d, .slice aw ts.length cw, .int .i64 nx, .slice aq ss.length cs], .agg #[.int .i64 wd, .slice bm ms.length dm, .int .i64 d, .slice bw ts.length dw, .int .i64 nx, .slice bq ss.length ds]] w fun e w' => e = .returned (.bool true) ∧ Below w.heap.size w w' := by
  obtain ⟨W1, hW1⟩ : ∃ W, w.alloc (.cells #[.int .i64 wd, .slice am ms.length cm, .int .i64 d, .slice aw ts.length cw, .int .i64 nx, .slice aq ss.length cs] 57) = W := ⟨_, rfl⟩
  have hB1 : Below w.heap.size w W1 := by rw [← hW1]; exact (Below.refl _ _).alloc (Nat.le_refl _) _
  have hI1 : DkIn v W1 w.heap.size am aw aq cm cw cs wd ms d ts nx ss := by rw [← hW1]; exact DkIn.box hm hw hs
  obtain ⟨W, hW⟩ : ∃ W, W1.alloc (.cells #[.int .i64 wd, .slice bm ms.length dm, .int .i64 d, .slice bw ts.length dw, .int .i64 nx, .slice bq ss.length ds] 57) = W := ⟨_, rfl⟩
  have hB2 : Below W1.heap.size W1 W := by rw [← hW]; exact (Below.refl _ _).alloc (Nat.le_refl _) _
  have hsz : W1.heap.size = w.heap.size + 1 := by rw [← hW1]; simp
  have hI' : DkIn v' W W1.heap.size bm bw bq dm dw ds wd ms d ts nx ss := by rw [← hW]; exact DkIn.box (hm'.next hB1) (hw'.next hB1) (hs'.next hB1)
  rw [hsz] at hI'
  have hI := hI1.below hB2
  have HI := hidP hI
  have HI' := hidP hI'
  have k0 := hI.c0
  have k1 := hI.c1
  have k2 := hI.c2
  have k3 := hI.c3
  have k4 := hI.c4
  have l0 := hI'.c0
  have l1 := hI'.c1
  have l2 := hI'.c2
  have l3 := hI'.c3
  have l4 := hI'.c4
  have HS := hidP (eqSt v v' am aw cm cw wd ms d ts nx bm bw dm dw W hI.mv hI.wv hI'.mv hI'.wv hsm.1)
  have HS2 := hidP (fun (W' : World) (L : Below W.heap.size W W') => eqTSS7 aq bq cs ds ss ss W' (hI.below L).sv (hI'.below L).sv (by have := hsm.2; omega))
  rw [show decide (ss = ss) = true by simp] at HS2
  have HB := hidP (chain hB1 hB2)
  have HWW : Hid ((w.alloc (.cells #[.int .i64 wd, .slice am ms.length cm, .int .i64 d, .slice aw ts.length cw, .int .i64 nx, .slice aq ss.length cs] 57)).alloc (.cells #[.int .i64 wd, .slice bm ms.length dm, .int .i64 d, .slice bw ts.length dw, .int .i64 nx, .slice bq ss.length ds] 57) = W) := by show _ = _; rw [hW1, hW]
  clear hB1 hB2 hm hw hs hm' hw' hs' hsm hI1 hI hI' hW1 hW hsz
  go_enter Try.func23, Try.ntmps23
  go_wp2_with fail
  rw [HWW.out]
  refine HS.out.mono ?_
  rintro e w2 ⟨rfl, L2⟩
  have k5 := (HI.out.below L2).c5
  have l5 := (HI'.out.below L2).c5
  have HC := hidP (HS2.out _ L2)
  have HL := hidP (chain HB.out L2)
  clear L2 HWW k0 k1 k2 k3 k4 l0 l1 l2 l3 l4
  go_wp2_with fail
  refine HC.out.mono ?_
  rintro e w3 ⟨rfl, L3⟩
  have HL3 := hidP (chain HL.out L3)
  clear L3 k5 l5
  go_wp2_with fail
  go_ret
  exact ⟨rfl, HL3.out⟩
end Go.Proofs.Ytbmljcpeonopmaa
