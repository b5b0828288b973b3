/-
  The given Chosen: the first mark, then each time the one farthest from all that are chosen.
-/
import Derived.Test.YtpcclaehcmnngaaZSpB
import Derived.Test.YtpcclaehcmnngaaHSpec
namespace Go.Proofs.Ytpcclaehcmnngaa
open Go Go.RowKit

def zArgI (D : Nat → Nat → Int) (C : List Nat) (m : Nat) : Int := match zArg D C m with
  | none => -1
  | some b => (b : Int)
theorem zArgI_in {D : Nat → Nat → Int} {C : List Nat} {m : Nat} (h : m ∈ C) : zArgI D C (m + 1) = zArgI D C m := by simp only [zArgI, zArg, if_pos h]
theorem zArgI_first {D : Nat → Nat → Int} {C : List Nat} {m : Nat} (h : ¬ m ∈ C) (h0 : zArg D C m = none) : zArgI D C (m + 1) = m := by simp only [zArgI, zArg, if_neg h, h0]
theorem zArgI_more {D : Nat → Nat → Int} {C : List Nat} {m b : Nat} (h : ¬ m ∈ C) (h0 : zArg D C m = some b) (hl : zNear D b C < zNear D m C) : zArgI D C (m + 1) = m := by simp only [zArgI, zArg, if_neg h, h0, hl, if_true]
theorem zArgI_stay {D : Nat → Nat → Int} {C : List Nat} {m b : Nat} (h : ¬ m ∈ C) (h0 : zArg D C m = some b) (hl : ¬ zNear D b C < zNear D m C) : zArgI D C (m + 1) = zArgI D C m := by simp only [zArgI, zArg, if_neg h, h0, hl, if_false]
theorem has_idx {ms : List Mk} (h : marksB ms = true) {C : List Nat} (hC : ∀ c ∈ C, c < ms.length) {i : Nat} (hi : i < ms.length) : hasB (C.map (mid ms)) (mid ms i) = decide (i ∈ C) := by
  unfold hasB
  by_cases hm : i ∈ C
  · rw [decide_eq_true hm, List.contains_iff_mem]
    exact List.mem_map_of_mem hm
  · rw [decide_eq_false hm]
    rcases hb : (C.map (mid ms)).contains (mid ms i) with _ | _
    · rfl
    · rw [List.contains_iff_mem, List.mem_map] at hb
      obtain ⟨c, hc, e⟩ := hb
      exact absurd (by rw [← zmid_inj h (hC c hc) hi e]; exact hc) hm
theorem chosB_iff (ms : List Mk) (k kd : Int) : chosB ms k kd = true ↔ marksB ms = true ∧ (1 ≤ k ∧ k ≤ ms.length) ∧ kindB kd = true := by simp [chosB, and_assoc]
theorem chosB_false {ms : List Mk} {k kd : Int} (h : ¬ (marksB ms = true ∧ (1 ≤ k ∧ k ≤ ms.length) ∧ kindB kd = true)) : chosB ms k kd = false := by
  rcases hb : chosB ms k kd with _ | _
  · rfl
  · exact absurd ((chosB_iff ms k kd).1 hb) h
theorem choL_no {ms : List Mk} {k kd : Int} (h : chosB ms k kd = false) : choL ms k kd = [] := by rw [choL, h]; rfl
theorem inR_iff (x lo hi : Int) : inR x lo hi = true ↔ lo ≤ x ∧ x ≤ hi := by simp [inR]

/-- The tests that the given Chosen and BestRadius make, decided. -/
inductive CaseB (ms : List Mk) (k kd : Int) : Prop
  | marks (h : marksB ms = false)
  | count (h : marksB ms = true) (h2 : inR k 1 ms.length = false)
  | kind (h : marksB ms = true) (h2 : inR k 1 ms.length = true) (h3 : kindB kd = false)
  | good (h : marksB ms = true) (h2 : inR k 1 ms.length = true) (h3 : kindB kd = true)
theorem caseB (ms : List Mk) (k kd : Int) : CaseB ms k kd := by
  rcases h : marksB ms with _ | _
  · exact .marks h
  · rcases h2 : inR k 1 ms.length with _ | _
    · exact .count h h2
    · rcases h3 : kindB kd with _ | _
      · exact .kind h h2 h3
      · exact .good h h2 h3
theorem chosB_marks {ms : List Mk} {k kd : Int} (h : marksB ms = false) : chosB ms k kd = false := by simp [chosB, h]
theorem chosB_count {ms : List Mk} {k kd : Int} (h : inR k 1 ms.length = false) : chosB ms k kd = false := chosB_false (fun ⟨_, h2, _⟩ => by rw [(inR_iff k 1 ms.length).2 h2] at h; cases h)
theorem chosB_kind {ms : List Mk} {k kd : Int} (h : kindB kd = false) : chosB ms k kd = false := by simp [chosB, h]
theorem chosB_good {ms : List Mk} {k kd : Int} (h : marksB ms = true) (h2 : inR k 1 ms.length = true) (h3 : kindB kd = true) : chosB ms k kd = true := (chosB_iff ms k kd).2 ⟨h, (inR_iff k 1 ms.length).1 h2, h3⟩

set_option maxRecDepth 100000 in
set_option maxHeartbeats 1000000 in
theorem sChosen_no (ao : Option Addr) (cap : Nat) (ms : List Mk) (k kd : Int) (w : World) (hv : MView w ao ms) (hsm : MSmall ms) (hno : chosB ms k kd = false) :
    Calls Try.prog 15 #[.slice ao ms.length cap, .int .i64 k, .int .i64 kd] w fun e w' => ∃ g, e = .returned (.slice (some ⟨g, 0, none⟩) 0 0) ∧ IRow w.heap.size w' g 0 [] ∧ Below w.heap.size w w' := by
  have HC := hidP (sMarks ao cap ms w hv hsm)
  have HI := fun w => hidP (sIn k 1 ms.length w)
  have HK := fun w => hidP (sKind kd w)
  have HE : Hid (∀ w1, (∃ n, w1 = w.drewN n) → IRow w.heap.size (w1.alloc (.cells #[] 2)) w1.heap.size 0 [] ∧ Below w.heap.size w (w1.alloc (.cells #[] 2))) := fun w1 ⟨n, e⟩ => by
    have hz : w1.heap.size = w.heap.size := by rw [e]; rfl
    refine ⟨IRow.start w1 _ (by omega), Below.alloc ?_ (by omega) _⟩
    rw [e]; exact below_drewN (Below.refl _ _) n
  rcases caseB ms k kd with h | ⟨h, h2⟩ | ⟨h, h2, h3⟩ | ⟨h, h2, h3⟩
  · rw [h] at HC
    clear hv hsm hno h
    go_enter Try.func15, Try.ntmps15
    go_wp2_with fail
    refine HC.out.mono ?_
    rintro e w1 ⟨rfl, hw1⟩
    have HX := hidP (HE.out w1 hw1)
    clear hw1 HE
    go_wp2_with fail
    go_ret
    exact ⟨w1.heap.size, rfl, HX.out⟩
  · rw [h] at HC
    rw [h2] at HI
    clear hv hsm hno h h2
    go_enter Try.func15, Try.ntmps15
    go_wp2_with fail
    refine HC.out.mono ?_
    rintro e w1 ⟨rfl, hw1⟩
    have HX := hidP (HE.out w1 hw1)
    clear hw1 HE
    go_wp2_with fail
    refine (HI _).out.mono ?_
    rintro e w2 ⟨rfl, hw2⟩
    subst w2
    go_wp2_with fail
    go_ret
    exact ⟨w1.heap.size, rfl, HX.out⟩
  · rw [h] at HC
    rw [h2] at HI
    rw [h3] at HK
    clear hv hsm hno h h2 h3
    go_enter Try.func15, Try.ntmps15
    go_wp2_with fail
    refine HC.out.mono ?_
    rintro e w1 ⟨rfl, hw1⟩
    have HX := hidP (HE.out w1 hw1)
    clear hw1 HE
    go_wp2_with fail
    refine (HI _).out.mono ?_
    rintro e w2 ⟨rfl, hw2⟩
    subst w2
    go_wp2_with fail
    refine (HK _).out.mono ?_
    rintro e w2 ⟨rfl, hw2⟩
    subst w2
    go_wp2_with fail
    go_ret
    exact ⟨w1.heap.size, rfl, HX.out⟩
  · rw [chosB_good h h2 h3] at hno
    cases hno

theorem zCho_out {ms : List Mk} {kd : Int} {t : Nat} (h : t < ms.length) : ∃ b, zArg (zD ms kd) (zCho (zD ms kd) ms.length t) ms.length = some b ∧ b < ms.length := by
  obtain ⟨j, hj, hn⟩ := zOut (C := zCho (zD ms kd) ms.length t) (n := ms.length) (by rw [(zCho_ok (D := zD ms kd) (n := ms.length) t (by omega)).1]; exact h)
  obtain ⟨b, hb⟩ := zArg_some (D := zD ms kd) hj hn
  have hs := zArg_spec (zD ms kd) (zCho (zD ms kd) ms.length t) ms.length
  rw [hb] at hs
  exact ⟨b, hb, hs.1⟩
theorem zArg_lt {D : Nat → Nat → Int} {C : List Nat} {m b : Nat} (h : zArg D C m = some b) : b < m := by
  have hs := zArg_spec D C m
  rw [h] at hs
  exact hs.1
def sliceLen : Value → Nat
  | .slice _ n _ => n
  | _ => 0
/-- What is chosen, by numbers. -/
def choT (ms : List Mk) (kd : Int) (t : Nat) : List Int := (zCho (zD ms kd) ms.length t).map (mid ms)
theorem choT_len {ms : List Mk} {kd : Int} {t : Nat} (h : t ≤ ms.length) : (choT ms kd t).length = t := by rw [choT, List.length_map]; exact (zCho_ok (D := zD ms kd) (n := ms.length) t h).1
theorem choT_found {ms : List Mk} (hm : marksB ms = true) (kd : Int) {t : Nat} (h : t ≤ ms.length) : ∀ id ∈ choT ms kd t, 0 ≤ zFind ms id := zFind_map hm (zCho_ok (D := zD ms kd) (n := ms.length) t h).2.2
theorem choT_near {ms : List Mk} (hm : marksB ms = true) {kd : Int} (hk : kindB kd = true) {t : Nat} (h : t ≤ ms.length) {i : Nat} (hi : i < ms.length) : zNearI ms kd (mat ms i) (choT ms kd t) = zNear (zD ms kd) i (zCho (zD ms kd) ms.length t) := by
  rw [zNearI_eq hm kd hk hi _ (choT_found hm kd h), choT, zIdx_map hm (zCho_ok (D := zD ms kd) (n := ms.length) t h).2.2]
theorem choT_next {ms : List Mk} {kd : Int} {t b : Nat} (h0 : 0 < t) (hb : zArg (zD ms kd) (zCho (zD ms kd) ms.length t) ms.length = some b) : choT ms kd (t + 1) = choT ms kd t ++ [mid ms b] := by
  rw [choT, zCho_succ h0, hb, List.map_append]; rfl
theorem choT_one (ms : List Mk) (kd : Int) : choT ms kd 1 = [mid ms 0] := by simp [choT, zCho]

set_option maxRecDepth 100000 in
set_option maxHeartbeats 4000000 in
theorem sChosen_in (b off cap : Nat) (ms : List Mk) (k : Nat) (kd : Int) (w : World) (hb : b < w.heap.size) (hs : MSeg w b off ms) (hsm : MSmall ms) (hm : marksB ms = true) (h1 : 1 ≤ k) (hkn : k ≤ ms.length) (hkd : kindB kd = true) :
    Calls Try.prog 15 #[.slice (some ⟨b, off, none⟩) ms.length cap, .int .i64 k, .int .i64 kd] w fun e w' => ∃ g c, e = .returned (.slice (some ⟨g, 0, none⟩) k c) ∧ IRow w.heap.size w' g c (choT ms kd k) ∧ Below w.heap.size w w' := by
  have hn60 := marksB_len hm
  have HC := hidP (sMarks (some ⟨b, off, none⟩) cap ms w (Or.inr ⟨b, off, rfl, hb, hs⟩) hsm)
  rw [hm] at HC
  have HI : ∀ w, Hid _ := fun w => hidP (sIn k 1 ms.length w)
  rw [(inR_iff k 1 ms.length).2 ⟨by omega, by omega⟩] at HI
  have HK : ∀ w, Hid _ := fun w => hidP (sKind kd w)
  rw [hkd] at HK
  have HM := hidP hm
  have HKD := hidP hkd
  have HSM := hidP hsm
  have HS := hidP hs
  have H1 := hidP (choT_one ms kd)
  have hc0 := (hs.at (i := 0) (by omega)).1
  rw [Nat.zero_mul, Nat.add_zero] at hc0
  have hne : ms ≠ [] := by intro h; subst h; simp at hkn; omega
  have hp0 : (0 : Int) < (ms.length : Int) := by omega
  obtain ⟨i0, hi0, hz0, hz1, hz2⟩ := info_parts Try.info2
  clear hs hsm hm hkd
  go_enter Try.func15, Try.ntmps15
  go_wp2_with fail
  refine HC.out.mono ?_
  rintro e w1 ⟨rfl, n1, hw1⟩
  have L1 : Below w.heap.size w w1 := by rw [hw1]; exact below_drewN (Below.refl _ _) n1
  have hc0' := (L1.cell (p := ⟨b, off, none⟩) hb).trans hc0
  clear hw1 HC hc0
  go_wp2_with fail
  refine (HI _).out.mono ?_
  rintro e w2 ⟨rfl, hw2⟩
  subst w2
  go_wp2_with fail
  refine (HK _).out.mono ?_
  rintro e w2 ⟨rfl, hw2⟩
  subst w2
  have HR0 : Hid ((w1.alloc (.cells #[.int .i64 (mid ms 0)] 2)).ownsRow w.heap.size 2 1 (.slice (some ⟨w1.heap.size, 0, none⟩) 1 1) 1 ((choT ms kd 1).map (Value.int .i64))) := by
    show World.ownsRow _ _ _ _ _ _ _
    rw [H1.out]
    exact World.ownsRow_lit w1 #[.int .i64 (mid ms 0)] 1 L1.size (by unfold maxLen; omega) rfl
  have HL1 := hidP (L1.alloc L1.size (.cells #[.int .i64 (mid ms 0)] 2))
  clear L1 HI HK
  go_wp2_with fail
  clear hc0'
  go_loopw [7] (fun v wr => ∃ t g c : Nat, 1 ≤ t ∧ t ≤ k ∧ v = .slice (some ⟨g, 0, none⟩) t c ∧ wr.ownsRow w.heap.size 2 1 (.slice (some ⟨g, 0, none⟩) t c) t ((choT ms kd t).map (Value.int .i64)) ∧ Below w.heap.size w wr) (fun v _ => k - sliceLen v)
  case atStart => exact ⟨1, w1.heap.size, 1, Nat.le_refl _, h1, rfl, HR0.out, HL1.out⟩
  case round =>
    obtain ⟨t, g, c, ht1, htk, rfl, hrow, L⟩ := hrel
    obtain ⟨Wo, hWo⟩ : ∃ Wo, Wo = wr := ⟨_, rfl⟩
    subst hWo
    have HRW := hidP hrow
    have HL := hidP L
    have hgl := World.ownsRow.lt hrow g rfl
    by_cases hlt : t < k
    · obtain ⟨bb, hbb, hbl⟩ := zCho_out (ms := ms) (kd := kd) (t := t) (by omega)
      have HBB := hidP hbb
      have HCL := hidP (choT_len (ms := ms) (kd := kd) (t := t) (by omega))
      have HCF := hidP (choT_found HM.out kd (t := t) (by omega))
      have HCN := hidP (fun i hi => choT_near HM.out HKD.out (t := t) (by omega) (i := i) hi)
      have HCX := hidP (choT_next ht1 hbb)
      have HIN := hidP (zCho_ok (D := zD ms kd) (n := ms.length) t (by omega)).2.2
      have HRV : Hid (View Wo (some ⟨g, 0, none⟩) (choT ms kd t)) := by
        have hr : IRow w.heap.size Wo g c (choT ms kd t) := IRow.of hrow HCL.out.symm rfl
        exact hr.view
      have HSW := hidP (HS.out.below hb (Nat.le_refl _) L)
      have hbw : b < Wo.heap.size := Nat.lt_of_lt_of_le hb L.size
      have HVW : Hid (MView Wo (some ⟨b, off, none⟩) ms) := Or.inr ⟨b, off, rfl, hbw, HSW.out⟩
      clear hrow L hbb
      go_wp2_with fail
      go_loopw [8, 9] (fun s i wr2 => ∃ j : Nat, j ≤ ms.length ∧ i = .int .i64 j ∧ s = .int .i64 (zArgI (zD ms kd) (zCho (zD ms kd) ms.length t) j) ∧ ∃ n, wr2 = Wo.drewN n) (fun _ i _ => ms.length - (intOf i).toNat)
      case atStart => exact ⟨0, Nat.zero_le _, rfl, rfl, 0, rfl⟩
      case round =>
        obtain ⟨j, hj, rfl, rfl, hw⟩ := hrel
        have HW : Hid (∃ n, wr = Wo.drewN n) := hw
        clear hw
        have HSW2 : Hid (MSeg wr b off ms) := by obtain ⟨n, rfl⟩ := HW.out; exact HSW.out
        by_cases hjl : j < ms.length
        · obtain ⟨hd0, ae, ce, hd1, hve⟩ := HSW2.out.at hjl
          have hj0 : (0 : Int) ≤ (j : Int) := Int.natCast_nonneg _
          have hj1 : (j : Int) < (ms.length : Int) := by omega
          have hrv : View wr (some ⟨g, 0, none⟩) (choT ms kd t) := by obtain ⟨n, rfl⟩ := HW.out; exact HRV.out
          have hvw : MView wr (some ⟨b, off, none⟩) ms := by obtain ⟨n, rfl⟩ := HW.out; exact HVW.out
          have HH := hidP (sHas (some ⟨g, 0, none⟩) c (choT ms kd t) (mid ms j) wr hrv (by rw [HCL.out]; omega))
          rw [HCL.out, show hasB (choT ms kd t) (mid ms j) = decide (j ∈ zCho (zD ms kd) ms.length t) from has_idx HM.out HIN.out hjl] at HH
          have HNJ := hidP (fun m => sNear11 (some ⟨b, off, none⟩) ae (some ⟨g, 0, none⟩) cap ce c ms (mat ms j) (choT ms kd t) kd (wr.drewN m) hvw hve hrv HSM.out (HSM.out.2 j) (by rw [HCL.out]; omega) HCF.out)
          rw [HCL.out, HCN.out j hjl] at HNJ
          clear hve
          by_cases hin : j ∈ zCho (zD ms kd) ms.length t
          · rw [decide_eq_true hin] at HH
            have HE := hidP (zArgI_in (D := zD ms kd) hin)
            clear hin hrv hvw HNJ
            go_wp2_with fail
            refine HH.out.mono ?_
            rintro e w3 ⟨rfl, hw3⟩
            subst w3
            go_wp2_with fail
            go_roundw
            case rel => exact ⟨j + 1, by omega, by go_num, by rw [HE.out], HW.out⟩
            case measure => simp [intOf]; omega
          · rw [decide_eq_false hin] at HH
            rcases hz : zArg (zD ms kd) (zCho (zD ms kd) ms.length t) j with _ | ba
            · have HE := hidP (zArgI_first hin hz)
              have e1 : zArgI (zD ms kd) (zCho (zD ms kd) ms.length t) j = -1 := by simp only [zArgI, hz]
              rw [e1]
              clear hin hrv hvw HNJ e1 hz
              go_wp2_with fail
              refine HH.out.mono ?_
              rintro e w3 ⟨rfl, hw3⟩
              subst w3
              go_wp2_with fail
              go_quiet (fail)
              go_wp2_with fail
              go_roundw
              case rel => exact ⟨j + 1, by omega, by go_num, by rw [HE.out], by obtain ⟨n, hn⟩ := HW.out; exact ⟨n + nq, by rw [hn]; simp⟩⟩
              case measure => simp [intOf]; omega
            · have e1 : zArgI (zD ms kd) (zCho (zD ms kd) ms.length t) j = (ba : Int) := by simp only [zArgI, hz]
              have hbal := zArg_lt hz
              obtain ⟨-, af, cf, hf1, hvf⟩ := HSW2.out.at (i := ba) (by omega)
              have HNB := hidP (fun m => sNear11 (some ⟨b, off, none⟩) af (some ⟨g, 0, none⟩) cap cf c ms (mat ms ba) (choT ms kd t) kd (wr.drewN m) hvw hvf hrv HSM.out (HSM.out.2 ba) (by rw [HCL.out]; omega) HCF.out)
              rw [HCL.out, HCN.out ba (by omega)] at HNB
              have hb0 : (0 : Int) ≤ (ba : Int) := Int.natCast_nonneg _
              have hb1 : (ba : Int) < (ms.length : Int) := by omega
              have hgd : decide ((ba : Int) < 0) = false := by simp
              have hgd2 : ¬ ((ba : Int) < 0) := by omega
              have HM1 := hidP (fun h => zArgI_more (D := zD ms kd) hin hz h)
              have HS1 := hidP (fun h => zArgI_stay (D := zD ms kd) hin hz h)
              generalize zNear (zD ms kd) ba (zCho (zD ms kd) ms.length t) = nb at *
              generalize zNear (zD ms kd) j (zCho (zD ms kd) ms.length t) = nj at *
              rw [e1] at HS1 ⊢
              clear hin hrv hvw e1 hz hvf
              by_cases hmore : nb < nj
              · go_wp2_with fail
                refine HH.out.mono ?_
                rintro e w3 ⟨rfl, hw3⟩
                subst w3
                go_wp2_with fail
                go_quiet (first | (go_at_call_of 48 (Value.slice ae (mat ms j).length ce); exact Calls.quiet_of (HNJ.out _)) | (go_at_call_of 48 (Value.slice af (mat ms ba).length cf); exact Calls.quiet_of (HNB.out _)))
                go_wp2_with fail
                go_roundw
                case rel => exact ⟨j + 1, by omega, by go_num, by rw [HM1.out hmore], by obtain ⟨n, hn⟩ := HW.out; exact ⟨n + nq, by rw [hn]; simp⟩⟩
                case measure => simp [intOf]; omega
              · go_wp2_with fail
                refine HH.out.mono ?_
                rintro e w3 ⟨rfl, hw3⟩
                subst w3
                go_wp2_with fail
                go_quiet (first | (go_at_call_of 48 (Value.slice ae (mat ms j).length ce); exact Calls.quiet_of (HNJ.out _)) | (go_at_call_of 48 (Value.slice af (mat ms ba).length cf); exact Calls.quiet_of (HNB.out _)))
                go_wp2_with fail
                go_roundw
                case rel => exact ⟨j + 1, by omega, by go_num, by rw [HS1.out hmore], by obtain ⟨n, hn⟩ := HW.out; exact ⟨n + nq, by rw [hn]; simp⟩⟩
                case measure => simp [intOf]; omega
        · obtain rfl : j = ms.length := by omega
          have e1 : zArgI (zD ms kd) (zCho (zD ms kd) ms.length t) ms.length = (bb : Int) := by simp only [zArgI, HBB.out]
          rw [e1]
          have hd0 := (HSW2.out.at hbl).1
          have hb0 : (0 : Int) ≤ (bb : Int) := Int.natCast_nonneg _
          have hb1 : (bb : Int) < (ms.length : Int) := by omega
          have HOW : Hid (wr.ownsRow w.heap.size 2 1 (.slice (some ⟨g, 0, none⟩) t c) t ((choT ms kd t).map (Value.int .i64))) := by obtain ⟨n, rfl⟩ := HW.out; exact HRW.out
          have HLW : Hid (Below w.heap.size w wr) := by obtain ⟨n, rfl⟩ := HW.out; exact below_drewN HL.out n
          have hz := HLW.out.size
          have hgl2 : w.heap.size ≤ g := hgl.1
          have hgl3 := (World.ownsRow.lt HOW.out g rfl).2
          generalize mid ms bb = x at *
          clear e1
          go_wp2_with (at_builtin; refine wpList_append_lies _ rfl (.tmp 72) (.tmp 78) 28 rfl w.heap.size 2 i0 _ 1 8 Try.underlying28 hi0 hz0 hz1 hz2 rfl (by omega) (.slice (some ⟨g, 0, none⟩) t c) t ((choT ms kd t).map (Value.int .i64)) rfl (World.ownsRow.alloc HOW.out _) ⟨wr.heap.size, 0, none⟩ 1 1 [.int .i64 x] rfl rfl (World.news_of_block (cs := #[.int .i64 x]) (t := 2) (fr := (0, 0)) (heap_alloc_new wr _)) (by simp [Value.oneCell']) (by omega) (by unfold maxLen; omega) (by omega) (by simp; omega) (wr.heap.size + 1) (by simp) ?_; intro gg cc w8 hown hgrow hat8 hlt8)
          go_roundw
          case rel =>
            refine ⟨t + 1, gg, cc, by omega, by omega, rfl, ?_, ?_⟩
            · rw [HCX.out, List.map_append]; exact hown
            · refine (HLW.out.alloc (by omega) _).grown hgrow (by simp; omega) ?_
              intro q hq
              simp [Value.ownBlock] at hq
              omega
          case measure => simp [sliceLen]; omega
    · obtain rfl : t = k := by omega
      have HE : Hid (IRow w.heap.size Wo g c (choT ms kd t)) := IRow.of hrow (choT_len hkn).symm rfl
      clear hrow L
      go_wp2_with fail
      go_ret
      exact ⟨g, c, rfl, HE.out, HL.out⟩

end Go.Proofs.Ytpcclaehcmnngaa
