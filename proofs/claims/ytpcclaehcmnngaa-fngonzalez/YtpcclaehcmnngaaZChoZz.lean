/-
  The program's Chosen.
-/
import Derived.Test.YtpcclaehcmnngaaZImpZz
import Derived.Test.YtpcclaehcmnngaaZSpBZz
namespace Go.Proofs.Ytpcclaehcmnngaa
open Go Go.RowKit

set_option maxRecDepth 100000 in
set_option maxHeartbeats 1000000 in
theorem iChosen_no (ao : Option Addr) (cap : Nat) (ms : List Mk) (k kd : Int) (w : World) (hv : MView w ao ms) (hsm : MSmall ms) (hno : chosB ms k kd = false) :
    Calls Try.prog 10 #[.slice ao ms.length cap, .int .i64 k, .int .i64 kd] w fun e w' => e = .returned (.slice none 0 0) ∧ Below w.heap.size w w' := by
  have HC := hidP (iChoice ao cap ms k kd w hv hsm)
  rw [hno] at HC
  clear hv hsm hno
  go_enter Try.func10, Try.ntmps10
  go_wp2_with fail
  refine HC.out.mono ?_
  rintro e w1 ⟨rfl, L1⟩
  go_wp2_with fail
  go_ret
  exact ⟨rfl, L1⟩

theorem choS_next {ds : List Sm} {D : Nat → Nat → Int} {n t b : Nat} (h0 : 0 < t) (hb : zArg D (zCho D n t) n = some b) : (zCho D n (t + 1)).map (snth ds) = (zCho D n t).map (snth ds) ++ [snth ds b] := by
  rw [zCho_succ h0, hb, List.map_append]; rfl

set_option maxRecDepth 100000 in
set_option maxHeartbeats 2000000 in
theorem iChosen_in (b off cap : Nat) (ds : List Sm) (k : Nat) (kd : Int) (w : World) (hb : b < w.heap.size) (hs : SSeg w b off ds) (hl : SLies w ds) (hsm : MSmall (smMarks ds)) (hm : marksB (smMarks ds) = true) (h1 : 1 ≤ k) (hkn : k ≤ ds.length) (hkd : kindB kd = true) :
    Calls Try.prog 10 #[.slice (some ⟨b, off, none⟩) ds.length cap, .int .i64 k, .int .i64 kd] w fun e w' => ∃ g, e = .returned (.slice (some ⟨g, 0, none⟩) k k) ∧ Own w' g (choT (smMarks ds) kd k) ∧ w.heap.size ≤ g ∧ Below w.heap.size w w' := by
  have hlen : ds.length = (smMarks ds).length := (smMarks_length ds).symm
  have hn60 : ds.length ≤ 60 := by rw [hlen]; exact marksB_len hm
  have HV0 : Hid (MView w (some ⟨b, off, none⟩) (smMarks ds)) := SView.mview (Or.inr ⟨b, off, rfl, hb, hs⟩) hl
  have HC := hidP (iChoice (some ⟨b, off, none⟩) cap (smMarks ds) k kd w HV0.out hsm)
  rw [(chosB_iff (smMarks ds) k kd).2 ⟨hm, ⟨by omega, by omega⟩, hkd⟩, ← hlen] at HC
  obtain ⟨D, hD⟩ : ∃ D, D = zD (smMarks ds) kd := ⟨_, rfl⟩
  have HOK : Hid (∀ t, t ≤ ds.length → (zCho D ds.length t).length = t ∧ ∀ c ∈ zCho D ds.length t, c < ds.length) := fun t ht => by have h := zCho_ok (D := D) (n := ds.length) t ht; exact ⟨h.1, h.2.2⟩
  have HBX : Hid (∀ t, t < ds.length → ∃ bb, zArg D (zCho D ds.length t) ds.length = some bb ∧ bb < ds.length) := fun t ht => by
    obtain ⟨bb, h1, h2⟩ := zCho_out (ms := smMarks ds) (kd := kd) (t := t) (by omega)
    rw [← hD, ← hlen] at h1
    exact ⟨bb, h1, by omega⟩
  have HOUT : Hid (∀ W t g c bb, Below w.heap.size w W → 1 ≤ t → t ≤ ds.length → SRow w.heap.size W g c ((zCho D ds.length t).map (snth ds)) → zArg D (zCho D ds.length t) ds.length = some bb → Calls Try.prog 36 #[.slice (some ⟨b, off, none⟩) ds.length cap, .slice (some ⟨g, 0, none⟩) t c, .int .i64 kd] W fun e w' =>
      e = .returned (.agg #[.int .i64 (snth ds bb).1, .slice (snth ds bb).2.1 (snth ds bb).2.2.2.length (snth ds bb).2.2.1]) ∧ Below W.heap.size W w') := fun W t g c bb LW ht1 ht hr hbb => by
    have hcap := hr.cap
    rw [List.length_map] at hcap
    obtain ⟨e1, e2⟩ := HOK.out t ht
    have h := iOuter b off cap g c ds (zCho D ds.length t) kd W (Nat.lt_of_lt_of_le hb LW.size) (hs.below hb LW) (hl.below LW) hm hkd hr.lt.2 hr.seg e2 (fun e => by rw [e] at e1; simp at e1; omega) hcap (by rw [e1]; omega) hsm bb (by rw [← hD]; exact hbb)
    rw [e1] at h
    exact h
  have HEND : Hid (∀ W g c, SRow w.heap.size W g c ((zCho D ds.length k).map (snth ds)) → Calls Try.prog 37 #[.slice (some ⟨g, 0, none⟩) k c] W fun e w' => ∃ g, e = .returned (.slice (some ⟨g, 0, none⟩) k k) ∧ W.heap.size ≤ g ∧ Own w' g (choT (smMarks ds) kd k) ∧ Below W.heap.size W w') := fun W g c hr => by
    have e1 := (HOK.out k hkn).1
    have h := gIds (some ⟨g, 0, none⟩) c ((zCho D ds.length k).map (snth ds)) W (by rw [List.length_map, e1]; omega) hr.sview
    rw [List.length_map, e1] at h
    have e2 : ((zCho D ds.length k).map (snth ds)).map (·.1) = choT (smMarks ds) kd k := by
      unfold choT
      rw [List.map_map, hD, ← hlen]
      refine List.map_congr_left (fun c hc => ?_)
      have hc' : c < ds.length := (HOK.out k hkn).2 c (by rw [hD]; exact hc)
      exact (sm_at rfl hc').2
    rw [e2] at h
    exact h
  obtain ⟨d0, d1⟩ := hs 0 (by omega)
  rw [Nat.zero_mul, Nat.add_zero] at d0 d1
  have hne : ds ≠ [] := by intro h; subst h; simp at hkn; omega
  have hp0 : (0 : Int) < (ds.length : Int) := by omega
  have H1 : Hid ((zCho D ds.length 1).map (snth ds) = [snth ds 0]) := by show _ = _; simp [zCho]
  have HNX : Hid (∀ t b, 0 < t → zArg D (zCho D ds.length t) ds.length = some b → (zCho D ds.length (t + 1)).map (snth ds) = (zCho D ds.length t).map (snth ds) ++ [snth ds b]) := fun t b h0 hb => choS_next h0 hb
  obtain ⟨i0, hi0, hz0, hz1, hz2⟩ := info_parts Try.info55
  clear hs hl hsm hm hkd hD hlen HV0
  go_enter Try.func10, Try.ntmps10
  go_wp2_with fail
  refine HC.out.mono ?_
  rintro e w1 ⟨rfl, L1⟩
  have x0 := (L1.cell (p := ⟨b, off, none⟩) hb).trans d0
  have x1 := (L1.cell (p := ⟨b, off + 1, none⟩) hb).trans d1
  have HR0 : Hid (SRow w.heap.size (w1.alloc (.cells #[.int .i64 (snth ds 0).1, .slice (snth ds 0).2.1 (snth ds 0).2.2.2.length (snth ds 0).2.2.1] 55)) w1.heap.size 1 ((zCho D ds.length 1).map (snth ds))) := by
    show SRow _ _ _ _ _
    rw [H1.out]
    exact World.ownsRow_lit w1 #[.int .i64 (snth ds 0).1, .slice (snth ds 0).2.1 (snth ds 0).2.2.2.length (snth ds 0).2.2.1] 1 L1.size (by unfold maxLen; omega) rfl
  have HL1 := hidP (L1.alloc L1.size (.cells #[.int .i64 (snth ds 0).1, .slice (snth ds 0).2.1 (snth ds 0).2.2.2.length (snth ds 0).2.2.1] 55))
  clear L1 d0 d1 HC
  go_wp2_with fail
  clear x0 x1
  go_loopw [7] (fun v wr => ∃ t g c : Nat, 1 ≤ t ∧ t ≤ k ∧ v = .slice (some ⟨g, 0, none⟩) t c ∧ SRow w.heap.size wr g c ((zCho D ds.length t).map (snth ds)) ∧ Below w.heap.size w wr) (fun v _ => k - sliceLen v)
  case atStart => exact ⟨1, w1.heap.size, 1, Nat.le_refl _, h1, rfl, HR0.out, HL1.out⟩
  case round =>
    obtain ⟨t, g, c, ht1, htk, rfl, hrow, L⟩ := hrel
    have HR := hidP hrow
    have HL := hidP L
    by_cases hlt : t < k
    · obtain ⟨bb, hbb, hbl⟩ := HBX.out t (by omega)
      have HCO := hidP (HOUT.out wr t g c bb L ht1 (by omega) hrow hbb)
      have HE := hidP (HNX.out t bb ht1 hbb)
      have HTL := hidP (HOK.out t (by omega)).1
      generalize snth ds bb = d at *
      clear hrow L hbb
      go_wp2_with fail
      refine HCO.out.mono ?_
      rintro e w2 ⟨rfl, L2⟩
      have HR2 : Hid (w2.ownsRow w.heap.size 55 2 (.slice (some ⟨g, 0, none⟩) t c) t (smCells ((zCho D ds.length t).map (snth ds)))) := by
        have h := HR.out.below (Nat.le_refl _) L2
        unfold SRow at h
        rw [List.length_map, HTL.out] at h
        exact h
      have HL2 := hidP (chain HL.out L2)
      have hz := HL2.out.size
      have hgl := World.ownsRow.lt HR2.out g rfl
      clear L2 HCO
      go_wp2_with (at_builtin; refine wpList_append_lies _ rfl (.tmp 21) (.tmp 26) 24 rfl w.heap.size 55 i0 _ 2 32 Try.underlying24 hi0 hz0 hz1 hz2 rfl (by omega) (.slice (some ⟨g, 0, none⟩) t c) t (smCells ((zCho D ds.length t).map (snth ds))) rfl (World.ownsRow.alloc HR2.out _) ⟨w2.heap.size, 0, none⟩ 1 1 (smCells [d]) rfl rfl (World.news_of_block (cs := #[.int .i64 d.1, .slice d.2.1 d.2.2.2.length d.2.2.1]) (t := 55) (fr := (0, 0)) (heap_alloc_new w2 _)) (by simp [smCells, Value.oneCell']) (by omega) (by unfold maxLen; omega) (by omega) (by simp; omega) (w2.heap.size + 1) (by simp) ?_; intro gg cc w8 hown hgrow hat8 hlt8)
      go_roundw
      case rel =>
        refine ⟨t + 1, gg, cc, by omega, by omega, rfl, ?_, ?_⟩
        · rw [HE.out]
          refine SRow.snoc ?_
          rw [List.length_map, HTL.out]
          exact hown
        · refine (HL2.out.alloc (by omega) _).grown hgrow (by simp; omega) ?_
          intro q hq
          simp [Value.ownBlock] at hq
          omega
      case measure => simp [sliceLen]; omega
    · obtain rfl : t = k := by omega
      have HCE := hidP (HEND.out wr g c hrow)
      clear hrow L
      go_wp2_with fail
      refine HCE.out.mono ?_
      rintro e w3 ⟨g3, rfl, hg3, o3, L3⟩
      have HX := hidP (And.intro o3 (chain HL.out L3))
      have hz := HL.out.size
      clear o3 L3
      go_wp2_with fail
      go_ret
      exact ⟨g3, rfl, HX.out.1, by omega, HX.out.2⟩

/-- Chosen: nothing, or a row of its own. -/
theorem iChosen (ao : Option Addr) (cap : Nat) (ms : List Mk) (k kd : Int) (w : World) (hv : MView w ao ms) (hsm : MSmall ms) :
    Calls Try.prog 10 #[.slice ao ms.length cap, .int .i64 k, .int .i64 kd] w fun e w' => ∃ a c, e = .returned (.slice a (choL ms k kd).length c) ∧ IOut w.heap.size w' (.slice a (choL ms k kd).length c) (choL ms k kd) ∧ Below w.heap.size w w' := by
  rcases h : chosB ms k kd with _ | _
  · refine (iChosen_no ao cap ms k kd w hv hsm h).mono ?_
    rintro e w' ⟨rfl, L⟩
    rw [choL_no h]
    exact ⟨none, 0, rfl, Or.inl ⟨rfl, rfl⟩, L⟩
  · obtain ⟨hm, ⟨h1, h2⟩, hkd⟩ := (chosB_iff ms k kd).1 h
    obtain ⟨n, rfl⟩ : ∃ n : Nat, k = n := ⟨k.toNat, by omega⟩
    obtain ⟨ds, rfl, hsv, hsl⟩ := MView.sview hv
    rw [smMarks_length] at h2
    obtain ⟨b, off, rfl, hb, hs⟩ := hsv.seg (by omega)
    have hc := iChosen_in b off cap ds n kd w hb hs hsl hsm hm (by omega) (by omega) hkd
    rw [choL_good h]
    have hcl : (choT (smMarks ds) kd n).length = n := choT_len (by rw [smMarks_length]; omega)
    rw [smMarks_length]
    refine hc.mono ?_
    rintro e w' ⟨g, rfl, o, hg, L⟩
    have ho := o.out (base := w.heap.size) hg (by rw [hcl]; have := marksB_len hm; rw [smMarks_length] at this; unfold maxLen; omega)
    rw [hcl] at ho
    rw [hcl]
    exact ⟨some ⟨g, 0, none⟩, n, rfl, ho, L⟩

end Go.Proofs.Ytpcclaehcmnngaa
