/-
  markState over a copy of the laws' own.
-/
import Derived.Test.YtfbhohpbhjlihaaGreatStMemZz
import Derived.Test.YtfbhohpbhjlihaaGreatFeHelpZz
namespace Go.Proofs.YtfbhohpbhjlihaaGreat
open Go Go.RowKit

set_option maxRecDepth 100000 in
set_option maxHeartbeats 1000000 in
theorem markWSk (b cap : Nat) (k0 : Int) (h0 : 1 ≤ k0) (h00 : k0 ≤ 2000000) (ts : List Wb) (lo : Nat → Nat) (w : World) (hp : WbPart w b ts.length ts.length ts lo) (hsm : WbSmall ts) (htot : ttot ts ≤ 1048576) :
    Calls Tryz.prog 145 #[.slice (some ⟨b, 0, none⟩) ts.length cap, .int .i64 k0] w fun e w' => (∃ k1 : Int, 1 ≤ k1 ∧ k1 ≤ 10000000 ∧ e = .returned (.int .i64 k1)) ∧ GIn (lo 0) (lo ts.length) w w' := by
  obtain ⟨hn, hat⟩ := hsm
  have HSM := hidP hat
  have HP := hidP hp
  have HKE : Hid (∀ k : Nat, tot (fun j => wtot (wnth ts j)) (k + 1) = tot (fun j => wtot (wnth ts j)) k + wtot (wnth ts k)) := fun k => rfl
  have HTM : Hid (∀ k, k ≤ ts.length → tot (fun j => wtot (wnth ts j)) k ≤ 1048576) := fun k hk => by
    have h1 : ∀ m, k ≤ m → tot (fun j => wtot (wnth ts j)) k ≤ tot (fun j => wtot (wnth ts j)) m := by
      intro m
      induction m with
      | zero => intro h; rw [show k = 0 by omega]; exact Nat.le_refl _
      | succ m ih =>
        intro h
        rcases Nat.lt_or_ge k (m + 1) with e | e
        · exact Nat.le_trans (ih (by omega)) (Nat.le_add_right _ _)
        · rw [show k = m + 1 by omega]; exact Nat.le_refl _
    have := h1 ts.length hk
    unfold ttot at htot
    omega
  clear hat hp htot
  go_enter Tryz.func145, Tryz.ntmps145
  go_wp2
  go_loopw [1, 5] (fun kk i wr => ∃ (k : Nat) (k1 : Int), k ≤ ts.length ∧ i = .int .i64 k ∧ kk = .int .i64 k1 ∧ 1 ≤ k1 ∧ k1 ≤ k0 + (tot (fun j => wtot (wnth ts j)) k : Nat) ∧ GIn (lo 0) (lo k) w wr) (fun _ i _ => ts.length - (intOf i).toNat)
  case atStart => exact ⟨0, k0, Nat.zero_le _, rfl, rfl, h0, by simp [tot], GIn.refl _ _ _⟩
  case round =>
    obtain ⟨k, k1, hk, rfl, rfl, hk0, hk1, hg⟩ := hrel
    have HK1 := hidP hk1
    have hkb : k1 ≤ 3048577 := by have := HTM.out k hk; omega
    clear hk1
    have HG := hidP hg
    have hb := HP.out.lt
    have hf := HP.out.first
    by_cases hlt : k < ts.length
    · obtain ⟨bm, bl, c0, c1, hown⟩ := HP.out.at_ k hlt
      have h0k := HP.out.lo_le k (by omega)
      have hkl := HP.out.le_last (k + 1) (by omega)
      have hmo := HP.out.mono k hlt
      have hlast := HP.out.last
      have eb := hg.2.2.2.2 b hb (Or.inl hf)
      have hzr := hg.2.2.2.1
      have c0r := (World.cell?_of_block (a := ⟨b, k * 2, none⟩) eb).trans c0
      have c1r := (World.cell?_of_block (a := ⟨b, k * 2 + 1, none⟩) eb).trans c1
      have HOW := hidP (hown.far (w' := wr) hzr (fun j hj1 hj2 => hg.2.2.2.2 j (by omega) (Or.inr hj1)))
      have hlo := hown.lo
      have hblt := hown.lt
      have hbh : bl < lo (k + 1) := hown.co.2.1
      have hbmh : bm < wr.heap.size := by have := hown.hi; omega
      have HM := hidP (markMg bm bl (wnth ts k).1.length k1 (wnth ts k).1 wr HOW.out.mo (HSM.out k).1 hk0 (by omega))
      have HWT : Hid (wtot (wnth ts k) = mtot (wnth ts k).1 + ctot (wnth ts k).2) := rfl
      have hmt : (mtot (wnth ts k).1 : Int) ≤ 1048576 := by have := HTM.out (k + 1) (by omega); have := HKE.out k; have := HWT.out; omega
      clear hg hown c0 c1 eb
      generalize hml : (wnth ts k).1.length = ml at *
      generalize hll : (wnth ts k).2.length = ll at *
      go_wp2_with fail
      refine HM.out.mono ?_
      rintro e w2 ⟨rfl, g2⟩
      have eb2 := g2.2.2.2.2 b (by omega) (Or.inl (by omega))
      have c1s := (World.cell?_of_block (a := ⟨b, k * 2 + 1, none⟩) eb2).trans c1r
      have HC := hidP (markCg bl (lo (k + 1)) ll (k1 + mtot (wnth ts k).1) (wnth ts k).2 w2 (HOW.out.co.far g2.2.2.2.1 (fun i h1 h2 h3 => g2.2.2.2.2 i h3 (Or.inr h1))) (HSM.out k).2 (by omega) (by omega))
      rw [hll] at HC
      have HG2 := hidP (gin_trans (l := lo 0) (h := lo (k + 1)) HG.out g2 (Nat.le_refl _) (by omega) (by omega) (by omega))
      clear g2 c0r c1r eb2 HM HOW hll hml
      obtain ⟨mt, hmtE⟩ : ∃ mt : Int, (mtot (wnth ts k).1 : Int) = mt := ⟨_, rfl⟩
      rw [hmtE] at HC ⊢
      have HME := hidP hmtE
      have hmt0 : 0 ≤ mt := by omega
      clear hmtE hmt
      go_wp2_with fail
      refine HC.out.mono ?_
      rintro e w3 ⟨⟨k3, hk3, hk4, rfl⟩, g3⟩
      have HG3 := hidP (gin_trans (l := lo 0) (h := lo (k + 1)) HG2.out g3 (Nat.le_refl _) (by omega) (Nat.le_refl _) (Nat.le_refl _))
      clear g3 c1s HC
      go_wp2_with fail
      go_roundw
      case rel => exact ⟨k + 1, k3, by omega, by go_num, rfl, by omega, by have := HK1.out; have := HKE.out k; have := HWT.out; have := HME.out; omega, HG3.out⟩
      case measure => simp [intOf]; omega
    · go_wp2
      go_ret
      obtain rfl : k = ts.length := by omega
      exact ⟨⟨k1, hk0, by omega, rfl⟩, hg⟩

set_option maxRecDepth 100000 in
set_option maxHeartbeats 1000000 in
theorem markTwk (b cap : Nat) (k0 : Int) (h0 : 1 ≤ k0) (h00 : k0 ≤ 2000000) (d : Int) (ts : List Wb) (lo : Nat → Nat) (w : World) (hp : WbPart w b ts.length ts.length ts lo) (hsm : WbSmall ts) (htot : ttot ts ≤ 1048576) :
    Calls Tryz.prog 64 #[.agg #[.int .i64 d, .slice (some ⟨b, 0, none⟩) ts.length cap], .int .i64 k0] w fun e w' => (∃ k1 : Int, 1 ≤ k1 ∧ k1 ≤ 10000000 ∧ e = .returned (.int .i64 k1)) ∧ GIn (lo 0) (lo ts.length) w w' := by
  obtain ⟨W, hW⟩ : ∃ W, w.alloc (.cells #[.int .i64 d, .slice (some ⟨b, 0, none⟩) ts.length cap] 47) = W := ⟨_, rfl⟩
  have hB : Below w.heap.size w W := by rw [← hW]; exact (Below.refl _ _).alloc (Nat.le_refl _) _
  have k1 : W.cell? ⟨w.heap.size, 1, none⟩ = some (.slice (some ⟨b, 0, none⟩) ts.length cap) := by rw [← hW]; simp
  have HC := hidP (markWSk b cap k0 h0 h00 ts lo W (hp.next hB) hsm htot)
  have HB := hidP hB
  clear hp hB hsm htot
  go_enter Tryz.func64, Tryz.ntmps64
  go_wp2_with fail
  refine HC.out.mono ?_
  rintro e w1 ⟨⟨r, hr1, hr2, rfl⟩, g1⟩
  have HG := hidP g1
  clear g1 hW k1
  go_wp2_with fail
  go_ret
  refine ⟨⟨r, hr1, hr2, rfl⟩, HG.out.1.trans HB.out.os, HG.out.2.1.trans HB.out.tape, HG.out.2.2.1.trans HB.out.output, Nat.le_trans HB.out.size HG.out.2.2.2.1, fun i hi hc => ?_⟩
  exact (HG.out.2.2.2.2 i (by have := HB.out.size; omega) hc).trans (HB.out.block i hi)

set_option maxRecDepth 100000 in
set_option maxHeartbeats 2000000 in
theorem markSt (bm hi b : Nat) (wd : Int) (ms : List Mk) (d : Int) (ts : List Wb) (nx : Int) (lo : Nat → Nat) (w : World) (ho : StOwn w bm hi b ms ts lo) (hsm : StSmall ms ts) :
    Calls Tryz.prog 72 #[.agg #[.int .i64 wd, .slice (some ⟨bm, 0, none⟩) ms.length ms.length, .int .i64 d, .slice (some ⟨b, 0, none⟩) ts.length ts.length, .int .i64 nx], .int .i64 1] w fun e w' => (∃ k1 : Int, 1 ≤ k1 ∧ k1 ≤ 10000000 ∧ e = .returned (.int .i64 k1)) ∧ GIn bm (lo ts.length) w w' := by
  obtain ⟨W, hW⟩ : ∃ W, w.alloc (.cells #[.int .i64 wd, .slice (some ⟨bm, 0, none⟩) ms.length ms.length, .int .i64 d, .slice (some ⟨b, 0, none⟩) ts.length ts.length, .int .i64 nx] 64) = W := ⟨_, rfl⟩
  have hB : Below w.heap.size w W := by rw [← hW]; exact (Below.refl _ _).alloc (Nat.le_refl _) _
  have hI : StIn true W w.heap.size (some ⟨bm, 0, none⟩) (some ⟨b, 0, none⟩) ms.length ts.length wd ms d ts nx := by rw [← hW]; exact StIn.box ho.mview ho.wview
  have hoW := ho.next hB
  have hlast := ho.webs.last
  have hfi := ho.webs.first
  have hll := ho.webs.le_last 0 (Nat.zero_le _)
  have h1 := ho.first
  have h2 := ho.last
  have hmt : (mtot ms : Int) ≤ 1048576 := by have := hsm.2.2; omega
  have hmt0 : (0 : Int) ≤ (mtot ms : Int) := Int.natCast_nonneg _
  have k1 := hI.c1
  have HI := hidP hI
  have HB := hidP hB
  have HO := hidP hoW
  have HM := hidP (markMg bm hi ms.length 1 ms W hoW.over hsm.1 (by omega) (by omega))
  have HT := hidP (fun (W' : World) (hp : WbPart W' b ts.length ts.length ts lo) => markTwk b ts.length (1 + mtot ms) (by omega) (by omega) d ts lo W' hp hsm.2.1 (by have := hsm.2.2; omega))
  clear ho hoW hB hI hsm
  obtain ⟨mt, hmtE⟩ : ∃ mt : Int, (mtot ms : Int) = mt := ⟨_, rfl⟩
  rw [hmtE] at HM HT hmt hmt0
  clear hmtE
  go_enter Tryz.func72, Tryz.ntmps72
  go_wp2_with fail
  refine HM.out.mono ?_
  rintro e w1 ⟨rfl, g1⟩
  have hlt := HI.out.lt
  have eb := g1.2.2.2.2 w.heap.size hlt (Or.inr (by omega))
  have c2 := (World.cell?_of_block (a := ⟨w.heap.size, 2, none⟩) eb).trans HI.out.c2
  have c3 := (World.cell?_of_block (a := ⟨w.heap.size, 3, none⟩) eb).trans HI.out.c3
  have HC := hidP (HT.out w1 (HO.out.webs.far g1.2.2.2.1 (fun i h1 h3 => g1.2.2.2.2 i h3 (Or.inr (by omega)))))
  have HG := hidP g1
  clear g1 eb k1 hW HM HT
  go_wp2_with fail
  refine HC.out.mono ?_
  rintro e w2 ⟨⟨k2, hk1, hk2, rfl⟩, g2⟩
  have HG2 := hidP (gin_trans (l := bm) (h := lo ts.length) HG.out g2 (Nat.le_refl _) (by omega) (by omega) (Nat.le_refl _))
  clear g2 c2 c3 HC
  go_wp2_with fail
  go_ret
  refine ⟨⟨k2, hk1, hk2, rfl⟩, HG2.out.1.trans HB.out.os, HG2.out.2.1.trans HB.out.tape, HG2.out.2.2.1.trans HB.out.output, Nat.le_trans HB.out.size HG2.out.2.2.2.1, fun i hi hc => ?_⟩
  exact (HG2.out.2.2.2.2 i (by have := HB.out.size; omega) hc).trans (HB.out.block i hi)
end Go.Proofs.YtfbhohpbhjlihaaGreat
