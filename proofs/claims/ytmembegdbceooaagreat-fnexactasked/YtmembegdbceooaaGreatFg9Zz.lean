/-
  The program's openFirst, mayLook and lookedFrom.
-/
import Derived.Test.YtmembegdbceooaaGreatFg7Zz
import Derived.Test.YtmembegdbceooaaGreatFg1Zz
import Derived.Test.YtmembegdbceooaaGreatKSuitZz
namespace Go.Proofs.YtmembegdbceooaaGreat
open Go Go.RowKit

set_option maxRecDepth 100000 in
set_option maxHeartbeats 2000000 in
theorem iOpenFirst (W0 w : World) (G cm cl cq cs co : Nat) (am al aq as1 ao : Option Addr) (ms : List Mk) (ls : List (List Int)) (q op : List Int) (s : List Ht) (vs : List Value) (wd : Nat) (hg : Gz W0 w G am cm ms al cl ls aq cq q s op as1 cs vs ao co) (hI : LkIn W0 am ms al ls aq q) (hW : LkWeb ms ls q) (hok : LkOk ms ls (ddQ ms q) s op) (h0 : 0 < s.length) :
    Calls Tryz.prog 82 #[.pointer (some ⟨G, 0, none⟩), .int .i64 wd] w fun e w' => e = .returned (.tuple #[]) ∧ ∃ s2 op2, LkTo ms ls (ddQ ms q) wd s op s2 op2 ∧ outTo s2 op2 (min s2.length wd) < 0 ∧ ∃ as2 cs2 vs2 ao2 co2, Gz W0 w' G am cm ms al cl ls aq cq q s2 op2 as2 cs2 vs2 ao2 co2 := by
  have hm60 := marksB_len (web_marks hW.web)
  have HOK : Hid (∀ s1 op1, LkTo ms ls (ddQ ms q) wd s op s1 op1 → LkOk ms ls (ddQ ms q) s1 op1 ∧ 0 < s1.length ∧ s1.length ≤ 60 ∧ op1.length ≤ 60) := fun s1 op1 ht => by
    have h1 := ht.ok hW.web hok
    have h2 := h1.short
    have h3 := h1.shortO
    refine ⟨h1, ?_, by omega, by omega⟩
    have key : ∀ s1 op1, LkTo ms ls (ddQ ms q) wd s op s1 op1 → 0 < s1.length := by
      intro s1 op1 ht
      induction ht with
      | refl => exact h0
      | @step s op h1 h2 ih =>
        obtain ⟨-, hmem⟩ := seesD_ok (h1.ok hW.web hok).look (cn ls (zIdx ms (nextI s op wd)))
        have hin := (hmem (nextI s op wd)).2 (Or.inr (next_ok h2).2.1)
        obtain ⟨k, hk, -⟩ := idsH_at hin
        omega
    exact key s1 op1 ht
  have hlen0 := HOK.out s op LkTo.refl
  have HC0 := hidP (iClosed W0 w G cm cl cq cs co am al aq as1 ao ms ls q op s vs wd hg h0 hlen0.2.2.1 hlen0.2.2.2)
  have HG := hidP hg
  have HI := hidP hI
  have HW := hidP hW
  clear hg hI hW hok hlen0 h0
  go_enter Tryz.func82, Tryz.ntmps82
  go_wp2_with fail
  refine HC0.out.mono ?_
  rintro e w1 ⟨rfl, L1⟩
  have HG1 := hidP (HG.out.next L1)
  clear L1 HG HC0
  go_wp2_with fail
  go_loopg [4] (ms.length - op.length) (fun gk t4 wr => ∃ (s1 : List Ht) (op1 : List Int) (as2 : Option Addr) (cs2 : Nat) (vs2 : List Value) (ao2 : Option Addr) (co2 : Nat), t4 = .int .i64 (outTo s1 op1 (min s1.length wd)) ∧ ms.length - op1.length ≤ gk ∧ LkTo ms ls (ddQ ms q) wd s op s1 op1 ∧ Gz W0 wr G am cm ms al cl ls aq cq q s1 op1 as2 cs2 vs2 ao2 co2)
  case atStart => exact ⟨s, op, as1, cs, vs, ao, co, rfl, Nat.le_refl _, LkTo.refl, HG1.out⟩
  case round =>
    obtain ⟨s1, op1, as2, cs2, vs2, ao2, co2, rfl, hgk, hto, hg2⟩ := hrel
    obtain ⟨hok1, h01, hn1, ho1⟩ := HOK.out s1 op1 hto
    by_cases hlt : 0 ≤ outTo s1 op1 (min s1.length wd)
    · obtain ⟨n1, n2, n3⟩ := next_ok hlt
      have hroom := hok1.room n2 n3
      have HTO2 := hidP (hto.step hlt)
      have HNX : Hid (nextI s1 op1 wd = (hnth s1 (outTo s1 op1 (min s1.length wd)).toNat).1) := rfl
      obtain ⟨sb, rfl, -, hsl, hsc⟩ := own_cell hg2.sr (by rw [hg2.vl]; omega)
      obtain ⟨j, hj⟩ : ∃ j : Nat, outTo s1 op1 (min s1.length wd) = (j : Int) := ⟨(outTo s1 op1 (min s1.length wd)).toNat, by omega⟩
      rw [hj] at n1 HNX ⊢
      rw [Int.toNat_natCast] at n1 HNX
      have c0 := hsc j (by rw [hg2.vl]; exact n1)
      obtain ⟨-, -, -, g3, -⟩ := hg2.five.cells
      have HOP := hidP (iOpen W0 wr G cm cl cq cs2 co2 am al aq _ ao2 ms ls q op1 s1 vs2 j hg2 HI.out HW.out hok1.look hok1.find n1 ho1)
      rw [← HNX.out] at HOP
      have hj0 : (0 : Int) ≤ (j : Int) := Int.natCast_nonneg _
      have hj1 : (j : Int) < (s1.length : Int) := by omega
      have HGK : Hid (ms.length - (op1 ++ [nextI s1 op1 wd]).length < gk ∧ ms.length - (op1 ++ [nextI s1 op1 wd]).length ≤ ms.length - (op1 ++ [nextI s1 op1 wd]).length) := ⟨by simp; omega, Nat.le_refl _⟩
      clear hsc n1 n2 n3 hj hlt hok1 hto hg2 hroom HNX
      generalize nextI s1 op1 wd = x at *
      generalize vs2.getD j .nilIface = sv at *
      go_wp2_with fail
      refine HOP.out.mono ?_
      rintro e w2 ⟨rfl, as3, cs3, vs3, ao3, co3, hg3⟩
      obtain ⟨-, h03, hn3, ho3⟩ := HOK.out _ _ HTO2.out
      have HC3 := hidP (iClosed W0 w2 G cm cl cq cs3 co3 am al aq as3 ao3 ms ls q _ _ vs3 wd hg3 h03 hn3 ho3)
      have HG3 := hidP hg3
      clear hg3 h03 hn3 ho3 c0 g3
      go_wp2_with fail
      refine HC3.out.mono ?_
      rintro e w3 ⟨rfl, L3⟩
      have HG4 := hidP (HG3.out.next L3)
      clear L3
      go_wp2_with fail
      go_roundg (ms.length - (op1 ++ [x]).length)
      case rel => exact ⟨_, _, as3, cs3, vs3, ao3, co3, rfl, HGK.out.2, HTO2.out, HG4.out⟩
      case measure => exact HGK.out.1
    · have hnot : ¬ (outTo s1 op1 (min s1.length wd) ≥ 0) := hlt
      have HF := hidP (And.intro hto (And.intro (Int.not_le.1 hlt) hg2))
      clear hto hg2 hok1 hlt
      obtain ⟨t, ht⟩ : ∃ t, outTo s1 op1 (min s1.length wd) = t := ⟨_, rfl⟩
      rw [ht] at hnot ⊢
      clear ht
      go_wp2_with fail
      exact bodyPost_end (v := .tuple #[]) (by simp [results, Tryz.results82, go_sem]) rfl ⟨rfl, s1, op1, HF.out.1, HF.out.2.1, as2, cs2, vs2, ao2, co2, HF.out.2.2⟩

set_option maxRecDepth 100000 in
set_option maxHeartbeats 1000000 in
theorem iMayLook (am al aq : Option Addr) (cm cl cq : Nat) (ms : List Mk) (ls : List (List Int)) (fr : Int) (q : List Int) (w : World) (hm : MView w am ms) (hl : CView w al ls) (hq : View w aq q) (hsm : MSmall ms) (hcs : CSmall ls) (hql : q.length ≤ 1048576) (hcm : ms.length ≤ cm) (hcl : ls.length ≤ cl) :
    Calls Tryz.prog 156 #[.agg #[.slice am ms.length cm, .slice al ls.length cl], .int .i64 fr, .slice aq q.length cq] w fun e w' => e = .returned (.bool (toldW ms ls fr q)) ∧ Below w.heap.size w w' := by
  obtain ⟨W, hW⟩ : ∃ W, w.alloc (.cells #[.slice am ms.length cm, .slice al ls.length cl] 27) = W := ⟨_, rfl⟩
  have hB : Below w.heap.size w W := by rw [← hW]; exact (Below.refl _ _).alloc (Nat.le_refl _) _
  have hI : WebIn W w.heap.size am cm ms al cl ls := by rw [← hW]; exact WebIn.box hm hl
  have HOK := hidP (iWebOk14 am cm ms al cl ls W hI.mv hI.cv hsm hcs hcm hcl)
  have HB := hidP hB
  have HI := hidP hI
  have HQ := hidP (hq.next hB)
  have HSM := hidP hsm
  have k0 := hI.c0
  have k1 := hI.c1
  clear hm hl hq hB hI hsm hcs
  rcases hwb : webB ms ls with _ | _
  · have HV : Hid (toldW ms ls fr q = false) := by show _ = _; simp [toldW, hwb]
    rw [hwb] at HOK
    rw [HV.out]
    clear hwb
    go_enter Tryz.func156, Tryz.ntmps156
    go_wp2_with fail
    refine HOK.out.mono ?_
    rintro e w1 ⟨rfl, L1⟩
    have HL1 := hidP (chain HB.out L1)
    clear L1
    go_wp2_with fail
    go_ret
    exact ⟨rfl, HL1.out⟩
  · rw [hwb] at HOK
    have HWB := hidP hwb
    rcases htb : toldB ms q with _ | _
    · have HV : Hid (toldW ms ls fr q = false) := by show _ = _; simp [toldW, htb]
      rw [HV.out]
      have HT := hidP htb
      clear hwb htb
      go_enter Tryz.func156, Tryz.ntmps156
      go_wp2_with fail
      refine HOK.out.mono ?_
      rintro e w1 ⟨rfl, L1⟩
      have hI1 := HI.out.below L1
      have HL1 := hidP (chain HB.out L1)
      have HSU := hidP (iSuits am aq cm cq ms q w1 hI1.mv (HQ.out.next L1) HSM.out hql)
      rw [HT.out] at HSU
      clear L1 k0 k1 hW
      have k0 := hI1.c0
      have k1 := hI1.c1
      clear hI1
      go_wp2_with fail
      refine HSU.out.mono ?_
      rintro e w2 ⟨rfl, L2⟩
      have HL2 := hidP (chain HL1.out L2)
      clear L2 k0 k1
      go_wp2_with fail
      go_ret
      exact ⟨rfl, HL2.out⟩
    · have HV : Hid (toldW ms ls fr q = decide (0 ≤ zFind ms fr)) := by show _ = _; simp [toldW, htb, hwb]
      rw [HV.out]
      have HT := hidP htb
      clear hwb htb
      go_enter Tryz.func156, Tryz.ntmps156
      go_wp2_with fail
      refine HOK.out.mono ?_
      rintro e w1 ⟨rfl, L1⟩
      have hI1 := HI.out.below L1
      have HI1 := hidP hI1
      have HL1 := hidP (chain HB.out L1)
      have HSU := hidP (iSuits am aq cm cq ms q w1 hI1.mv (HQ.out.next L1) HSM.out hql)
      rw [HT.out] at HSU
      clear L1 k0 k1 hW
      have k0 := hI1.c0
      have k1 := hI1.c1
      clear hI1
      go_wp2_with fail
      refine HSU.out.mono ?_
      rintro e w2 ⟨rfl, L2⟩
      have hI2 := HI1.out.below L2
      have HL2 := hidP (chain HL1.out L2)
      have HPL := hidP (iPlace am al cm ls.length cl ms fr w2 hI2.mv (web_marks HWB.out))
      clear L2 k0 k1
      have k0 := hI2.c0
      have k1 := hI2.c1
      clear hI2
      obtain ⟨fb, hfb⟩ : ∃ fb, decide (0 ≤ zFind ms fr) = fb := ⟨_, rfl⟩
      have HFB := hidP hfb
      rw [hfb] at HPL
      clear hfb
      generalize plc fr ms = pn at *
      go_wp2_with fail
      refine HPL.out.mono ?_
      rintro e w3 ⟨rfl, L3⟩
      have HL3 := hidP (chain HL2.out L3)
      clear L3 k0 k1
      go_wp2_with fail
      go_ret
      exact ⟨ret_bool HFB.out.symm, HL3.out⟩

theorem gz_start (w : World) (am al aq : Option Addr) (cm cl cq : Nat) (ms : List Mk) (ls : List (List Int)) (q : List Int) (W : World) (G : Nat) (hL : Below w.heap.size w W) (hF : Fiv W G (.slice am ms.length cm) (.slice al ls.length cl) (.slice aq q.length cq) (.slice none 0 0) (.slice none 0 0) 107) (hG : w.heap.size ≤ G) : Gz w W G am cm ms al cl ls aq cq q [] [] none 0 [] none 0 :=
  ⟨hF, hG, ⟨rfl, Or.inl ⟨rfl, rfl⟩⟩, rfl, fun k hk => absurd hk (Nat.not_lt_zero _), ⟨rfl, Or.inl ⟨rfl, rfl⟩⟩, (fun e => by cases e), (fun e => by cases e), (fun g e => by cases e), hL⟩

set_option maxRecDepth 100000 in
set_option maxHeartbeats 1000000 in
theorem iLooked14 (am al aq : Option Addr) (cm cl cq : Nat) (ms : List Mk) (ls : List (List Int)) (fr : Int) (q : List Int) (wd : Nat) (w : World) (hI : LkIn w am ms al ls aq q) (hW : LkWeb ms ls q) (hf : 0 ≤ zFind ms fr) :
    Calls Tryz.prog 157 #[.agg #[.slice am ms.length cm, .slice al ls.length cl], .int .i64 fr, .slice aq q.length cq, .int .i64 wd] w fun e w' => ∃ G, e = .returned (.pointer (some ⟨G, 0, none⟩)) ∧ ∃ s2 op2, LkTo ms ls (ddQ ms q) wd [(fr, ddQ ms q fr)] [] s2 op2 ∧ outTo s2 op2 (min s2.length wd) < 0 ∧ ∃ as2 cs2 vs2 ao2 co2, Gz w w' G am cm ms al cl ls aq cq q s2 op2 as2 cs2 vs2 ao2 co2 := by
  obtain ⟨W1, hW1⟩ : ∃ W, w.alloc (.cells #[.slice am ms.length cm, .slice al ls.length cl] 27) = W := ⟨_, rfl⟩
  have L1 : Below w.heap.size w W1 := by rw [← hW1]; exact (Below.refl _ _).alloc (Nat.le_refl _) _
  have c0 : W1.cell? ⟨w.heap.size, 0, none⟩ = some (.slice am ms.length cm) := by rw [← hW1]; simp
  have c1 : W1.cell? ⟨w.heap.size, 1, none⟩ = some (.slice al ls.length cl) := by rw [← hW1]; simp
  obtain ⟨W2, hW2⟩ : ∃ W, W1.alloc (.cells #[.slice am ms.length cm, .slice al ls.length cl, .slice aq q.length cq, .slice none 0 0, .slice none 0 0] 107) = W := ⟨_, rfl⟩
  have L2 : Below W1.heap.size W1 W2 := by rw [← hW2]; exact (Below.refl _ _).alloc (Nat.le_refl _) _
  have hF : Fiv W2 W1.heap.size (.slice am ms.length cm) (.slice al ls.length cl) (.slice aq q.length cq) (.slice none 0 0) (.slice none 0 0) 107 := by rw [← hW2]; exact Fiv.new W1 _ _ _ _ _ _
  have hgz := gz_start w am al aq cm cl cq ms ls q W2 W1.heap.size (chain L1 L2) hF L1.size
  obtain ⟨hst, hok⟩ := look_start (ls := ls) (dd := ddQ ms q) hf
  have HSE := hidP (iSee w W2 W1.heap.size cm cl cq 0 0 am al aq none none ms ls q [] [] [] fr hgz hI hW (LookD.nil _) hf (Nat.zero_le _))
  rw [hst] at HSE
  have HI := hidP hI
  have HW := hidP hW
  have HOK := hidP hok
  clear L1 L2 hF hgz hst hok hI hW hf
  go_enter Tryz.func157, Tryz.ntmps157
  go_wp2_with fail
  refine HSE.out.mono ?_
  rintro e w1 ⟨rfl, as2, cs2, vs2, hg1⟩
  have HOF := hidP (iOpenFirst w w1 W1.heap.size cm cl cq cs2 0 am al aq as2 none ms ls q [] _ vs2 wd hg1 HI.out HW.out HOK.out (by simp))
  clear hg1 HSE hW1 hW2 c0 c1
  go_wp2_with fail
  refine HOF.out.mono ?_
  rintro e w2 ⟨rfl, hrest⟩
  have HR := hidP hrest
  clear hrest
  go_wp2_with fail
  go_ret
  exact ⟨W1.heap.size, rfl, HR.out⟩
end Go.Proofs.YtmembegdbceooaaGreat
