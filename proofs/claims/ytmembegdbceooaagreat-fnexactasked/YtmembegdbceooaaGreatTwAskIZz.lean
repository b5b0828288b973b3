/-
  The program's Asked: peak, descended, Asked.
-/
import Derived.Test.YtmembegdbceooaaGreatTwAskZz
import Derived.Test.YtmembegdbceooaaGreatTwImpZz
import Derived.Test.YtmembegdbceooaaGreatFgAZz
import Derived.Test.YtmembegdbceooaaGreatKSuitZz
import Derived.Test.YtmembegdbceooaaGreatMathZz
import Derived.Test.YtmembegdbceooaaGreatLastZz
namespace Go.Proofs.YtmembegdbceooaaGreat
open Go Go.RowKit

theorem HRow.take15 {base : Nat} {w : World} {g c : Nat} {hs : List Ht} (h : HRow base w g c hs) (m : Nat) (hm : m ≤ hs.length) : HRow base w g c (hs.take m) := by
  obtain ⟨h1, h2⟩ := h
  rcases h2 with ⟨e, _⟩ | ⟨g', cp, cur, e, hb, hg, hnc, hcm, hsz, htk⟩
  · cases e
  · injection e with e1 e2 e3
    injection e1 with e1
    injection e1 with e1
    subst e1 e3
    refine ⟨hCells_length _, Or.inr ⟨g, c, cur, rfl, hb, hg, by simp; omega, hcm, hsz, ?_⟩⟩
    have e1 : (hs.take m).length = m := by simp; omega
    have e2 : hCells hs = hCells (hs.take m) ++ hCells (hs.drop m) := by rw [← hCells_append, List.take_append_drop]
    have e3 : cur.toList.take (m * 2) = (cur.toList.take (hs.length * 2)).take (m * 2) := by rw [List.take_take]; congr 1; omega
    rw [e1, e3, htk, e2, List.take_left' (by rw [hCells_length, e1])]
theorem HOut.take15 {base : Nat} {w : World} {a : Option Addr} {n c : Nat} {hs : List Ht} (h : HOut base w (.slice a n c) hs) (m : Nat) (hm : m ≤ hs.length) : HOut base w (.slice a m c) (hs.take m) := by
  rcases h with ⟨e, rfl⟩ | ⟨g, c', e, hr⟩
  · injection e with e1 e2 e3
    subst e1 e3
    have : m = 0 := by simpa using hm
    subst this
    exact Or.inl ⟨rfl, rfl⟩
  · injection e with e1 e2 e3
    subst e1 e3
    exact Or.inr ⟨g, c, by congr 1; simp; omega, hr.take15 m hm⟩
theorem HOut.cap15 {base : Nat} {w : World} {a : Option Addr} {n c : Nat} {hs : List Ht} (h : HOut base w (.slice a n c) hs) : hs.length ≤ c ∧ (hs ≠ [] → a ≠ none) := by
  rcases h with ⟨e, rfl⟩ | ⟨g, c', e, hr⟩
  · exact ⟨by simp, fun h => absurd rfl h⟩
  · injection e with e1 e2 e3
    subst e1 e3
    exact ⟨hr.cap, fun _ => by simp⟩

set_option maxRecDepth 100000 in
set_option maxHeartbeats 2000000 in
theorem iPeak (s : Bool) (aw : Option Addr) (cw : Nat) (d : Int) (ts : List Wb) (w : World) (hv : WbView s w aw ts) (hlen : ts.length = 4) (hsm : WbSmall ts) :
    Calls Tryz.prog 159 #[.agg #[.int .i64 d, .slice aw 4 cw]] w fun e w' => (∃ p : Nat, e = .returned (.int .i64 p) ∧ p ≤ 3 ∧ (p < 3 → (wnth ts (p + 1)).1.length = 0) ∧ (0 < p → 0 < (wnth ts p).1.length)) ∧ Below w.heap.size w w' := by
  obtain ⟨W, hW⟩ : ∃ W, w.alloc (.cells #[.int .i64 d, .slice aw 4 cw] 47) = W := ⟨_, rfl⟩
  have hB : Below w.heap.size w W := by rw [← hW]; exact (Below.refl _ _).alloc (Nat.le_refl _) _
  have hI : TwIn s W w.heap.size d aw cw ts := by rw [← hW, ← hlen]; exact TwIn.box hv
  have k1 := hI.c1
  rw [hlen] at k1
  have HB := hidP hB
  have HI := hidP hI
  have HLEN := hidP hlen
  have HSM := hidP hsm.2
  clear hv hB hI hlen hsm
  go_enter Tryz.func159, Tryz.ntmps159
  go_wp2_with fail
  go_loopw [3] (fun nv wr => ∃ n : Nat, n ≤ 3 ∧ nv = .int .i64 n ∧ (0 < n → 0 < (wnth ts n).1.length) ∧ wr = W) (fun nv _ => 3 - (intOf nv).toNat)
  case atStart => exact ⟨0, by omega, rfl, fun h => by omega, rfl⟩
  case round =>
    obtain ⟨n, hn, rfl, hpos, hwr⟩ := hrel
    subst hwr
    have HP := hidP hpos
    clear hpos
    by_cases hlt : n < 3
    · have hlti : (n : Int) < 3 := by omega
      obtain ⟨b, off, am, cm, al, cl, rfl, hb, c0, c1, -, -, -⟩ := HI.out.web (n := n + 1) (by rw [HLEN.out]; omega)
      have hi0 : (0 : Int) ≤ (n : Int) + 1 := by omega
      have hi1 : (n : Int) + 1 < 4 := by omega
      have hl := ((HSM.out (n + 1)).1).1
      by_cases hl0 : (wnth ts (n + 1)).1.length = 0
      · have hgt : ¬ (((wnth ts (n + 1)).1.length : Int) > 0) := by omega
        have HZ := hidP hl0
        clear hl0
        obtain ⟨l1, hl1⟩ : ∃ l1, (wnth ts (n + 1)).1.length = l1 := ⟨_, rfl⟩
        rw [hl1] at c0 hgt hl
        clear hl1
        go_wp2_with fail
        go_ret
        exact ⟨⟨n, rfl, hn, fun _ => by first | exact HZ.out | exact List.length_eq_zero_iff.1 HZ.out, HP.out⟩, HB.out⟩
      · have hgt : ((wnth ts (n + 1)).1.length : Int) > 0 := by omega
        have HZ : Hid (0 < (wnth ts (n + 1)).1.length) := by show 0 < _; omega
        have hw1 : IntKind.i64.wrap ((n : Int) + 1) = (n : Int) + 1 := IntWalk.i64_in _ ⟨by omega, by omega⟩
        clear hl0
        obtain ⟨l1, hl1⟩ : ∃ l1, (wnth ts (n + 1)).1.length = l1 := ⟨_, rfl⟩
        rw [hl1] at c0 hgt hl
        clear hl1
        go_wp2_with fail
        go_roundw
        case rel => exact ⟨n + 1, by omega, by go_num, fun _ => HZ.out, by first | trivial | rfl⟩
        case measure => simp [intOf]; omega
    · have hlti : ¬ (n : Int) < 3 := by omega
      obtain rfl : n = 3 := by omega
      go_wp2_with fail
      go_ret
      exact ⟨⟨3, rfl, by omega, fun h => by omega, HP.out⟩, HB.out⟩

set_option maxRecDepth 100000 in
set_option maxHeartbeats 4000000 in
theorem iDesc (aw aq : Option Addr) (cw cq : Nat) (d : Int) (ts : List Wb) (q : List Int) (w : World) (hv : WbView true w aw ts) (hq : View w aq q) (hsm : WbSmall ts) (hql : q.length ≤ 1048576) (hqc : q.length ≤ cq) (ht : towB d ts = true) (hto : toldB (wnth ts 0).1 q = true) (h0 : 0 < (wnth ts 0).1.length) :
    Calls Tryz.prog 95 #[.agg #[.int .i64 d, .slice aw 4 cw], .slice aq q.length cq] w fun e w' => e = .returned (.int .i64 (curD ts q 0)) ∧ Below w.heap.size w w' := by
  have hlen := (tow_at ht).1
  obtain ⟨W, hW⟩ : ∃ W, w.alloc (.cells #[.int .i64 d, .slice aw 4 cw] 47) = W := ⟨_, rfl⟩
  have hB : Below w.heap.size w W := by rw [← hW]; exact (Below.refl _ _).alloc (Nat.le_refl _) _
  have hI : TwIn true W w.heap.size d aw cw ts := by rw [← hW, ← hlen]; exact TwIn.box hv
  have k0 := hI.c0
  have k1 := hI.c1
  rw [hlen] at k1
  have HPK := hidP (iPeak true aw cw d ts W hI.wv hlen hsm)
  have HB := hidP hB
  have HI := hidP hI
  have HQ := hidP (hq.next hB)
  have HLEN := hidP hlen
  have HSM := hidP hsm.2
  have HT := hidP ht
  have HTO := hidP hto
  have H0 := hidP h0
  clear hv hq hB hI hlen hsm ht hto h0
  go_enter Tryz.func95, Tryz.ntmps95
  go_wp2_with fail
  refine HPK.out.mono ?_
  rintro e w1 ⟨⟨p, rfl, hp3, hpu, hpn⟩, L1⟩
  have HCP := hidP (cur_peak (q := q) HT.out hp3 hpu)
  have HNE : Hid (0 < (wnth ts p).1.length) := by
    show 0 < _
    rcases Nat.eq_zero_or_pos p with e | e
    · rw [e]; exact H0.out
    · exact hpn e
  have hI1 := HI.out.below L1
  replace k1 := hI1.c1
  rw [HLEN.out] at k1
  obtain ⟨b, off, am, cm, al, cl, rfl, hb, c0, c1, hm, hc, -⟩ := hI1.web (n := p) (by rw [HLEN.out]; omega)
  have hne := HNE.out
  obtain ⟨mb, mo, rfl, hmb, hms⟩ := MSeg.seg hm hne
  have cid : w1.cell? ⟨mb, mo, none⟩ = some (.int .i64 (mid (wnth ts p).1 0)) := by have := (hms.at (i := 0) hne).1; simpa using this
  have hpos : (0 : Int) < ((wnth ts p).1.length : Int) := by omega
  have hp0 : (0 : Int) ≤ (p : Int) := Int.natCast_nonneg _
  have hp4 : (p : Int) < 4 := by omega
  have HL1 := hidP L1
  clear hpu hpn L1 hI1 hm hc hms k0 hW HPK
  rw [← HCP.out] at cid
  obtain ⟨l1, hl1⟩ : ∃ l1, (wnth ts p).1.length = l1 := ⟨_, rfl⟩
  rw [hl1] at c0 hpos hne
  clear hl1
  go_wp2_with fail
  clear cid c0 c1 k1 HCP hpos hne
  go_loopw [5, 6] (fun nv fv wr => ∃ n : Nat, n ≤ 3 ∧ nv = .int .i64 n ∧ fv = .int .i64 (curD ts q n) ∧ 0 < (wnth ts n).1.length ∧ Below W.heap.size W wr) (fun nv _ _ => (intOf nv).toNat)
  case atStart => exact ⟨p, hp3, rfl, rfl, HNE.out, HL1.out⟩
  case round =>
    obtain ⟨n, hn, rfl, rfl, hnl, L⟩ := hrel
    have HL := hidP L
    have hIr := HI.out.below L
    clear L
    by_cases hn0 : 0 < n
    · have hngt : (n : Int) > 0 := by omega
      have hni : (0 : Int) ≤ (n : Int) := Int.natCast_nonneg _
      have hn4 : (n : Int) < 4 := by omega
      obtain ⟨j, hj⟩ : ∃ j, n - 1 = j := ⟨_, rfl⟩
      have hwj : IntKind.i64.wrap ((n : Int) - 1) = (j : Int) := by rw [IntWalk.i64_in _ ⟨by omega, by omega⟩]; omega
      have HNJ : Hid (n = j + 1) := by show n = _; omega
      clear hj
      obtain ⟨b2, off2, am2, cm2, al2, cl2, eb, hb2, d0, d1, hm2, hc2, hcap⟩ := hIr.web (n := n) (by rw [HLEN.out]; omega)
      injection eb with eb
      injection eb with eb1 eb2
      subst eb1 eb2
      have k1 := hIr.c1
      rw [HLEN.out] at k1
      have HIN := hidP (cur_in HT.out HTO.out hn hnl)
      have HWL : Hid (walkL (wnth ts n).1 (wnth ts n).2 (curD ts q n) q = walkG (wnth ts n).1 (wnth ts n).2 q (curD ts q n)) := by show _ = _; unfold walkL; rw [if_pos HIN.out]
      have HWK := hidP (iWalk14 am2 cm2 (wnth ts n).1 al2 cl2 (wnth ts n).2 (curD ts q n) aq cq q wr hm2 hc2 (HQ.out.next HL.out) (HSM.out n).1 (HSM.out n).2 hql (hcap rfl).1 (hcap rfl).2 hqc)
      rw [HWL.out] at HWK
      have HLA := hidP (walk_last HIN.out).1
      have HST := hidP ((cur_step HT.out HTO.out (n := j) (by have := HNJ.out; omega) (by rw [← HNJ.out]; exact hnl)).1)
      rw [← HNJ.out] at HST
      have HSH : Hid ((walkG (wnth ts n).1 (wnth ts n).2 q (curD ts q n)).length ≤ 61) := by
        show _ ≤ _
        have h1 := walkG_short (ms := (wnth ts n).1) (ls := (wnth ts n).2) (q := q) (curD ts q n)
        have h2 := marksB_len (web_marks (tow_web HT.out (n := n) (by omega)))
        omega
      have HJN : Hid (0 < (wnth ts j).1.length) := by
        show 0 < _
        rcases Nat.eq_zero_or_pos (wnth ts j).1.length with e | e
        · have := bear_empty (tow_bear HT.out (n := j) (by have := HNJ.out; omega)) e
          rw [← HNJ.out] at this
          omega
        · exact e
      generalize hwk : walkG (wnth ts n).1 (wnth ts n).2 q (curD ts q n) = wl at *
      clear hwk hm2 hc2 hIr hcap HIN HWL
      generalize curD ts q n = fr at *
      generalize (wnth ts n).1.length = l3 at *
      generalize (wnth ts n).2.length = l4 at *
      go_wp2_with fail
      refine HWK.out.mono ?_
      rintro e w3 ⟨a3, c3, rfl, hout, L3⟩
      have hpl := HLA.out
      have hp61 := HSH.out
      obtain ⟨b3, off3, rfl, hb3, hs3⟩ : ∃ b off, a3 = some ⟨b, off, none⟩ ∧ b < w3.heap.size ∧ Seg w3 b off wl := by
        rcases hout.slice with h | h
        · rw [h] at hpl; simp at hpl
        · exact h
      have cl3 := hs3 (wl.length - 1) (by omega)
      have HLI : Hid (nth wl (wl.length - 1) = lastI wl) := rfl
      rw [HLI.out] at cl3
      have HL3 := hidP (chain HL.out L3)
      have hwl : IntKind.i64.wrap ((wl.length : Int) - 1) = ((wl.length - 1 : Nat) : Int) := by rw [IntWalk.i64_in _ ⟨by omega, by omega⟩]; omega
      have hj0 : (0 : Int) ≤ ((wl.length - 1 : Nat) : Int) := Int.natCast_nonneg _
      have hj1 : ((wl.length - 1 : Nat) : Int) < (wl.length : Int) := by omega
      clear hout L3 hs3 HLI
      generalize wl.length - 1 = jj at *
      go_wp2_with fail
      go_roundw
      case rel => exact ⟨j, by have := HNJ.out; omega, by go_num, by rw [HST.out], HJN.out, HL3.out⟩
      case measure => have := HNJ.out; simp [intOf]; omega
    · have hngt : ¬ ((n : Int) > 0) := by omega
      obtain rfl : n = 0 := by omega
      clear hIr
      go_wp2_with fail
      go_ret
      exact ⟨rfl, chain HB.out HL.out⟩

theorem maxK_max (k : Int) : max k 4 = maxK k := by unfold maxK; split <;> omega

set_option maxRecDepth 100000 in
set_option maxHeartbeats 8000000 in
theorem iAsked (aw aq : Option Addr) (cw cq : Nat) (d : Int) (ts : List Wb) (q : List Int) (k : Int) (w : World) (hv : WbView true w aw ts) (hq : View w aq q) (hsm : WbSmall ts) (hql : q.length ≤ 1048576) (hqc : q.length ≤ cq) :
    Calls Tryz.prog 24 #[.agg #[.int .i64 d, .slice aw ts.length cw], .slice aq q.length cq, .int .i64 k] w fun e w' => ∃ a c, e = .returned (.slice a (askL d ts q k).length c) ∧ HOut w.heap.size w' (.slice a (askL d ts q k).length c) (askL d ts q k) ∧ Below w.heap.size w w' := by
  obtain ⟨W, hW⟩ : ∃ W, w.alloc (.cells #[.int .i64 d, .slice aw ts.length cw] 47) = W := ⟨_, rfl⟩
  have hB : Below w.heap.size w W := by rw [← hW]; exact (Below.refl _ _).alloc (Nat.le_refl _) _
  have hI : TwIn true W w.heap.size d aw cw ts := by rw [← hW]; exact TwIn.box hv
  have HT := hidP (iTowerOk aw cw d ts W hI.wv hsm)
  have HCK := hidP (iCount k W)
  have HB := hidP hB
  have HI := hidP hI
  have k0 := hI.c0
  have k1 := hI.c1
  have HQ := hidP (hq.next hB)
  have HSM := hidP hsm
  have HN : Hid (∀ W', HOut w.heap.size W' (.slice none 0 0) []) := fun W' => Or.inl ⟨rfl, rfl⟩
  clear hv hq hB hI hsm
  rcases hk : countB k with _ | _
  · have HV := hidP (askL_no (d := d) (ts := ts) (q := q) (Or.inr (Or.inr hk)))
    rw [hk] at HCK
    rw [HV.out]
    clear hk HV
    go_enter Tryz.func24, Tryz.ntmps24
    go_wp2_with fail
    refine HCK.out.mono ?_
    rintro e w1 ⟨rfl, hw1⟩
    subst hw1
    go_wp2_with fail
    go_ret
    exact ⟨none, 0, rfl, HN.out _, HB.out⟩
  rw [hk] at HCK
  have HKB := hidP hk
  clear hk
  rcases ht : towB d ts with _ | _
  · have HV := hidP (askL_no (q := q) (k := k) (Or.inl ht))
    rw [ht] at HT
    rw [HV.out]
    clear ht HV
    go_enter Tryz.func24, Tryz.ntmps24
    go_wp2_with fail
    refine HCK.out.mono ?_
    rintro e w1 ⟨rfl, hw1⟩
    subst hw1
    go_wp2_with fail
    refine HT.out.mono ?_
    rintro e w2 ⟨rfl, L2⟩
    have HL2 := hidP (chain HB.out L2)
    clear L2
    go_wp2_with fail
    go_ret
    exact ⟨none, 0, rfl, HN.out _, HL2.out⟩
  rw [ht] at HT
  have hlen := (tow_at ht).1
  have HTT := hidP ht
  have HLEN := hidP hlen
  rw [hlen] at k1 hW HT ⊢
  clear ht hlen
  obtain ⟨R, hR⟩ : ∃ R, toldB (wnth ts 0).1 q = R := ⟨_, rfl⟩
  have HSU : Hid (∀ W', Below W.heap.size W W' → ∃ b off am cm al cl, aw = some ⟨b, off, none⟩ ∧ b < W'.heap.size ∧ W'.cell? ⟨b, off, none⟩ = some (.slice am (wnth ts 0).1.length cm) ∧ W'.cell? ⟨b, off + 1, none⟩ = some (.slice al (wnth ts 0).2.length cl) ∧ MView W' am (wnth ts 0).1 ∧ CView W' al (wnth ts 0).2 ∧ (wnth ts 0).1.length ≤ cm ∧ (wnth ts 0).2.length ≤ cl ∧ Calls Tryz.prog 93 #[.slice aq q.length cq, .slice am (wnth ts 0).1.length cm] W' fun e w' => e = .returned (.bool R) ∧ Below W'.heap.size W' w') := fun W' L' => by
    have hI' := HI.out.below L'
    obtain ⟨b, off, am, cm, al, cl, e, hb, c0, c1, hm, hc, hcap⟩ := hI'.web (n := 0) (by rw [HLEN.out]; omega)
    rw [Nat.zero_mul, Nat.add_zero] at c0 c1
    refine ⟨b, off, am, cm, al, cl, e, hb, c0, c1, hm, hc, (hcap rfl).1, (hcap rfl).2, ?_⟩
    have hh := iSuits am aq cm cq (wnth ts 0).1 q W' hm (HQ.out.next L') (HSM.out.2 0).1 hql
    rw [hR] at hh
    exact hh
  have HRR := hidP hR
  clear hR
  cases R with
  | false =>
    have HV := hidP (askL_no (d := d) (k := k) (Or.inr (Or.inl HRR.out)))
    rw [HV.out]
    clear HV
    go_enter Tryz.func24, Tryz.ntmps24
    go_wp2_with fail
    refine HCK.out.mono ?_
    rintro e w1 ⟨rfl, hw1⟩
    subst hw1
    go_wp2_with fail
    refine HT.out.mono ?_
    rintro e w2 ⟨rfl, L2⟩
    have k1' := (HI.out.below L2).c1
    rw [HLEN.out] at k1'
    obtain ⟨b, off, am, cm, al, cl, rfl, hb, c0, c1, -, -, -, -, hc⟩ := HSU.out w2 L2
    have HC := hidP hc
    have HL2 := hidP (chain HB.out L2)
    clear L2 hc k0 k1 hW HT HCK
    go_wp2_with fail
    refine HC.out.mono ?_
    rintro e w3 ⟨rfl, L3⟩
    have HL3 := hidP (chain HL2.out L3)
    clear L3 c0 c1 k1'
    go_wp2_with fail
    go_ret
    exact ⟨none, 0, rfl, HN.out _, HL3.out⟩
  | true =>
    have HV := hidP (askL_yes HTT.out HRR.out HKB.out)
    rw [HV.out]
    clear HV
    by_cases hl0 : (wnth ts 0).1.length = 0
    · have HV := hidP (askG_none (q := q) (k := k) hl0)
      rw [HV.out]
      clear HV
      go_enter Tryz.func24, Tryz.ntmps24
      go_wp2_with fail
      refine HCK.out.mono ?_
      rintro e w1 ⟨rfl, hw1⟩
      subst hw1
      go_wp2_with fail
      refine HT.out.mono ?_
      rintro e w2 ⟨rfl, L2⟩
      have k1' := (HI.out.below L2).c1
      rw [HLEN.out] at k1'
      obtain ⟨b, off, am, cm, al, cl, rfl, hb, c0, c1, -, -, -, -, hc⟩ := HSU.out w2 L2
      have HC := hidP hc
      have HL2 := hidP L2
      clear L2 hc k0 k1 hW HT HCK
      rw [hl0] at HC c0
      go_wp2_with fail
      refine HC.out.mono ?_
      rintro e w3 ⟨rfl, L3⟩
      have HL3 := hidP (chain HL2.out L3)
      have k3 := (HI.out.below HL3.out).c1
      rw [HLEN.out] at k3
      have c3 := (L3.cell (p := ⟨b, off, none⟩) hb).trans c0
      clear L3 c0 c1 k1' hl0
      go_wp2_with fail
      go_ret
      exact ⟨none, 0, rfl, HN.out _, chain HB.out HL3.out⟩
    · have HL0 : Hid (0 < (wnth ts 0).1.length) := by show 0 < _; omega
      have hkm := maxK_ok HKB.out
      have HIN := hidP (cur_in HTT.out HRR.out (n := 0) (by omega) HL0.out)
      have HAS : Hid (askG ts q k = (beamL (wnth ts 0).1 (wnth ts 0).2 (curD ts q 0) q (maxK k)).take k.toNat) := rfl
      obtain ⟨bs, hbs⟩ : ∃ bs, beamL (wnth ts 0).1 (wnth ts 0).2 (curD ts q 0) q (maxK k) = bs := ⟨_, rfl⟩
      have HB60 : Hid (bs.length ≤ 60) := by show _ ≤ _; rw [← hbs]; exact (beam_ok _ _ _ _ _).2.2.2
      rw [hbs] at HAS
      have HBS := hidP hbs
      have hlne : (((wnth ts 0).1.length : Int) == 0) = false := by rw [beq_eq_false_iff_ne]; omega
      clear hbs
      go_enter Tryz.func24, Tryz.ntmps24
      go_wp2_with fail
      refine HCK.out.mono ?_
      rintro e w1 ⟨rfl, hw1⟩
      subst hw1
      go_wp2_with fail
      refine HT.out.mono ?_
      rintro e w2 ⟨rfl, L2⟩
      have k1' := (HI.out.below L2).c1
      rw [HLEN.out] at k1'
      obtain ⟨b, off, am, cm, al, cl, rfl, hb, c0, c1, -, -, -, -, hc⟩ := HSU.out w2 L2
      have HC := hidP hc
      have HL2 := hidP L2
      clear L2 hc k0 k1 hW HT HCK
      go_wp2_with fail
      refine HC.out.mono ?_
      rintro e w3 ⟨rfl, L3⟩
      have HL3 := hidP (chain HL2.out L3)
      clear L3 c0 c1 k1' HC
      have hI3 := HI.out.below HL3.out
      have HX3 := hI3.lt
      have t0 := hI3.c0
      have t1 := hI3.c1
      rw [HLEN.out] at t1
      obtain ⟨b3, off3, am3, cm3, al3, cl3, eb, hb3, c0, c1, hm3, hc3, hcm, hcl, -⟩ := HSU.out w3 HL3.out
      injection eb with eb
      injection eb with eb1 eb2
      subst eb1 eb2
      have HK : Hid (∀ W', Below w3.heap.size w3 W' → (W'.cell? ⟨w.heap.size, 0, none⟩ = some (.int .i64 d) ∧ W'.cell? ⟨w.heap.size, 1, none⟩ = some (.slice (some ⟨b, off, none⟩) 4 cw)) ∧ W'.cell? ⟨b, off, none⟩ = some (.slice am3 (wnth ts 0).1.length cm3) ∧ W'.cell? ⟨b, off + 1, none⟩ = some (.slice al3 (wnth ts 0).2.length cl3)) := fun W' L' => ⟨⟨(L'.cell (p := ⟨w.heap.size, 0, none⟩) HX3).trans t0, (L'.cell (p := ⟨w.heap.size, 1, none⟩) HX3).trans t1⟩, (L'.cell (p := ⟨b, off, none⟩) hb3).trans c0, (L'.cell (p := ⟨b, off + 1, none⟩) hb3).trans c1⟩
      have HDE := hidP (iDesc (some ⟨b, off, none⟩) aq cw cq d ts q w3.drew (hI3.below (Below.refl _ _).drew).wv ((HQ.out.next HL3.out).next (Below.refl _ _).drew) HSM.out hql hqc HTT.out HRR.out HL0.out)
      have HBE : Hid (∀ W', Below w3.heap.size w3 W' → Calls Tryz.prog 94 #[.agg #[.slice am3 (wnth ts 0).1.length cm3, .slice al3 (wnth ts 0).2.length cl3], .int .i64 (curD ts q 0), .slice aq q.length cq, .int .i64 (maxK k)] W' fun e w' => ∃ a c, e = .returned (.slice a bs.length c) ∧ HOut W'.heap.size w' (.slice a bs.length c) bs ∧ Below W'.heap.size W' w') := fun W' L' => by
        have hh := iBeam14 am3 cm3 (wnth ts 0).1 al3 cl3 (wnth ts 0).2 (curD ts q 0) aq cq q (maxK k) W' (hm3.next L') (hc3.next L') ((HQ.out.next HL3.out).next L') (HSM.out.2 0).1 (HSM.out.2 0).2 hql hcm hcl hqc
        rw [HBS.out] at hh
        exact hh
      clear hI3 hm3 hc3 hcm hcl
      have hmx := maxK_max k
      generalize curD ts q 0 = fr at *
      generalize (wnth ts 0).1.length = l1 at *
      generalize (wnth ts 0).2.length = l2 at *
      go_wp2_with fail
      refine wp_region_takes (S := fun w' => (w'.cell? ⟨w.heap.size, 0, none⟩ = some (.int .i64 d) ∧ w'.cell? ⟨w.heap.size, 1, none⟩ = some (.slice (some ⟨b, off, none⟩) 4 cw)) ∧ w'.cell? ⟨b, off, none⟩ = some (.slice am3 l1 cm3) ∧ w'.cell? ⟨b, off + 1, none⟩ = some (.slice al3 l2 cl3)) (fuel := 3) [0, 1, 2, 3, 4, 5, 7, 8, 9] (by kernel_rfl) (by kernel_rfl) (by kernel_rfl) (by kernel_rfl) (HK.out _ ((Below.refl w3.heap.size w3).drew)) (fun _ => ?_)
      iterate 9
        refine ⟨_, rfl, ?_⟩
        apply Exists.intro
        refine ⟨Or.inl ⟨by rfl, fun w' hw' => ?_⟩, ?_⟩
        · first
          | (go_simp; done)
          | (go_simp; with_reducible rfl)
        simp only [Act.put, List.getElem_toArray, List.getElem_cons_succ, List.getElem_cons_zero, List.setIfInBounds_toArray, List.set_cons_zero, List.set_cons_succ]
      refine calm_one 6 (by kernel_rfl) rfl (fun K hK => ?_)
      go_simp
      refine HDE.out.mono ?_
      rintro e w4 ⟨rfl, L4'⟩
      have L4 : Below w3.heap.size w3 w4 := Below.trans ((Below.refl w3.heap.size w3).drew) L4'
      refine hK.out _ _ (HK.out _ L4) (fun _ => ?_)
      clear hK K L4'
      refine calm_one 10 (by kernel_rfl) rfl (fun K hK => ?_)
      go_simp
      refine (HBE.out _ L4).mono ?_
      rintro e w5 ⟨a5, c5, rfl, hout, L5'⟩
      have HL5 := hidP (chain L4 L5')
      have HO5 : Hid (HOut w.heap.size w5 (.slice a5 bs.length c5) bs) := hout.imp id fun ⟨g, c, e, hr⟩ => ⟨g, c, e, hr.mono (by have := L4.size; have := HL3.out.size; have := HB.out.size; omega)⟩
      refine hK.out _ _ (HK.out _ HL5.out) (fun _ => ?_)
      clear hK K L5' L4 hout
      refine calm_rest [11] rfl (by kernel_rfl) (by kernel_rfl) (by kernel_rfl) (HK.out _ HL5.out) ?_
      iterate 1
        refine ⟨_, rfl, ?_⟩
        apply Exists.intro
        refine ⟨Or.inl ⟨by rfl, fun w' hw' => ?_⟩, ?_⟩
        · first
          | (go_simp; done)
          | (go_simp; with_reducible rfl)
        simp only [Act.put, List.getElem_toArray, List.getElem_cons_succ, List.getElem_cons_zero, List.setIfInBounds_toArray, List.set_cons_zero, List.set_cons_succ]
      refine NoPanic.normal (NoPanic.normal ?_)
      obtain ⟨hcap, hnn⟩ := HO5.out.cap15
      have hb60 := HB60.out
      obtain ⟨m, hm⟩ : ∃ m, min k.toNat bs.length = m := ⟨_, rfl⟩
      have hmin : min k (bs.length : Int) = (m : Int) := by rw [← hm]; omega
      have hm0 : (0 : Int) ≤ (m : Int) := Int.natCast_nonneg _
      have hmc : (m : Int) ≤ (c5 : Int) := by omega
      have HM := hidP hm
      have HF := hidP (chain HB.out (chain HL3.out HL5.out))
      clear HK HBE HL5 hm c0 c1 t0 t1 hnn
      try simp only [Exit.then]
      go_wp2_with fail
      go_ret
      rw [HAS.out]
      have hml : (bs.take k.toNat).length = m := by rw [List.length_take]; exact HM.out
      have hmb : m ≤ bs.length := by rw [← hml, List.length_take]; omega
      have het : bs.take m = bs.take k.toNat := by
        rw [← HM.out]
        rcases Nat.le_total k.toNat bs.length with h | h
        · rw [Nat.min_eq_left h]
        · rw [Nat.min_eq_right h, List.take_length, List.take_of_length_le h]
      refine ⟨a5, c5, by rw [hml]; rfl, ?_, HF.out⟩
      rw [hml, ← het]
      exact HO5.out.take15 m hmb
end Go.Proofs.YtmembegdbceooaaGreat
