/-
  The program's Asked: peak, descended, Asked.
  Felt: both.
  The given Felt.
-/
import Derived.Test.YtfbhohpbhjlihaaGreatTwAskZz
import Derived.Test.YtfbhohpbhjlihaaGreatTwImpZz
import Derived.Test.YtfbhohpbhjlihaaGreatFgAZz
import Derived.Test.YtfbhohpbhjlihaaGreatKSuitZz
import Derived.Test.YtfbhohpbhjlihaaGreatMathZz
import Derived.Test.YtfbhohpbhjlihaaGreatLastZz
import Derived.Test.YtfbhohpbhjlihaaGreatStHasZz
import Derived.Test.YtfbhohpbhjlihaaGreatStToldZz
import Derived.Test.YtfbhohpbhjlihaaGreatTwAskSZz
namespace Go.Proofs.YtfbhohpbhjlihaaGreat
open Go Go.RowKit

theorem HRow.take15 {base : Nat} {w : World} {g c : Nat} {hs : List Ht} (h : HRow base w g c hs) (m : Nat) (hm : m ≤ hs.length) : HRow base w g c (hs.take m) := by
  obtain ⟨h1, h2⟩ := h
  rcases h2 with ⟨e, _⟩ | ⟨g', cp, cur, e, hb, hg, hnc, hcm, hsz, htk⟩
  · cases e
  · injection e with e1 e2 e3
    injection e1 with e1
    injection e1 with e1
    subst e1 e3
    refine ⟨hCells_length _, Or.inr ⟨g, c, cur, rfl, hb, hg, by simp; omega, hcm, hsz, ?_⟩⟩
    have e1 : (hs.take m).length = m := by simp; omega
    have e2 : hCells hs = hCells (hs.take m) ++ hCells (hs.drop m) := by rw [← hCells_append, List.take_append_drop]
    have e3 : cur.toList.take (m * 2) = (cur.toList.take (hs.length * 2)).take (m * 2) := by rw [List.take_take]; congr 1; omega
    rw [e1, e3, htk, e2, List.take_left' (by rw [hCells_length, e1])]
theorem HOut.take15 {base : Nat} {w : World} {a : Option Addr} {n c : Nat} {hs : List Ht} (h : HOut base w (.slice a n c) hs) (m : Nat) (hm : m ≤ hs.length) : HOut base w (.slice a m c) (hs.take m) := by
  rcases h with ⟨e, rfl⟩ | ⟨g, c', e, hr⟩
  · injection e with e1 e2 e3
    subst e1 e3
    have : m = 0 := by simpa using hm
    subst this
    exact Or.inl ⟨rfl, rfl⟩
  · injection e with e1 e2 e3
    subst e1 e3
    exact Or.inr ⟨g, c, by congr 1; simp; omega, hr.take15 m hm⟩
theorem HOut.cap15 {base : Nat} {w : World} {a : Option Addr} {n c : Nat} {hs : List Ht} (h : HOut base w (.slice a n c) hs) : hs.length ≤ c ∧ (hs ≠ [] → a ≠ none) := by
  rcases h with ⟨e, rfl⟩ | ⟨g, c', e, hr⟩
  · exact ⟨by simp, fun h => absurd rfl h⟩
  · injection e with e1 e2 e3
    subst e1 e3
    exact ⟨hr.cap, fun _ => by simp⟩

set_option maxRecDepth 100000 in
set_option maxHeartbeats 2000000 in
theorem iPeak (s : Bool) (aw : Option Addr) (cw : Nat) (d : Int) (ts : List Wb) (w : World) (hv : WbView s w aw ts) (hlen : ts.length = 4) (hsm : WbSmall ts) :
    Calls Tryz.prog 189 #[.agg #[.int .i64 d, .slice aw 4 cw]] w fun e w' => (∃ p : Nat, e = .returned (.int .i64 p) ∧ p ≤ 3 ∧ (p < 3 → (wnth ts (p + 1)).1.length = 0) ∧ (0 < p → 0 < (wnth ts p).1.length)) ∧ Below w.heap.size w w' := by
  obtain ⟨W, hW⟩ : ∃ W, w.alloc (.cells #[.int .i64 d, .slice aw 4 cw] 47) = W := ⟨_, rfl⟩
  have hB : Below w.heap.size w W := by rw [← hW]; exact (Below.refl _ _).alloc (Nat.le_refl _) _
  have hI : TwIn s W w.heap.size d aw cw ts := by rw [← hW, ← hlen]; exact TwIn.box hv
  have k1 := hI.c1
  rw [hlen] at k1
  have HB := hidP hB
  have HI := hidP hI
  have HLEN := hidP hlen
  have HSM := hidP hsm.2
  clear hv hB hI hlen hsm
  go_enter Tryz.func189, Tryz.ntmps189
  go_wp2_with fail
  go_loopw [3] (fun nv wr => ∃ n : Nat, n ≤ 3 ∧ nv = .int .i64 n ∧ (0 < n → 0 < (wnth ts n).1.length) ∧ wr = W) (fun nv _ => 3 - (intOf nv).toNat)
  case atStart => exact ⟨0, by omega, rfl, fun h => by omega, rfl⟩
  case round =>
    obtain ⟨n, hn, rfl, hpos, hwr⟩ := hrel
    subst hwr
    have HP := hidP hpos
    clear hpos
    by_cases hlt : n < 3
    · have hlti : (n : Int) < 3 := by omega
      obtain ⟨b, off, am, cm, al, cl, rfl, hb, c0, c1, -, -, -⟩ := HI.out.web (n := n + 1) (by rw [HLEN.out]; omega)
      have hi0 : (0 : Int) ≤ (n : Int) + 1 := by omega
      have hi1 : (n : Int) + 1 < 4 := by omega
      have hl := ((HSM.out (n + 1)).1).1
      by_cases hl0 : (wnth ts (n + 1)).1.length = 0
      · have hgt : ¬ (((wnth ts (n + 1)).1.length : Int) > 0) := by omega
        have HZ := hidP hl0
        clear hl0
        obtain ⟨l1, hl1⟩ : ∃ l1, (wnth ts (n + 1)).1.length = l1 := ⟨_, rfl⟩
        rw [hl1] at c0 hgt hl
        clear hl1
        go_wp2_with fail
        go_ret
        exact ⟨⟨n, rfl, hn, fun _ => by first | exact HZ.out | exact List.length_eq_zero_iff.1 HZ.out, HP.out⟩, HB.out⟩
      · have hgt : ((wnth ts (n + 1)).1.length : Int) > 0 := by omega
        have HZ : Hid (0 < (wnth ts (n + 1)).1.length) := by show 0 < _; omega
        have hw1 : IntKind.i64.wrap ((n : Int) + 1) = (n : Int) + 1 := IntWalk.i64_in _ ⟨by omega, by omega⟩
        clear hl0
        obtain ⟨l1, hl1⟩ : ∃ l1, (wnth ts (n + 1)).1.length = l1 := ⟨_, rfl⟩
        rw [hl1] at c0 hgt hl
        clear hl1
        go_wp2_with fail
        go_roundw
        case rel => exact ⟨n + 1, by omega, by go_num, fun _ => HZ.out, by first | trivial | rfl⟩
        case measure => simp [intOf]; omega
    · have hlti : ¬ (n : Int) < 3 := by omega
      obtain rfl : n = 3 := by omega
      go_wp2_with fail
      go_ret
      exact ⟨⟨3, rfl, by omega, fun h => by omega, HP.out⟩, HB.out⟩

set_option maxRecDepth 100000 in
set_option maxHeartbeats 4000000 in
theorem iDesc (aw aq : Option Addr) (cw cq : Nat) (d : Int) (ts : List Wb) (q : List Int) (w : World) (hv : WbView true w aw ts) (hq : View w aq q) (hsm : WbSmall ts) (hql : q.length ≤ 1048576) (hqc : q.length ≤ cq) (ht : towB d ts = true) (hto : toldB (wnth ts 0).1 q = true) (h0 : 0 < (wnth ts 0).1.length) :
    Calls Tryz.prog 115 #[.agg #[.int .i64 d, .slice aw 4 cw], .slice aq q.length cq] w fun e w' => e = .returned (.int .i64 (curD ts q 0)) ∧ Below w.heap.size w w' := by
  have hlen := (tow_at ht).1
  obtain ⟨W, hW⟩ : ∃ W, w.alloc (.cells #[.int .i64 d, .slice aw 4 cw] 47) = W := ⟨_, rfl⟩
  have hB : Below w.heap.size w W := by rw [← hW]; exact (Below.refl _ _).alloc (Nat.le_refl _) _
  have hI : TwIn true W w.heap.size d aw cw ts := by rw [← hW, ← hlen]; exact TwIn.box hv
  have k0 := hI.c0
  have k1 := hI.c1
  rw [hlen] at k1
  have HPK := hidP (iPeak true aw cw d ts W hI.wv hlen hsm)
  have HB := hidP hB
  have HI := hidP hI
  have HQ := hidP (hq.next hB)
  have HLEN := hidP hlen
  have HSM := hidP hsm.2
  have HT := hidP ht
  have HTO := hidP hto
  have H0 := hidP h0
  clear hv hq hB hI hlen hsm ht hto h0
  go_enter Tryz.func115, Tryz.ntmps115
  go_wp2_with fail
  refine HPK.out.mono ?_
  rintro e w1 ⟨⟨p, rfl, hp3, hpu, hpn⟩, L1⟩
  have HCP := hidP (cur_peak (q := q) HT.out hp3 hpu)
  have HNE : Hid (0 < (wnth ts p).1.length) := by
    show 0 < _
    rcases Nat.eq_zero_or_pos p with e | e
    · rw [e]; exact H0.out
    · exact hpn e
  have hI1 := HI.out.below L1
  replace k1 := hI1.c1
  rw [HLEN.out] at k1
  obtain ⟨b, off, am, cm, al, cl, rfl, hb, c0, c1, hm, hc, -⟩ := hI1.web (n := p) (by rw [HLEN.out]; omega)
  have hne := HNE.out
  obtain ⟨mb, mo, rfl, hmb, hms⟩ := MSeg.seg hm hne
  have cid : w1.cell? ⟨mb, mo, none⟩ = some (.int .i64 (mid (wnth ts p).1 0)) := by have := (hms.at (i := 0) hne).1; simpa using this
  have hpos : (0 : Int) < ((wnth ts p).1.length : Int) := by omega
  have hp0 : (0 : Int) ≤ (p : Int) := Int.natCast_nonneg _
  have hp4 : (p : Int) < 4 := by omega
  have HL1 := hidP L1
  clear hpu hpn L1 hI1 hm hc hms k0 hW HPK
  rw [← HCP.out] at cid
  obtain ⟨l1, hl1⟩ : ∃ l1, (wnth ts p).1.length = l1 := ⟨_, rfl⟩
  rw [hl1] at c0 hpos hne
  clear hl1
  go_wp2_with fail
  clear cid c0 c1 k1 HCP hpos hne
  go_loopw [5, 6] (fun nv fv wr => ∃ n : Nat, n ≤ 3 ∧ nv = .int .i64 n ∧ fv = .int .i64 (curD ts q n) ∧ 0 < (wnth ts n).1.length ∧ Below W.heap.size W wr) (fun nv _ _ => (intOf nv).toNat)
  case atStart => exact ⟨p, hp3, rfl, rfl, HNE.out, HL1.out⟩
  case round =>
    obtain ⟨n, hn, rfl, rfl, hnl, L⟩ := hrel
    have HL := hidP L
    have hIr := HI.out.below L
    clear L
    by_cases hn0 : 0 < n
    · have hngt : (n : Int) > 0 := by omega
      have hni : (0 : Int) ≤ (n : Int) := Int.natCast_nonneg _
      have hn4 : (n : Int) < 4 := by omega
      obtain ⟨j, hj⟩ : ∃ j, n - 1 = j := ⟨_, rfl⟩
      have hwj : IntKind.i64.wrap ((n : Int) - 1) = (j : Int) := by rw [IntWalk.i64_in _ ⟨by omega, by omega⟩]; omega
      have HNJ : Hid (n = j + 1) := by show n = _; omega
      clear hj
      obtain ⟨b2, off2, am2, cm2, al2, cl2, eb, hb2, d0, d1, hm2, hc2, hcap⟩ := hIr.web (n := n) (by rw [HLEN.out]; omega)
      injection eb with eb
      injection eb with eb1 eb2
      subst eb1 eb2
      have k1 := hIr.c1
      rw [HLEN.out] at k1
      have HIN := hidP (cur_in HT.out HTO.out hn hnl)
      have HWL : Hid (walkL (wnth ts n).1 (wnth ts n).2 (curD ts q n) q = walkG (wnth ts n).1 (wnth ts n).2 q (curD ts q n)) := by show _ = _; unfold walkL; rw [if_pos HIN.out]
      have HWK := hidP (iWalk14 am2 cm2 (wnth ts n).1 al2 cl2 (wnth ts n).2 (curD ts q n) aq cq q wr hm2 hc2 (HQ.out.next HL.out) (HSM.out n).1 (HSM.out n).2 hql (hcap rfl).1 (hcap rfl).2 hqc)
      rw [HWL.out] at HWK
      have HLA := hidP (walk_last HIN.out).1
      have HST := hidP ((cur_step HT.out HTO.out (n := j) (by have := HNJ.out; omega) (by rw [← HNJ.out]; exact hnl)).1)
      rw [← HNJ.out] at HST
      have HSH : Hid ((walkG (wnth ts n).1 (wnth ts n).2 q (curD ts q n)).length ≤ 61) := by
        show _ ≤ _
        have h1 := walkG_short (ms := (wnth ts n).1) (ls := (wnth ts n).2) (q := q) (curD ts q n)
        have h2 := marksB_len (web_marks (tow_web HT.out (n := n) (by omega)))
        omega
      have HJN : Hid (0 < (wnth ts j).1.length) := by
        show 0 < _
        rcases Nat.eq_zero_or_pos (wnth ts j).1.length with e | e
        · have := bear_empty (tow_bear HT.out (n := j) (by have := HNJ.out; omega)) e
          rw [← HNJ.out] at this
          omega
        · exact e
      generalize hwk : walkG (wnth ts n).1 (wnth ts n).2 q (curD ts q n) = wl at *
      clear hwk hm2 hc2 hIr hcap HIN HWL
      generalize curD ts q n = fr at *
      generalize (wnth ts n).1.length = l3 at *
      generalize (wnth ts n).2.length = l4 at *
      go_wp2_with fail
      refine HWK.out.mono ?_
      rintro e w3 ⟨a3, c3, rfl, hout, L3⟩
      have hpl := HLA.out
      have hp61 := HSH.out
      obtain ⟨b3, off3, rfl, hb3, hs3⟩ : ∃ b off, a3 = some ⟨b, off, none⟩ ∧ b < w3.heap.size ∧ Seg w3 b off wl := by
        rcases hout.slice with h | h
        · rw [h] at hpl; simp at hpl
        · exact h
      have cl3 := hs3 (wl.length - 1) (by omega)
      have HLI : Hid (nth wl (wl.length - 1) = lastI wl) := rfl
      rw [HLI.out] at cl3
      have HL3 := hidP (chain HL.out L3)
      have hwl : IntKind.i64.wrap ((wl.length : Int) - 1) = ((wl.length - 1 : Nat) : Int) := by rw [IntWalk.i64_in _ ⟨by omega, by omega⟩]; omega
      have hj0 : (0 : Int) ≤ ((wl.length - 1 : Nat) : Int) := Int.natCast_nonneg _
      have hj1 : ((wl.length - 1 : Nat) : Int) < (wl.length : Int) := by omega
      clear hout L3 hs3 HLI
      generalize wl.length - 1 = jj at *
      go_wp2_with fail
      go_roundw
      case rel => exact ⟨j, by have := HNJ.out; omega, by go_num, by rw [HST.out], HJN.out, HL3.out⟩
      case measure => have := HNJ.out; simp [intOf]; omega
    · have hngt : ¬ ((n : Int) > 0) := by omega
      obtain rfl : n = 0 := by omega
      clear hIr
      go_wp2_with fail
      go_ret
      exact ⟨rfl, chain HB.out HL.out⟩

theorem maxK_max (k : Int) : max k 4 = maxK k := by unfold maxK; split <;> omega

set_option maxRecDepth 100000 in
set_option maxHeartbeats 8000000 in
theorem iAsked (aw aq : Option Addr) (cw cq : Nat) (d : Int) (ts : List Wb) (q : List Int) (k : Int) (w : World) (hv : WbView true w aw ts) (hq : View w aq q) (hsm : WbSmall ts) (hql : q.length ≤ 1048576) (hqc : q.length ≤ cq) :
    Calls Tryz.prog 27 #[.agg #[.int .i64 d, .slice aw ts.length cw], .slice aq q.length cq, .int .i64 k] w fun e w' => ∃ a c, e = .returned (.slice a (askL d ts q k).length c) ∧ HOut w.heap.size w' (.slice a (askL d ts q k).length c) (askL d ts q k) ∧ Below w.heap.size w w' := by
  obtain ⟨W, hW⟩ : ∃ W, w.alloc (.cells #[.int .i64 d, .slice aw ts.length cw] 47) = W := ⟨_, rfl⟩
  have hB : Below w.heap.size w W := by rw [← hW]; exact (Below.refl _ _).alloc (Nat.le_refl _) _
  have hI : TwIn true W w.heap.size d aw cw ts := by rw [← hW]; exact TwIn.box hv
  have HT := hidP (iTowerOk aw cw d ts W hI.wv hsm)
  have HCK := hidP (iCount k W)
  have HB := hidP hB
  have HI := hidP hI
  have k0 := hI.c0
  have k1 := hI.c1
  have HQ := hidP (hq.next hB)
  have HSM := hidP hsm
  have HN : Hid (∀ W', HOut w.heap.size W' (.slice none 0 0) []) := fun W' => Or.inl ⟨rfl, rfl⟩
  clear hv hq hB hI hsm
  rcases hk : countB k with _ | _
  · have HV := hidP (askL_no (d := d) (ts := ts) (q := q) (Or.inr (Or.inr hk)))
    rw [hk] at HCK
    rw [HV.out]
    clear hk HV
    go_enter Tryz.func27, Tryz.ntmps27
    go_wp2_with fail
    refine HCK.out.mono ?_
    rintro e w1 ⟨rfl, hw1⟩
    subst hw1
    go_wp2_with fail
    go_ret
    exact ⟨none, 0, rfl, HN.out _, HB.out⟩
  rw [hk] at HCK
  have HKB := hidP hk
  clear hk
  rcases ht : towB d ts with _ | _
  · have HV := hidP (askL_no (q := q) (k := k) (Or.inl ht))
    rw [ht] at HT
    rw [HV.out]
    clear ht HV
    go_enter Tryz.func27, Tryz.ntmps27
    go_wp2_with fail
    refine HCK.out.mono ?_
    rintro e w1 ⟨rfl, hw1⟩
    subst hw1
    go_wp2_with fail
    refine HT.out.mono ?_
    rintro e w2 ⟨rfl, L2⟩
    have HL2 := hidP (chain HB.out L2)
    clear L2
    go_wp2_with fail
    go_ret
    exact ⟨none, 0, rfl, HN.out _, HL2.out⟩
  rw [ht] at HT
  have hlen := (tow_at ht).1
  have HTT := hidP ht
  have HLEN := hidP hlen
  rw [hlen] at k1 hW HT ⊢
  clear ht hlen
  obtain ⟨R, hR⟩ : ∃ R, toldB (wnth ts 0).1 q = R := ⟨_, rfl⟩
  have HSU : Hid (∀ W', Below W.heap.size W W' → ∃ b off am cm al cl, aw = some ⟨b, off, none⟩ ∧ b < W'.heap.size ∧ W'.cell? ⟨b, off, none⟩ = some (.slice am (wnth ts 0).1.length cm) ∧ W'.cell? ⟨b, off + 1, none⟩ = some (.slice al (wnth ts 0).2.length cl) ∧ MView W' am (wnth ts 0).1 ∧ CView W' al (wnth ts 0).2 ∧ (wnth ts 0).1.length ≤ cm ∧ (wnth ts 0).2.length ≤ cl ∧ Calls Tryz.prog 113 #[.slice aq q.length cq, .slice am (wnth ts 0).1.length cm] W' fun e w' => e = .returned (.bool R) ∧ Below W'.heap.size W' w') := fun W' L' => by
    have hI' := HI.out.below L'
    obtain ⟨b, off, am, cm, al, cl, e, hb, c0, c1, hm, hc, hcap⟩ := hI'.web (n := 0) (by rw [HLEN.out]; omega)
    rw [Nat.zero_mul, Nat.add_zero] at c0 c1
    refine ⟨b, off, am, cm, al, cl, e, hb, c0, c1, hm, hc, (hcap rfl).1, (hcap rfl).2, ?_⟩
    have hh := iSuits am aq cm cq (wnth ts 0).1 q W' hm (HQ.out.next L') (HSM.out.2 0).1 hql
    rw [hR] at hh
    exact hh
  have HRR := hidP hR
  clear hR
  cases R with
  | false =>
    have HV := hidP (askL_no (d := d) (k := k) (Or.inr (Or.inl HRR.out)))
    rw [HV.out]
    clear HV
    go_enter Tryz.func27, Tryz.ntmps27
    go_wp2_with fail
    refine HCK.out.mono ?_
    rintro e w1 ⟨rfl, hw1⟩
    subst hw1
    go_wp2_with fail
    refine HT.out.mono ?_
    rintro e w2 ⟨rfl, L2⟩
    have k1' := (HI.out.below L2).c1
    rw [HLEN.out] at k1'
    obtain ⟨b, off, am, cm, al, cl, rfl, hb, c0, c1, -, -, -, -, hc⟩ := HSU.out w2 L2
    have HC := hidP hc
    have HL2 := hidP (chain HB.out L2)
    clear L2 hc k0 k1 hW HT HCK
    go_wp2_with fail
    refine HC.out.mono ?_
    rintro e w3 ⟨rfl, L3⟩
    have HL3 := hidP (chain HL2.out L3)
    clear L3 c0 c1 k1'
    go_wp2_with fail
    go_ret
    exact ⟨none, 0, rfl, HN.out _, HL3.out⟩
  | true =>
    have HV := hidP (askL_yes HTT.out HRR.out HKB.out)
    rw [HV.out]
    clear HV
    by_cases hl0 : (wnth ts 0).1.length = 0
    · have HV := hidP (askG_none (q := q) (k := k) hl0)
      rw [HV.out]
      clear HV
      go_enter Tryz.func27, Tryz.ntmps27
      go_wp2_with fail
      refine HCK.out.mono ?_
      rintro e w1 ⟨rfl, hw1⟩
      subst hw1
      go_wp2_with fail
      refine HT.out.mono ?_
      rintro e w2 ⟨rfl, L2⟩
      have k1' := (HI.out.below L2).c1
      rw [HLEN.out] at k1'
      obtain ⟨b, off, am, cm, al, cl, rfl, hb, c0, c1, -, -, -, -, hc⟩ := HSU.out w2 L2
      have HC := hidP hc
      have HL2 := hidP L2
      clear L2 hc k0 k1 hW HT HCK
      rw [hl0] at HC c0
      go_wp2_with fail
      refine HC.out.mono ?_
      rintro e w3 ⟨rfl, L3⟩
      have HL3 := hidP (chain HL2.out L3)
      have k3 := (HI.out.below HL3.out).c1
      rw [HLEN.out] at k3
      have c3 := (L3.cell (p := ⟨b, off, none⟩) hb).trans c0
      clear L3 c0 c1 k1' hl0
      go_wp2_with fail
      go_ret
      exact ⟨none, 0, rfl, HN.out _, chain HB.out HL3.out⟩
    · have HL0 : Hid (0 < (wnth ts 0).1.length) := by show 0 < _; omega
      have hkm := maxK_ok HKB.out
      have HIN := hidP (cur_in HTT.out HRR.out (n := 0) (by omega) HL0.out)
      have HAS : Hid (askG ts q k = (beamL (wnth ts 0).1 (wnth ts 0).2 (curD ts q 0) q (maxK k)).take k.toNat) := rfl
      obtain ⟨bs, hbs⟩ : ∃ bs, beamL (wnth ts 0).1 (wnth ts 0).2 (curD ts q 0) q (maxK k) = bs := ⟨_, rfl⟩
      have HB60 : Hid (bs.length ≤ 60) := by show _ ≤ _; rw [← hbs]; exact (beam_ok _ _ _ _ _).2.2.2
      rw [hbs] at HAS
      have HBS := hidP hbs
      have hlne : (((wnth ts 0).1.length : Int) == 0) = false := by rw [beq_eq_false_iff_ne]; omega
      clear hbs
      go_enter Tryz.func27, Tryz.ntmps27
      go_wp2_with fail
      refine HCK.out.mono ?_
      rintro e w1 ⟨rfl, hw1⟩
      subst hw1
      go_wp2_with fail
      refine HT.out.mono ?_
      rintro e w2 ⟨rfl, L2⟩
      have k1' := (HI.out.below L2).c1
      rw [HLEN.out] at k1'
      obtain ⟨b, off, am, cm, al, cl, rfl, hb, c0, c1, -, -, -, -, hc⟩ := HSU.out w2 L2
      have HC := hidP hc
      have HL2 := hidP L2
      clear L2 hc k0 k1 hW HT HCK
      go_wp2_with fail
      refine HC.out.mono ?_
      rintro e w3 ⟨rfl, L3⟩
      have HL3 := hidP (chain HL2.out L3)
      clear L3 c0 c1 k1' HC
      have hI3 := HI.out.below HL3.out
      have HX3 := hI3.lt
      have t0 := hI3.c0
      have t1 := hI3.c1
      rw [HLEN.out] at t1
      obtain ⟨b3, off3, am3, cm3, al3, cl3, eb, hb3, c0, c1, hm3, hc3, hcm, hcl, -⟩ := HSU.out w3 HL3.out
      injection eb with eb
      injection eb with eb1 eb2
      subst eb1 eb2
      have HK : Hid (∀ W', Below w3.heap.size w3 W' → (W'.cell? ⟨w.heap.size, 0, none⟩ = some (.int .i64 d) ∧ W'.cell? ⟨w.heap.size, 1, none⟩ = some (.slice (some ⟨b, off, none⟩) 4 cw)) ∧ W'.cell? ⟨b, off, none⟩ = some (.slice am3 (wnth ts 0).1.length cm3) ∧ W'.cell? ⟨b, off + 1, none⟩ = some (.slice al3 (wnth ts 0).2.length cl3)) := fun W' L' => ⟨⟨(L'.cell (p := ⟨w.heap.size, 0, none⟩) HX3).trans t0, (L'.cell (p := ⟨w.heap.size, 1, none⟩) HX3).trans t1⟩, (L'.cell (p := ⟨b, off, none⟩) hb3).trans c0, (L'.cell (p := ⟨b, off + 1, none⟩) hb3).trans c1⟩
      have HDE := hidP (iDesc (some ⟨b, off, none⟩) aq cw cq d ts q w3.drew (hI3.below (Below.refl _ _).drew).wv ((HQ.out.next HL3.out).next (Below.refl _ _).drew) HSM.out hql hqc HTT.out HRR.out HL0.out)
      have HBE : Hid (∀ W', Below w3.heap.size w3 W' → Calls Tryz.prog 114 #[.agg #[.slice am3 (wnth ts 0).1.length cm3, .slice al3 (wnth ts 0).2.length cl3], .int .i64 (curD ts q 0), .slice aq q.length cq, .int .i64 (maxK k)] W' fun e w' => ∃ a c, e = .returned (.slice a bs.length c) ∧ HOut W'.heap.size w' (.slice a bs.length c) bs ∧ Below W'.heap.size W' w') := fun W' L' => by
        have hh := iBeam14 am3 cm3 (wnth ts 0).1 al3 cl3 (wnth ts 0).2 (curD ts q 0) aq cq q (maxK k) W' (hm3.next L') (hc3.next L') ((HQ.out.next HL3.out).next L') (HSM.out.2 0).1 (HSM.out.2 0).2 hql hcm hcl hqc
        rw [HBS.out] at hh
        exact hh
      clear hI3 hm3 hc3 hcm hcl
      have hmx := maxK_max k
      generalize curD ts q 0 = fr at *
      generalize (wnth ts 0).1.length = l1 at *
      generalize (wnth ts 0).2.length = l2 at *
      go_wp2_with fail
      refine wp_region_takes (S := fun w' => (w'.cell? ⟨w.heap.size, 0, none⟩ = some (.int .i64 d) ∧ w'.cell? ⟨w.heap.size, 1, none⟩ = some (.slice (some ⟨b, off, none⟩) 4 cw)) ∧ w'.cell? ⟨b, off, none⟩ = some (.slice am3 l1 cm3) ∧ w'.cell? ⟨b, off + 1, none⟩ = some (.slice al3 l2 cl3)) (fuel := 3) [0, 1, 2, 3, 4, 5, 7, 8, 9] (by kernel_rfl) (by kernel_rfl) (by kernel_rfl) (by kernel_rfl) (HK.out _ ((Below.refl w3.heap.size w3).drew)) (fun _ => ?_)
      iterate 9
        refine ⟨_, rfl, ?_⟩
        apply Exists.intro
        refine ⟨Or.inl ⟨by rfl, fun w' hw' => ?_⟩, ?_⟩
        · first
          | (go_simp; done)
          | (go_simp; with_reducible rfl)
        simp only [Act.put, List.getElem_toArray, List.getElem_cons_succ, List.getElem_cons_zero, List.setIfInBounds_toArray, List.set_cons_zero, List.set_cons_succ]
      refine calm_one 6 (by kernel_rfl) rfl (fun K hK => ?_)
      go_simp
      refine HDE.out.mono ?_
      rintro e w4 ⟨rfl, L4'⟩
      have L4 : Below w3.heap.size w3 w4 := Below.trans ((Below.refl w3.heap.size w3).drew) L4'
      refine hK.out _ _ (HK.out _ L4) (fun _ => ?_)
      clear hK K L4'
      refine calm_one 10 (by kernel_rfl) rfl (fun K hK => ?_)
      go_simp
      refine (HBE.out _ L4).mono ?_
      rintro e w5 ⟨a5, c5, rfl, hout, L5'⟩
      have HL5 := hidP (chain L4 L5')
      have HO5 : Hid (HOut w.heap.size w5 (.slice a5 bs.length c5) bs) := hout.imp id fun ⟨g, c, e, hr⟩ => ⟨g, c, e, hr.mono (by have := L4.size; have := HL3.out.size; have := HB.out.size; omega)⟩
      refine hK.out _ _ (HK.out _ HL5.out) (fun _ => ?_)
      clear hK K L5' L4 hout
      refine calm_rest [11] rfl (by kernel_rfl) (by kernel_rfl) (by kernel_rfl) (HK.out _ HL5.out) ?_
      iterate 1
        refine ⟨_, rfl, ?_⟩
        apply Exists.intro
        refine ⟨Or.inl ⟨by rfl, fun w' hw' => ?_⟩, ?_⟩
        · first
          | (go_simp; done)
          | (go_simp; with_reducible rfl)
        simp only [Act.put, List.getElem_toArray, List.getElem_cons_succ, List.getElem_cons_zero, List.setIfInBounds_toArray, List.set_cons_zero, List.set_cons_succ]
      refine NoPanic.normal (NoPanic.normal ?_)
      obtain ⟨hcap, hnn⟩ := HO5.out.cap15
      have hb60 := HB60.out
      obtain ⟨m, hm⟩ : ∃ m, min k.toNat bs.length = m := ⟨_, rfl⟩
      have hmin : min k (bs.length : Int) = (m : Int) := by rw [← hm]; omega
      have hm0 : (0 : Int) ≤ (m : Int) := Int.natCast_nonneg _
      have hmc : (m : Int) ≤ (c5 : Int) := by omega
      have HM := hidP hm
      have HF := hidP (chain HB.out (chain HL3.out HL5.out))
      clear HK HBE HL5 hm c0 c1 t0 t1 hnn
      try simp only [Exit.then]
      go_wp2_with fail
      go_ret
      rw [HAS.out]
      have hml : (bs.take k.toNat).length = m := by rw [List.length_take]; exact HM.out
      have hmb : m ≤ bs.length := by rw [← hml, List.length_take]; omega
      have het : bs.take m = bs.take k.toNat := by
        rw [← HM.out]
        rcases Nat.le_total k.toNat bs.length with h | h
        · rw [Nat.min_eq_left h]
        · rw [Nat.min_eq_right h, List.take_length, List.take_of_length_le h]
      refine ⟨a5, c5, by rw [hml]; rfl, ?_, HF.out⟩
      rw [hml, ← het]
      exact HO5.out.take15 m hmb
end Go.Proofs.YtfbhohpbhjlihaaGreat
namespace Go.Proofs.YtfbhohpbhjlihaaGreat
open Go Go.RowKit

def inMs (ms : List Mk) (h : Ht) : Bool := decide (0 ≤ zFind ms h.1)
def feltG (ms : List Mk) (ts : List Wb) (q : List Int) (k : Int) : List Ht := ((askG ts q (min 60 (3 * k))).filter (inMs ms)).take k.toNat
def feltL (wd : Int) (ms : List Mk) (d : Int) (ts : List Wb) (nx : Int) (q : List Int) (k : Int) : List Ht := if stTold wd ms d ts nx q k = true then feltG ms ts q k else []
theorem count_min {k : Int} (h : countB k = true) : countB (min 60 (3 * k)) = true ∧ 1 ≤ k ∧ k ≤ 60 := by
  simp only [countB, Bool.and_eq_true, decide_eq_true_eq] at h ⊢
  omega
theorem ground_told {wd : Int} {ms : List Mk} {d : Int} {ts : List Wb} {nx : Int} {q : List Int} (h : stB wd ms d ts nx = true) (hq : okB q = true) (hl : (q.length : Int) = wd) : toldB (wnth ts 0).1 q = true := by
  obtain ⟨_, h2, h3, _⟩ := stB_parts h
  have hm : marksB (wnth ts 0).1 = true := web_marks (tow_web h2 (n := 0) (by omega))
  rw [toldB, hm, hq]
  rcases Nat.eq_zero_or_pos (wnth ts 0).1.length with h0 | h0
  · simp [h0]
  · have := (grs_at h3 h0).1
    have e : decide ((mat (wnth ts 0).1 0).length = q.length) = true := decide_eq_true (by omega)
    rw [e]; simp
theorem feltL_eq {wd : Int} {ms : List Mk} {d : Int} {ts : List Wb} {nx : Int} {q : List Int} {k : Int} (hs : stB wd ms d ts nx = true) (hk : countB k = true) : feltL wd ms d ts nx q k = ((askL d ts q (min 60 (3 * k))).filter (inMs ms)).take k.toNat := by
  obtain ⟨_, h2, h3, _⟩ := stB_parts hs
  have hk2 := (count_min hk).1
  unfold feltL
  rcases ht : stTold wd ms d ts nx q k with _ | _
  · rw [if_neg (by simp)]
    simp only [stTold, hs, hk, Bool.true_and, Bool.and_true, Bool.and_eq_false_iff, decide_eq_false_iff_not] at ht
    have hnil : askL d ts q (min 60 (3 * k)) = [] := by
      rcases ht with h | h
      · exact askL_no (Or.inr (Or.inl (by simp [toldB, h])))
      · rcases Nat.eq_zero_or_pos (wnth ts 0).1.length with h0 | h0
        · rcases e : toldB (wnth ts 0).1 q with _ | _
          · exact askL_no (Or.inr (Or.inl e))
          · rw [askL_yes h2 e hk2]; exact askG_none h0
        · have := (grs_at h3 h0).1
          have e1 : decide ((wnth ts 0).1.length = 0) = false := decide_eq_false (by omega)
          have e2 : decide ((mat (wnth ts 0).1 0).length = q.length) = false := decide_eq_false (by omega)
          refine askL_no (Or.inr (Or.inl ?_))
          rw [toldB, e1, e2]; simp
    rw [hnil]; simp
  · rw [if_pos rfl]
    simp only [stTold, hs, hk, Bool.true_and, Bool.and_true, Bool.and_eq_true, decide_eq_true_eq] at ht
    rw [askL_yes h2 (ground_told hs ht.1 ht.2) hk2]
    rfl
theorem ask_len16 (ts : List Wb) (q : List Int) (k : Int) : (askG ts q k).length ≤ 61 := by
  unfold askG
  have := (beam_ok (wnth ts 0).1 (wnth ts 0).2 (curD ts q 0) q (maxK k)).2.2.2
  rw [List.length_take]
  omega
theorem feltL_len {wd : Int} {ms : List Mk} {d : Int} {ts : List Wb} {nx : Int} {q : List Int} {k : Int} : (feltL wd ms d ts nx q k).length ≤ 61 := by
  unfold feltL
  split
  · unfold feltG
    have := List.length_filter_le (inMs ms) (askG ts q (min 60 (3 * k)))
    have := ask_len16 ts q (min 60 (3 * k))
    rw [List.length_take]
    omega
  · simp
theorem filt_snoc {p : Ht → Bool} {ss : List Ht} {i : Nat} (hi : i < ss.length) : (ss.take (i + 1)).filter p = (ss.take i).filter p ++ (if p (hnth ss i) = true then [hnth ss i] else []) := by
  rw [take_snoc hi, List.filter_append]
  congr 1
  rcases e : p (hnth ss i) with _ | _ <;> simp [e]
theorem filt_pre (p : Ht → Bool) (ss : List Ht) (i : Nat) : ∃ r, ss.filter p = (ss.take i).filter p ++ r := ⟨(ss.drop i).filter p, by rw [← List.filter_append, List.take_append_drop]⟩
theorem filt_done {p : Ht → Bool} {ss : List Ht} {i k : Nat} (hl : ((ss.take i).filter p).length = k) : (ss.filter p).take k = (ss.take i).filter p := by
  obtain ⟨r, hr⟩ := filt_pre p ss i
  rw [hr, ← hl, List.take_left']
  rfl
theorem filt_len (p : Ht → Bool) (ss : List Ht) (i : Nat) : ((ss.take i).filter p).length ≤ i := Nat.le_trans (List.length_filter_le _ _) (by rw [List.length_take]; omega)

theorem HView.seg16 {w : World} {ao : Option Addr} {hs : List Ht} (h : HView w ao hs) (h0 : 0 < hs.length) : ∃ b off, ao = some ⟨b, off, none⟩ ∧ b < w.heap.size ∧ HSeg w b off hs := by
  rcases h with h | h
  · rw [h] at h0; simp at h0
  · exact h
theorem m_idH16 (x y : Int) (w : World) : Sem.run Tryz.prog (method 396 44 (.agg #[.int .i64 x, .int .i64 y]) "loop.example/g00273/impl.id") w = .ok (294, .agg #[.int .i64 x, .int .i64 y]) w := by kernel_rfl

set_option maxRecDepth 100000 in
set_option maxHeartbeats 400000 in
theorem iIdH (x y : Int) (w : World) :
    Calls Tryz.prog 294 #[.agg #[.int .i64 x, .int .i64 y]] w fun e w' => e = .returned (.int .i64 x) ∧ Below w.heap.size w w' := by
  have hB : Below w.heap.size w (w.alloc (.cells #[.int .i64 x, .int .i64 y] 44)) := (Below.refl _ _).alloc (Nat.le_refl _) _
  have HB := hidP hB
  clear hB
  go_enter Tryz.func294, Tryz.ntmps294
  go_wp2_with fail
  go_ret
  exact ⟨rfl, HB.out⟩

set_option maxRecDepth 100000 in
set_option maxHeartbeats 4000000 in
theorem iOnlyH (ah am : Option Addr) (ch cm : Nat) (ss : List Ht) (ms : List Mk) (w : World) (hv : HView w ah ss) (hl : ss.length ≤ 61) (hm : MView w am ms) (hsm : MSmall ms) :
    Calls Tryz.prog 138 #[.slice ah ss.length ch, .func (.func 139) #[.slice am ms.length cm] #[]] w fun e w' => ∃ g c, e = .returned (.slice (some ⟨g, 0, none⟩) (ss.filter (inMs ms)).length c) ∧ HRow w.heap.size w' g c (ss.filter (inMs ms)) ∧ Below w.heap.size w w' := by
  have R0 := hidP (HRow.start w w.heap.size (Nat.le_refl _))
  have L0 : Below w.heap.size w (w.alloc (.cells #[] 44)) := (Below.refl _ _).alloc (Nat.le_refl _) _
  have HV := hidP hv
  have HM := hidP hm
  have HSM := hidP hsm
  have MI := m_idH16
  obtain ⟨j0, hj0, hy0, hy1, hy2⟩ := info_parts Tryz.info44
  clear hv hm hsm
  go_enter Tryz.func138, Tryz.ntmps138
  go_wp2_with fail
  go_loopw [5, 11] (fun v iv wr => ∃ (i g c : Nat), i ≤ ss.length ∧ iv = .int .i64 i ∧ v = .slice (some ⟨g, 0, none⟩) ((ss.take i).filter (inMs ms)).length c ∧ HRow w.heap.size wr g c ((ss.take i).filter (inMs ms)) ∧ Below w.heap.size w wr) (fun _ iv _ => ss.length - (intOf iv).toNat)
  case atStart => exact ⟨0, w.heap.size, 0, Nat.zero_le _, rfl, rfl, R0.out, L0⟩
  case round =>
    obtain ⟨i, g, c, hi, rfl, rfl, hro, L⟩ := hrel
    have HRO := hidP hro
    have HLL := hidP L
    have hz := L.size
    have hgl := hro.lt
    have hfl := filt_len (inMs ms) ss i
    clear hro L
    by_cases hlt : i < ss.length
    · have hlti : (i : Int) < (ss.length : Int) := by omega
      have hi0 : (0 : Int) ≤ (i : Int) := Int.natCast_nonneg _
      obtain ⟨b, off, rfl, hb, hs⟩ := HView.seg16 (HV.out.next HLL.out) (by omega)
      obtain ⟨hc0, hc1⟩ := hs i hlt
      have HFS := hidP (filt_snoc (p := inMs ms) hlt)
      have HHH : Hid (inMs ms (hnth ss i) = decide (0 ≤ zFind ms (hnth ss i).1)) := rfl
      have HMR := hidP (HM.out.next HLL.out)
      obtain ⟨V, hV⟩ : ∃ V, wr.alloc (.cells #[.int .i64 (hnth ss i).1, .int .i64 (hnth ss i).2] 44) = V := ⟨_, rfl⟩
      have LV : Below wr.heap.size wr V := by rw [← hV]; exact (Below.refl _ _).alloc (Nat.le_refl _) _
      have y0 : V.cell? ⟨wr.heap.size, 0, none⟩ = some (.int .i64 (hnth ss i).1) := by rw [← hV]; simp
      have y1 : V.cell? ⟨wr.heap.size, 1, none⟩ = some (.int .i64 (hnth ss i).2) := by rw [← hV]; simp
      have hyl : wr.heap.size < V.heap.size := by rw [← hV]; simp
      have HLV := hidP LV
      clear hs LV
      obtain ⟨o, ho⟩ : ∃ o, (ss.take i).filter (inMs ms) = o := ⟨_, rfl⟩
      have HO := hidP ho
      rw [ho] at HRO HFS hfl ⊢
      clear ho
      obtain ⟨x, hx⟩ : ∃ x, hnth ss i = x := ⟨_, rfl⟩
      rw [hx] at HFS HHH hc0 hc1 y0 y1 hV
      clear hx
      go_wp2_with fail
      clear hV
      refine (iIdH x.1 x.2 _).mono ?_
      rintro e w2 ⟨rfl, L2⟩
      have HL2 := hidP (chain HLV.out L2)
      have HC := hidP (iHasM x.1 am cm ms w2 (HMR.out.next HL2.out) HSM.out)
      have z0 := (L2.cell (p := ⟨wr.heap.size, 0, none⟩) hyl).trans y0
      have z1 := (L2.cell (p := ⟨wr.heap.size, 1, none⟩) hyl).trans y1
      have hyl2 := Nat.lt_of_lt_of_le hyl L2.size
      clear L2 y0 y1
      go_wp2_with fail
      refine HC.out.mono ?_
      rintro e w3 ⟨rfl, L3⟩
      have HL3 := hidP (chain HL2.out L3)
      have u0 := (L3.cell (p := ⟨wr.heap.size, 0, none⟩) hyl2).trans z0
      have u1 := (L3.cell (p := ⟨wr.heap.size, 1, none⟩) hyl2).trans z1
      have hyl3 := Nat.lt_of_lt_of_le hyl2 L3.size
      clear L3 z0 z1 HC hyl hyl2
      have hz3 := HL3.out.size
      rcases hh : decide (0 ≤ zFind ms x.1) with _ | _
      · rw [HHH.out, hh] at HFS
        have HRF := hidP (HRow.below HRO.out (Nat.le_refl _) HL3.out)
        have HLF := hidP (HLL.out.trans (HL3.out.mono hz))
        clear hh HHH u0 u1
        go_wp2_with fail
        go_roundw
        case rel =>
          have e : (ss.take (i + 1)).filter (inMs ms) = o := by rw [HFS.out]; simp
          exact ⟨i + 1, g, c, by omega, by go_num, by rw [e], by rw [e]; exact HRF.out, HLF.out⟩
        case measure => simp [intOf]; omega
      · rw [HHH.out, hh] at HFS
        have HRF := hidP (HRow.below HRO.out (Nat.le_refl _) HL3.out)
        have HLF := hidP (HLL.out.trans (HL3.out.mono hz))
        have LA := World.grownBy_alloc w3 (.cells #[.int .i64 x.1, .int .i64 x.2] 44) none
        have HRA := hidP (HRF.out.kept LA (by simp))
        have hz4 : w.heap.size ≤ w3.heap.size := by omega
        clear hh HHH
        go_wp2_with (at_builtin; refine wpList_append_at _ rfl (.tmp 20) (.tmp 22) 164 rfl w.heap.size 44 j0 _ 2 16 Tryz.underlying164 hj0 hy0 hy1 hy2 rfl (by omega) g o.length c (hCells o) rfl HRA.out (some ⟨w3.heap.size, 0, none⟩) 1 1 (hCells [x]) rfl (one_src (heap_alloc_new w3 _)) (by unfold maxLen; omega) (by omega) (by simp; omega) (w3.heap.size + 1) (by simp) ?_; intro gg cc w4 hown hgrow hat hltt)
        go_wp2
        go_roundw
        case rel =>
          have e : (ss.take (i + 1)).filter (inMs ms) = o ++ [x] := by rw [HFS.out]; simp
          exact ⟨i + 1, gg, cc, by omega, by go_num, by rw [e, List.length_append, List.length_singleton], by rw [e]; exact HRow.snoc hown, (HLF.out.alloc hz4 _).grown hgrow (by simp; omega) (by intro k hk; cases hk; omega)⟩
        case measure => simp [intOf]; omega
    · go_wp2_with fail
      go_ret
      obtain rfl : i = ss.length := by omega
      rw [List.take_length] at HRO ⊢
      exact ⟨g, c, rfl, HRO.out, HLL.out⟩
set_option maxRecDepth 100000 in
set_option maxHeartbeats 4000000 in
theorem iFelt (am aw : Option Addr) (cm cw : Nat) (wd : Int) (ms : List Mk) (d : Int) (ts : List Wb) (nx : Int) (aq : Option Addr) (cq : Nat) (q : List Int) (k : Int) (w : World) (hm : MView w am ms) (hw : WbView true w aw ts) (hsm : StSmall ms ts) (hq : View w aq q) (hql : q.length ≤ 1048576) (hqc : q.length ≤ cq) :
    Calls Tryz.prog 55 #[.agg #[.int .i64 wd, .slice am ms.length cm, .int .i64 d, .slice aw ts.length cw, .int .i64 nx], .slice aq q.length cq, .int .i64 k] w fun e w' => ∃ a c, e = .returned (.slice a (feltL wd ms d ts nx q k).length c) ∧ HOut w.heap.size w' (.slice a (feltL wd ms d ts nx q k).length c) (feltL wd ms d ts nx q k) ∧ Below w.heap.size w w' := by
  obtain ⟨W, hW⟩ : ∃ W, w.alloc (.cells #[.int .i64 wd, .slice am ms.length cm, .int .i64 d, .slice aw ts.length cw, .int .i64 nx] 64) = W := ⟨_, rfl⟩
  have hB : Below w.heap.size w W := by rw [← hW]; exact (Below.refl _ _).alloc (Nat.le_refl _) _
  have hI : StIn true W w.heap.size am aw cm cw wd ms d ts nx := by rw [← hW]; exact StIn.box hm hw
  have HB := hidP hB
  have HI := hidP hI
  have k0 := hI.c0
  have k1 := hI.c1
  have k2 := hI.c2
  have k3 := hI.c3
  have k4 := hI.c4
  have HCK := hidP (iCount k W)
  have HST := hidP (iStateOk am aw cm cw wd ms d ts nx W hI.mv hI.wv hsm)
  have HAS := hidP (fun (W' : World) (L : Below W.heap.size W W') (k' : Int) => iAsked aw aq cw cq d ts q k' W' (hI.below L).wv (View.next (View.next hq hB) L) hsm.2.1 hql hqc)
  have HSM := hidP hsm.1
  rcases hk : countB k with _ | _
  · have HE : Hid (feltL wd ms d ts nx q k = []) := by show _ = _; unfold feltL; rw [if_neg (by simp [stTold, hk])]
    rw [hk] at HCK
    clear hm hw hsm hB hI hq hk
    go_enter Tryz.func55, Tryz.ntmps55
    go_wp2_with fail
    refine HCK.out.mono ?_
    rintro e w1 ⟨rfl, hw1⟩
    have hw2 := hw1.symm
    subst hw2
    go_wp2_with fail
    go_ret
    rw [HE.out]
    exact ⟨none, 0, rfl, Or.inl ⟨rfl, rfl⟩, HB.out⟩
  rcases hs : stB wd ms d ts nx with _ | _
  · have HE : Hid (feltL wd ms d ts nx q k = []) := by show _ = _; unfold feltL; rw [if_neg (by simp [stTold, hs])]
    rw [hk] at HCK
    rw [hs] at HST
    clear hm hw hsm hB hI hq hk hs
    go_enter Tryz.func55, Tryz.ntmps55
    go_wp2_with fail
    refine HCK.out.mono ?_
    rintro e w1 ⟨rfl, hw1⟩
    have hw2 := hw1.symm
    subst hw2
    go_wp2_with fail
    refine HST.out.mono ?_
    rintro e w2 ⟨rfl, L2⟩
    have HL2 := hidP (chain HB.out L2)
    clear L2
    go_wp2_with fail
    go_ret
    rw [HE.out]
    exact ⟨none, 0, rfl, Or.inl ⟨rfl, rfl⟩, HL2.out⟩
  have HE := hidP (feltL_eq (q := q) hs hk)
  obtain ⟨hkm, hk1, hk2⟩ := count_min hk
  have hmul : IntKind.i64.wrap (3 * k) = 3 * k := by rw [IntWalk.i64_in _ ⟨by omega, by omega⟩]
  rw [hk] at HCK
  rw [hs] at HST
  obtain ⟨K3, hK3⟩ : ∃ K3, min 60 (3 * k) = K3 := ⟨_, rfl⟩
  rw [hK3] at HE
  have HA61 : Hid ((askL d ts q K3).length ≤ 61) := by
    show _ ≤ _
    unfold askL
    split
    · exact ask_len16 ts q K3
    · simp
  obtain ⟨AL, hAL⟩ : ∃ AL, askL d ts q K3 = AL := ⟨_, rfl⟩
  rw [hAL] at HE HA61
  have HASK := hidP (fun (W' : World) (L : Below W.heap.size W W') => HAS.out W' L K3)
  rw [hAL] at HASK
  clear hm hw hsm hB hI hq hk hs hkm HAS hAL
  go_enter Tryz.func55, Tryz.ntmps55
  go_wp2_with fail
  refine HCK.out.mono ?_
  rintro e w1 ⟨rfl, hw1⟩
  have hw2 := hw1.symm
  subst hw2
  go_wp2_with fail
  refine HST.out.mono ?_
  rintro e w2 ⟨rfl, L2⟩
  have HL2 := hidP L2
  have c2 := (HI.out.below L2).c2
  have c3 := (HI.out.below L2).c3
  clear L2 hW k0 k1 k2 k3 k4
  go_wp2_with fail
  refine (HASK.out _ HL2.out).mono ?_
  rintro e w3 ⟨a3, c3', rfl, o3, L3⟩
  have HL3 := hidP (chain HL2.out L3)
  have c1 := (HI.out.below HL3.out).c1
  have HON := hidP (iOnlyH a3 am c3' cm AL ms w3 o3.slice HA61.out (HI.out.below HL3.out).mv HSM.out)
  clear L3 o3 c2 c3
  go_wp2_with fail
  refine HON.out.mono ?_
  rintro e w4 ⟨g, c, rfl, row, L4⟩
  have hcap := row.cap
  have HROW := hidP (row.mono (by have := HL3.out.size; have := HB.out.size; omega : w.heap.size ≤ w3.heap.size))
  have HL4 := hidP (chain HB.out (chain HL3.out L4))
  clear row L4 c1
  obtain ⟨F, hF⟩ : ∃ F, AL.filter (inMs ms) = F := ⟨_, rfl⟩
  have hfl : F.length ≤ 61 := by rw [← hF]; exact Nat.le_trans (List.length_filter_le _ _) HA61.out
  rw [hF] at HE HROW hcap ⊢
  clear hF
  have hmin : min k (F.length : Int) = ((min k.toNat F.length : Nat) : Int) := by omega
  have hmin2 : (min k.toNat F.length : Nat) ≤ c := by omega
  have HFT : Hid (F.take k.toNat = F.take (min k.toNat F.length)) := by
    show _ = _
    rcases Nat.le_total k.toNat F.length with h | h
    · rw [Nat.min_eq_left h]
    · rw [Nat.min_eq_right h, List.take_length, List.take_of_length_le h]
  have HLN : Hid ((F.take (min k.toNat F.length)).length = min k.toNat F.length) := by show _ = _; rw [List.length_take]; omega
  have hm2 : min k.toNat F.length ≤ F.length := by omega
  generalize min k.toNat F.length = m at *
  go_wp2_with fail
  go_ret
  rw [HE.out, HFT.out, HLN.out]
  exact ⟨some ⟨g, 0, none⟩, c, rfl, Or.inr ⟨g, c, by rw [HLN.out], HROW.out.take15 m hm2⟩, HL4.out⟩
end Go.Proofs.YtfbhohpbhjlihaaGreat
namespace Go.Proofs.YtfbhohpbhjlihaaGreat
open Go Go.RowKit

set_option maxRecDepth 100000 in
set_option maxHeartbeats 8000000 in
theorem sFelt (v : Bool) (am aw : Option Addr) (cm cw : Nat) (wd : Int) (ms : List Mk) (d : Int) (ts : List Wb) (nx : Int) (aq : Option Addr) (cq : Nat) (q : List Int) (k : Int) (w : World) (hm : MView w am ms) (hw : WbView v w aw ts) (hsm : StSmall ms ts) (hq : View w aq q) (hql : q.length ≤ 1048576) :
    Calls Tryz.prog 56 #[.agg #[.int .i64 wd, .slice am ms.length cm, .int .i64 d, .slice aw ts.length cw, .int .i64 nx], .slice aq q.length cq, .int .i64 k] w fun e w' => ∃ g c, e = .returned (.slice (some ⟨g, 0, none⟩) (feltL wd ms d ts nx q k).length c) ∧ HRow w.heap.size w' g c (feltL wd ms d ts nx q k) ∧ Below w.heap.size w w' := by
  obtain ⟨W1, hW1⟩ : ∃ W, w.alloc (.cells #[.int .i64 wd, .slice am ms.length cm, .int .i64 d, .slice aw ts.length cw, .int .i64 nx] 64) = W := ⟨_, rfl⟩
  have hB1 : Below w.heap.size w W1 := by rw [← hW1]; exact (Below.refl _ _).alloc (Nat.le_refl _) _
  have hI1 : StIn v W1 w.heap.size am aw cm cw wd ms d ts nx := by rw [← hW1]; exact StIn.box hm hw
  have s1 : W1.heap.size = w.heap.size + 1 := by rw [← hW1]; simp
  obtain ⟨W, hW⟩ : ∃ W, W1.alloc (.cells #[] 44) = W := ⟨_, rfl⟩
  have hB2 : Below W1.heap.size W1 W := by rw [← hW]; exact (Below.refl _ _).alloc (Nat.le_refl _) _
  have hI := hI1.below hB2
  have R0 : HRow w.heap.size W (w.heap.size + 1) 0 [] := by rw [← hW, ← s1]; exact HRow.start W1 w.heap.size (by omega)
  have HB := hidP (chain hB1 hB2)
  have HI := hidP hI
  have HR0 := hidP R0
  have k0 := hI.c0
  have k1 := hI.c1
  have k2 := hI.c2
  have k3 := hI.c3
  have k4 := hI.c4
  have HST := hidP (sTold16 v am aw cm cw wd ms d ts nx aq cq q k W hI.mv hI.wv hsm (View.next hq HB.out) hql)
  have HWW : Hid ((w.alloc (.cells #[.int .i64 wd, .slice am ms.length cm, .int .i64 d, .slice aw ts.length cw, .int .i64 nx] 64)).alloc (.cells #[] 44) = W) := by show _ = _; rw [hW1, hW]
  have hzW : W.heap.size = w.heap.size + 1 + 1 := by rw [← hW]; simp [s1]
  have HSM := hidP hsm
  have HM := hidP hm
  have HQ := hidP (View.next hq HB.out)
  obtain ⟨j0, hj0, hy0, hy1, hy2⟩ := info_parts Tryz.info44
  rcases ht : stTold wd ms d ts nx q k with _ | _
  · have HE : Hid (feltL wd ms d ts nx q k = []) := by show _ = _; unfold feltL; rw [if_neg (by rw [ht]; simp)]
    rw [ht] at HST
    clear hm hw hsm hB1 hB2 hI hI1 hq ht R0 hW1 hW
    go_enter Tryz.func56, Tryz.ntmps56
    go_wp2_with fail
    try rw [HWW.out]
    refine HST.out.mono ?_
    rintro e w1 ⟨rfl, L1⟩
    have HRF := hidP (HRow.below HR0.out (Nat.le_refl _) L1)
    have HLF := hidP (chain HB.out L1)
    clear L1 k0 k1 k2 k3 k4
    go_wp2_with fail
    go_ret
    rw [HE.out]
    exact ⟨_, 0, rfl, HRF.out, HLF.out⟩
  have HE : Hid (feltL wd ms d ts nx q k = feltG ms ts q k) := by show _ = _; unfold feltL; rw [if_pos ht]
  have hparts := ht
  simp only [stTold, Bool.and_eq_true, decide_eq_true_eq] at hparts
  obtain ⟨hst, hok, hln, hct⟩ := hparts
  have htow := (stB_parts hst).2.1
  have hlen := (tow_at htow).1
  have htold := ground_told hst hok hln
  obtain ⟨hkm, hkl, hkh⟩ := count_min hct
  have hmul : IntKind.i64.wrap (3 * k) = 3 * k := by rw [IntWalk.i64_in _ ⟨by omega, by omega⟩]
  rw [ht] at HST
  have HAS : Hid (∀ W', Below W.heap.size W W' → Calls Tryz.prog 121 #[.agg #[.int .i64 d, .slice aw ts.length cw], .slice aq q.length cq, .int .i64 (min 60 (3 * k))] W' fun e w' => ∃ g c, e = .returned (.slice (some ⟨g, 0, none⟩) (askG ts q (min 60 (3 * k))).length c) ∧ HRow W'.heap.size w' g c (askG ts q (min 60 (3 * k))) ∧ Below W'.heap.size W' w') := fun W' L => by
    rw [hlen]
    exact sAskedG v aw aq cw cq d ts q (min 60 (3 * k)) W' (hI.below L).wv (View.next HQ.out L) hsm.2.1 hql htow htold hkm
  have HMN := hidP (sMin 60 (3 * k))
  obtain ⟨ss, hss⟩ : ∃ ss, askG ts q (min 60 (3 * k)) = ss := ⟨_, rfl⟩
  have h61 : ss.length ≤ 61 := by rw [← hss]; exact ask_len16 ts q _
  have HE2 : Hid (feltL wd ms d ts nx q k = (ss.filter (inMs ms)).take k.toNat) := by show _ = _; rw [HE.out, ← hss]; rfl
  rw [hss] at HAS
  generalize min 60 (3 * k) = K3 at *
  clear hm hw hsm hB1 hB2 hI hI1 hq ht R0 hW1 hW hst hok hln hct htow hlen htold hkm hss HE
  go_enter Tryz.func56, Tryz.ntmps56
  go_wp2_with fail
  try rw [HWW.out]
  refine HST.out.mono ?_
  rintro e w1 ⟨rfl, L1⟩
  have HL1 := hidP L1
  have HRF := hidP (HRow.below HR0.out (Nat.le_refl _) L1)
  have HI1 := hidP (HI.out.below L1)
  have HK : Hid (∀ W', Below w1.heap.size w1 W' → W'.cell? ⟨w.heap.size, 2, none⟩ = some (.int .i64 d) ∧ W'.cell? ⟨w.heap.size, 3, none⟩ = some (.slice aw ts.length cw)) := fun W' L' => ⟨(HI1.out.below L').c2, (HI1.out.below L').c3⟩
  clear L1 k0 k1 k2 k3 k4 HWW
  have BL := hidP ((Below.refl w1.heap.size w1).drew)
  go_wp2_with fail
  refine wp_region_takes (S := fun W' => Below w1.heap.size w1 W') (fuel := 3) [0, 1, 2, 3, 4] (by kernel_rfl) (by kernel_rfl) (by kernel_rfl) (by kernel_rfl) BL.out (fun _ => ?_)
  iterate 5
    refine ⟨_, rfl, ?_⟩
    apply Exists.intro
    refine ⟨Or.inl ⟨by rfl, fun w' hw' => ?_⟩, ?_⟩
    · obtain ⟨e1, e2⟩ := HK.out w' hw'
      first
      | (go_simp; done)
      | (go_simp; with_reducible rfl)
    simp only [Act.put, List.getElem_toArray, List.getElem_cons_succ, List.getElem_cons_zero, List.setIfInBounds_toArray, List.set_cons_zero, List.set_cons_succ]
  refine calm_one 5 (by kernel_rfl) rfl (fun K hK => ?_)
  go_simp
  refine (HMN.out _).mono ?_
  rintro e w2 ⟨rfl, hw2⟩
  have hw2' := hw2.symm
  subst hw2'
  refine hK.out _ _ BL.out (fun _ => ?_)
  clear hK K
  refine calm_one 6 (by kernel_rfl) rfl (fun K hK => ?_)
  go_simp
  refine (HAS.out _ (chain HL1.out BL.out)).mono ?_
  rintro e w3 ⟨g, cg, rfl, row3, L3⟩
  have HL3 := hidP (chain BL.out L3)
  refine hK.out _ _ HL3.out (fun _ => ?_)
  clear hK K
  refine calm_rest [7] rfl (by kernel_rfl) (by kernel_rfl) (by kernel_rfl) HL3.out ?_
  iterate 1
    refine ⟨_, rfl, ?_⟩
    apply Exists.intro
    refine ⟨Or.inl ⟨by rfl, fun w' hw' => ?_⟩, ?_⟩
    · skip
      first
      | (go_simp; done)
      | (go_simp; with_reducible rfl)
    simp only [Act.put, List.getElem_toArray, List.getElem_cons_succ, List.getElem_cons_zero, List.setIfInBounds_toArray, List.set_cons_zero, List.set_cons_succ]
  refine NoPanic.normal (NoPanic.normal ?_)
  have hgl := row3.lt
  have HSG := hidP row3.seg
  have HR3 := hidP (HRow.below HRF.out (Nat.le_refl _) HL3.out)
  have HIX := hidP (HI1.out.below HL3.out)
  have HLX := hidP (chain HB.out (chain HL1.out HL3.out))
  have hz1 := HL1.out.size
  have hgne : w.heap.size + 1 ≠ g := by have h1 := hgl.1; have h2 : w1.drew.heap.size = w1.heap.size := rfl; omega
  have hgw3 := hgl.2
  have hzg : w.heap.size < w3.heap.size := HIX.out.lt
  clear row3 L3 BL HK HAS HMN HST HRF HI1 HR0 hgl
  go_wp2_with fail
  go_loopw [7, 9] (fun ov iv wr => ∃ (i g' c' : Nat), i ≤ ss.length ∧ ((ss.take i).filter (inMs ms)).length ≤ k.toNat ∧ iv = .int .i64 i ∧ ov = .slice (some ⟨g', 0, none⟩) ((ss.take i).filter (inMs ms)).length c' ∧ HRow w.heap.size wr g' c' ((ss.take i).filter (inMs ms)) ∧ g' ≠ g ∧ HSeg wr g 0 ss ∧ g < wr.heap.size ∧ w.heap.size < g' ∧ wr.cell? ⟨w.heap.size, 1, none⟩ = some (.slice am ms.length cm) ∧ Below w.heap.size w wr) (fun _ iv _ => ss.length - (intOf iv).toNat)
  case atStart => exact ⟨0, w.heap.size + 1, 0, Nat.zero_le _, Nat.zero_le _, rfl, rfl, HR3.out, hgne, HSG.out, hgw3, by omega, HIX.out.c1, HLX.out⟩
  case round =>
    obtain ⟨i, g', c', hi, hik, rfl, rfl, hro, hne, hsg, hgw, hgx, e1, L⟩ := hrel
    have HRO := hidP hro
    have HLL := hidP L
    have HSW := hidP hsg
    have hz := L.size
    have hgl' := hro.lt
    have hfl := filt_len (inMs ms) ss i
    clear hro L
    by_cases hlt : i < ss.length
    · have hlti : (i : Int) < (ss.length : Int) := by omega
      have hi0 : (0 : Int) ≤ (i : Int) := Int.natCast_nonneg _
      by_cases hfull : ((ss.take i).filter (inMs ms)).length < k.toNat
      · obtain ⟨hc0, hc1⟩ := hsg i hlt
        rw [Nat.zero_add] at hc0 hc1
        have HFS := hidP (filt_snoc (p := inMs ms) hlt)
        have HHH : Hid (inMs ms (hnth ss i) = decide (0 ≤ zFind ms (hnth ss i).1)) := rfl
        have HFD : Hid (∀ m, Calls Tryz.prog 99 #[.slice am ms.length cm, .int .i64 (hnth ss i).1] (wr.drewN m) fun e w'' => e = .returned (.int .i64 (zFind ms (hnth ss i).1)) ∧ ∃ m', w'' = wr.drewN m') := fun m => by
          refine (sFind am cm ms (hnth ss i).1 (wr.drewN m) (HM.out.next (below_drewN HLL.out m)) HSM.out.1.1).mono ?_
          rintro e w'' ⟨he, hm⟩
          exact ⟨he, m, hm⟩
        have hgw' := hgw
        clear hsg
        obtain ⟨o, ho⟩ : ∃ o, (ss.take i).filter (inMs ms) = o := ⟨_, rfl⟩
        rw [ho] at HRO HFS hfl hfull hik ⊢
        clear ho
        obtain ⟨x, hx⟩ : ∃ x, hnth ss i = x := ⟨_, rfl⟩
        rw [hx] at HFS HHH hc0 hc1 HFD
        clear hx
        have hlk : (o.length : Int) < k := by omega
        generalize hzf : zFind ms x.1 = zf at *
        clear hzf
        go_wp2_with fail
        refine wp_region_quiet_lit (by kernel_rfl) (by kernel_rfl) ?_
        try simp only [List.append_eq, List.cons_append, List.nil_append]
        repeat (go_big_quiet_step ((go_at_call 99; exact HFD.out _)))
        refine wpQuiet_nil ?_
        intro _ hw'
        obtain ⟨nq, hw''⟩ := hw'
        subst hw''
        have LQ : Hid (Below wr.heap.size wr (wr.drewN nq)) := below_drewN (Below.refl _ _) nq
        have HRQ := hidP (HRow.below HRO.out (Nat.le_refl _) LQ.out)
        have HLQ := hidP (below_drewN HLL.out nq)
        have eq1 : (wr.drewN nq).cell? ⟨w.heap.size, 1, none⟩ = some (.slice am ms.length cm) := e1
        have HSQ : Hid (HSeg (wr.drewN nq) g 0 ss) := HSW.out
        have hcq0 : (wr.drewN nq).cell? ⟨g, i * 2, none⟩ = some (.int .i64 x.1) := hc0
        have hcq1 : (wr.drewN nq).cell? ⟨g, i * 2 + 1, none⟩ = some (.int .i64 x.2) := hc1
        have hzq : wr.heap.size = (wr.drewN nq).heap.size := rfl
        clear HFD HRO HLL HSW e1 hc0 hc1 LQ
        generalize wr.drewN nq = wq at *
        rcases hh : decide (0 ≤ zf) with _ | _
        · have hneg : ¬ (zf ≥ 0) := by simpa using hh
          rw [HHH.out, hh] at HFS
          clear hh HHH hcq0 hcq1
          go_wp2_with fail
          go_roundw
          case rel =>
            have e : (ss.take (i + 1)).filter (inMs ms) = o := by rw [HFS.out]; simp
            exact ⟨i + 1, g', c', by omega, by rw [e]; omega, by go_num, by rw [e], by rw [e]; exact HRQ.out, hne, HSQ.out, by omega, hgx, eq1, HLQ.out⟩
          case measure => simp [intOf]; omega
        · have hpos : zf ≥ 0 := by simpa using hh
          rw [HHH.out, hh] at HFS
          have LA := World.grownBy_alloc wq (.cells #[.int .i64 x.1, .int .i64 x.2] 44) none
          have HRA := hidP (HRQ.out.kept LA (by simp))
          have HSA := hidP (HSQ.out.grown (by omega) LA (by simp))
          have HIA := hidP ((((Below.refl wq.heap.size wq).alloc (Nat.le_refl _) (.cells #[.int .i64 x.1, .int .i64 x.2] 44)).cell (p := ⟨w.heap.size, 1, none⟩) (by show w.heap.size < wq.heap.size; omega)).trans eq1)
          clear hh HHH
          go_wp2_with (at_builtin; refine wpList_append_at _ rfl (.tmp 45) (.tmp 50) 39 rfl w.heap.size 44 j0 _ 2 16 Tryz.underlying39 hj0 hy0 hy1 hy2 rfl (by omega) g' o.length c' (hCells o) rfl HRA.out (some ⟨wq.heap.size, 0, none⟩) 1 1 (hCells [x]) rfl (one_src (heap_alloc_new wq _)) (by unfold maxLen; omega) (by omega) (by simp; omega) (wq.heap.size + 1) (by simp) ?_; intro gg cc w4 hown hgrow hat hltt)
          go_wp2
          go_roundw
          case rel =>
            have e : (ss.take (i + 1)).filter (inMs ms) = o ++ [x] := by rw [HFS.out]; simp
            exact ⟨i + 1, gg, cc, by omega, by rw [e, List.length_append, List.length_singleton]; omega, by go_num, by rw [e, List.length_append, List.length_singleton], by rw [e]; exact HRow.snoc hown, by omega, HSA.out.grown (by simp; omega) hgrow (by simp; omega), Nat.lt_of_lt_of_le (by simp; omega) hgrow.size, by omega, hgrow.cell HIA.out (by simp; omega), (HLQ.out.alloc (by omega) _).grown hgrow (by simp; omega) (by intro k hk; cases hk; omega)⟩
          case measure => simp [intOf]; omega
      · have hlk : ¬ ((((ss.take i).filter (inMs ms)).length : Int) < k) := by omega
        have HDN := hidP (filt_done (p := inMs ms) (ss := ss) (i := i) (k := k.toNat) (by omega))
        clear hsg
        go_wp2_with fail
        go_ret
        rw [HE2.out, HDN.out]
        exact ⟨g', c', rfl, HRO.out, HLL.out⟩
    · have hlti : ¬ ((i : Int) < (ss.length : Int)) := by omega
      obtain rfl : i = ss.length := by omega
      have HDN : Hid ((ss.filter (inMs ms)).take k.toNat = ss.filter (inMs ms)) := by
        show _ = _
        rw [List.take_length] at hik
        exact List.take_of_length_le hik
      clear hsg hik
      go_wp2_with fail
      go_ret
      rw [HE2.out, HDN.out]
      have hfin := HRO.out
      rw [List.take_length] at hfin
      exact ⟨g', c', rfl, hfin, HLL.out⟩
end Go.Proofs.YtfbhohpbhjlihaaGreat
