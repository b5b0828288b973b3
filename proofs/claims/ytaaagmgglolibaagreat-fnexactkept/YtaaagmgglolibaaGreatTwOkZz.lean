/-
  Is a tower right: what it means, and the given TowerOk.
  A right tower's webs, as plain lists.
  The program's TowerOk: bears, and the towers.
  What is asked of a tower, as plain lists: from web to web down.
-/
import Derived.Test.YtaaagmgglolibaaGreatFeHelpZz
import Derived.Test.YtaaagmgglolibaaGreatMCopyZz
import Derived.Test.YtaaagmgglolibaaGreatCopyZz
import Derived.Test.YtaaagmgglolibaaGreatZSpecZz
import Derived.BigQuiet
import Derived.Deep.LoopGhost
import Derived.Test.YtaaagmgglolibaaGreatFg0Zz
import Derived.Test.YtaaagmgglolibaaGreatJRwZz
import Derived.Test.YtaaagmgglolibaaGreatFeWalkZz
import Derived.Test.YtaaagmgglolibaaGreatMathZz
namespace Go.Proofs.YtaaagmgglolibaaGreat
open Go Go.RowKit

/-- Is this mark one of those, at the same place? -/
def likeB (lo : List Mk) (m : Mk) : Bool := decide (0 ≤ zFind lo m.1) && decide (mat lo (zIdx lo m.1) = m.2)
def bearB (lo hi : List Mk) : Bool := hi.all (likeB lo)
def towAt (ts : List Wb) (n : Nat) : Bool := webB (wnth ts n).1 (wnth ts n).2 && (n == 0 || bearB (wnth ts (n - 1)).1 (wnth ts n).1)
def towB (d : Int) (ts : List Wb) : Bool := inR d 0 1000002 && (decide (ts.length = 4) && (List.range 4).all (towAt ts))
theorem likeB_iff {lo : List Mk} {m : Mk} : likeB lo m = true ↔ 0 ≤ zFind lo m.1 ∧ mat lo (zIdx lo m.1) = m.2 := by simp [likeB]
theorem mnth_mem15 {l : List Mk} {k : Nat} (h : k < l.length) : mnth l k ∈ l := by simp [mnth, List.getD, h]
theorem bearB_no {lo hi : List Mk} {k : Nat} (hk : k < hi.length) (h : likeB lo (mnth hi k) = false) : bearB lo hi = false := by
  rcases e : bearB lo hi with _ | _
  · rfl
  · rw [bearB, List.all_eq_true] at e
    rw [e _ (mnth_mem15 hk)] at h; cases h
theorem bearB_yes {lo hi : List Mk} (h : ∀ k, k < hi.length → likeB lo (mnth hi k) = true) : bearB lo hi = true := by
  rw [bearB, List.all_eq_true]
  intro m hm
  obtain ⟨k, hk, rfl⟩ := List.getElem_of_mem hm
  have := h k hk
  simpa [mnth, List.getD, hk] using this
theorem towB_no {d : Int} {ts : List Wb} {n : Nat} (hn : n < 4) (h : towAt ts n = false) : towB d ts = false := by
  rcases e : towB d ts with _ | _
  · rfl
  · simp only [towB, Bool.and_eq_true, List.all_eq_true, List.mem_range] at e
    rw [e.2.2 n hn] at h; cases h
theorem towB_yes {d : Int} {ts : List Wb} (h1 : inR d 0 1000002 = true) (h2 : ts.length = 4) (h : ∀ n, n < 4 → towAt ts n = true) : towB d ts = true := by
  simp only [towB, Bool.and_eq_true, List.all_eq_true, List.mem_range, decide_eq_true_eq]
  exact ⟨h1, h2, h⟩
theorem towB_dice {d : Int} {ts : List Wb} (h1 : inR d 0 1000002 = false) : towB d ts = false := by simp [towB, h1]
theorem towB_many {d : Int} {ts : List Wb} (h1 : ts.length ≠ 4) : towB d ts = false := by simp [towB, h1]
theorem towAt_web {ts : List Wb} {n : Nat} (h : webB (wnth ts n).1 (wnth ts n).2 = false) : towAt ts n = false := by simp [towAt, h]
theorem towAt_bear {ts : List Wb} {n : Nat} (h0 : 0 < n) (h : bearB (wnth ts (n - 1)).1 (wnth ts n).1 = false) : towAt ts n = false := by
  have : n ≠ 0 := by omega
  simp [towAt, h, this]
theorem towAt_yes {ts : List Wb} {n : Nat} (h1 : webB (wnth ts n).1 (wnth ts n).2 = true) (h : 0 < n → bearB (wnth ts (n - 1)).1 (wnth ts n).1 = true) : towAt ts n = true := by
  rcases Nat.eq_zero_or_pos n with e | e
  · subst e; simp [towAt, h1]
  · simp [towAt, h1, h e]
theorem towAt_web' {ts : List Wb} {n : Nat} (h : towAt ts n = true) : webB (wnth ts n).1 (wnth ts n).2 = true := by
  rw [towAt, Bool.and_eq_true] at h; exact h.1

/-- The two cells of a tower that is handed over. -/
structure TwIn (s : Bool) (w : World) (X : Nat) (d : Int) (aw : Option Addr) (cw : Nat) (ts : List Wb) : Prop where
  lt : X < w.heap.size
  c0 : w.cell? ⟨X, 0, none⟩ = some (.int .i64 d)
  c1 : w.cell? ⟨X, 1, none⟩ = some (.slice aw ts.length cw)
  wv : WbView s w aw ts
theorem TwIn.box {s : Bool} {w : World} {d : Int} {aw : Option Addr} {cw : Nat} {ts : List Wb} {t : TypeId} (h : WbView s w aw ts) : TwIn s (w.alloc (.cells #[.int .i64 d, .slice aw ts.length cw] t)) w.heap.size d aw cw ts :=
  ⟨by simp, by simp, by simp, h.next ((Below.refl _ _).alloc (Nat.le_refl _) _)⟩
theorem TwIn.below {s : Bool} {w w' : World} {X : Nat} {d : Int} {aw : Option Addr} {cw : Nat} {ts : List Wb} (h : TwIn s w X d aw cw ts) (L : Below w.heap.size w w') : TwIn s w' X d aw cw ts :=
  ⟨Nat.lt_of_lt_of_le h.lt L.size, (L.cell (p := ⟨X, 0, none⟩) h.lt).trans h.c0, (L.cell (p := ⟨X, 1, none⟩) h.lt).trans h.c1, h.wv.next L⟩
/-- One of its webs, ready for a call. -/
theorem TwIn.web {s : Bool} {w : World} {X : Nat} {d : Int} {aw : Option Addr} {cw : Nat} {ts : List Wb} (h : TwIn s w X d aw cw ts) {n : Nat} (hn : n < ts.length) : ∃ b off am cm al cl, aw = some ⟨b, off, none⟩ ∧ b < w.heap.size ∧ w.cell? ⟨b, off + n * 2, none⟩ = some (.slice am (wnth ts n).1.length cm) ∧ w.cell? ⟨b, off + n * 2 + 1, none⟩ = some (.slice al (wnth ts n).2.length cl) ∧ MView w am (wnth ts n).1 ∧ CView w al (wnth ts n).2 ∧ (s = true → (wnth ts n).1.length ≤ cm ∧ (wnth ts n).2.length ≤ cl) := by
  obtain ⟨b, off, e, hb, hs⟩ := h.wv.seg (by omega)
  obtain ⟨am, cm, al, cl, h1, h2, h3, h4, h5⟩ := hs n hn
  exact ⟨b, off, am, cm, al, cl, e, hb, h1, h2, h3, h4, h5⟩

set_option maxRecDepth 100000 in
set_option maxHeartbeats 4000000 in
theorem sTowerOk_in (s : Bool) (aw : Option Addr) (cw : Nat) (d : Int) (ts : List Wb) (w : World) (hv : WbView s w aw ts) (hsm : WbSmall ts) (hin : inR d 0 1000002 = true) (hlen : ts.length = 4) :
    Calls Tryz.prog 20 #[.agg #[.int .i64 d, .slice aw 4 cw]] w fun e w' => e = .returned (.bool (towB d ts)) ∧ Below w.heap.size w w' := by
  obtain ⟨W, hW⟩ : ∃ W, w.alloc (.cells #[.int .i64 d, .slice aw 4 cw] 26) = W := ⟨_, rfl⟩
  have hB : Below w.heap.size w W := by rw [← hW]; exact (Below.refl _ _).alloc (Nat.le_refl _) _
  have hI : TwIn s W w.heap.size d aw cw ts := by rw [← hW, ← hlen]; exact TwIn.box hv
  have HD := hidP (sDice15 d W)
  rw [hin] at HD
  have k0 := hI.c0
  have k1 := hI.c1
  rw [hlen] at k1
  have HB := hidP hB
  have HI := hidP hI
  have HSM := hidP hsm.2
  have HLEN := hidP hlen
  have HIN := hidP hin
  clear hv hsm hB hI hin hlen
  go_enter Tryz.func20, Tryz.ntmps20
  go_wp2_with fail
  refine HD.out.mono ?_
  rintro e w1 ⟨rfl, hw1⟩
  subst hw1
  go_wp2_with fail
  clear k0 HD
  go_loopg [3] 4 (fun gk nv wr => ∃ n : Nat, n ≤ 4 ∧ 4 - n ≤ gk ∧ nv = .int .i64 n ∧ (∀ j, j < n → towAt ts j = true) ∧ Below w1.heap.size w1 wr)
  case atStart => exact ⟨0, by omega, by omega, rfl, fun j hj => by omega, Below.refl _ _⟩
  case round =>
    obtain ⟨n, hn, hgk, rfl, hall, L⟩ := hrel
    have HA := hidP hall
    have HL := hidP L
    have hIr := HI.out.below L
    clear hall L k1
    by_cases hlt : n < 4
    · have hlti : (n : Int) < 4 := by omega
      have hn0 : (0 : Int) ≤ (n : Int) := Int.natCast_nonneg _
      obtain ⟨b, off, am, cm, al, cl, rfl, hb, c0, c1, hm, hc, -⟩ := hIr.web (n := n) (by rw [HLEN.out]; exact hlt)
      have k1 := hIr.c1
      rw [HLEN.out] at k1
      have HC := hidP (sWebOk am al cm cl (wnth ts n).1 (wnth ts n).2 wr hm hc (HSM.out n).1 (HSM.out n).2)
      have HIR := hidP hIr
      clear hm hc hIr
      rcases hwb : webB (wnth ts n).1 (wnth ts n).2 with _ | _
      · rw [hwb] at HC
        have HV := hidP (towB_no (d := d) hlt (towAt_web hwb))
        clear hwb
        generalize (wnth ts n).1.length = l1 at *
        generalize (wnth ts n).2.length = l2 at *
        go_wp2_with fail
        refine HC.out.mono ?_
        rintro e w2 ⟨rfl, L2⟩
        have HF := hidP (chain HB.out (chain HL.out L2))
        clear L2
        go_wp2_with fail
        go_ret
        exact ⟨ret_bool HV.out.symm, HF.out⟩
      · rw [hwb] at HC
        have HWB := hidP hwb
        have HM60 := hidP (marksB_len (web_marks hwb))
        clear hwb
        obtain ⟨hi, hhi⟩ : ∃ hi, (wnth ts n).1 = hi := ⟨_, rfl⟩
        have HHI := hidP hhi
        rw [hhi] at HC c0 HM60
        clear hhi
        generalize (wnth ts n).2.length = l2 at *
        go_wp2_with fail
        refine HC.out.mono ?_
        rintro e w2 ⟨rfl, L2⟩
        have HL2 := hidP (chain HL.out L2)
        clear L2 k1 c0 c1 HIR HC
        go_wp2_with fail
        go_loopw [4] (fun iv wi => ∃ i : Nat, i ≤ hi.length ∧ (n = 0 → i = 0) ∧ iv = .int .i64 i ∧ (∀ j, j < i → likeB (wnth ts (n - 1)).1 (mnth hi j) = true) ∧ Below w1.heap.size w1 wi) (fun iv _ => hi.length - (intOf iv).toNat)
        case atStart => exact ⟨0, Nat.zero_le _, fun _ => rfl, rfl, fun j hj => by omega, HL2.out⟩
        case round =>
          obtain ⟨i, hi', hz, rfl, halli, Li⟩ := hrel
          generalize hwi : wr = wi at *
          clear hwi wr
          have HAI := hidP halli
          have HLI := hidP Li
          have hIi := HI.out.below Li
          obtain ⟨b2, off2, am2, cm2, al2, cl2, eb, hb2, d0, d1, hm2, -, -⟩ := hIi.web (n := n) (by rw [HLEN.out]; exact hlt)
          injection eb with eb
          injection eb with eb1 eb2
          subst eb1 eb2
          have k1 := hIi.c1
          rw [HLEN.out] at k1
          rw [HHI.out] at d0 hm2
          clear halli Li
          by_cases hil : i < hi.length
          · have hi60 := HM60.out
            have hili : (i : Int) < (hi.length : Int) := by omega
            have hi0 : (0 : Int) ≤ (i : Int) := Int.natCast_nonneg _
            by_cases hn1 : 0 < n
            · have hgn : (n : Int) > 0 := by omega
              obtain ⟨p, hp⟩ : ∃ p, n - 1 = p := ⟨_, rfl⟩
              have hwp : IntKind.i64.wrap ((n : Int) - 1) = (p : Int) := by rw [IntWalk.i64_in _ ⟨by omega, by omega⟩]; omega
              have hp0 : (0 : Int) ≤ (p : Int) := Int.natCast_nonneg _
              have hp4 : (p : Int) < 4 := by omega
              obtain ⟨b3, off3, am3, cm3, al3, cl3, eb3, hb3, e0, e1, hm3, -, -⟩ := hIi.web (n := p) (by rw [HLEN.out]; omega)
              injection eb3 with eb3
              injection eb3 with eb31 eb32
              subst eb31 eb32
              obtain ⟨mb, mo, rfl, hmb, hms⟩ := MSeg.seg hm2 (by omega)
              obtain ⟨cid, pa, pc, cat, hpv⟩ := hms.at (i := i) hil
              have HSL := hidP (HSM.out p).1
              rw [hp] at HAI
              have HBR : Hid (bearB (wnth ts p).1 hi = false → towB d ts = false) := fun h => towB_no hlt (towAt_bear hn1 (by rw [hp, HHI.out]; exact h))
              have HNB := hidP (fun h => bearB_no (lo := (wnth ts p).1) hil h)
              have HLK : Hid (likeB (wnth ts p).1 (mnth hi i) = true ↔ 0 ≤ zFind (wnth ts p).1 (mid hi i) ∧ mat (wnth ts p).1 (zIdx (wnth ts p).1 (mid hi i)) = mat hi i) := likeB_iff
              have hp4' := (HSM.out n).1
              rw [HHI.out] at hp4'
              have hpl := hp4'.2 i
              obtain ⟨V, hV⟩ : ∃ V, wi.alloc (.cells #[.int .i64 (mid hi i), .slice pa (mat hi i).length pc] 29) = V := ⟨_, rfl⟩
              have LV : Below wi.heap.size wi V := by rw [← hV]; exact (Below.refl _ _).alloc (Nat.le_refl _) _
              have y0 : V.cell? ⟨wi.heap.size, 0, none⟩ = some (.int .i64 (mid hi i)) := by rw [← hV]; simp
              have y1 : V.cell? ⟨wi.heap.size, 1, none⟩ = some (.slice pa (mat hi i).length pc) := by rw [← hV]; simp
              have HXl := hIi.lt
              have k1' := (LV.cell (p := ⟨w.heap.size, 1, none⟩) HXl).trans k1
              have e0' := (LV.cell (p := ⟨b, off + p * 2, none⟩) hb3).trans e0
              have HLV := hidP (chain HLI.out LV)
              have HFD : Hid (∀ m, Calls Tryz.prog 116 #[.slice am3 (wnth ts p).1.length cm3, .int .i64 (mid hi i)] (V.drewN m) fun e w'' => e = .returned (.int .i64 (zFind (wnth ts p).1 (mid hi i))) ∧ ∃ m', w'' = V.drewN m') := fun m => by
                refine (sFind am3 cm3 (wnth ts p).1 (mid hi i) (V.drewN m) (hm3.next (below_drewN LV m)) HSL.out.1).mono ?_
                rintro e w'' ⟨he, hm⟩
                exact ⟨he, m, hm⟩
              have HPV := hidP (hpv.next LV)
              have HM3 := hidP (hm3.next LV)
              clear hms hm2 hm3 hIi hpv LV hp4'
              generalize hlo : (wnth ts p).1 = lo at *
              generalize hxid : mid hi i = x at *
              generalize hxat : mat hi i = xa at *
              have HLO : Hid ((wnth ts (n - 1)).1 = lo) := by show _ = _; rw [hp, hlo]
              clear hlo hxid hxat
              rcases hfz : decide (0 ≤ zFind lo x) with _ | _
              · have hfz' : zFind lo x < 0 := by simpa using hfz
                have HV2 := hidP (HBR.out (HNB.out (by rcases e : likeB lo (mnth hi i) with _ | _; rfl; have := HLK.out.1 e; omega)))
                clear hfz HLK HBR HNB
                generalize zFind lo x = fz at *
                go_wp2_with fail
                clear hV
                refine wp_region_quiet_lit (by kernel_rfl) (by kernel_rfl) ?_
                try simp only [List.append_eq, List.cons_append, List.nil_append]
                repeat (go_big_quiet_step ((go_at_call 116; exact HFD.out _)))
                refine wpQuiet_nil ?_
                intro _ hw'
                obtain ⟨nq, hw''⟩ := hw'
                subst hw''
                go_wp2_with fail
                refine wp_region_quiet_lit (by kernel_rfl) (by kernel_rfl) ?_
                try simp only [List.append_eq, List.cons_append, List.nil_append]
                repeat (go_big_quiet_step (fail))
                refine wpQuiet_nil ?_
                intro _ hw'
                obtain ⟨nq2, hw''⟩ := hw'
                subst hw''
                go_wp2_with fail
                go_ret
                exact ⟨ret_bool HV2.out.symm, below_drewN (below_drewN (chain HB.out HLV.out) _) _⟩
              · have hfz' : 0 ≤ zFind lo x := by simpa using hfz
                obtain ⟨za, zb, zc⟩ := zIdx_lt hfz'
                obtain ⟨lb, lo2, rfl, hlb, hls⟩ := MSeg.seg HM3.out (by omega)
                obtain ⟨-, qa, qc, qat, hqv⟩ := hls.at (i := zIdx lo x) za
                have hql := HSL.out.2 (zIdx lo x)
                have HSA : Hid (∀ k m, Calls Tryz.prog 117 #[.slice qa (mat lo (zIdx lo x)).length qc, .slice pa xa.length pc] ((V.drewN k).drewN m) fun e w'' => e = .returned (.bool (decide (mat lo (zIdx lo x) = xa))) ∧ ∃ m', w'' = (V.drewN k).drewN m') := fun k m => by
                  refine (gsameS qa pa qc pc (mat lo (zIdx lo x)) xa ((V.drewN k).drewN m) (View.drewN (View.drewN hqv k) m) (View.drewN (View.drewN HPV.out k) m) (by omega)).mono ?_
                  rintro e w'' ⟨he, m', hm⟩
                  exact ⟨he, m + m', by rw [hm]; simp [Nat.add_assoc]⟩
                have HV2 : Hid (decide (mat lo (zIdx lo x) = xa) = false → towB d ts = false) := fun h => HBR.out (HNB.out (by rcases e : likeB lo (mnth hi i) with _ | _; rfl; have := HLK.out.1 e; rw [decide_eq_false_iff_not] at h; exact absurd this.2 h))
                have HV3 : Hid (decide (mat lo (zIdx lo x) = xa) = true → likeB lo (mnth hi i) = true) := fun h => HLK.out.2 ⟨hfz', of_decide_eq_true h⟩
                have hzi : zFind lo x = (zIdx lo x : Nat) := zb.symm
                rw [hzi] at HFD
                have hj0 : (0 : Int) ≤ (zIdx lo x : Int) := Int.natCast_nonneg _
                have hj1 : ((zIdx lo x : Nat) : Int) < (lo.length : Int) := by omega
                have hj2 : ¬ ((zIdx lo x : Nat) : Int) < 0 := by omega
                have hj2d : decide (((zIdx lo x : Nat) : Int) < 0) = false := decide_eq_false hj2
                clear hfz hfz' HLK HBR HNB zb zc hzi hls hqv
                rcases hsm : decide (mat lo (zIdx lo x) = xa) with _ | _
                · rw [hsm] at HSA
                  have HV4 := hidP (HV2.out hsm)
                  clear hsm HV2 HV3
                  generalize (mat lo (zIdx lo x)).length = ql at *
                  generalize zIdx lo x = j at *
                  go_wp2_with fail
                  clear hV
                  refine wp_region_quiet_lit (by kernel_rfl) (by kernel_rfl) ?_
                  try simp only [List.append_eq, List.cons_append, List.nil_append]
                  repeat (go_big_quiet_step ((go_at_call 116; exact HFD.out _)))
                  refine wpQuiet_nil ?_
                  intro _ hw'
                  obtain ⟨nq, hw''⟩ := hw'
                  subst hw''
                  have HSB := hidP (HSA.out nq)
                  have HLQ : Hid (Below w1.heap.size w1 (V.drewN nq)) := below_drewN HLV.out nq
                  replace y0 : (V.drewN nq).cell? ⟨wi.heap.size, 0, none⟩ = some (.int .i64 x) := y0
                  replace y1 : (V.drewN nq).cell? ⟨wi.heap.size, 1, none⟩ = some (.slice pa xa.length pc) := y1
                  replace k1' : (V.drewN nq).cell? ⟨w.heap.size, 1, none⟩ = some (.slice (some ⟨b, off, none⟩) 4 cw) := k1'
                  replace e0' : (V.drewN nq).cell? ⟨b, off + p * 2, none⟩ = some (.slice (some ⟨lb, lo2, none⟩) lo.length cm3) := e0'
                  replace qat : (V.drewN nq).cell? ⟨lb, lo2 + j * 2 + 1, none⟩ = some (.slice qa ql qc) := qat
                  generalize V.drewN nq = V2 at *
                  clear HSA HFD HM3 HPV hlb
                  go_wp2_with fail
                  refine wp_region_quiet_lit (by kernel_rfl) (by kernel_rfl) ?_
                  try simp only [List.append_eq, List.cons_append, List.nil_append]
                  repeat (go_big_quiet_step ((go_at_call 117; exact HSB.out _)))
                  refine wpQuiet_nil ?_
                  intro _ hw'
                  obtain ⟨nq2, hw''⟩ := hw'
                  subst hw''
                  go_wp2_with fail
                  go_ret
                  exact ⟨ret_bool HV4.out.symm, below_drewN (chain HB.out HLQ.out) _⟩
                · rw [hsm] at HSA
                  have HV4 := hidP (HV3.out hsm)
                  clear hsm HV2 HV3
                  generalize (mat lo (zIdx lo x)).length = ql at *
                  generalize zIdx lo x = j at *
                  go_wp2_with fail
                  clear hV
                  refine wp_region_quiet_lit (by kernel_rfl) (by kernel_rfl) ?_
                  try simp only [List.append_eq, List.cons_append, List.nil_append]
                  repeat (go_big_quiet_step ((go_at_call 116; exact HFD.out _)))
                  refine wpQuiet_nil ?_
                  intro _ hw'
                  obtain ⟨nq, hw''⟩ := hw'
                  subst hw''
                  have HSB := hidP (HSA.out nq)
                  have HLQ : Hid (Below w1.heap.size w1 (V.drewN nq)) := below_drewN HLV.out nq
                  replace y0 : (V.drewN nq).cell? ⟨wi.heap.size, 0, none⟩ = some (.int .i64 x) := y0
                  replace y1 : (V.drewN nq).cell? ⟨wi.heap.size, 1, none⟩ = some (.slice pa xa.length pc) := y1
                  replace k1' : (V.drewN nq).cell? ⟨w.heap.size, 1, none⟩ = some (.slice (some ⟨b, off, none⟩) 4 cw) := k1'
                  replace e0' : (V.drewN nq).cell? ⟨b, off + p * 2, none⟩ = some (.slice (some ⟨lb, lo2, none⟩) lo.length cm3) := e0'
                  replace qat : (V.drewN nq).cell? ⟨lb, lo2 + j * 2 + 1, none⟩ = some (.slice qa ql qc) := qat
                  generalize V.drewN nq = V2 at *
                  clear HSA HFD HM3 HPV hlb
                  go_wp2_with fail
                  refine wp_region_quiet_lit (by kernel_rfl) (by kernel_rfl) ?_
                  try simp only [List.append_eq, List.cons_append, List.nil_append]
                  repeat (go_big_quiet_step ((go_at_call 117; exact HSB.out _)))
                  refine wpQuiet_nil ?_
                  intro _ hw'
                  obtain ⟨nq2, hw''⟩ := hw'
                  subst hw''
                  go_wp2_with fail
                  go_roundw
                  case rel => exact ⟨i + 1, by omega, fun h => by omega, by have := HM60.out; go_num, fun j hj => by
                    rw [HLO.out]
                    rcases Nat.lt_or_ge j i with h | h
                    · exact HAI.out j h
                    · rw [show j = i by omega]; exact HV4.out, below_drewN HLQ.out _⟩
                  case measure => have := HM60.out; simp [intOf]; omega
            · have hgn : ¬ ((n : Int) > 0) := by omega
              have HTN : Hid (towAt ts n = true) := towAt_yes HWB.out (fun h => absurd h hn1)
              clear hz hm2 hIi
              go_wp2_with fail
              go_roundg (4 - (n + 1))
              case rel => exact ⟨n + 1, by omega, by omega, by go_num, fun j hj => by
                rcases Nat.lt_or_ge j n with h | h
                · exact HA.out j h
                · rw [show j = n by omega]; exact HTN.out, HLI.out⟩
              case measure => omega
          · have hili : ¬ (i : Int) < (hi.length : Int) := by omega
            obtain rfl : i = hi.length := by omega
            have HTN : Hid (towAt ts n = true) := towAt_yes HWB.out (fun h => by rw [HHI.out]; exact bearB_yes HAI.out)
            clear hz hm2 hIi
            go_wp2_with fail
            go_roundg (4 - (n + 1))
            case rel => exact ⟨n + 1, by omega, by omega, by go_num, fun j hj => by
              rcases Nat.lt_or_ge j n with h | h
              · exact HA.out j h
              · rw [show j = n by omega]; exact HTN.out, HLI.out⟩
            case measure => omega
    · have hlti : ¬ (n : Int) < 4 := by omega
      obtain rfl : n = 4 := by omega
      have HV := hidP (towB_yes HIN.out HLEN.out HA.out)
      clear hIr
      go_wp2_with fail
      go_ret
      exact ⟨ret_bool HV.out.symm, chain HB.out HL.out⟩

set_option maxRecDepth 100000 in
set_option maxHeartbeats 1000000 in
theorem sTowerOk (s : Bool) (aw : Option Addr) (cw : Nat) (d : Int) (ts : List Wb) (w : World) (hv : WbView s w aw ts) (hsm : WbSmall ts) :
    Calls Tryz.prog 20 #[.agg #[.int .i64 d, .slice aw ts.length cw]] w fun e w' => e = .returned (.bool (towB d ts)) ∧ Below w.heap.size w w' := by
  rcases hin : inR d 0 1000002 with _ | _
  · have HD := hidP (fun W => sDice15 d W)
    rw [hin] at HD
    have HV := hidP (towB_dice (ts := ts) hin)
    have hB : Below w.heap.size w (w.alloc (.cells #[.int .i64 d, .slice aw ts.length cw] 26)) := (Below.refl _ _).alloc (Nat.le_refl _) _
    have HB := hidP hB
    clear hin hv hB
    go_enter Tryz.func20, Tryz.ntmps20
    go_wp2_with fail
    refine (HD.out _).mono ?_
    rintro e w1 ⟨rfl, hw1⟩
    subst hw1
    go_wp2_with fail
    go_ret
    exact ⟨ret_bool HV.out.symm, HB.out⟩
  · by_cases hlen : ts.length = 4
    · rw [hlen]
      exact sTowerOk_in s aw cw d ts w hv hsm hin hlen
    · have HD := hidP (fun W => sDice15 d W)
      rw [hin] at HD
      have HV := hidP (towB_many (d := d) hlen)
      have hB : Below w.heap.size w (w.alloc (.cells #[.int .i64 d, .slice aw ts.length cw] 26)) := (Below.refl _ _).alloc (Nat.le_refl _) _
      have HB := hidP hB
      have hl4 : ((ts.length : Int) != 4) = true := by simp; omega
      clear hin hv hB hlen
      go_enter Tryz.func20, Tryz.ntmps20
      go_wp2_with fail
      refine (HD.out _).mono ?_
      rintro e w1 ⟨rfl, hw1⟩
      subst hw1
      go_wp2_with fail
      go_ret
      exact ⟨ret_bool HV.out.symm, HB.out⟩
end Go.Proofs.YtaaagmgglolibaaGreat
namespace Go.Proofs.YtaaagmgglolibaaGreat
open Go Go.RowKit

theorem tow_at {d : Int} {ts : List Wb} (h : towB d ts = true) : ts.length = 4 ∧ ∀ n, n < 4 → towAt ts n = true := by
  simp only [towB, Bool.and_eq_true, List.all_eq_true, List.mem_range, decide_eq_true_eq] at h
  exact ⟨h.2.1, h.2.2⟩
theorem tow_web {d : Int} {ts : List Wb} (h : towB d ts = true) {n : Nat} (hn : n < 4) : webB (wnth ts n).1 (wnth ts n).2 = true := towAt_web' ((tow_at h).2 n hn)
end Go.Proofs.YtaaagmgglolibaaGreat
namespace Go.Proofs.YtaaagmgglolibaaGreat
open Go Go.RowKit

set_option maxRecDepth 100000 in
set_option maxHeartbeats 2000000 in
theorem iUnlike (B : Nat) (am al ao : Option Addr) (cm cl cap : Nat) (ms : List Mk) (ls : List (List Int)) (m : Mk) (w : World) (hI : WebIn w B am cm ms al cl ls) (hb : marksB ms = true) (hv : View w ao m.2) (hsm : MSmall ms) :
    Calls Tryz.prog 199 #[.agg #[.int .i64 m.1, .slice ao m.2.length cap], .pointer (some ⟨B, 0, none⟩)] w fun e w' => e = .returned (.bool (!likeB ms m)) ∧ Below w.heap.size w w' := by
  obtain ⟨W, hW⟩ : ∃ W, w.alloc (.cells #[.int .i64 m.1, .slice ao m.2.length cap] 29) = W := ⟨_, rfl⟩
  have hB : Below w.heap.size w W := by rw [← hW]; exact (Below.refl _ _).alloc (Nat.le_refl _) _
  have y0 : W.cell? ⟨w.heap.size, 0, none⟩ = some (.int .i64 m.1) := by rw [← hW]; simp
  have y1 : W.cell? ⟨w.heap.size, 1, none⟩ = some (.slice ao m.2.length cap) := by rw [← hW]; simp
  have hyl : w.heap.size < W.heap.size := by rw [← hW]; simp
  have hIW := hI.below hB
  have k0 := hIW.c0
  have k1 := hIW.c1
  have HP := hidP (iPlace am al cm ls.length cl ms m.1 W hIW.mv hb)
  have HI := hidP hIW
  have HB := hidP hB
  have HV := hidP (hv.next hB)
  have HLK : Hid (likeB ms m = true ↔ 0 ≤ zFind ms m.1 ∧ mat ms (zIdx ms m.1) = m.2) := likeB_iff
  have HSM := hidP hsm.2
  have HMB := hidP hb
  clear hI hIW hB hv hsm
  rcases hfz : decide (0 ≤ zFind ms m.1) with _ | _
  · have hfz' : ¬ 0 ≤ zFind ms m.1 := by simpa using hfz
    have HN : Hid (likeB ms m = false) := by show _ = _; rcases e : likeB ms m with _ | _; rfl; exact absurd (HLK.out.1 e).1 hfz'
    rw [hfz] at HP
    rw [HN.out]
    clear hfz hfz' hb HLK HN
    generalize plc m.1 ms = j at *
    go_enter Tryz.func199, Tryz.ntmps199
    go_wp2_with fail
    refine HP.out.mono ?_
    rintro e w2 ⟨rfl, L2⟩
    have HL := hidP (chain HB.out L2)
    clear L2 hW y0 y1 k0 k1
    go_wp2_with fail
    refine wp_region_quiet_lit (by kernel_rfl) (by kernel_rfl) ?_
    try simp only [List.append_eq, List.cons_append, List.nil_append]
    repeat (go_big_quiet_step (fail))
    refine wpQuiet_nil ?_
    intro _ hw'
    obtain ⟨nq, hw''⟩ := hw'
    subst hw''
    go_wp2_with fail
    go_ret
    exact ⟨rfl, below_drewN HL.out _⟩
  · have hfz' : 0 ≤ zFind ms m.1 := by simpa using hfz
    obtain ⟨za, zb, zc⟩ := zIdx_lt hfz'
    have hpi := plc_idx hb hfz'
    rw [hfz, hpi] at HP
    have hj0 : (0 : Int) ≤ ((zIdx ms m.1 : Nat) : Int) := Int.natCast_nonneg _
    have hj1 : ((zIdx ms m.1 : Nat) : Int) < (ms.length : Int) := by omega
    have HR : Hid (likeB ms m = decide (mat ms (zIdx ms m.1) = m.2)) := by
      show _ = _
      rw [Bool.eq_iff_iff, HLK.out, decide_eq_true_eq]
      exact ⟨fun h => h.2, fun h => ⟨hfz', h⟩⟩
    rw [HR.out]
    clear hfz hfz' HLK HR hb zb zc hpi
    generalize zIdx ms m.1 = j at *
    obtain ⟨r, hr⟩ : ∃ r, decide (mat ms j = m.2) = r := ⟨_, rfl⟩
    rw [hr]
    have HRR := hidP hr
    clear hr
    go_enter Tryz.func199, Tryz.ntmps199
    go_wp2_with fail
    refine HP.out.mono ?_
    rintro e w2 ⟨rfl, L2⟩
    have hI2 := HI.out.below L2
    replace k0 := hI2.c0
    replace k1 := hI2.c1
    replace y0 := (L2.cell (p := ⟨w.heap.size, 0, none⟩) hyl).trans y0
    replace y1 := (L2.cell (p := ⟨w.heap.size, 1, none⟩) hyl).trans y1
    obtain ⟨mb, mo, rfl, hmb, hms⟩ := MSeg.seg hI2.mv (by omega)
    obtain ⟨-, qa, qc, qat, hqv⟩ := hms.at (i := j) za
    have HPV := hidP (HV.out.next L2)
    have HSA : Hid (∀ n, Calls Tryz.prog 201 #[.slice qa (mat ms j).length qc, .slice ao m.2.length cap] (w2.drewN n) fun e w'' => e = .returned (.bool (decide (mat ms j = m.2))) ∧ ∃ m', w'' = w2.drewN m') := fun n => by
      refine (jeqS qa ao qc cap (mat ms j) m.2 (w2.drewN n) (View.drewN hqv n) (View.drewN HPV.out n) (HSM.out j)).mono ?_
      rintro e w'' ⟨he, m', hm⟩
      exact ⟨he, n + m', by rw [hm]; simp⟩
    have HL := hidP (chain HB.out L2)
    clear L2 hW hI2 hms hqv HP
    rw [HRR.out] at HSA
    generalize (mat ms j).length = ql at *
    go_wp2_with fail
    refine wp_region_quiet_lit (by kernel_rfl) (by kernel_rfl) ?_
    try simp only [List.append_eq, List.cons_append, List.nil_append]
    repeat (go_big_quiet_step ((go_at_call 201; exact HSA.out _)))
    refine wpQuiet_nil ?_
    intro _ hw'
    obtain ⟨nq, hw''⟩ := hw'
    subst hw''
    go_wp2_with fail
    go_ret
    exact ⟨rfl, below_drewN HL.out _⟩

set_option maxRecDepth 100000 in
set_option maxHeartbeats 1000000 in
theorem pAnyUn (B : Nat) (am al ao : Option Addr) (cm cl cap : Nat) (ms : List Mk) (ls : List (List Int)) (hi : List Mk) (w : World) (hI : WebIn w B am cm ms al cl ls) (hb : marksB ms = true) (hsm : MSmall ms) (hv : MView w ao hi) (hsh : MSmall hi) :
    Calls Tryz.prog 215 #[.slice ao hi.length cap, .func (.func 199) #[] #[.pointer (some ⟨B, 0, none⟩)]] w fun e w' => (∃ r : Int, e = .returned (.int .i64 r) ∧ decide (0 ≤ r) = !bearB ms hi) ∧ Below w.heap.size w w' := by
  have HF : Hid (∀ W k a c, Below w.heap.size w W → View W a (mat hi k) → Calls Tryz.prog 199 #[.agg #[.int .i64 (mid hi k), .slice a (mat hi k).length c], .pointer (some ⟨B, 0, none⟩)] W fun e w' => e = .returned (.bool (!likeB ms (mnth hi k))) ∧ Below W.heap.size W w') := fun W k a c L hva =>
    iUnlike B am al a cm cl c ms ls (mnth hi k) W (hI.below L) hb hva hsm
  have HV := hidP hv
  have hn := hsh.1
  clear hI hb hv hsm hsh
  go_enter Tryz.func215, Tryz.ntmps215
  go_wp2_with fail
  go_loopw [8] (fun i wr => ∃ k : Nat, k ≤ hi.length ∧ i = .int .i64 k ∧ (∀ j, j < k → likeB ms (mnth hi j) = true) ∧ Below w.heap.size w wr) (fun i _ => hi.length - (intOf i).toNat)
  case atStart => exact ⟨0, Nat.zero_le _, rfl, fun j hj => by omega, Below.refl _ _⟩
  case round =>
    obtain ⟨k, hk, rfl, hall, L⟩ := hrel
    have HA := hidP hall
    have HL := hidP L
    have hvr := HV.out.next L
    clear hall L
    by_cases hlt : k < hi.length
    · obtain ⟨b, off, rfl, hb, hs⟩ := MSeg.seg hvr (by omega)
      obtain ⟨c0, pa, pc, c1, hpv⟩ := hs.at (i := k) hlt
      have HN := hidP (HF.out wr k pa pc HL.out hpv)
      clear hs hvr hpv
      rcases he : likeB ms (mnth hi k) with _ | _
      · have HX := hidP (bearB_no hlt he)
        rw [he] at HN
        clear he
        generalize mid hi k = x at *
        generalize (mat hi k).length = xl at *
        go_wp2_with fail
        refine HN.out.mono ?_
        rintro e w2 ⟨rfl, L2⟩
        have HL2 := hidP (chain HL.out L2)
        clear L2
        go_wp2_with fail
        go_ret
        exact ⟨⟨(k : Int), rfl, by rw [HX.out]; simp⟩, HL2.out⟩
      · rw [he] at HN
        have HE := hidP he
        clear he
        generalize mid hi k = x at *
        generalize (mat hi k).length = xl at *
        go_wp2_with fail
        refine HN.out.mono ?_
        rintro e w2 ⟨rfl, L2⟩
        have HL2 := hidP (chain HL.out L2)
        clear L2
        go_wp2_with fail
        go_roundw
        case rel => exact ⟨k + 1, by omega, by go_num, fun j hj => by
          rcases Nat.lt_or_ge j k with h | h
          · exact HA.out j h
          · rw [show j = k by omega]; exact HE.out, HL2.out⟩
        case measure => simp [intOf]; omega
    · go_wp2_with fail
      go_ret
      obtain rfl : k = hi.length := by omega
      exact ⟨⟨-1, rfl, by rw [bearB_yes HA.out]; rfl⟩, HL.out⟩

set_option maxHeartbeats 400000 in
theorem pAnyUn2 (B : Nat) (am al ao : Option Addr) (cm cl cap : Nat) (ms : List Mk) (ls : List (List Int)) (hi : List Mk) (w : World) (hI : WebIn w B am cm ms al cl ls) (hb : marksB ms = true) (hsm : MSmall ms) (hv : MView w ao hi) (hsh : MSmall hi) :
    Calls Tryz.prog 137 #[.slice ao hi.length cap, .func (.func 199) #[] #[.pointer (some ⟨B, 0, none⟩)]] w fun e w' => e = .returned (.bool (!bearB ms hi)) ∧ Below w.heap.size w w' := by
  have HI := hidP (pAnyUn B am al ao cm cl cap ms ls hi w hI hb hsm hv hsh)
  clear hv hI
  go_enter Tryz.func137, Tryz.ntmps137
  go_wp2_with fail
  refine HI.out.mono ?_
  rintro e w2 ⟨⟨r, rfl, hr⟩, L2⟩
  have HL2 := hidP L2
  clear L2
  go_wp2_with fail
  go_ret
  exact ⟨ret_bool (by rw [← hr]), HL2.out⟩

set_option maxRecDepth 100000 in
set_option maxHeartbeats 1000000 in
theorem iBears (am al am' al' : Option Addr) (cm cl cm' cl' nl' : Nat) (ms : List Mk) (ls : List (List Int)) (hi : List Mk) (w : World) (hm : MView w am ms) (hl : CView w al ls) (hb : marksB ms = true) (hsm : MSmall ms) (hv : MView w am' hi) (hsh : MSmall hi) :
    Calls Tryz.prog 113 #[.agg #[.slice am ms.length cm, .slice al ls.length cl], .agg #[.slice am' hi.length cm', .slice al' nl' cl']] w fun e w' => e = .returned (.bool (bearB ms hi)) ∧ Below w.heap.size w w' := by
  obtain ⟨W1, hW1⟩ : ∃ W, w.alloc (.cells #[.slice am ms.length cm, .slice al ls.length cl] 47) = W := ⟨_, rfl⟩
  have hB1 : Below w.heap.size w W1 := by rw [← hW1]; exact (Below.refl _ _).alloc (Nat.le_refl _) _
  have hI1 : WebIn W1 w.heap.size am cm ms al cl ls := by rw [← hW1]; exact WebIn.box hm hl
  obtain ⟨W, hW⟩ : ∃ W, W1.alloc (.cells #[.slice am' hi.length cm', .slice al' nl' cl'] 47) = W := ⟨_, rfl⟩
  have hB2 : Below W1.heap.size W1 W := by rw [← hW]; exact (Below.refl _ _).alloc (Nat.le_refl _) _
  have z0 : W.cell? ⟨W1.heap.size, 0, none⟩ = some (.slice am' hi.length cm') := by rw [← hW]; simp
  have HB := hidP (chain hB1 hB2)
  have HC := hidP (pAnyUn2 w.heap.size am al am' cm cl cm' ms ls hi W (hI1.below hB2) hb hsm (hv.next HB.out) hsh)
  clear hm hl hB1 hI1 hB2 hv hb hsm hsh
  generalize bearB ms hi = r at *
  go_enter Tryz.func113, Tryz.ntmps113
  go_wp2_with fail
  refine HC.out.mono ?_
  rintro e w2 ⟨rfl, L2⟩
  have HL2 := hidP (chain HB.out L2)
  clear L2 hW hW1
  go_wp2_with fail
  go_ret
  exact ⟨by simp, HL2.out⟩

set_option maxRecDepth 100000 in
set_option maxHeartbeats 4000000 in
theorem iTowerOk_in (aw : Option Addr) (cw : Nat) (d : Int) (ts : List Wb) (w : World) (hv : WbView true w aw ts) (hsm : WbSmall ts) (hin : inR d 0 1000002 = true) (hlen : ts.length = 4) :
    Calls Tryz.prog 19 #[.agg #[.int .i64 d, .slice aw 4 cw]] w fun e w' => e = .returned (.bool (towB d ts)) ∧ Below w.heap.size w w' := by
  obtain ⟨W, hW⟩ : ∃ W, w.alloc (.cells #[.int .i64 d, .slice aw 4 cw] 26) = W := ⟨_, rfl⟩
  have hB : Below w.heap.size w W := by rw [← hW]; exact (Below.refl _ _).alloc (Nat.le_refl _) _
  have hI : TwIn true W w.heap.size d aw cw ts := by rw [← hW, ← hlen]; exact TwIn.box hv
  have HD := hidP (iDice15 d W)
  rw [hin] at HD
  have k0 := hI.c0
  have k1 := hI.c1
  rw [hlen] at k1
  have HB := hidP hB
  have HI := hidP hI
  have HSM := hidP hsm.2
  have HLEN := hidP hlen
  have HIN := hidP hin
  clear hv hsm hB hI hin hlen
  go_enter Tryz.func19, Tryz.ntmps19
  go_wp2_with fail
  refine HD.out.mono ?_
  rintro e w1 ⟨rfl, hw1⟩
  subst hw1
  go_wp2_with fail
  clear k0 HD k1
  go_loopw [18] (fun nv wr => ∃ n : Nat, n ≤ 4 ∧ nv = .int .i64 n ∧ (∀ j, j < n → towAt ts j = true) ∧ Below w1.heap.size w1 wr) (fun nv _ => 4 - (intOf nv).toNat)
  case atStart => exact ⟨0, by omega, rfl, fun j hj => by omega, Below.refl _ _⟩
  case round =>
    obtain ⟨n, hn, rfl, hall, L⟩ := hrel
    have HA := hidP hall
    have HL := hidP L
    have hIr := HI.out.below L
    clear hall L
    by_cases hlt : n < 4
    · have hlti : (n : Int) < 4 := by omega
      have hn0 : (0 : Int) ≤ (n : Int) := Int.natCast_nonneg _
      obtain ⟨b, off, am, cm, al, cl, rfl, hb, c0, c1, hm, hc, hcap⟩ := hIr.web (n := n) (by rw [HLEN.out]; exact hlt)
      have k1 := hIr.c1
      rw [HLEN.out] at k1
      obtain ⟨V, hV⟩ : ∃ V, wr.alloc (.cells #[.slice am (wnth ts n).1.length cm, .slice al (wnth ts n).2.length cl] 47) = V := ⟨_, rfl⟩
      have LV : Below wr.heap.size wr V := by rw [← hV]; exact (Below.refl _ _).alloc (Nat.le_refl _) _
      have hyl : wr.heap.size < V.heap.size := by rw [← hV]; simp
      have y0 : V.cell? ⟨wr.heap.size, 0, none⟩ = some (.slice am (wnth ts n).1.length cm) := by rw [← hV]; simp
      have y1 : V.cell? ⟨wr.heap.size, 1, none⟩ = some (.slice al (wnth ts n).2.length cl) := by rw [← hV]; simp
      have HXl := hIr.lt
      have k1' := (LV.cell (p := ⟨w.heap.size, 1, none⟩) HXl).trans k1
      have HMC := hidP (And.intro (hm.next LV) (hc.next LV))
      have HW : Hid (∀ W', Below V.heap.size V W' → Calls Tryz.prog 112 #[.agg #[.slice am (wnth ts n).1.length cm, .slice al (wnth ts n).2.length cl]] W' fun e w' => e = .returned (.bool (webB (wnth ts n).1 (wnth ts n).2)) ∧ Below W'.heap.size W' w') := fun W' L' =>
        iWebOk14 am cm (wnth ts n).1 al cl (wnth ts n).2 W' (HMC.out.1.next L') (HMC.out.2.next L') (HSM.out n).1 (HSM.out n).2 (hcap rfl).1 (hcap rfl).2
      have HLV := hidP (chain HL.out LV)
      obtain ⟨Y, hY⟩ : ∃ Y, Y = wr.heap.size := ⟨_, rfl⟩
      have HIV := hidP (hIr.below LV)
      clear hm hc hIr LV k1
      have HLA := hidP (And.intro (HSM.out n).1 (HSM.out n).2)
      rw [← hY] at hyl y0 y1
      rcases hwb : webB (wnth ts n).1 (wnth ts n).2 with _ | _
      · rw [hwb] at HW
        have HV := hidP (towB_no (d := d) hlt (towAt_web hwb))
        have HK : Hid (∀ W', Below V.heap.size V W' → W'.cell? ⟨Y, 0, none⟩ = some (.slice am (wnth ts n).1.length cm) ∧ W'.cell? ⟨Y, 1, none⟩ = some (.slice al (wnth ts n).2.length cl)) := fun W' L' => ⟨(L'.cell (p := ⟨Y, 0, none⟩) hyl).trans y0, (L'.cell (p := ⟨Y, 1, none⟩) hyl).trans y1⟩
        clear hwb
        generalize (wnth ts n).1.length = l1 at *
        generalize (wnth ts n).2.length = l2 at *
        go_wp2_with fail
        rw [← hY]
        clear hV c0 c1 k1' hY
        refine wp_region_takes (S := (fun w' => w'.cell? ⟨Y, 0, none⟩ = some (.slice am l1 cm) ∧ w'.cell? ⟨Y, 1, none⟩ = some (.slice al l2 cl))) (fuel := 17) [0] (by kernel_rfl) (by kernel_rfl) (by kernel_rfl) (by kernel_rfl) (HK.out _ ((Below.refl V.heap.size V).drew)) (fun _ => ?_)
        iterate 1
          refine ⟨_, rfl, ?_⟩
          first
            | refine ⟨undef, Or.inr ⟨by rfl, rfl⟩, ?_⟩
            | (apply Exists.intro
               refine ⟨Or.inl ⟨by rfl, fun w' hw' => ?_⟩, ?_⟩
               · first
                 | (go_simp; done)
                 | (go_simp; with_reducible rfl))
          simp only [Act.put, List.getElem_toArray, List.getElem_cons_zero, List.setIfInBounds_toArray, List.set_cons_zero, List.set_cons_succ]
        refine calm_one 1 (by kernel_rfl) rfl (fun K hK => ?_)
        go_simp
        refine (HW.out _ ((Below.refl V.heap.size V).drew)).mono ?_
        rintro e w2 ⟨rfl, L2'⟩
        have L2 : Below V.heap.size V w2 := Below.trans ((Below.refl V.heap.size V).drew) L2'
        refine hK.out _ _ (HK.out _ L2) (fun _ => ?_)
        clear hK K L2'
        refine calm_more14 4 [2, 3, 4, 5, 6, 7, 8, 9, 10, 11, 12, 13] (by kernel_rfl) (by kernel_rfl) (by kernel_rfl) (HK.out _ L2) ?_
        iterate 12
          refine ⟨_, rfl, ?_⟩
          first
            | refine ⟨undef, Or.inr ⟨by rfl, rfl⟩, ?_⟩
            | (apply Exists.intro
               refine ⟨Or.inl ⟨by rfl, fun w' hw' => ?_⟩, ?_⟩
               · first
                 | (go_simp; done)
                 | (go_simp; with_reducible rfl))
          simp only [Act.put, List.getElem_toArray, List.getElem_cons_succ, List.getElem_cons_zero, List.setIfInBounds_toArray, List.set_cons_zero, List.set_cons_succ]
        refine calm_one 14 (by kernel_rfl) rfl (fun K hK => ?_)
        go_simp
        refine hK.out _ _ (HK.out _ L2) (fun _ => ?_)
        clear hK K
        refine calm_rest [15, 16, 17] (by kernel_rfl) (by kernel_rfl) (by kernel_rfl) (by kernel_rfl) (HK.out _ L2) ?_
        iterate 3
          refine ⟨_, rfl, ?_⟩
          first
            | refine ⟨undef, Or.inr ⟨by rfl, rfl⟩, ?_⟩
            | (apply Exists.intro
               refine ⟨Or.inl ⟨by rfl, fun w' hw' => ?_⟩, ?_⟩
               · first
                 | (go_simp; done)
                 | (go_simp; with_reducible rfl))
          simp only [Act.put, List.getElem_toArray, List.getElem_cons_succ, List.getElem_cons_zero, List.setIfInBounds_toArray, List.set_cons_zero, List.set_cons_succ]
        refine NoPanic.normal ?_
        refine NoPanic.normal ?_
        have HF := hidP (chain HB.out (chain HLV.out L2))
        clear L2 HW HK y0 y1
        go_wp2_with fail
        go_ret
        exact ⟨ret_bool HV.out.symm, HF.out⟩
      · rw [hwb] at HW
        have HWB := hidP hwb
        clear hwb
        rcases Nat.eq_zero_or_pos n with hz | hpos
        · have hgn : ¬ ((n : Int) > 0) := by omega
          have hgnd : decide ((n : Int) > 0) = false := decide_eq_false hgn
          have hgne : decide (0 < (n : Int)) = false := decide_eq_false hgn
          have hgnf : decide (0 < n) = false := decide_eq_false (by omega)
          have HTN : Hid (towAt ts n = true) := towAt_yes HWB.out (fun h => by omega)
          have HK : Hid (∀ W', Below V.heap.size V W' → W'.cell? ⟨Y, 0, none⟩ = some (.slice am (wnth ts n).1.length cm) ∧ W'.cell? ⟨Y, 1, none⟩ = some (.slice al (wnth ts n).2.length cl)) := fun W' L' => ⟨(L'.cell (p := ⟨Y, 0, none⟩) hyl).trans y0, (L'.cell (p := ⟨Y, 1, none⟩) hyl).trans y1⟩
          generalize (wnth ts n).1.length = l1 at *
          generalize (wnth ts n).2.length = l2 at *
          clear hz
          go_wp2_with fail
          rw [← hY]
          clear hV c0 c1 k1' hY
          refine wp_region_takes (S := (fun w' => w'.cell? ⟨Y, 0, none⟩ = some (.slice am l1 cm) ∧ w'.cell? ⟨Y, 1, none⟩ = some (.slice al l2 cl))) (fuel := 17) [0] (by kernel_rfl) (by kernel_rfl) (by kernel_rfl) (by kernel_rfl) (HK.out _ ((Below.refl V.heap.size V).drew)) (fun _ => ?_)
          iterate 1
            refine ⟨_, rfl, ?_⟩
            first
              | refine ⟨undef, Or.inr ⟨by rfl, rfl⟩, ?_⟩
              | (apply Exists.intro
                 refine ⟨Or.inl ⟨by rfl, fun w' hw' => ?_⟩, ?_⟩
                 · first
                   | (go_simp; done)
                   | (go_simp; with_reducible rfl))
            simp only [Act.put, List.getElem_toArray, List.getElem_cons_zero, List.setIfInBounds_toArray, List.set_cons_zero, List.set_cons_succ]
          refine calm_one 1 (by kernel_rfl) rfl (fun K hK => ?_)
          go_simp
          refine (HW.out _ ((Below.refl V.heap.size V).drew)).mono ?_
          rintro e w2 ⟨rfl, L2'⟩
          have L2 : Below V.heap.size V w2 := Below.trans ((Below.refl V.heap.size V).drew) L2'
          refine hK.out _ _ (HK.out _ L2) (fun _ => ?_)
          clear hK K L2'
          refine calm_more14 4 [2, 3, 4, 5, 6, 7, 8, 9, 10, 11, 12, 13] (by kernel_rfl) (by kernel_rfl) (by kernel_rfl) (HK.out _ L2) ?_
          iterate 12
            refine ⟨_, rfl, ?_⟩
            first
              | refine ⟨undef, Or.inr ⟨by rfl, rfl⟩, ?_⟩
              | (apply Exists.intro
                 refine ⟨Or.inl ⟨by rfl, fun w' hw' => ?_⟩, ?_⟩
                 · first
                   | (go_simp; done)
                   | (go_simp; with_reducible rfl))
            simp only [Act.put, List.getElem_toArray, List.getElem_cons_succ, List.getElem_cons_zero, List.setIfInBounds_toArray, List.set_cons_zero, List.set_cons_succ]
          refine calm_one 14 (by kernel_rfl) rfl (fun K hK => ?_)
          go_simp
          refine hK.out _ _ (HK.out _ L2) (fun _ => ?_)
          clear hK K
          refine calm_rest [15, 16, 17] (by kernel_rfl) (by kernel_rfl) (by kernel_rfl) (by kernel_rfl) (HK.out _ L2) ?_
          iterate 3
            refine ⟨_, rfl, ?_⟩
            first
              | refine ⟨undef, Or.inr ⟨by rfl, rfl⟩, ?_⟩
              | (apply Exists.intro
                 refine ⟨Or.inl ⟨by rfl, fun w' hw' => ?_⟩, ?_⟩
                 · first
                   | (go_simp; done)
                   | (go_simp; with_reducible rfl))
            simp only [Act.put, List.getElem_toArray, List.getElem_cons_succ, List.getElem_cons_zero, List.setIfInBounds_toArray, List.set_cons_zero, List.set_cons_succ]
          refine NoPanic.normal ?_
          refine NoPanic.normal ?_
          have HF := hidP (chain HLV.out L2)
          clear L2 HW HK y0 y1
          go_wp2_with fail
          go_roundw
          case rel => exact ⟨n + 1, by omega, by go_num, fun j hj => by
            rcases Nat.lt_or_ge j n with h | h
            · exact HA.out j h
            · rw [show j = n by omega]; exact HTN.out, HF.out⟩
          case measure => simp [intOf]; omega
        · have hgn : (n : Int) > 0 := by omega
          have hgnd : decide ((n : Int) > 0) = true := decide_eq_true hgn
          have hgne : decide (0 < (n : Int)) = true := decide_eq_true hgn
          have hgnf : decide (0 < n) = true := decide_eq_true hpos
          obtain ⟨p, hp⟩ : ∃ p, n - 1 = p := ⟨_, rfl⟩
          have hwp : IntKind.i64.wrap ((n : Int) - 1) = (p : Int) := by rw [IntWalk.i64_in _ ⟨by omega, by omega⟩]; omega
          have hp0 : (0 : Int) ≤ (p : Int) := Int.natCast_nonneg _
          have hp4 : (p : Int) < 4 := by omega
          obtain ⟨b3, off3, am3, cm3, al3, cl3, eb3, hb3, e0, e1, hm3, hc3, -⟩ := HIV.out.web (n := p) (by rw [HLEN.out]; omega)
          injection eb3 with eb3
          injection eb3 with eb31 eb32
          subst eb31 eb32
          have HXV := HIV.out.lt
          have HK : Hid (∀ W', Below V.heap.size V W' → W'.cell? ⟨Y, 0, none⟩ = some (.slice am (wnth ts n).1.length cm) ∧ W'.cell? ⟨Y, 1, none⟩ = some (.slice al (wnth ts n).2.length cl) ∧ W'.cell? ⟨w.heap.size, 1, none⟩ = some (.slice (some ⟨b, off, none⟩) 4 cw) ∧ W'.cell? ⟨b, off + p * 2, none⟩ = some (.slice am3 (wnth ts p).1.length cm3) ∧ W'.cell? ⟨b, off + p * 2 + 1, none⟩ = some (.slice al3 (wnth ts p).2.length cl3)) := fun W' L' => ⟨(L'.cell (p := ⟨Y, 0, none⟩) hyl).trans y0, (L'.cell (p := ⟨Y, 1, none⟩) hyl).trans y1, (L'.cell (p := ⟨w.heap.size, 1, none⟩) HXV).trans k1', (L'.cell (p := ⟨b, off + p * 2, none⟩) hb3).trans e0, (L'.cell (p := ⟨b, off + p * 2 + 1, none⟩) hb3).trans e1⟩
          have HMP : Hid (marksB (wnth ts p).1 = true) := web_marks (towAt_web' (HA.out p (by omega)))
          have HBE : Hid (∀ W', Below V.heap.size V W' → Calls Tryz.prog 113 #[.agg #[.slice am3 (wnth ts p).1.length cm3, .slice al3 (wnth ts p).2.length cl3], .agg #[.slice am (wnth ts n).1.length cm, .slice al (wnth ts n).2.length cl]] W' fun e w' => e = .returned (.bool (bearB (wnth ts p).1 (wnth ts n).1)) ∧ Below W'.heap.size W' w') := fun W' L' =>
            iBears am3 al3 am al cm3 cl3 cm cl (wnth ts n).2.length (wnth ts p).1 (wnth ts p).2 (wnth ts n).1 W' (hm3.next L') (hc3.next L') HMP.out (HSM.out p).1 (HMC.out.1.next L') (HSM.out n).1
          have HTY : Hid (bearB (wnth ts p).1 (wnth ts n).1 = true → towAt ts n = true) := fun h => towAt_yes HWB.out (fun _ => by rw [hp]; exact h)
          have HTF : Hid (bearB (wnth ts p).1 (wnth ts n).1 = false → towB d ts = false) := fun h => towB_no hlt (towAt_bear hpos (by rw [hp]; exact h))
          have y00 := y0
          have y11 := y1
          clear hm3 hc3
          obtain ⟨r, hr⟩ : ∃ r, bearB (wnth ts p).1 (wnth ts n).1 = r := ⟨_, rfl⟩
          rw [hr] at HBE HTY HTF
          clear hr
          generalize (wnth ts n).1.length = l1 at *
          generalize (wnth ts n).2.length = l2 at *
          generalize (wnth ts p).1.length = l3 at *
          generalize (wnth ts p).2.length = l4 at *
          clear y00 y11
          go_wp2_with fail
          rw [← hY]
          clear hV c0 c1 hY hp
          refine wp_region_takes (S := (fun w' => w'.cell? ⟨Y, 0, none⟩ = some (.slice am l1 cm) ∧ w'.cell? ⟨Y, 1, none⟩ = some (.slice al l2 cl) ∧ w'.cell? ⟨w.heap.size, 1, none⟩ = some (.slice (some ⟨b, off, none⟩) 4 cw) ∧ w'.cell? ⟨b, off + p * 2, none⟩ = some (.slice am3 l3 cm3) ∧ w'.cell? ⟨b, off + p * 2 + 1, none⟩ = some (.slice al3 l4 cl3))) (fuel := 17) [0] (by kernel_rfl) (by kernel_rfl) (by kernel_rfl) (by kernel_rfl) (HK.out _ ((Below.refl V.heap.size V).drew)) (fun _ => ?_)
          iterate 1
            refine ⟨_, rfl, ?_⟩
            first
              | refine ⟨undef, Or.inr ⟨by rfl, rfl⟩, ?_⟩
              | (apply Exists.intro
                 refine ⟨Or.inl ⟨by rfl, fun w' hw' => ?_⟩, ?_⟩
                 · first
                   | (go_simp; done)
                   | (go_simp; with_reducible rfl))
            simp only [Act.put, List.getElem_toArray, List.getElem_cons_zero, List.setIfInBounds_toArray, List.set_cons_zero, List.set_cons_succ]
          refine calm_one 1 (by kernel_rfl) rfl (fun K hK => ?_)
          go_simp
          refine (HW.out _ ((Below.refl V.heap.size V).drew)).mono ?_
          rintro e w2 ⟨rfl, L2'⟩
          have L2 : Below V.heap.size V w2 := Below.trans ((Below.refl V.heap.size V).drew) L2'
          refine hK.out _ _ (HK.out _ L2) (fun _ => ?_)
          clear hK K L2'
          refine calm_more14 4 [2, 3, 4, 5, 6, 7, 8, 9, 10, 11, 12, 13] (by kernel_rfl) (by kernel_rfl) (by kernel_rfl) (HK.out _ L2) ?_
          iterate 12
            refine ⟨_, rfl, ?_⟩
            first
              | refine ⟨undef, Or.inr ⟨by rfl, rfl⟩, ?_⟩
              | (apply Exists.intro
                 refine ⟨Or.inl ⟨by rfl, fun w' hw' => ?_⟩, ?_⟩
                 · first
                   | (go_simp; done)
                   | (go_simp; with_reducible rfl))
            simp only [Act.put, List.getElem_toArray, List.getElem_cons_succ, List.getElem_cons_zero, List.setIfInBounds_toArray, List.set_cons_zero, List.set_cons_succ]
          refine calm_one 14 (by kernel_rfl) rfl (fun K hK => ?_)
          go_simp
          refine (HBE.out _ L2).mono ?_
          rintro e w3 ⟨rfl, L3'⟩
          have L3 : Below V.heap.size V w3 := chain L2 L3'
          refine hK.out _ _ (HK.out _ L3) (fun _ => ?_)
          clear hK K L3'
          refine calm_rest [15, 16, 17] (by kernel_rfl) (by kernel_rfl) (by kernel_rfl) (by kernel_rfl) (HK.out _ L3) ?_
          iterate 3
            refine ⟨_, rfl, ?_⟩
            first
              | refine ⟨undef, Or.inr ⟨by rfl, rfl⟩, ?_⟩
              | (apply Exists.intro
                 refine ⟨Or.inl ⟨by rfl, fun w' hw' => ?_⟩, ?_⟩
                 · first
                   | (go_simp; done)
                   | (go_simp; with_reducible rfl))
            simp only [Act.put, List.getElem_toArray, List.getElem_cons_succ, List.getElem_cons_zero, List.setIfInBounds_toArray, List.set_cons_zero, List.set_cons_succ]
          refine NoPanic.normal ?_
          refine NoPanic.normal ?_
          have HF := hidP (chain HLV.out L3)
          clear L2 L3 HW HK HBE y0 y1 e0 e1 k1'
          cases r with
          | false =>
            have HV := hidP (HTF.out rfl)
            go_wp2_with fail
            go_ret
            exact ⟨ret_bool HV.out.symm, chain HB.out HF.out⟩
          | true =>
            have HTN := hidP (HTY.out rfl)
            go_wp2_with fail
            go_roundw
            case rel => exact ⟨n + 1, by omega, by go_num, fun j hj => by
              rcases Nat.lt_or_ge j n with h | h
              · exact HA.out j h
              · rw [show j = n by omega]; exact HTN.out, HF.out⟩
            case measure => simp [intOf]; omega
    · have hlti : ¬ (n : Int) < 4 := by omega
      obtain rfl : n = 4 := by omega
      have HV := hidP (towB_yes HIN.out HLEN.out HA.out)
      clear hIr
      go_wp2_with fail
      go_ret
      exact ⟨ret_bool HV.out.symm, chain HB.out HL.out⟩

set_option maxRecDepth 100000 in
set_option maxHeartbeats 1000000 in
theorem iTowerOk (aw : Option Addr) (cw : Nat) (d : Int) (ts : List Wb) (w : World) (hv : WbView true w aw ts) (hsm : WbSmall ts) :
    Calls Tryz.prog 19 #[.agg #[.int .i64 d, .slice aw ts.length cw]] w fun e w' => e = .returned (.bool (towB d ts)) ∧ Below w.heap.size w w' := by
  rcases hin : inR d 0 1000002 with _ | _
  · have HD := hidP (fun W => iDice15 d W)
    rw [hin] at HD
    have HV := hidP (towB_dice (ts := ts) hin)
    have hB : Below w.heap.size w (w.alloc (.cells #[.int .i64 d, .slice aw ts.length cw] 26)) := (Below.refl _ _).alloc (Nat.le_refl _) _
    have HB := hidP hB
    clear hin hv hB
    go_enter Tryz.func19, Tryz.ntmps19
    go_wp2_with fail
    refine (HD.out _).mono ?_
    rintro e w1 ⟨rfl, hw1⟩
    subst hw1
    go_wp2_with fail
    go_ret
    exact ⟨ret_bool HV.out.symm, HB.out⟩
  · by_cases hlen : ts.length = 4
    · rw [hlen]
      exact iTowerOk_in aw cw d ts w hv hsm hin hlen
    · have HD := hidP (fun W => iDice15 d W)
      rw [hin] at HD
      have HV := hidP (towB_many (d := d) hlen)
      have hB : Below w.heap.size w (w.alloc (.cells #[.int .i64 d, .slice aw ts.length cw] 26)) := (Below.refl _ _).alloc (Nat.le_refl _) _
      have HB := hidP hB
      have hl4 : ((ts.length : Int) != 4) = true := by simp; omega
      clear hin hv hB hlen
      go_enter Tryz.func19, Tryz.ntmps19
      go_wp2_with fail
      refine (HD.out _).mono ?_
      rintro e w1 ⟨rfl, hw1⟩
      subst hw1
      go_wp2_with fail
      go_ret
      exact ⟨ret_bool HV.out.symm, HB.out⟩
end Go.Proofs.YtaaagmgglolibaaGreat
namespace Go.Proofs.YtaaagmgglolibaaGreat
open Go Go.RowKit

end Go.Proofs.YtaaagmgglolibaaGreat
