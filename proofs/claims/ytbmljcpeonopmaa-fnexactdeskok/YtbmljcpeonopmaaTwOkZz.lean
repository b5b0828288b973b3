/-
  Is a tower right: what it means, and the given TowerOk.
-/
import Derived.Test.YtbmljcpeonopmaaFeHelpZz
import Derived.Test.YtbmljcpeonopmaaMCopyZz
import Derived.Test.YtbmljcpeonopmaaCopyZz
import Derived.Test.YtbmljcpeonopmaaZSpecZz
import Derived.BigQuiet
import Derived.Deep.LoopGhost
namespace Go.Proofs.Ytbmljcpeonopmaa
open Go Go.RowKit

/-- Is this mark one of those, at the same place? -/
def likeB (lo : List Mk) (m : Mk) : Bool := decide (0 ≤ zFind lo m.1) && decide (mat lo (zIdx lo m.1) = m.2)
def bearB (lo hi : List Mk) : Bool := hi.all (likeB lo)
def towAt (ts : List Wb) (n : Nat) : Bool := webB (wnth ts n).1 (wnth ts n).2 && (n == 0 || bearB (wnth ts (n - 1)).1 (wnth ts n).1)
def towB (d : Int) (ts : List Wb) : Bool := inR d 0 1000002 && (decide (ts.length = 4) && (List.range 4).all (towAt ts))
theorem likeB_iff {lo : List Mk} {m : Mk} : likeB lo m = true ↔ 0 ≤ zFind lo m.1 ∧ mat lo (zIdx lo m.1) = m.2 := by simp [likeB]
theorem mnth_mem15 {l : List Mk} {k : Nat} (h : k < l.length) : mnth l k ∈ l := by simp [mnth, List.getD, h]
theorem bearB_no {lo hi : List Mk} {k : Nat} (hk : k < hi.length) (h : likeB lo (mnth hi k) = false) : bearB lo hi = false := by
  rcases e : bearB lo hi with _ | _
  · rfl
  · rw [bearB, List.all_eq_true] at e
    rw [e _ (mnth_mem15 hk)] at h; cases h
theorem bearB_yes {lo hi : List Mk} (h : ∀ k, k < hi.length → likeB lo (mnth hi k) = true) : bearB lo hi = true := by
  rw [bearB, List.all_eq_true]
  intro m hm
  obtain ⟨k, hk, rfl⟩ := List.getElem_of_mem hm
  have := h k hk
  simpa [mnth, List.getD, hk] using this
theorem towB_no {d : Int} {ts : List Wb} {n : Nat} (hn : n < 4) (h : towAt ts n = false) : towB d ts = false := by
  rcases e : towB d ts with _ | _
  · rfl
  · simp only [towB, Bool.and_eq_true, List.all_eq_true, List.mem_range] at e
    rw [e.2.2 n hn] at h; cases h
theorem towB_yes {d : Int} {ts : List Wb} (h1 : inR d 0 1000002 = true) (h2 : ts.length = 4) (h : ∀ n, n < 4 → towAt ts n = true) : towB d ts = true := by
  simp only [towB, Bool.and_eq_true, List.all_eq_true, List.mem_range, decide_eq_true_eq]
  exact ⟨h1, h2, h⟩
theorem towB_dice {d : Int} {ts : List Wb} (h1 : inR d 0 1000002 = false) : towB d ts = false := by simp [towB, h1]
theorem towB_many {d : Int} {ts : List Wb} (h1 : ts.length ≠ 4) : towB d ts = false := by simp [towB, h1]
theorem towAt_web {ts : List Wb} {n : Nat} (h : webB (wnth ts n).1 (wnth ts n).2 = false) : towAt ts n = false := by simp [towAt, h]
theorem towAt_bear {ts : List Wb} {n : Nat} (h0 : 0 < n) (h : bearB (wnth ts (n - 1)).1 (wnth ts n).1 = false) : towAt ts n = false := by
  have : n ≠ 0 := by omega
  simp [towAt, h, this]
theorem towAt_yes {ts : List Wb} {n : Nat} (h1 : webB (wnth ts n).1 (wnth ts n).2 = true) (h : 0 < n → bearB (wnth ts (n - 1)).1 (wnth ts n).1 = true) : towAt ts n = true := by
  rcases Nat.eq_zero_or_pos n with e | e
  · subst e; simp [towAt, h1]
  · simp [towAt, h1, h e]
theorem towAt_web' {ts : List Wb} {n : Nat} (h : towAt ts n = true) : webB (wnth ts n).1 (wnth ts n).2 = true := by
  rw [towAt, Bool.and_eq_true] at h; exact h.1

/-- The two cells of a tower that is handed over. -/
structure TwIn (s : Bool) (w : World) (X : Nat) (d : Int) (aw : Option Addr) (cw : Nat) (ts : List Wb) : Prop where
  lt : X < w.heap.size
  c0 : w.cell? ⟨X, 0, none⟩ = some (.int .i64 d)
  c1 : w.cell? ⟨X, 1, none⟩ = some (.slice aw ts.length cw)
  wv : WbView s w aw ts
theorem TwIn.box {s : Bool} {w : World} {d : Int} {aw : Option Addr} {cw : Nat} {ts : List Wb} {t : TypeId} (h : WbView s w aw ts) : TwIn s (w.alloc (.cells #[.int .i64 d, .slice aw ts.length cw] t)) w.heap.size d aw cw ts :=
  ⟨by simp, by simp, by simp, h.next ((Below.refl _ _).alloc (Nat.le_refl _) _)⟩
theorem TwIn.below {s : Bool} {w w' : World} {X : Nat} {d : Int} {aw : Option Addr} {cw : Nat} {ts : List Wb} (h : TwIn s w X d aw cw ts) (L : Below w.heap.size w w') : TwIn s w' X d aw cw ts :=
  ⟨Nat.lt_of_lt_of_le h.lt L.size, (L.cell (p := ⟨X, 0, none⟩) h.lt).trans h.c0, (L.cell (p := ⟨X, 1, none⟩) h.lt).trans h.c1, h.wv.next L⟩
/-- One of its webs, ready for a call. -/
theorem TwIn.web {s : Bool} {w : World} {X : Nat} {d : Int} {aw : Option Addr} {cw : Nat} {ts : List Wb} (h : TwIn s w X d aw cw ts) {n : Nat} (hn : n < ts.length) : ∃ b off am cm al cl, aw = some ⟨b, off, none⟩ ∧ b < w.heap.size ∧ w.cell? ⟨b, off + n * 2, none⟩ = some (.slice am (wnth ts n).1.length cm) ∧ w.cell? ⟨b, off + n * 2 + 1, none⟩ = some (.slice al (wnth ts n).2.length cl) ∧ MView w am (wnth ts n).1 ∧ CView w al (wnth ts n).2 ∧ (s = true → (wnth ts n).1.length ≤ cm ∧ (wnth ts n).2.length ≤ cl) := by
  obtain ⟨b, off, e, hb, hs⟩ := h.wv.seg (by omega)
  obtain ⟨am, cm, al, cl, h1, h2, h3, h4, h5⟩ := hs n hn
  exact ⟨b, off, am, cm, al, cl, e, hb, h1, h2, h3, h4, h5⟩

set_option maxRecDepth 100000 in
set_option maxHeartbeats 4000000 in
theorem sTowerOk_in (s : Bool) (aw : Option Addr) (cw : Nat) (d : Int) (ts : List Wb) (w : World) (hv : WbView s w aw ts) (hsm : WbSmall ts) (hin : inR d 0 1000002 = true) (hlen : ts.length = 4) :
    Calls Try.prog 63 #[.agg #[.int .i64 d, .slice aw 4 cw]] w fun e w' => e = .returned (.bool (towB d ts)) ∧ Below w.heap.size w w' := by
  obtain ⟨W, hW⟩ : ∃ W, w.alloc (.cells #[.int .i64 d, .slice aw 4 cw] 32) = W := ⟨_, rfl⟩
  have hB : Below w.heap.size w W := by rw [← hW]; exact (Below.refl _ _).alloc (Nat.le_refl _) _
  have hI : TwIn s W w.heap.size d aw cw ts := by rw [← hW, ← hlen]; exact TwIn.box hv
  have HD := hidP (sDice15 d W)
  rw [hin] at HD
  have k0 := hI.c0
  have k1 := hI.c1
  rw [hlen] at k1
  have HB := hidP hB
  have HI := hidP hI
  have HSM := hidP hsm.2
  have HLEN := hidP hlen
  have HIN := hidP hin
  clear hv hsm hB hI hin hlen
  go_enter Try.func63, Try.ntmps63
  go_wp2_with fail
  refine HD.out.mono ?_
  rintro e w1 ⟨rfl, hw1⟩
  subst hw1
  go_wp2_with fail
  clear k0 HD
  go_loopg [3] 4 (fun gk nv wr => ∃ n : Nat, n ≤ 4 ∧ 4 - n ≤ gk ∧ nv = .int .i64 n ∧ (∀ j, j < n → towAt ts j = true) ∧ Below w1.heap.size w1 wr)
  case atStart => exact ⟨0, by omega, by omega, rfl, fun j hj => by omega, Below.refl _ _⟩
  case round =>
    obtain ⟨n, hn, hgk, rfl, hall, L⟩ := hrel
    have HA := hidP hall
    have HL := hidP L
    have hIr := HI.out.below L
    clear hall L k1
    by_cases hlt : n < 4
    · have hlti : (n : Int) < 4 := by omega
      have hn0 : (0 : Int) ≤ (n : Int) := Int.natCast_nonneg _
      obtain ⟨b, off, am, cm, al, cl, rfl, hb, c0, c1, hm, hc, -⟩ := hIr.web (n := n) (by rw [HLEN.out]; exact hlt)
      have k1 := hIr.c1
      rw [HLEN.out] at k1
      have HC := hidP (sWebOk am al cm cl (wnth ts n).1 (wnth ts n).2 wr hm hc (HSM.out n).1 (HSM.out n).2)
      have HIR := hidP hIr
      clear hm hc hIr
      rcases hwb : webB (wnth ts n).1 (wnth ts n).2 with _ | _
      · rw [hwb] at HC
        have HV := hidP (towB_no (d := d) hlt (towAt_web hwb))
        clear hwb
        generalize (wnth ts n).1.length = l1 at *
        generalize (wnth ts n).2.length = l2 at *
        go_wp2_with fail
        refine HC.out.mono ?_
        rintro e w2 ⟨rfl, L2⟩
        have HF := hidP (chain HB.out (chain HL.out L2))
        clear L2
        go_wp2_with fail
        go_ret
        exact ⟨ret_bool HV.out.symm, HF.out⟩
      · rw [hwb] at HC
        have HWB := hidP hwb
        have HM60 := hidP (marksB_len (web_marks hwb))
        clear hwb
        obtain ⟨hi, hhi⟩ : ∃ hi, (wnth ts n).1 = hi := ⟨_, rfl⟩
        have HHI := hidP hhi
        rw [hhi] at HC c0 HM60
        clear hhi
        generalize (wnth ts n).2.length = l2 at *
        go_wp2_with fail
        refine HC.out.mono ?_
        rintro e w2 ⟨rfl, L2⟩
        have HL2 := hidP (chain HL.out L2)
        clear L2 k1 c0 c1 HIR HC
        go_wp2_with fail
        go_loopw [4] (fun iv wi => ∃ i : Nat, i ≤ hi.length ∧ (n = 0 → i = 0) ∧ iv = .int .i64 i ∧ (∀ j, j < i → likeB (wnth ts (n - 1)).1 (mnth hi j) = true) ∧ Below w1.heap.size w1 wi) (fun iv _ => hi.length - (intOf iv).toNat)
        case atStart => exact ⟨0, Nat.zero_le _, fun _ => rfl, rfl, fun j hj => by omega, HL2.out⟩
        case round =>
          obtain ⟨i, hi', hz, rfl, halli, Li⟩ := hrel
          generalize hwi : wr = wi at *
          clear hwi wr
          have HAI := hidP halli
          have HLI := hidP Li
          have hIi := HI.out.below Li
          obtain ⟨b2, off2, am2, cm2, al2, cl2, eb, hb2, d0, d1, hm2, -, -⟩ := hIi.web (n := n) (by rw [HLEN.out]; exact hlt)
          injection eb with eb
          injection eb with eb1 eb2
          subst eb1 eb2
          have k1 := hIi.c1
          rw [HLEN.out] at k1
          rw [HHI.out] at d0 hm2
          clear halli Li
          by_cases hil : i < hi.length
          · have hi60 := HM60.out
            have hili : (i : Int) < (hi.length : Int) := by omega
            have hi0 : (0 : Int) ≤ (i : Int) := Int.natCast_nonneg _
            by_cases hn1 : 0 < n
            · have hgn : (n : Int) > 0 := by omega
              obtain ⟨p, hp⟩ : ∃ p, n - 1 = p := ⟨_, rfl⟩
              have hwp : IntKind.i64.wrap ((n : Int) - 1) = (p : Int) := by rw [IntWalk.i64_in _ ⟨by omega, by omega⟩]; omega
              have hp0 : (0 : Int) ≤ (p : Int) := Int.natCast_nonneg _
              have hp4 : (p : Int) < 4 := by omega
              obtain ⟨b3, off3, am3, cm3, al3, cl3, eb3, hb3, e0, e1, hm3, -, -⟩ := hIi.web (n := p) (by rw [HLEN.out]; omega)
              injection eb3 with eb3
              injection eb3 with eb31 eb32
              subst eb31 eb32
              obtain ⟨mb, mo, rfl, hmb, hms⟩ := MSeg.seg hm2 (by omega)
              obtain ⟨cid, pa, pc, cat, hpv⟩ := hms.at (i := i) hil
              have HSL := hidP (HSM.out p).1
              rw [hp] at HAI
              have HBR : Hid (bearB (wnth ts p).1 hi = false → towB d ts = false) := fun h => towB_no hlt (towAt_bear hn1 (by rw [hp, HHI.out]; exact h))
              have HNB := hidP (fun h => bearB_no (lo := (wnth ts p).1) hil h)
              have HLK : Hid (likeB (wnth ts p).1 (mnth hi i) = true ↔ 0 ≤ zFind (wnth ts p).1 (mid hi i) ∧ mat (wnth ts p).1 (zIdx (wnth ts p).1 (mid hi i)) = mat hi i) := likeB_iff
              have hp4' := (HSM.out n).1
              rw [HHI.out] at hp4'
              have hpl := hp4'.2 i
              obtain ⟨V, hV⟩ : ∃ V, wi.alloc (.cells #[.int .i64 (mid hi i), .slice pa (mat hi i).length pc] 76) = V := ⟨_, rfl⟩
              have LV : Below wi.heap.size wi V := by rw [← hV]; exact (Below.refl _ _).alloc (Nat.le_refl _) _
              have y0 : V.cell? ⟨wi.heap.size, 0, none⟩ = some (.int .i64 (mid hi i)) := by rw [← hV]; simp
              have y1 : V.cell? ⟨wi.heap.size, 1, none⟩ = some (.slice pa (mat hi i).length pc) := by rw [← hV]; simp
              have HXl := hIi.lt
              have k1' := (LV.cell (p := ⟨w.heap.size, 1, none⟩) HXl).trans k1
              have e0' := (LV.cell (p := ⟨b, off + p * 2, none⟩) hb3).trans e0
              have HLV := hidP (chain HLI.out LV)
              have HFD : Hid (∀ m, Calls Try.prog 64 #[.slice am3 (wnth ts p).1.length cm3, .int .i64 (mid hi i)] (V.drewN m) fun e w'' => e = .returned (.int .i64 (zFind (wnth ts p).1 (mid hi i))) ∧ ∃ m', w'' = V.drewN m') := fun m => by
                refine (sFind am3 cm3 (wnth ts p).1 (mid hi i) (V.drewN m) (hm3.next (below_drewN LV m)) HSL.out.1).mono ?_
                rintro e w'' ⟨he, hm⟩
                exact ⟨he, m, hm⟩
              have HPV := hidP (hpv.next LV)
              have HM3 := hidP (hm3.next LV)
              clear hms hm2 hm3 hIi hpv LV hp4'
              generalize hlo : (wnth ts p).1 = lo at *
              generalize hxid : mid hi i = x at *
              generalize hxat : mat hi i = xa at *
              have HLO : Hid ((wnth ts (n - 1)).1 = lo) := by show _ = _; rw [hp, hlo]
              clear hlo hxid hxat
              rcases hfz : decide (0 ≤ zFind lo x) with _ | _
              · have hfz' : zFind lo x < 0 := by simpa using hfz
                have HV2 := hidP (HBR.out (HNB.out (by rcases e : likeB lo (mnth hi i) with _ | _; rfl; have := HLK.out.1 e; omega)))
                clear hfz HLK HBR HNB
                generalize zFind lo x = fz at *
                go_wp2_with fail
                clear hV
                refine wp_region_quiet_lit (by kernel_rfl) (by kernel_rfl) ?_
                try simp only [List.append_eq, List.cons_append, List.nil_append]
                repeat (go_big_quiet_step ((go_at_call 64; exact HFD.out _)))
                refine wpQuiet_nil ?_
                intro _ hw'
                obtain ⟨nq, hw''⟩ := hw'
                subst hw''
                go_wp2_with fail
                refine wp_region_quiet_lit (by kernel_rfl) (by kernel_rfl) ?_
                try simp only [List.append_eq, List.cons_append, List.nil_append]
                repeat (go_big_quiet_step (fail))
                refine wpQuiet_nil ?_
                intro _ hw'
                obtain ⟨nq2, hw''⟩ := hw'
                subst hw''
                go_wp2_with fail
                go_ret
                exact ⟨ret_bool HV2.out.symm, below_drewN (below_drewN (chain HB.out HLV.out) _) _⟩
              · have hfz' : 0 ≤ zFind lo x := by simpa using hfz
                obtain ⟨za, zb, zc⟩ := zIdx_lt hfz'
                obtain ⟨lb, lo2, rfl, hlb, hls⟩ := MSeg.seg HM3.out (by omega)
                obtain ⟨-, qa, qc, qat, hqv⟩ := hls.at (i := zIdx lo x) za
                have hql := HSL.out.2 (zIdx lo x)
                have HSA : Hid (∀ k m, Calls Try.prog 65 #[.slice qa (mat lo (zIdx lo x)).length qc, .slice pa xa.length pc] ((V.drewN k).drewN m) fun e w'' => e = .returned (.bool (decide (mat lo (zIdx lo x) = xa))) ∧ ∃ m', w'' = (V.drewN k).drewN m') := fun k m => by
                  refine (gsameS qa pa qc pc (mat lo (zIdx lo x)) xa ((V.drewN k).drewN m) (View.drewN (View.drewN hqv k) m) (View.drewN (View.drewN HPV.out k) m) (by omega)).mono ?_
                  rintro e w'' ⟨he, m', hm⟩
                  exact ⟨he, m + m', by rw [hm]; simp [Nat.add_assoc]⟩
                have HV2 : Hid (decide (mat lo (zIdx lo x) = xa) = false → towB d ts = false) := fun h => HBR.out (HNB.out (by rcases e : likeB lo (mnth hi i) with _ | _; rfl; have := HLK.out.1 e; rw [decide_eq_false_iff_not] at h; exact absurd this.2 h))
                have HV3 : Hid (decide (mat lo (zIdx lo x) = xa) = true → likeB lo (mnth hi i) = true) := fun h => HLK.out.2 ⟨hfz', of_decide_eq_true h⟩
                have hzi : zFind lo x = (zIdx lo x : Nat) := zb.symm
                rw [hzi] at HFD
                have hj0 : (0 : Int) ≤ (zIdx lo x : Int) := Int.natCast_nonneg _
                have hj1 : ((zIdx lo x : Nat) : Int) < (lo.length : Int) := by omega
                have hj2 : ¬ ((zIdx lo x : Nat) : Int) < 0 := by omega
                have hj2d : decide (((zIdx lo x : Nat) : Int) < 0) = false := decide_eq_false hj2
                clear hfz hfz' HLK HBR HNB zb zc hzi hls hqv
                rcases hsm : decide (mat lo (zIdx lo x) = xa) with _ | _
                · rw [hsm] at HSA
                  have HV4 := hidP (HV2.out hsm)
                  clear hsm HV2 HV3
                  generalize (mat lo (zIdx lo x)).length = ql at *
                  generalize zIdx lo x = j at *
                  go_wp2_with fail
                  clear hV
                  refine wp_region_quiet_lit (by kernel_rfl) (by kernel_rfl) ?_
                  try simp only [List.append_eq, List.cons_append, List.nil_append]
                  repeat (go_big_quiet_step ((go_at_call 64; exact HFD.out _)))
                  refine wpQuiet_nil ?_
                  intro _ hw'
                  obtain ⟨nq, hw''⟩ := hw'
                  subst hw''
                  have HSB := hidP (HSA.out nq)
                  have HLQ : Hid (Below w1.heap.size w1 (V.drewN nq)) := below_drewN HLV.out nq
                  replace y0 : (V.drewN nq).cell? ⟨wi.heap.size, 0, none⟩ = some (.int .i64 x) := y0
                  replace y1 : (V.drewN nq).cell? ⟨wi.heap.size, 1, none⟩ = some (.slice pa xa.length pc) := y1
                  replace k1' : (V.drewN nq).cell? ⟨w.heap.size, 1, none⟩ = some (.slice (some ⟨b, off, none⟩) 4 cw) := k1'
                  replace e0' : (V.drewN nq).cell? ⟨b, off + p * 2, none⟩ = some (.slice (some ⟨lb, lo2, none⟩) lo.length cm3) := e0'
                  replace qat : (V.drewN nq).cell? ⟨lb, lo2 + j * 2 + 1, none⟩ = some (.slice qa ql qc) := qat
                  generalize V.drewN nq = V2 at *
                  clear HSA HFD HM3 HPV hlb
                  go_wp2_with fail
                  refine wp_region_quiet_lit (by kernel_rfl) (by kernel_rfl) ?_
                  try simp only [List.append_eq, List.cons_append, List.nil_append]
                  repeat (go_big_quiet_step ((go_at_call 65; exact HSB.out _)))
                  refine wpQuiet_nil ?_
                  intro _ hw'
                  obtain ⟨nq2, hw''⟩ := hw'
                  subst hw''
                  go_wp2_with fail
                  go_ret
                  exact ⟨ret_bool HV4.out.symm, below_drewN (chain HB.out HLQ.out) _⟩
                · rw [hsm] at HSA
                  have HV4 := hidP (HV3.out hsm)
                  clear hsm HV2 HV3
                  generalize (mat lo (zIdx lo x)).length = ql at *
                  generalize zIdx lo x = j at *
                  go_wp2_with fail
                  clear hV
                  refine wp_region_quiet_lit (by kernel_rfl) (by kernel_rfl) ?_
                  try simp only [List.append_eq, List.cons_append, List.nil_append]
                  repeat (go_big_quiet_step ((go_at_call 64; exact HFD.out _)))
                  refine wpQuiet_nil ?_
                  intro _ hw'
                  obtain ⟨nq, hw''⟩ := hw'
                  subst hw''
                  have HSB := hidP (HSA.out nq)
                  have HLQ : Hid (Below w1.heap.size w1 (V.drewN nq)) := below_drewN HLV.out nq
                  replace y0 : (V.drewN nq).cell? ⟨wi.heap.size, 0, none⟩ = some (.int .i64 x) := y0
                  replace y1 : (V.drewN nq).cell? ⟨wi.heap.size, 1, none⟩ = some (.slice pa xa.length pc) := y1
                  replace k1' : (V.drewN nq).cell? ⟨w.heap.size, 1, none⟩ = some (.slice (some ⟨b, off, none⟩) 4 cw) := k1'
                  replace e0' : (V.drewN nq).cell? ⟨b, off + p * 2, none⟩ = some (.slice (some ⟨lb, lo2, none⟩) lo.length cm3) := e0'
                  replace qat : (V.drewN nq).cell? ⟨lb, lo2 + j * 2 + 1, none⟩ = some (.slice qa ql qc) := qat
                  generalize V.drewN nq = V2 at *
                  clear HSA HFD HM3 HPV hlb
                  go_wp2_with fail
                  refine wp_region_quiet_lit (by kernel_rfl) (by kernel_rfl) ?_
                  try simp only [List.append_eq, List.cons_append, List.nil_append]
                  repeat (go_big_quiet_step ((go_at_call 65; exact HSB.out _)))
                  refine wpQuiet_nil ?_
                  intro _ hw'
                  obtain ⟨nq2, hw''⟩ := hw'
                  subst hw''
                  go_wp2_with fail
                  go_roundw
                  case rel => exact ⟨i + 1, by omega, fun h => by omega, by have := HM60.out; go_num, fun j hj => by
                    rw [HLO.out]
                    rcases Nat.lt_or_ge j i with h | h
                    · exact HAI.out j h
                    · rw [show j = i by omega]; exact HV4.out, below_drewN HLQ.out _⟩
                  case measure => have := HM60.out; simp [intOf]; omega
            · have hgn : ¬ ((n : Int) > 0) := by omega
              have HTN : Hid (towAt ts n = true) := towAt_yes HWB.out (fun h => absurd h hn1)
              clear hz hm2 hIi
              go_wp2_with fail
              go_roundg (4 - (n + 1))
              case rel => exact ⟨n + 1, by omega, by omega, by go_num, fun j hj => by
                rcases Nat.lt_or_ge j n with h | h
                · exact HA.out j h
                · rw [show j = n by omega]; exact HTN.out, HLI.out⟩
              case measure => omega
          · have hili : ¬ (i : Int) < (hi.length : Int) := by omega
            obtain rfl : i = hi.length := by omega
            have HTN : Hid (towAt ts n = true) := towAt_yes HWB.out (fun h => by rw [HHI.out]; exact bearB_yes HAI.out)
            clear hz hm2 hIi
            go_wp2_with fail
            go_roundg (4 - (n + 1))
            case rel => exact ⟨n + 1, by omega, by omega, by go_num, fun j hj => by
              rcases Nat.lt_or_ge j n with h | h
              · exact HA.out j h
              · rw [show j = n by omega]; exact HTN.out, HLI.out⟩
            case measure => omega
    · have hlti : ¬ (n : Int) < 4 := by omega
      obtain rfl : n = 4 := by omega
      have HV := hidP (towB_yes HIN.out HLEN.out HA.out)
      clear hIr
      go_wp2_with fail
      go_ret
      exact ⟨ret_bool HV.out.symm, chain HB.out HL.out⟩

set_option maxRecDepth 100000 in
set_option maxHeartbeats 1000000 in
theorem sTowerOk (s : Bool) (aw : Option Addr) (cw : Nat) (d : Int) (ts : List Wb) (w : World) (hv : WbView s w aw ts) (hsm : WbSmall ts) :
    Calls Try.prog 63 #[.agg #[.int .i64 d, .slice aw ts.length cw]] w fun e w' => e = .returned (.bool (towB d ts)) ∧ Below w.heap.size w w' := by
  rcases hin : inR d 0 1000002 with _ | _
  · have HD := hidP (fun W => sDice15 d W)
    rw [hin] at HD
    have HV := hidP (towB_dice (ts := ts) hin)
    have hB : Below w.heap.size w (w.alloc (.cells #[.int .i64 d, .slice aw ts.length cw] 32)) := (Below.refl _ _).alloc (Nat.le_refl _) _
    have HB := hidP hB
    clear hin hv hB
    go_enter Try.func63, Try.ntmps63
    go_wp2_with fail
    refine (HD.out _).mono ?_
    rintro e w1 ⟨rfl, hw1⟩
    subst hw1
    go_wp2_with fail
    go_ret
    exact ⟨ret_bool HV.out.symm, HB.out⟩
  · by_cases hlen : ts.length = 4
    · rw [hlen]
      exact sTowerOk_in s aw cw d ts w hv hsm hin hlen
    · have HD := hidP (fun W => sDice15 d W)
      rw [hin] at HD
      have HV := hidP (towB_many (d := d) hlen)
      have hB : Below w.heap.size w (w.alloc (.cells #[.int .i64 d, .slice aw ts.length cw] 32)) := (Below.refl _ _).alloc (Nat.le_refl _) _
      have HB := hidP hB
      have hl4 : ((ts.length : Int) != 4) = true := by simp; omega
      clear hin hv hB hlen
      go_enter Try.func63, Try.ntmps63
      go_wp2_with fail
      refine (HD.out _).mono ?_
      rintro e w1 ⟨rfl, hw1⟩
      subst hw1
      go_wp2_with fail
      go_ret
      exact ⟨ret_bool HV.out.symm, HB.out⟩
end Go.Proofs.Ytbmljcpeonopmaa
