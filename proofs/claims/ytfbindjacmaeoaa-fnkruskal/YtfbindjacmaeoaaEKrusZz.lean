/-
  The walk of FnKruskal, over what the program's own functions answer.
-/
import Derived.Test.YtfbindjacmaeoaaEWalkZz
import Derived.Test.YtfbindjacmaeoaaESpAZz
import Derived.Test.YtfbindjacmaeoaaEDr2Zz
import Derived.Test.YtfbindjacmaeoaaEFinZz
import Derived.Test.YtfbindjacmaeoaaMovedSZz
import Derived.Test.YtfbindjacmaeoaaBytesZz
namespace Go.Proofs.Ytfbindjacmaeoaa
open Go Go.RowKit

/-- What the law has in hand. -/
structure KrP (w : World) (gl : Nat) (ms : List Mk) (a5 : Option Addr) (R : List Th) (W : World) : Prop where
  list : MView W (some ⟨gl, 0, none⟩) ms
  thr : TView W a5 R
  low : Below w.heap.size w W
theorem KrP.next {w : World} {gl : Nat} {ms : List Mk} {a5 : Option Addr} {R : List Th} {W W' : World} (h : KrP w gl ms a5 R W) (L : Below W.heap.size W W') : KrP w gl ms a5 R W' := ⟨h.list.next L, h.thr.next L, chain h.low L⟩
structure KrQ (ga : Nat) (ms' : List Mk) (a' : Option Addr) (ts : List Th) (gs : Nat) (ss : List Th) (W : World) : Prop where
  list : MView W (some ⟨ga, 0, none⟩) ms'
  thr : TView W a' ts
  tot : TView W (some ⟨gs, 0, none⟩) ss
theorem KrQ.next {ga : Nat} {ms' : List Mk} {a' : Option Addr} {ts : List Th} {gs : Nat} {ss : List Th} {W W' : World} (h : KrQ ga ms' a' ts gs ss W) (L : Below W.heap.size W W') : KrQ ga ms' a' ts gs ss W' := ⟨h.list.next L, h.thr.next L, h.tot.next L⟩

set_option maxRecDepth 100000 in
set_option maxHeartbeats 8000000 in
theorem walkKruskal (HIT : IThreads) (HID : ITied) (HIO : ITotal) (ao0 : Option Addr) (len0 cap0 : Nat) (w : World) (hv0 : CodeV w ao0 len0) :
    Calls Try.prog 3 #[.slice ao0 len0 cap0] w fun e w' => e = .returned (.bool true) ∧ Below w.heap.size w w' := by
  have HT := hidP HIT
  have HD := hidP HID
  have HO := hidP HIO
  clear HIT HID HIO
  obtain ⟨j0, hj0, hy0, hy1, hy2⟩ := info_parts Try.info41
  by_cases hbig : 4096 < len0
  · have hbb : decide (4096 < (len0 : Int)) = true := by simp; omega
    go_enter Try.func3, Try.ntmps3
    go_wp2_with fail
    refine (bigC ao0 len0 cap0 _).mono ?_
    rintro e w1 ⟨rfl, hw1⟩
    subst hw1
    go_wp2_with fail
    go_ret
    exact ⟨rfl, Below.refl _ _⟩
  have hbb : decide (4096 < (len0 : Int)) = false := by simp; omega
  have hn : len0 ≤ 4096 := by omega
  have HV0 := hidP hv0
  clear hbig hv0
  go_enter Try.func3, Try.ntmps3
  go_wp2_with fail
  refine (bigC ao0 len0 cap0 _).mono ?_
  rintro e w0 ⟨rfl, hw0⟩
  subst hw0
  rw [hbb]
  clear hbb
  go_wp2_with fail
  refine (cDrawThr ao0 len0 cap0 _ HV0.out hn).mono ?_
  rintro e w1 ⟨gl, cl, ms, kd, rfl, v1, ⟨hsm, hcl⟩, hl7, L1⟩
  have HCL := hidP hcl
  clear hcl
  obtain ⟨R, hR⟩ : ∃ R, thrL ms kd = R := ⟨_, rfl⟩
  have nR : R.length ≤ 3660 := by rw [← hR]; exact thrL_short ms kd
  have HR := hidP hR
  have HC := hidP (HT.out (some ⟨gl, 0, none⟩) cl ms kd w1 v1 hsm HCL.out)
  rw [hR] at HC
  clear hR
  have HV1 := hidP v1
  clear v1
  go_wp2_with fail
  refine HC.out.mono ?_
  rintro e w2 ⟨a5, c5, rfl, O2, M2⟩
  have P2 : Hid (KrP w gl ms a5 R w2) := ⟨HV1.out.next M2, O2.view, chain L1 M2⟩
  clear HC HV1 O2 M2 L1
  go_wp2_with fail
  refine (cDrawTied ao0 len0 cap0 _ (HV0.out.below (Nat.le_refl _) P2.out.low) hn).mono ?_
  rintro e w3 ⟨ga, ca, ms', a', c', ts, kd', rfl, v3, ⟨hsm', hca⟩, t3, ht60, M3⟩
  have HCA := hidP hca
  clear hca
  have P3 := hidP (P2.out.next M3)
  have HQ3 := hidP (And.intro v3 t3)
  clear P2 M3 v3 t3
  go_wp2_with fail
  refine (cDrawTotal ao0 len0 cap0 _ (HV0.out.below (Nat.le_refl _) P3.out.low) hn).mono ?_
  rintro e w4 ⟨gs, cs, ss, rfl, t4, hs60, M4⟩
  have P4 := hidP (P3.out.next M4)
  have Q4 : Hid (KrQ ga ms' a' ts gs ss w4) := ⟨HQ3.out.1.next M4, HQ3.out.2.next M4, t4⟩
  clear P3 HQ3 M4 t4
  have HC := hidP (sThreads (some ⟨gl, 0, none⟩) cl ms kd w4 P4.out.list hsm)
  rw [HR.out] at HC
  go_wp2_with fail
  refine HC.out.mono ?_
  rintro e w5 ⟨g5, d5, rfl, r5, M5⟩
  have P5 := hidP (P4.out.next M5)
  have Q5 := hidP (Q4.out.next M5)
  have V5 := hidP r5.view
  clear HC P4 Q4 M5 r5
  go_wp2_with fail
  refine (likeTS a5 (some ⟨g5, 0, none⟩) c5 d5 R R _ P5.out.thr V5.out (by omega)).mono ?_
  rintro e w6 ⟨rfl, n6, hw6⟩
  have M6 : Below w5.heap.size w5 w6 := by rw [hw6]; exact below_drewN (Below.refl _ _) n6
  have P6 := hidP (P5.out.next M6)
  have Q6 := hidP (Q5.out.next M6)
  have ht : decide (R = R) = true := by simp
  clear hw6 M6 P5 Q5 V5
  have HC := hidP (HD.out (some ⟨ga, 0, none⟩) a' ca c' ms' ts kd' w6 Q6.out.list Q6.out.thr hsm' (by omega) HCA.out)
  obtain ⟨B, hB⟩ : ∃ B, tiedB ms' ts kd' = B := ⟨_, rfl⟩
  rw [hB] at HC
  have HB := hidP hB
  clear hB
  go_wp2_with fail
  refine HC.out.mono ?_
  rintro e w7 ⟨rfl, M7⟩
  have P7 := hidP (P6.out.next M7)
  have Q7 := hidP (Q6.out.next M7)
  clear HC P6 Q6 M7
  have HC := hidP (sTied (some ⟨ga, 0, none⟩) a' ca c' ms' ts kd' w7 Q7.out.list Q7.out.thr hsm' (by omega))
  rw [HB.out] at HC
  go_wp2_with fail
  refine HC.out.mono ?_
  rintro e w8 ⟨rfl, M8⟩
  have P8 := hidP (P7.out.next M8)
  have Q8 := hidP (Q7.out.next M8)
  have hbb : (B != B) = false := by simp
  clear HC P7 Q7 M8
  have HC := hidP (HO.out (some ⟨gs, 0, none⟩) cs ss w8 Q8.out.tot (by omega))
  go_wp2_with fail
  refine HC.out.mono ?_
  rintro e w9 ⟨rfl, M9⟩
  have P9 := hidP (P8.out.next M9)
  have Q9 := hidP (Q8.out.next M9)
  have htt : (totV ss != totV ss) = false := by simp
  clear HC P8 Q8 M9
  have HC := hidP (sTotal (some ⟨gs, 0, none⟩) cs ss w9 Q9.out.tot (by omega))
  go_wp2_with fail
  refine HC.out.mono ?_
  rintro e wa ⟨rfl, hwa⟩
  subst wa
  clear HC
  have HC := hidP (HD.out (some ⟨ga, 0, none⟩) a' ca c' ms' ts kd' w9 Q9.out.list Q9.out.thr hsm' (by omega) HCA.out)
  rw [HB.out] at HC
  go_upto_region 9 with fail
  go_cut [69] from 57 to 157 (fun v wx => v = .bool false ∧ KrP w gl ms a5 R wx)
  case first =>
    cases B with
    | false =>
      go_wp2_with fail
      refine HC.out.mono ?_
      rintro e wb ⟨rfl, Mb⟩
      have Pb := hidP (P9.out.next Mb)
      clear HC Mb
      go_wp2_with fail
      go_meet
      exact ⟨rfl, Pb.out⟩
    | true =>
      have HK := hidP (kruskal HB.out)
      go_wp2_with fail
      refine HC.out.mono ?_
      rintro e wb ⟨rfl, Mb⟩
      have Pb := hidP (P9.out.next Mb)
      have Qb := hidP (Q9.out.next Mb)
      clear HC Mb P9 Q9
      have HC := hidP (HO.out a' c' ts wb Qb.out.thr (by omega))
      go_wp2_with fail
      refine HC.out.mono ?_
      rintro e wc ⟨rfl, Mc⟩
      have Pc := hidP (Pb.out.next Mc)
      have Qc := hidP (Qb.out.next Mc)
      clear HC Mc Pb Qb
      have HC := hidP (HT.out (some ⟨ga, 0, none⟩) ca ms' kd' wc Qc.out.list hsm' HCA.out)
      go_wp2_with fail
      refine HC.out.mono ?_
      rintro e wd ⟨ad, cd, rfl, Od, Md⟩
      have Pd := hidP (Pc.out.next Md)
      have Vd := hidP Od.view
      clear HC Md Pc Qc Od
      have HC := hidP (HO.out ad cd (thrL ms' kd') wd Vd.out (by have := thrL_short ms' kd'; omega))
      go_wp2_with fail
      refine HC.out.mono ?_
      rintro e we ⟨rfl, Me⟩
      have Pe := hidP (Pd.out.next Me)
      have hlt : decide (totV ts < totV (thrL ms' kd')) = false := by have := HK.out; simp; omega
      clear HC Me Pd Vd
      go_wp2_with fail
      go_meet
      exact ⟨rfl, Pe.out⟩
  case rest =>
    obtain ⟨rfl, hp⟩ := hcut
    have P := hidP hp
    clear hp HC P9 Q9 htt ht hbb HB
    by_cases h0 : R.length = 0
    · have h0b : ((R.length : Int) == 0) = true := by rw [beq_iff_eq]; omega
      have H0 := hidP h0
      clear h0
      go_wp2_with fail
      go_ret
      exact ⟨rfl, P.out.low⟩
    have h0b : ((R.length : Int) == 0) = false := by rw [beq_eq_false_iff_ne]; omega
    have hsome : thrB ms kd = true ∧ R.length + 1 = ms.length := by have := thr_some (ms := ms) (kd := kd) (by rw [HR.out]; omega); rwa [HR.out] at this
    have HTB := hidP hsome.1
    have hlen := hsome.2
    have htied : tiedB ms R kd = true := by rw [← HR.out]; exact thr_tied hsome.1 (by omega)
    have HC := hidP (HD.out (some ⟨gl, 0, none⟩) a5 cl c5 ms R kd wc P.out.list P.out.thr hsm (by omega) HCL.out)
    rw [htied] at HC
    clear hsome htied
    have HLN := hidP hlen
    clear hlen
    go_wp2_with fail
    refine HC.out.mono ?_
    rintro e wb ⟨rfl, Mb⟩
    have Pb := hidP (P.out.next Mb)
    clear HC Mb P
    go_wp2_with fail
    go_loopw [10] (fun i wr => ∃ rd : Nat, rd ≤ 5 ∧ i = .int .i64 rd ∧ KrP w gl ms a5 R wr) (fun i _ => 5 - (intOf i).toNat)
    case atStart => exact ⟨0, Nat.zero_le _, rfl, Pb.out⟩
    case round =>
      obtain ⟨rd, hrd, rfl, hp⟩ := hrel
      clear Pb
      have P := hidP hp
      clear hp
      by_cases hlt : rd < 5
      · have hrb : (rd : Int) < 5 := by omega
        have hlen := HLN.out
        obtain ⟨Wr, hWr⟩ : ∃ Wr, Wr = wr := ⟨_, rfl⟩
        subst hWr
        have R0 : Hid (TRow Wr.heap.size (Wr.alloc (.cells #[] 41)) Wr.heap.size 0 (starL ms kd (fun _ => 0) 0)) := TRow.start Wr _ (Nat.le_refl _)
        have LA : Hid (Below Wr.heap.size Wr (Wr.alloc (.cells #[] 41))) := (Below.refl _ _).alloc (Nat.le_refl _) _
        go_wp2_with fail
        go_loopw [11, 12] (fun v i wr => ∃ (k m g c : Nat) (f : Nat → Nat), 1 ≤ k ∧ k ≤ ms.length ∧ i = .int .i64 k ∧ v = .slice (some ⟨g, 0, none⟩) m c ∧ m + 1 = k ∧ (∀ i, 1 ≤ i → i < k → f i < i) ∧ TRow Wr.heap.size wr g c (starL ms kd f m) ∧ Below Wr.heap.size Wr wr) (fun _ i _ => ms.length - (intOf i).toNat)
        case atStart => exact ⟨1, 0, Wr.heap.size, 0, fun _ => 0, Nat.le_refl _, by omega, rfl, rfl, rfl, fun i h1 h2 => by omega, R0.out, LA.out⟩
        case round =>
          obtain ⟨k, m, g, c, f, hk1, hk, rfl, rfl, hmk, hf, hrow, L⟩ := hrel
          clear R0 LA
          have HF := hidP hf
          have HROW := hidP hrow
          have HLL := hidP L
          have Pk := hidP (P.out.next L)
          have hgb := hrow.lt
          have hzk := L.size
          clear hf hrow L
          by_cases hkl : k < ms.length
          · have hw1 : IntKind.i64.wrap (40 * (rd : Int)) = 40 * (rd : Int) := IntWalk.i64_in _ ⟨by omega, by omega⟩
            have hw2 : IntKind.i64.wrap (40 * (rd : Int) + (k : Int)) = 40 * (rd : Int) + (k : Int) := IntWalk.i64_in _ ⟨by omega, by omega⟩
            have HPK := hidP (pickW ao0 len0 cap0 (40 * (rd : Int) + (k : Int)) k wr (HV0.out.below (Nat.le_refl _) Pk.out.low) hn (by omega) (by omega) (by omega) (by omega))
            go_wp2_with fail
            refine HPK.out.mono ?_
            rintro e w2 ⟨⟨x, x0, x1, rfl⟩, hw2'⟩
            subst w2
            obtain ⟨xn, rfl⟩ := Int.eq_ofNat_of_zero_le x0
            have hxk : xn < k := by omega
            obtain ⟨b, off, e, hb, hs⟩ := MSeg.seg Pk.out.list (by omega)
            injection e with e
            injection e with e1 e2 e3
            subst e1 e2
            obtain ⟨p0, ae, ce, p1, vae⟩ := hs.at (i := xn) (by omega)
            obtain ⟨q0, af, cf, q1, vaf⟩ := hs.at hkl
            rw [Nat.zero_add] at p0 p1 q0 q1
            have HBT : Hid (Calls Try.prog 22 #[.slice ae (mat ms xn).length ce, .slice af (mat ms k).length cf, .int .i64 kd] wr.drew fun e w' => e = .returned (.int .i64 (thOf ms kd (xn, k)).2.2) ∧ Below wr.drew.heap.size wr.drew w') :=
              iBet ae af ce cf (mat ms xn) (mat ms k) kd wr.drew vae.drew vaf.drew (hsm.2 _) (hsm.2 _)
            have e1 : (thOf ms kd (xn, k)).1 = mid ms xn := rfl
            have e2 : (thOf ms kd (xn, k)).2.1 = mid ms k := rfl
            rw [← e1] at p0
            rw [← e2] at q0
            have HSN : Hid (starL ms kd (fun i => if i = k then xn else f i) (m + 1) = starL ms kd f m ++ [thOf ms kd (xn, k)]) := by
              show _ = _
              rw [starL_succ, hmk, if_pos rfl]
              congr 1
              exact starL_congr ms kd (fun i hi => by rw [if_neg (by omega)])
            have HFN : Hid (∀ i, 1 ≤ i → i < k + 1 → (fun i => if i = k then xn else f i) i < i) := fun i h1 h2 => by
              show (if i = k then xn else f i) < i
              by_cases h : i = k
              · rw [if_pos h]; omega
              · rw [if_neg h]; exact HF.out i h1 (by omega)
            have HOW : Hid (wr.ownsRow Wr.heap.size 41 3 (.slice (some ⟨g, 0, none⟩) m c) m (tCells (starL ms kd f m))) := by
              have h := HROW.out
              unfold TRow at h
              rw [starL_len] at h
              exact h
            have hxn1 : (xn : Int) < (ms.length : Int) := by omega
            have hk0 : (0 : Int) ≤ (k : Int) := Int.natCast_nonneg _
            have hkl2 : (k : Int) < (ms.length : Int) := by omega
            clear e1 e2 hs vae vaf HPK hw1 hw2
            generalize thOf ms kd (xn, k) = d at *
            generalize mat ms xn = ma at *
            generalize mat ms k = mb at *
            generalize starL ms kd f m = st at *
            generalize (fun i => if i = k then xn else f i) = f2 at *
            go_wp2_with fail
            have hS0 := And.intro p0 (And.intro p1 (And.intro q0 q1))
            have HKA : Hid (∀ w', Below wr.heap.size wr w' → w'.cell? ⟨gl, xn * 2, none⟩ = some (.int .i64 d.1) ∧ w'.cell? ⟨gl, xn * 2 + 1, none⟩ = some (.slice ae ma.length ce) ∧ w'.cell? ⟨gl, k * 2, none⟩ = some (.int .i64 d.2.1) ∧ w'.cell? ⟨gl, k * 2 + 1, none⟩ = some (.slice af mb.length cf)) := fun w' L =>
              ⟨(L.cell (p := ⟨gl, xn * 2, none⟩) hb).trans hS0.1, (L.cell (p := ⟨gl, xn * 2 + 1, none⟩) hb).trans hS0.2.1, (L.cell (p := ⟨gl, k * 2, none⟩) hb).trans hS0.2.2.1, (L.cell (p := ⟨gl, k * 2 + 1, none⟩) hb).trans hS0.2.2.2⟩
            refine wp_region_calm (S := fun w' => w'.cell? ⟨gl, xn * 2, none⟩ = some (.int .i64 d.1) ∧ w'.cell? ⟨gl, xn * 2 + 1, none⟩ = some (.slice ae ma.length ce) ∧ w'.cell? ⟨gl, k * 2, none⟩ = some (.int .i64 d.2.1) ∧ w'.cell? ⟨gl, k * 2 + 1, none⟩ = some (.slice af mb.length cf)) (fuel := 4)
              [0, 1, 2, 3, 4, 5, 6, 7, 8, 9, 10, 11, 12, 13, 14, 15, 16, 17, 18, 19, 20, 21] _ rfl (by kernel_rfl) (by kernel_rfl) (by kernel_rfl) (by kernel_rfl) (by kernel_rfl) (by kernel_rfl) (by kernel_rfl) hS0 (fun hS => ?_)
            simp only [List.pop_toArray, List.dropLast]
            iterate 22
              refine ⟨_, rfl, ?_⟩
              apply Exists.intro
              refine ⟨Or.inl ⟨by rfl, fun w' hw' => ?_⟩, ?_⟩
              · first
                | (go_simp; done)
                | (go_simp; with_reducible rfl)
              simp only [Act.put, List.getElem_toArray, List.getElem_cons_succ, List.getElem_cons_zero, List.setIfInBounds_toArray, List.set_cons_zero, List.set_cons_succ]
            refine calm_one 22 (by kernel_rfl) rfl (fun K hK => ?_)
            go_simp
            refine HBT.out.mono ?_
            rintro e w3 ⟨rfl, M3⟩
            have L3 : Below wr.heap.size wr w3 := Below.trans (Below.refl wr.heap.size wr).drew M3
            have hS3 := HKA.out _ L3
            refine hK.out _ _ hS3 (fun _ => ?_)
            clear hK K M3
            refine calm_one 23 (by kernel_rfl) rfl (fun K hK => ?_)
            go_simp
            refine hK.out _ _ hS3 (fun _ => ?_)
            clear hK K
            refine calm_one 24 (by kernel_rfl) rfl (fun K hK => ?_)
            go_simp
            refine hK.out _ _ (HKA.out _ (L3.alloc L3.size _)) (fun _ => ?_)
            clear hK K
            have HOW3 : Hid (w3.ownsRow Wr.heap.size 41 3 (.slice (some ⟨g, 0, none⟩) m c) m (tCells st)) := World.ownsRow.kept HOW.out (row := none) ⟨L3.os, L3.tape, L3.output, L3.size, fun i hi _ => L3.block i hi⟩ (Or.inr (by simp [Value.ownBlock]))
            have hz3 := L3.size
            refine calm_one 25 (by kernel_rfl) rfl (fun K hK => ?_)
            refine step_append_at _ (by rfl) (.tmp 96) (.tmp 120) 27 (by rfl) Wr.heap.size 41 j0 _ 3 24 Try.underlying27 hj0 hy0 hy1 hy2 rfl (by omega) g m c (tCells st) (by rfl) (World.ownsRow.alloc HOW3.out _) (some ⟨w3.heap.size, 0, none⟩) 1 1 (tCells [d]) (by rfl) (one_srcT (heap_alloc_new w3 _)) (by unfold maxLen; omega) (by omega) (by simp; omega) (w3.heap.size + 1) (by simp) ?_
            intro gg cc w8 hown hgrow hat8 hlt8
            have hL8 : Below Wr.heap.size Wr w8 := ((HLL.out.trans (L3.mono hzk)).alloc (by omega) _).grown hgrow (by simp; omega) (by intro q hq; cases hq; exact hgb.1)
            have hL38 : Below Wr.heap.size w3 w8 := ((Below.refl _ _).alloc (by omega) _).grown hgrow (by simp; omega) (by intro q hq; cases hq; exact hgb.1)
            have hR8 : TRow Wr.heap.size w8 gg cc (starL ms kd f2 (m + 1)) := by
              rw [HSN.out]
              unfold TRow
              rw [List.length_append, List.length_singleton, tCells_append]
              have hl : st.length = m := by have := HROW.out; have h2 := congrArg List.length HSN.out; rw [starL_len, List.length_append, List.length_singleton] at h2; omega
              rw [hl]
              exact hown
            have I8 := hidP (And.intro hR8 hL8)
            have hglw : gl < Wr.heap.size := by
              obtain ⟨b, off, e, hb', -⟩ := MSeg.seg P.out.list (by omega)
              injection e with e
              injection e with e1 e2 e3
              omega
            refine hK.out _ _ ⟨(hL38.cell (p := ⟨gl, xn * 2, none⟩) hglw).trans hS3.1, (hL38.cell (p := ⟨gl, xn * 2 + 1, none⟩) hglw).trans hS3.2.1, (hL38.cell (p := ⟨gl, k * 2, none⟩) hglw).trans hS3.2.2.1, (hL38.cell (p := ⟨gl, k * 2 + 1, none⟩) hglw).trans hS3.2.2.2⟩ (fun _ => ?_)
            clear hK K hown hgrow hat8 hlt8 hL8 hL38 hR8 HKA hS3 hS0 hS HOW3 HOW p0 p1 q0 q1 HBT L3
            refine wpAnyH_done (by kernel_rfl) ?_ _
            simp only [Exit.then]
            go_wp2_with fail
            refine NoPanic.normal ?_
            go_wp2_with fail
            go_roundw
            case rel => exact ⟨k + 1, m + 1, gg, cc, f2, by omega, by omega, by go_num, by rw [hmk], by omega, HFN.out, I8.out⟩
            case measure => simp [intOf]; omega
          · obtain rfl : k = ms.length := by omega
            have hst := star_tied HTB.out (f := f) hmk HF.out
            have HKR := hidP (kruskal hst)
            have hml : m ≤ 7 := by omega
            have hsl : (starL ms kd f m).length = m := starL_len ms kd f m
            have HC := hidP (HD.out (some ⟨gl, 0, none⟩) (some ⟨g, 0, none⟩) cl c ms (starL ms kd f m) kd wr Pk.out.list HROW.out.view hsm (by omega) HCL.out)
            rw [hst, hsl] at HC
            rw [HR.out] at HKR
            clear hst
            go_wp2_with fail
            refine HC.out.mono ?_
            rintro e w2 ⟨rfl, M2⟩
            have P2 := hidP (Pk.out.next M2)
            have V2 := hidP (HROW.out.view.next M2)
            clear HC M2 Pk
            have HC := hidP (HO.out (some ⟨g, 0, none⟩) c (starL ms kd f m) w2 V2.out (by omega))
            rw [hsl] at HC
            go_wp2_with fail
            refine HC.out.mono ?_
            rintro e w3 ⟨rfl, M3⟩
            have P3 := hidP (P2.out.next M3)
            clear HC M3 P2 V2
            have HC := hidP (HO.out a5 c5 R w3 P3.out.thr (by omega))
            have hnl : decide (totV (starL ms kd f m) < totV R) = false := by have := HKR.out; simp; omega
            go_wp2_with fail
            refine HC.out.mono ?_
            rintro e w4 ⟨rfl, M4⟩
            have P4 := hidP (P3.out.next M4)
            clear HC M4 P3
            go_wp2_with fail
            go_roundw
            case rel => exact ⟨rd + 1, by omega, by go_num, P4.out⟩
            case measure => simp [intOf]; omega
      · obtain rfl : rd = 5 := by omega
        go_wp2_with fail
        go_loopw [14] (fun i wr => ∃ k : Nat, 1 ≤ k ∧ k ≤ R.length ∧ i = .int .i64 k ∧ KrP w gl ms a5 R wr) (fun i _ => R.length - (intOf i).toNat)
        case atStart => exact ⟨1, Nat.le_refl _, by omega, rfl, P.out⟩
        case round =>
          obtain ⟨k, hk1, hk, rfl, hp⟩ := hrel
          clear P
          have P := hidP hp
          by_cases hkl : k < R.length
          · obtain ⟨b, off, rfl, hb, hs⟩ := hp.thr.seg (by omega)
            have c1 := (hs k hkl).2.2
            have c2 := (hs (k - 1) (by omega)).2.2
            have hrise : (tnth R (k - 1)).2.2 ≤ (tnth R k).2.2 := by
              have h := thr_rise HTB.out (i := k - 1) (by rw [HR.out]; omega)
              rw [HR.out, show k - 1 + 1 = k by omega] at h
              exact h
            have hbl : decide ((tnth R k).2.2 < (tnth R (k - 1)).2.2) = false := by simp; omega
            have hkz : (0 : Int) ≤ (k : Int) := Int.natCast_nonneg _
            have hkl2 : (k : Int) < (R.length : Int) := by omega
            have hkw : IntKind.i64.wrap ((k : Int) - 1) = ((k - 1 : Nat) : Int) := by rw [IntWalk.i64_in _ ⟨by omega, by omega⟩]; omega
            have hk10 : (0 : Int) ≤ ((k - 1 : Nat) : Int) := by omega
            have hk11 : ((k - 1 : Nat) : Int) < (R.length : Int) := by omega
            clear hs hp hrise
            go_wp2_with fail
            go_quiet (fail)
            go_wp2_with fail
            go_roundw
            case rel => exact ⟨k + 1, by omega, by omega, by go_num, P.out.next (below_drewN (Below.refl _ _) _)⟩
            case measure => simp [intOf]; omega
          · obtain rfl : k = R.length := by omega
            have hlen := HLN.out
            have hmw : IntKind.i64.wrap ((ms.length : Int) - 1) = (R.length : Int) := by rw [IntWalk.i64_in _ ⟨by omega, by omega⟩]; omega
            have heq : ((R.length : Int) == (R.length : Int)) = true := by simp
            clear hlen hp
            go_wp2_with fail
            go_ret
            exact ⟨rfl, P.out.low⟩

end Go.Proofs.Ytfbindjacmaeoaa
