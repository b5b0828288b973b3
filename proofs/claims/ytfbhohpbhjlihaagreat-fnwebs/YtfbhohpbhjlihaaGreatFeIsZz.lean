/-
  The given Islands.
-/
import Derived.Test.YtfbhohpbhjlihaaGreatFeWalkZz
import Derived.Test.YtfbhohpbhjlihaaGreatMathZz
import Derived.Test.YtfbhohpbhjlihaaGreatAppendZz
import Derived.Deep.CutBlock
import Derived.Deep.DeepCutAuto
namespace Go.Proofs.YtfbhohpbhjlihaaGreat
open Go Go.RowKit

def slLen2 : Value → Nat
  | .slice _ n _ => n
  | _ => 0
/-- What falls with each turn. -/
def islM (n : Nat) (s t : Nat) : Nat := (n - s) * (n + 1) + t
theorem islM_skip (n s t : Nat) : islM n s t < islM n s (t + 1) := by unfold islM; omega
theorem islM_take {n s t l : Nat} (hs : s < n) (hl : l ≤ n) : islM n (s + 1) (t + l) < islM n s (t + 1) := by
  unfold islM
  have e : n - s = (n - (s + 1)) + 1 := by omega
  rw [e, Nat.add_mul]
  omega
/-- Both rows while an island is flooded. -/
structure FlIn (base : Nat) (w : World) (gs cs : Nat) (S : List Int) (gt ot ct : Nat) (T : List Int) : Prop where
  rs : Row base w gs cs S
  rt : CutRow base w gt ot ct T
  ne : gt ≠ gs

set_option maxRecDepth 100000 in
set_option maxHeartbeats 8000000 in
theorem sIslands (am al : Option Addr) (cm cl : Nat) (ms : List Mk) (ls : List (List Int)) (w : World) (hm : MView w am ms) (hl : CView w al ls) (hsm : MSmall ms) (hcs : CSmall ls) :
    Calls Tryz.prog 20 #[.agg #[.slice am ms.length cm, .slice al ls.length cl]] w fun e w' => e = .returned (.int .i64 (islV ms ls)) ∧ Below w.heap.size w w' := by
  obtain ⟨i0, hi0, hx0, hx1, hx2⟩ := info_parts Tryz.info2
  obtain ⟨W, hW⟩ : ∃ W, w.alloc (.cells #[.slice am ms.length cm, .slice al ls.length cl] 27) = W := ⟨_, rfl⟩
  have hB : Below w.heap.size w W := by rw [← hW]; exact (Below.refl _ _).alloc (Nat.le_refl _) _
  have hI : WebIn W w.heap.size am cm ms al cl ls := by rw [← hW]; exact WebIn.box hm hl
  have hWs : W.heap.size = w.heap.size + 1 := by rw [← hW]; simp
  have HB := hidP hB
  have HI := hidP hI
  have k0 := hI.c0
  have k1 := hI.c1
  have HWO := hidP (sWebOk am al cm cl ms ls W hI.mv hI.cv hsm hcs)
  have HWS := hidP hWs
  rcases hw : webB ms ls with _ | _
  · have HV : Hid (islV ms ls = -1) := by show _ = _; simp [islV, hw]
    rw [hw] at HWO
    rw [HV.out]
    clear hm hl hB hI hsm hcs hWs
    go_enter Tryz.func20, Tryz.ntmps20
    go_wp2_with fail
    refine HWO.out.mono ?_
    rintro e w1 ⟨rfl, L1⟩
    go_wp2_with fail
    go_ret
    exact ⟨rfl, chain HB.out L1⟩
  have HV : Hid (islV ms ls = (islN ms ls ms.length : Nat)) := by show _ = _; simp [islV, hw]
  rw [hw] at HWO
  rw [HV.out]
  have h60 := marksB_len (web_marks hw)
  have HW := hidP hw
  have HLL := hidP (web_len hw)
  have HCS := hidP hcs
  have hn := hsm.1
  have HN := hidP (islN_le ms ls)
  clear hm hl hB hI hsm hcs hw hWs
  go_enter Tryz.func20, Tryz.ntmps20
  go_wp2_with fail
  refine HWO.out.mono ?_
  rintro e w1 ⟨rfl, L1⟩
  have hI1 := HI.out.below L1
  have c0 := hI1.c0
  have HI1 := hidP hI1
  have HB1 := hidP (chain HB.out L1)
  have hz1 := L1.size
  have hws := HWS.out
  have R0 := hidP (Row.start w1 w1.heap.size (Nat.le_refl _))
  have LA := hidP ((Below.refl w1.heap.size w1).alloc (Nat.le_refl _) (.cells #[] 2))
  clear hI1 L1 HWO k0 k1 hW
  go_wp2_with fail
  go_loopw [3, 4, 5] (fun vs vn vi wr => ∃ (i gs cs : Nat) (S : List Int), i ≤ ms.length ∧ vi = .int .i64 i ∧ vn = .int .i64 (islN ms ls i : Nat) ∧ vs = .slice (some ⟨gs, 0, none⟩) S.length cs ∧ Seen ms ls i S ∧ Row w1.heap.size wr gs cs S ∧ Below w1.heap.size w1 wr) (fun _ _ vi _ => ms.length - (intOf vi).toNat)
  case atStart => exact ⟨0, _, 0, [], Nat.zero_le _, rfl, rfl, rfl, Seen.start, R0.out, LA.out⟩
  case round =>
    clear R0 LA
    obtain ⟨i, gs, cs, S, hi, rfl, rfl, rfl, hseen, hrow, L⟩ := hrel
    have hIw := HI1.out.below L
    have c0 := hIw.c0
    have hni := HN.out i
    have HNS : Hid (islN ms ls (i + 1) = islN ms ls i + if newB ms ls i = true then 1 else 0) := rfl
    obtain ⟨ni, hnie⟩ : ∃ ni, islN ms ls i = ni := ⟨_, rfl⟩
    rw [hnie] at hni HNS
    rw [hnie]
    have HNI := hidP hnie
    have hsl : S.length ≤ 60 := by have := hseen.ok.short; omega
    have HSE := hidP hseen
    have HR := hidP hrow
    have HL := hidP L
    have hgl := hrow.lt2
    have hz := L.size
    clear hnie
    by_cases hlt : i < ms.length
    · obtain ⟨bm, om, rfl, hbm, hmseg⟩ := mview_seg hIw.mv (by omega)
      have hmid := (hmseg i hlt).1
      rw [mnth_1] at hmid
      have HH := hidP (sHas (some ⟨gs, 0, none⟩) cs S (mid ms i) wr hrow.view (by omega))
      have hold := hseen.old HW.out hlt
      have hi0' : (0 : Int) ≤ (i : Int) := Int.natCast_nonneg _
      have hi1' : (i : Int) < (ms.length : Int) := by omega
      have HIW := hidP hIw
      clear hseen hrow L hmseg hIw
      rcases hb : hasB S (mid ms i) with _ | _
      · have hnb : newB ms ls i = true := by
          rcases e : newB ms ls i with _ | _
          · have := hold.2 e; rw [← hasB_iff, hb] at this; cases this
          · rfl
        have HN1 : Hid (islN ms ls (i + 1) = ni + 1) := by show _ = _; rw [HNS.out, hnb]; rfl
        have HFS := hidP (Flood.start HW.out HSE.out.ok HSE.out.cl hlt)
        have GA := World.grownBy_alloc wr (.cells #[.int .i64 (mid ms i)] 2) none
        have HFI : Hid (FlIn w1.heap.size (wr.alloc (.cells #[.int .i64 (mid ms i)] 2)) gs cs S wr.heap.size 0 1 [mid ms i]) := ⟨HR.out.keptBy GA (by simp), CutRow.one wr _ _ hz, by omega⟩
        have HLA := hidP (HL.out.alloc hz (.cells #[.int .i64 (mid ms i)] 2))
        rw [hb] at HH
        clear hold GA hnb hb
        go_wp2_with fail
        refine HH.out.mono ?_
        rintro e w2 ⟨rfl, hw2⟩
        subst hw2
        go_wp2_with fail
        have hM0 : islM ms.length S.length 1 ≤ 3661 := by
          unfold islM
          have h1 : (ms.length - S.length) * (ms.length + 1) ≤ 60 * 61 := Nat.mul_le_mul (by omega) (by omega)
          omega
        go_loopw [3, 6] (fun vs vt wr => ∃ (S' T' : List Int) (gs' cs' gt ot ct : Nat), vs = .slice (some ⟨gs', 0, none⟩) S'.length cs' ∧ vt = .slice (some ⟨gt, ot, none⟩) T'.length ct ∧ Flood ms ls S i S' T' ∧ FlIn w1.heap.size wr gs' cs' S' gt ot ct T' ∧ Below w1.heap.size w1 wr ∧ islM ms.length S'.length T'.length ≤ 3661) (fun vs vt _ => islM ms.length (slLen2 vs) (slLen2 vt))
        case atStart => exact ⟨S, [mid ms i], gs, cs, _, 0, 1, rfl, rfl, HFS.out, HFI.out, HLA.out, hM0⟩
        case round =>
          clear HFS HFI HLA hM0
          obtain ⟨S', T', gs', cs', gt, ot, ct, rfl, rfl, hfl, hin, L, hM⟩ := hrel
          have hsl' : S'.length ≤ 60 := by have := hfl.ok.short; omega
          have HFL := hidP hfl
          have HIN := hidP hin
          have HL' := hidP L
          have hz' := L.size
          cases T' with
          | nil =>
            have HSN := hidP (HSE.out.flooded hfl)
            have HRS := hidP hin.rs
            clear hfl hin L
            go_wp2_with fail
            go_roundw
            case rel => exact ⟨i + 1, gs', cs', S', by omega, by go_num, by rw [HN1.out]; simp, rfl, HSN.out, HRS.out, HL'.out⟩
            case measure => simp [intOf]; omega
          | cons x T2 =>
            have hTl : T2.length + 1 ≤ 3661 := by have h := hM; unfold islM at h; simp at h; omega
            have hc0 := hin.rt.head
            have hct := hin.rt.2.2.1
            simp only [List.length_cons] at hct
            have hRT := hin.rt.tail
            have hgt := hin.rt.2.1
            have hgs := hin.rs.lt2
            have hne := hin.ne
            have hxf := hfl.tf x (by simp)
            have HH := hidP (sHas (some ⟨gs', 0, none⟩) cs' S' x wr hin.rs.view (by omega))
            have HRT := hidP hRT
            have HMS := hidP hM
            simp only [List.length_cons] at HMS ⊢
            clear hfl hin L hRT hM
            by_cases hc1 : ct = 1
            · subst hc1
              obtain rfl : T2 = [] := List.eq_nil_of_length_eq_zero (by omega)
              have HRT : Hid (CutRow w1.heap.size wr gt ot 0 []) := ⟨HRT.out.1, HRT.out.2.1, Nat.le_refl _, fun j hj => by omega, fun j hj => by simp at hj⟩
              simp only [List.length_nil, Nat.zero_add] at HMS ⊢
              rcases hb : hasB S' x with _ | _
              · have hno := (hasB_no _ _).1 hb
                have HTK := hidP (HFL.out.take HW.out hno)
                obtain ⟨hx1', hx2', hx3'⟩ := zIdx_lt hxf
                have hshort := links_short HW.out hx1'
                have hSlt : S'.length < ms.length := by
                  have := (HFL.out.ok.more hxf hno).short
                  simp at this
                  omega
                have HMK := hidP (islM_take (n := ms.length) (s := S'.length) (t := 0) hSlt hshort)
                have HXS := hidP (HCS.out.2 (zIdx ms x))
                obtain ⟨jx, hjx⟩ : ∃ j, zIdx ms x = j := ⟨_, rfl⟩
                rw [hjx] at hx1' hx2' hshort HMK HTK HXS
                have GA := World.grownBy_alloc wr (.cells #[.int .i64 x] 2) none
                have HRA := hidP (HIN.out.rs.keptBy GA (by simp))
                have HTA := hidP (HRT.out.same GA.size (GA.block _ hgt (by simp)))
                have HLA := hidP (HL'.out.alloc hz' (.cells #[.int .i64 x] 2))
                rw [hb] at HH
                clear hb hno hjx GA
                go_wp2_with fail
                refine HH.out.mono ?_
                rintro e w3 ⟨rfl, hw3⟩
                subst hw3
                go_wp2_with (at_builtin; refine wpList_append_at _ rfl (.tmp 47) (.tmp 49) 28 rfl w1.heap.size 2 i0 _ 1 8 Tryz.underlying28 hi0 hx0 hx1 hx2 rfl (by omega) gs' S'.length cs' (S'.map (Value.int .i64)) rfl HRA.out (some ⟨w3.heap.size, 0, none⟩) 1 1 [.int .i64 x] rfl (one_int (heap_alloc_new w3 _)) (by unfold maxLen; omega) (by omega) (by simp; omega) (w3.heap.size + 1) (by simp) ?_; intro g5 c5 w5 hown5 hgrow5 hat5 hlt5)
                have hs5 := hgrow5.size
                have hs5b : w3.heap.size + 1 ≤ w5.heap.size := by simpa using hs5
                have HR5 := hidP (Row.snoc hown5)
                have HT5 := hidP (HTA.out.same hs5 (hgrow5.block _ (by simp; omega) (by simp; omega)))
                have HL5 := hidP (HLA.out.grown hgrow5 (by simp; omega) (by intro q hq; cases hq; omega))
                have hI5 := HI1.out.below HL5.out
                obtain ⟨bl, ol, rfl, hbl, hlseg⟩ := HI1.out.cv.seg (by have := HLL.out; omega)
                obtain ⟨aj, cj, hcj0, hvj0⟩ := hlseg jx (by have := HLL.out; omega)
                have hcj := (HL5.out.cell (p := ⟨bl, ol + jx, none⟩) hbl).trans hcj0
                have hvj := View.next hvj0 HL5.out
                have HFI2 := hidP (fun W' (L' : Below w5.heap.size w5 W') => sFind (some ⟨bm, om, none⟩) cm ms x W' (hI5.below L').mv (by omega))
                rw [← hx2'] at HFI2
                have HSX : Hid (∀ W', Below w5.heap.size w5 W' → W'.cell? ⟨w.heap.size, 0, none⟩ = some (.slice (some ⟨bm, om, none⟩) ms.length cm) ∧ W'.cell? ⟨w.heap.size, 1, none⟩ = some (.slice (some ⟨bl, ol, none⟩) ls.length cl) ∧ W'.cell? ⟨bl, ol + jx, none⟩ = some (.slice aj (cn ls jx).length cj)) := fun W' L' => ⟨(hI5.below L').c0, (hI5.below L').c1, (L'.cell (p := ⟨bl, ol + jx, none⟩) (by show bl < _; omega)).trans hcj⟩
                have HVJ := hidP hvj
                have BL1 := hidP ((Below.refl w5.heap.size w5).drew)
                have hj2 : (0 : Int) ≤ (jx : Int) := Int.natCast_nonneg _
                have hj3 : (jx : Int) < (ls.length : Int) := by have := HLL.out; omega
                have hgr5 := HR5.out.lt2
                have hne5 : gt ≠ g5 := by
                  rcases hat5 with e | e
                  · omega
                  · omega
                have hgt5 := HT5.out.1
                clear HRA HTA HLA hown5 hgrow5 hI5 hs5 hlseg hcj hvj hcj0 hvj0 hx2' hx3'
                go_wp2_with fail
                have HS0 := hidP (HSX.out _ BL1.out)
                refine wp_region_takes (S := fun W' => W'.cell? ⟨w.heap.size, 0, none⟩ = some (.slice (some ⟨bm, om, none⟩) ms.length cm) ∧ W'.cell? ⟨w.heap.size, 1, none⟩ = some (.slice (some ⟨bl, ol, none⟩) ls.length cl) ∧ W'.cell? ⟨bl, ol + jx, none⟩ = some (.slice aj (cn ls jx).length cj)) (fuel := 5) [0, 1, 2, 3, 4, 5] (by kernel_rfl) (by kernel_rfl) (by kernel_rfl) (by kernel_rfl) HS0.out (fun _ => ?_)
                iterate 6
                  refine ⟨_, rfl, ?_⟩
                  apply Exists.intro
                  refine ⟨Or.inl ⟨by rfl, fun w' hw' => ?_⟩, ?_⟩
                  · obtain ⟨e1, e2, e3⟩ := hw'
                    first
                    | (go_simp; done)
                    | (go_simp; with_reducible rfl)
                  simp only [Act.put, List.getElem_toArray, List.getElem_cons_succ, List.getElem_cons_zero, List.setIfInBounds_toArray, List.set_cons_zero, List.set_cons_succ]
                refine calm_one 6 (by kernel_rfl) rfl (fun K hK => ?_)
                go_simp
                refine (HFI2.out _ BL1.out).mono ?_
                rintro e w6 ⟨rfl, hw6⟩
                have HL6 : Hid (Below w5.heap.size w5 w6) := by show Below _ _ _; rw [hw6]; exact BL1.out
                have hs6 : w6.heap.size = w5.heap.size := by rw [hw6]; rfl
                have HS6 := hidP (HSX.out _ HL6.out)
                clear hw6
                refine hK.out _ _ HS6.out (fun _ => ?_)
                clear hK K
                refine calm_more14 2 [7, 8] (by kernel_rfl) (by kernel_rfl) (by kernel_rfl) HS6.out ?_
                iterate 2
                  refine ⟨_, rfl, ?_⟩
                  apply Exists.intro
                  refine ⟨Or.inl ⟨by rfl, fun w' hw' => ?_⟩, ?_⟩
                  · obtain ⟨e1, e2, e3⟩ := hw'
                    first
                    | (go_simp; done)
                    | (go_simp; with_reducible rfl)
                  simp only [Act.put, List.getElem_toArray, List.getElem_cons_succ, List.getElem_cons_zero, List.setIfInBounds_toArray, List.set_cons_zero, List.set_cons_succ]
                refine calm_one 9 (by kernel_rfl) rfl (fun K hK => ?_)
                refine step_append_cut w6 rfl (.tmp 51) (.tmp 59) 28 rfl w1.heap.size i0 Tryz.underlying28 hi0 hx0 hx1 hx2 gt ot 0 [] (cn ls jx) rfl (HT5.out.next HL6.out (by omega)) aj cj rfl (View.src14 (View.next HVJ.out HL6.out)) (by (try simp only [List.length_nil]); omega) (by omega) ?_
                intro g7 o7 c7 w7 hcut7 hgrow7 hat7
                have hz7 := hgrow7.size
                have HG7 := hidP hgrow7
                have HC7 := hidP hcut7
                have HS7 : Hid (w7.cell? ⟨w.heap.size, 0, none⟩ = some (.slice (some ⟨bm, om, none⟩) ms.length cm) ∧ w7.cell? ⟨w.heap.size, 1, none⟩ = some (.slice (some ⟨bl, ol, none⟩) ls.length cl) ∧ w7.cell? ⟨bl, ol + jx, none⟩ = some (.slice aj (cn ls jx).length cj)) := by
                  have hb0 := hgrow7.block w.heap.size (by omega) (by simp; omega)
                  have hb1 := hgrow7.block bl (by omega) (by simp; omega)
                  exact ⟨(World.cell?_of_block hb0).trans HS6.out.1, (World.cell?_of_block hb0).trans HS6.out.2.1, (World.cell?_of_block hb1).trans HS6.out.2.2⟩
                clear hcut7 hgrow7
                refine hK.out _ _ HS7.out (fun _ => ?_)
                clear hK K
                refine calm_rest [10] rfl (by kernel_rfl) (by kernel_rfl) (by kernel_rfl) HS7.out ?_
                iterate 1
                  refine ⟨_, rfl, ?_⟩
                  apply Exists.intro
                  refine ⟨Or.inl ⟨by rfl, fun w' hw' => ?_⟩, ?_⟩
                  · skip
                    first
                    | (go_simp; done)
                    | (go_simp; with_reducible rfl)
                  simp only [Act.put, List.getElem_toArray, List.getElem_cons_succ, List.getElem_cons_zero, List.setIfInBounds_toArray, List.set_cons_zero, List.set_cons_succ]
                refine NoPanic.normal (NoPanic.normal ?_)
                have HFN : Hid (FlIn w1.heap.size w7 g5 c5 (S' ++ [x]) g7 o7 c7 ([] ++ cn ls jx)) := ⟨(HR5.out.next HL6.out hgr5.2).keptBy HG7.out (by simp; omega), HC7.out, by rcases hat7 with e | e <;> omega⟩
                have HLF : Hid (Below w1.heap.size w1 w7) := (chain HL5.out HL6.out).grown HG7.out (by omega) (by intro q hq; cases hq; have := HT5.out.1; omega)
                clear HSX HFI2 BL1 HS0 HS6 HS7 HG7 HC7
                go_wp2_with fail
                go_roundw
                case rel => exact ⟨S' ++ [x], [] ++ cn ls jx, g5, c5, g7, o7, c7, by simp, by simp, HTK.out, HFN.out, HLF.out, by have h1 := HMK.out; have h2 := HMS.out; (try simp only [Nat.zero_add] at h1 h2); simp only [List.length_append, List.length_cons, List.length_nil, Nat.zero_add]; omega⟩
                case measure => simp [slLen2]; simpa using HMK.out
              · rw [hb] at HH
                have HSK := hidP (HFL.out.skip ((hasB_iff _ _).1 hb))
                have HMK := hidP (islM_skip ms.length S'.length 0)
                clear hb
                go_wp2_with fail
                refine HH.out.mono ?_
                rintro e w3 ⟨rfl, hw3⟩
                subst hw3
                go_wp2_with fail
                go_roundw
                case rel => exact ⟨S', [], gs', cs', gt, ot, 0, rfl, by simp, HSK.out, ⟨HIN.out.rs, HRT.out, hne⟩, HL'.out, by have h1 := HMK.out; have h2 := HMS.out; (try simp only [Nat.zero_add] at h1 h2); (try simp only [List.length_nil]); omega⟩
                case measure => simp [slLen2]; exact HMK.out
            · skip
              rcases hb : hasB S' x with _ | _
              · have hno := (hasB_no _ _).1 hb
                have HTK := hidP (HFL.out.take HW.out hno)
                obtain ⟨hx1', hx2', hx3'⟩ := zIdx_lt hxf
                have hshort := links_short HW.out hx1'
                have hSlt : S'.length < ms.length := by
                  have := (HFL.out.ok.more hxf hno).short
                  simp at this
                  omega
                have HMK := hidP (islM_take (n := ms.length) (s := S'.length) (t := T2.length) hSlt hshort)
                have HXS := hidP (HCS.out.2 (zIdx ms x))
                obtain ⟨jx, hjx⟩ : ∃ j, zIdx ms x = j := ⟨_, rfl⟩
                rw [hjx] at hx1' hx2' hshort HMK HTK HXS
                have GA := World.grownBy_alloc wr (.cells #[.int .i64 x] 2) none
                have HRA := hidP (HIN.out.rs.keptBy GA (by simp))
                have HTA := hidP (HRT.out.same GA.size (GA.block _ hgt (by simp)))
                have HLA := hidP (HL'.out.alloc hz' (.cells #[.int .i64 x] 2))
                rw [hb] at HH
                clear hb hno hjx GA
                go_wp2_with fail
                refine HH.out.mono ?_
                rintro e w3 ⟨rfl, hw3⟩
                subst hw3
                go_wp2_with (at_builtin; refine wpList_append_at _ rfl (.tmp 47) (.tmp 49) 28 rfl w1.heap.size 2 i0 _ 1 8 Tryz.underlying28 hi0 hx0 hx1 hx2 rfl (by omega) gs' S'.length cs' (S'.map (Value.int .i64)) rfl HRA.out (some ⟨w3.heap.size, 0, none⟩) 1 1 [.int .i64 x] rfl (one_int (heap_alloc_new w3 _)) (by unfold maxLen; omega) (by omega) (by simp; omega) (w3.heap.size + 1) (by simp) ?_; intro g5 c5 w5 hown5 hgrow5 hat5 hlt5)
                have hs5 := hgrow5.size
                have hs5b : w3.heap.size + 1 ≤ w5.heap.size := by simpa using hs5
                have HR5 := hidP (Row.snoc hown5)
                have HT5 := hidP (HTA.out.same hs5 (hgrow5.block _ (by simp; omega) (by simp; omega)))
                have HL5 := hidP (HLA.out.grown hgrow5 (by simp; omega) (by intro q hq; cases hq; omega))
                have hI5 := HI1.out.below HL5.out
                obtain ⟨bl, ol, rfl, hbl, hlseg⟩ := HI1.out.cv.seg (by have := HLL.out; omega)
                obtain ⟨aj, cj, hcj0, hvj0⟩ := hlseg jx (by have := HLL.out; omega)
                have hcj := (HL5.out.cell (p := ⟨bl, ol + jx, none⟩) hbl).trans hcj0
                have hvj := View.next hvj0 HL5.out
                have HFI2 := hidP (fun W' (L' : Below w5.heap.size w5 W') => sFind (some ⟨bm, om, none⟩) cm ms x W' (hI5.below L').mv (by omega))
                rw [← hx2'] at HFI2
                have HSX : Hid (∀ W', Below w5.heap.size w5 W' → W'.cell? ⟨w.heap.size, 0, none⟩ = some (.slice (some ⟨bm, om, none⟩) ms.length cm) ∧ W'.cell? ⟨w.heap.size, 1, none⟩ = some (.slice (some ⟨bl, ol, none⟩) ls.length cl) ∧ W'.cell? ⟨bl, ol + jx, none⟩ = some (.slice aj (cn ls jx).length cj)) := fun W' L' => ⟨(hI5.below L').c0, (hI5.below L').c1, (L'.cell (p := ⟨bl, ol + jx, none⟩) (by show bl < _; omega)).trans hcj⟩
                have HVJ := hidP hvj
                have BL1 := hidP ((Below.refl w5.heap.size w5).drew)
                have hj2 : (0 : Int) ≤ (jx : Int) := Int.natCast_nonneg _
                have hj3 : (jx : Int) < (ls.length : Int) := by have := HLL.out; omega
                have hgr5 := HR5.out.lt2
                have hne5 : gt ≠ g5 := by
                  rcases hat5 with e | e
                  · omega
                  · omega
                have hgt5 := HT5.out.1
                clear HRA HTA HLA hown5 hgrow5 hI5 hs5 hlseg hcj hvj hcj0 hvj0 hx2' hx3'
                go_wp2_with fail
                have HS0 := hidP (HSX.out _ BL1.out)
                refine wp_region_takes (S := fun W' => W'.cell? ⟨w.heap.size, 0, none⟩ = some (.slice (some ⟨bm, om, none⟩) ms.length cm) ∧ W'.cell? ⟨w.heap.size, 1, none⟩ = some (.slice (some ⟨bl, ol, none⟩) ls.length cl) ∧ W'.cell? ⟨bl, ol + jx, none⟩ = some (.slice aj (cn ls jx).length cj)) (fuel := 5) [0, 1, 2, 3, 4, 5] (by kernel_rfl) (by kernel_rfl) (by kernel_rfl) (by kernel_rfl) HS0.out (fun _ => ?_)
                iterate 6
                  refine ⟨_, rfl, ?_⟩
                  apply Exists.intro
                  refine ⟨Or.inl ⟨by rfl, fun w' hw' => ?_⟩, ?_⟩
                  · obtain ⟨e1, e2, e3⟩ := hw'
                    first
                    | (go_simp; done)
                    | (go_simp; with_reducible rfl)
                  simp only [Act.put, List.getElem_toArray, List.getElem_cons_succ, List.getElem_cons_zero, List.setIfInBounds_toArray, List.set_cons_zero, List.set_cons_succ]
                refine calm_one 6 (by kernel_rfl) rfl (fun K hK => ?_)
                go_simp
                refine (HFI2.out _ BL1.out).mono ?_
                rintro e w6 ⟨rfl, hw6⟩
                have HL6 : Hid (Below w5.heap.size w5 w6) := by show Below _ _ _; rw [hw6]; exact BL1.out
                have hs6 : w6.heap.size = w5.heap.size := by rw [hw6]; rfl
                have HS6 := hidP (HSX.out _ HL6.out)
                clear hw6
                refine hK.out _ _ HS6.out (fun _ => ?_)
                clear hK K
                refine calm_more14 2 [7, 8] (by kernel_rfl) (by kernel_rfl) (by kernel_rfl) HS6.out ?_
                iterate 2
                  refine ⟨_, rfl, ?_⟩
                  apply Exists.intro
                  refine ⟨Or.inl ⟨by rfl, fun w' hw' => ?_⟩, ?_⟩
                  · obtain ⟨e1, e2, e3⟩ := hw'
                    first
                    | (go_simp; done)
                    | (go_simp; with_reducible rfl)
                  simp only [Act.put, List.getElem_toArray, List.getElem_cons_succ, List.getElem_cons_zero, List.setIfInBounds_toArray, List.set_cons_zero, List.set_cons_succ]
                refine calm_one 9 (by kernel_rfl) rfl (fun K hK => ?_)
                refine step_append_cut w6 rfl (.tmp 51) (.tmp 59) 28 rfl w1.heap.size i0 Tryz.underlying28 hi0 hx0 hx1 hx2 gt (ot + 1) (ct - 1) T2 (cn ls jx) rfl (HT5.out.next HL6.out (by omega)) aj cj rfl (View.src14 (View.next HVJ.out HL6.out)) (by (try simp only [List.length_nil]); omega) (by omega) ?_
                intro g7 o7 c7 w7 hcut7 hgrow7 hat7
                have hz7 := hgrow7.size
                have HG7 := hidP hgrow7
                have HC7 := hidP hcut7
                have HS7 : Hid (w7.cell? ⟨w.heap.size, 0, none⟩ = some (.slice (some ⟨bm, om, none⟩) ms.length cm) ∧ w7.cell? ⟨w.heap.size, 1, none⟩ = some (.slice (some ⟨bl, ol, none⟩) ls.length cl) ∧ w7.cell? ⟨bl, ol + jx, none⟩ = some (.slice aj (cn ls jx).length cj)) := by
                  have hb0 := hgrow7.block w.heap.size (by omega) (by simp; omega)
                  have hb1 := hgrow7.block bl (by omega) (by simp; omega)
                  exact ⟨(World.cell?_of_block hb0).trans HS6.out.1, (World.cell?_of_block hb0).trans HS6.out.2.1, (World.cell?_of_block hb1).trans HS6.out.2.2⟩
                clear hcut7 hgrow7
                refine hK.out _ _ HS7.out (fun _ => ?_)
                clear hK K
                refine calm_rest [10] rfl (by kernel_rfl) (by kernel_rfl) (by kernel_rfl) HS7.out ?_
                iterate 1
                  refine ⟨_, rfl, ?_⟩
                  apply Exists.intro
                  refine ⟨Or.inl ⟨by rfl, fun w' hw' => ?_⟩, ?_⟩
                  · skip
                    first
                    | (go_simp; done)
                    | (go_simp; with_reducible rfl)
                  simp only [Act.put, List.getElem_toArray, List.getElem_cons_succ, List.getElem_cons_zero, List.setIfInBounds_toArray, List.set_cons_zero, List.set_cons_succ]
                refine NoPanic.normal (NoPanic.normal ?_)
                have HFN : Hid (FlIn w1.heap.size w7 g5 c5 (S' ++ [x]) g7 o7 c7 (T2 ++ cn ls jx)) := ⟨(HR5.out.next HL6.out hgr5.2).keptBy HG7.out (by simp; omega), HC7.out, by rcases hat7 with e | e <;> omega⟩
                have HLF : Hid (Below w1.heap.size w1 w7) := (chain HL5.out HL6.out).grown HG7.out (by omega) (by intro q hq; cases hq; have := HT5.out.1; omega)
                clear HSX HFI2 BL1 HS0 HS6 HS7 HG7 HC7
                go_wp2_with fail
                go_roundw
                case rel => exact ⟨S' ++ [x], T2 ++ cn ls jx, g5, c5, g7, o7, c7, by simp, by simp, HTK.out, HFN.out, HLF.out, by have h1 := HMK.out; have h2 := HMS.out; (try simp only [Nat.zero_add] at h1 h2); simp only [List.length_append, List.length_cons, List.length_nil, Nat.zero_add]; omega⟩
                case measure => simp [slLen2]; simpa using HMK.out
              · rw [hb] at HH
                have HSK := hidP (HFL.out.skip ((hasB_iff _ _).1 hb))
                have HMK := hidP (islM_skip ms.length S'.length T2.length)
                clear hb
                go_wp2_with fail
                refine HH.out.mono ?_
                rintro e w3 ⟨rfl, hw3⟩
                subst hw3
                go_wp2_with fail
                go_roundw
                case rel => exact ⟨S', T2, gs', cs', gt, (ot + 1), (ct - 1), rfl, by simp, HSK.out, ⟨HIN.out.rs, HRT.out, hne⟩, HL'.out, by have h1 := HMK.out; have h2 := HMS.out; (try simp only [Nat.zero_add] at h1 h2); (try simp only [List.length_nil]); omega⟩
                case measure => simp [slLen2]; exact HMK.out
      · have hnb : newB ms ls i = false := hold.1 ((hasB_iff _ _).1 hb)
        have HN1 : Hid (islN ms ls (i + 1) = ni) := by show _ = _; rw [HNS.out, hnb]; rfl
        have HP := hidP (HSE.out.pass ((hasB_iff _ _).1 hb))
        rw [hb] at HH
        clear hold hnb hb
        go_wp2_with fail
        refine HH.out.mono ?_
        rintro e w2 ⟨rfl, hw2⟩
        subst hw2
        go_wp2_with fail
        go_roundw
        case rel => exact ⟨i + 1, gs, cs, S, by omega, by go_num, by rw [HN1.out], rfl, HP.out, HR.out, HL.out⟩
        case measure => simp [intOf]; omega
    · obtain rfl : i = ms.length := by omega
      have HBF := hidP (chain HB1.out L)
      clear hseen hrow L hIw
      go_wp2_with fail
      go_ret
      exact ⟨ret_int (by rw [HNI.out]), HBF.out⟩

end Go.Proofs.YtfbhohpbhjlihaaGreat
