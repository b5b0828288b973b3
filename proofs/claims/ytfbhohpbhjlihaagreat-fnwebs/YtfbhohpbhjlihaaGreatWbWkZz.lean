/-
  FnWebs over the program's Linked, WebOk, Islands.
-/
import Derived.Test.YtfbhohpbhjlihaaGreatFeDrZz
import Derived.Test.YtfbhohpbhjlihaaGreatLkMainZz
import Derived.Test.YtfbhohpbhjlihaaGreatFeHelpZz
import Derived.Test.YtfbhohpbhjlihaaGreatFgRowZz
import Derived.Test.YtfbhohpbhjlihaaGreatFg0Zz
import Derived.Test.YtfbhohpbhjlihaaGreatFeLkZz
import Derived.Deep.CutBlock
import Derived.Deep.DeepCutAuto
namespace Go.Proofs.YtfbhohpbhjlihaaGreat
open Go Go.RowKit

/-- What stands in memory behind the law's calls. -/
structure WbS (w0 : World) (Bw Bm Bx Bi By : Nat) (am al aq a1 a2 ai ali a3 a4 : Option Addr) (cm cl cq c1 c2 ci cli c3 c4 : Nat) (ms M mi : List Mk) (ls Lk li : List (List Int)) (id : Int) (q : List Int) (w : World) : Prop where
  low : Below w0.heap.size w0 w
  wi : WebIn w Bw am cm ms al cl ls
  ml : Bm < w.heap.size
  m0 : w.cell? ⟨Bm, 0, none⟩ = some (.int .i64 id)
  m1 : w.cell? ⟨Bm, 1, none⟩ = some (.slice aq q.length cq)
  qv : View w aq q
  xi : WebIn w Bx a1 c1 M a2 c2 Lk
  ii : WebIn w Bi ai ci mi ali cli li
  yi : WebIn w By a3 c3 M a4 c4 Lk
theorem WbS.next {w0 w w' : World} {Bw Bm Bx Bi By : Nat} {am al aq a1 a2 ai ali a3 a4 : Option Addr} {cm cl cq c1 c2 ci cli c3 c4 : Nat} {ms M mi : List Mk} {ls Lk li : List (List Int)} {id : Int} {q : List Int} (h : WbS w0 Bw Bm Bx Bi By am al aq a1 a2 ai ali a3 a4 cm cl cq c1 c2 ci cli c3 c4 ms M mi ls Lk li id q w) (L : Below w.heap.size w w') : WbS w0 Bw Bm Bx Bi By am al aq a1 a2 ai ali a3 a4 cm cl cq c1 c2 ci cli c3 c4 ms M mi ls Lk li id q w' :=
  ⟨chain h.low L, h.wi.below L, Nat.lt_of_lt_of_le h.ml L.size, (L.cell (p := ⟨Bm, 0, none⟩) h.ml).trans h.m0, (L.cell (p := ⟨Bm, 1, none⟩) h.ml).trans h.m1, View.next h.qv L, h.xi.below L, h.ii.below L, h.yi.below L⟩
theorem LkdOut.caps {base : Nat} {w : World} {v : Value} {ms : List Mk} {ls : List (List Int)} {m : Mk} {most : Int} (h : LkdOut base w v ms ls m most) :
    ∃ a1 c1 a2 c2, v = .agg #[.slice a1 (linkedMs ms ls m most).length c1, .slice a2 (linkedLs ms ls m most).length c2] ∧ MView w a1 (linkedMs ms ls m most) ∧ CView w a2 (linkedLs ms ls m most) ∧ (linkedMs ms ls m most).length ≤ c1 ∧ (linkedLs ms ls m most).length ≤ c2 := by
  obtain ⟨a1, c1, a2, c2, e, hm, hc⟩ := h.upto.views
  refine ⟨a1, c1, a2, c2, e, hm, hc, ?_⟩
  rcases h with ⟨hb, rfl⟩ | ⟨hb, g, gl, rfl, _⟩
  · obtain ⟨h1, h2⟩ := linked_no hb
    rw [h1, h2]; simp
  · obtain ⟨h1, h2⟩ := linked_yes hb
    injection e with e
    injection e with e
    injection e with e1 e
    injection e with e2 e
    injection e1 with _ n1 k1
    injection e2 with _ n2 k2
    omega

set_option maxRecDepth 100000 in
set_option maxHeartbeats 8000000 in
theorem walkWebs (ao0 : Option Addr) (len0 cap0 : Nat) (w : World) (hv0 : CodeV w ao0 len0) :
    Calls Tryz.prog 3 #[.slice ao0 len0 cap0] w fun e w' => e = .returned (.bool true) ∧ Below w.heap.size w w' := by
  by_cases hbig : 4096 < len0
  · have hbb : decide (4096 < (len0 : Int)) = true := by simp; omega
    go_enter Tryz.func3, Tryz.ntmps3
    go_wp2_with fail
    refine (bigC ao0 len0 cap0 _).mono ?_
    rintro e w1 ⟨rfl, hw1⟩
    subst hw1
    go_wp2_with fail
    go_ret
    exact ⟨rfl, Below.refl _ _⟩
  have hbb : decide (4096 < (len0 : Int)) = false := by simp; omega
  have hn : len0 ≤ 4096 := by omega
  have HV0 := hidP hv0
  clear hbig hv0
  go_enter Tryz.func3, Tryz.ntmps3
  go_wp2_with fail
  refine (bigC ao0 len0 cap0 _).mono ?_
  rintro e w0 ⟨rfl, hw0⟩
  subst hw0
  rw [hbb]
  clear hbb
  go_wp2_with fail
  refine (cDrawLinked ao0 len0 cap0 _ HV0.out hn).mono ?_
  rintro e w1 ⟨am, cm, al, cl, ms, ls, id, aq, cq, q, mo, rfl, hd, L1⟩
  obtain ⟨W2, hW2⟩ : ∃ W, w1.alloc (.cells #[.slice am ms.length cm, .slice al ls.length cl] 27) = W := ⟨_, rfl⟩
  obtain ⟨W3, hW3⟩ : ∃ W, W2.alloc (.cells #[.int .i64 id, .slice aq q.length cq] 30) = W := ⟨_, rfl⟩
  obtain ⟨Bw, hBw⟩ : ∃ B, w1.heap.size = B := ⟨_, rfl⟩
  have hs2 : W2.heap.size = Bw + 1 := by rw [← hW2, ← hBw]; simp
  have hs3 : W3.heap.size = Bw + 1 + 1 := by rw [← hW3]; simp [hs2]
  have L2 : Below w1.heap.size w1 W2 := by rw [← hW2]; exact (Below.refl _ _).alloc (Nat.le_refl _) _
  have L3 : Below W2.heap.size W2 W3 := by rw [← hW3]; exact (Below.refl _ _).alloc (Nat.le_refl _) _
  have hI2 : WebIn W2 Bw am cm ms al cl ls := by rw [← hW2, ← hBw]; exact WebIn.box hd.mv hd.cv
  have hI3 := hI2.below L3
  have k2x : W3.cell? ⟨Bw + 1, 0, none⟩ = some (.int .i64 id) := by rw [← hW3, ← hs2]; simp
  have k3x : W3.cell? ⟨Bw + 1, 1, none⟩ = some (.slice aq q.length cq) := by rw [← hW3, ← hs2]; simp
  have k2 := k2x
  have k3 : W3.cell? ⟨Bw + 1, 1, none⟩ = some (.slice aq q.length cq) := by rw [← hW3, ← hs2]; simp
  have k0 := hI3.c0
  have k1 := hI3.c1
  have hq3 : View W3 aq q := View.next hd.qv (chain L2 L3)
  have HD := hidP hd
  have HB3 := hidP (chain L1 (chain L2 L3))
  have HI3 := hidP hI3
  have HQ3 := hidP hq3
  have HLI := hidP (iLinked am al aq cm cl cq ms ls (id, q) mo W3 hI3.mv hI3.cv hd.msm hd.csm hd.mc hd.lc hq3 (by have := hd.q6; show q.length ≤ _; omega))
  have HWW : Hid ((w1.alloc (.cells #[.slice am ms.length cm, .slice al ls.length cl] 27)).alloc (.cells #[.int .i64 id, .slice aq q.length cq] 30) = W3) := by show _ = _; rw [hW2, hW3]
  clear hI2 hI3 hq3 L1 L2 L3 hd hW2 hW3 hs2
  go_wp2_with fail
  simp only [HWW.out]
  refine HLI.out.mono ?_
  rintro e w4 ⟨v, rfl, ho, L4⟩
  obtain ⟨a1, c1, a2, c2, hve, hx1, hx2, hxc1, hxc2⟩ := ho.caps
  subst hve
  have HBO := hidP (fun h => web_one (ms := ms) (ls := ls) (m := (id, q)) (mo := mo) h)
  have HNO := hidP (fun h => linked_no (ms := ms) (ls := ls) (m := (id, q)) (most := mo) h)
  have HYE := hidP (fun h => linked_yes (ms := ms) (ls := ls) (m := (id, q)) (most := mo) h)
  have HSMX := hidP (linked_small ms ls (id, q) mo)
  have HSP := hidP (fun (W' : World) (L : Below W3.heap.size W3 W') => sLinked am al aq cm cl cq ms ls (id, q) mo W' (HI3.out.below L).mv (HI3.out.below L).cv (View.next HQ3.out L) HD.out.msm HD.out.csm (by have := HD.out.q6; show q.length ≤ _; omega))
  obtain ⟨lb, hlb⟩ : ∃ lb, linkedB ms ls (id, q) mo = lb := ⟨_, rfl⟩
  obtain ⟨M, hM⟩ : ∃ M, linkedMs ms ls (id, q) mo = M := ⟨_, rfl⟩
  obtain ⟨Lk, hLk⟩ : ∃ Lk, linkedLs ms ls (id, q) mo = Lk := ⟨_, rfl⟩
  have HSV : Hid (∀ W', Below W3.heap.size W3 W' → Calls Tryz.prog 15 #[.agg #[.slice am ms.length cm, .slice al ls.length cl], .agg #[.int .i64 id, .slice aq q.length cq], .int .i64 mo] W' fun e w' => ∃ a3 c3 a4 c4, e = .returned (.tuple #[.agg #[.slice a3 M.length c3, .slice a4 Lk.length c4], .bool lb]) ∧ MView w' a3 M ∧ CView w' a4 Lk ∧ Below W'.heap.size W' w') := fun W' L => (HSP.out W' L).mono (fun e w' h => by
    obtain ⟨a3, c3, a4, c4, he, h1, h2⟩ := h.1.views
    rw [hM, hLk, hlb] at he
    rw [hM] at h1
    rw [hLk] at h2
    exact ⟨a3, c3, a4, c4, he, h1, h2, h.2⟩)
  rw [hM] at hx1 hxc1 HNO HYE HSMX ⊢
  rw [hLk] at hx2 hxc2 HNO HYE HSMX ⊢
  rw [hlb] at HBO HNO HYE ⊢
  obtain ⟨Bx, hBx⟩ : ∃ B, w4.heap.size = B := ⟨_, rfl⟩
  obtain ⟨W5, hW5⟩ : ∃ W, w4.alloc (.cells #[.slice a1 M.length c1, .slice a2 Lk.length c2] 27) = W := ⟨_, rfl⟩
  have L5 : Below w4.heap.size w4 W5 := by rw [← hW5]; exact (Below.refl _ _).alloc (Nat.le_refl _) _
  have hX5 : WebIn W5 Bx a1 c1 M a2 c2 Lk := by rw [← hW5, ← hBx]; exact WebIn.box hx1 hx2
  have HX5 := hidP hX5
  have HL5 := hidP (chain L4 L5)
  have HB5 := hidP (chain HB3.out HL5.out)
  have HDI := hidP (cDrawIslands ao0 len0 cap0 W5 (HV0.out.below (Nat.le_refl _) HB5.out) hn)
  have HW5 := hidP hW5
  clear ho hx1 hx2 L4 L5 hX5 hW5 HLI HSP hM hLk hlb k0 k1 k2 k3 HWW
  go_wp2_with fail
  simp only [HW5.out]
  refine HDI.out.mono ?_
  rintro e w6 ⟨ai, ci, ali, cli, mi, li, rfl, hdi, L6⟩
  obtain ⟨Bi, hBi⟩ : ∃ B, w6.heap.size = B := ⟨_, rfl⟩
  obtain ⟨W7, hW7⟩ : ∃ W, w6.alloc (.cells #[.slice ai mi.length ci, .slice ali li.length cli] 27) = W := ⟨_, rfl⟩
  have L7 : Below w6.heap.size w6 W7 := by rw [← hW7]; exact (Below.refl _ _).alloc (Nat.le_refl _) _
  have hI7 : WebIn W7 Bi ai ci mi ali cli li := by rw [← hW7, ← hBi]; exact WebIn.box hdi.mv hdi.cv
  have HII7 := hidP hI7
  have HDI2 := hidP hdi
  have HL7 := hidP (chain HL5.out (chain L6 L7))
  have HX7 := hidP (HX5.out.below (chain L6 L7))
  have hI3' := HI3.out.below HL7.out
  have hml : Bw + 1 < W3.heap.size := by omega
  have k0 := hI3'.c0
  have k1 := hI3'.c1
  have HK3 := hidP (fun (W' : World) (L : Below W3.heap.size W3 W') => And.intro ((L.cell (p := ⟨Bw + 1, 0, none⟩) hml).trans k2x) ((L.cell (p := ⟨Bw + 1, 1, none⟩) hml).trans k3x))
  obtain ⟨k2, k3⟩ := HK3.out _ HL7.out
  have HSC := hidP (HSV.out W7 HL7.out)
  clear hdi L6 L7 hI7 hI3' HDI HW5 hBx
  go_wp2_with fail
  try simp only [hW7, hBi]
  refine HSC.out.mono ?_
  rintro e w8 ⟨a3, c3, a4, c4, rfl, hy1, hy2, L8⟩
  obtain ⟨By, hBy⟩ : ∃ B, w8.heap.size = B := ⟨_, rfl⟩
  obtain ⟨wo, hwo⟩ : ∃ W, w8.alloc (.cells #[.slice a3 M.length c3, .slice a4 Lk.length c4] 27) = W := ⟨_, rfl⟩
  have L9 : Below w8.heap.size w8 wo := by rw [← hwo]; exact (Below.refl _ _).alloc (Nat.le_refl _) _
  have hY9 : WebIn wo By a3 c3 M a4 c4 Lk := by rw [← hwo, ← hBy]; exact WebIn.box hy1 hy2
  have L79 := chain L8 L9
  have L39 := chain HL7.out L79
  have HS : Hid (WbS W3 Bw (Bw + 1) Bx Bi By am al aq a1 a2 ai ali a3 a4 cm cl cq c1 c2 ci cli c3 c4 ms M mi ls Lk li id q wo) := ⟨L39, HI3.out.below L39, Nat.lt_of_lt_of_le hml L39.size, (HK3.out _ L39).1, (HK3.out _ L39).2, View.next HQ3.out L39, HX7.out.below L79, HII7.out.below L79, hY9⟩
  have HWO := hidP hwo
  clear hy1 hy2 L8 L9 L79 L39 hY9 hwo HX7 HII7 HX5 HL5 HL7 HI3 HQ3 HK3 HSC HSV k0 k1 k2 k3 HB5 hW7 hBi
  have HKW : Hid (∀ W', Below wo.heap.size wo W' → WbS W3 Bw (Bw + 1) Bx Bi By am al aq a1 a2 ai ali a3 a4 cm cl cq c1 c2 ci cli c3 c4 ms M mi ls Lk li id q W') := fun W' L => HS.out.next L
  have C1 : Hid (∀ W', Below wo.heap.size wo W' → Calls Tryz.prog 16 #[.agg #[.slice a1 M.length c1, .slice a2 Lk.length c2], .agg #[.slice a3 M.length c3, .slice a4 Lk.length c4]] W' fun e w' => e = .returned (.bool true) ∧ Below W'.heap.size W' w') := fun W' L => by
    have h := HKW.out W' L
    exact likeW14 a1 a3 a2 a4 c1 c3 c2 c4 Lk.length M W' h.xi.mv h.yi.mv HSMX.out.1 (fun W'' L'' => (likeCC a2 a4 c2 c4 Lk W'' (h.xi.below L'').cv (h.yi.below L'').cv HSMX.out.2).mono (fun e w' hh => ⟨hh.1, by obtain ⟨n', hn'⟩ := hh.2; rw [hn']; exact below_drewN (Below.refl _ _) n'⟩))
  have C2 := hidP (fun (W' : World) (L : Below wo.heap.size wo W') => iWebOk14 am cm ms al cl ls W' (HKW.out W' L).wi.mv (HKW.out W' L).wi.cv HD.out.msm HD.out.csm HD.out.mc HD.out.lc)
  have C3 := hidP (fun (W' : World) (L : Below wo.heap.size wo W') => sWebOk am al cm cl ms ls W' (HKW.out W' L).wi.mv (HKW.out W' L).wi.cv HD.out.msm HD.out.csm)
  have C4 := hidP (fun (W' : World) (L : Below wo.heap.size wo W') => iIslands14 ai ci mi ali cli li W' (HKW.out W' L).ii.mv (HKW.out W' L).ii.cv HDI2.out.msm HDI2.out.csm HDI2.out.mc HDI2.out.lc)
  have C5 := hidP (fun (W' : World) (L : Below wo.heap.size wo W') => sIslands ai ali ci cli mi li W' (HKW.out W' L).ii.mv (HKW.out W' L).ii.cv HDI2.out.msm HDI2.out.csm)
  obtain ⟨wb, hwb⟩ : ∃ b, webB ms ls = b := ⟨_, rfl⟩
  obtain ⟨iv, hiv⟩ : ∃ b, islV mi li = b := ⟨_, rfl⟩
  rw [hwb] at C2 C3
  rw [hiv] at C4 C5
  have hb1 : (lb != lb) = false := by simp
  have hb2 : (wb != wb) = false := by simp
  have hb3 : (iv != iv) = false := by simp
  have HCL : Hid (∀ W', Below wo.heap.size wo W' → W'.cell? ⟨Bw, 0, none⟩ = some (.slice am ms.length cm) ∧ W'.cell? ⟨Bw, 1, none⟩ = some (.slice al ls.length cl) ∧ W'.cell? ⟨Bx, 0, none⟩ = some (.slice a1 M.length c1) ∧ W'.cell? ⟨Bx, 1, none⟩ = some (.slice a2 Lk.length c2) ∧ W'.cell? ⟨Bi, 0, none⟩ = some (.slice ai mi.length ci) ∧ W'.cell? ⟨Bi, 1, none⟩ = some (.slice ali li.length cli) ∧ W'.cell? ⟨By, 0, none⟩ = some (.slice a3 M.length c3) ∧ W'.cell? ⟨By, 1, none⟩ = some (.slice a4 Lk.length c4)) := fun W' L => by
    have h := HKW.out W' L
    exact ⟨h.wi.c0, h.wi.c1, h.xi.c0, h.xi.c1, h.ii.c0, h.ii.c1, h.yi.c0, h.yi.c1⟩
  have BLo := hidP ((Below.refl wo.heap.size wo).drew)
  have HB9 := hidP (chain HB3.out HS.out.low)
  clear hwb hiv HS HV0 HB3
  go_upto_region 7 with fail
  simp only [HWO.out]
  clear HWO hBy
  go_cut [61] from 39 to 60 (fun v wx => v = .bool false ∧ Below wo.heap.size wo wx)
  case first =>
    refine wp_region_takes (S := fun W' => Below wo.heap.size wo W') (fuel := 17) [0, 1, 2, 3, 4, 5] (by kernel_rfl) (by kernel_rfl) (by kernel_rfl) (by kernel_rfl) BLo.out (fun _ => ?_)
    iterate 6
      refine ⟨_, rfl, ?_⟩
      first
        | refine ⟨undef, Or.inr ⟨by rfl, rfl⟩, ?_⟩
        | (apply Exists.intro
           refine ⟨Or.inl ⟨by rfl, fun w' hw' => ?_⟩, ?_⟩
           · obtain ⟨e0, e1, e2, e3, e4, e5, e6, e7⟩ := HCL.out w' hw'
             first
             | (go_simp; done)
             | (go_simp; with_reducible rfl))
      simp only [Act.put, List.getElem_toArray, List.getElem_cons_succ, List.getElem_cons_zero, List.setIfInBounds_toArray, List.set_cons_zero, List.set_cons_succ]
    refine calm_one 6 (by kernel_rfl) rfl (fun K hK => ?_)
    go_simp
    refine (C1.out _ BLo.out).mono ?_
    rintro e v6 ⟨rfl, Xv6⟩
    have Lv6 := chain BLo.out Xv6
    refine hK.out _ _ Lv6 (fun _ => ?_)
    clear hK K Xv6
    refine calm_more14 11 [7, 8, 9, 10, 12] (by kernel_rfl) (by kernel_rfl) (by kernel_rfl) Lv6 ?_
    iterate 5
      refine ⟨_, rfl, ?_⟩
      first
        | refine ⟨undef, Or.inr ⟨by rfl, rfl⟩, ?_⟩
        | (apply Exists.intro
           refine ⟨Or.inl ⟨by rfl, fun w' hw' => ?_⟩, ?_⟩
           · obtain ⟨e0, e1, e2, e3, e4, e5, e6, e7⟩ := HCL.out w' hw'
             first
             | (go_simp; done)
             | (go_simp; with_reducible rfl))
      simp only [Act.put, List.getElem_toArray, List.getElem_cons_succ, List.getElem_cons_zero, List.setIfInBounds_toArray, List.set_cons_zero, List.set_cons_succ]
    refine calm_one 11 (by kernel_rfl) rfl (fun K hK => ?_)
    go_simp
    refine (C2.out _ Lv6).mono ?_
    rintro e v11 ⟨rfl, Xv11⟩
    have Lv11 := chain Lv6 Xv11
    refine hK.out _ _ Lv11 (fun _ => ?_)
    clear hK K Xv11
    refine calm_one 13 (by kernel_rfl) rfl (fun K hK => ?_)
    go_simp
    refine (C3.out _ Lv11).mono ?_
    rintro e v13 ⟨rfl, Xv13⟩
    have Lv13 := chain Lv11 Xv13
    refine hK.out _ _ Lv13 (fun _ => ?_)
    clear hK K Xv13
    refine calm_more14 4 [14, 15, 16, 17, 19] (by kernel_rfl) (by kernel_rfl) (by kernel_rfl) Lv13 ?_
    iterate 5
      refine ⟨_, rfl, ?_⟩
      first
        | refine ⟨undef, Or.inr ⟨by rfl, rfl⟩, ?_⟩
        | (apply Exists.intro
           refine ⟨Or.inl ⟨by rfl, fun w' hw' => ?_⟩, ?_⟩
           · obtain ⟨e0, e1, e2, e3, e4, e5, e6, e7⟩ := HCL.out w' hw'
             first
             | (go_simp; done)
             | (go_simp; with_reducible rfl))
      simp only [Act.put, List.getElem_toArray, List.getElem_cons_succ, List.getElem_cons_zero, List.setIfInBounds_toArray, List.set_cons_zero, List.set_cons_succ]
    refine calm_one 18 (by kernel_rfl) rfl (fun K hK => ?_)
    go_simp
    refine (C4.out _ Lv13).mono ?_
    rintro e v18 ⟨rfl, Xv18⟩
    have Lv18 := chain Lv13 Xv18
    refine hK.out _ _ Lv18 (fun _ => ?_)
    clear hK K Xv18
    refine calm_one 20 (by kernel_rfl) rfl (fun K hK => ?_)
    go_simp
    refine (C5.out _ Lv18).mono ?_
    rintro e v20 ⟨rfl, Xv20⟩
    have Lv20 := chain Lv18 Xv20
    refine hK.out _ _ Lv20 (fun _ => ?_)
    clear hK K Xv20
    refine calm_rest [21, 22] (by kernel_rfl) (by kernel_rfl) (by kernel_rfl) (by kernel_rfl) Lv20 ?_
    iterate 2
      refine ⟨_, rfl, ?_⟩
      first
        | refine ⟨undef, Or.inr ⟨by rfl, rfl⟩, ?_⟩
        | (apply Exists.intro
           refine ⟨Or.inl ⟨by rfl, fun w' hw' => ?_⟩, ?_⟩
           · obtain ⟨e0, e1, e2, e3, e4, e5, e6, e7⟩ := HCL.out w' hw'
             first
             | (go_simp; done)
             | (go_simp; with_reducible rfl))
      simp only [Act.put, List.getElem_toArray, List.getElem_cons_succ, List.getElem_cons_zero, List.setIfInBounds_toArray, List.set_cons_zero, List.set_cons_succ]
    refine NoPanic.normal (NoPanic.normal ?_)
    go_wp2_with fail
    go_meet
    exact ⟨rfl, Lv20⟩
  case rest =>
    obtain ⟨rfl, LC⟩ := hcut
    have HLC := hidP LC
    clear LC C1 C2 C3 C4 C5 hb1 hb2 hb3 BLo k2x k3x
    cases lb with
    | false =>
      obtain ⟨hM, hL⟩ := HNO.out (by trivial)
      subst hM hL
      have h := HKW.out wc HLC.out
      have x0 := h.xi.c0
      have x1 := h.xi.c1
      have HLK := hidP (likeW14 a1 none a2 none c1 0 c2 0 0 [] wc (Or.inl rfl) (Or.inl rfl) HSMX.out.1 (fun W'' _ => (likeCC a2 none c2 0 [] W'' (Or.inl rfl) (Or.inl rfl) HSMX.out.2).mono (fun e w' hh => ⟨hh.1, by obtain ⟨n', hn'⟩ := hh.2; rw [hn']; exact below_drewN (Below.refl _ _) n'⟩)))
      have HF := hidP (chain HB9.out HLC.out)
      clear h HCL
      go_wp2_with fail
      refine HLK.out.mono ?_
      rintro e wd ⟨rfl, Ld⟩
      have HF2 := hidP (chain HF.out Ld)
      clear Ld
      go_wp2_with fail
      go_ret
      exact ⟨rfl, HF2.out⟩
    | true =>
      have hone := HBO.out (by trivial)
      obtain ⟨hM, hL⟩ := HYE.out (by trivial)
      have hML : M.length = ms.length + 1 := by rw [hM]; simp
      have hLL : Lk.length = ms.length + 1 := by rw [hL, lnkL_len]
      have o1 : webB M Lk = true := by rw [hM, hL]; exact hone.ok
      have o2 : mid M ms.length = id := by rw [hM]; exact hone.id
      have o3 : mat M ms.length = q := by rw [hM]; exact hone.at_
      have o4 : (cn Lk ms.length).length = (nearL ms q mo).length := by rw [hL]; exact hone.last
      have o5 : ∀ k, k < (nearL ms q mo).length → hasB (cn Lk ms.length) (hnth (nearL ms q mo) k).1 = true := by rw [hL]; exact hone.has_
      have o6 : islV M Lk ≤ islV ms ls + (if (nearL ms q mo).length = 0 then 1 else 0) := by rw [hM, hL]; exact hone.more
      have o7 : 1 ≤ islV M Lk := by rw [hM, hL]; exact hone.pos
      have o8 := hone.up
      have n9 := HD.out.n9
      have n60 := near_len14 ms q mo
      have h := HKW.out wc HLC.out
      have k0 := h.wi.c0
      have k3 := h.m1
      have x0 := h.xi.c0
      have HNE := hidP (sNear am aq cm cq ms q mo wc h.wi.mv h.qv HD.out.msm (by have := HD.out.q6; omega))
      have hlast : IntKind.i64.wrap ((M.length : Int) - 1) = (ms.length : Int) := by rw [IntWalk.i64_in _ ⟨by omega, by omega⟩]; omega
      have HO := hidP (And.intro o1 (And.intro o2 (And.intro o3 (And.intro o4 (And.intro o5 (And.intro o6 (And.intro o7 o8)))))))
      have HMLN := hidP (And.intro hML hLL)
      obtain ⟨NR, hNR⟩ : ∃ NR, nearL ms q mo = NR := ⟨_, rfl⟩
      rw [hNR] at HNE HO n60
      clear h hone hM hL o1 o2 o3 o4 o5 o6 o7 o8 HBO HYE HNO hNR hML hLL
      go_wp2_with fail
      refine HNE.out.mono ?_
      rintro e wn ⟨gN, cN, rfl, rowN, LN⟩
      have HLN := hidP (chain HLC.out LN)
      have hgN := rowN.lt.2
      have HSN := hidP rowN.seg
      have hW := HKW.out wn HLN.out
      obtain ⟨b1, f1, ea1, hb1, hms⟩ := MSeg.seg hW.xi.mv (by have := HMLN.out.1; omega)
      obtain ⟨cid, pa, pc, cat, hpv⟩ := hms.at (i := ms.length) (by have := HMLN.out.1; omega)
      obtain ⟨b2, f2, ea2, hb2, hcs⟩ : ∃ b off, a2 = some ⟨b, off, none⟩ ∧ b < wn.heap.size ∧ CSeg wn b off Lk := by
        rcases hW.xi.cv with h | ⟨b, off, e, hb, hs⟩
        · have := HMLN.out.2; rw [h] at this; simp at this
        · exact ⟨b, off, e, hb, hs⟩
      obtain ⟨pb, pd, cln, hpl⟩ := hcs ms.length (by have := HMLN.out.2; omega)
      subst ea1 ea2
      rw [HO.out.2.1] at cid
      rw [HO.out.2.2.1] at cat hpv
      rw [HO.out.2.2.2.1] at cln
      have HPV := hidP hpv
      have HPL := hidP hpl
      have hi0 : (0 : Int) ≤ (ms.length : Int) := Int.natCast_nonneg _
      have hi1 : (ms.length : Int) < (M.length : Int) := by have := HMLN.out.1; omega
      have hi2 : (ms.length : Int) < (Lk.length : Int) := by have := HMLN.out.2; omega
      have HKN : Hid (∀ W', Below wn.heap.size wn W' → W'.cell? ⟨Bw, 0, none⟩ = some (.slice am ms.length cm) ∧ W'.cell? ⟨Bw, 1, none⟩ = some (.slice al ls.length cl) ∧ W'.cell? ⟨Bx, 0, none⟩ = some (.slice (some ⟨b1, f1, none⟩) M.length c1) ∧ W'.cell? ⟨Bx, 1, none⟩ = some (.slice (some ⟨b2, f2, none⟩) Lk.length c2) ∧ W'.cell? ⟨Bw + 1, 0, none⟩ = some (.int .i64 id) ∧ W'.cell? ⟨Bw + 1, 1, none⟩ = some (.slice aq q.length cq) ∧ W'.cell? ⟨b1, f1 + ms.length * 2, none⟩ = some (.int .i64 id) ∧ W'.cell? ⟨b1, f1 + ms.length * 2 + 1, none⟩ = some (.slice pa q.length pc) ∧ W'.cell? ⟨b2, f2 + ms.length, none⟩ = some (.slice pb NR.length pd)) := fun W' L => by
        have h := HKW.out W' (chain HLN.out L)
        exact ⟨h.wi.c0, h.wi.c1, h.xi.c0, h.xi.c1, h.m0, h.m1, (L.cell (p := ⟨b1, f1 + ms.length * 2, none⟩) hb1).trans cid, (L.cell (p := ⟨b1, f1 + ms.length * 2 + 1, none⟩) hb1).trans cat, (L.cell (p := ⟨b2, f2 + ms.length, none⟩) hb2).trans cln⟩
      have D1 := hidP (fun (W' : World) (L : Below wn.heap.size wn W') => iWebOk14 (some ⟨b1, f1, none⟩) c1 M (some ⟨b2, f2, none⟩) c2 Lk W' (HKW.out W' (chain HLN.out L)).xi.mv (HKW.out W' (chain HLN.out L)).xi.cv HSMX.out.1 HSMX.out.2 hxc1 hxc2)
      rw [HO.out.1] at D1
      have D2 := hidP (fun (W' : World) (L : Below wn.heap.size wn W') => likeM14 (id, q) pa aq pc cq W' (View.next HPV.out L) (HKW.out W' (chain HLN.out L)).qv (by have := HD.out.q6; show q.length ≤ _; omega))
      have D3 := hidP (fun (W' : World) (L : Below wn.heap.size wn W') => iIslands14 (some ⟨b1, f1, none⟩) c1 M (some ⟨b2, f2, none⟩) c2 Lk W' (HKW.out W' (chain HLN.out L)).xi.mv (HKW.out W' (chain HLN.out L)).xi.cv HSMX.out.1 HSMX.out.2 hxc1 hxc2)
      have D4 := hidP (fun (W' : World) (L : Below wn.heap.size wn W') => iIslands14 am cm ms al cl ls W' (HKW.out W' (chain HLN.out L)).wi.mv (HKW.out W' (chain HLN.out L)).wi.cv HD.out.msm HD.out.csm HD.out.mc HD.out.lc)
      have BLn := hidP ((Below.refl wn.heap.size wn).drew)
      have HBN := hidP (chain HB9.out HLN.out)
      have q1 : ((ms.length : Int) != (ms.length : Int)) = false := by simp
      have q2 : ((NR.length : Int) != (NR.length : Int)) = false := by simp
      have HPLN := hidP HO.out.2.2.2.1
      clear rowN LN hW hms hcs hpv hpl cid cat cln k0 k3 x0 HNE
      go_upto_region 13 with fail
      go_cut [107] from 77 to 106 (fun v wx => v = .bool false ∧ Below wn.heap.size wn wx)
      case first =>
        refine wp_region_takes (S := fun W' => Below wn.heap.size wn W') (fuel := 30) [0] (by kernel_rfl) (by kernel_rfl) (by kernel_rfl) (by kernel_rfl) BLn.out (fun _ => ?_)
        iterate 1
          refine ⟨_, rfl, ?_⟩
          first
            | refine ⟨undef, Or.inr ⟨by rfl, rfl⟩, ?_⟩
            | (apply Exists.intro
               refine ⟨Or.inl ⟨by rfl, fun w' hw' => ?_⟩, ?_⟩
               · obtain ⟨e0, e1, e2, e3, e4, e5, e6, e7, e8⟩ := HKN.out w' hw'
                 first
                 | (go_simp; done)
                 | (go_simp; with_reducible rfl))
          simp only [Act.put, List.getElem_toArray, List.getElem_cons_zero, List.setIfInBounds_toArray, List.set_cons_zero, List.set_cons_succ]
        refine calm_one 1 (by kernel_rfl) rfl (fun K hK => ?_)
        go_simp
        refine (D1.out _ BLn.out).mono ?_
        rintro e v1 ⟨rfl, Xv1⟩
        have Lv1 := chain BLn.out Xv1
        refine hK.out _ _ Lv1 (fun _ => ?_)
        clear hK K Xv1
        refine calm_more14 14 [2, 3, 4, 5, 6, 7, 8, 9, 10, 11, 12, 13, 14, 15, 16] (by kernel_rfl) (by kernel_rfl) (by kernel_rfl) Lv1 ?_
        iterate 15
          refine ⟨_, rfl, ?_⟩
          first
            | refine ⟨undef, Or.inr ⟨by rfl, rfl⟩, ?_⟩
            | (apply Exists.intro
               refine ⟨Or.inl ⟨by rfl, fun w' hw' => ?_⟩, ?_⟩
               · obtain ⟨e0, e1, e2, e3, e4, e5, e6, e7, e8⟩ := HKN.out w' hw'
                 first
                 | (go_simp; done)
                 | (go_simp; with_reducible rfl))
          simp only [Act.put, List.getElem_toArray, List.getElem_cons_succ, List.getElem_cons_zero, List.setIfInBounds_toArray, List.set_cons_zero, List.set_cons_succ]
        refine calm_one 17 (by kernel_rfl) rfl (fun K hK => ?_)
        go_simp
        refine (D2.out _ Lv1).mono ?_
        rintro e v17 ⟨rfl, Xv17⟩
        have Lv17 := chain Lv1 Xv17
        refine hK.out _ _ Lv17 (fun _ => ?_)
        clear hK K Xv17
        refine calm_rest [18, 19, 20, 21, 22, 23, 24, 25, 26, 27, 28, 29, 30] (by kernel_rfl) (by kernel_rfl) (by kernel_rfl) (by kernel_rfl) Lv17 ?_
        iterate 13
          refine ⟨_, rfl, ?_⟩
          first
            | refine ⟨undef, Or.inr ⟨by rfl, rfl⟩, ?_⟩
            | (apply Exists.intro
               refine ⟨Or.inl ⟨by rfl, fun w' hw' => ?_⟩, ?_⟩
               · obtain ⟨e0, e1, e2, e3, e4, e5, e6, e7, e8⟩ := HKN.out w' hw'
                 first
                 | (go_simp; done)
                 | (go_simp; with_reducible rfl))
          simp only [Act.put, List.getElem_toArray, List.getElem_cons_succ, List.getElem_cons_zero, List.setIfInBounds_toArray, List.set_cons_zero, List.set_cons_succ]
        refine NoPanic.normal (NoPanic.normal ?_)
        go_wp2_with fail
        go_meet
        exact ⟨rfl, Lv17⟩
      case rest =>
        obtain ⟨rfl, LE⟩ := hcut
        have HLE := hidP LE
        have HX : Hid (islV M Lk ≤ islV ms ls + (if NR.length = 0 then 1 else 0) ∧ 1 ≤ islV M Lk ∧ 0 ≤ islV ms ls ∧ islV ms ls ≤ ms.length) := ⟨HO.out.2.2.2.2.2.1, HO.out.2.2.2.2.2.2.1, HO.out.2.2.2.2.2.2.2⟩
        have HHB := hidP HO.out.2.2.2.2.1
        clear LE D1 D2 HLC HCL HDI2 HMLN HSMX HO
        go_wp2_with fail
        go_loopw [13] (fun kv wr => ∃ k : Nat, k ≤ NR.length ∧ kv = .int .i64 k ∧ Below wn.heap.size wn wr) (fun kv _ => NR.length - (intOf kv).toNat)
        case atStart => exact ⟨0, Nat.zero_le _, rfl, HLE.out⟩
        case round =>
          obtain ⟨k, hk, rfl, Lr⟩ := hrel
          have HLR := hidP Lr
          clear Lr
          by_cases hlt : k < NR.length
          · have hlti : (k : Int) < (NR.length : Int) := by omega
            have hk0 : (0 : Int) ≤ (k : Int) := Int.natCast_nonneg _
            obtain ⟨e0, e1, e2, e3, e4, e5, e6, e7, e8⟩ := HKN.out wr HLR.out
            obtain ⟨hc0, hc1⟩ := (HSeg.below HSN.out hgN HLR.out) k hlt
            rw [Nat.zero_add] at hc0 hc1
            have HHS : Hid (∀ m, Calls Tryz.prog 23 #[.slice pb NR.length pd, .int .i64 (hnth NR k).1] (wr.drewN m) fun e w'' => e = .returned (.bool true) ∧ ∃ m', w'' = wr.drewN m') := fun m => by
              have hh := lHas14 pb pd (cn Lk ms.length) (hnth NR k).1 (wr.drewN m) (View.drewN (View.next HPL.out HLR.out) m) (by rw [HPLN.out]; omega)
              rw [HPLN.out, HHB.out k hlt] at hh
              exact hh.mono (fun e w'' h => ⟨h.1, m, h.2⟩)
            clear e0 e1 e2 e4 e5 e6 e7 hc1
            generalize (hnth NR k).1 = hx at *
            go_wp2_with fail
            refine wp_region_quiet_lit (by kernel_rfl) (by kernel_rfl) ?_
            try simp only [List.append_eq, List.cons_append, List.nil_append]
            repeat (go_big_quiet_step ((go_at_call 23; exact HHS.out _)))
            refine wpQuiet_nil ?_
            intro _ hw'
            obtain ⟨nq, hw''⟩ := hw'
            subst hw''
            have HLQ := hidP (below_drewN HLR.out nq)
            clear HHS e3 e8 hc0
            go_wp2_with fail
            go_roundw
            case rel => exact ⟨k + 1, by omega, by go_num, HLQ.out⟩
            case measure => simp [intOf]; omega
          · have hlti : ¬ ((k : Int) < (NR.length : Int)) := by omega
            have BLr := hidP (HLR.out.drew)
            obtain ⟨x1, x2, x3, x4⟩ := HX.out
            have HXX := hidP (And.intro x2 (And.intro x3 x4))
            clear hk hlt HX HHB HPL HPV HPLN
            by_cases hz : NR.length = 0
            · have hzb : ((NR.length : Int) == 0) = true := by rw [beq_iff_eq]; omega
              rw [if_pos hz] at x1
              clear hz
              by_cases hm0 : ms.length = 0
              · have hmb : ((ms.length : Int) == 0) = true := by rw [beq_iff_eq]; omega
                have hw0 : IntKind.i64.wrap (islV ms ls + 1) = islV ms ls + 1 := by rw [IntWalk.i64_in _ ⟨by omega, by omega⟩]
                have hd1 : decide (islV M Lk ≤ islV ms ls + 1) = true := decide_eq_true (by omega)
                have hle : islV M Lk ≤ islV ms ls + 1 := by omega
                have hge : islV M Lk ≥ 1 := by omega
                have hd2 : decide (islV M Lk ≥ 1) = true := decide_eq_true hge
                have hd3 : decide (1 ≤ islV M Lk) = true := decide_eq_true hge
                clear x1 x2 x3 x4 hm0
                generalize islV M Lk = X1 at *
                generalize islV ms ls = X0 at *
                go_wp2_with fail
                refine wp_region_takes (S := fun W' => Below wn.heap.size wn W') (fuel := 16) [0, 2, 4] (by kernel_rfl) (by kernel_rfl) (by kernel_rfl) (by kernel_rfl) BLr.out (fun _ => ?_)
                iterate 3
                  refine ⟨_, rfl, ?_⟩
                  first
                    | refine ⟨undef, Or.inr ⟨by rfl, rfl⟩, ?_⟩
                    | (apply Exists.intro
                       refine ⟨Or.inl ⟨by rfl, fun w' hw' => ?_⟩, ?_⟩
                       · obtain ⟨e0, e1, e2, e3, e4, e5, e6, e7, e8⟩ := HKN.out w' hw'
                         first
                         | (go_simp; done)
                         | (go_simp; with_reducible rfl))
                  simp only [Act.put, List.getElem_toArray, List.getElem_cons_succ, List.getElem_cons_zero, List.setIfInBounds_toArray, List.set_cons_zero, List.set_cons_succ]
                refine calm_one 1 (by kernel_rfl) rfl (fun K hK => ?_)
                go_simp
                refine (D3.out _ BLr.out).mono ?_
                rintro e y1 ⟨rfl, Xy1⟩
                have Ly1 := chain BLr.out Xy1
                refine hK.out _ _ Ly1 (fun _ => ?_)
                clear hK K Xy1
                refine calm_one 3 (by kernel_rfl) rfl (fun K hK => ?_)
                go_simp
                refine (D4.out _ Ly1).mono ?_
                rintro e y3 ⟨rfl, Xy3⟩
                have Ly3 := chain Ly1 Xy3
                refine hK.out _ _ Ly3 (fun _ => ?_)
                clear hK K Xy3
                refine calm_more14 5 [5, 6, 7, 8, 9, 10, 11, 12, 13] (by kernel_rfl) (by kernel_rfl) (by kernel_rfl) Ly3 ?_
                iterate 9
                  refine ⟨_, rfl, ?_⟩
                  first
                    | refine ⟨undef, Or.inr ⟨by rfl, rfl⟩, ?_⟩
                    | (apply Exists.intro
                       refine ⟨Or.inl ⟨by rfl, fun w' hw' => ?_⟩, ?_⟩
                       · obtain ⟨e0, e1, e2, e3, e4, e5, e6, e7, e8⟩ := HKN.out w' hw'
                         first
                         | (go_simp; done)
                         | (go_simp; with_reducible rfl))
                  simp only [Act.put, List.getElem_toArray, List.getElem_cons_succ, List.getElem_cons_zero, List.setIfInBounds_toArray, List.set_cons_zero, List.set_cons_succ]
                refine calm_one 14 (by kernel_rfl) rfl (fun K hK => ?_)
                go_simp
                refine hK.out _ _ Ly3 (fun _ => ?_)
                clear hK K
                have Ly14 := Ly3
                refine calm_rest [15, 16, 17, 18] (by kernel_rfl) (by kernel_rfl) (by kernel_rfl) (by kernel_rfl) Ly14 ?_
                iterate 4
                  refine ⟨_, rfl, ?_⟩
                  first
                    | refine ⟨undef, Or.inr ⟨by rfl, rfl⟩, ?_⟩
                    | (apply Exists.intro
                       refine ⟨Or.inl ⟨by rfl, fun w' hw' => ?_⟩, ?_⟩
                       · obtain ⟨e0, e1, e2, e3, e4, e5, e6, e7, e8⟩ := HKN.out w' hw'
                         first
                         | (go_simp; done)
                         | (go_simp; with_reducible rfl))
                  simp only [Act.put, List.getElem_toArray, List.getElem_cons_succ, List.getElem_cons_zero, List.setIfInBounds_toArray, List.set_cons_zero, List.set_cons_succ]
                refine NoPanic.normal (NoPanic.normal ?_)
                have HF := hidP (chain HBN.out Ly14)
                go_wp2_with fail
                go_ret
                exact ⟨rfl, HF.out⟩
              · have hmb : ((ms.length : Int) == 0) = false := by rw [beq_eq_false_iff_ne]; omega
                have hw0 : IntKind.i64.wrap (islV ms ls + 1) = islV ms ls + 1 := by rw [IntWalk.i64_in _ ⟨by omega, by omega⟩]
                have hd1 : decide (islV M Lk ≤ islV ms ls + 1) = true := decide_eq_true (by omega)
                have hle : islV M Lk ≤ islV ms ls + 1 := by omega
                have hge : islV M Lk ≥ 1 := by omega
                have hd2 : decide (islV M Lk ≥ 1) = true := decide_eq_true hge
                have hd3 : decide (1 ≤ islV M Lk) = true := decide_eq_true hge
                clear x1 x2 x3 x4 hm0
                generalize islV M Lk = X1 at *
                generalize islV ms ls = X0 at *
                go_wp2_with fail
                refine wp_region_takes (S := fun W' => Below wn.heap.size wn W') (fuel := 16) [0, 2, 4] (by kernel_rfl) (by kernel_rfl) (by kernel_rfl) (by kernel_rfl) BLr.out (fun _ => ?_)
                iterate 3
                  refine ⟨_, rfl, ?_⟩
                  first
                    | refine ⟨undef, Or.inr ⟨by rfl, rfl⟩, ?_⟩
                    | (apply Exists.intro
                       refine ⟨Or.inl ⟨by rfl, fun w' hw' => ?_⟩, ?_⟩
                       · obtain ⟨e0, e1, e2, e3, e4, e5, e6, e7, e8⟩ := HKN.out w' hw'
                         first
                         | (go_simp; done)
                         | (go_simp; with_reducible rfl))
                  simp only [Act.put, List.getElem_toArray, List.getElem_cons_succ, List.getElem_cons_zero, List.setIfInBounds_toArray, List.set_cons_zero, List.set_cons_succ]
                refine calm_one 1 (by kernel_rfl) rfl (fun K hK => ?_)
                go_simp
                refine (D3.out _ BLr.out).mono ?_
                rintro e y1 ⟨rfl, Xy1⟩
                have Ly1 := chain BLr.out Xy1
                refine hK.out _ _ Ly1 (fun _ => ?_)
                clear hK K Xy1
                refine calm_one 3 (by kernel_rfl) rfl (fun K hK => ?_)
                go_simp
                refine (D4.out _ Ly1).mono ?_
                rintro e y3 ⟨rfl, Xy3⟩
                have Ly3 := chain Ly1 Xy3
                refine hK.out _ _ Ly3 (fun _ => ?_)
                clear hK K Xy3
                refine calm_more14 5 [5, 6, 7, 8, 9, 10, 11, 12, 13] (by kernel_rfl) (by kernel_rfl) (by kernel_rfl) Ly3 ?_
                iterate 9
                  refine ⟨_, rfl, ?_⟩
                  first
                    | refine ⟨undef, Or.inr ⟨by rfl, rfl⟩, ?_⟩
                    | (apply Exists.intro
                       refine ⟨Or.inl ⟨by rfl, fun w' hw' => ?_⟩, ?_⟩
                       · obtain ⟨e0, e1, e2, e3, e4, e5, e6, e7, e8⟩ := HKN.out w' hw'
                         first
                         | (go_simp; done)
                         | (go_simp; with_reducible rfl))
                  simp only [Act.put, List.getElem_toArray, List.getElem_cons_succ, List.getElem_cons_zero, List.setIfInBounds_toArray, List.set_cons_zero, List.set_cons_succ]
                refine calm_one 14 (by kernel_rfl) rfl (fun K hK => ?_)
                go_simp
                refine (D3.out _ Ly3).mono ?_
                rintro e y14 ⟨rfl, Xy14⟩
                have Ly14 := chain Ly3 Xy14
                refine hK.out _ _ Ly14 (fun _ => ?_)
                clear hK K Xy14
                refine calm_rest [15, 16, 17, 18] (by kernel_rfl) (by kernel_rfl) (by kernel_rfl) (by kernel_rfl) Ly14 ?_
                iterate 4
                  refine ⟨_, rfl, ?_⟩
                  first
                    | refine ⟨undef, Or.inr ⟨by rfl, rfl⟩, ?_⟩
                    | (apply Exists.intro
                       refine ⟨Or.inl ⟨by rfl, fun w' hw' => ?_⟩, ?_⟩
                       · obtain ⟨e0, e1, e2, e3, e4, e5, e6, e7, e8⟩ := HKN.out w' hw'
                         first
                         | (go_simp; done)
                         | (go_simp; with_reducible rfl))
                  simp only [Act.put, List.getElem_toArray, List.getElem_cons_succ, List.getElem_cons_zero, List.setIfInBounds_toArray, List.set_cons_zero, List.set_cons_succ]
                refine NoPanic.normal (NoPanic.normal ?_)
                have HF := hidP (chain HBN.out Ly14)
                go_wp2_with fail
                go_ret
                exact ⟨rfl, HF.out⟩
            · have hzb : ((NR.length : Int) == 0) = false := by rw [beq_eq_false_iff_ne]; omega
              rw [if_neg hz] at x1
              clear hz
              by_cases hm0 : ms.length = 0
              · have hmb : ((ms.length : Int) == 0) = true := by rw [beq_iff_eq]; omega
                have hw0 : IntKind.i64.wrap (islV ms ls) = islV ms ls := by rw [IntWalk.i64_in _ ⟨by omega, by omega⟩]
                have hd1 : decide (islV M Lk ≤ islV ms ls) = true := decide_eq_true (by omega)
                have hle : islV M Lk ≤ islV ms ls := by omega
                have hge : islV M Lk ≥ 1 := by omega
                have hd2 : decide (islV M Lk ≥ 1) = true := decide_eq_true hge
                have hd3 : decide (1 ≤ islV M Lk) = true := decide_eq_true hge
                clear x1 x2 x3 x4 hm0
                generalize islV M Lk = X1 at *
                generalize islV ms ls = X0 at *
                go_wp2_with fail
                refine wp_region_takes (S := fun W' => Below wn.heap.size wn W') (fuel := 16) [0, 2, 4] (by kernel_rfl) (by kernel_rfl) (by kernel_rfl) (by kernel_rfl) BLr.out (fun _ => ?_)
                iterate 3
                  refine ⟨_, rfl, ?_⟩
                  first
                    | refine ⟨undef, Or.inr ⟨by rfl, rfl⟩, ?_⟩
                    | (apply Exists.intro
                       refine ⟨Or.inl ⟨by rfl, fun w' hw' => ?_⟩, ?_⟩
                       · obtain ⟨e0, e1, e2, e3, e4, e5, e6, e7, e8⟩ := HKN.out w' hw'
                         first
                         | (go_simp; done)
                         | (go_simp; with_reducible rfl))
                  simp only [Act.put, List.getElem_toArray, List.getElem_cons_succ, List.getElem_cons_zero, List.setIfInBounds_toArray, List.set_cons_zero, List.set_cons_succ]
                refine calm_one 1 (by kernel_rfl) rfl (fun K hK => ?_)
                go_simp
                refine (D3.out _ BLr.out).mono ?_
                rintro e y1 ⟨rfl, Xy1⟩
                have Ly1 := chain BLr.out Xy1
                refine hK.out _ _ Ly1 (fun _ => ?_)
                clear hK K Xy1
                refine calm_one 3 (by kernel_rfl) rfl (fun K hK => ?_)
                go_simp
                refine (D4.out _ Ly1).mono ?_
                rintro e y3 ⟨rfl, Xy3⟩
                have Ly3 := chain Ly1 Xy3
                refine hK.out _ _ Ly3 (fun _ => ?_)
                clear hK K Xy3
                refine calm_more14 5 [5, 6, 7, 8, 9, 10, 11, 12, 13] (by kernel_rfl) (by kernel_rfl) (by kernel_rfl) Ly3 ?_
                iterate 9
                  refine ⟨_, rfl, ?_⟩
                  first
                    | refine ⟨undef, Or.inr ⟨by rfl, rfl⟩, ?_⟩
                    | (apply Exists.intro
                       refine ⟨Or.inl ⟨by rfl, fun w' hw' => ?_⟩, ?_⟩
                       · obtain ⟨e0, e1, e2, e3, e4, e5, e6, e7, e8⟩ := HKN.out w' hw'
                         first
                         | (go_simp; done)
                         | (go_simp; with_reducible rfl))
                  simp only [Act.put, List.getElem_toArray, List.getElem_cons_succ, List.getElem_cons_zero, List.setIfInBounds_toArray, List.set_cons_zero, List.set_cons_succ]
                refine calm_one 14 (by kernel_rfl) rfl (fun K hK => ?_)
                go_simp
                refine hK.out _ _ Ly3 (fun _ => ?_)
                clear hK K
                have Ly14 := Ly3
                refine calm_rest [15, 16, 17, 18] (by kernel_rfl) (by kernel_rfl) (by kernel_rfl) (by kernel_rfl) Ly14 ?_
                iterate 4
                  refine ⟨_, rfl, ?_⟩
                  first
                    | refine ⟨undef, Or.inr ⟨by rfl, rfl⟩, ?_⟩
                    | (apply Exists.intro
                       refine ⟨Or.inl ⟨by rfl, fun w' hw' => ?_⟩, ?_⟩
                       · obtain ⟨e0, e1, e2, e3, e4, e5, e6, e7, e8⟩ := HKN.out w' hw'
                         first
                         | (go_simp; done)
                         | (go_simp; with_reducible rfl))
                  simp only [Act.put, List.getElem_toArray, List.getElem_cons_succ, List.getElem_cons_zero, List.setIfInBounds_toArray, List.set_cons_zero, List.set_cons_succ]
                refine NoPanic.normal (NoPanic.normal ?_)
                have HF := hidP (chain HBN.out Ly14)
                go_wp2_with fail
                go_ret
                exact ⟨rfl, HF.out⟩
              · have hmb : ((ms.length : Int) == 0) = false := by rw [beq_eq_false_iff_ne]; omega
                have hw0 : IntKind.i64.wrap (islV ms ls) = islV ms ls := by rw [IntWalk.i64_in _ ⟨by omega, by omega⟩]
                have hd1 : decide (islV M Lk ≤ islV ms ls) = true := decide_eq_true (by omega)
                have hle : islV M Lk ≤ islV ms ls := by omega
                have hge : islV M Lk ≥ 1 := by omega
                have hd2 : decide (islV M Lk ≥ 1) = true := decide_eq_true hge
                have hd3 : decide (1 ≤ islV M Lk) = true := decide_eq_true hge
                clear x1 x2 x3 x4 hm0
                generalize islV M Lk = X1 at *
                generalize islV ms ls = X0 at *
                go_wp2_with fail
                refine wp_region_takes (S := fun W' => Below wn.heap.size wn W') (fuel := 16) [0, 2, 4] (by kernel_rfl) (by kernel_rfl) (by kernel_rfl) (by kernel_rfl) BLr.out (fun _ => ?_)
                iterate 3
                  refine ⟨_, rfl, ?_⟩
                  first
                    | refine ⟨undef, Or.inr ⟨by rfl, rfl⟩, ?_⟩
                    | (apply Exists.intro
                       refine ⟨Or.inl ⟨by rfl, fun w' hw' => ?_⟩, ?_⟩
                       · obtain ⟨e0, e1, e2, e3, e4, e5, e6, e7, e8⟩ := HKN.out w' hw'
                         first
                         | (go_simp; done)
                         | (go_simp; with_reducible rfl))
                  simp only [Act.put, List.getElem_toArray, List.getElem_cons_succ, List.getElem_cons_zero, List.setIfInBounds_toArray, List.set_cons_zero, List.set_cons_succ]
                refine calm_one 1 (by kernel_rfl) rfl (fun K hK => ?_)
                go_simp
                refine (D3.out _ BLr.out).mono ?_
                rintro e y1 ⟨rfl, Xy1⟩
                have Ly1 := chain BLr.out Xy1
                refine hK.out _ _ Ly1 (fun _ => ?_)
                clear hK K Xy1
                refine calm_one 3 (by kernel_rfl) rfl (fun K hK => ?_)
                go_simp
                refine (D4.out _ Ly1).mono ?_
                rintro e y3 ⟨rfl, Xy3⟩
                have Ly3 := chain Ly1 Xy3
                refine hK.out _ _ Ly3 (fun _ => ?_)
                clear hK K Xy3
                refine calm_more14 5 [5, 6, 7, 8, 9, 10, 11, 12, 13] (by kernel_rfl) (by kernel_rfl) (by kernel_rfl) Ly3 ?_
                iterate 9
                  refine ⟨_, rfl, ?_⟩
                  first
                    | refine ⟨undef, Or.inr ⟨by rfl, rfl⟩, ?_⟩
                    | (apply Exists.intro
                       refine ⟨Or.inl ⟨by rfl, fun w' hw' => ?_⟩, ?_⟩
                       · obtain ⟨e0, e1, e2, e3, e4, e5, e6, e7, e8⟩ := HKN.out w' hw'
                         first
                         | (go_simp; done)
                         | (go_simp; with_reducible rfl))
                  simp only [Act.put, List.getElem_toArray, List.getElem_cons_succ, List.getElem_cons_zero, List.setIfInBounds_toArray, List.set_cons_zero, List.set_cons_succ]
                refine calm_one 14 (by kernel_rfl) rfl (fun K hK => ?_)
                go_simp
                refine (D3.out _ Ly3).mono ?_
                rintro e y14 ⟨rfl, Xy14⟩
                have Ly14 := chain Ly3 Xy14
                refine hK.out _ _ Ly14 (fun _ => ?_)
                clear hK K Xy14
                refine calm_rest [15, 16, 17, 18] (by kernel_rfl) (by kernel_rfl) (by kernel_rfl) (by kernel_rfl) Ly14 ?_
                iterate 4
                  refine ⟨_, rfl, ?_⟩
                  first
                    | refine ⟨undef, Or.inr ⟨by rfl, rfl⟩, ?_⟩
                    | (apply Exists.intro
                       refine ⟨Or.inl ⟨by rfl, fun w' hw' => ?_⟩, ?_⟩
                       · obtain ⟨e0, e1, e2, e3, e4, e5, e6, e7, e8⟩ := HKN.out w' hw'
                         first
                         | (go_simp; done)
                         | (go_simp; with_reducible rfl))
                  simp only [Act.put, List.getElem_toArray, List.getElem_cons_succ, List.getElem_cons_zero, List.setIfInBounds_toArray, List.set_cons_zero, List.set_cons_succ]
                refine NoPanic.normal (NoPanic.normal ?_)
                have HF := hidP (chain HBN.out Ly14)
                go_wp2_with fail
                go_ret
                exact ⟨rfl, HF.out⟩
end Go.Proofs.YtfbhohpbhjlihaaGreat
