/-
  The program's Near.
  The given Near.
-/
import Derived.Test.YtodielfilhodeaaGreatNLeaveZz
import Derived.Test.YtodielfilhodeaaGreatNCollZz
import Derived.Test.YtodielfilhodeaaGreatNCatZz
import Derived.Test.YtodielfilhodeaaGreatBLaw2Zz
import Derived.Test.YtodielfilhodeaaGreatGGridZz
import Derived.Test.YtodielfilhodeaaGreatHM8Zz
import Derived.Test.YtodielfilhodeaaGreatWithZz
namespace Go.Proofs.YtodielfilhodeaaGreat
open Go Go.RowKit

def nearV (s : Int) (ms : List Mk) (q : List Int) (most : Int) : List Ht := if gridB s ms = true then withinL ms q most else []
def grpE (gs : List Gp) (y : MapEntry) : Gp := gs.getD y.born ([], 0, 0, [])
theorem ent_grp {gs : List Gp} {y : MapEntry} (h : y ∈ (mkE (gs.map gpV)).toList) : ∃ hb : y.born < gs.length, grpE gs y = gs[y.born] ∧ y.val = .slice (some ⟨gs[y.born].2.1, 0, none⟩) gs[y.born].2.2.2.length gs[y.born].2.2.1 := by
  obtain ⟨hi, _, hv⟩ := nmkE_born h
  have hb : y.born < gs.length := by simpa using hi
  exact ⟨hb, by simp [grpE, List.getD, hb], by rw [hv]; simp [gpV]⟩
theorem ent_valE {gs : List Gp} {y : MapEntry} (h : y ∈ (mkE (gs.map gpV)).toList) : valE y = y.val := by
  obtain ⟨_, _, hv⟩ := ent_grp h
  unfold valE trE
  rw [hv]
theorem kept_perm {gs : List Gp} {es : Array MapEntry} {ys : List MapEntry} {gone : List Int → Bool} (hp : ys.Perm es.toList) (hs : Some0 (gs.map gpV) es) (hm : ∀ x ∈ (mkE (gs.map gpV)).toList, x ∈ es.toList ↔ ∀ h : x.born < gs.length, gone gs[x.born].1 = false) (hn : gs.Nodup) :
    (ys.map (grpE gs)).Perm (gs.filter fun x => !gone x.1) := by
  have hsub : ∀ y ∈ ys, y ∈ (mkE (gs.map gpV)).toList := fun y hy => hs.mem (hp.mem_iff.1 hy)
  have hbn : (ys.map (·.born)).Nodup := (hp.map _).nodup_iff.2 hs.born
  refine (List.perm_ext_iff_of_nodup ?_ (hn.filter _)).2 fun x => ?_
  · refine List.pairwise_map.2 ?_
    have hpw := List.pairwise_map.1 hbn
    refine hpw.imp_of_mem fun {a b} ha hb hab e => ?_
    obtain ⟨h1, e1, _⟩ := ent_grp (hsub a ha)
    obtain ⟨h2, e2, _⟩ := ent_grp (hsub b hb)
    rw [e1, e2] at e
    exact hab ((List.getElem_inj hn).1 e)
  · rw [List.mem_filter]
    constructor
    · intro hx
      obtain ⟨y, hy, rfl⟩ := List.mem_map.1 hx
      obtain ⟨h1, e1, _⟩ := ent_grp (hsub y hy)
      rw [e1]
      refine ⟨List.getElem_mem h1, ?_⟩
      have := (hm y (hsub y hy)).1 (hp.mem_iff.1 hy) h1
      rw [this]; rfl
    · rintro ⟨hx, hg⟩
      obtain ⟨j, hj, rfl⟩ := List.getElem_of_mem hx
      have hj2 : j < (gs.map gpV).length := by simpa using hj
      have hy0 : (⟨(gs.map gpV)[j].1, (gs.map gpV)[j].2, j⟩ : MapEntry) ∈ (mkE (gs.map gpV)).toList := by
        have := mkE_get (gs.map gpV) j hj2
        exact Array.mem_toList_iff.2 (Array.mem_of_getElem? this)
      have hin := (hm _ hy0).2 (fun _ => by simpa using hg)
      refine List.mem_map.2 ⟨_, hp.mem_iff.2 hin, ?_⟩
      obtain ⟨_, e1, _⟩ := ent_grp hy0
      rw [e1]
def rwE (x : Gp) : RwC := (some ⟨x.2.1, 0, none⟩, x.2.2.1, x.2.2.2)
theorem catR_rwE (K : List Gp) : catR (K.map rwE) = K.flatMap (·.2.2.2) := by
  unfold catR
  rw [List.flatMap_map]
  rfl

/-- What the rows of the cells that are left are joined to. -/
theorem iJoin (gs : List Gp) (ys : List MapEntry) (v : Value) (base0 B0 : Nat) (ds : List Sm) (Wd w : World) (hrow : w.ownsRow B0 24 1 v ys.length (ys.map valE)) (hy : ∀ y ∈ ys, y ∈ (mkE (gs.map gpV)).toList) (hr : ∀ x ∈ gs, SRow base0 w x.2.1 x.2.2.1 x.2.2.2) (hne : ∀ x ∈ gs, x.2.2.2 ≠ []) (hl : ys.length ≤ 60) (h60 : ((ys.map (grpE gs)).flatMap (·.2.2.2)).length ≤ 60)
    (hsl : SLies Wd ds) (hin : ∀ x ∈ gs, ∀ d ∈ x.2.2.2, d ∈ ds) (hW : Below Wd.heap.size Wd w) :
    Calls Tryz.prog 93 #[v] w fun e w' => ∃ ao cap, e = .returned (.slice ao (smMarks ((ys.map (grpE gs)).flatMap (·.2.2.2))).length cap) ∧ MView w' ao (smMarks ((ys.map (grpE gs)).flatMap (·.2.2.2))) ∧ Below w.heap.size w w' := by
  rcases Nat.eq_zero_or_pos ys.length with h0 | h0
  · have e0 : ys = [] := List.length_eq_zero_iff.1 h0
    subst e0
    have hnil : ∃ ao cap, v = .slice ao 0 cap := by
      rcases hrow.2 with ⟨e, _⟩ | ⟨g, c, _, e, _⟩
      · exact ⟨none, 0, e⟩
      · exact ⟨_, c, e⟩
    obtain ⟨ao, cap, rfl⟩ := hnil
    refine (iConcatN ao cap w).mono ?_
    rintro e w' ⟨rfl, rfl⟩
    exact ⟨none, 0, rfl, Or.inl rfl, Below.refl _ _⟩
  · obtain ⟨A, cap, cur, rfl, hA, hcur, hcap, _, hcs, htk⟩ : ∃ g cap cur, v = .slice (some ⟨g, 0, none⟩) ys.length cap ∧ B0 ≤ g ∧ w.heap[g]? = some (.cells cur 24 (0, 0)) ∧ ys.length ≤ cap ∧ cap ≤ maxLen ∧ cur.size = cap * 1 ∧ cur.toList.take (ys.length * 1) = ys.map valE := by
      rcases hrow.2 with ⟨_, e⟩ | h
      · omega
      · exact h
    have hAl : A < w.heap.size := (Array.getElem?_eq_some_iff.1 hcur).1
    have hLl : ((ys.map (grpE gs)).map rwE).length = ys.length := by simp
    have hcat : catR ((ys.map (grpE gs)).map rwE) = (ys.map (grpE gs)).flatMap (·.2.2.2) := catR_rwE _
    have hcell : ∀ i (h : i < ((ys.map (grpE gs)).map rwE).length), w.cell? ⟨A, i, none⟩ = some (.slice ((ys.map (grpE gs)).map rwE)[i].1 ((ys.map (grpE gs)).map rwE)[i].2.2.length ((ys.map (grpE gs)).map rwE)[i].2.1) := fun i h => by
      have hi : i < ys.length := by rw [hLl] at h; exact h
      have hc : w.cell? ⟨A, i, none⟩ = cur[i]? := by simp [World.cell?, hcur]
      have hci : cur[i]? = some (valE ys[i]) := by
        have h1 : (cur.toList.take (ys.length * 1))[i]? = (ys.map valE)[i]? := by rw [htk]
        rw [List.getElem?_take_of_lt (by omega)] at h1
        rw [← Array.getElem?_toList, h1]
        simp [hi]
      obtain ⟨hb, e1, e2⟩ := ent_grp (hy ys[i] (List.getElem_mem hi))
      rw [hc, hci, ent_valE (hy ys[i] (List.getElem_mem hi)), e2]
      simp [rwE, e1]
    have hvw : ∀ i (h : i < ((ys.map (grpE gs)).map rwE).length), SView w ((ys.map (grpE gs)).map rwE)[i].1 ((ys.map (grpE gs)).map rwE)[i].2.2 := fun i h => by
      have hi : i < ys.length := by rw [hLl] at h; exact h
      obtain ⟨hb, e1, e2⟩ := ent_grp (hy ys[i] (List.getElem_mem hi))
      have hsr := (hr _ (List.getElem_mem hb)).sview
      simpa [rwE, e1] using hsr
    have hpos : 0 < (catR ((ys.map (grpE gs)).map rwE)).length := by
      rw [hcat]
      obtain ⟨hb, e1, _⟩ := ent_grp (hy ys[0] (List.getElem_mem h0))
      have hn0 := hne _ (List.getElem_mem hb)
      have : ∃ d, d ∈ gs[ys[0].born].2.2.2 := List.exists_mem_of_ne_nil _ hn0
      obtain ⟨d, hd⟩ := this
      refine List.length_pos_of_mem (a := d) (List.mem_flatMap.2 ⟨grpE gs ys[0], List.mem_map_of_mem (List.getElem_mem h0), ?_⟩)
      rw [e1]; exact hd
    have hC := iConcatM A cap ((ys.map (grpE gs)).map rwE) w hAl hcell hvw (by rw [hLl]; exact hl) (by rw [hcat]; exact h60) hpos
    rw [hLl, hcat] at hC
    refine hC.mono ?_
    rintro e w' ⟨g, c, rfl, hsr, L⟩
    have hsub : ∀ d ∈ (ys.map (grpE gs)).flatMap (·.2.2.2), d ∈ ds := fun d hd => by
      obtain ⟨x, hx, hdx⟩ := List.mem_flatMap.1 hd
      obtain ⟨y, hyy, rfl⟩ := List.mem_map.1 hx
      obtain ⟨hb, e1, _⟩ := ent_grp (hy y hyy)
      rw [e1] at hdx
      exact hin _ (List.getElem_mem hb) d hdx
    refine ⟨some ⟨g, 0, none⟩, c, by rw [smMarks_length], hsr.view (hsl.sub hsub) (chain hW L), L⟩

theorem ngmarks {ms : List Mk} (h : marksB ms = true) : ∀ a ∈ ms, okB a.2 = true ∧ a.2.length = (mat ms 0).length := fun a ha => by
  obtain ⟨i, hi, rfl⟩ := List.getElem_of_mem ha
  have h2 := marks_two h hi (show 0 < ms.length by omega)
  have e : mat ms i = ms[i].2 := by simp [mat, List.getD, hi]
  rw [e] at h2
  exact ⟨(twoB_of h2).1, (twoB_of h2).2.2⟩
theorem cell_bd {p : List Int} {s : Int} (hok : okB p = true) (hs : 1 ≤ s) (i : Nat) : -1000 ≤ nth (cellV p s) i ∧ nth (cellV p s) i ≤ 1000 := by
  rw [nth_cellV]
  split
  · have hb := okB_at hok i
    exact ⟨Int.le_ediv_of_mul_le (by omega) (by omega), Int.ediv_le_of_le_mul (by omega) (by omega)⟩
  · omega
theorem flat_len {α : Type} (m : Gp → List α) (p : Gp → Bool) : ∀ gs : List Gp, ((gs.filter p).flatMap m).length ≤ (gs.flatMap m).length
  | [] => by simp
  | x :: r => by
    have ih := flat_len m p r
    rcases hx : p x with _ | _
    · rw [List.filter_cons_of_neg (by simp [hx]), List.flatMap_cons, List.length_append]; omega
    · rw [List.filter_cons_of_pos hx, List.flatMap_cons, List.flatMap_cons, List.length_append, List.length_append]; omega
/-- What is left, and what of it is answered. -/
theorem near_left {s most : Int} {dim : Nat} {gs : List Gp} {ds : List Sm} {ms : List Mk} {q : List Int} {es : Array MapEntry} {ys : List MapEntry} (hk : GKeys s dim gs ds) (h4 : dim ≤ 4) (hds : smMarks ds = ms) (hm : 0 ≤ most) (hd60 : ds.length ≤ 60) (hs : Some0 (gs.map gpV) es) (hp : ys.Perm es.toList)
    (hf : most < toBoxV (aroundV ms) q → es = #[]) (hn : ¬ most < toBoxV (aroundV ms) q → ∀ x ∈ (mkE (gs.map gpV)).toList, x ∈ es.toList ↔ ∀ h : x.born < gs.length, goneB s q most gs[x.born].1 = false) :
    ((ys.map (grpE gs)).flatMap (·.2.2.2)).length ≤ 60 ∧ (sortL (hitsL (smMarks ((ys.map (grpE gs)).flatMap (·.2.2.2))) q)).filter (fun h => decide (h.2 ≤ most)) = (sortL (hitsL ms q)).filter (fun h => decide (h.2 ≤ most)) := by
  by_cases hfar : most < toBoxV (aroundV ms) q
  · have e := hf hfar
    subst e
    have e2 : ys = [] := List.length_eq_zero_iff.1 (by have := hp.length_eq; simpa using this)
    subst e2
    rw [near_clear hm hfar]
    exact ⟨by simp, rfl⟩
  · have hgn : gs.Nodup := by
      have h := hk.nodup h4
      rw [List.map_map] at h
      exact List.Pairwise.imp (fun {a b} hab e => hab (by rw [e])) (List.pairwise_map.1 h)
    have hP := kept_perm hp hs (hn hfar) hgn
    have hl : (gs.flatMap (·.2.2.2)).length = ds.length := by
      have h := grpG_flat (cellS s) ds
      rw [← hk.grp, List.flatMap_map] at h
      exact h.length_eq
    refine ⟨?_, ?_⟩
    · rw [(hP.flatMap_right _).length_eq]
      have := flat_len (·.2.2.2) (fun x => !goneB s q most x.1) gs
      omega
    · rw [near_cells hk hm hP, hds]

set_option maxRecDepth 100000 in
set_option maxHeartbeats 4000000 in
theorem iNear7 (ao qa : Option Addr) (cap qc : Nat) (s : Int) (ms : List Mk) (q : List Int) (most : Int) (w : World) (hv : MView w ao ms) (hsm : MSmall ms) (hq : View w qa q) (hqn : q.length ≤ 1048576) :
    Calls Tryz.prog 33 #[.agg #[.int .i64 s, .slice ao ms.length cap], .slice qa q.length qc, .int .i64 most] w fun e w' => ∃ v, e = .returned v ∧ HOut w.heap.size w' v (nearV s ms q most) ∧ Below w.heap.size w w' := by
  obtain ⟨W1, hW1⟩ : ∃ W, W = w.alloc (.cells #[.int .i64 s, .slice ao ms.length cap] 46) := ⟨_, rfl⟩
  have T1 : Two W1 w.heap.size (.int .i64 s) (.slice ao ms.length cap) 46 := by rw [hW1]; exact Two.new w _ _ _
  have M1 : Below w.heap.size w W1 := by rw [hW1]; exact alloc_below w _
  have c0 := T1.c0
  have c1 := T1.c1
  by_cases hmo : most < 0
  · have HV : Hid (nearV s ms q most = []) := by show nearV s ms q most = []; unfold nearV withinL; split; rw [if_neg (by intro h; omega)]; rfl
    rw [HV.out]
    have HP := hidP M1
    clear hv hq T1 M1
    subst hW1
    go_enter Tryz.func33, Tryz.ntmps33
    go_wp2_with fail
    go_ret
    exact ⟨_, rfl, Or.inl ⟨rfl, rfl⟩, HP.out⟩
  · have HSD := hidP (iSideOk s W1)
    rcases hsd : gsideB s with _ | _
    · have HV : Hid (nearV s ms q most = []) := by show nearV s ms q most = []; simp [nearV, gridB, hsd]
      rw [hsd] at HSD
      rw [HV.out]
      have HP := hidP M1
      clear hv hq T1 M1
      subst hW1
      go_enter Tryz.func33, Tryz.ntmps33
      go_wp2_with fail
      refine HSD.out.mono ?_
      rintro e w2 ⟨rfl, hw2⟩
      subst hw2
      go_wp2_with fail
      go_ret
      exact ⟨_, rfl, Or.inl ⟨rfl, rfl⟩, HP.out⟩
    · rw [hsd] at HSD
      have HSU := hidP (iSuits ao qa cap qc ms q W1 (hv.next M1) (hq.next M1) hsm hqn)
      rcases hto : toldB ms q with _ | _
      · have HV : Hid (nearV s ms q most = []) := by show nearV s ms q most = []; simp [nearV, withinL, hto]
        rw [hto] at HSU
        rw [HV.out]
        have HP := hidP M1
        clear hv hq T1 M1
        subst hW1
        go_enter Tryz.func33, Tryz.ntmps33
        go_wp2_with fail
        refine HSD.out.mono ?_
        rintro e w2 ⟨rfl, hw2⟩
        subst hw2
        go_wp2_with fail
        refine HSU.out.mono ?_
        rintro e w3 ⟨rfl, L3⟩
        have HQ := hidP (chain HP.out L3)
        clear L3
        go_wp2_with fail
        go_ret
        exact ⟨_, rfl, Or.inl ⟨rfl, rfl⟩, HQ.out⟩
      · rw [hto] at HSU
        have hmk := told_marks hto
        obtain ⟨hs1, hs2⟩ := (gsideB_iff s).1 hsd
        have hqok : okB q = true := by
          have h := hto
          simp only [toldB, Bool.and_eq_true] at h
          exact h.1.2
        have hok := ngmarks hmk
        have hl60 := marksB_len hmk
        obtain ⟨ds, hds, hsv, hsl⟩ := hv.sview
        have hdl : ds.length = ms.length := by rw [← hds, smMarks_length]
        have hdim : (mat ms 0).length ≤ 4 := by
          rcases Nat.eq_zero_or_pos ms.length with h | h
          · have : ms = [] := List.length_eq_zero_iff.1 h
            rw [this]; simp [mat]
          · have h1 := (hok ms[0] (List.getElem_mem h)).1
            have e : mat ms 0 = ms[0].2 := by simp [mat, List.getD, h]
            rw [e]; exact (okB_len h1).2
        have hdok : ∀ d ∈ ds, okB d.2.2.2 = true ∧ d.2.2.2.length = (mat ms 0).length := fun d hd => hok (smMark d) (by rw [← hds]; exact List.mem_map_of_mem hd)
        have hqd : ds ≠ [] → (mat ms 0).length = q.length := fun hne => by
          have h0 : 0 < ms.length := by rw [← hdl]; exact List.length_pos_iff.2 hne
          have := told_two hto h0
          exact (twoB_of this).2.2
        have hW1z : w.heap.size ≤ W1.heap.size := M1.size
        have HOF : Hid (∀ w2, Below W1.heap.size W1 w2 → Calls Tryz.prog 79 #[.agg #[.int .i64 s, .slice ao ms.length cap]] w2 fun e w' => ∃ gs, e = .returned (.map (some (w2.heap.size + 1))) ∧ GMem (w2.heap.size + 2) w' (w2.heap.size + 1) gs ∧ GKeys s (mat ms 0).length gs ds ∧ Below w2.heap.size w2 w') := fun w2 L => by
          have h := iCellsOf ao cap s ds (mat ms 0).length w2 (hsv.next (chain M1 L)) (hsl.below (chain M1 L)) hs1 hs2 (by omega) hdim hdok
          rwa [hdl] at h
        have HLV : Hid (∀ B gs X, Below w.heap.size w X → w.heap.size ≤ B → MapIs X B (gs.map gpV) → GKeys s (mat ms 0).length gs ds → Calls Tryz.prog 92 #[.map (some B), .agg #[.int .i64 s, .slice ao ms.length cap], .slice qa q.length qc, .int .i64 most] X fun e w' => e = .returned (.tuple #[]) ∧ Left0 B gs most (toBoxV (aroundV ms) q) (goneB s q most) X w') := fun B gs X hX hB hm hk => by
          refine iLeave B gs s ao cap ms qa qc q most X hm hk.keysOk (hk.nodup hdim) (hv.next hX) hsm (hq.next hX) hqn (fun a ha => ?_) hs1 hs2 (fun x hx => ?_)
          · rcases hq with h | ⟨b, off, e, hb, _⟩
            · rw [h] at hqok; simp [okB] at hqok
            · rw [e] at ha; injection ha with ha; rw [← ha]; simp only; omega
          · have hkx : x.1 ∈ keysG (cellS s) ds := by rw [← hk.fst]; exact List.mem_map_of_mem hx
            obtain ⟨d, hd, e⟩ := (keysG_mem _ _ _).1 hkx
            have hne : ds ≠ [] := fun h => by rw [h] at hd; cases hd
            have hxl := (hk.key x hx).2
            refine ⟨by rw [hxl, hqd hne], by omega, fun k => ?_⟩
            rw [← e]
            exact cell_bd (hdok d hd).1 hs1 k
        have HNV : Hid (nearV s ms q most = (sortL (hitsL ms q)).filter (fun h => decide (h.2 ≤ most))) := by
          show nearV s ms q most = _
          have hg : gridB s ms = true := by simp [gridB, hsd, hmk]
          rw [nearV, if_pos hg, withinL, if_pos ⟨hto, by omega⟩]
        have HTM := hidP (And.intro T1 M1)
        have HQV := hidP (And.intro hq (And.intro hsl hv))
        have hdl60 : ds.length ≤ 60 := by omega
        have hmo2 : 0 ≤ most := by omega
        have HDS := hidP hds
        have HSMX : Hid (∀ X : List Sm, (∀ d ∈ X, d ∈ ds) → X.length ≤ 60 → MSmall (smMarks X)) := fun X hX hl => by
          refine ⟨by rw [smMarks_length]; omega, fun i => ?_⟩
          rcases Nat.lt_or_ge i X.length with h | h
          · have e : mat (smMarks X) i = X[i].2.2.2 := by simp [mat, smMarks, smMark, List.getD, h]
            have := (hdok X[i] (hX _ (List.getElem_mem h))).2
            rw [e]; omega
          · simp [mat, smMarks, List.getD, h]
        clear hv hq T1 M1 hok hsv hsl hds hdok hqd hqok hto hsd hmk
        subst hW1
        go_enter Tryz.func33, Tryz.ntmps33
        go_wp2_with fail
        refine HSD.out.mono ?_
        rintro e w2 ⟨rfl, hw2⟩
        subst hw2
        go_wp2_with fail
        refine HSU.out.mono ?_
        rintro e w3 ⟨rfl, L3⟩
        have T3 := HTM.out.1.below L3
        have L03 := chain HTM.out.2 L3
        have d0 := T3.c0
        have d1 := T3.c1
        have HOF3 := hidP (HOF.out w3 L3)
        have HT3 := hidP (And.intro T3 L03)
        clear L3 T3 L03 c0 c1 HSU HSD HTM HOF
        go_wp2_with fail
        refine HOF3.out.mono ?_
        rintro e w4 ⟨gs, rfl, hgm, hgk, L4⟩
        have T4 := HT3.out.1.below L4
        have L04 := chain HT3.out.2 L4
        have d0 := T4.c0
        have d1 := T4.c1
        have hz3 := HT3.out.2.size
        have HLV4 := hidP (HLV.out (w3.heap.size + 1) gs w4 L04 (by omega) hgm.map hgk)
        have HG4 := hidP (And.intro hgm (And.intro hgk L04))
        clear hgm hgk L4 T4 L04 HOF3 HT3 HLV
        go_wp2_with fail
        refine HLV4.out.mono ?_
        rintro e w5 ⟨rfl, ⟨es, hes, hs0, hf1, hf2⟩, hg5⟩
        obtain ⟨hgm, hgk, L04⟩ := HG4.out
        have hBl := hgm.map.lt
        have L05 : Below w.heap.size w w5 := L04.grown hg5 L04.size (fun k e => by cases e; omega)
        have hr5 : ∀ x ∈ gs, SRow (w3.heap.size + 2) w5 x.2.1 x.2.2.1 x.2.2.2 := fun x hx => (hgm.rows x hx).kept hg5 (by have := (hgm.rows x hx).lt.1; simp; omega)
        have hgl : gs.length ≤ 60 := by
          have h1 := congrArg List.length hgk.grp
          have h2 := grpG_keys (cellS s) ds
          have h3 := keysG_length (cellS s) ds
          rw [← h2, List.length_map] at h3
          rw [List.length_map] at h1
          omega
        have hsz : es.size ≤ 60 := by
          have h1 := hs0.sub.length_le
          have h2 := mkE_size (gs.map gpV)
          rw [List.length_map] at h2
          simp at h1
          omega
        have hbn : ∀ x ∈ es.toList, x.born < gs.length := fun x hx => by obtain ⟨h, _⟩ := ent_grp (hs0.mem hx); exact h
        have hoc : ∀ x ∈ es.toList, valE x = x.val := fun x hx => ent_valE (hs0.mem hx)
        obtain ⟨W6, hW6⟩ : ∃ W, W = w5.alloc (.cells #[.map (some (w3.heap.size + 1))] 102) := ⟨_, rfl⟩
        have L6 : Below w5.heap.size w5 W6 := by rw [hW6]; exact alloc_below w5 _
        have hB5 : w3.heap.size + 1 < w5.heap.size := (Array.getElem?_eq_some_iff.1 hes).1
        have HCO := hidP (iCollect w5.heap.size (w3.heap.size + 1) gs.length es hbn hs0.born hoc hsz W6 (by rw [hW6]; exact heap_alloc_new w5 _) ((L6.block _ hB5).trans hes))
        have HVA := hidP (iValues (w3.heap.size + 1) w5)
        have HS5 := hidP (And.intro hgk (And.intro hs0 (And.intro hf1 (And.intro hf2 (And.intro hr5 (And.intro L05 L6))))))
        clear hgm hgk L04 hg5 hes hs0 hf1 hf2 hr5 L05 L6 hbn hoc HG4 HLV4 d0 d1 hBl
        go_wp2_with fail
        refine HVA.out.mono ?_
        rintro e w6 ⟨rfl, hw6⟩
        rw [← hW6] at hw6
        subst hw6
        clear hW6
        go_wp2_with fail
        refine HCO.out.mono ?_
        rintro e w7 ⟨v, ys, rfl, hyp, hyr, L7⟩
        obtain ⟨hgk, hs0, hf1, hf2, hr5, L05, L6⟩ := HS5.out
        have hnl := near_left hgk hdim HDS.out hmo2 hdl60 hs0 hyp hf1 (fun h => hf2 (by omega))
        have L07 := chain L05 (chain L6 L7)
        have hyl : ys.length ≤ 60 := by rw [hyp.length_eq]; simpa using hsz
        have hne : ∀ x ∈ gs, x.2.2.2 ≠ [] := fun x hx => by
          have h := grpG_some (cellS s) ds (gpG x) (by rw [← hgk.grp]; exact List.mem_map_of_mem hx)
          exact h
        have HJ := hidP (iJoin gs ys v (w3.heap.size + 2) _ ds w w7 hyr (fun y hy => hs0.mem (hyp.mem_iff.1 hy)) (fun x hx => (hr5 x hx).below (Nat.le_refl _) (chain L6 L7)) hne hyl hnl.1 HQV.out.2.1 (fun x hx d hd => by rw [hgk.group x hx] at hd; exact (List.mem_filter.1 hd).1) L07)
        have hXs := HSMX.out _ (fun d hd => by
          obtain ⟨x, hx, hdx⟩ := List.mem_flatMap.1 hd
          obtain ⟨y, hyy, rfl⟩ := List.mem_map.1 hx
          obtain ⟨hb, e1, _⟩ := ent_grp (hs0.mem (hyp.mem_iff.1 hyy))
          rw [e1, hgk.group _ (List.getElem_mem hb)] at hdx
          exact (List.mem_filter.1 hdx).1) hnl.1
        have HNL := hidP hnl.2
        have h60 := hnl.1
        have HL7 := hidP L07
        clear hnl hyr hgk hs0 hf1 hf2 hr5 L05 L6 L7 L07 hne HS5 HCO hyp
        generalize (ys.map (grpE gs)).flatMap (·.2.2.2) = X at *
        go_wp2_with fail
        refine HJ.out.mono ?_
        rintro e w8 ⟨a8, c8, rfl, hv8, L8⟩
        have L08 := chain HL7.out L8
        have HH := hidP (iHitsOf a8 qa c8 qc (smMarks X) q w8 hv8 (HQV.out.1.next L08) hXs hqn)
        have HL8 := hidP L08
        clear hv8 L8 L08 HJ
        go_wp2_with fail
        refine HH.out.mono ?_
        rintro e w9 ⟨p, g, l', rfl, hp, hA, L9, hpm, hh⟩
        have hl' : l'.length = (smMarks X).length := by rw [hpm.length_eq, hitsL_length]
        have HF := hidP (iUpTo w8.heap.size p g (smMarks X).length most l' w9 hA (by rw [hl']; exact hXs.1) hh)
        rw [sortL_congr hpm, HNL.out, ← HNV.out] at HF
        have hz := HL8.out.size
        have HX := hidP (And.intro (chain HL8.out L9) (And.intro hp hA.2.2.lt.1))
        clear hpm hh hA L9 hl' hp HH
        obtain ⟨R, hR⟩ : ∃ R, R = nearV s ms q most := ⟨_, rfl⟩
        rw [← hR] at HF
        have HRR := hidP hR
        clear hR
        go_wp2_with fail
        refine HF.out.mono ?_
        rintro e w10 ⟨t, ct, rfl, hr4, hc4⟩
        have HE := hidP (And.intro hr4 hc4)
        clear hr4 hc4
        go_wp2_with fail
        go_ret
        obtain ⟨h1, h2, h3⟩ := HX.out
        refine ⟨_, rfl, ?_, below_chg h1 HE.out.2 h1.size (by omega) (by omega)⟩
        rw [← HRR.out]
        exact Or.inr ⟨t, ct, rfl, HE.out.1.mono h1.size⟩

end Go.Proofs.YtodielfilhodeaaGreat
namespace Go.Proofs.YtodielfilhodeaaGreat
open Go Go.RowKit

theorem nearV_len (s : Int) (ms : List Mk) (q : List Int) (most : Int) : (nearV s ms q most).length ≤ ms.length := by
  unfold nearV withinL
  split
  · split
    · refine Nat.le_trans (List.length_filter_le _ _) ?_
      rw [sortL_length, hitsL_length]
      exact Nat.le_refl _
    · simp
  · simp

set_option maxRecDepth 100000 in
set_option maxHeartbeats 1000000 in
theorem sNear7 (ao qa : Option Addr) (cap qc : Nat) (s : Int) (ms : List Mk) (q : List Int) (most : Int) (w : World) (hv : MView w ao ms) (hsm : MSmall ms) (hq : View w qa q) (hqn : q.length ≤ 1048576) :
    Calls Tryz.prog 34 #[.agg #[.int .i64 s, .slice ao ms.length cap], .slice qa q.length qc, .int .i64 most] w fun e w' => ∃ g c, e = .returned (.slice (some ⟨g, 0, none⟩) (nearV s ms q most).length c) ∧ HRow w.heap.size w' g c (nearV s ms q most) ∧ Below w.heap.size w w' := by
  obtain ⟨W1, hW1⟩ : ∃ W, W = w.alloc (.cells #[.int .i64 s, .slice ao ms.length cap] 46) := ⟨_, rfl⟩
  have T1 : Two W1 w.heap.size (.int .i64 s) (.slice ao ms.length cap) 46 := by rw [hW1]; exact Two.new w _ _ _
  have M1 : Below w.heap.size w W1 := by rw [hW1]; exact alloc_below w _
  have c0 := T1.c0
  have c1 := T1.c1
  have HG := hidP (sGrid ao cap s ms W1 (hv.next M1) hsm)
  have HTM := hidP (And.intro T1 M1)
  rcases hgd : gridB s ms with _ | _
  · have HV : Hid (nearV s ms q most = []) := by show nearV s ms q most = []; simp [nearV, hgd]
    rw [hgd] at HG
    rw [HV.out]
    clear hv hq T1 M1
    subst hW1
    go_enter Tryz.func34, Tryz.ntmps34
    go_wp2_with fail
    refine HG.out.mono ?_
    rintro e w3 ⟨rfl, L3⟩
    have HQ := hidP (chain HTM.out.2 L3)
    clear L3
    go_wp2_with fail
    go_ret
    exact ⟨_, 0, rfl, HRow.start w3 _ HQ.out.size, HQ.out.alloc HQ.out.size _⟩
  · have HV : Hid (nearV s ms q most = withinL ms q most) := by show nearV s ms q most = _; simp [nearV, hgd]
    rw [hgd] at HG
    rw [HV.out]
    have HW := hidP (fun w3 (L : Below w.heap.size w w3) => sWithin ao qa cap qc ms q most w3 (hv.next L) (hq.next L) hsm hqn)
    generalize withinL ms q most = R at *
    clear hv hq T1 M1
    subst hW1
    go_enter Tryz.func34, Tryz.ntmps34
    go_wp2_with fail
    refine HG.out.mono ?_
    rintro e w3 ⟨rfl, L3⟩
    have T3 := HTM.out.1.below L3
    have d1 := T3.c1
    have HQ := hidP (chain HTM.out.2 L3)
    have HW3 := hidP (HW.out w3 HQ.out)
    clear L3 T3
    go_wp2_with fail
    refine HW3.out.mono ?_
    rintro e w4 ⟨g, c, rfl, hr, L4⟩
    have HE := hidP (And.intro (hr.mono HQ.out.size) (chain HQ.out L4))
    clear hr L4
    go_wp2_with fail
    go_ret
    exact ⟨g, c, rfl, HE.out.1, HE.out.2⟩

end Go.Proofs.YtodielfilhodeaaGreat
