/-
  Plain mathematics for Near: what is let go is too far.
-/
import Derived.Test.YtodielfilhodeaaNFnZz
import Derived.Test.YtodielfilhodeaaGOfZz
import Derived.Test.YtodielfilhodeaaBLaw2Zz
namespace Go.Proofs.Ytodielfilhodeaa

theorem box_far {s most : Int} {q d c : List Int} (hs : 1 ≤ s) (hd : okB d = true) (hc : cellV d s = c) (hg : goneB s q most c = true) (hm : 0 ≤ most) : most < farV d q := by
  unfold goneB at hg
  have hg2 : most < toBoxV (boxLow c s, boxHigh c s) q := by simpa using hg
  have ht := side_told (b := (boxLow c s, boxHigh c s)) (p := q) (by omega)
  have hl : c.length = d.length := by rw [← hc, cellV_length]
  have hA : Amid (boxLow c s, boxHigh c s) d := by
    refine ⟨by show d.length = (boxLow c s).length; rw [boxLow, tabL_length, hl], fun i hi => ?_⟩
    have e1 : nth (boxLow c s) i = blowF c s i := tabL_getD _ _ _ (by omega)
    have e2 : nth (boxHigh c s) i = bhighF c s i := tabL_getD _ _ _ (by omega)
    have e3 : nth c i = nth d i / s := by rw [← hc, nth_cellV, if_pos hi]
    have hb := okB_at hd i
    have h1 := Int.ediv_mul_le (nth d i) (show s ≠ 0 by omega)
    have h2 := Int.lt_ediv_add_one_mul_self (nth d i) (show 0 < s by omega)
    rw [Int.add_mul, Int.one_mul] at h2
    show nth (boxLow c s) i ≤ nth d i ∧ nth d i ≤ nth (boxHigh c s) i
    rw [e1, e2]
    unfold blowF bhighF
    rw [e3]
    generalize nth d i / s * s = z at *
    constructor
    · split <;> omega
    · split <;> omega
  have := (hA.far ht).2.1
  omega
theorem around_far {ms : List Mk} {q : List Int} {most : Int} (hm : 0 ≤ most) (hg : most < toBoxV (aroundV ms) q) {i : Nat} (hi : i < ms.length) : most < farV (mat ms i) q := by
  have ht := side_told (b := aroundV ms) (p := q) (by omega)
  have hb := (toldX_of ht).1
  have hin := around_all hb hi
  have hx : toldX (aroundV ms) (mat ms i) = true := by
    unfold insideB at hin
    revert hin
    cases toldX (aroundV ms) (mat ms i) <;> simp
  have hA : Amid (aroundV ms) (mat ms i) := ⟨((twoB_of (toldX_of hx).2).2.2).symm, (inside_at hx).1 hin⟩
  have := (hA.far ht).2.1
  omega
theorem filt_sort (l : List Ht) (p : Ht → Bool) : (sortL l).filter p = sortL (l.filter p) :=
  sortL_unique ((sortL_sorted l).filter p) ((sortL_perm l).filter p)
theorem near_clear {ms : List Mk} {q : List Int} {most : Int} (hm : 0 ≤ most) (hg : most < toBoxV (aroundV ms) q) : (sortL (hitsL ms q)).filter (fun h => decide (h.2 ≤ most)) = [] := by
  rw [filt_sort]
  have e : (hitsL ms q).filter (fun h => decide (h.2 ≤ most)) = [] := by
    rw [List.filter_eq_nil_iff]
    intro h hh
    obtain ⟨m, hmm, rfl⟩ := List.mem_map.1 hh
    obtain ⟨i, hi, rfl⟩ := List.getElem_of_mem hmm
    have := around_far hm hg hi
    have e : mat ms i = ms[i].2 := by simp [mat, List.getD, hi]
    rw [e] at this
    intro hc
    have hc2 : farV ms[i].2 q ≤ most := of_decide_eq_true hc
    omega
  rw [e]; rfl

theorem addG_flat {α : Type} (key : List Int) (d : α) : ∀ gs : List (Grp α), ((addG key d gs).flatMap (·.2)).Perm (gs.flatMap (·.2) ++ [d])
  | [] => by simp [addG]
  | x :: r => by
    unfold addG
    split
    · simp only [List.flatMap_cons, List.append_assoc]
      exact List.Perm.append_left _ List.perm_append_comm
    · simp only [List.flatMap_cons, List.append_assoc]
      exact List.Perm.append_left _ (addG_flat key d r)
theorem grpG_flat {α : Type} (f : α → List Int) (ds : List α) : ((grpG f ds).flatMap (·.2)).Perm ds := by
  refine snocInd (P := fun ds => ((grpG f ds).flatMap (·.2)).Perm ds) (List.Perm.refl _) (fun l x ih => ?_) ds
  rw [grpG_snoc]
  exact (addG_flat _ _ _).trans (ih.append_right _)
theorem flat_filter {α : Type} (m : Gp → List α) (P : α → Bool) (ng : Gp → Bool) : ∀ gs : List Gp, (∀ x ∈ gs, ng x = false → (m x).filter P = []) → (gs.flatMap m).filter P = ((gs.filter ng).flatMap m).filter P
  | [], _ => rfl
  | x :: r, h => by
    have ih := flat_filter m P ng r (fun y hy => h y (List.mem_cons_of_mem _ hy))
    rcases hx : ng x with _ | _
    · rw [List.filter_cons_of_neg (by simp [hx]), List.flatMap_cons, List.filter_append, h x (List.mem_cons_self ..) hx, List.nil_append, ih]
    · rw [List.filter_cons_of_pos hx, List.flatMap_cons, List.flatMap_cons, List.filter_append, List.filter_append, ih]
theorem near_cells {s : Int} {dim : Nat} {gs : List Gp} {ds : List Sm} {q : List Int} {most : Int} (hk : GKeys s dim gs ds) (hm : 0 ≤ most) {K : List Gp} (hK : K.Perm (gs.filter fun x => !goneB s q most x.1)) :
    (sortL (hitsL (smMarks (K.flatMap (·.2.2.2))) q)).filter (fun h => decide (h.2 ≤ most)) = (sortL (hitsL (smMarks ds) q)).filter (fun h => decide (h.2 ≤ most)) := by
  rw [filt_sort, filt_sort]
  refine sortL_congr ?_
  have e : ∀ X : List Sm, (hitsL (smMarks X) q).filter (fun h => decide (h.2 ≤ most)) = (X.filter fun d => decide (farV d.2.2.2 q ≤ most)).map (fun d => hitF q (smMark d)) := fun X => by
    unfold hitsL smMarks
    rw [List.map_map, List.filter_map]
    rfl
  rw [e, e]
  refine List.Perm.map _ ?_
  have hf : (gs.flatMap (·.2.2.2)).Perm ds := by
    have h := grpG_flat (cellS s) ds
    rw [← hk.grp, List.flatMap_map] at h
    exact h
  have h1 := (hf.filter fun d => decide (farV d.2.2.2 q ≤ most))
  rw [flat_filter (·.2.2.2) (fun d => decide (farV d.2.2.2 q ≤ most)) (fun x => !goneB s q most x.1) gs (fun x hx hng => ?_)] at h1
  · exact ((hK.flatMap_right _).filter _).trans h1
  · have hgn : goneB s q most x.1 = true := by simpa using hng
    rw [hk.group x hx, List.filter_eq_nil_iff]
    intro d hd
    have hd2 := List.mem_filter.1 hd
    have := box_far (q := q) (most := most) hk.side (hk.ok d hd2.1).1 (of_decide_eq_true hd2.2 : cellV d.2.2.2 s = x.1) hgn hm
    intro hc
    have hc2 : farV d.2.2.2 q ≤ most := of_decide_eq_true hc
    omega

end Go.Proofs.Ytodielfilhodeaa
