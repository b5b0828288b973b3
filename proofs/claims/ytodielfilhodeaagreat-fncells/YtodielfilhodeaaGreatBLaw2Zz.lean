/-
  Plain mathematics for the laws of chapter 4 (no program is named here): a point inside a box, and the box around marks.
  Plain mathematics for Near: what is let go is too far.
-/
import Derived.Test.YtodielfilhodeaaGreatBI5Zz
import Derived.Test.YtodielfilhodeaaGreatBI4Zz
import Derived.Test.YtodielfilhodeaaGreatNFnZz
import Derived.Test.YtodielfilhodeaaGreatGOfZz
namespace Go.Proofs.YtodielfilhodeaaGreat

theorem sq_mono {x y : Int} (h0 : 0 ≤ x) (h : x ≤ y) : x * x ≤ y * y := Int.mul_le_mul h h h0 (Int.le_trans h0 h)
theorem sq_abs (x : Int) : x * x = absV x * absV x := by
  unfold absV
  by_cases h : 0 ≤ x
  · rw [Int.max_eq_left (by omega)]
  · rw [Int.max_eq_right (by omega), Int.neg_mul_neg]
/-- A point between a box's two ends, number by number. -/
def Amid (b : Bx) (x : List Int) : Prop := x.length = b.1.length ∧ ∀ i, i < x.length → nth b.1 i ≤ nth x i ∧ nth x i ≤ nth b.2 i
theorem Amid.ok {b : Bx} {x : List Int} (hb : boxB b = true) (h : Amid b x) : okB x = true := by
  obtain ⟨o1, o2, l⟩ := twoB_of (boxB_two hb)
  have h4 := okB_len o1
  refine okB_mk (by rw [h.1]; exact h4.1) (by rw [h.1]; exact h4.2) fun i hi => ?_
  have := h.2 i hi
  have := okB_at o1 i
  have := okB_at o2 i
  omega
theorem Amid.told {b : Bx} {x : List Int} (hb : boxB b = true) (h : Amid b x) : toldX b x = true := by
  have : twoB b.1 x = true := twoB_true (twoB_of (boxB_two hb)).1 (h.ok hb) h.1.symm
  simp [toldX, hb, this]
theorem Amid.inside {b : Bx} {x : List Int} (hb : boxB b = true) (h : Amid b x) : insideB b x = true := (inside_at (h.told hb)).2 h.2
theorem Amid.two {b : Bx} {x p : List Int} (ht : toldX b p = true) (h : Amid b x) : twoB x p = true := by
  obtain ⟨hb, h2⟩ := toldX_of ht
  obtain ⟨_, op, lp⟩ := twoB_of h2
  exact twoB_true (h.ok hb) op (by rw [h.1, lp])
/-- No point inside a box is nearer than its side, and none is farther than its corner. -/
theorem Amid.far {b : Bx} {x p : List Int} (ht : toldX b p = true) (h : Amid b x) : 0 ≤ toBoxV b p ∧ toBoxV b p ≤ farV x p ∧ farV x p ≤ cornerV b p := by
  obtain ⟨hb, h2⟩ := toldX_of ht
  obtain ⟨_, op, lp⟩ := twoB_of h2
  have hl : x.length = p.length := by rw [h.1, lp]
  have e1 : toBoxV b p = sumTo (outQ b p) p.length := by simp [toBoxV, ht]
  have e2 : cornerV b p = sumTo (endQ b p) p.length := by simp [cornerV, ht]
  have e3 : farV x p = sumTo (sqF x p) p.length := by simp [farV, h.two ht, hl]
  have e0 : sumTo (fun _ => 0) p.length = 0 := by
    generalize p.length = n
    induction n with
    | zero => rfl
    | succ n ih => simp only [sumTo, ih]; rfl
  rw [e1, e2, e3]
  refine ⟨?_, sumTo_mono _ _ _ fun i hi => ?_, sumTo_mono _ _ _ fun i hi => ?_⟩
  · rw [← e0]
    exact sumTo_mono _ _ _ fun i _ => (outQ_bd ht i).1
  · unfold outQ sqF
    rw [sq_abs (nth x i - nth p i)]
    refine sq_mono (outF_bd ht i).1 ?_
    have := h.2 i (by omega)
    unfold outF absV maxV
    omega
  · unfold endQ sqF
    rw [sq_abs (nth x i - nth p i)]
    have := h.2 i (by omega)
    refine sq_mono (by unfold absV; omega) ?_
    unfold endF absV maxV
    omega
/-- The low end itself is such a point: there is one in every box. -/
theorem Amid.low {b : Bx} (hb : boxB b = true) : Amid b b.1 := ⟨rfl, fun _ hi => ⟨Int.le_refl _, boxB_at hb hi⟩⟩
theorem side_corner {b : Bx} {p : List Int} (ht : toldX b p = true) : 0 ≤ toBoxV b p ∧ toBoxV b p ≤ cornerV b p := by
  have := (Amid.low (toldX_of ht).1).far ht
  omega
theorem side_none {b : Bx} {p : List Int} (ht : toldX b p = false) : toBoxV b p = -1 ∧ cornerV b p = -1 ∧ insideB b p = false := by
  simp [toBoxV, cornerV, insideB, ht]
theorem side_told {b : Bx} {p : List Int} (h : 0 ≤ toBoxV b p) : toldX b p = true := by
  rcases ht : toldX b p with _ | _
  · have := (side_none ht).1; omega
  · rfl
theorem side_inside {b : Bx} {p : List Int} (ht : toldX b p = true) : insideB b p = decide (toBoxV b p = 0) := by simp [insideB, ht]

theorem lowTo_le (ms : List Mk) (k : Nat) : ∀ j i, i ≤ j → lowTo ms k j ≤ nth (mat ms i) k
  | 0, i, h => by
    obtain rfl : i = 0 := by omega
    exact Int.le_refl _
  | j + 1, i, h => by
    rw [lowTo]
    by_cases e : i = j + 1
    · subst e; omega
    · have := lowTo_le ms k j i (by omega); omega
theorem highTo_ge (ms : List Mk) (k : Nat) : ∀ j i, i ≤ j → nth (mat ms i) k ≤ highTo ms k j
  | 0, i, h => by
    obtain rfl : i = 0 := by omega
    exact Int.le_refl _
  | j + 1, i, h => by
    rw [highTo]
    unfold maxV
    by_cases e : i = j + 1
    · subst e; omega
    · have := highTo_ge ms k j i (by omega); omega
/-- The box around all has all. -/
theorem around_all {ms : List Mk} (hk : boxB (aroundV ms) = true) {i : Nat} (hi : i < ms.length) : insideB (aroundV ms) (mat ms i) = true := by
  rcases hm : marksB ms with _ | _
  · rw [around_none (Or.inr hm)] at hk
    simp [boxB, twoB, okB] at hk
  · have a := (mOkAt_iff ms i).1 (marksB_at hm hi)
    have e := around_some (ms := ms) (by omega) hm
    refine Amid.inside hk ⟨?_, fun k hk' => ?_⟩
    · rw [e]; simp only [lowL, tabL_length]; exact a.2.2.2.1
    · rw [a.2.2.2.1] at hk'
      rw [e]
      simp only [lowL, highL]
      rw [tabL_getD _ _ _ hk', tabL_getD _ _ _ hk']
      exact ⟨lowTo_le ms k _ i (by omega), highTo_ge ms k _ i (by omega)⟩

end Go.Proofs.YtodielfilhodeaaGreat
namespace Go.Proofs.YtodielfilhodeaaGreat

theorem box_far {s most : Int} {q d c : List Int} (hs : 1 ≤ s) (hd : okB d = true) (hc : cellV d s = c) (hg : goneB s q most c = true) (hm : 0 ≤ most) : most < farV d q := by
  unfold goneB at hg
  have hg2 : most < toBoxV (boxLow c s, boxHigh c s) q := by simpa using hg
  have ht := side_told (b := (boxLow c s, boxHigh c s)) (p := q) (by omega)
  have hl : c.length = d.length := by rw [← hc, cellV_length]
  have hA : Amid (boxLow c s, boxHigh c s) d := by
    refine ⟨by show d.length = (boxLow c s).length; rw [boxLow, tabL_length, hl], fun i hi => ?_⟩
    have e1 : nth (boxLow c s) i = blowF c s i := tabL_getD _ _ _ (by omega)
    have e2 : nth (boxHigh c s) i = bhighF c s i := tabL_getD _ _ _ (by omega)
    have e3 : nth c i = nth d i / s := by rw [← hc, nth_cellV, if_pos hi]
    have hb := okB_at hd i
    have h1 := Int.ediv_mul_le (nth d i) (show s ≠ 0 by omega)
    have h2 := Int.lt_ediv_add_one_mul_self (nth d i) (show 0 < s by omega)
    rw [Int.add_mul, Int.one_mul] at h2
    show nth (boxLow c s) i ≤ nth d i ∧ nth d i ≤ nth (boxHigh c s) i
    rw [e1, e2]
    unfold blowF bhighF
    rw [e3]
    generalize nth d i / s * s = z at *
    constructor
    · split <;> omega
    · split <;> omega
  have := (hA.far ht).2.1
  omega
theorem around_far {ms : List Mk} {q : List Int} {most : Int} (hm : 0 ≤ most) (hg : most < toBoxV (aroundV ms) q) {i : Nat} (hi : i < ms.length) : most < farV (mat ms i) q := by
  have ht := side_told (b := aroundV ms) (p := q) (by omega)
  have hb := (toldX_of ht).1
  have hin := around_all hb hi
  have hx : toldX (aroundV ms) (mat ms i) = true := by
    unfold insideB at hin
    revert hin
    cases toldX (aroundV ms) (mat ms i) <;> simp
  have hA : Amid (aroundV ms) (mat ms i) := ⟨((twoB_of (toldX_of hx).2).2.2).symm, (inside_at hx).1 hin⟩
  have := (hA.far ht).2.1
  omega
theorem filt_sort (l : List Ht) (p : Ht → Bool) : (sortL l).filter p = sortL (l.filter p) :=
  sortL_unique ((sortL_sorted l).filter p) ((sortL_perm l).filter p)
theorem near_clear {ms : List Mk} {q : List Int} {most : Int} (hm : 0 ≤ most) (hg : most < toBoxV (aroundV ms) q) : (sortL (hitsL ms q)).filter (fun h => decide (h.2 ≤ most)) = [] := by
  rw [filt_sort]
  have e : (hitsL ms q).filter (fun h => decide (h.2 ≤ most)) = [] := by
    rw [List.filter_eq_nil_iff]
    intro h hh
    obtain ⟨m, hmm, rfl⟩ := List.mem_map.1 hh
    obtain ⟨i, hi, rfl⟩ := List.getElem_of_mem hmm
    have := around_far hm hg hi
    have e : mat ms i = ms[i].2 := by simp [mat, List.getD, hi]
    rw [e] at this
    intro hc
    have hc2 : farV ms[i].2 q ≤ most := of_decide_eq_true hc
    omega
  rw [e]; rfl

theorem addG_flat {α : Type} (key : List Int) (d : α) : ∀ gs : List (Grp α), ((addG key d gs).flatMap (·.2)).Perm (gs.flatMap (·.2) ++ [d])
  | [] => by simp [addG]
  | x :: r => by
    unfold addG
    split
    · simp only [List.flatMap_cons, List.append_assoc]
      exact List.Perm.append_left _ List.perm_append_comm
    · simp only [List.flatMap_cons, List.append_assoc]
      exact List.Perm.append_left _ (addG_flat key d r)
theorem grpG_flat {α : Type} (f : α → List Int) (ds : List α) : ((grpG f ds).flatMap (·.2)).Perm ds := by
  refine snocInd (P := fun ds => ((grpG f ds).flatMap (·.2)).Perm ds) (List.Perm.refl _) (fun l x ih => ?_) ds
  rw [grpG_snoc]
  exact (addG_flat _ _ _).trans (ih.append_right _)
theorem flat_filter {α : Type} (m : Gp → List α) (P : α → Bool) (ng : Gp → Bool) : ∀ gs : List Gp, (∀ x ∈ gs, ng x = false → (m x).filter P = []) → (gs.flatMap m).filter P = ((gs.filter ng).flatMap m).filter P
  | [], _ => rfl
  | x :: r, h => by
    have ih := flat_filter m P ng r (fun y hy => h y (List.mem_cons_of_mem _ hy))
    rcases hx : ng x with _ | _
    · rw [List.filter_cons_of_neg (by simp [hx]), List.flatMap_cons, List.filter_append, h x (List.mem_cons_self ..) hx, List.nil_append, ih]
    · rw [List.filter_cons_of_pos hx, List.flatMap_cons, List.flatMap_cons, List.filter_append, List.filter_append, ih]
theorem near_cells {s : Int} {dim : Nat} {gs : List Gp} {ds : List Sm} {q : List Int} {most : Int} (hk : GKeys s dim gs ds) (hm : 0 ≤ most) {K : List Gp} (hK : K.Perm (gs.filter fun x => !goneB s q most x.1)) :
    (sortL (hitsL (smMarks (K.flatMap (·.2.2.2))) q)).filter (fun h => decide (h.2 ≤ most)) = (sortL (hitsL (smMarks ds) q)).filter (fun h => decide (h.2 ≤ most)) := by
  rw [filt_sort, filt_sort]
  refine sortL_congr ?_
  have e : ∀ X : List Sm, (hitsL (smMarks X) q).filter (fun h => decide (h.2 ≤ most)) = (X.filter fun d => decide (farV d.2.2.2 q ≤ most)).map (fun d => hitF q (smMark d)) := fun X => by
    unfold hitsL smMarks
    rw [List.map_map, List.filter_map]
    rfl
  rw [e, e]
  refine List.Perm.map _ ?_
  have hf : (gs.flatMap (·.2.2.2)).Perm ds := by
    have h := grpG_flat (cellS s) ds
    rw [← hk.grp, List.flatMap_map] at h
    exact h
  have h1 := (hf.filter fun d => decide (farV d.2.2.2 q ≤ most))
  rw [flat_filter (·.2.2.2) (fun d => decide (farV d.2.2.2 q ≤ most)) (fun x => !goneB s q most x.1) gs (fun x hx hng => ?_)] at h1
  · exact ((hK.flatMap_right _).filter _).trans h1
  · have hgn : goneB s q most x.1 = true := by simpa using hng
    rw [hk.group x hx, List.filter_eq_nil_iff]
    intro d hd
    have hd2 := List.mem_filter.1 hd
    have := box_far (q := q) (most := most) hk.side (hk.ok d hd2.1).1 (of_decide_eq_true hd2.2 : cellV d.2.2.2 s = x.1) hgn hm
    intro hc
    have hc2 : farV d.2.2.2 q ≤ most := of_decide_eq_true hc
    omega

end Go.Proofs.YtodielfilhodeaaGreat
