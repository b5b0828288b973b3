/-
  A region that draws its order, by what holds between its operations, whatever order it is (no program is named here).
-/
import Derived.Test.YthcjkneifkmkdaaLast
namespace Go.Proofs.Ythcjkneifkmkdaa
open Go

theorem wpOp_one {P : Program} {ops : Array Oper} {Q : Exit → Act → World → Prop} {i : Nat} {K : Act → World → Prop} {a : Act} {w : World} (o : Oper) (ho : ops[i]? = some o) (hg : o.guard = none) (h : Oper.wp P o a w K Q) : wpOp P ops Q i K a w := by
  unfold wpOp
  rw [ho]
  have hw : ∀ y, Region.wanted o y = true := fun y => by simp [Region.wanted, hg]
  simp only [hw, if_true]
  exact Or.inl h

/-- The operations that have come up, as a function. -/
def doneF (listed : Array Bool) (j : Nat) : Bool := listed.getD j false
theorem doneF_set (listed : Array Bool) (i : Nat) (h : i < listed.size) : doneF (listed.setIfInBounds i true) = fun j => doneF listed j || j == i := by
  funext j
  unfold doneF
  by_cases e : i = j
  · subst e
    simp [h]
  · have e' : (j == i) = false := by simp; omega
    simp [e, e']

theorem wpAny_inv {P : Program} {md : Region.Mode} {ops : Array Oper} {Q : Exit → Act → World → Prop} (I : (Nat → Bool) → Act → World → Prop)
    (hb : ∀ (j : Nat) (x : Oper), ops[j]? = some x → ∀ e ∈ x.after, e.on < j)
    (hstep : ∀ f a w i o, I f a w → ops[i]? = some o → f i = false → (∀ e ∈ o.after, Region.binds md e = true → f e.on = true) → wpOp P ops Q i (I (fun j => f j || j == i)) a w)
    (hend : ∀ f a w, I f a w → (∀ j, j < ops.size → f j = true) → Q .normal a w) :
    ∀ (fuel : Nat) (listed : Array Bool) (a : Act) (w : World), listed.size = ops.size → listed.toList.count false ≤ fuel → I (doneF listed) a w → wpAny P md ops Q fuel listed a w := by
  have hall : ∀ (listed : Array Bool) (a : Act) (w : World), listed.size = ops.size → Region.ready md ops listed = [] → I (doneF listed) a w → Q .normal a w := fun listed a w hs hr hI => by
    refine hend _ a w hI (fun j hj => ?_)
    have h1 := all_listed hs hb hr j hj
    unfold doneF
    have hz : j < listed.size := by omega
    simp [hz] at h1 ⊢
    exact h1
  intro fuel
  induction fuel with
  | zero =>
    intro listed a w hs hc hI
    have hr : Region.ready md ops listed = [] := List.eq_nil_iff_forall_not_mem.2 fun j hj => by
      have h0 := mem_ready.1 hj
      obtain ⟨x, hx, _⟩ := h0.2
      have hlt := (Array.getElem?_eq_some_iff.1 hx).1
      have hz : j < listed.size := by omega
      have h1 := h0.1
      simp [hz] at h1
      have h2 : false ∈ listed.toList := by rw [← h1]; simp
      have := List.count_pos_iff.2 h2
      omega
    exact ⟨hr, hall listed a w hs hr hI⟩
  | succ fuel ih =>
    intro listed a w hs hc hI
    refine ⟨fun hr => hall listed a w hs hr hI, fun i hi => ?_⟩
    have h0 := mem_ready.1 hi
    obtain ⟨o, ho, hdep⟩ := h0.2
    have hlt := (Array.getElem?_eq_some_iff.1 ho).1
    have hz : i < listed.size := by omega
    have hfi : doneF listed i = false := by
      have h1 := h0.1
      unfold doneF
      simp [hz] at h1 ⊢
      exact h1
    refine wpOp_mono (fun a' w' h' => ?_) (hstep (doneF listed) a w i o hI ho hfi (fun e he hbd => hdep e he hbd))
    refine ih _ a' w' (by simp [hs]) ?_ (by rw [doneF_set listed i hz]; exact h')
    have h1 := h0.1
    simp [hz] at h1
    have e : (listed.setIfInBounds i true).toList = listed.toList.set i true := by simp
    rw [e]
    have hi' : i < listed.toList.length := by simpa using hz
    have h2 := List.count_set (a := true) (b := false) (l := listed.toList) (i := i) hi'
    rw [h2]
    have h3 : (listed.toList[i] == false) = true := by simp [h1]
    have h4 : 0 < listed.toList.count false := List.count_pos_iff.2 (by rw [← h1]; simp)
    simp [h1]
    have h5 : Array.count false listed = listed.toList.count false := by simp
    omega

/-- A drawn region by its invariant. -/
theorem region_inv {P : Program} {Q : Exit → Act → World → Prop} {ops : Array Oper} {id : Nat} {a : Act} {w : World} (I : (Nat → Bool) → Act → World → Prop) (hm : P.follows .mixedOrders = true)
    (hb : ((List.range ops.size).all fun j => (ops[j]?).all fun x => x.after.all fun e => decide (e.on < j)) = true)
    (hstep : ∀ f a w i o, I f a w → ops[i]? = some o → f i = false → (∀ e ∈ o.after, Region.binds .any e = true → f e.on = true) → wpOp P ops (NoPanic Q) i (I (fun j => f j || j == i)) a w)
    (hend : ∀ f a w, I f a w → (∀ j, j < ops.size → f j = true) → Q .normal a w)
    (h0 : I (fun _ => false) a w.drew) : (Code.region id ops true).wp P Q a w := by
  refine wp_region_noPanic ?_
  refine wp_region_any hm ?_
  refine wpAny_inv I ?_ hstep (fun f a w h1 h2 => NoPanic.normal (hend f a w h1 h2)) ops.size _ a _ (by simp) (by simp) ?_
  · intro j x hx e he
    have hlt := (Array.getElem?_eq_some_iff.1 hx).1
    have h1 := List.all_eq_true.1 hb j (List.mem_range.2 hlt)
    rw [hx] at h1
    simp only [Option.all_some, Array.all_eq_true_iff_forall_mem] at h1
    simpa using h1 e he
  · have e : doneF (Array.replicate ops.size false) = fun _ => false := by
      funext j
      unfold doneF
      by_cases hj : j < ops.size
      · simp [hj]
      · simp [hj]
    rw [e]
    exact h0

end Go.Proofs.Ythcjkneifkmkdaa
