/-
  A region that draws its order, in a round of a loop over an iterator (no program is named here).
-/
import Derived.Test.YtaaagmgglolibaaLastZz
import Derived.RangeFuncCalls
import Derived.OrdersIn
import Derived.TacticsIn
namespace Go.Proofs.Ytaaagmgglolibaa
open Go

/-- The beginning: the last operation left to the end, 'calm' taken first. -/
theorem any_calm {P : Program} {Q : Exit → Act → World → Prop} {ops : Array Oper} {fuel : Nat} {S : World → Prop} {a : Act} {w : World} (calm : List Nat) (o : Oper) (ho : ops[ops.size - 1]? = some o) (hf : ops.pop.size = fuel + calm.length)
    (hb : ((List.range ops.size).all fun j => (ops[j]?).all fun x => x.after.all fun e => decide (e.on < j)) = true) (hg : (ops.pop.all fun x => x.guard.isNone) = true)
    (hw : ((List.range ops.pop.size).all fun j => o.after.any fun e => Region.binds .any e && e.on == j) = true) (hs : Region.noSelect ops.pop = true)
    (hc : calmOk .any ops.pop (Array.replicate ops.pop.size false) calm = true) (hS : S w.drew)
    (h : S w.drew → wpCalm P ops.pop S (fun a' => wpAnyH P .any ops.pop (Exit.then (wpList P ops (NoPanic Q) [o]) (NoPanic Q)) S fuel (come (Array.replicate ops.pop.size false) calm) a' w.drew) calm a) : wpAny P .any ops (NoPanic Q) ops.size (Array.replicate ops.size false) a w.drew := by
  have hne : 0 < ops.size := by
    rcases Nat.eq_zero_or_pos ops.size with h0 | h0
    · rw [Array.getElem?_eq_none (by omega)] at ho; cases ho
    · exact h0
  have hops : ops = ops.pop.push o := by
    apply Array.ext_getElem?
    intro k
    rw [Array.getElem?_push]
    by_cases hk : k = ops.pop.size
    · rw [if_pos hk, hk, Array.size_pop, ho]
    · rw [if_neg hk]
      rcases Nat.lt_or_ge k ops.pop.size with h1 | h1
      · rw [Array.getElem?_pop]
        simp at h1
        rw [if_pos h1]
      · rw [Array.getElem?_eq_none h1, Array.getElem?_eq_none]
        simp at h1 hk
        omega
  have hz : ops.size = ops.pop.size + 1 := by simp; omega
  have e : Array.replicate ops.size false = (Array.replicate ops.pop.size false).push false := by rw [hz]; simp [Array.replicate_succ]
  have hq : wpAny P .any ops.pop (Exit.then (wpList P (ops.pop.push o) (NoPanic Q) [o]) (NoPanic Q)) ops.pop.size (Array.replicate ops.pop.size false) a w.drew := by
    rw [← hops]
    refine wpAny_of_held (S := S) _ _ _ _ ?_
    have h2 := calm_takes (P := P) (md := .any) (Q := Exit.then (wpList P ops (NoPanic Q) [o]) (NoPanic Q)) (ops := ops.pop) (S := S) (w := w.drew) hs (fun c a d v w h => h) hS calm fuel (Array.replicate ops.pop.size false) a hc (h hS) (fun a' h' => h')
    rw [← hf] at h2
    exact h2
  rw [e, hz]
  have hend := wpAny_last (P := P) (md := .any) (pre := ops.pop) (o := o) (Q := NoPanic Q) ?_ ?_ ?_ ops.pop.size (Array.replicate ops.pop.size false) a w.drew (by simp) hq
  · rw [← hops] at hend
    exact hend
  · rw [← hops]
    intro j x hx e he
    have hlt := (Array.getElem?_eq_some_iff.1 hx).1
    have h1 := List.all_eq_true.1 hb j (List.mem_range.2 hlt)
    rw [hx] at h1
    simp only [Option.all_some, Array.all_eq_true_iff_forall_mem] at h1
    simpa using h1 e he
  · intro i x hx
    have h1 := Array.all_eq_true_iff_forall_mem.1 hg x (Array.mem_of_getElem? hx)
    simpa using h1
  · intro j hj
    have h1 := List.all_eq_true.1 hw j (List.mem_range.2 hj)
    rw [Array.any_eq_true'] at h1
    obtain ⟨e, he, h2⟩ := h1
    simp only [Bool.and_eq_true, beq_iff_eq] at h2
    exact ⟨e, he, h2.1, h2.2⟩


theorem upon_in {P : Program} {o : Oper} {a : Act} {K : Act → World → Prop} {Q : Exit → Act → World → Prop} {r : Result Next} (l n : Nat) (h : o.upon P a K Q r) : o.uponIn (Fence.wide.inRound l) n P a K Q r := by
  cases r with
  | ok x w =>
    cases x with
    | value v => exact h
    | skip => exact h
    | defer d => exact h
    | enter f args => exact ⟨fun e => by simp [Fence.inRound, Fence.wide] at e, CallsIn.inRound l (callsIn_wide.2 h)⟩
    | row row args => exact ⟨fun e => by simp [Fence.inRound, Fence.wide] at e, fun c cs _ => let ⟨v, w', r, s⟩ := h c cs; ⟨v, w', r, stepsIn_wide.2 s⟩⟩
    | _ => exact h.elim
  | halt y w => cases y <;> first | exact h | exact h.elim

def noDefer (ops : Array Oper) : Bool := ops.all fun o => match o.op with | .defer _ => false | _ => true

theorem op_in {P : Program} {ops : Array Oper} {Q : Exit → Act → World → Prop} {i : Nat} {K K' : Act → World → Prop} {a : Act} {w : World} (l n : Nat) (hd : noDefer ops = true) (hno : ¬ LetsOut Q) (hK : ∀ a w, K a w → K' a w) (h : wpOp P ops Q i K a w) : wpOpIn (Fence.wide.inRound l) n P ops Q i K' a w := by
  unfold wpOp at h
  unfold wpOpIn
  cases ho : ops[i]? with
  | none => rw [ho] at h; exact hK _ _ h
  | some o =>
    rw [ho] at h
    simp only at h ⊢
    have hnd : ∀ c, o.op ≠ .defer c := fun c e => by
      have h1 := Array.all_eq_true_iff_forall_mem.1 hd o (Array.mem_of_getElem? ho)
      rw [e] at h1
      cases h1
    split
    · rename_i hw
      rw [if_pos hw] at h
      rcases h with h | h
      · refine ⟨fun _ _ => trivial, ?_⟩
        rw [show (Fence.wide.inRound l).round = some l from rfl, Oper.semAt_some l a.eval o hnd]
        exact upon_in l n (Oper.wp_mono hK h)
      · exact absurd h.2 hno
    · rename_i hw
      rw [if_neg hw] at h
      exact ⟨fun _ _ => trivial, hK _ _ h⟩

theorem any_in {P : Program} {md : Region.Mode} {ops : Array Oper} {Q : Exit → Act → World → Prop} (l n : Nat) (hd : noDefer ops = true) (hno : ¬ LetsOut Q) : ∀ (fuel : Nat) (listed : Array Bool) (a : Act) (w : World), wpAny P md ops Q fuel listed a w → wpAnyIn (Fence.wide.inRound l) n P md ops Q fuel listed a w
  | 0, _, _, _, h => h
  | fuel + 1, _, _, _, h => ⟨h.1, fun i hi => op_in l n hd hno (fun a w hh => any_in l n hd hno fuel _ a w hh) (h.2 i hi)⟩

/-- The beginning, in a round: the last operation left to the end, 'calm' taken first. -/
theorem wpIn_region_calm {P : Program} {Q : Exit → Act → World → Prop} {ops : Array Oper} {id fuel l n : Nat} {S : World → Prop} {a : Act} {w : World} (calm : List Nat) (o : Oper) (ho : ops[ops.size - 1]? = some o) (hm : P.follows .mixedOrders = true) (hf : ops.pop.size = fuel + calm.length)
    (hb : ((List.range ops.size).all fun j => (ops[j]?).all fun x => x.after.all fun e => decide (e.on < j)) = true) (hg : (ops.pop.all fun x => x.guard.isNone) = true)
    (hw : ((List.range ops.pop.size).all fun j => o.after.any fun e => Region.binds .any e && e.on == j) = true) (hs : Region.noSelect ops.pop = true)
    (hc : calmOk .any ops.pop (Array.replicate ops.pop.size false) calm = true) (hd : noDefer ops = true) (hno : ¬ LetsOut Q) (hS : S w.drew)
    (h : S w.drew → wpCalm P ops.pop S (fun a' => wpAnyH P .any ops.pop (Exit.then (wpList P ops (NoPanic Q) [o]) (NoPanic Q)) S fuel (come (Array.replicate ops.pop.size false) calm) a' w.drew) calm a) : (Code.region id ops true).wpIn (Fence.wide.inRound l) n P Q a w :=
  Go.wpIn_mono (Q := NoPanic Q) (wpIn_region_any hm (any_in (Q := NoPanic Q) l n hd (fun ⟨a, w, h⟩ => hno ⟨a, w, h⟩) _ _ _ _ (any_calm calm o ho hf hb hg hw hs hc hS h))) NoPanic.imp
end Go.Proofs.Ytaaagmgglolibaa
