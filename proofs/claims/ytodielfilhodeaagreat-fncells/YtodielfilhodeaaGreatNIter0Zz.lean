/-
  What the walks over iterators import.
  The library's maps.Values over the cells: an iterator that gives each value once, in some order.
-/
import Derived.RangeFuncNested
import Derived.RangeFuncBound
import Derived.RangeFuncCalls
import Derived.RangeFuncLeaves
import Derived.Shelf.Abstract
import Derived.Shelf.RegionOpen
import Derived.WalkKit
import Derived.OwnWalkIn
import Derived.TacticsInMore
import Derived.LoopNIn
import Derived.LoopIn
import Derived.Test.YtodielfilhodeaaGreatArgsZz
import Derived.Test.YtodielfilhodeaaGreatNDelZz

namespace Go.Proofs.YtodielfilhodeaaGreat
open Go Go.RowKit Go.Shelf
open Go.ChangeMaps (setBlock)

attribute [local go_sem] Oper.semAt_some

theorem nodup_len {α : Type} : ∀ (l m : List α), l.Nodup → (∀ x ∈ l, x ∈ m) → l.length ≤ m.length
  | [], _, _, _ => by simp
  | x :: l, m, hn, hs => by
    obtain ⟨s, t, e⟩ := List.append_of_mem (hs x (by simp))
    have hn2 := List.nodup_cons.1 hn
    have := nodup_len l (s ++ t) hn2.2 (fun y hy => by
      have := hs y (by simp [hy])
      rw [e] at this
      rcases List.mem_append.1 this with h | h
      · exact List.mem_append_left _ h
      · rcases List.mem_cons.1 h with h | h
        · subst h; exact absurd hy hn2.1
        · exact List.mem_append_right _ h)
    rw [e]
    simp at this ⊢
    omega

/-- The slice that an entry holds. -/
def trE (x : MapEntry) : Option Addr × Nat × Nat := match x.val with
  | .slice a n c => (a, n, c)
  | _ => (none, 0, 0)
def valE (x : MapEntry) : Value := .slice (trE x).1 (trE x).2.1 (trE x).2.2

set_option maxRecDepth 100000 in
set_option maxHeartbeats 2000000 in
theorem iValues (B : Nat) (w : World) :
    Calls Tryz.prog 95 #[.map (some B)] w fun e w' => e = .returned (.func (.func 133) #[] #[.pointer (some ⟨w.heap.size, 0, none⟩)]) ∧ w' = w.alloc (.cells #[.map (some B)] 102) := by
  go_enter Tryz.func95, Tryz.ntmps95
  go_wp2
  go_ret
  exact ⟨rfl, rfl⟩

set_option maxRecDepth 100000 in
set_option maxHeartbeats 2000000 in
theorem vals_in (F : Fence) (n : Nat) (h62 : F.fn 133) (hro : F.round = none) (hn : 1 ≤ n) (l Bm B clk : Nat) (es : Array MapEntry) (hbn : ∀ x ∈ es.toList, x.born < clk) (hnd : (es.toList.map (·.born)).Nodup) (hoc : ∀ x ∈ es.toList, valE x = x.val) (J Jx : List MapEntry → World → Prop)
    (hY : ∀ pre x W, J pre W → pre.length < es.size → YieldAt F (n - 1) Tryz.prog l #[valE x] W fun e W' =>
      (e = .returned (.bool true) ∧ J (pre ++ [x]) W' ∧ KeepsWalks W W') ∨ (e = .returned (.bool false) ∧ Jx (pre ++ [x]) W'))
    (W : World) (hJ : AbidesFrom W.heap.size J) (hBm : W.cell? ⟨Bm, 0, none⟩ = some (.map (some B))) (hB : W.heap[B]? = some (.map es clk)) (h0 : J [] W) :
    CallsIn F n Tryz.prog 133 #[.func (.yield l) #[] #[], .pointer (some ⟨Bm, 0, none⟩)] W fun e W' => (∃ v, e = .returned v) ∧
      ((∃ ys : List MapEntry, ys.Perm es.toList ∧ J ys W') ∨ (∃ pre, True ∧ Jx pre W')) := by
  have hrg := run_range_map (P := Tryz.prog) W 102 106 24 B es clk Tryz.underlying102 hB
  have hBl : B < W.heap.size := (Array.getElem?_eq_some_iff.1 hB).1
  have HI := hidP (heap_alloc_new W (.mapIter (some B) clk #[] clk))
  have HM0 : Hid ((W.alloc (.mapIter (some B) clk #[] clk)).heap[B]? = some (.map es clk)) := (Below.heap_alloc _ _ _ hBl).trans hB
  have HJ0 : Hid (J [] (W.alloc (.mapIter (some B) clk #[] clk))) := hJ [] W _ none h0 (World.grownBy_alloc W _ none) (fun r e => by cases e)
  refine callsIn_of_wp Tryz.func133 rfl h62 ?_ hro
  simp only [Tryz.ntmps133, List.size_toArray, List.length_cons, List.length_nil, Nat.reduceAdd, Nat.reduceSub, Array.replicate_succ, Array.replicate_zero, List.push_toArray, List.append_toArray, List.nil_append, List.cons_append]
  gi_wp2
  clear hrg
  gi_loopw [4] (fun _ wr => ∃ ys : List MapEntry, (ys.map (·.born)).Nodup ∧ (∀ y ∈ ys, y ∈ es.toList) ∧ wr.heap[W.heap.size]? = some (.mapIter (some B) clk (ys.map (·.born)).toArray clk) ∧ wr.heap[B]? = some (.map es clk) ∧ J ys wr)
    (fun _ wr => (leftOf es (wr.iterSeen W.heap.size)).size)
  case atStart => exact ⟨[], List.nodup_nil, (fun y h => by simp at h), HI.out, HM0.out, HJ0.out⟩
  case round =>
    obtain ⟨ys, hyn, hys, hit, hmap, hJs⟩ := hrel
    have hseen : wr.iterSeen W.heap.size = (ys.map (·.born)).toArray := by unfold World.iterSeen; rw [hit]
    have hone : ∀ a ∈ es.toList, ∀ b ∈ es.toList, a.born = b.born → a = b := fun a ha b hb e => by
      obtain ⟨i, hi, rfl⟩ := List.getElem_of_mem ha
      obtain ⟨j, hj, rfl⟩ := List.getElem_of_mem hb
      have hi2 : i < (es.toList.map (·.born)).length := by simpa using hi
      have hj2 : j < (es.toList.map (·.born)).length := by simpa using hj
      have := (List.getElem_inj hnd (h₀ := hi2) (h₁ := hj2)).1 (by simpa using e)
      subst this; rfl
    rcases run_next_at (P := Tryz.prog) wr 0 W.heap.size B clk clk (ys.map (·.born)).toArray es clk hit hmap hbn (Nat.le_refl _) with ⟨hz, hrun⟩ | ⟨e, he, w1, hw1, hrun⟩
    · have hall : ∀ x ∈ es.toList, x ∈ ys := fun x hx => by
        rcases hc : (ys.map (·.born)).toArray.contains x.born with _ | _
        · have hm : x ∈ leftOf es (ys.map (·.born)).toArray := by
            unfold leftOf
            refine Array.mem_filter.2 ⟨by simpa using hx, ?_⟩
            rw [hc]; rfl
          have : leftOf es (ys.map (·.born)).toArray = #[] := Array.eq_empty_of_size_eq_zero hz
          rw [this] at hm
          simp at hm
        · have hc2 : x.born ∈ ys.map (·.born) := by simpa using hc
          obtain ⟨y, hy, e⟩ := List.mem_map.1 hc2
          rw [← hone y (hys y hy) x hx e]; exact hy
      have hP : ys.Perm es.toList := by
        refine (List.perm_ext_iff_of_nodup ?_ ?_).2 fun x => ⟨hys x, hall x⟩
        · exact List.Pairwise.imp (fun {a b} hab e => hab (by rw [e])) (List.pairwise_map.1 hyn)
        · exact List.Pairwise.imp (fun {a b} hab e => hab (by rw [e])) (List.pairwise_map.1 hnd)
      have HE := hidP (And.intro hP hJs)
      clear hall hP hit hmap hJs hz hone hseen
      gi_wp2
      go_end0
      exact ⟨⟨_, rfl⟩, .inl ⟨ys, HE.out.1, HE.out.2⟩⟩
    · obtain ⟨hel, hes⟩ := mem_left he
      have hsh := left_shrinks es (ys.map (·.born)).toArray e he
      have hpush : (ys.map (·.born)).toArray.push e.born = ((ys ++ [e]).map (·.born)).toArray := by simp
      have hnew : e.born ∉ ys.map (·.born) := fun h => by
        have hc : (ys.map (·.born)).toArray.contains e.born = true := by simpa using h
        rw [hc] at hes; cases hes
      have hyn2 : ((ys ++ [e]).map (·.born)).Nodup := by
        rw [List.map_append, List.nodup_append]
        refine ⟨hyn, by simp, fun a ha b hb e2 => ?_⟩
        simp at hb
        subst hb
        subst e2
        exact hnew ha
      have hlen : ys.length < es.size := by
        have := nodup_len ((ys ++ [e]).map (·.born)) (es.toList.map (·.born)) hyn2 (fun x hx => by
          obtain ⟨y, hy, rfl⟩ := List.mem_map.1 hx
          rcases List.mem_append.1 hy with h | h
          · exact List.mem_map_of_mem (hys y h)
          · simp at h; subst h; exact List.mem_map_of_mem hel)
        simp at this
        omega
      rw [hpush] at hrun hsh
      obtain ⟨W2, hW2⟩ : ∃ Wx, Wx = setBlock w1 W.heap.size (.mapIter (some B) clk ((ys ++ [e]).map (·.born)).toArray clk) := ⟨_, rfl⟩
      have hg1 : wr.grownBy w1 none := by rcases hw1 with rfl | rfl <;> exact ⟨rfl, rfl, rfl, Nat.le_refl _, fun _ _ _ => rfl⟩
      have hg2 : w1.grownBy W2 (some W.heap.size) := by rw [hW2]; exact nsetBlock_grown _ _ _
      have hlr : W.heap.size < wr.heap.size := (Array.getElem?_eq_some_iff.1 hit).1
      have hlr1 : W.heap.size < w1.heap.size := Nat.lt_of_lt_of_le hlr hg1.size
      have hit1 : w1.heap[W.heap.size]? = some (.mapIter (some B) clk (ys.map (·.born)).toArray clk) := (hg1.block _ hlr (by simp)).trans hit
      have hit2 : W2.heap[W.heap.size]? = some (.mapIter (some B) clk ((ys ++ [e]).map (·.born)).toArray clk) := by rw [hW2]; simp [setBlock, hlr1]
      have hmap2 : W2.heap[B]? = some (.map es clk) := (hg2.block B (by omega) (by simp; omega)).trans ((hg1.block B (by omega) (by simp)).trans hmap)
      have hit2' : W2.heap[W.heap.size]? = some (.mapIter (some B) clk ((ys.map (·.born)).toArray.push e.born) clk) := by rw [hpush]; exact hit2
      have hent := run_entry_at (P := Tryz.prog) W2 W.heap.size B clk (ys.map (·.born)).toArray es clk e hit2' hmap2 hel hnd
      have hJ2 : J ys W2 := hJ ys w1 W2 (some W.heap.size) (hJ ys wr w1 none hJs hg1 (fun r e => by cases e)) hg2 (fun r e => by cases e; exact ⟨Nat.le_refl _, _, hit1, rfl⟩)
      have HY := hidP (hY ys e W2 hJ2 hlen)
      rw [hoc e hel] at HY
      rw [← hW2] at hrun
      have HP := hidP (And.intro hyn2 (And.intro (fun y (hy : y ∈ ys ++ [e]) => (by rcases List.mem_append.1 hy with h | h; exact hys y h; simp at h; subst h; exact hel : y ∈ es.toList)) (And.intro hit2 (And.intro hmap2 (And.intro hsh hseen)))))
      clear hit hit1 hit2 hit2' hmap hmap2 hJs hJ2 hg1 hg2 hW2 hw1 hel hes he hsh hpush hnew hyn2 hone hseen hlen hyn hys hlr hlr1
      gi_wp2
      obtain ⟨fn, tmps, assign, body, hy, hR⟩ := HY.out
      rw [hy]
      gi_wp2
      refine hR.mono ?_
      rintro e3 W3 (⟨rfl, hJ3, hk3⟩ | ⟨rfl, hJx3⟩)
      · have hit3 := hk3.same _ _ HP.out.2.2.1 rfl
        have hmap3 := hk3.same _ _ HP.out.2.2.2.1 rfl
        gi_wp2
        go_roundw
        case rel => exact ⟨ys ++ [e], HP.out.1, HP.out.2.1, hit3, hmap3, hJ3⟩
        case measure =>
          have h1 : W3.iterSeen W.heap.size = ((ys ++ [e]).map (·.born)).toArray := by unfold World.iterSeen; rw [hit3]
          rw [h1, HP.out.2.2.2.2.2]; exact HP.out.2.2.2.2.1
      · gi_wp2
        refine bodyPost_ret (results_none rfl _ _ _) rfl ?_
        exact ⟨⟨_, rfl⟩, .inr ⟨_, trivial, hJx3⟩⟩

theorem vals_stops (F : Fence) (n : Nat) (h62 : F.fn 133) (hro : F.round = none) (hn : 1 ≤ n) (Bm B clk : Nat) (es : Array MapEntry) (hbn : ∀ x ∈ es.toList, x.born < clk) (hnd : (es.toList.map (·.born)).Nodup) (hoc : ∀ x ∈ es.toList, valE x = x.val) (w : World)
    (hBm : w.heap[Bm]? = some (.cells #[.map (some B)] 102)) (hB : w.heap[B]? = some (.map es clk)) :
    SeqStopsK F n Tryz.prog 133 #[.pointer (some ⟨Bm, 0, none⟩)] (fun x : MapEntry => #[valE x]) KeepsWalks (fun ys => ys.Perm es.toList) (fun _ => True) es.size w := by
  intro l J Jx W hW hJ hJx hY h0
  have b1 : Bm < w.heap.size := (Array.getElem?_eq_some_iff.1 hBm).1
  have b2 : B < w.heap.size := (Array.getElem?_eq_some_iff.1 hB).1
  have e1 := (hW.block Bm b1).trans hBm
  have e2 := (hW.block B b2).trans hB
  exact vals_in F n h62 hro hn l Bm B clk es hbn hnd hoc J Jx hY W hJ (by simp [World.cell?, e1]) e2 h0

end Go.Proofs.YtodielfilhodeaaGreat
