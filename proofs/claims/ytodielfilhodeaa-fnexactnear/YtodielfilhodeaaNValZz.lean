/-
  The library's maps.Values over the cells: an iterator that gives each value once, in some order.
  The library's slices.Collect of the values of a map: a new row of them, in some order.
-/
import Derived.Test.YtodielfilhodeaaNIter0Zz
import Derived.Test.YtodielfilhodeaaNDelZz
import Derived.RangeFuncWrites
import Derived.Test.YtodielfilhodeaaMCellsZz
namespace Go.Proofs.Ytodielfilhodeaa
open Go Go.RowKit Go.Shelf
open Go.ChangeMaps (setBlock)

attribute [local go_sem] Oper.semAt_some

theorem nodup_len {α : Type} : ∀ (l m : List α), l.Nodup → (∀ x ∈ l, x ∈ m) → l.length ≤ m.length
  | [], _, _, _ => by simp
  | x :: l, m, hn, hs => by
    obtain ⟨s, t, e⟩ := List.append_of_mem (hs x (by simp))
    have hn2 := List.nodup_cons.1 hn
    have := nodup_len l (s ++ t) hn2.2 (fun y hy => by
      have := hs y (by simp [hy])
      rw [e] at this
      rcases List.mem_append.1 this with h | h
      · exact List.mem_append_left _ h
      · rcases List.mem_cons.1 h with h | h
        · subst h; exact absurd hy hn2.1
        · exact List.mem_append_right _ h)
    rw [e]
    simp at this ⊢
    omega

/-- The slice that an entry holds. -/
def trE (x : MapEntry) : Option Addr × Nat × Nat := match x.val with
  | .slice a n c => (a, n, c)
  | _ => (none, 0, 0)
def valE (x : MapEntry) : Value := .slice (trE x).1 (trE x).2.1 (trE x).2.2

set_option maxRecDepth 100000 in
set_option maxHeartbeats 2000000 in
theorem iValues (B : Nat) (w : World) :
    Calls Try.prog 112 #[.map (some B)] w fun e w' => e = .returned (.func (.func 162) #[] #[.pointer (some ⟨w.heap.size, 0, none⟩)]) ∧ w' = w.alloc (.cells #[.map (some B)] 138) := by
  go_enter Try.func112, Try.ntmps112
  go_wp2
  go_ret
  exact ⟨rfl, rfl⟩

set_option maxRecDepth 100000 in
set_option maxHeartbeats 2000000 in
theorem vals_in (F : Fence) (n : Nat) (h62 : F.fn 162) (hro : F.round = none) (hn : 1 ≤ n) (l Bm B clk : Nat) (es : Array MapEntry) (hbn : ∀ x ∈ es.toList, x.born < clk) (hnd : (es.toList.map (·.born)).Nodup) (hoc : ∀ x ∈ es.toList, valE x = x.val) (J Jx : List MapEntry → World → Prop)
    (hY : ∀ pre x W, J pre W → pre.length < es.size → YieldAt F (n - 1) Try.prog l #[valE x] W fun e W' =>
      (e = .returned (.bool true) ∧ J (pre ++ [x]) W' ∧ KeepsWalks W W') ∨ (e = .returned (.bool false) ∧ Jx (pre ++ [x]) W'))
    (W : World) (hJ : AbidesFrom W.heap.size J) (hBm : W.cell? ⟨Bm, 0, none⟩ = some (.map (some B))) (hB : W.heap[B]? = some (.map es clk)) (h0 : J [] W) :
    CallsIn F n Try.prog 162 #[.func (.yield l) #[] #[], .pointer (some ⟨Bm, 0, none⟩)] W fun e W' => (∃ v, e = .returned v) ∧
      ((∃ ys : List MapEntry, ys.Perm es.toList ∧ J ys W') ∨ (∃ pre, True ∧ Jx pre W')) := by
  have hrg := run_range_map (P := Try.prog) W 138 148 30 B es clk Try.underlying138 hB
  have hBl : B < W.heap.size := (Array.getElem?_eq_some_iff.1 hB).1
  have HI := hidP (heap_alloc_new W (.mapIter (some B) clk #[] clk))
  have HM0 : Hid ((W.alloc (.mapIter (some B) clk #[] clk)).heap[B]? = some (.map es clk)) := (Below.heap_alloc _ _ _ hBl).trans hB
  have HJ0 : Hid (J [] (W.alloc (.mapIter (some B) clk #[] clk))) := hJ [] W _ none h0 (World.grownBy_alloc W _ none) (fun r e => by cases e)
  refine callsIn_of_wp Try.func162 rfl h62 ?_ hro
  simp only [Try.ntmps162, List.size_toArray, List.length_cons, List.length_nil, Nat.reduceAdd, Nat.reduceSub, Array.replicate_succ, Array.replicate_zero, List.push_toArray, List.append_toArray, List.nil_append, List.cons_append]
  gi_wp2
  clear hrg
  gi_loopw [4] (fun _ wr => ∃ ys : List MapEntry, (ys.map (·.born)).Nodup ∧ (∀ y ∈ ys, y ∈ es.toList) ∧ wr.heap[W.heap.size]? = some (.mapIter (some B) clk (ys.map (·.born)).toArray clk) ∧ wr.heap[B]? = some (.map es clk) ∧ J ys wr)
    (fun _ wr => (leftOf es (wr.iterSeen W.heap.size)).size)
  case atStart => exact ⟨[], List.nodup_nil, (fun y h => by simp at h), HI.out, HM0.out, HJ0.out⟩
  case round =>
    obtain ⟨ys, hyn, hys, hit, hmap, hJs⟩ := hrel
    have hseen : wr.iterSeen W.heap.size = (ys.map (·.born)).toArray := by unfold World.iterSeen; rw [hit]
    have hone : ∀ a ∈ es.toList, ∀ b ∈ es.toList, a.born = b.born → a = b := fun a ha b hb e => by
      obtain ⟨i, hi, rfl⟩ := List.getElem_of_mem ha
      obtain ⟨j, hj, rfl⟩ := List.getElem_of_mem hb
      have hi2 : i < (es.toList.map (·.born)).length := by simpa using hi
      have hj2 : j < (es.toList.map (·.born)).length := by simpa using hj
      have := (List.getElem_inj hnd (h₀ := hi2) (h₁ := hj2)).1 (by simpa using e)
      subst this; rfl
    rcases run_next_at (P := Try.prog) wr 0 W.heap.size B clk clk (ys.map (·.born)).toArray es clk hit hmap hbn (Nat.le_refl _) with ⟨hz, hrun⟩ | ⟨e, he, w1, hw1, hrun⟩
    · have hall : ∀ x ∈ es.toList, x ∈ ys := fun x hx => by
        rcases hc : (ys.map (·.born)).toArray.contains x.born with _ | _
        · have hm : x ∈ leftOf es (ys.map (·.born)).toArray := by
            unfold leftOf
            refine Array.mem_filter.2 ⟨by simpa using hx, ?_⟩
            rw [hc]; rfl
          have : leftOf es (ys.map (·.born)).toArray = #[] := Array.eq_empty_of_size_eq_zero hz
          rw [this] at hm
          simp at hm
        · have hc2 : x.born ∈ ys.map (·.born) := by simpa using hc
          obtain ⟨y, hy, e⟩ := List.mem_map.1 hc2
          rw [← hone y (hys y hy) x hx e]; exact hy
      have hP : ys.Perm es.toList := by
        refine (List.perm_ext_iff_of_nodup ?_ ?_).2 fun x => ⟨hys x, hall x⟩
        · exact List.Pairwise.imp (fun {a b} hab e => hab (by rw [e])) (List.pairwise_map.1 hyn)
        · exact List.Pairwise.imp (fun {a b} hab e => hab (by rw [e])) (List.pairwise_map.1 hnd)
      have HE := hidP (And.intro hP hJs)
      clear hall hP hit hmap hJs hz hone hseen
      gi_wp2
      go_end0
      exact ⟨⟨_, rfl⟩, .inl ⟨ys, HE.out.1, HE.out.2⟩⟩
    · obtain ⟨hel, hes⟩ := mem_left he
      have hsh := left_shrinks es (ys.map (·.born)).toArray e he
      have hpush : (ys.map (·.born)).toArray.push e.born = ((ys ++ [e]).map (·.born)).toArray := by simp
      have hnew : e.born ∉ ys.map (·.born) := fun h => by
        have hc : (ys.map (·.born)).toArray.contains e.born = true := by simpa using h
        rw [hc] at hes; cases hes
      have hyn2 : ((ys ++ [e]).map (·.born)).Nodup := by
        rw [List.map_append, List.nodup_append]
        refine ⟨hyn, by simp, fun a ha b hb e2 => ?_⟩
        simp at hb
        subst hb
        subst e2
        exact hnew ha
      have hlen : ys.length < es.size := by
        have := nodup_len ((ys ++ [e]).map (·.born)) (es.toList.map (·.born)) hyn2 (fun x hx => by
          obtain ⟨y, hy, rfl⟩ := List.mem_map.1 hx
          rcases List.mem_append.1 hy with h | h
          · exact List.mem_map_of_mem (hys y h)
          · simp at h; subst h; exact List.mem_map_of_mem hel)
        simp at this
        omega
      rw [hpush] at hrun hsh
      obtain ⟨W2, hW2⟩ : ∃ Wx, Wx = setBlock w1 W.heap.size (.mapIter (some B) clk ((ys ++ [e]).map (·.born)).toArray clk) := ⟨_, rfl⟩
      have hg1 : wr.grownBy w1 none := by rcases hw1 with rfl | rfl <;> exact ⟨rfl, rfl, rfl, Nat.le_refl _, fun _ _ _ => rfl⟩
      have hg2 : w1.grownBy W2 (some W.heap.size) := by rw [hW2]; exact nsetBlock_grown _ _ _
      have hlr : W.heap.size < wr.heap.size := (Array.getElem?_eq_some_iff.1 hit).1
      have hlr1 : W.heap.size < w1.heap.size := Nat.lt_of_lt_of_le hlr hg1.size
      have hit1 : w1.heap[W.heap.size]? = some (.mapIter (some B) clk (ys.map (·.born)).toArray clk) := (hg1.block _ hlr (by simp)).trans hit
      have hit2 : W2.heap[W.heap.size]? = some (.mapIter (some B) clk ((ys ++ [e]).map (·.born)).toArray clk) := by rw [hW2]; simp [setBlock, hlr1]
      have hmap2 : W2.heap[B]? = some (.map es clk) := (hg2.block B (by omega) (by simp; omega)).trans ((hg1.block B (by omega) (by simp)).trans hmap)
      have hit2' : W2.heap[W.heap.size]? = some (.mapIter (some B) clk ((ys.map (·.born)).toArray.push e.born) clk) := by rw [hpush]; exact hit2
      have hent := run_entry_at (P := Try.prog) W2 W.heap.size B clk (ys.map (·.born)).toArray es clk e hit2' hmap2 hel hnd
      have hJ2 : J ys W2 := hJ ys w1 W2 (some W.heap.size) (hJ ys wr w1 none hJs hg1 (fun r e => by cases e)) hg2 (fun r e => by cases e; exact ⟨Nat.le_refl _, _, hit1, rfl⟩)
      have HY := hidP (hY ys e W2 hJ2 hlen)
      rw [hoc e hel] at HY
      rw [← hW2] at hrun
      have HP := hidP (And.intro hyn2 (And.intro (fun y (hy : y ∈ ys ++ [e]) => (by rcases List.mem_append.1 hy with h | h; exact hys y h; simp at h; subst h; exact hel : y ∈ es.toList)) (And.intro hit2 (And.intro hmap2 (And.intro hsh hseen)))))
      clear hit hit1 hit2 hit2' hmap hmap2 hJs hJ2 hg1 hg2 hW2 hw1 hel hes he hsh hpush hnew hyn2 hone hseen hlen hyn hys hlr hlr1
      gi_wp2
      obtain ⟨fn, tmps, assign, body, hy, hR⟩ := HY.out
      rw [hy]
      gi_wp2
      refine hR.mono ?_
      rintro e3 W3 (⟨rfl, hJ3, hk3⟩ | ⟨rfl, hJx3⟩)
      · have hit3 := hk3.same _ _ HP.out.2.2.1 rfl
        have hmap3 := hk3.same _ _ HP.out.2.2.2.1 rfl
        gi_wp2
        go_roundw
        case rel => exact ⟨ys ++ [e], HP.out.1, HP.out.2.1, hit3, hmap3, hJ3⟩
        case measure =>
          have h1 : W3.iterSeen W.heap.size = ((ys ++ [e]).map (·.born)).toArray := by unfold World.iterSeen; rw [hit3]
          rw [h1, HP.out.2.2.2.2.2]; exact HP.out.2.2.2.2.1
      · gi_wp2
        refine bodyPost_ret (results_none rfl _ _ _) rfl ?_
        exact ⟨⟨_, rfl⟩, .inr ⟨_, trivial, hJx3⟩⟩

theorem vals_stops (F : Fence) (n : Nat) (h62 : F.fn 162) (hro : F.round = none) (hn : 1 ≤ n) (Bm B clk : Nat) (es : Array MapEntry) (hbn : ∀ x ∈ es.toList, x.born < clk) (hnd : (es.toList.map (·.born)).Nodup) (hoc : ∀ x ∈ es.toList, valE x = x.val) (w : World)
    (hBm : w.heap[Bm]? = some (.cells #[.map (some B)] 138)) (hB : w.heap[B]? = some (.map es clk)) :
    SeqStopsK F n Try.prog 162 #[.pointer (some ⟨Bm, 0, none⟩)] (fun x : MapEntry => #[valE x]) KeepsWalks (fun ys => ys.Perm es.toList) (fun _ => True) es.size w := by
  intro l J Jx W hW hJ hJx hY h0
  have b1 : Bm < w.heap.size := (Array.getElem?_eq_some_iff.1 hBm).1
  have b2 : B < w.heap.size := (Array.getElem?_eq_some_iff.1 hB).1
  have e1 := (hW.block Bm b1).trans hBm
  have e2 := (hW.block B b2).trans hB
  exact vals_in F n h62 hro hn l Bm B clk es hbn hnd hoc J Jx hY W hJ (by simp [World.cell?, e1]) e2 h0

end Go.Proofs.Ytodielfilhodeaa
namespace Go.Proofs.Ytodielfilhodeaa
open Go Go.RowKit Go.Shelf
open Go.ChangeMaps (setBlock)

attribute [local go_sem] Oper.semAt_some

theorem infoRow : (Try.prog.info? 30).map (fun i => (i.zero, i.size, i.bytes)) = some (some (.slice none 0 0), 1, 24) := by kernel_rfl
/-- Between two rounds: the box holds what has come. -/
def ApI (w : World) (pre : List MapEntry) (V : World) : Prop := ∃ sv, V.heap[w.heap.size]? = some (.cells #[sv] 142 (0, 0)) ∧ V.ownsRow (w.heap.size + 1) 30 1 sv pre.length (pre.map valE) ∧ Below w.heap.size w V
theorem row_far {W : World} {base e size k : Nat} {v : Value} {xs : List Value} (h : W.ownsRow base e size v k xs) {r : Option Nat} (hr : ∀ j, r = some j → ∃ o : Obj, W.heap[j]? = some o ∧ o.isCells = false) : v.ownBlock = none ∨ v.ownBlock ≠ r := by
  rcases h.2 with ⟨rfl, _⟩ | ⟨g, cap, cur, rfl, _, hgb, _⟩
  · exact Or.inl rfl
  · refine Or.inr fun e2 => ?_
    obtain ⟨o, ho, hc⟩ := hr g e2.symm
    rw [hgb] at ho
    cases ho
    cases hc
theorem cell_one_newN (w : World) (v : Value) (t : TypeId) : ∀ (j : Nat) (u : Value), ([v] : List Value)[j]? = some u → (w.alloc (.cells #[v] t)).cell? ((⟨w.heap.size, 0, none⟩ : Addr).add j) = some u := fun j u h => by
  cases j with
  | zero =>
    simp at h
    subst h
    have e : (⟨w.heap.size, 0, none⟩ : Addr).add 0 = ⟨w.heap.size, 0, none⟩ := by simp [Addr.add]
    rw [e]
    go_simp
  | succ j => simp at h
theorem apI_own (w : World) {B : Nat} (hB : w.heap.size < B) : OwnFrom B (ApI w) := fun pre W W' row h hg hr => by
  obtain ⟨sv, hb, hrow, L⟩ := h
  have hlt := (Array.getElem?_eq_some_iff.1 hb).1
  refine ⟨sv, (hg.block _ hlt (fun e => by have := (hr _ e.symm).1; omega)).trans hb, World.ownsRow.kept hrow hg (row_far hrow fun j e => (hr j e).2), L.grown hg L.size (fun k e => by have := (hr k e).1; omega)⟩

set_option maxRecDepth 100000 in
set_option maxHeartbeats 4000000 in
theorem iAppendSeq (Bm B clk : Nat) (es : Array MapEntry) (hbn : ∀ x ∈ es.toList, x.born < clk) (hnd : (es.toList.map (·.born)).Nodup) (hoc : ∀ x ∈ es.toList, valE x = x.val) (hsz : es.size ≤ 60) (w : World)
    (hBm : w.heap[Bm]? = some (.cells #[.map (some B)] 138)) (hB : w.heap[B]? = some (.map es clk)) :
    Calls Try.prog 161 #[.slice none 0 0, .func (.func 162) #[] #[.pointer (some ⟨Bm, 0, none⟩)]] w fun e w' => ∃ (v : Value) (ys : List MapEntry), e = .returned v ∧ ys.Perm es.toList ∧ w'.ownsRow w.heap.size 30 1 v ys.length (ys.map valE) ∧ Below w.heap.size w w' := by
  obtain ⟨i0, hi0, hz0, hz1, hz2⟩ := info_parts infoRow
  refine (callsIn_wide (n := 5)).1 ?_
  refine callsIn_of_wp_marks Try.func161 rfl trivial ?_ rfl
  simp only [Try.ntmps161, List.size_toArray, List.length_cons, List.length_nil, Nat.reduceAdd, Nat.reduceSub, Array.replicate_succ, Array.replicate_zero, List.push_toArray, List.append_toArray, List.nil_append, List.cons_append]
  gi_wp2
  obtain ⟨W0, hW0⟩ : ∃ W, w.alloc (.cells #[.slice none 0 0] 142) = W := ⟨_, rfl⟩
  have hL0 : Below w.heap.size w W0 := by rw [← hW0]; exact alloc_below w _
  have hs0 : W0.heap.size = w.heap.size + 1 := by rw [← hW0]; simp
  have hb0 : W0.heap[w.heap.size]? = some (.cells #[.slice none 0 0] 142 (0, 0)) := by rw [← hW0]; exact heap_alloc_new w _
  have b1 : Bm < w.heap.size := (Array.getElem?_eq_some_iff.1 hBm).1
  have b2 : B < w.heap.size := (Array.getElem?_eq_some_iff.1 hB).1
  rw [hW0]
  clear hW0
  refine wpIn_rangeFunc_ownG rfl (by decide) (gf := 162) (lb := #[.pointer (some ⟨Bm, 0, none⟩)]) rfl trivial (enters_of Try.func162 (by kernel_rfl) rfl)
    (vals_stops Fence.wide (5 - 1) trivial rfl (by decide) Bm B clk es hbn hnd hoc W0 ((hL0.block Bm b1).trans hBm) ((hL0.block B b2).trans hB)) (fun h k => h.trans k)
    (fun W l o o' hl h _ hw => KeepsWalks.putObj o' h hw) (Below.refl _ _) (fun _ => rfl)
    (ApI w) (fun _ _ _ => False) (apI_own w (by omega)) (fun _ _ _ _ _ hs _ _ => hs) ⟨_, hb0, ⟨rfl, Or.inl ⟨rfl, rfl⟩⟩, hL0⟩
    (fun x => { tmps := #[.slice none 0 0, .func (.func 162) #[] #[.pointer (some ⟨Bm, 0, none⟩)], .pointer (some ⟨w.heap.size, 0, none⟩), undef, .slice none 0 0, valE x,
        .func (.func 162) #[] #[.pointer (some ⟨Bm, 0, none⟩)], valE x, undef, undef, undef, undef, undef], defers := [] }) ?assign ?body ?done ?stop
  case assign =>
    intro l x V K hK
    dsimp only
    gi_wp2
    exact hK
  case body =>
    rintro l pre x V ⟨sv, hb, hrow, L⟩ hlt
    have hbl := (Array.getElem?_eq_some_iff.1 hb).1
    have hc0 : V.cell? ⟨w.heap.size, 0, none⟩ = some sv := by simp [World.cell?, hb]
    have hzV := L.size
    have HB := hidP (And.intro hb (And.intro hrow L))
    clear hb hrow L
    have hvE : valE x = .slice (trE x).1 (trE x).2.1 (trE x).2.2 := rfl
    rw [hvE]
    have HVE : Hid (valE x = .slice (trE x).1 (trE x).2.1 (trE x).2.2) := rfl
    generalize trE x = t at *
    obtain ⟨ta, tn, tc⟩ := t
    simp only at *
    gi_wp2_with
      (gi_at_builtin
       refine wpListIn_append_own _ rfl _ _ 142 rfl (w.heap.size + 1) 30 i0 (.slice none 0 0) 1 24 Try.underlying142 hi0 hz0 hz1 hz2 rfl (by decide) sv pre.length (pre.map valE) rfl (World.ownsRow.alloc HB.out.2.1 _) ⟨V.heap.size, 0, none⟩ 1 1 [.slice ta tn tc] rfl rfl (cell_one_newN _ _ _) (by intro u hu; simp at hu; rw [hu]; rfl) (by unfold maxLen; omega) (by omega) (by simp; omega) ?_
       intro v' w3 hown' hg3 hnil3
       have hbne : some w.heap.size ≠ sv.ownBlock := fun e => by have := (World.ownsRow.lt HB.out.2.1 _ e.symm).1; omega
       have hb3 : w3.heap[w.heap.size]? = some (.cells #[sv] 142 (0, 0)) := (hg3.block _ (by simp; omega) hbne).trans ((Below.heap_alloc _ _ _ hbl).trans HB.out.1)
       have hc3 : w3.cell? ⟨w.heap.size, 0, none⟩ = some sv := by simp [World.cell?, hb3]
       have hf3 : w3.frozen? ⟨w.heap.size, 0, none⟩ = false := by simp [World.frozen?, hb3]
       obtain ⟨g', cap', cur', rfl, hr0⟩ : ∃ g' cap' cur', v' = .slice (some ⟨g', 0, none⟩) (pre.length + 1) cap' ∧ w3.heap[g']? = some (.cells cur' 30 (0, 0)) := by
         rcases hown'.2 with ⟨_, h0⟩ | ⟨g', cap', cur', e1, _, e2, _⟩
         · exact absurd h0 (by omega)
         · exact ⟨g', cap', cur', e1, e2⟩)
    have hg3' : (V.alloc (.cells #[.slice ta tn tc] 30)).grownBy w3 sv.ownBlock := hg3
    have hVal := alloc_below V (.cells #[.slice ta tn tc] 30)
    have hko : ∀ (k : Nat) (o : Obj), V.heap[k]? = some o → o.isCells = false → (w3.setCell ⟨w.heap.size, 0, none⟩ (.slice (some ⟨g', 0, none⟩) (pre.length + 1) cap')).heap[k]? = some o := fun k o hk ho => by
      have hkl := (Array.getElem?_eq_some_iff.1 hk).1
      have hne1 : some k ≠ sv.ownBlock := by
        rcases row_far HB.out.2.1 (r := some k) (fun j e => by cases e; exact ⟨o, hk, ho⟩) with h | h
        · rw [h]; simp
        · exact fun e => h e.symm
      have hne2 : k ≠ w.heap.size := fun e => by subst e; rw [HB.out.1] at hk; cases hk; cases ho
      have h3 : w3.heap[k]? = some o := (hg3'.block k (by simp; omega) hne1).trans ((hVal.block k hkl).trans hk)
      exact (Below.heap_setCell _ _ _ k hne2).trans h3
    have hsz3 : V.heap.size ≤ (w3.setCell ⟨w.heap.size, 0, none⟩ (.slice (some ⟨g', 0, none⟩) (pre.length + 1) cap')).heap.size := by
      rw [setCell_size]; have := hg3'.size; have := hVal.size; omega
    refine ⟨KeepsOthers.from ⟨hsz3, hko⟩ _, ⟨hsz3, fun k o hk ho => hko k o hk (by cases o <;> simp_all [Obj.isWalk, Obj.isCells])⟩, ?_⟩
    have hgs : w3.grownBy (w3.setCell ⟨w.heap.size, 0, none⟩ (.slice (some ⟨g', 0, none⟩) (pre.length + 1) cap')) (some w.heap.size) := grownBy_setCell' w3 w.heap.size _
    have hl3 : w.heap.size < w3.heap.size := (Array.getElem?_eq_some_iff.1 hb3).1
    have hLV : Below w.heap.size w w3 := (HB.out.2.2.alloc HB.out.2.2.size _).grown hg3' (by simp; omega) (fun k e => by have := (World.ownsRow.lt HB.out.2.1 _ e).1; omega)
    refine ⟨.slice (some ⟨g', 0, none⟩) (pre.length + 1) cap', ?_, ?_, hLV.grown hgs hLV.size (fun k e => by cases e; exact Nat.le_refl _)⟩
    · have h := heap_setCell_same w3 w.heap.size 0 #[sv] 142 (.slice (some ⟨g', 0, none⟩) (pre.length + 1) cap') hb3
      simpa using h
    · have h := World.ownsRow.kept hown' hgs (Or.inr (by have := (World.ownsRow.lt hown' g' rfl).1; simp [Value.ownBlock]; omega))
      rw [List.map_append, List.length_append, List.map_singleton, HVE.out]
      exact h
  case done =>
    rintro D ys V hD' hS ⟨sv, hb, hrow, L⟩ hK
    have hc0 : V.cell? ⟨w.heap.size, 0, none⟩ = some sv := by simp [World.cell?, hb]
    have hzV := L.size
    gi_wp2
    refine ⟨by simp, .inl ⟨_, _, rfl, run_takeDeferred hK, ?_⟩⟩
    have hgp := grownBy_putObj' V D (.deferred none)
    refine ⟨_, results_tmp rfl _ _ _, sv, ys, rfl, hS, ?_, L.grown hgp L.size (fun k e => by cases e; omega)⟩
    have h1 := World.ownsRow.kept hrow hgp (row_far hrow fun j e => by cases e; exact ⟨_, hK, rfl⟩)
    exact ⟨h1.1, h1.2.imp id fun ⟨g, c, cur, e1, e2, e3⟩ => ⟨g, c, cur, e1, by omega, e3⟩⟩
  case stop =>
    rintro D c pre W _ _ h _
    exact h.elim

set_option maxRecDepth 100000 in
set_option maxHeartbeats 1000000 in
theorem iCollect (Bm B clk : Nat) (es : Array MapEntry) (hbn : ∀ x ∈ es.toList, x.born < clk) (hnd : (es.toList.map (·.born)).Nodup) (hoc : ∀ x ∈ es.toList, valE x = x.val) (hsz : es.size ≤ 60) (w : World)
    (hBm : w.heap[Bm]? = some (.cells #[.map (some B)] 138)) (hB : w.heap[B]? = some (.map es clk)) :
    Calls Try.prog 111 #[.func (.func 162) #[] #[.pointer (some ⟨Bm, 0, none⟩)]] w fun e w' => ∃ (v : Value) (ys : List MapEntry), e = .returned v ∧ ys.Perm es.toList ∧ w'.ownsRow w.heap.size 30 1 v ys.length (ys.map valE) ∧ Below w.heap.size w w' := by
  have HC := hidP (iAppendSeq Bm B clk es hbn hnd hoc hsz w hBm hB)
  clear hBm hB hbn hnd hoc
  go_enter Try.func111, Try.ntmps111
  go_wp2_with fail
  refine HC.out.mono ?_
  rintro e w1 ⟨v, ys, rfl, h1, h2, h3⟩
  have HE := hidP (And.intro h1 (And.intro h2 h3))
  clear h1 h2 h3
  go_wp2_with fail
  go_ret
  exact ⟨v, ys, rfl, HE.out⟩

end Go.Proofs.Ytodielfilhodeaa
