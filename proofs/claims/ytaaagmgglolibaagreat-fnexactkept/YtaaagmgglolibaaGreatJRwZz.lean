/-
  Rows of rows of numbers that come in: what they read as, and the laws' own helpers over them (szInt64SS, toInt64SS, eqInt64SS, markInt64SS).
  Are marks and rows small enough, one behind the other (szMarkS, szInt64SS).
  A web and a mark that came in, as the frame tells of them.
  The program's slices.Equal and slices.EqualFunc over rows of rows.
-/
import Derived.Test.YtaaagmgglolibaaGreatMathZz
import Derived.Test.YtaaagmgglolibaaGreatGKeepZz
import Derived.Test.YtaaagmgglolibaaGreatMArgsZz
namespace Go.Proofs.YtaaagmgglolibaaGreat
open Go Go.RowKit Go.Deep

/-- A row of slices, each reads as its list. -/
def CSeg (w : World) (b off : Nat) (ls : List (List Int)) : Prop := ∀ i, i < ls.length → ∃ a c, w.cell? ⟨b, off + i, none⟩ = some (.slice a (cn ls i).length c) ∧ View w a (cn ls i)
def CView (w : World) (ao : Option Addr) (ls : List (List Int)) : Prop := ls = [] ∨ ∃ b off, ao = some ⟨b, off, none⟩ ∧ b < w.heap.size ∧ CSeg w b off ls
def CSmall (ls : List (List Int)) : Prop := ls.length ≤ 1048576 ∧ ∀ i, (cn ls i).length ≤ 1048576
theorem CSeg.below {w w' : World} {B b off : Nat} {ls : List (List Int)} (h : CSeg w b off ls) (hb : b < B) (hB : w.heap.size ≤ B) (hw : Below B w w') : CSeg w' b off ls := fun i hi => by
  obtain ⟨a, c, h1, h2⟩ := h i hi
  exact ⟨a, c, (hw.cell (p := ⟨b, off + i, none⟩) hb).trans h1, h2.below hB hw⟩
theorem CView.below {w w' : World} {B : Nat} {ao : Option Addr} {ls : List (List Int)} (h : CView w ao ls) (hB : w.heap.size ≤ B) (hw : Below B w w') : CView w' ao ls := by
  rcases h with h | ⟨b, off, e, hb, hs⟩
  · exact Or.inl h
  · exact Or.inr ⟨b, off, e, Nat.lt_of_lt_of_le hb hw.size, hs.below (Nat.lt_of_lt_of_le hb hB) hB hw⟩
theorem CView.next {w w' : World} {ao : Option Addr} {ls : List (List Int)} (h : CView w ao ls) (hw : Below w.heap.size w w') : CView w' ao ls := h.below (Nat.le_refl _) hw
theorem CView.drewN {w : World} {ao : Option Addr} {ls : List (List Int)} (h : CView w ao ls) (n : Nat) : CView (w.drewN n) ao ls := h
theorem CSeg.drewN {w : World} {b off : Nat} {ls : List (List Int)} (h : CSeg w b off ls) (n : Nat) : CSeg (w.drewN n) b off ls := h
theorem CView.seg {w : World} {ao : Option Addr} {ls : List (List Int)} (h : CView w ao ls) (h0 : 0 < ls.length) : ∃ b off, ao = some ⟨b, off, none⟩ ∧ b < w.heap.size ∧ CSeg w b off ls := by
  rcases h with h | h
  · subst h; simp at h0
  · exact h
theorem LView.cview {w : World} {ao : Option Addr} {ls : List (List Int)} (h : LView w ao ls) : CView w ao ls :=
  h.imp id fun ⟨b, e, hb, hs⟩ => ⟨b, 0, e, hb, fun i hi => by
    obtain ⟨a, c, h1, h2⟩ := hs i hi
    rw [cn_at hi, Nat.zero_add]
    exact ⟨a, c, h1, h2⟩⟩

/-- A row of n slices of the call's own, the first k filled in. -/
def COwnAt (w : World) (b off : Nat) (l : List Int) : Prop := ∃ g, b < g ∧ w.cell? ⟨b, off, none⟩ = some (.slice (some ⟨g, 0, none⟩) l.length l.length) ∧ Own w g l
def CPart (w : World) (b k n : Nat) (ls : List (List Int)) : Prop := b < w.heap.size ∧ (∀ i, i < k → COwnAt w b i (cn ls i)) ∧ (∀ j, k ≤ j → j < n → (∃ v, w.cell? ⟨b, j, none⟩ = some v)) ∧ ∀ j, w.frozen? ⟨b, j, none⟩ = false
theorem COwnAt.below {w w' : World} {B b off : Nat} {l : List Int} (h : COwnAt w b off l) (hB : w.heap.size ≤ B) (hb : b < w.heap.size) (hw : Below B w w') : COwnAt w' b off l := by
  obtain ⟨g, hg, h1, ho⟩ := h
  exact ⟨g, hg, (hw.cell (p := ⟨b, off, none⟩) (Nat.lt_of_lt_of_le hb hB)).trans h1, ho.below (Nat.lt_of_lt_of_le ho.lt hB) hw⟩
theorem CPart.below {w w' : World} {B b k n : Nat} {ls : List (List Int)} (h : CPart w b k n ls) (hB : w.heap.size ≤ B) (hw : Below B w w') : CPart w' b k n ls :=
  ⟨Nat.lt_of_lt_of_le h.1 hw.size, fun i hi => (h.2.1 i hi).below hB h.1 hw, fun j h1 h2 => by
    obtain ⟨v, hv⟩ := h.2.2.1 j h1 h2
    exact ⟨v, (hw.cell (p := ⟨b, j, none⟩) (Nat.lt_of_lt_of_le h.1 hB)).trans hv⟩, fun j => (hw.frozen (p := ⟨b, j, none⟩) (Nat.lt_of_lt_of_le h.1 hB)).trans (h.2.2.2 j)⟩
theorem CPart.step {w : World} {b k n g : Nat} {ls : List (List Int)} (h : CPart w b k n ls) (hk : k < n) (hg : b < g) (ho : Own w g (cn ls k)) :
    CPart (w.setCell ⟨b, k, none⟩ (.slice (some ⟨g, 0, none⟩) (cn ls k).length (cn ls k).length)) b (k + 1) n ls := by
  obtain ⟨hb, hall, hrest, hfr⟩ := h
  obtain ⟨v0, e0⟩ := hrest k (Nat.le_refl _) hk
  refine ⟨by rw [setCell_size]; exact hb, fun i hi => ?_, fun j h1 h2 => ?_, fun j => by rw [World.frozen?_setCell]; exact hfr j⟩
  · rcases Nat.lt_or_ge i k with h | h
    · obtain ⟨g', hg', c1, o'⟩ := hall i h
      exact ⟨g', hg', by rw [cell_setOther _ _ _ _ _ (by omega)]; exact c1, o'.setOther (by simp; omega) _⟩
    · obtain rfl : i = k := by omega
      exact ⟨g, hg, World.cell?_setCell_same _ _ _ e0, ho.setOther (by simp; omega) _⟩
  · rw [cell_setOther _ _ _ _ _ (by omega)]
    exact hrest j (by omega) h2
theorem CPart.view {w : World} {b : Nat} {ls : List (List Int)} (h : CPart w b ls.length ls.length ls) : CView w (some ⟨b, 0, none⟩) ls :=
  Or.inr ⟨b, 0, rfl, h.1, fun i hi => by
    obtain ⟨g, _, c1, o⟩ := h.2.1 i hi
    rw [Nat.zero_add]
    exact ⟨_, _, c1, o.view⟩⟩
theorem CPart.start (w : World) (z : Array Value) (t : TypeId) (n : Nat) (ls : List (List Int)) : CPart (w.alloc (.cells (madeCells z n) t)) w.heap.size 0 n ls :=
  ⟨by simp, fun i hi => by omega, fun j _ h2 => by
    rw [World.cell?_alloc_at _ _ _ _ rfl]
    exact ⟨_, Array.getElem?_eq_getElem (by rw [size_madeCells]; exact h2)⟩, fun j => World.frozen?_alloc_at _ _ _ _ rfl⟩

set_option maxHeartbeats 800000 in
theorem toCS_seg (b off cap : Nat) (ls : List (List Int)) (w : World) (hs : CSeg w b off ls) (hb : b < w.heap.size) (hsm : CSmall ls) :
    Calls Tryz.prog 267 #[.slice (some ⟨b, off, none⟩) ls.length cap] w fun e w' => e = .returned (.slice (some ⟨w.heap.size, 0, none⟩) ls.length ls.length) ∧ CPart w' w.heap.size ls.length ls.length ls ∧ Below w.heap.size w w' := by
  obtain ⟨hn, hat⟩ := hsm
  have hmk := run_make_rows (P := Tryz.prog) 45 27 (.slice none 0 0) 1 24 Tryz.underlying45 Tryz.infoL .i64 .i64 ls.length (by omega) (by omega)
  rw [Nat.mul_one] at hmk
  go_enter Tryz.func267, Tryz.ntmps267
  go_wp2
  clear hmk
  go_loopw [4] (fun i wr => ∃ k : Nat, k ≤ ls.length ∧ i = .int .i64 k ∧ CPart wr w.heap.size k ls.length ls ∧ Below w.heap.size w wr) (fun i _ => ls.length - (intOf i).toNat)
  case atStart => exact ⟨0, Nat.zero_le _, rfl, CPart.start w _ _ _ _, (Below.refl _ _).alloc (Nat.le_refl _) _⟩
  case round =>
    obtain ⟨k, hk, rfl, hp, L⟩ := hrel
    by_cases hlt : k < ls.length
    · obtain ⟨ao, cap', hc1, hv⟩ := (hs.below hb (Nat.le_refl _) L) k hlt
      have hz := L.size
      have hp1 := hp.1
      go_wp2_with fail
      refine (toS ao cap' (cn ls k) _ hv (hat k)).mono ?_
      rintro e w1 ⟨g, rfl, o1, hg, L1⟩
      have hp' := hp.below (Nat.le_refl _) L1
      have L2 := L.trans (L1.mono hz)
      obtain ⟨v0, e0⟩ := hp'.2.2.1 k (Nat.le_refl _) hlt
      have f0 := hp'.2.2.2 k
      have HS := hidP (hp'.step hlt (by omega) o1)
      have HL := hidP L2
      clear hp hp' L L1 L2 o1 hc1 hv
      go_wp2_with fail
      go_roundw
      case rel => exact ⟨k + 1, by omega, by go_num, HS.out, (HL.out.setCell (by simp) _)⟩
      case measure => simp [intOf]; omega
    · go_wp2
      go_ret
      obtain rfl : k = ls.length := by omega
      exact ⟨rfl, hp, L⟩

set_option maxHeartbeats 400000 in
theorem toCS_nil (ao : Option Addr) (cap : Nat) (w : World) :
    Calls Tryz.prog 267 #[.slice ao 0 cap] w fun e w' => e = .returned (.slice (some ⟨w.heap.size, 0, none⟩) 0 0) ∧ w' = w.alloc (.cells #[] 27) := by
  have hmk : ∀ w, (Instr.makeSlice 45 (.int .i64 0) (.int .i64 0)).run Tryz.prog w = .ok (.slice (some ⟨w.heap.size, 0, none⟩) 0 0) (w.alloc (.cells #[] 27)) := fun _ => by kernel_rfl
  go_enter Tryz.func267, Tryz.ntmps267
  go_wp2
  clear hmk
  refine wp_loop_rounds 1 ?_
  rw [rounds_succ]
  go_wp2
  go_ret
  exact ⟨rfl, rfl⟩

/-- toInt64SS: new rows that read as what was given. -/
theorem toCS (ao : Option Addr) (cap : Nat) (ls : List (List Int)) (w : World) (hv : CView w ao ls) (hsm : CSmall ls) :
    Calls Tryz.prog 267 #[.slice ao ls.length cap] w fun e w' => ∃ b, e = .returned (.slice (some ⟨b, 0, none⟩) ls.length ls.length) ∧ CPart w' b ls.length ls.length ls ∧ w.heap.size ≤ b ∧ Below w.heap.size w w' := by
  rcases hv with rfl | ⟨b, off, rfl, hb, hs⟩
  · refine (toCS_nil ao cap w).mono ?_
    rintro e w' ⟨rfl, rfl⟩
    exact ⟨_, rfl, ⟨by simp, fun i hi => by simp at hi, fun j _ h2 => by simp at h2, fun j => World.frozen?_alloc_at _ _ _ _ rfl⟩, Nat.le_refl _, (Below.refl _ _).alloc (Nat.le_refl _) _⟩
  · refine (toCS_seg b off cap ls w hs hb hsm).mono ?_
    rintro e w' ⟨rfl, hp, L⟩
    exact ⟨_, rfl, hp, Nat.le_refl _, L⟩

set_option maxHeartbeats 1000000 in
theorem eqCS (ao ao' : Option Addr) (cap cap' : Nat) (ls : List (List Int)) (w : World) (hv : CView w ao ls) (hv' : CView w ao' ls) (hsm : CSmall ls) :
    Calls Tryz.prog 268 #[.slice ao ls.length cap, .slice ao' ls.length cap'] w fun e w' => e = .returned (.bool true) ∧ ∃ n, w' = w.drewN n := by
  have hlb : ((ls.length : Int) != (ls.length : Int)) = false := by simp
  have hn := hsm.1
  have HV := hidP hv
  have HV' := hidP hv'
  have HAT := hidP hsm.2
  clear hv hv' hsm
  go_enter Tryz.func268, Tryz.ntmps268
  go_wp2_with fail
  go_loopw [5] (fun i wr => ∃ k : Nat, k ≤ ls.length ∧ i = .int .i64 k ∧ ∃ n, wr = w.drewN n) (fun i _ => ls.length - (intOf i).toNat)
  case atStart => exact ⟨0, Nat.zero_le _, rfl, 0, rfl⟩
  case round =>
    obtain ⟨k, hk, rfl, hw⟩ := hrel
    have HW := hidP hw
    clear hw
    by_cases hlt : k < ls.length
    · have v1 : CView wr ao ls := by obtain ⟨n, rfl⟩ := HW.out; exact HV.out.drewN n
      have v2 : CView wr ao' ls := by obtain ⟨n, rfl⟩ := HW.out; exact HV'.out.drewN n
      obtain ⟨b, off, rfl, hb, s1⟩ := v1.seg (by omega)
      obtain ⟨b', off', rfl, hb', s2⟩ := v2.seg (by omega)
      obtain ⟨a, c, c1, va⟩ := s1 k hlt
      obtain ⟨a', c', c2, va'⟩ := s2 k hlt
      have HE := hidP (fun n => eqS a a' c c' (cn ls k) (cn ls k) (wr.drewN n) (va.drewN n) (va'.drewN n) (HAT.out k))
      have hse : decide (cn ls k = cn ls k) = true := by simp
      rw [hse] at HE
      have hi0 : (0 : Int) ≤ (k : Int) := Int.natCast_nonneg _
      have hi1 : (k : Int) < (ls.length : Int) := by omega
      clear va va' v1 v2 s1 s2 hse
      generalize cn ls k = x at *
      go_wp2_with fail
      go_quiet (first | (go_at_call 77; exact Calls.quiet_of (HE.out _)))
      go_wp2_with fail
      go_roundw
      case rel => exact ⟨k + 1, by omega, by go_num, by obtain ⟨n, hn⟩ := HW.out; exact ⟨n + nq, by rw [hn]; simp⟩⟩
      case measure => simp [intOf]; omega
    · go_wp2_with fail
      go_ret
      exact ⟨rfl, HW.out⟩

/-- Rows of the call's own, of whatever numbers: what writing over them needs. -/
def COver (w : World) (b hi : Nat) (ls : List (List Int)) : Prop := b < w.heap.size ∧ b < hi ∧
  ∀ j, j < ls.length → ∃ g xs, b < g ∧ g < hi ∧ w.cell? ⟨b, j, none⟩ = some (.slice (some ⟨g, 0, none⟩) (cn ls j).length (cn ls j).length) ∧ xs.length = (cn ls j).length ∧ Own w g xs
theorem CPart.over {w : World} {b : Nat} {ls : List (List Int)} (h : CPart w b ls.length ls.length ls) : COver w b w.heap.size ls :=
  ⟨h.1, h.1, fun j hj => by
    obtain ⟨g, hg, c1, o⟩ := h.2.1 j hj
    exact ⟨g, cn ls j, hg, o.lt, c1, rfl, o⟩⟩
theorem COver.marked {w w' : World} {b hi g : Nat} {ls : List (List Int)} {xs ys : List Int} (h : COver w b hi ls) (hb : b < g) (ho : Own w g xs) (hg : w.grownBy w' (some g)) (ho' : Own w' g ys) (hl : ys.length = xs.length) : COver w' b hi ls := by
  obtain ⟨h1, h2, h4⟩ := h
  have hne : some b ≠ some g := fun e => by injection e with e; omega
  refine ⟨Nat.lt_of_lt_of_le h1 hg.size, h2, fun j hj => ?_⟩
  obtain ⟨g2, zs, hg1, hg2, c1, hl2, o⟩ := h4 j hj
  refine ⟨g2, ?_⟩
  by_cases e : g2 = g
  · subst e
    have hx : xs.length = zs.length := by
      unfold Own at ho o
      rw [ho] at o
      injection o with o
      injection o with o
      have := congrArg Array.size o
      simpa [rowC] using this
    exact ⟨ys, hg1, hg2, (cell_grown h1 hg hne).trans c1, by omega, ho'⟩
  · exact ⟨zs, hg1, hg2, (cell_grown h1 hg hne).trans c1, hl2, o.grown hg e⟩
theorem COver.below {w w' : World} {b hi : Nat} {ls : List (List Int)} (h : COver w b hi ls) (hh : hi ≤ w.heap.size) (hb : Below w.heap.size w w') : COver w' b hi ls := by
  obtain ⟨h1, h2, h4⟩ := h
  refine ⟨Nat.lt_of_lt_of_le h1 hb.size, h2, fun j hj => ?_⟩
  obtain ⟨g, xs, hg1, hg2, c1, hl, o⟩ := h4 j hj
  exact ⟨g, xs, hg1, hg2, (hb.cell (p := ⟨b, j, none⟩) h1).trans c1, hl, o.below (Nat.lt_of_lt_of_le hg2 hh) hb⟩
theorem rows_view {H : Type} {enc : TypeId × Value → H} {W : World} {n : Nat} {a : Option Addr} {len cap : Nat} {x : DataW H × List MemPlace} (h : DataW.trod enc Tryz.prog W 0 (fun _ => true) true n 45 [.slice a len cap] = some x) :
    ∃ ls : List (List Int), len = ls.length ∧ CView W a ls ∧ ls.length ≤ maxLen ∧ ∀ i, (cn ls i).length ≤ maxLen := by
  rcases open_slice1 Tryz.underlying45 (by kernel_rfl) h with ⟨hcs, _⟩ | ⟨A, l, c, m, k, V, D, P0, hcs, _, hl, hm, hmm, _, hall⟩
  · simp at hcs
    obtain ⟨rfl, rfl, rfl⟩ := hcs
    exact ⟨[], rfl, Or.inl rfl, Nat.zero_le _, fun i => by simp [cn]⟩
  · simp at hcs
    obtain ⟨rfl, rfl, rfl⟩ := hcs
    simp at hmm
    subst hmm
    have each : ∀ i, i < len → ∃ q : List Int, (∃ ao ca, W.cell? (A.add i) = some (.slice ao q.length ca) ∧ View W ao q) ∧ q.length ≤ maxLen := by
      intro i hi
      obtain ⟨e0, t0⟩ := hall i (by omega)
      obtain ⟨xs, ao, ca, hv1, hv, hx⟩ := row_view t0
      exact ⟨xs, ⟨ao, ca, by rw [e0, hv1], hv⟩, hx⟩
    obtain ⟨q, hq⟩ := choose_lt each
    have hml : ((List.range len).map q).length = len := by simp
    have hnth : ∀ i, i < len → cn ((List.range len).map q) i = q i := fun i hi => by simp [cn, List.getD, hi]
    refine ⟨(List.range len).map q, hml.symm, ?_, by rw [hml]; omega, fun i => ?_⟩
    · rcases Nat.eq_zero_or_pos len with h0 | h0
      · subst h0; exact Or.inl (by simp)
      · obtain ⟨b, off, spot⟩ := A
        obtain ⟨⟨ao, ca, hc, _⟩, _⟩ := hq 0 h0
        have hspot : spot = none := by simpa [Addr.add] using World.cell?_spot hc
        subst hspot
        refine Or.inr ⟨b, off, rfl, by simpa [Addr.add] using cell_lt hc, fun i hi => ?_⟩
        rw [hml] at hi
        rw [hnth i hi]
        obtain ⟨⟨ao, ca, e1, hv⟩, _⟩ := hq i hi
        rw [Go.WideShapes.add_plain] at e1
        exact ⟨ao, ca, e1, hv⟩
    · rcases Nat.lt_or_ge i len with hi | hi
      · rw [hnth i hi]; exact (hq i hi).2
      · simp [cn, List.getD, hi]

end Go.Proofs.YtaaagmgglolibaaGreat
namespace Go.Proofs.YtaaagmgglolibaaGreat
open Go Go.RowKit

set_option maxHeartbeats 400000 in
theorem szCS_long (ao : Option Addr) (n cap : Nat) (left : Int) (w : World) (hn : n ≤ maxLen) (h0 : 0 ≤ left) (h : left < n) :
    Calls Tryz.prog 266 #[.slice ao n cap, .int .i64 left] w fun e w' => e = .returned (.int .i64 (-1)) ∧ w' = w := by
  unfold maxLen at hn
  have ht : left - n < 0 := by omega
  go_enter Tryz.func266, Tryz.ntmps266
  go_wp2
  go_ret
  exact ⟨rfl, rfl⟩

set_option maxHeartbeats 400000 in
theorem szCS_nil (ao : Option Addr) (cap : Nat) (left : Int) (w : World) (h0 : 0 ≤ left) (h1 : left ≤ 1048576) :
    Calls Tryz.prog 266 #[.slice ao 0 cap, .int .i64 left] w fun e w' => e = .returned (.int .i64 left) ∧ w' = w := by
  have ht : ¬ left < 0 := by omega
  go_enter Tryz.func266, Tryz.ntmps266
  go_wp2
  refine wp_loop_rounds 1 ?_
  rw [rounds_succ]
  go_wp2
  go_ret
  exact ⟨rfl, rfl⟩

end Go.Proofs.YtaaagmgglolibaaGreat
namespace Go.Proofs.YtaaagmgglolibaaGreat
open Go Go.RowKit Go.Deep

end Go.Proofs.YtaaagmgglolibaaGreat
namespace Go.Proofs.YtaaagmgglolibaaGreat
open Go Go.RowKit

set_option maxHeartbeats 400000 in
theorem jeqS_ne (ao ao' : Option Addr) (n n' cap cap' : Nat) (w : World) (h : n ≠ n') :
    Calls Tryz.prog 201 #[.slice ao n cap, .slice ao' n' cap'] w fun e w' => e = .returned (.bool false) ∧ w' = w := by
  have hlb : ((n : Int) != (n' : Int)) = true := by simp; omega
  go_enter Tryz.func201, Tryz.ntmps201
  go_wp2
  go_ret
  exact ⟨rfl, rfl⟩

set_option maxHeartbeats 400000 in
theorem jeqS_nil (ao ao' : Option Addr) (cap cap' : Nat) (w : World) :
    Calls Tryz.prog 201 #[.slice ao 0 cap, .slice ao' 0 cap'] w fun e w' => e = .returned (.bool true) ∧ w' = w := by
  go_enter Tryz.func201, Tryz.ntmps201
  go_wp2
  refine wp_loop_rounds 1 ?_
  rw [rounds_succ]
  go_wp2
  go_ret
  exact ⟨rfl, rfl⟩

set_option maxHeartbeats 400000 in
theorem jeqS_seg (b off cap b' off' cap' : Nat) (xs ys : List Int) (w : World) (hs : Seg w b off xs) (hs' : Seg w b' off' ys) (hn : xs.length ≤ 1048576) (hl : xs.length = ys.length) :
    Calls Tryz.prog 201 #[.slice (some ⟨b, off, none⟩) xs.length cap, .slice (some ⟨b', off', none⟩) ys.length cap'] w fun e w' => e = .returned (.bool (decide (xs = ys))) ∧ ∃ n, w' = w.drewN n := by
  have hlb : ((xs.length : Int) != (ys.length : Int)) = false := by simp [hl]
  have HL : Hid (xs.length = ys.length) := hl
  have hn' : ys.length ≤ 1048576 := by omega
  clear hl
  go_enter Tryz.func201, Tryz.ntmps201
  go_wp2
  go_loopw [13] (fun i wr => ∃ k : Nat, k ≤ xs.length ∧ i = .int .i64 k ∧ (∀ j, j < k → nth xs j = nth ys j) ∧ ∃ n, wr = w.drewN n) (fun i _ => xs.length - (intOf i).toNat)
  case atStart => exact ⟨0, Nat.zero_le _, rfl, fun j hj => by omega, 0, rfl⟩
  case round =>
    obtain ⟨k, hk, rfl, hall, n, rfl⟩ := hrel
    have HA : Hid (∀ j, j < k → nth xs j = nth ys j) := hall
    clear hall
    by_cases hlt : k < xs.length
    · have hc := hs k hlt
      have hlt' : k < ys.length := by have := HL.out; omega
      have hc' := hs' k hlt'
      by_cases he : nth xs k = nth ys k
      · have heb : (nth xs k != nth ys k) = false := by simp [he]
        have HE : Hid (nth xs k = nth ys k) := he
        clear he
        go_wp2
        go_quiet (fail)
        go_wp2
        go_roundw
        case rel => exact ⟨k + 1, by omega, by go_num, fun j hj => by
          rcases Nat.lt_or_ge j k with h | h
          · exact HA.out j h
          · rw [show j = k by omega]; exact HE.out, _, rfl⟩
        case measure => simp [intOf]; omega
      · have heb : (nth xs k != nth ys k) = true := by simp [he]
        have HE : Hid (¬ nth xs k = nth ys k) := he
        clear he
        go_wp2
        go_quiet (fail)
        go_wp2
        go_ret
        exact ⟨ret_bool (Eq.symm (decide_eq_false (fun h => HE.out (by rw [h])))), n + nq, by simp⟩
    · go_wp2
      go_ret
      obtain rfl : k = xs.length := by omega
      exact ⟨ret_bool (Eq.symm (decide_eq_true (eq_of_nth HL.out HA.out))), _, rfl⟩

theorem jeqS (ao ao' : Option Addr) (cap cap' : Nat) (xs ys : List Int) (w : World) (hv : View w ao xs) (hv' : View w ao' ys) (hn : xs.length ≤ 1048576) :
    Calls Tryz.prog 201 #[.slice ao xs.length cap, .slice ao' ys.length cap'] w fun e w' => e = .returned (.bool (decide (xs = ys))) ∧ ∃ n, w' = w.drewN n := by
  by_cases hl : xs.length = ys.length
  · rcases hv with rfl | ⟨b, off, rfl, _, hs⟩
    · obtain rfl : ys = [] := List.eq_nil_of_length_eq_zero (by simpa using hl.symm)
      refine (jeqS_nil ao ao' cap cap' w).mono ?_
      rintro e w' ⟨rfl, rfl⟩
      exact ⟨rfl, 0, rfl⟩
    · rcases hv' with rfl | ⟨b', off', rfl, _, hs'⟩
      · obtain rfl : xs = [] := List.eq_nil_of_length_eq_zero (by simpa using hl)
        refine (jeqS_nil _ ao' cap cap' w).mono ?_
        rintro e w' ⟨rfl, rfl⟩
        exact ⟨rfl, 0, rfl⟩
      · exact jeqS_seg b off cap b' off' cap' xs ys w hs hs' hn hl
  · refine (jeqS_ne ao ao' xs.length ys.length cap cap' w hl).mono ?_
    rintro e w' ⟨rfl, rfl⟩
    exact ⟨ret_bool (Eq.symm (decide_eq_false (fun h => hl (by rw [h])))), 0, rfl⟩

end Go.Proofs.YtaaagmgglolibaaGreat
