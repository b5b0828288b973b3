/-
  Rows of rows of numbers that come in: what they read as, and the laws' own helpers over them (szInt64SS, toInt64SS, eqInt64SS, markInt64SS).
  The given l10Told, l10Given, l10Mean of chapter 10.
  The given l10Mean: the number with the least sum of squares, the less of alike ones.
  The program's slices.Equal and slices.EqualFunc over rows of rows.
  Are marks and rows small enough, one behind the other (szMarkS, szInt64SS).
  What stays while the law's own helpers write over what it handed in and what it was handed.
-/
import Derived.Test.YthcjkneifkmkdaaMathZz
import Derived.Test.YthcjkneifkmkdaaGKeepZz
import Derived.Test.YthcjkneifkmkdaaMArgsZz
import Derived.Test.YthcjkneifkmkdaaMCopyZz
namespace Go.Proofs.Ythcjkneifkmkdaa
open Go Go.RowKit Go.Deep

/-- A row of slices, each reads as its list. -/
def CSeg (w : World) (b off : Nat) (ls : List (List Int)) : Prop := ∀ i, i < ls.length → ∃ a c, w.cell? ⟨b, off + i, none⟩ = some (.slice a (cn ls i).length c) ∧ View w a (cn ls i)
def CView (w : World) (ao : Option Addr) (ls : List (List Int)) : Prop := ls = [] ∨ ∃ b off, ao = some ⟨b, off, none⟩ ∧ b < w.heap.size ∧ CSeg w b off ls
def CSmall (ls : List (List Int)) : Prop := ls.length ≤ 1048576 ∧ ∀ i, (cn ls i).length ≤ 1048576
theorem CSeg.below {w w' : World} {B b off : Nat} {ls : List (List Int)} (h : CSeg w b off ls) (hb : b < B) (hB : w.heap.size ≤ B) (hw : Below B w w') : CSeg w' b off ls := fun i hi => by
  obtain ⟨a, c, h1, h2⟩ := h i hi
  exact ⟨a, c, (hw.cell (p := ⟨b, off + i, none⟩) hb).trans h1, h2.below hB hw⟩
theorem CView.below {w w' : World} {B : Nat} {ao : Option Addr} {ls : List (List Int)} (h : CView w ao ls) (hB : w.heap.size ≤ B) (hw : Below B w w') : CView w' ao ls := by
  rcases h with h | ⟨b, off, e, hb, hs⟩
  · exact Or.inl h
  · exact Or.inr ⟨b, off, e, Nat.lt_of_lt_of_le hb hw.size, hs.below (Nat.lt_of_lt_of_le hb hB) hB hw⟩
theorem CView.next {w w' : World} {ao : Option Addr} {ls : List (List Int)} (h : CView w ao ls) (hw : Below w.heap.size w w') : CView w' ao ls := h.below (Nat.le_refl _) hw
theorem CView.drewN {w : World} {ao : Option Addr} {ls : List (List Int)} (h : CView w ao ls) (n : Nat) : CView (w.drewN n) ao ls := h
theorem CSeg.drewN {w : World} {b off : Nat} {ls : List (List Int)} (h : CSeg w b off ls) (n : Nat) : CSeg (w.drewN n) b off ls := h
theorem CView.seg {w : World} {ao : Option Addr} {ls : List (List Int)} (h : CView w ao ls) (h0 : 0 < ls.length) : ∃ b off, ao = some ⟨b, off, none⟩ ∧ b < w.heap.size ∧ CSeg w b off ls := by
  rcases h with h | h
  · subst h; simp at h0
  · exact h
theorem LView.cview {w : World} {ao : Option Addr} {ls : List (List Int)} (h : LView w ao ls) : CView w ao ls :=
  h.imp id fun ⟨b, e, hb, hs⟩ => ⟨b, 0, e, hb, fun i hi => by
    obtain ⟨a, c, h1, h2⟩ := hs i hi
    rw [cn_at hi, Nat.zero_add]
    exact ⟨a, c, h1, h2⟩⟩

/-- A row of n slices of the call's own, the first k filled in. -/
def COwnAt (w : World) (b off : Nat) (l : List Int) : Prop := ∃ g, b < g ∧ w.cell? ⟨b, off, none⟩ = some (.slice (some ⟨g, 0, none⟩) l.length l.length) ∧ Own w g l
def CPart (w : World) (b k n : Nat) (ls : List (List Int)) : Prop := b < w.heap.size ∧ (∀ i, i < k → COwnAt w b i (cn ls i)) ∧ (∀ j, k ≤ j → j < n → (∃ v, w.cell? ⟨b, j, none⟩ = some v)) ∧ ∀ j, w.frozen? ⟨b, j, none⟩ = false
theorem COwnAt.below {w w' : World} {B b off : Nat} {l : List Int} (h : COwnAt w b off l) (hB : w.heap.size ≤ B) (hb : b < w.heap.size) (hw : Below B w w') : COwnAt w' b off l := by
  obtain ⟨g, hg, h1, ho⟩ := h
  exact ⟨g, hg, (hw.cell (p := ⟨b, off, none⟩) (Nat.lt_of_lt_of_le hb hB)).trans h1, ho.below (Nat.lt_of_lt_of_le ho.lt hB) hw⟩
theorem CPart.below {w w' : World} {B b k n : Nat} {ls : List (List Int)} (h : CPart w b k n ls) (hB : w.heap.size ≤ B) (hw : Below B w w') : CPart w' b k n ls :=
  ⟨Nat.lt_of_lt_of_le h.1 hw.size, fun i hi => (h.2.1 i hi).below hB h.1 hw, fun j h1 h2 => by
    obtain ⟨v, hv⟩ := h.2.2.1 j h1 h2
    exact ⟨v, (hw.cell (p := ⟨b, j, none⟩) (Nat.lt_of_lt_of_le h.1 hB)).trans hv⟩, fun j => (hw.frozen (p := ⟨b, j, none⟩) (Nat.lt_of_lt_of_le h.1 hB)).trans (h.2.2.2 j)⟩
theorem CPart.step {w : World} {b k n g : Nat} {ls : List (List Int)} (h : CPart w b k n ls) (hk : k < n) (hg : b < g) (ho : Own w g (cn ls k)) :
    CPart (w.setCell ⟨b, k, none⟩ (.slice (some ⟨g, 0, none⟩) (cn ls k).length (cn ls k).length)) b (k + 1) n ls := by
  obtain ⟨hb, hall, hrest, hfr⟩ := h
  obtain ⟨v0, e0⟩ := hrest k (Nat.le_refl _) hk
  refine ⟨by rw [setCell_size]; exact hb, fun i hi => ?_, fun j h1 h2 => ?_, fun j => by rw [World.frozen?_setCell]; exact hfr j⟩
  · rcases Nat.lt_or_ge i k with h | h
    · obtain ⟨g', hg', c1, o'⟩ := hall i h
      exact ⟨g', hg', by rw [cell_setOther _ _ _ _ _ (by omega)]; exact c1, o'.setOther (by simp; omega) _⟩
    · obtain rfl : i = k := by omega
      exact ⟨g, hg, World.cell?_setCell_same _ _ _ e0, ho.setOther (by simp; omega) _⟩
  · rw [cell_setOther _ _ _ _ _ (by omega)]
    exact hrest j (by omega) h2
theorem CPart.view {w : World} {b : Nat} {ls : List (List Int)} (h : CPart w b ls.length ls.length ls) : CView w (some ⟨b, 0, none⟩) ls :=
  Or.inr ⟨b, 0, rfl, h.1, fun i hi => by
    obtain ⟨g, _, c1, o⟩ := h.2.1 i hi
    rw [Nat.zero_add]
    exact ⟨_, _, c1, o.view⟩⟩
theorem CPart.start (w : World) (z : Array Value) (t : TypeId) (n : Nat) (ls : List (List Int)) : CPart (w.alloc (.cells (madeCells z n) t)) w.heap.size 0 n ls :=
  ⟨by simp, fun i hi => by omega, fun j _ h2 => by
    rw [World.cell?_alloc_at _ _ _ _ rfl]
    exact ⟨_, Array.getElem?_eq_getElem (by rw [size_madeCells]; exact h2)⟩, fun j => World.frozen?_alloc_at _ _ _ _ rfl⟩

set_option maxHeartbeats 800000 in
theorem toCS_seg (b off cap : Nat) (ls : List (List Int)) (w : World) (hs : CSeg w b off ls) (hb : b < w.heap.size) (hsm : CSmall ls) :
    Calls Try.prog 25 #[.slice (some ⟨b, off, none⟩) ls.length cap] w fun e w' => e = .returned (.slice (some ⟨w.heap.size, 0, none⟩) ls.length ls.length) ∧ CPart w' w.heap.size ls.length ls.length ls ∧ Below w.heap.size w w' := by
  obtain ⟨hn, hat⟩ := hsm
  have hmk := run_make_rows (P := Try.prog) 25 29 (.slice none 0 0) 1 24 Try.underlying25 Try.infoL .i64 .i64 ls.length (by omega) (by omega)
  rw [Nat.mul_one] at hmk
  go_enter Try.func25, Try.ntmps25
  go_wp2
  clear hmk
  go_loopw [4] (fun i wr => ∃ k : Nat, k ≤ ls.length ∧ i = .int .i64 k ∧ CPart wr w.heap.size k ls.length ls ∧ Below w.heap.size w wr) (fun i _ => ls.length - (intOf i).toNat)
  case atStart => exact ⟨0, Nat.zero_le _, rfl, CPart.start w _ _ _ _, (Below.refl _ _).alloc (Nat.le_refl _) _⟩
  case round =>
    obtain ⟨k, hk, rfl, hp, L⟩ := hrel
    by_cases hlt : k < ls.length
    · obtain ⟨ao, cap', hc1, hv⟩ := (hs.below hb (Nat.le_refl _) L) k hlt
      have hz := L.size
      have hp1 := hp.1
      go_wp2_with fail
      refine (toS ao cap' (cn ls k) _ hv (hat k)).mono ?_
      rintro e w1 ⟨g, rfl, o1, hg, L1⟩
      have hp' := hp.below (Nat.le_refl _) L1
      have L2 := L.trans (L1.mono hz)
      obtain ⟨v0, e0⟩ := hp'.2.2.1 k (Nat.le_refl _) hlt
      have f0 := hp'.2.2.2 k
      have HS := hidP (hp'.step hlt (by omega) o1)
      have HL := hidP L2
      clear hp hp' L L1 L2 o1 hc1 hv
      go_wp2_with fail
      go_roundw
      case rel => exact ⟨k + 1, by omega, by go_num, HS.out, (HL.out.setCell (by simp) _)⟩
      case measure => simp [intOf]; omega
    · go_wp2
      go_ret
      obtain rfl : k = ls.length := by omega
      exact ⟨rfl, hp, L⟩

set_option maxHeartbeats 400000 in
theorem toCS_nil (ao : Option Addr) (cap : Nat) (w : World) :
    Calls Try.prog 25 #[.slice ao 0 cap] w fun e w' => e = .returned (.slice (some ⟨w.heap.size, 0, none⟩) 0 0) ∧ w' = w.alloc (.cells #[] 29) := by
  have hmk : ∀ w, (Instr.makeSlice 25 (.int .i64 0) (.int .i64 0)).run Try.prog w = .ok (.slice (some ⟨w.heap.size, 0, none⟩) 0 0) (w.alloc (.cells #[] 29)) := fun _ => by kernel_rfl
  go_enter Try.func25, Try.ntmps25
  go_wp2
  clear hmk
  refine wp_loop_rounds 1 ?_
  rw [rounds_succ]
  go_wp2
  go_ret
  exact ⟨rfl, rfl⟩

/-- toInt64SS: new rows that read as what was given. -/
theorem toCS (ao : Option Addr) (cap : Nat) (ls : List (List Int)) (w : World) (hv : CView w ao ls) (hsm : CSmall ls) :
    Calls Try.prog 25 #[.slice ao ls.length cap] w fun e w' => ∃ b, e = .returned (.slice (some ⟨b, 0, none⟩) ls.length ls.length) ∧ CPart w' b ls.length ls.length ls ∧ w.heap.size ≤ b ∧ Below w.heap.size w w' := by
  rcases hv with rfl | ⟨b, off, rfl, hb, hs⟩
  · refine (toCS_nil ao cap w).mono ?_
    rintro e w' ⟨rfl, rfl⟩
    exact ⟨_, rfl, ⟨by simp, fun i hi => by simp at hi, fun j _ h2 => by simp at h2, fun j => World.frozen?_alloc_at _ _ _ _ rfl⟩, Nat.le_refl _, (Below.refl _ _).alloc (Nat.le_refl _) _⟩
  · refine (toCS_seg b off cap ls w hs hb hsm).mono ?_
    rintro e w' ⟨rfl, hp, L⟩
    exact ⟨_, rfl, hp, Nat.le_refl _, L⟩

set_option maxHeartbeats 1000000 in
theorem eqCS (ao ao' : Option Addr) (cap cap' : Nat) (ls : List (List Int)) (w : World) (hv : CView w ao ls) (hv' : CView w ao' ls) (hsm : CSmall ls) :
    Calls Try.prog 28 #[.slice ao ls.length cap, .slice ao' ls.length cap'] w fun e w' => e = .returned (.bool true) ∧ ∃ n, w' = w.drewN n := by
  have hlb : ((ls.length : Int) != (ls.length : Int)) = false := by simp
  have hn := hsm.1
  have HV := hidP hv
  have HV' := hidP hv'
  have HAT := hidP hsm.2
  clear hv hv' hsm
  go_enter Try.func28, Try.ntmps28
  go_wp2_with fail
  go_loopw [5] (fun i wr => ∃ k : Nat, k ≤ ls.length ∧ i = .int .i64 k ∧ ∃ n, wr = w.drewN n) (fun i _ => ls.length - (intOf i).toNat)
  case atStart => exact ⟨0, Nat.zero_le _, rfl, 0, rfl⟩
  case round =>
    obtain ⟨k, hk, rfl, hw⟩ := hrel
    have HW := hidP hw
    clear hw
    by_cases hlt : k < ls.length
    · have v1 : CView wr ao ls := by obtain ⟨n, rfl⟩ := HW.out; exact HV.out.drewN n
      have v2 : CView wr ao' ls := by obtain ⟨n, rfl⟩ := HW.out; exact HV'.out.drewN n
      obtain ⟨b, off, rfl, hb, s1⟩ := v1.seg (by omega)
      obtain ⟨b', off', rfl, hb', s2⟩ := v2.seg (by omega)
      obtain ⟨a, c, c1, va⟩ := s1 k hlt
      obtain ⟨a', c', c2, va'⟩ := s2 k hlt
      have HE := hidP (fun n => eqS a a' c c' (cn ls k) (cn ls k) (wr.drewN n) (va.drewN n) (va'.drewN n) (HAT.out k))
      have hse : decide (cn ls k = cn ls k) = true := by simp
      rw [hse] at HE
      have hi0 : (0 : Int) ≤ (k : Int) := Int.natCast_nonneg _
      have hi1 : (k : Int) < (ls.length : Int) := by omega
      clear va va' v1 v2 s1 s2 hse
      generalize cn ls k = x at *
      go_wp2_with fail
      go_quiet (first | (go_at_call 26; exact Calls.quiet_of (HE.out _)))
      go_wp2_with fail
      go_roundw
      case rel => exact ⟨k + 1, by omega, by go_num, by obtain ⟨n, hn⟩ := HW.out; exact ⟨n + nq, by rw [hn]; simp⟩⟩
      case measure => simp [intOf]; omega
    · go_wp2_with fail
      go_ret
      exact ⟨rfl, HW.out⟩

/-- Rows of the call's own, of whatever numbers: what writing over them needs. -/
def COver (w : World) (b hi : Nat) (ls : List (List Int)) : Prop := b < w.heap.size ∧ b < hi ∧
  ∀ j, j < ls.length → ∃ g xs, b < g ∧ g < hi ∧ w.cell? ⟨b, j, none⟩ = some (.slice (some ⟨g, 0, none⟩) (cn ls j).length (cn ls j).length) ∧ xs.length = (cn ls j).length ∧ Own w g xs
theorem CPart.over {w : World} {b : Nat} {ls : List (List Int)} (h : CPart w b ls.length ls.length ls) : COver w b w.heap.size ls :=
  ⟨h.1, h.1, fun j hj => by
    obtain ⟨g, hg, c1, o⟩ := h.2.1 j hj
    exact ⟨g, cn ls j, hg, o.lt, c1, rfl, o⟩⟩
theorem COver.marked {w w' : World} {b hi g : Nat} {ls : List (List Int)} {xs ys : List Int} (h : COver w b hi ls) (hb : b < g) (ho : Own w g xs) (hg : w.grownBy w' (some g)) (ho' : Own w' g ys) (hl : ys.length = xs.length) : COver w' b hi ls := by
  obtain ⟨h1, h2, h4⟩ := h
  have hne : some b ≠ some g := fun e => by injection e with e; omega
  refine ⟨Nat.lt_of_lt_of_le h1 hg.size, h2, fun j hj => ?_⟩
  obtain ⟨g2, zs, hg1, hg2, c1, hl2, o⟩ := h4 j hj
  refine ⟨g2, ?_⟩
  by_cases e : g2 = g
  · subst e
    have hx : xs.length = zs.length := by
      unfold Own at ho o
      rw [ho] at o
      injection o with o
      injection o with o
      have := congrArg Array.size o
      simpa [rowC] using this
    exact ⟨ys, hg1, hg2, (cell_grown h1 hg hne).trans c1, by omega, ho'⟩
  · exact ⟨zs, hg1, hg2, (cell_grown h1 hg hne).trans c1, hl2, o.grown hg e⟩
theorem COver.below {w w' : World} {b hi : Nat} {ls : List (List Int)} (h : COver w b hi ls) (hh : hi ≤ w.heap.size) (hb : Below w.heap.size w w') : COver w' b hi ls := by
  obtain ⟨h1, h2, h4⟩ := h
  refine ⟨Nat.lt_of_lt_of_le h1 hb.size, h2, fun j hj => ?_⟩
  obtain ⟨g, xs, hg1, hg2, c1, hl, o⟩ := h4 j hj
  exact ⟨g, xs, hg1, hg2, (hb.cell (p := ⟨b, j, none⟩) h1).trans c1, hl, o.below (Nat.lt_of_lt_of_le hg2 hh) hb⟩
theorem COver.gin {w w' : World} {b hi lo' hi' : Nat} {ls : List (List Int)} (h : COver w b hi ls) (hb : GIn lo' hi' w w') (hd : hi' ≤ b) : COver w' b hi ls := by
  obtain ⟨h1, h2, h4⟩ := h
  refine ⟨Nat.lt_of_lt_of_le h1 hb.2.2.2.1, h2, fun j hj => ?_⟩
  obtain ⟨g, xs, hg1, hg2, c1, hl, o⟩ := h4 j hj
  refine ⟨g, xs, hg1, hg2, ?_, hl, hb.own o (Or.inr (by omega))⟩
  have e := hb.2.2.2.2 b h1 (Or.inr hd)
  simpa [World.cell?, e] using c1

set_option maxHeartbeats 1000000 in
theorem markCS (b hi cap : Nat) (k0 : Int) (ls : List (List Int)) (w : World) (hm : COver w b hi ls) (hsm : CSmall ls) (h0 : 1 ≤ k0) (h1 : k0 ≤ 2305843009213693952) :
    Calls Try.prog 30 #[.slice (some ⟨b, 0, none⟩) ls.length cap, .int .i64 k0] w fun e w' => (∃ k1 : Int, 1 ≤ k1 ∧ e = .returned (.int .i64 k1)) ∧ GIn b hi w w' := by
  obtain ⟨hn, hat⟩ := hsm
  go_enter Try.func30, Try.ntmps30
  go_wp2
  go_loopw [1, 5] (fun kk i wr => ∃ (k : Nat) (k1 : Int), k ≤ ls.length ∧ i = .int .i64 k ∧ kk = .int .i64 k1 ∧ 1 ≤ k1 ∧ k1 ≤ 2305843009213693952 + 1048576 * (k : Int) ∧ COver wr b hi ls ∧ GIn b hi w wr) (fun _ i _ => ls.length - (intOf i).toNat)
  case atStart => exact ⟨0, k0, Nat.zero_le _, rfl, rfl, h0, by omega, hm, GIn.refl _ _ _⟩
  case round =>
    obtain ⟨k, k1, hk, rfl, rfl, hk0, hk1, ho, hg⟩ := hrel
    by_cases hlt : k < ls.length
    · obtain ⟨g, xs, hbg, hgh, c1, hl, hown⟩ := ho.2.2 k hlt
      have HG := hidP hg
      have HO := hidP ho
      have HM := hidP (mark_big g k1 xs _ hown (by rw [hl]; exact hat k) (by omega) (by omega))
      have HL := hidP hl
      have HOW := hidP hown
      rw [hl] at HM
      have hatk := hat k
      clear ho hg hown hl
      go_wp2_with fail
      refine HM.out.mono ?_
      rintro e w1 ⟨rfl, ho1, hg1⟩
      have HO2 := hidP (HO.out.marked hbg HOW.out hg1 ho1 (by rw [tabL_length]; exact HL.out.symm))
      have HG2 := hidP (HG.out.grown hg1 (by omega) hgh)
      clear ho1 hg1 HO HG HM HOW
      go_wp2_with fail
      go_roundw
      case rel => exact ⟨k + 1, k1 + ((cn ls k).length : Int), by omega, by go_num, rfl, by omega, by omega, HO2.out, HG2.out⟩
      case measure => simp [intOf]; omega
    · go_wp2
      go_ret
      exact ⟨⟨k1, hk0, rfl⟩, hg⟩

theorem rows_view {H : Type} {enc : TypeId × Value → H} {W : World} {n : Nat} {a : Option Addr} {len cap : Nat} {x : DataW H × List MemPlace} (h : DataW.trod enc Try.prog W 0 (fun _ => true) true n 25 [.slice a len cap] = some x) :
    ∃ ls : List (List Int), len = ls.length ∧ CView W a ls ∧ ls.length ≤ maxLen ∧ ∀ i, (cn ls i).length ≤ maxLen := by
  rcases open_slice1 Try.underlying25 (by kernel_rfl) h with ⟨hcs, _⟩ | ⟨A, l, c, m, k, V, D, P0, hcs, _, hl, hm, hmm, _, hall⟩
  · simp at hcs
    obtain ⟨rfl, rfl, rfl⟩ := hcs
    exact ⟨[], rfl, Or.inl rfl, Nat.zero_le _, fun i => by simp [cn]⟩
  · simp at hcs
    obtain ⟨rfl, rfl, rfl⟩ := hcs
    simp at hmm
    subst hmm
    have each : ∀ i, i < len → ∃ q : List Int, (∃ ao ca, W.cell? (A.add i) = some (.slice ao q.length ca) ∧ View W ao q) ∧ q.length ≤ maxLen := by
      intro i hi
      obtain ⟨e0, t0⟩ := hall i (by omega)
      obtain ⟨xs, ao, ca, hv1, hv, hx⟩ := row_view t0
      exact ⟨xs, ⟨ao, ca, by rw [e0, hv1], hv⟩, hx⟩
    obtain ⟨q, hq⟩ := choose_lt each
    have hml : ((List.range len).map q).length = len := by simp
    have hnth : ∀ i, i < len → cn ((List.range len).map q) i = q i := fun i hi => by simp [cn, List.getD, hi]
    refine ⟨(List.range len).map q, hml.symm, ?_, by rw [hml]; omega, fun i => ?_⟩
    · rcases Nat.eq_zero_or_pos len with h0 | h0
      · subst h0; exact Or.inl (by simp)
      · obtain ⟨b, off, spot⟩ := A
        obtain ⟨⟨ao, ca, hc, _⟩, _⟩ := hq 0 h0
        have hspot : spot = none := by simpa [Addr.add] using World.cell?_spot hc
        subst hspot
        refine Or.inr ⟨b, off, rfl, by simpa [Addr.add] using cell_lt hc, fun i hi => ?_⟩
        rw [hml] at hi
        rw [hnth i hi]
        obtain ⟨⟨ao, ca, e1, hv⟩, _⟩ := hq i hi
        rw [Go.WideShapes.add_plain] at e1
        exact ⟨ao, ca, e1, hv⟩
    · rcases Nat.lt_or_ge i len with hi | hi
      · rw [hnth i hi]; exact (hq i hi).2
      · simp [cn, List.getD, hi]

end Go.Proofs.Ythcjkneifkmkdaa
namespace Go.Proofs.Ythcjkneifkmkdaa
open Go Go.RowKit

set_option maxRecDepth 100000 in
set_option maxHeartbeats 2000000 in
theorem sCtr (ao ao' : Option Addr) (cap cap' : Nat) (ms : List Mk) (cs : List (List Int)) (w : World) (hv : MView w ao ms) (hv' : CView w ao' cs) (hsm : MSmall ms) (hcm : CSmall cs) :
    Calls Try.prog 41 #[.slice ao ms.length cap, .slice ao' cs.length cap'] w fun e w' => e = .returned (.bool (ctrsB ms cs)) ∧ ∃ n, w' = w.drewN n := by
  have HM := hidP (sMarks ao cap ms w hv hsm)
  have hn := hsm.1
  have hn' := hcm.1
  rcases hm : marksB ms with _ | _
  · have HV := hidP (ctrsB_told (cs := cs) (toldB_bad (q := cn cs 0) hm))
    rw [hm] at HM
    go_enter Try.func41, Try.ntmps41
    go_wp2_with fail
    refine HM.out.mono ?_
    rintro e w1 ⟨rfl, n1, rfl⟩
    go_wp2_with fail
    go_ret
    exact ⟨ret_bool HV.out.symm, n1, rfl⟩
  · rw [hm] at HM
    by_cases h1 : 1 ≤ cs.length
    · by_cases h8 : cs.length ≤ 8
      · have hq1 : ¬ ((cs.length : Int) < 1) := by omega
        have hq8 : ¬ ((cs.length : Int) > 8) := by omega
        obtain ⟨b', off', rfl, hb', hs'⟩ := hv'.seg (by omega)
        have HS := hidP hs'
        have HAT := hidP hcm.2
        have HV := hidP hv
        have hpos : (0 : Int) < (cs.length : Int) := by omega
        have hpos2 : 0 < cs.length := by omega
        have HP : Hid (1 ≤ cs.length ∧ cs.length ≤ 8 ∧ marksB ms = true) := ⟨h1, h8, hm⟩
        clear hs' hv hv' hcm h1 h8 hm
        go_enter Try.func41, Try.ntmps41
        go_wp2_with fail
        refine HM.out.mono ?_
        rintro e w1 ⟨rfl, hw1⟩
        have HW1 := hidP hw1
        clear hw1 HM
        go_wp2_with fail
        go_loopw [5] (fun i wr => ∃ k : Nat, k ≤ cs.length ∧ i = .int .i64 k ∧ (∀ j, j < k → twoB (cn cs j) (cn cs 0) = true) ∧ ∃ n, wr = w.drewN n) (fun i _ => cs.length - (intOf i).toNat)
        case atStart => exact ⟨0, Nat.zero_le _, rfl, fun j hj => by omega, HW1.out⟩
        case round =>
          obtain ⟨k, hk, rfl, hall, hw⟩ := hrel
          have HA := hidP hall
          have HW := hidP hw
          clear hall hw HW1
          have s1 : CSeg wr b' off' cs := by obtain ⟨n, rfl⟩ := HW.out; exact HS.out.drewN n
          obtain ⟨a0, c0, e0, va0⟩ := s1 0 (by omega)
          rw [Nat.add_zero] at e0
          by_cases hlt : k < cs.length
          · obtain ⟨a, c, e1, va⟩ := s1 k hlt
            have HE := hidP (fun n => sTwo a a0 c c0 (cn cs k) (cn cs 0) (wr.drewN n) (va.drewN n) (va0.drewN n) (HAT.out k) (HAT.out 0))
            have hi0 : (0 : Int) ≤ (k : Int) := Int.natCast_nonneg _
            have hi1 : (k : Int) < (cs.length : Int) := by omega
            clear va va0 s1
            rcases ht : twoB (cn cs k) (cn cs 0) with _ | _
            · rw [ht] at HE
              have HB := hidP (ctrsB_pair (ms := ms) (pairB_out hlt ht))
              clear ht
              go_wp2_with fail
              go_quiet (first | (go_at_call 47; exact Calls.quiet_of_same (HE.out _)))
              go_wp2_with fail
              go_ret
              exact ⟨ret_bool HB.out.symm, by obtain ⟨n, hn⟩ := HW.out; exact ⟨n + nq, by rw [hn]; simp⟩⟩
            · rw [ht] at HE
              have HT := hidP ht
              clear ht
              go_wp2_with fail
              go_quiet (first | (go_at_call 47; exact Calls.quiet_of_same (HE.out _)))
              go_wp2_with fail
              go_roundw
              case rel => exact ⟨k + 1, by omega, by go_num, fun j hj => by
                rcases Nat.lt_or_ge j k with h | h
                · exact HA.out j h
                · rw [show j = k by omega]; exact HT.out, by obtain ⟨n, hn⟩ := HW.out; exact ⟨n + nq, by rw [hn]; simp⟩⟩
              case measure => simp [intOf]; omega
          · obtain rfl : k = cs.length := by omega
            have HPB := hidP (pairB_mk HA.out)
            have hok : Hid (okB (cn cs 0) = true) := (twoB_of (HA.out 0 (by omega))).1
            clear va0 s1
            by_cases h0 : ms.length = 0
            · have hb0 : ((ms.length : Int) == 0) = true := by simp; simpa using h0
              have HB : Hid (ctrsB ms cs = true) := ctrsB_mk HP.out.1 HP.out.2.1 HPB.out (by simp [toldB, HP.out.2.2, hok.out, h0])
              clear h0
              go_wp2_with fail
              go_quiet (fail)
              go_wp2_with fail
              go_ret
              exact ⟨ret_bool HB.out.symm, by obtain ⟨n, hn⟩ := HW.out; exact ⟨n + nq, by rw [hn]; simp⟩⟩
            · have hb0 : ((ms.length : Int) == 0) = false := by simp; simpa using h0
              have v1 : MView wr ao ms := by obtain ⟨n, rfl⟩ := HW.out; exact HV.out.drewN n
              obtain ⟨b, off, rfl, hb, hs⟩ := MSeg.seg v1 (by omega)
              obtain ⟨-, ae, ce, hc1, -⟩ := hs.at (i := 0) (by omega)
              rw [Nat.zero_mul, Nat.add_zero] at hc1
              have hmpos : (0 : Int) < (ms.length : Int) := by omega
              have hmpos2 : 0 < ms.length := by omega
              clear hs v1
              by_cases hl : (mat ms 0).length = (cn cs 0).length
              · have hlb : (((mat ms 0).length : Int) == ((cn cs 0).length : Int)) = true := by simp [hl]
                have HB : Hid (ctrsB ms cs = true) := ctrsB_mk HP.out.1 HP.out.2.1 HPB.out (by simp [toldB, HP.out.2.2, hok.out, hl])
                clear hl h0
                go_wp2_with fail
                go_quiet (fail)
                go_wp2_with fail
                go_ret
                exact ⟨ret_bool HB.out.symm, by obtain ⟨n, hn⟩ := HW.out; exact ⟨n + nq, by rw [hn]; simp⟩⟩
              · have hlb : (((mat ms 0).length : Int) == ((cn cs 0).length : Int)) = false := by simp; omega
                have HB : Hid (ctrsB ms cs = false) := ctrsB_told (by simp only [toldB, h0, hl, decide_false, Bool.or_false, Bool.and_false])
                clear hl h0
                go_wp2_with fail
                go_quiet (fail)
                go_wp2_with fail
                go_ret
                exact ⟨ret_bool HB.out.symm, by obtain ⟨n, hn⟩ := HW.out; exact ⟨n + nq, by rw [hn]; simp⟩⟩
      · have HV := hidP (ctrsB_many (ms := ms) h8)
        have hq1 : ¬ ((cs.length : Int) < 1) := by omega
        have hq8 : ((cs.length : Int) > 8) := by omega
        clear h1 h8
        go_enter Try.func41, Try.ntmps41
        go_wp2_with fail
        refine HM.out.mono ?_
        rintro e w1 ⟨rfl, n1, rfl⟩
        go_wp2_with fail
        go_ret
        exact ⟨ret_bool HV.out.symm, n1, rfl⟩
    · have HV := hidP (ctrsB_few (ms := ms) h1)
      have hq1 : ((cs.length : Int) < 1) := by omega
      clear h1
      go_enter Try.func41, Try.ntmps41
      go_wp2_with fail
      refine HM.out.mono ?_
      rintro e w1 ⟨rfl, n1, rfl⟩
      go_wp2_with fail
      go_ret
      exact ⟨ret_bool HV.out.symm, n1, rfl⟩

set_option maxRecDepth 100000 in
set_option maxHeartbeats 2000000 in
theorem sGivI (ao ao' : Option Addr) (cap cap' : Nat) (p : List Int) (cs : List (List Int)) (w : World) (hv : View w ao p) (hv' : CView w ao' cs) (hp : p.length ≤ 1048576) (hcm : CSmall cs) :
    Calls Try.prog 43 #[.slice ao p.length cap, .slice ao' cs.length cap'] w fun e w' => e = .returned (.int .i64 (givI cs p cs.length : Nat)) ∧ ∃ n, w' = w.drewN n := by
  have hn' := hcm.1
  have HAT := hidP hcm.2
  have HV := hidP hv
  have HC := hidP hv'
  clear hcm hv hv'
  go_enter Try.func43, Try.ntmps43
  go_wp2_with fail
  go_loopw [5, 6] (fun bi i wr => ∃ k : Nat, k ≤ cs.length ∧ i = .int .i64 k ∧ bi = .int .i64 (givI cs p k : Nat) ∧ ∃ n, wr = w.drewN n) (fun _ i _ => cs.length - (intOf i).toNat)
  case atStart => exact ⟨0, Nat.zero_le _, rfl, rfl, 0, rfl⟩
  case round =>
    obtain ⟨k, hk, rfl, rfl, hw⟩ := hrel
    have HW := hidP hw
    clear hw
    by_cases hlt : k < cs.length
    · have v1 : CView wr ao' cs := by obtain ⟨n, rfl⟩ := HW.out; exact HC.out.drewN n
      have vp : View wr ao p := by obtain ⟨n, rfl⟩ := HW.out; exact HV.out.drewN n
      obtain ⟨b', off', rfl, hb', s1⟩ := v1.seg (by omega)
      have hle := givI_le cs p k
      have hgl : givI cs p k < cs.length := by omega
      have HY : Hid (farV p (cn cs k) < farV p (cn cs (givI cs p k)) → givI cs p (k + 1) = k) := fun h => by simp only [givI]; rw [if_pos h]
      have HO : Hid (¬ farV p (cn cs k) < farV p (cn cs (givI cs p k)) → givI cs p (k + 1) = givI cs p k) := fun h => by simp only [givI]; rw [if_neg h]
      obtain ⟨a1, c1, e1, va1⟩ := s1 k hlt
      obtain ⟨a2, c2, e2, va2⟩ := s1 (givI cs p k) hgl
      generalize givI cs p k = bb at *
      have H1 := hidP (fun n => sFar ao a1 cap c1 p (cn cs k) (wr.drewN n) (vp.drewN n) (va1.drewN n) hp (HAT.out k))
      have H2 := hidP (fun n => sFar ao a2 cap c2 p (cn cs bb) (wr.drewN n) (vp.drewN n) (va2.drewN n) hp (HAT.out bb))
      have hi0 : (0 : Int) ≤ (k : Int) := Int.natCast_nonneg _
      have hi1 : (k : Int) < (cs.length : Int) := by omega
      have hj0 : (0 : Int) ≤ (bb : Int) := Int.natCast_nonneg _
      have hj1 : (bb : Int) < (cs.length : Int) := by omega
      clear v1 vp va1 va2 s1
      by_cases htt : farV p (cn cs k) < farV p (cn cs bb)
      · go_wp2_with fail
        go_quiet (first | (go_at_call_of 21 (Value.slice a1 (cn cs k).length c1); exact Calls.quiet_of (H1.out _)) | (go_at_call_of 21 (Value.slice a2 (cn cs bb).length c2); exact Calls.quiet_of (H2.out _)))
        go_wp2_with fail
        go_roundw
        case rel => exact ⟨k + 1, by omega, by go_num, by rw [HY.out htt], by obtain ⟨n, hn⟩ := HW.out; exact ⟨n + nq, by rw [hn]; simp⟩⟩
        case measure => simp [intOf]; omega
      · go_wp2_with fail
        go_quiet (first | (go_at_call_of 21 (Value.slice a1 (cn cs k).length c1); exact Calls.quiet_of (H1.out _)) | (go_at_call_of 21 (Value.slice a2 (cn cs bb).length c2); exact Calls.quiet_of (H2.out _)))
        go_wp2_with fail
        go_roundw
        case rel => exact ⟨k + 1, by omega, by go_num, by rw [HO.out htt], by obtain ⟨n, hn⟩ := HW.out; exact ⟨n + nq, by rw [hn]; simp⟩⟩
        case measure => simp [intOf]; omega
    · obtain rfl : k = cs.length := by omega
      go_wp2_with fail
      go_ret
      exact ⟨rfl, HW.out⟩

end Go.Proofs.Ythcjkneifkmkdaa
namespace Go.Proofs.Ythcjkneifkmkdaa
open Go Go.RowKit

def jLow (xs : List Int) : Nat → Int
  | 0 => nth xs 0
  | k + 1 => min (jLow xs k) (nth xs k)
def jHigh (xs : List Int) : Nat → Int
  | 0 => nth xs 0
  | k + 1 => maxV (jHigh xs k) (nth xs k)
theorem jLow_bd {xs : List Int} (h : ∀ i, -1000 ≤ nth xs i ∧ nth xs i ≤ 1000) (k : Nat) : -1000 ≤ jLow xs k ∧ jLow xs k ≤ 1000 := by
  induction k with
  | zero => exact h 0
  | succ k ih => have := h k; simp only [jLow]; omega
theorem jHigh_bd {xs : List Int} (h : ∀ i, -1000 ≤ nth xs i ∧ nth xs i ≤ 1000) (k : Nat) : -1000 ≤ jHigh xs k ∧ jHigh xs k ≤ 1000 := by
  induction k with
  | zero => exact h 0
  | succ k ih => have := h k; simp only [jHigh, maxV]; omega
theorem jLow_le (xs : List Int) (k : Nat) : ∀ j, j < k → jLow xs k ≤ nth xs j := by
  induction k with
  | zero => intro j hj; omega
  | succ k ih =>
    intro j hj
    simp only [jLow]
    rcases Nat.lt_or_ge j k with h | h
    · have := ih j h; omega
    · rw [show j = k by omega]; omega
theorem jHigh_ge (xs : List Int) (k : Nat) : ∀ j, j < k → nth xs j ≤ jHigh xs k := by
  induction k with
  | zero => intro j hj; omega
  | succ k ih =>
    intro j hj
    simp only [jHigh, maxV]
    rcases Nat.lt_or_ge j k with h | h
    · have := ih j h; omega
    · rw [show j = k by omega]; omega
theorem sumTo_ge (f : Nat → Int) (c : Int) (n : Nat) (h : ∀ j, j < n → c ≤ f j) : c * n ≤ sumTo f n := by
  induction n with
  | zero => simp [sumTo]
  | succ n ih =>
    have := ih (fun j hj => h j (by omega)); have := h n (by omega)
    simp only [sumTo]
    rw [show ((n + 1 : Nat) : Int) = (n : Int) + 1 by omega, Int.mul_add]
    omega
theorem sumTo_up (f : Nat → Int) (c : Int) (n : Nat) (h : ∀ j, j < n → f j ≤ c) : sumTo f n ≤ c * n := by
  induction n with
  | zero => simp [sumTo]
  | succ n ih =>
    have := ih (fun j hj => h j (by omega)); have := h n (by omega)
    simp only [sumTo]
    rw [show ((n + 1 : Nat) : Int) = (n : Int) + 1 by omega, Int.mul_add]
    omega
theorem meanN_ge {s n c : Int} (hn : 0 < n) (h : c * n ≤ s) : c ≤ meanN s n := by
  unfold meanN
  refine (Int.le_ediv_iff_mul_le (by omega)).2 ?_
  have e : c * (2 * n) = 2 * (c * n) := Int.mul_left_comm ..
  omega
theorem meanN_up {s n c : Int} (hn : 0 < n) (h : s ≤ c * n) : meanN s n ≤ c := by
  unfold meanN
  have := (Int.ediv_lt_iff_lt_mul (by omega : (0 : Int) < 2 * n) (a := 2 * s + n - 1) (b := c + 1)).2 (by
    have e : (c + 1) * (2 * n) = 2 * (c * n) + 2 * n := by rw [Int.add_mul, Int.one_mul, Int.mul_left_comm]
    omega)
  omega
theorem sumTo_sq (f : Nat → Int) (n : Nat) (x : Int) : sumTo (sqG f x) n = sumTo (fun j => f j * f j) n + ((n : Int) * (x * x) - 2 * (sumTo f n * x)) := by
  induction n with
  | zero => simp [sumTo]
  | succ n ih =>
    simp only [sumTo]
    rw [ih]
    have e : sqG f x n = f n * f n + (x * x - 2 * (f n * x)) := by
      simp only [sqG, Int.sub_mul, Int.mul_sub]
      rw [Int.mul_comm x (f n)]
      omega
    rw [e, show ((n + 1 : Nat) : Int) = (n : Int) + 1 by omega, Int.add_mul, Int.one_mul, Int.add_mul]
    omega
def mnV (xs : List Int) : Int := meanN (sumTo (nth xs) xs.length) xs.length
def sqV (xs : List Int) (x : Int) : Int := sumTo (sqG (nth xs) x) xs.length
theorem sqV_up {xs : List Int} (h : 0 < xs.length) (x : Int) : sqV xs (mnV xs) ≤ sqV xs x := by
  unfold sqV mnV
  rw [sumTo_sq, sumTo_sq]
  have := meanN_least (s := sumTo (nth xs) xs.length) (n := xs.length) (by omega) x
  omega
theorem sqV_down {xs : List Int} (h : 0 < xs.length) {x : Int} (hx : x ≤ mnV xs) : sqV xs x < sqV xs (x - 1) := by
  unfold sqV
  rw [sumTo_sq, sumTo_sq]
  have h2 := (meanN_in (s := sumTo (nth xs) xs.length) (n := xs.length) (by omega)).2
  unfold mnV at hx
  generalize meanN (sumTo (nth xs) xs.length) xs.length = m at *
  generalize sumTo (nth xs) xs.length = s at *
  have a : (xs.length : Int) * (2 * x - 1) ≤ xs.length * (2 * m - 1) := Int.mul_le_mul_of_nonneg_left (by omega) (by omega)
  generalize (xs.length : Int) = n at *
  have e1 : n * ((x - 1) * (x - 1)) = n * (x * x) - n * (2 * x - 1) := by
    have : (x - 1) * (x - 1) = x * x - (2 * x - 1) := by
      simp only [Int.sub_mul, Int.mul_sub, Int.one_mul, Int.mul_one]; omega
    rw [this, Int.mul_sub]
  have e2 : s * (x - 1) = s * x - s := by rw [Int.mul_sub, Int.mul_one]
  rw [e1, e2]
  omega
theorem sqG_bd {f : Nat → Int} {x : Int} (h1 : -1000 ≤ x) (h2 : x ≤ 1000) (hf : ∀ j, -1000 ≤ f j ∧ f j ≤ 1000) (j : Nat) : 0 ≤ sqG f x j ∧ sqG f x j ≤ 4000000 := by
  have := hf j
  refine ⟨sq_nonneg _, ?_⟩
  have := (mul_bd (x := f j - x) (y := f j - x) (m := 2000) (by omega) (by omega) (by omega)).2
  simpa [sqG] using this
theorem mnV_in {xs : List Int} (h : 0 < xs.length) : jLow xs xs.length ≤ mnV xs ∧ mnV xs ≤ jHigh xs xs.length :=
  ⟨meanN_ge (by omega) (sumTo_ge _ _ _ (jLow_le xs _)), meanN_up (by omega) (sumTo_up _ _ _ (jHigh_ge xs _))⟩
theorem mnV_own (g : Nat → Nat) (f : Nat → Int) (i n : Nat) : mnV (ownG g f i n) = meanN (sumG g f i n) (cntG g i n) := by
  unfold mnV
  rw [ownG_sum, ownG_length]
/-- What is best among the first t numbers from low on, and what it costs. -/
def bstM (xs : List Int) (lo : Int) : Nat → Int
  | 0 => nth xs 0
  | t + 1 => min (lo + t) (mnV xs)
def lstM (xs : List Int) (lo : Int) : Nat → Int
  | 0 => -1
  | t + 1 => sqV xs (min (lo + t) (mnV xs))

set_option maxHeartbeats 400000 in
theorem lMin (x y : Int) (w : World) :
    Calls Try.prog 63 #[.int .i64 x, .int .i64 y] w fun e w' => e = .returned (.int .i64 (min x y)) ∧ w' = w := by
  by_cases h : x < y
  · have HV : Hid (min x y = x) := by show min x y = x; omega
    go_enter Try.func63, Try.ntmps63
    go_wp2
    go_ret
    exact ⟨ret_int HV.out.symm, rfl⟩
  · have HV : Hid (min x y = y) := by show min x y = y; omega
    go_enter Try.func63, Try.ntmps63
    go_wp2
    go_ret
    exact ⟨ret_int HV.out.symm, rfl⟩

set_option maxRecDepth 100000 in
set_option maxHeartbeats 4000000 in
theorem sMean (b off cap : Nat) (xs : List Int) (w : World) (hs : Seg w b off xs) (h0 : 0 < xs.length) (hn : xs.length ≤ 60) (hbd : ∀ i, -1000 ≤ nth xs i ∧ nth xs i ≤ 1000) :
    Calls Try.prog 42 #[.slice (some ⟨b, off, none⟩) xs.length cap] w fun e w' => e = .returned (.int .i64 (mnV xs)) ∧ ∃ n, w' = w.drewN n := by
  have hc0 := hs 0 h0
  rw [Nat.add_zero] at hc0
  have HS := hidP hs
  have HB := hidP hbd
  have hpos : (0 : Int) < (xs.length : Int) := by omega
  have HIN := hidP (mnV_in h0)
  have HLB := hidP (jLow_bd hbd)
  have HHB := hidP (jHigh_bd hbd)
  have HUP := hidP (sqV_up h0)
  have HDN : Hid (∀ x, x ≤ mnV xs → sqV xs x < sqV xs (x - 1)) := fun x hx => sqV_down h0 hx
  clear hs hbd
  go_enter Try.func42, Try.ntmps42
  go_wp2_with fail
  go_loop [4, 5, 6] (fun lo hi i => ∃ k : Nat, k ≤ xs.length ∧ i = .int .i64 k ∧ lo = .int .i64 (jLow xs k) ∧ hi = .int .i64 (jHigh xs k)) (fun _ _ i => xs.length - (intOf i).toNat)
  case atStart => exact ⟨0, Nat.zero_le _, rfl, rfl, rfl⟩
  case round =>
    obtain ⟨k, hk, rfl, rfl, rfl⟩ := hrel
    by_cases hlt : k < xs.length
    · have hc := HS.out k hlt
      have H1 : Hid (jLow xs (k + 1) = min (jLow xs k) (nth xs k)) := rfl
      have H2 : Hid (jHigh xs (k + 1) = maxV (jHigh xs k) (nth xs k)) := rfl
      have C1 := hidP (lMin (jLow xs k) (nth xs k) w)
      have C2 := hidP (sMax (jHigh xs k) (nth xs k) w)
      rw [← H1.out] at C1
      rw [← H2.out] at C2
      generalize jLow xs (k + 1) = l1 at *
      generalize jHigh xs (k + 1) = g1 at *
      go_wp2_with fail
      refine C1.out.mono ?_
      rintro e w1 ⟨rfl, rfl⟩
      go_wp2_with fail
      refine C2.out.mono ?_
      rintro e w2 ⟨rfl, rfl⟩
      go_wp2_with fail
      go_round
      case rel => exact ⟨k + 1, by omega, by go_num, by rw [H1.out]; rfl, by rw [H2.out]; rfl⟩
      case measure => simp [intOf]; omega
    · obtain rfl : k = xs.length := by omega
      have hlb := HLB.out xs.length
      have hhb := HHB.out xs.length
      have hin := HIN.out
      generalize hL : jLow xs xs.length = lo at *
      generalize hH : jHigh xs xs.length = hi at *
      clear hL hH HLB HHB HIN hc0
      generalize hm : mnV xs = m at *
      have HM := hidP hm
      clear hm
      go_wp2_with fail
      go_loopw [3, 7, 8] (fun bst lst x wr => ∃ t : Nat, lo + t ≤ hi + 1 ∧ x = .int .i64 (lo + t) ∧ bst = .int .i64 (bstM xs lo t) ∧ lst = .int .i64 (lstM xs lo t) ∧ ∃ n, wr = w.drewN n) (fun _ _ x _ => (hi + 1 - intOf x).toNat)
      case atStart => exact ⟨0, by omega, by simp, rfl, rfl, 0, rfl⟩
      case round =>
        obtain ⟨t, ht, rfl, rfl, rfl, hw⟩ := hrel
        have HW := hidP hw
        clear hw
        by_cases hle : lo + t ≤ hi
        · obtain ⟨x, hx⟩ : ∃ x : Int, x = lo + t := ⟨_, rfl⟩
          have HX := hidP hx
          rw [← hx] at hle ⊢
          have hx1 : -1000 ≤ x := by omega
          have hx2 : x ≤ 1000 := by omega
          clear hx ht
          generalize hbs : bstM xs lo t = bs at *
          generalize hls : lstM xs lo t = ls at *
          have HBS := hidP hbs
          have HLS := hidP hls
          clear hbs hls
          go_wp2_with fail
          go_loopw [9, 10] (fun s i w4 => ∃ j : Nat, j ≤ xs.length ∧ i = .int .i64 j ∧ s = .int .i64 (sumTo (sqG (nth xs) x) j) ∧ ∃ n, w4 = w.drewN n) (fun _ i _ => xs.length - (intOf i).toNat)
          case atStart => exact ⟨0, Nat.zero_le _, rfl, rfl, HW.out⟩
          case round =>
            obtain ⟨j, hj, rfl, rfl, hw4⟩ := hrel
            have HW4 := hidP hw4
            clear hw4
            by_cases hjl : j < xs.length
            · have hcj : wr.cell? ⟨b, off + j, none⟩ = some (.int .i64 (nth xs j)) := by obtain ⟨n, rfl⟩ := HW4.out; exact HS.out j hjl
              have hbj := HB.out j
              have hg := sqG_bd hx1 hx2 HB.out j
              have hsum := sumTo_le (sqG (nth xs) x) 0 4000000 (sqG_bd hx1 hx2 HB.out) j
              have HN : Hid (sumTo (sqG (nth xs) x) (j + 1) = sumTo (sqG (nth xs) x) j + (nth xs j - x) * (nth xs j - x)) := rfl
              unfold sqG at hg
              go_wp2
              go_quiet (fail)
              go_wp2
              go_roundw
              case rel => exact ⟨j + 1, by omega, by go_num, by rw [HN.out], by obtain ⟨n, hn⟩ := HW4.out; exact ⟨n + nq, by rw [hn]; simp⟩⟩
              case measure => simp [intOf]; omega
            · obtain rfl : j = xs.length := by omega
              have HQ : Hid (sumTo (sqG (nth xs) x) xs.length = sqV xs x) := rfl
              have hsum := sumTo_le (sqG (nth xs) x) 0 4000000 (sqG_bd hx1 hx2 HB.out) xs.length
              rw [HQ.out] at hsum ⊢
              have HUX := hidP (HUP.out x)
              have HDX := hidP (HDN.out x)
              generalize hq : sqV xs x = q at *
              have HQV := hidP hq
              clear hq
              rcases Nat.eq_zero_or_pos t with ht0 | ht0
              · have hl : ls = -1 := by rw [← HLS.out, ht0]; rfl
                have hb' : bs = nth xs 0 := by rw [← HBS.out, ht0]; rfl
                have hneg : ls < 0 := by omega
                have HXX : Hid (x = min (lo + ((0 : Nat) : Int)) m) := by show x = _; have := HX.out; rw [ht0] at this; omega
                have HT0 := hidP ht0
                clear hl hb' ht0
                go_wp2_with fail
                go_roundw
                case rel =>
                  refine ⟨t + 1, by have := HX.out; omega, by have := HX.out; go_num, ?_, ?_, HW4.out⟩
                  · rw [HT0.out]
                    show _ = Value.int .i64 (min (lo + ((0 : Nat) : Int)) (mnV xs))
                    rw [HM.out, ← HXX.out]
                  · rw [HT0.out]
                    show _ = Value.int .i64 (sqV xs (min (lo + ((0 : Nat) : Int)) (mnV xs)))
                    rw [HM.out, ← HXX.out, HQV.out]
                case measure => simp [intOf]; omega
              · obtain ⟨t', rfl⟩ : ∃ t', t = t' + 1 := ⟨t - 1, by omega⟩
                have HB1 : Hid (bs = min (lo + (t' : Int)) m) := by show bs = _; rw [← HBS.out, ← HM.out]; rfl
                have HL1 : Hid (ls = sqV xs (min (lo + (t' : Int)) m)) := by show ls = _; rw [← HLS.out, ← HM.out]; rfl
                have HXT : Hid (x = lo + (t' : Int) + 1) := by show x = _; have := HX.out; omega
                have hnn : ¬ ls < 0 := by
                  rw [HL1.out]
                  have := (sumTo_le (sqG (nth xs) (min (lo + (t' : Int)) m)) 0 4000000 (sqG_bd (by have := HXT.out; omega) (by have := HXT.out; omega) HB.out) xs.length).1
                  show ¬ sumTo (sqG (nth xs) (min (lo + (t' : Int)) m)) xs.length < 0
                  omega
                clear ht0
                by_cases hxm : x ≤ m
                · have hyes : q < ls := by
                    have h := HDX.out hxm
                    rw [HL1.out, show min (lo + (t' : Int)) m = x - 1 by have := HXT.out; omega]
                    exact h
                  have HXM : Hid (min (lo + ((t' + 1 : Nat) : Int)) m = x) := by show _ = _; have := HXT.out; omega
                  clear hxm
                  go_wp2_with fail
                  go_roundw
                  case rel =>
                    refine ⟨t' + 1 + 1, by have := HX.out; omega, by have := HX.out; go_num, ?_, ?_, HW4.out⟩
                    · show _ = Value.int .i64 (min (lo + ((t' + 1 : Nat) : Int)) (mnV xs))
                      rw [HM.out, HXM.out]
                    · show _ = Value.int .i64 (sqV xs (min (lo + ((t' + 1 : Nat) : Int)) (mnV xs)))
                      rw [HM.out, HXM.out, HQV.out]
                  case measure => simp [intOf]; omega
                · have hno : ¬ q < ls := by
                    have h := HUX.out
                    rw [HL1.out, show min (lo + (t' : Int)) m = m by have := HXT.out; omega]
                    omega
                  have HXM : Hid (min (lo + ((t' + 1 : Nat) : Int)) m = min (lo + (t' : Int)) m) := by show _ = _; have := HXT.out; omega
                  clear hxm
                  go_wp2_with fail
                  go_roundw
                  case rel =>
                    refine ⟨t' + 1 + 1, by have := HX.out; omega, by have := HX.out; go_num, ?_, ?_, HW4.out⟩
                    · show _ = Value.int .i64 (min (lo + ((t' + 1 : Nat) : Int)) (mnV xs))
                      rw [HM.out, HXM.out, HB1.out]
                    · show _ = Value.int .i64 (sqV xs (min (lo + ((t' + 1 : Nat) : Int)) (mnV xs)))
                      rw [HM.out, HXM.out, HL1.out]
                  case measure => simp [intOf]; omega
        · obtain ⟨t', rfl⟩ : ∃ t', t = t' + 1 := ⟨t - 1, by omega⟩
          have HE : Hid (bstM xs lo (t' + 1) = m) := by show min (lo + (t' : Int)) (mnV xs) = m; rw [HM.out]; omega
          go_wp2_with fail
          go_ret
          exact ⟨ret_int (by rw [HE.out, HM.out]), HW.out⟩

end Go.Proofs.Ythcjkneifkmkdaa
namespace Go.Proofs.Ythcjkneifkmkdaa
open Go Go.RowKit

set_option maxHeartbeats 400000 in
theorem jeqS_ne (ao ao' : Option Addr) (n n' cap cap' : Nat) (w : World) (h : n ≠ n') :
    Calls Try.prog 45 #[.slice ao n cap, .slice ao' n' cap'] w fun e w' => e = .returned (.bool false) ∧ w' = w := by
  have hlb : ((n : Int) != (n' : Int)) = true := by simp; omega
  go_enter Try.func45, Try.ntmps45
  go_wp2
  go_ret
  exact ⟨rfl, rfl⟩

set_option maxHeartbeats 400000 in
theorem jeqS_nil (ao ao' : Option Addr) (cap cap' : Nat) (w : World) :
    Calls Try.prog 45 #[.slice ao 0 cap, .slice ao' 0 cap'] w fun e w' => e = .returned (.bool true) ∧ w' = w := by
  go_enter Try.func45, Try.ntmps45
  go_wp2
  refine wp_loop_rounds 1 ?_
  rw [rounds_succ]
  go_wp2
  go_ret
  exact ⟨rfl, rfl⟩

set_option maxHeartbeats 400000 in
theorem jeqS_seg (b off cap b' off' cap' : Nat) (xs ys : List Int) (w : World) (hs : Seg w b off xs) (hs' : Seg w b' off' ys) (hn : xs.length ≤ 1048576) (hl : xs.length = ys.length) :
    Calls Try.prog 45 #[.slice (some ⟨b, off, none⟩) xs.length cap, .slice (some ⟨b', off', none⟩) ys.length cap'] w fun e w' => e = .returned (.bool (decide (xs = ys))) ∧ ∃ n, w' = w.drewN n := by
  have hlb : ((xs.length : Int) != (ys.length : Int)) = false := by simp [hl]
  have HL : Hid (xs.length = ys.length) := hl
  have hn' : ys.length ≤ 1048576 := by omega
  clear hl
  go_enter Try.func45, Try.ntmps45
  go_wp2
  go_loopw [13] (fun i wr => ∃ k : Nat, k ≤ xs.length ∧ i = .int .i64 k ∧ (∀ j, j < k → nth xs j = nth ys j) ∧ ∃ n, wr = w.drewN n) (fun i _ => xs.length - (intOf i).toNat)
  case atStart => exact ⟨0, Nat.zero_le _, rfl, fun j hj => by omega, 0, rfl⟩
  case round =>
    obtain ⟨k, hk, rfl, hall, n, rfl⟩ := hrel
    have HA : Hid (∀ j, j < k → nth xs j = nth ys j) := hall
    clear hall
    by_cases hlt : k < xs.length
    · have hc := hs k hlt
      have hlt' : k < ys.length := by have := HL.out; omega
      have hc' := hs' k hlt'
      by_cases he : nth xs k = nth ys k
      · have heb : (nth xs k != nth ys k) = false := by simp [he]
        have HE : Hid (nth xs k = nth ys k) := he
        clear he
        go_wp2
        go_quiet (fail)
        go_wp2
        go_roundw
        case rel => exact ⟨k + 1, by omega, by go_num, fun j hj => by
          rcases Nat.lt_or_ge j k with h | h
          · exact HA.out j h
          · rw [show j = k by omega]; exact HE.out, _, rfl⟩
        case measure => simp [intOf]; omega
      · have heb : (nth xs k != nth ys k) = true := by simp [he]
        have HE : Hid (¬ nth xs k = nth ys k) := he
        clear he
        go_wp2
        go_quiet (fail)
        go_wp2
        go_ret
        exact ⟨ret_bool (Eq.symm (decide_eq_false (fun h => HE.out (by rw [h])))), n + nq, by simp⟩
    · go_wp2
      go_ret
      obtain rfl : k = xs.length := by omega
      exact ⟨ret_bool (Eq.symm (decide_eq_true (eq_of_nth HL.out HA.out))), _, rfl⟩

theorem jeqS (ao ao' : Option Addr) (cap cap' : Nat) (xs ys : List Int) (w : World) (hv : View w ao xs) (hv' : View w ao' ys) (hn : xs.length ≤ 1048576) :
    Calls Try.prog 45 #[.slice ao xs.length cap, .slice ao' ys.length cap'] w fun e w' => e = .returned (.bool (decide (xs = ys))) ∧ ∃ n, w' = w.drewN n := by
  by_cases hl : xs.length = ys.length
  · rcases hv with rfl | ⟨b, off, rfl, _, hs⟩
    · obtain rfl : ys = [] := List.eq_nil_of_length_eq_zero (by simpa using hl.symm)
      refine (jeqS_nil ao ao' cap cap' w).mono ?_
      rintro e w' ⟨rfl, rfl⟩
      exact ⟨rfl, 0, rfl⟩
    · rcases hv' with rfl | ⟨b', off', rfl, _, hs'⟩
      · obtain rfl : xs = [] := List.eq_nil_of_length_eq_zero (by simpa using hl)
        refine (jeqS_nil _ ao' cap cap' w).mono ?_
        rintro e w' ⟨rfl, rfl⟩
        exact ⟨rfl, 0, rfl⟩
      · exact jeqS_seg b off cap b' off' cap' xs ys w hs hs' hn hl
  · refine (jeqS_ne ao ao' xs.length ys.length cap cap' w hl).mono ?_
    rintro e w' ⟨rfl, rfl⟩
    exact ⟨ret_bool (Eq.symm (decide_eq_false (fun h => hl (by rw [h])))), 0, rfl⟩

theorem rows_ext {xs ys : List (List Int)} (hl : xs.length = ys.length) (h : ∀ j, j < xs.length → cn xs j = cn ys j) : xs = ys := by
  apply List.ext_getElem hl
  intro i h1 h2
  have := h i h1
  rwa [cn_at h1, cn_at h2] at this

set_option maxRecDepth 100000 in
set_option maxHeartbeats 1000000 in
theorem jeqF (ao ao' : Option Addr) (cap cap' : Nat) (xs ys : List (List Int)) (w : World) (hv : CView w ao xs) (hv' : CView w ao' ys) (hl : xs.length = ys.length) (hn : xs.length ≤ 8) (hat : ∀ i, (cn xs i).length ≤ 1048576) :
    Calls Try.prog 44 #[.slice ao xs.length cap, .slice ao' ys.length cap', .func (.func 45) #[] #[]] w fun e w' => e = .returned (.bool (decide (xs = ys))) ∧ ∃ n, w' = w.drewN n := by
  have hlb : ((xs.length : Int) != (ys.length : Int)) = false := by simp [hl]
  have HL := hidP hl
  have hn' : ys.length ≤ 8 := by omega
  have HV := hidP hv
  have HV' := hidP hv'
  have HAT := hidP hat
  clear hl hv hv' hat
  go_enter Try.func44, Try.ntmps44
  go_wp2_with fail
  go_loopw [17] (fun i wr => ∃ k : Nat, k ≤ xs.length ∧ i = .int .i64 k ∧ (∀ j, j < k → cn xs j = cn ys j) ∧ ∃ n, wr = w.drewN n) (fun i _ => xs.length - (intOf i).toNat)
  case atStart => exact ⟨0, Nat.zero_le _, rfl, fun j hj => by omega, 0, rfl⟩
  case round =>
    obtain ⟨k, hk, rfl, hall, hw⟩ := hrel
    have HA := hidP hall
    have HW := hidP hw
    clear hall hw
    by_cases hlt : k < xs.length
    · have hlt' : k < ys.length := by have := HL.out; omega
      have v1 : CView wr ao xs := by obtain ⟨n, rfl⟩ := HW.out; exact HV.out.drewN n
      have v2 : CView wr ao' ys := by obtain ⟨n, rfl⟩ := HW.out; exact HV'.out.drewN n
      obtain ⟨b, off, rfl, hb, s1⟩ := v1.seg (by omega)
      obtain ⟨b', off', rfl, hb', s2⟩ := v2.seg (by omega)
      obtain ⟨a, c, c1, va⟩ := s1 k hlt
      obtain ⟨a', c', c2, va'⟩ := s2 k hlt'
      have HE := hidP (jeqS a a' c c' (cn xs k) (cn ys k) wr va va' (HAT.out k))
      have hi0 : (0 : Int) ≤ (k : Int) := Int.natCast_nonneg _
      have hi1 : (k : Int) < (xs.length : Int) := by omega
      have hi2 : (k : Int) < (ys.length : Int) := by omega
      clear va va' v1 v2 s1 s2
      by_cases he : cn xs k = cn ys k
      · have hd : decide (cn xs k = cn ys k) = true := by simp [he]
        rw [hd] at HE
        have HEE := hidP he
        clear he hd
        go_wp2_with fail
        refine HE.out.mono ?_
        rintro e w2 ⟨rfl, n2, rfl⟩
        go_wp2_with fail
        go_roundw
        case rel => exact ⟨k + 1, by omega, by go_num, fun j hj => by
          rcases Nat.lt_or_ge j k with h | h
          · exact HA.out j h
          · rw [show j = k by omega]; exact HEE.out, by obtain ⟨n, hn⟩ := HW.out; exact ⟨n + n2, by rw [hn]; simp⟩⟩
        case measure => simp [intOf]; omega
      · have hd : decide (cn xs k = cn ys k) = false := by simp [he]
        rw [hd] at HE
        have HEE : Hid (decide (xs = ys) = false) := decide_eq_false (fun h => he (by rw [h]))
        clear he hd
        go_wp2_with fail
        refine HE.out.mono ?_
        rintro e w2 ⟨rfl, n2, rfl⟩
        go_wp2_with fail
        go_ret
        exact ⟨ret_bool HEE.out.symm, by obtain ⟨n, hn⟩ := HW.out; exact ⟨n + n2, by rw [hn]; simp⟩⟩
    · obtain rfl : k = xs.length := by omega
      have HEE : Hid (decide (xs = ys) = true) := decide_eq_true (rows_ext HL.out HA.out)
      go_wp2_with fail
      go_ret
      exact ⟨ret_bool HEE.out.symm, HW.out⟩

end Go.Proofs.Ythcjkneifkmkdaa
namespace Go.Proofs.Ythcjkneifkmkdaa
open Go Go.RowKit

set_option maxHeartbeats 800000 in
theorem szMS2_seg (b off cap : Nat) (ms : List Mk) (w : World) (hs : MSeg w b off ms) (hb : b < w.heap.size) (hn : ms.length ≤ 1048576) (hat : ∀ i, (mat ms i).length ≤ maxLen) :
    Calls Try.prog 22 #[.slice (some ⟨b, off, none⟩) ms.length cap, .int .i64 1048576] w fun e w' => ∃ r, e = .returned (.int .i64 r) ∧ r ≤ 1048576 ∧ (r < 0 ∨ MSmall ms) ∧ Below w.heap.size w w' := by
  have ht : ¬ (1048576 : Int) - ms.length < 0 := by omega
  go_enter Try.func22, Try.ntmps22
  go_wp2
  go_loopw [1, 5] (fun l i wr => ∃ (k : Nat) (left : Int), k ≤ ms.length ∧ i = .int .i64 k ∧ l = .int .i64 left ∧ 0 ≤ left ∧ left ≤ 1048576 ∧ (∀ j, j < k → (mat ms j).length ≤ 1048576) ∧ Below w.heap.size w wr) (fun _ i _ => ms.length - (intOf i).toNat)
  case atStart => exact ⟨0, 1048576 - ms.length, Nat.zero_le _, rfl, rfl, by omega, by omega, fun j hj => by omega, Below.refl _ _⟩
  case round =>
    obtain ⟨k, left, hk, rfl, rfl, h0, h1, hall, L⟩ := hrel
    have HA := hidP hall
    clear hall
    by_cases hlt : k < ms.length
    · obtain ⟨hc0, ao, cap', hc1, hv⟩ := (hs.below hb (Nat.le_refl _) L).at hlt
      have hcut := cutV_le (mat ms k).length (by omega) h1
      have HS := hidP (fun h => cutV_small (n := (mat ms k).length) h1 h)
      have hz := L.size
      clear hv
      go_wp2_with fail
      refine (szM (mnth ms k) ao cap' left _ (hat k) h0 h1).mono ?_
      rintro e w1 ⟨rfl, L1⟩
      rw [← mnth_mem_len] at *
      by_cases hneg : cutV left (mat ms k).length < 0
      · go_wp2_with fail
        go_ret
        exact ⟨_, rfl, by omega, Or.inl (by omega), L.trans (L1.mono hz)⟩
      · go_wp2_with fail
        go_roundw
        case rel => exact ⟨k + 1, cutV left (mat ms k).length, by omega, by go_num, rfl, by omega, by omega, fun j hj => by
          rcases Nat.lt_or_ge j k with h | h
          · exact HA.out j h
          · rw [show j = k by omega]; exact HS.out (by omega), L.trans (L1.mono hz)⟩
        case measure => simp [intOf]; omega
    · go_wp2
      go_ret
      obtain rfl : k = ms.length := by omega
      refine ⟨_, rfl, h1, Or.inr ⟨hn, fun i => ?_⟩, L⟩
      rcases Nat.lt_or_ge i ms.length with h | h
      · exact HA.out i h
      · simp [mat, List.getD, h]

theorem szMS2 (ao : Option Addr) (cap : Nat) (ms : List Mk) (w : World) (hv : MView w ao ms) (hn : ms.length ≤ maxLen) (hat : ∀ i, (mat ms i).length ≤ maxLen) :
    Calls Try.prog 22 #[.slice ao ms.length cap, .int .i64 1048576] w fun e w' => ∃ r, e = .returned (.int .i64 r) ∧ r ≤ 1048576 ∧ (r < 0 ∨ MSmall ms) ∧ Below w.heap.size w w' := by
  rcases Nat.lt_or_ge 1048576 ms.length with h | h
  · refine (szMS_long ao ms.length cap w hn h).mono ?_
    rintro e w' ⟨rfl, rfl⟩
    exact ⟨_, rfl, by omega, Or.inl (by omega), Below.refl _ _⟩
  · rcases hv with rfl | ⟨b, off, rfl, hb, hs⟩
    · refine (szMS_nil ao cap w).mono ?_
      rintro e w' ⟨rfl, rfl⟩
      exact ⟨_, rfl, by omega, Or.inr ⟨by simp, fun i => by simp [mat]⟩, Below.refl _ _⟩
    · exact szMS2_seg b off cap ms w hs hb h hat


set_option maxHeartbeats 400000 in
theorem szCS_long (ao : Option Addr) (n cap : Nat) (left : Int) (w : World) (hn : n ≤ maxLen) (h0 : 0 ≤ left) (h : left < n) :
    Calls Try.prog 23 #[.slice ao n cap, .int .i64 left] w fun e w' => e = .returned (.int .i64 (-1)) ∧ w' = w := by
  unfold maxLen at hn
  have ht : left - n < 0 := by omega
  go_enter Try.func23, Try.ntmps23
  go_wp2
  go_ret
  exact ⟨rfl, rfl⟩

set_option maxHeartbeats 400000 in
theorem szCS_nil (ao : Option Addr) (cap : Nat) (left : Int) (w : World) (h0 : 0 ≤ left) (h1 : left ≤ 1048576) :
    Calls Try.prog 23 #[.slice ao 0 cap, .int .i64 left] w fun e w' => e = .returned (.int .i64 left) ∧ w' = w := by
  have ht : ¬ left < 0 := by omega
  go_enter Try.func23, Try.ntmps23
  go_wp2
  refine wp_loop_rounds 1 ?_
  rw [rounds_succ]
  go_wp2
  go_ret
  exact ⟨rfl, rfl⟩

set_option maxHeartbeats 800000 in
theorem szCS_seg (b off cap : Nat) (ls : List (List Int)) (left0 : Int) (w : World) (hs : CSeg w b off ls) (hn : (ls.length : Int) ≤ left0) (hl0 : left0 ≤ 1048576) (hat : ∀ i, (cn ls i).length ≤ maxLen) :
    Calls Try.prog 23 #[.slice (some ⟨b, off, none⟩) ls.length cap, .int .i64 left0] w fun e w' => ∃ r, e = .returned (.int .i64 r) ∧ (r < 0 ∨ CSmall ls) ∧ w' = w := by
  have ht : ¬ left0 - ls.length < 0 := by omega
  go_enter Try.func23, Try.ntmps23
  go_wp2
  go_loop [1, 5] (fun l i => ∃ (k : Nat) (left : Int), k ≤ ls.length ∧ i = .int .i64 k ∧ l = .int .i64 left ∧ 0 ≤ left ∧ left ≤ 1048576 ∧ (∀ j, j < k → (cn ls j).length ≤ 1048576)) (fun _ i => ls.length - (intOf i).toNat)
  case atStart => exact ⟨0, left0 - ls.length, Nat.zero_le _, rfl, rfl, by omega, by omega, fun j hj => by omega⟩
  case round =>
    obtain ⟨k, left, hk, rfl, rfl, h0, h1, hall⟩ := hrel
    have HA := hidP hall
    clear hall
    by_cases hlt : k < ls.length
    · obtain ⟨ao, cap', hc1, hv⟩ := hs k hlt
      have hcut := cutV_le (cn ls k).length (by omega) h1
      have HS := hidP (fun h => cutV_small (n := (cn ls k).length) h1 h)
      clear hv
      go_wp2_with fail
      refine (szS ao (cn ls k).length cap' left _ (hat k) h0 h1).mono ?_
      rintro e w1 ⟨rfl, rfl⟩
      by_cases hneg : cutV left (cn ls k).length < 0
      · go_wp2_with fail
        go_ret
        exact ⟨_, rfl, Or.inl (by omega), rfl⟩
      · go_wp2_with fail
        go_round
        case rel => exact ⟨k + 1, cutV left (cn ls k).length, by omega, by go_num, rfl, by omega, by omega, fun j hj => by
          rcases Nat.lt_or_ge j k with h | h
          · exact HA.out j h
          · rw [show j = k by omega]; exact HS.out (by omega)⟩
        case measure => simp [intOf]; omega
    · go_wp2
      go_ret
      obtain rfl : k = ls.length := by omega
      refine ⟨_, rfl, Or.inr ⟨by omega, fun i => ?_⟩, rfl⟩
      rcases Nat.lt_or_ge i ls.length with h | h
      · exact HA.out i h
      · simp [cn, List.getD, h]

theorem szCS (ao : Option Addr) (cap : Nat) (ls : List (List Int)) (left0 : Int) (w : World) (hv : CView w ao ls) (h0 : 0 ≤ left0) (hl0 : left0 ≤ 1048576) (hn : ls.length ≤ maxLen) (hat : ∀ i, (cn ls i).length ≤ maxLen) :
    Calls Try.prog 23 #[.slice ao ls.length cap, .int .i64 left0] w fun e w' => ∃ r, e = .returned (.int .i64 r) ∧ (r < 0 ∨ CSmall ls) ∧ w' = w := by
  rcases Int.lt_or_le left0 ls.length with h | h
  · refine (szCS_long ao ls.length cap left0 w hn h0 h).mono ?_
    rintro e w' ⟨rfl, rfl⟩
    exact ⟨_, rfl, Or.inl (by omega), rfl⟩
  · rcases hv with rfl | ⟨b, off, rfl, hb, hs⟩
    · refine (szCS_nil ao cap left0 w h0 hl0).mono ?_
      rintro e w' ⟨rfl, rfl⟩
      exact ⟨_, rfl, Or.inr ⟨by simp, fun i => by simp [cn]⟩, rfl⟩
    · exact szCS_seg b off cap ls left0 w hs h hl0 hat

end Go.Proofs.Ythcjkneifkmkdaa
namespace Go.Proofs.Ythcjkneifkmkdaa
open Go Go.RowKit

/-- What lies ahead of B is as it was. -/
def Ahead (B : Nat) (w w' : World) : Prop := ∀ i, i < B → w'.heap[i]? = w.heap[i]?
theorem ahead_below {B : Nat} {w w' : World} (h : B ≤ w.heap.size) (L : Below w.heap.size w w') : Ahead B w w' := fun i hi => L.block i (by omega)
theorem ahead_gin {B lo hi : Nat} {w w' : World} (h : B ≤ w.heap.size) (G : GIn lo hi w w') (hl : B ≤ lo) : Ahead B w w' := fun i hi => G.2.2.2.2 i (by omega) (Or.inl (by omega))
theorem ahead_drewN {B : Nat} (w : World) (n : Nat) : Ahead B w (w.drewN n) := fun _ _ => rfl
theorem IRow.ahead {base B : Nat} {w w' : World} {g c : Nat} {xs : List Int} (h : IRow base w g c xs) (hg : g < B) (a : Ahead B w w') : IRow base w' g c xs := h.same (a g hg)
theorem LMem.ahead {base B : Nat} {w w' : World} {g c : Nat} {rs : List Rw} (h : LMem base w g c rs) (hB : ∀ i, (i = g ∨ ∃ r ∈ rs, i = r.1) → i < B) (a : Ahead B w w') : LMem base w' g c rs := h.same (fun i hi => a i (hB i hi))
/-- What was handed in, still whole. -/
structure InA (w : World) (bx hx by' hy : Nat) (ms : List Mk) (ls : List (List Int)) : Prop where
  mp : MPart w bx ms.length ms.length ms
  mo : MOver w bx hx ms
  cp : CPart w by' ls.length ls.length ls
  co : COver w by' hy ls
  le : hx ≤ by' ∧ hy ≤ w.heap.size ∧ bx < hx ∧ by' < hy
theorem InA.below {w w' : World} {bx hx by' hy : Nat} {ms : List Mk} {ls : List (List Int)} (h : InA w bx hx by' hy ms ls) (L : Below w.heap.size w w') : InA w' bx hx by' hy ms ls :=
  ⟨h.mp.below (Nat.le_refl _) L, h.mo.below (by have := h.le; omega) L, h.cp.below (Nat.le_refl _) L, h.co.below h.le.2.1 L, h.le.1, Nat.le_trans h.le.2.1 L.size, h.le.2.2⟩
theorem InA.mk' {w1 w2 : World} {bx by' : Nat} {ms : List Mk} {ls : List (List Int)} (p : MPart w1 bx ms.length ms.length ms) (L : Below w1.heap.size w1 w2) (q : CPart w2 by' ls.length ls.length ls) (hb : w1.heap.size ≤ by') : InA w2 bx w1.heap.size by' w2.heap.size ms ls :=
  ⟨p.below (Nat.le_refl _) L, p.over.below (Nat.le_refl _) L, q, q.over, hb, Nat.le_refl _, p.1, q.1⟩
theorem given_short (ms : List Mk) (cs : List (List Int)) : (givenL ms cs).length ≤ 60 := by
  rcases hc : ctrsB ms cs with _ | _
  · simp [givenL, hc]
  · rw [givenL, if_pos hc, tabL_length]
    exact marksB_len (toldB_of (ctrsB_of hc).2.2.2).1
theorem shift_short (ms : List Mk) (cs : List (List Int)) : (shiftL ms cs).length ≤ 60 ∧ ∀ l ∈ shiftL ms cs, l.length ≤ 4 := by
  rcases hc : ctrsB ms cs with _ | _
  · simp [shiftL, hc]
  · refine ⟨by rw [shiftL_length hc]; have := (ctrsB_of hc).2.1; omega, fun l hl => ?_⟩
    rw [shiftL, if_pos hc] at hl
    obtain ⟨i, hi, rfl⟩ := List.mem_map.1 hl
    rw [shiftP_length]
    exact (okB_len (ctrs_len hc (List.mem_range.1 hi)).1).2
theorem rows_small {R : List (List Int)} (h : R.length ≤ 60 ∧ ∀ l ∈ R, l.length ≤ 4) : CSmall R := by
  refine ⟨by omega, fun i => ?_⟩
  rcases Nat.lt_or_ge i R.length with hi | hi
  · rw [cn_at hi]
    have := h.2 _ (List.getElem_mem hi)
    omega
  · simp [cn, List.getD, hi]

end Go.Proofs.Ythcjkneifkmkdaa
