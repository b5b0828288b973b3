/-
  A slice of knots that came in, as the frame tells of it, read as a list of knots; the laws' own szKnotS and toKnotS.
-/
import Derived.Test.YthddhblmnfjciaaMArgsZz
import Derived.Test.YthddhblmnfjciaaKTopZz
import Derived.Lib.SmallJoins
namespace Go.Proofs.Ythddhblmnfjciaa
open Go Go.RowKit Go.Deep

theorem list5 {α : Type} {cs : List α} (h : cs.length = 5) : ∃ a b c d e, cs = [a, b, c, d, e] := by
  match cs, h with
  | [a, b, c, d, e], _ => exact ⟨a, b, c, d, e, rfl⟩

theorem knots_view {H : Type} {enc : TypeId × Value → H} {W : World} {n : Nat} {a : Option Addr} {len cap : Nat} {x : DataW H × List MemPlace} (h : DataW.trod enc Try.prog W 0 (fun _ => true) true n 22 [.slice a len cap] = some x) :
    ∃ ks : List Kn, len = ks.length ∧ KView W a ks ∧ ks.length ≤ maxLen ∧ ∀ i, (knth ks i).1.2.length ≤ maxLen := by
  rcases open_slice Try.underlying22 h with ⟨hcs, _⟩ | ⟨A, l, c, m, k, D, Pl, hcs, _, hl, hm, hmm, _, hall⟩
  · simp at hcs
    obtain ⟨rfl, rfl, rfl⟩ := hcs
    exact ⟨[], rfl, Or.inl rfl, Nat.zero_le _, fun i => by simp [knth]⟩
  · simp at hcs
    obtain ⟨rfl, rfl, rfl⟩ := hcs
    simp at hmm
    subst hmm
    have hce : Try.prog.cellsOf 89 = 5 := by kernel_rfl
    have each : ∀ i, i < len → ∃ q : Kn, W.cell? (A.add (i * 5)) = some (.int .i64 q.1.1) ∧ (∃ ao ca, W.cell? (A.add (i * 5 + 1)) = some (.slice ao q.1.2.length ca) ∧ View W ao q.1.2) ∧ W.cell? (A.add (i * 5 + 2)) = some (.int .i64 q.2.1) ∧ W.cell? (A.add (i * 5 + 3)) = some (.int .i64 q.2.2.1) ∧ W.cell? (A.add (i * 5 + 4)) = some (.int .i64 q.2.2.2) ∧ q.1.2.length ≤ maxLen := by
      intro i hi
      obtain ⟨cs', h1, h2⟩ := hall i (by omega)
      rw [hce] at h1
      obtain ⟨_, hlen, hcell⟩ := World.cells?_some h1
      obtain ⟨y0, y1, y2, y3, n2, _, _, g0, g1, g2, g3⟩ := Go.Joins.trod_struct4 Try.underlying89 h2
      obtain ⟨v0, v1, v2, v3, v4, rfl⟩ := list5 hlen
      have k0 : Try.prog.cellsOf 87 = 2 := by kernel_rfl
      have k1 : Try.prog.cellsOf 2 = 1 := by kernel_rfl
      simp [k0, k1] at g0 g1 g2 g3
      obtain ⟨z0, z1, n3, _, _, t0, t1⟩ := Go.ChangeShapes.trod_struct2 Try.underlying87 g0
      have k2 : Try.prog.cellsOf 46 = 1 := by kernel_rfl
      simp [k1, k2] at t0 t1
      obtain ⟨i0, hz0, _, _⟩ := DataW.trod_int Try.underlying2 t0
      obtain ⟨xs, ao, ca, hv1, hv, hx⟩ := row_view t1
      obtain ⟨i1, hz1, _, _⟩ := DataW.trod_int Try.underlying2 g1
      obtain ⟨i2, hz2, _, _⟩ := DataW.trod_int Try.underlying2 g2
      obtain ⟨i3, hz3, _, _⟩ := DataW.trod_int Try.underlying2 g3
      simp at hz0 hz1 hz2 hz3
      have e0 := hcell 0 (by omega)
      have e1 := hcell 1 (by omega)
      have e2 := hcell 2 (by omega)
      have e3 := hcell 3 (by omega)
      have e4 := hcell 4 (by omega)
      rw [add_add] at e0 e1 e2 e3 e4
      simp at e0 e1 e2 e3 e4
      exact ⟨((i0, xs), i1, i2, i3), by rw [e0, hz0], ⟨ao, ca, by rw [e1, hv1], hv⟩, by rw [e2, hz1], by rw [e3, hz2], by rw [e4, hz3], hx⟩
    obtain ⟨q, hq⟩ := choose_lt each
    have hml : ((List.range len).map q).length = len := by simp
    have hnth : ∀ i, i < len → knth ((List.range len).map q) i = q i := fun i hi => by simp [knth, List.getD, hi]
    refine ⟨(List.range len).map q, hml.symm, ?_, by rw [hml]; omega, fun i => ?_⟩
    · rcases Nat.eq_zero_or_pos len with h0 | h0
      · subst h0; exact Or.inl (by simp)
      · obtain ⟨b, off, spot⟩ := A
        have hc := (hq 0 h0).1
        have hspot : spot = none := by simpa [Addr.add] using World.cell?_spot hc
        subst hspot
        refine Or.inr ⟨b, off, rfl, by simpa [Addr.add] using cell_lt hc, fun i hi => ?_⟩
        rw [hml] at hi
        rw [hnth i hi]
        obtain ⟨e0, ⟨ao, ca, e1, hv⟩, e2, e3, e4, _⟩ := hq i hi
        rw [Go.WideShapes.add_plain] at e0 e1 e2 e3 e4
        exact ⟨e0, ⟨ao, ca, by rw [Nat.add_assoc]; exact e1, hv⟩, by rw [Nat.add_assoc]; exact e2, by rw [Nat.add_assoc]; exact e3, by rw [Nat.add_assoc]; exact e4⟩
    · rcases Nat.lt_or_ge i len with hi | hi
      · rw [hnth i hi]; exact (hq i hi).2.2.2.2.2
      · simp [knth, List.getD, hi]

set_option maxHeartbeats 400000 in
theorem szK (k : Kn) (ao : Option Addr) (cap : Nat) (left : Int) (w : World) (hn : k.1.2.length ≤ maxLen) (h0 : 0 ≤ left) (h1 : left ≤ 1048576) :
    Calls Try.prog 66 #[.agg #[.int .i64 k.1.1, .slice ao k.1.2.length cap, .int .i64 k.2.1, .int .i64 k.2.2.1, .int .i64 k.2.2.2], .int .i64 left] w fun e w' => e = .returned (.int .i64 (cutV left k.1.2.length)) ∧ Below w.heap.size w w' := by
  have hv := cutV_le k.1.2.length (by omega) h1
  have HB : Hid (∀ o w', Below (w.alloc o).heap.size (w.alloc o) w' → Below w.heap.size w w') := fun o w' L => chain ((Below.refl _ _).alloc (Nat.le_refl _) _) L
  by_cases h : cutV left k.1.2.length < 0
  · go_enter Try.func66, Try.ntmps66
    go_wp2_with fail
    refine (szM k.1 ao cap left _ hn h0 h1).mono ?_
    rintro e w1 ⟨rfl, L1⟩
    have HL := hidP (HB.out _ _ L1)
    clear L1
    go_wp2_with fail
    go_ret
    exact ⟨ret_int (by omega), HL.out⟩
  · go_enter Try.func66, Try.ntmps66
    go_wp2_with fail
    refine (szM k.1 ao cap left _ hn h0 h1).mono ?_
    rintro e w1 ⟨rfl, L1⟩
    have HL := hidP (HB.out _ _ L1)
    clear L1
    go_wp2_with fail
    go_ret
    exact ⟨rfl, HL.out⟩

set_option maxHeartbeats 400000 in
theorem szKS_long (ao : Option Addr) (n cap : Nat) (w : World) (hn : n ≤ maxLen) (h : 1048576 < n) :
    Calls Try.prog 14 #[.slice ao n cap, .int .i64 1048576] w fun e w' => e = .returned (.int .i64 (-1)) ∧ w' = w := by
  unfold maxLen at hn
  have ht : (1048576 : Int) - n < 0 := by omega
  go_enter Try.func14, Try.ntmps14
  go_wp2
  go_ret
  exact ⟨rfl, rfl⟩

set_option maxHeartbeats 400000 in
theorem szKS_nil (ao : Option Addr) (cap : Nat) (w : World) :
    Calls Try.prog 14 #[.slice ao 0 cap, .int .i64 1048576] w fun e w' => e = .returned (.int .i64 1048576) ∧ w' = w := by
  go_enter Try.func14, Try.ntmps14
  go_wp2
  refine wp_loop_rounds 1 ?_
  rw [rounds_succ]
  go_wp2
  go_ret
  exact ⟨rfl, rfl⟩

set_option maxHeartbeats 1000000 in
theorem szKS_seg (b off cap : Nat) (ks : List Kn) (w : World) (hs : KSeg w b off ks) (hb : b < w.heap.size) (hn : ks.length ≤ 1048576) (hat : ∀ i, (knth ks i).1.2.length ≤ maxLen) :
    Calls Try.prog 14 #[.slice (some ⟨b, off, none⟩) ks.length cap, .int .i64 1048576] w fun e w' => ∃ r, e = .returned (.int .i64 r) ∧ (r < 0 ∨ KSmall ks) ∧ Below w.heap.size w w' := by
  have ht : ¬ (1048576 : Int) - ks.length < 0 := by omega
  go_enter Try.func14, Try.ntmps14
  go_wp2
  go_loopw [1, 5] (fun l i wr => ∃ (k : Nat) (left : Int), k ≤ ks.length ∧ i = .int .i64 k ∧ l = .int .i64 left ∧ 0 ≤ left ∧ left ≤ 1048576 ∧ (∀ j, j < k → (knth ks j).1.2.length ≤ 1048576) ∧ Below w.heap.size w wr) (fun _ i _ => ks.length - (intOf i).toNat)
  case atStart => exact ⟨0, 1048576 - ks.length, Nat.zero_le _, rfl, rfl, by omega, by omega, fun j hj => by omega, Below.refl _ _⟩
  case round =>
    obtain ⟨k, left, hk, rfl, rfl, h0, h1, hall, L⟩ := hrel
    have HA := hidP hall
    clear hall
    by_cases hlt : k < ks.length
    · obtain ⟨c0, ⟨ao, ca, c1, hv⟩, c2, c3, c4⟩ := (hs k hlt).below hb L
      have hcut := cutV_le (knth ks k).1.2.length (by omega) h1
      have HS := hidP (fun h => cutV_small (n := (knth ks k).1.2.length) h1 h)
      have hz := L.size
      have hak := hat k
      clear hv
      generalize hp : knth ks k = p at *
      have HP := hidP hp
      clear hp
      go_wp2_with fail
      refine (szK p ao ca left _ hak h0 h1).mono ?_
      rintro e w1 ⟨rfl, L1⟩
      have HL := hidP (L.trans (L1.mono hz))
      clear L L1
      by_cases hneg : cutV left p.1.2.length < 0
      · go_wp2_with fail
        go_ret
        exact ⟨_, rfl, Or.inl (by omega), HL.out⟩
      · go_wp2_with fail
        go_roundw
        case rel => exact ⟨k + 1, cutV left p.1.2.length, by omega, by go_num, rfl, by omega, by omega, fun j hj => by
          rcases Nat.lt_or_ge j k with h | h
          · exact HA.out j h
          · rw [show j = k by omega, HP.out]; exact HS.out (by omega), HL.out⟩
        case measure => simp [intOf]; omega
    · go_wp2
      go_ret
      obtain rfl : k = ks.length := by omega
      refine ⟨_, rfl, Or.inr ⟨hn, fun i => ?_⟩, L⟩
      rcases Nat.lt_or_ge i ks.length with h | h
      · exact HA.out i h
      · simp [knth, List.getD, h]

theorem szKS (ao : Option Addr) (cap : Nat) (ks : List Kn) (w : World) (hv : KView w ao ks) (hn : ks.length ≤ maxLen) (hat : ∀ i, (knth ks i).1.2.length ≤ maxLen) :
    Calls Try.prog 14 #[.slice ao ks.length cap, .int .i64 1048576] w fun e w' => ∃ r, e = .returned (.int .i64 r) ∧ (r < 0 ∨ KSmall ks) ∧ Below w.heap.size w w' := by
  rcases Nat.lt_or_ge 1048576 ks.length with h | h
  · refine (szKS_long ao ks.length cap w hn h).mono ?_
    rintro e w' ⟨rfl, rfl⟩
    exact ⟨_, rfl, Or.inl (by omega), Below.refl _ _⟩
  · rcases hv with rfl | ⟨b, off, rfl, hb, hs⟩
    · refine (szKS_nil ao cap w).mono ?_
      rintro e w' ⟨rfl, rfl⟩
      exact ⟨_, rfl, Or.inr ⟨by simp, fun i => by simp [knth]⟩, Below.refl _ _⟩
    · exact szKS_seg b off cap ks w hs hb h hat

end Go.Proofs.Ythddhblmnfjciaa
