/-
  FnDice: what is drawn, and the law's walk.
  FnDice's walk: the same dice roll the same, and how often four goes into them is told.
-/
import Derived.Test.YtmembegdbceooaaMCopyZz
import Derived.Test.YtmembegdbceooaaBytesZz
namespace Go.Proofs.Ytmembegdbceooaa
open Go Go.RowKit

set_option maxRecDepth 100000 in
set_option maxHeartbeats 1000000 in
theorem cBelowB (q : Nat) (ao : Option Addr) (n cap : Nat) (m : Int) (w : World) (hc : Cur w q ao n cap) (hv : CodeV w ao n) (hn : n ≤ 4096) (h0 : 1 ≤ m) :
    Calls Try.prog 69 #[.pointer (some ⟨q, 0, none⟩), .int .i64 m] w fun e w' => (∃ x : Int, 0 ≤ x ∧ x < m ∧ e = .returned (.int .i64 x)) ∧ Cur w' q ao n cap ∧ w.grownBy w' (some q) := by
  by_cases hm : m ≤ 256
  · exact cBelow q ao n cap m w hc hv hn h0 hm
  have h2 : ¬ m ≤ 0 := by omega
  have h3 : (m == 0) = false := by simp; omega
  go_enter Try.func69, Try.ntmps69
  go_wp2_with fail
  refine (cByte q ao n cap _ hc hv hn).mono ?_
  rintro e w1 ⟨⟨x, hx0, hx1, rfl⟩, c1, g1⟩
  have hv1 := hv.grown hc g1
  clear hc hv
  go_wp2_with fail
  refine (cByte q ao n cap _ c1 hv1 hn).mono ?_
  rintro e w2 ⟨⟨y, hy0, hy1, rfl⟩, c2, g2⟩
  have hv2 := hv1.grown c1 g2
  have G2 := grown_trans g1 g2
  clear c1 hv1 g1 g2
  go_wp2_with fail
  refine (cByte q ao n cap _ c2 hv2 hn).mono ?_
  rintro e w3 ⟨⟨z, hz0, hz1, rfl⟩, c3, g3⟩
  have hv3 := hv2.grown c2 g3
  have G3 := grown_trans G2 g3
  clear c2 hv2 g3 G2
  go_wp2_with fail
  refine (cByte q ao n cap _ c3 hv3 hn).mono ?_
  rintro e w4 ⟨⟨u, hu0, hu1, rfl⟩, c4, g4⟩
  have G4 := grown_trans G3 g4
  clear c3 hv3 g4 G3
  go_wp2_with fail
  go_ret
  refine ⟨⟨(x * 16777216 + y * 65536 + z * 256 + u) % m, Int.emod_nonneg _ (by omega), Int.emod_lt_of_pos _ (by omega), ?_⟩, c4, G4⟩
  first | rfl | (rw [Int.emod_eq_tmod_of_nonneg (by omega)])

set_option maxRecDepth 100000 in
set_option maxHeartbeats 400000 in
theorem pickD_nil (ao : Option Addr) (cap : Nat) (s m : Int) (w : World) (hs0 : 0 ≤ s) (hs1 : s ≤ 1000) (h0 : 1 ≤ m) (h1 : m ≤ 2000000) :
    Calls Try.prog 23 #[.slice ao 0 cap, .int .i64 s, .int .i64 m] w fun e w' => (∃ x : Int, 0 ≤ x ∧ x < m ∧ e = .returned (.int .i64 x)) ∧ w' = w := by
  have h3 : (m == 0) = false := by simp; omega
  go_enter Try.func23, Try.ntmps23
  go_wp2
  refine wp_loop_rounds 1 ?_
  rw [rounds_succ]
  go_wp2
  go_ret
  exact ⟨⟨_, Int.emod_nonneg _ (by omega), Int.emod_lt_of_pos _ (by omega), rfl⟩, rfl⟩

set_option maxRecDepth 100000 in
set_option maxHeartbeats 400000 in
theorem pickD (ao : Option Addr) (n cap : Nat) (s m : Int) (w : World) (hv : CodeV w ao n) (hn : n ≤ 4096) (hs0 : 0 ≤ s) (hs1 : s ≤ 1000) (h0 : 1 ≤ m) (h1 : m ≤ 2000000) :
    Calls Try.prog 23 #[.slice ao n cap, .int .i64 s, .int .i64 m] w fun e w' => (∃ x : Int, 0 ≤ x ∧ x < m ∧ e = .returned (.int .i64 x)) ∧ w' = w := by
  rcases hv with rfl | ⟨b, off, rfl, hbl, hby⟩
  · exact pickD_nil ao cap s m w hs0 hs1 h0 h1
  · have HY := hideP hby
    clear hby
    have h3 : (m == 0) = false := by simp; omega
    go_enter Try.func23, Try.ntmps23
    go_wp2
    go_loop [7, 8] (fun s i => ∃ k : Nat, k ≤ n ∧ i = .int .i64 k ∧ ∃ h : Int, 0 ≤ h ∧ h ≤ 10000000 ∧ s = .int .i64 h) (fun _ i => n - (intOf i).toNat)
    case atStart => exact ⟨0, Nat.zero_le _, rfl, _, by omega, by omega, rfl⟩
    case round =>
      obtain ⟨k, hk, rfl, h, hh0, hh1, rfl⟩ := hrel
      by_cases hlt : k < n
      · obtain ⟨x, hx0, hx1, hx⟩ := HY.out k hlt
        go_wp2
        go_round
        case rel => exact ⟨k + 1, by omega, by go_num, _, by omega, by omega, rfl⟩
        case measure => simp [intOf]; omega
      · go_wp2
        go_ret
        exact ⟨⟨_, Int.emod_nonneg _ (by omega), Int.emod_lt_of_pos _ (by omega), rfl⟩, rfl⟩

theorem eight_at (y : Nat) (h : y < 8) : ∃ v, (#[.int .i64 (-1), .int .i64 0, .int .i64 1000002, .int .i64 1000003, .int .i64 64, .int .i64 16, .int .i64 4, .int .i64 256] : Array Value)[y]? = some (.int .i64 v) := by
  rcases (show y = 0 ∨ y = 1 ∨ y = 2 ∨ y = 3 ∨ y = 4 ∨ y = 5 ∨ y = 6 ∨ y = 7 by omega) with rfl | rfl | rfl | rfl | rfl | rfl | rfl | rfl <;> exact ⟨_, rfl⟩

set_option maxRecDepth 100000 in
set_option maxHeartbeats 1000000 in
theorem cDice (q : Nat) (ao : Option Addr) (n cap : Nat) (w : World) (hc : Cur w q ao n cap) (hv : CodeV w ao n) (hn : n ≤ 4096) :
    Calls Try.prog 55 #[.pointer (some ⟨q, 0, none⟩)] w fun e w' => (∃ x : Int, e = .returned (.int .i64 x)) ∧ Cur w' q ao n cap ∧ w.grownBy w' (some q) := by
  have hq := hc.lt
  go_enter Try.func55, Try.ntmps55
  go_wp2_with fail
  refine (cOnce q ao n cap 4 _ hc hv hn (by omega) (by omega)).mono ?_
  rintro e w1 ⟨⟨x, rfl⟩, c1, g1⟩
  have v1 := hv.grown hc g1
  have hz1 := g1.size
  cases x with
  | false =>
    go_wp2_with fail
    refine (cBelowB q ao n cap 1000003 _ c1 v1 hn (by omega)).mono ?_
    rintro e w2 ⟨⟨y, y0, y1, rfl⟩, c2, g2⟩
    go_wp2_with fail
    go_ret
    exact ⟨⟨_, rfl⟩, c2, grown_trans g1 g2⟩
  | true =>
    have ga := World.grownBy_alloc w1 (.cells #[.int .i64 (-1), .int .i64 0, .int .i64 1000002, .int .i64 1000003, .int .i64 64, .int .i64 16, .int .i64 4, .int .i64 256] 2) (some q)
    have HV2 := hidP (v1.grown c1 ga)
    have HG := hidP (grown_trans g1 ga)
    clear ga
    go_wp2_with fail
    refine (cBelow q ao n cap 8 _ (c1.alloc _) HV2.out hn (by omega) (by omega)).mono ?_
    rintro e w2 ⟨⟨y, y0, y1, rfl⟩, c2, g2⟩
    obtain ⟨yn, rfl⟩ := Int.eq_ofNat_of_zero_le y0
    obtain ⟨v, hv3⟩ := eight_at yn (by omega)
    have ht : w2.cell? ⟨w1.heap.size, yn, none⟩ = some (.int .i64 v) := g2.cell (by rw [World.cell?_alloc_at _ _ _ _ rfl]; exact hv3) (by simp; omega)
    have hy2 : (yn : Int) < 8 := by omega
    have HG2 := hidP (grown_trans HG.out g2)
    clear g1 g2
    go_wp2_with fail
    go_ret
    exact ⟨⟨_, rfl⟩, c2, HG2.out⟩

set_option maxRecDepth 100000 in
set_option maxHeartbeats 1000000 in
theorem cDrawRolled (ao : Option Addr) (n cap : Nat) (w : World) (hv : CodeV w ao n) (hn : n ≤ 4096) :
    Calls Try.prog 18 #[.slice ao n cap] w fun e w' => (∃ x : Int, e = .returned (.int .i64 x)) ∧ Below w.heap.size w w' := by
  have HN := hidP (cNew ao n cap w hv hn)
  have HV := hidP hv
  clear hv
  go_enter Try.func18, Try.ntmps18
  go_wp2_with fail
  refine HN.out.mono ?_
  rintro e w1 ⟨rfl, c1, L1⟩
  have hv1 := HV.out.below (Nat.le_refl _) L1
  have HD := hidP (cDice w.heap.size ao n cap w1 c1 hv1 hn)
  have HL := hidP L1
  clear L1 hv1
  go_wp2_with fail
  refine HD.out.mono ?_
  rintro e w2 ⟨⟨x, rfl⟩, c2, g2⟩
  have L2 : Below w.heap.size w w2 := HL.out.grown g2 HL.out.size (fun k e => by injection e with e; omega)
  clear g2 c2
  go_wp2_with fail
  go_ret
  exact ⟨⟨x, rfl⟩, L2⟩
end Go.Proofs.Ytmembegdbceooaa
namespace Go.Proofs.Ytmembegdbceooaa
open Go Go.RowKit

set_option maxRecDepth 100000 in
set_option maxHeartbeats 4000000 in
theorem walkDice (ao0 : Option Addr) (len0 cap0 : Nat) (w : World) (hv0 : CodeV w ao0 len0) :
    Calls Try.prog 4 #[.slice ao0 len0 cap0] w fun e w' => e = .returned (.bool true) ∧ Below w.heap.size w w' := by
  by_cases hbig : 4096 < len0
  · have hbb : decide (4096 < (len0 : Int)) = true := by simp; omega
    go_enter Try.func4, Try.ntmps4
    go_wp2_with fail
    refine (bigC ao0 len0 cap0 _).mono ?_
    rintro e w1 ⟨rfl, hw1⟩
    subst hw1
    go_wp2_with fail
    go_ret
    exact ⟨rfl, Below.refl _ _⟩
  have hbb : decide (4096 < (len0 : Int)) = false := by simp; omega
  have hn : len0 ≤ 4096 := by omega
  have HV0 := hidP hv0
  clear hbig hv0
  go_enter Try.func4, Try.ntmps4
  go_wp2_with fail
  refine (bigC ao0 len0 cap0 _).mono ?_
  rintro e w0 ⟨rfl, hw0⟩
  subst hw0
  rw [hbb]
  clear hbb
  go_wp2_with fail
  refine (cDrawRolled ao0 len0 cap0 _ HV0.out hn).mono ?_
  rintro e w1 ⟨⟨d, rfl⟩, L1⟩
  have HB := hidP L1
  have HV1 := hidP (HV0.out.below (Nat.le_refl _) L1)
  clear HV0 L1
  have hr0 : (rolV d != rolV d) = false := by simp
  have hl0 : (levV d != levV d) = false := by simp
  go_wp2_with fail
  refine (iRolled d _).mono ?_
  rintro e w2 ⟨rfl, hw2⟩
  subst hw2
  go_wp2_with fail
  refine (iLevel d _).mono ?_
  rintro e w2 ⟨rfl, hw2⟩
  subst hw2
  go_wp2_with fail
  refine (sRolled d _).mono ?_
  rintro e w2 ⟨rfl, hw2⟩
  subst hw2
  go_wp2_with fail
  refine (sLevel d _).mono ?_
  rintro e w2 ⟨rfl, hw2⟩
  subst hw2
  rcases hin : inR d 0 1000002 with _ | _
  · have e1 := rolV_no hin
    have e2 := levV_no hin
    have hneg : rolV d < 0 := by omega
    have h1 : (levV d == -1) = true := by simp [e2]
    clear e1 e2 hin
    generalize rolV d = r at *
    generalize levV d = l at *
    go_wp2_with fail
    go_ret
    exact ⟨rfl, HB.out⟩
  have hrl := rolV_lt hin
  have hle := levV_in hin
  have hneg : ¬ rolV d < 0 := by omega
  have hr2 : rolV d ≤ 1000002 := hrl.2
  have HIN := hidP hin
  obtain ⟨L, hL⟩ : ∃ L, levF 3 d = L := ⟨_, rfl⟩
  have hL3 : L ≤ 3 := by rw [← hL]; exact levF_le 3 d
  rw [hL] at hle
  have HL := hidP hL
  have HRI : Hid (∀ b, inR b 0 1000002 = true → b ≠ d → (rolV b != rolV d) = true) := fun b hb hne => by
    rw [bne_iff_ne]; exact fun e => hne (rolV_inj hb HIN.out e)
  clear hrl hin hL
  generalize hrg : rolV d = r at *
  rw [hle]
  rw [hle] at hl0
  clear hle hrg
  go_wp2_with fail
  clear hneg hr0 hl0
  go_loopw [6, 7] (fun xv iv wr => ∃ k : Nat, k ≤ L ∧ xv = .int .i64 (divT d k) ∧ iv = .int .i64 k ∧ wr = w2) (fun _ iv _ => L - (intOf iv).toNat)
  case atStart => exact ⟨0, Nat.zero_le _, rfl, rfl, rfl⟩
  case round =>
    obtain ⟨k, hk, rfl, rfl, hwr⟩ := hrel
    subst hwr
    obtain ⟨e1, e2, e3, e4⟩ := lev_wrap (n := k) HIN.out
    have HYW : Hid (wrap64 (divT d (k + 1)) = divT d (k + 1)) := by
      show wrap64 _ = _
      have := divT_bound d (k + 1) (inR_iff.1 HIN.out).1 (inR_iff.1 HIN.out).2
      unfold wrap64
      omega
    by_cases hlt : k < L
    · have hat := levF_at (k := 3) (d := d) (n := k) (by rw [HL.out]; exact hlt)
      have h1 : (divT d k % 4 != 0) = false := by simp [hat.2]
      have h2 : (divT d k == 0) = false := by rw [beq_eq_false_iff_ne]; omega
      have hlti : (k : Int) < (L : Int) := by omega
      have hw1 : IntKind.i64.wrap ((k : Int) + 1) = ((k + 1 : Nat) : Int) := by rw [IntWalk.i64_in _ ⟨by omega, by omega⟩]; omega
      clear hat
      generalize hx : divT d k = x at *
      generalize hy : divT d (k + 1) = y at *
      have HY := hidP hy
      clear hx hy
      go_wp2_with fail
      go_roundw
      case rel => exact ⟨k + 1, by omega, by rw [HY.out]; first | rfl | exact congrArg _ HYW.out, by first | trivial | rfl, by first | trivial | rfl⟩
      case measure => simp [intOf]; omega
    · have hlti : ¬ (k : Int) < (L : Int) := by omega
      obtain rfl : k = L := by omega
      have HEND : Hid (k < 3 → divT d k = 0 ∨ divT d k % 4 ≠ 0) := fun h3 => by
        have := levF_end (k := 3) (d := d) (by rw [HL.out]; exact h3) (inR_iff.1 HIN.out).1
        rw [HL.out] at this; exact this
      have hb := divT_bound d k (inR_iff.1 HIN.out).1 (inR_iff.1 HIN.out).2
      clear e1 e2
      go_wp2_with fail
      refine (pickD ao0 len0 cap0 1 1000003 _ HV1.out hn (by omega) (by omega) (by omega) (by omega)).mono ?_
      rintro e w3 ⟨⟨o, ho0, ho1, rfl⟩, hw3⟩
      subst hw3
      have HRO := hidP (iRolled o)
      have HNE : Hid (o ≠ d → (rolV o != r) = true) := fun h => HRI.out o (by rw [inR_iff]; omega) h
      have hk3 : (k : Int) ≤ 3 := by omega
      by_cases hod : o = d
      · have hb1 : (o == d) = true := by simp [hod]
        by_cases hk33 : k = 3
        · have hb2 : ((k : Int) == 3) = true := by simp; omega
          go_wp2_with fail
          go_ret
          exact ⟨rfl, HB.out⟩
        · have hb2 : ((k : Int) == 3) = false := by simp; omega
          by_cases hz : divT d k = 0
          · have hb3 : (divT d k == 0) = true := by simp [hz]
            clear hz
            generalize divT d k = x at *
            go_wp2_with fail
            go_ret
            exact ⟨rfl, HB.out⟩
          · have hb3 : (divT d k == 0) = false := by simp [hz]
            have hb4 : (divT d k % 4 != 0) = true := by
              rcases HEND.out (by omega) with h | h
              · exact absurd h hz
              · simp [h]
            clear hz
            generalize divT d k = x at *
            go_wp2_with fail
            go_ret
            exact ⟨rfl, HB.out⟩
      · have hb1 : (o == d) = false := by simp [hod]
        have hb5 := HNE.out hod
        by_cases hk33 : k = 3
        · have hb2 : ((k : Int) == 3) = true := by simp; omega
          go_wp2_with fail
          refine (HRO.out _).mono ?_
          rintro e w4 ⟨rfl, hw4⟩
          subst hw4
          go_wp2_with fail
          go_ret
          exact ⟨rfl, HB.out⟩
        · have hb2 : ((k : Int) == 3) = false := by simp; omega
          by_cases hz : divT d k = 0
          · have hb3 : (divT d k == 0) = true := by simp [hz]
            clear hz
            generalize divT d k = x at *
            go_wp2_with fail
            refine (HRO.out _).mono ?_
            rintro e w4 ⟨rfl, hw4⟩
            subst hw4
            go_wp2_with fail
            go_ret
            exact ⟨rfl, HB.out⟩
          · have hb3 : (divT d k == 0) = false := by simp [hz]
            have hb4 : (divT d k % 4 != 0) = true := by
              rcases HEND.out (by omega) with h | h
              · exact absurd h hz
              · simp [h]
            clear hz
            generalize divT d k = x at *
            go_wp2_with fail
            refine (HRO.out _).mono ?_
            rintro e w4 ⟨rfl, hw4⟩
            subst hw4
            go_wp2_with fail
            go_ret
            exact ⟨rfl, HB.out⟩
end Go.Proofs.Ytmembegdbceooaa
