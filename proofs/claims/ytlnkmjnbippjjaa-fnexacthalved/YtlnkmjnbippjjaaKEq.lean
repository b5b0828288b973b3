/-
  The laws' own helper eqKnotS: of two rows that read as the same knots it says so.
-/
import Derived.Test.YtlnkmjnbippjjaaKTop
import Derived.Test.YtlnkmjnbippjjaaMCopy
namespace Go.Proofs.Ytlnkmjnbippjjaa
open Go Go.RowKit

def knth (ks : List Kn) (i : Nat) : Kn := ks.getD i ((0, []), 0, 0, 0)
def KAt (w : World) (b off : Nat) (k : Kn) : Prop :=
  w.cell? ⟨b, off, none⟩ = some (.int .i64 k.1.1) ∧ (∃ ao cap, w.cell? ⟨b, off + 1, none⟩ = some (.slice ao k.1.2.length cap) ∧ View w ao k.1.2) ∧ w.cell? ⟨b, off + 2, none⟩ = some (.int .i64 k.2.1) ∧ w.cell? ⟨b, off + 3, none⟩ = some (.int .i64 k.2.2.1) ∧ w.cell? ⟨b, off + 4, none⟩ = some (.int .i64 k.2.2.2)
def KSeg (w : World) (b off : Nat) (ks : List Kn) : Prop := ∀ i, i < ks.length → KAt w b (off + i * 5) (knth ks i)
def KView (w : World) (ao : Option Addr) (ks : List Kn) : Prop := ks = [] ∨ ∃ b off, ao = some ⟨b, off, none⟩ ∧ b < w.heap.size ∧ KSeg w b off ks
def KSmall (ks : List Kn) : Prop := ks.length ≤ 1048576 ∧ ∀ i, (knth ks i).1.2.length ≤ 1048576
theorem KAt.below {w w' : World} {b off : Nat} {k : Kn} (h : KAt w b off k) (hb : b < w.heap.size) (hw : Below w.heap.size w w') : KAt w' b off k := by
  obtain ⟨h0, ⟨ao, cap, h1, hv⟩, h2, h3, h4⟩ := h
  exact ⟨(hw.cell (p := ⟨b, off, none⟩) hb).trans h0, ⟨ao, cap, (hw.cell (p := ⟨b, off + 1, none⟩) hb).trans h1, hv.next hw⟩, (hw.cell (p := ⟨b, off + 2, none⟩) hb).trans h2, (hw.cell (p := ⟨b, off + 3, none⟩) hb).trans h3, (hw.cell (p := ⟨b, off + 4, none⟩) hb).trans h4⟩
theorem KView.next {w w' : World} {ao : Option Addr} {ks : List Kn} (h : KView w ao ks) (hw : Below w.heap.size w w') : KView w' ao ks :=
  h.imp id fun ⟨b, off, e, hb, hs⟩ => ⟨b, off, e, Nat.lt_of_lt_of_le hb hw.size, fun i hi => (hs i hi).below hb hw⟩
theorem dk_nth {es : List Dk} {ks : List Kn} (h : es.map dkKn = ks) {i : Nat} (hi : i < ks.length) : knth ks i = dkKn (dnth es i) := by
  subst h
  simp at hi
  simp [knth, dnth, List.getD, hi]
theorem KGot.view {B : Nat} {w : World} {v : Value} {ks : List Kn} (h : KGot B w v ks) : ∃ ao c, v = .slice ao ks.length c ∧ KView w ao ks := by
  rcases h with ⟨rfl, rfl⟩ | ⟨g, c, es, rfl, he, hr, ho⟩
  · exact ⟨none, 0, rfl, Or.inl rfl⟩
  · refine ⟨some ⟨g, 0, none⟩, c, rfl, Or.inr ⟨g, 0, rfl, hr.lt.2, fun i hi => ?_⟩⟩
    have hl : i < es.length := by rw [← he] at hi; simpa using hi
    rw [dk_nth he hi, Nat.zero_add]
    obtain ⟨c0, c1, c2, c3, c4⟩ := hr.cell hl
    have hm : dnth es i ∈ es := by simp [dnth, List.getD, hl]
    obtain ⟨h, e, r, _⟩ := ho.1 _ hm
    exact ⟨c0, ⟨_, _, c1, by rw [e]; exact r.view⟩, c2, c3, c4⟩

set_option maxRecDepth 100000 in
set_option maxHeartbeats 1000000 in
theorem eqK (k : Kn) (ao ao' : Option Addr) (cap cap' : Nat) (w : World) (hv : View w ao k.1.2) (hv' : View w ao' k.1.2) (hn : k.1.2.length ≤ 1048576) :
    Calls Try.prog 46 #[.agg #[.int .i64 k.1.1, .slice ao k.1.2.length cap, .int .i64 k.2.1, .int .i64 k.2.2.1, .int .i64 k.2.2.2], .agg #[.int .i64 k.1.1, .slice ao' k.1.2.length cap', .int .i64 k.2.1, .int .i64 k.2.2.1, .int .i64 k.2.2.2]] w fun e w' => e = .returned (.bool true) ∧ Below w.heap.size w w' := by
  obtain ⟨W, hW⟩ : ∃ W, W = (w.alloc (.cells #[.int .i64 k.1.1, .slice ao k.1.2.length cap, .int .i64 k.2.1, .int .i64 k.2.2.1, .int .i64 k.2.2.2] 66)).alloc (.cells #[.int .i64 k.1.1, .slice ao' k.1.2.length cap', .int .i64 k.2.1, .int .i64 k.2.2.1, .int .i64 k.2.2.2] 66) := ⟨_, rfl⟩
  have hL : Below w.heap.size w W := by rw [hW]; exact ((Below.refl _ _).alloc (Nat.le_refl _) _).alloc (by simp) _
  have hsz : W.heap.size = w.heap.size + 2 := by rw [hW]; simp
  have a2 : W.cell? ⟨w.heap.size, 2, none⟩ = some (.int .i64 k.2.1) := by rw [hW]; go_simp
  have a3 : W.cell? ⟨w.heap.size, 3, none⟩ = some (.int .i64 k.2.2.1) := by rw [hW]; go_simp
  have a4 : W.cell? ⟨w.heap.size, 4, none⟩ = some (.int .i64 k.2.2.2) := by rw [hW]; go_simp
  have b2 : W.cell? ⟨w.heap.size + 1, 2, none⟩ = some (.int .i64 k.2.1) := by rw [hW]; go_simp
  have b3 : W.cell? ⟨w.heap.size + 1, 3, none⟩ = some (.int .i64 k.2.2.1) := by rw [hW]; go_simp
  have b4 : W.cell? ⟨w.heap.size + 1, 4, none⟩ = some (.int .i64 k.2.2.2) := by rw [hW]; go_simp
  have HM := hidP (eqM k.1 k.1 ao ao' cap cap' W (hv.next hL) (hv'.next hL) hn)
  have hd : decide (k.1 = k.1) = true := by simp
  rw [hd] at HM
  have n1 : (k.2.1 != k.2.1) = false := by simp
  have n2 : (k.2.2.1 != k.2.2.1) = false := by simp
  have n3 : (k.2.2.2 != k.2.2.2) = false := by simp
  have HL := hidP hL
  clear hv hv' hd hL
  go_enter Try.func46, Try.ntmps46
  go_wp2_with fail
  rw [← hW]
  clear hW
  refine HM.out.mono ?_
  rintro e w1 ⟨rfl, L1⟩
  replace a2 := (L1.cell (p := ⟨w.heap.size, 2, none⟩) (by simp; omega)).trans a2
  replace a3 := (L1.cell (p := ⟨w.heap.size, 3, none⟩) (by simp; omega)).trans a3
  replace a4 := (L1.cell (p := ⟨w.heap.size, 4, none⟩) (by simp; omega)).trans a4
  replace b2 := (L1.cell (p := ⟨w.heap.size + 1, 2, none⟩) (by simp; omega)).trans b2
  replace b3 := (L1.cell (p := ⟨w.heap.size + 1, 3, none⟩) (by simp; omega)).trans b3
  replace b4 := (L1.cell (p := ⟨w.heap.size + 1, 4, none⟩) (by simp; omega)).trans b4
  have HE := hidP (HL.out.trans (L1.mono (by omega)))
  clear L1 HM HL
  go_wp2_with fail
  go_ret
  exact ⟨rfl, HE.out⟩

set_option maxHeartbeats 400000 in
theorem eqKS_nil (ao ao' : Option Addr) (cap cap' : Nat) (w : World) :
    Calls Try.prog 14 #[.slice ao 0 cap, .slice ao' 0 cap'] w fun e w' => e = .returned (.bool true) ∧ w' = w := by
  go_enter Try.func14, Try.ntmps14
  go_wp2
  refine wp_loop_rounds 1 ?_
  rw [rounds_succ]
  go_wp2
  go_ret
  exact ⟨rfl, rfl⟩

set_option maxRecDepth 100000 in
set_option maxHeartbeats 1000000 in
theorem eqKS (ao ao' : Option Addr) (cap cap' : Nat) (ks : List Kn) (w : World) (hv : KView w ao ks) (hv' : KView w ao' ks) (hsm : KSmall ks) :
    Calls Try.prog 14 #[.slice ao ks.length cap, .slice ao' ks.length cap'] w fun e w' => e = .returned (.bool true) ∧ Below w.heap.size w w' := by
  rcases hv with rfl | ⟨b, off, rfl, hb, hs⟩
  · refine (eqKS_nil ao ao' cap cap' w).mono ?_
    rintro e w' ⟨rfl, rfl⟩
    exact ⟨rfl, Below.refl _ _⟩
  · rcases hv' with rfl | ⟨b', off', rfl, hb', hs'⟩
    · refine (eqKS_nil _ ao' cap cap' w).mono ?_
      rintro e w' ⟨rfl, rfl⟩
      exact ⟨rfl, Below.refl _ _⟩
    · obtain ⟨hn, hat⟩ := hsm
      have hlb : ((ks.length : Int) != (ks.length : Int)) = false := by simp
      have HS := hidP (And.intro hs hs')
      clear hs hs'
      go_enter Try.func14, Try.ntmps14
      go_wp2
      go_loopw [5] (fun i wr => ∃ k : Nat, k ≤ ks.length ∧ i = .int .i64 k ∧ Below w.heap.size w wr) (fun i _ => ks.length - (intOf i).toNat)
      case atStart => exact ⟨0, Nat.zero_le _, rfl, Below.refl _ _⟩
      case round =>
        obtain ⟨k, hk, rfl, L⟩ := hrel
        by_cases hlt : k < ks.length
        · obtain ⟨c0, ⟨ao, ca, c1, hv⟩, c2, c3, c4⟩ := (HS.out.1 k hlt).below hb L
          obtain ⟨d0, ⟨ao', ca', d1, hv'⟩, d2, d3, d4⟩ := (HS.out.2 k hlt).below hb' L
          have hi0 : (0 : Int) ≤ (k : Int) := Int.natCast_nonneg _
          have hi1 : (k : Int) < (ks.length : Int) := by omega
          have hz := L.size
          have hbw : b < wr.heap.size := by omega
          have hbw' : b' < wr.heap.size := by omega
          have HC := hidP (eqK (knth ks k) ao ao' ca ca' wr.drew hv hv' (hat k))
          have HLL := hidP L
          have HK : Hid (∀ w', Below wr.heap.size wr w' → (w'.cell? ⟨b, off + k * 5, none⟩ = some (.int .i64 (knth ks k).1.1) ∧ w'.cell? ⟨b, off + k * 5 + 1, none⟩ = some (.slice ao (knth ks k).1.2.length ca) ∧ w'.cell? ⟨b, off + k * 5 + 2, none⟩ = some (.int .i64 (knth ks k).2.1) ∧ w'.cell? ⟨b, off + k * 5 + 3, none⟩ = some (.int .i64 (knth ks k).2.2.1) ∧ w'.cell? ⟨b, off + k * 5 + 4, none⟩ = some (.int .i64 (knth ks k).2.2.2)) ∧ w'.cell? ⟨b', off' + k * 5, none⟩ = some (.int .i64 (knth ks k).1.1) ∧ w'.cell? ⟨b', off' + k * 5 + 1, none⟩ = some (.slice ao' (knth ks k).1.2.length ca') ∧ w'.cell? ⟨b', off' + k * 5 + 2, none⟩ = some (.int .i64 (knth ks k).2.1) ∧ w'.cell? ⟨b', off' + k * 5 + 3, none⟩ = some (.int .i64 (knth ks k).2.2.1) ∧ w'.cell? ⟨b', off' + k * 5 + 4, none⟩ = some (.int .i64 (knth ks k).2.2.2)) := fun w' M =>
            ⟨⟨(M.cell (p := ⟨b, off + k * 5, none⟩) hbw).trans c0, (M.cell (p := ⟨b, off + k * 5 + 1, none⟩) hbw).trans c1, (M.cell (p := ⟨b, off + k * 5 + 2, none⟩) hbw).trans c2, (M.cell (p := ⟨b, off + k * 5 + 3, none⟩) hbw).trans c3, (M.cell (p := ⟨b, off + k * 5 + 4, none⟩) hbw).trans c4⟩, (M.cell (p := ⟨b', off' + k * 5, none⟩) hbw').trans d0, (M.cell (p := ⟨b', off' + k * 5 + 1, none⟩) hbw').trans d1, (M.cell (p := ⟨b', off' + k * 5 + 2, none⟩) hbw').trans d2, (M.cell (p := ⟨b', off' + k * 5 + 3, none⟩) hbw').trans d3, (M.cell (p := ⟨b', off' + k * 5 + 4, none⟩) hbw').trans d4⟩
          clear L hv hv'
          generalize knth ks k = kn at *
          go_wp2_with fail
          go_region_held3 (fun w' => (w'.cell? ⟨b, off + k * 5, none⟩ = some (.int .i64 kn.1.1) ∧ w'.cell? ⟨b, off + k * 5 + 1, none⟩ = some (.slice ao kn.1.2.length ca) ∧ w'.cell? ⟨b, off + k * 5 + 2, none⟩ = some (.int .i64 kn.2.1) ∧ w'.cell? ⟨b, off + k * 5 + 3, none⟩ = some (.int .i64 kn.2.2.1) ∧ w'.cell? ⟨b, off + k * 5 + 4, none⟩ = some (.int .i64 kn.2.2.2)) ∧ w'.cell? ⟨b', off' + k * 5, none⟩ = some (.int .i64 kn.1.1) ∧ w'.cell? ⟨b', off' + k * 5 + 1, none⟩ = some (.slice ao' kn.1.2.length ca') ∧ w'.cell? ⟨b', off' + k * 5 + 2, none⟩ = some (.int .i64 kn.2.1) ∧ w'.cell? ⟨b', off' + k * 5 + 3, none⟩ = some (.int .i64 kn.2.2.1) ∧ w'.cell? ⟨b', off' + k * 5 + 4, none⟩ = some (.int .i64 kn.2.2.2))
            (first
              | exact HK.out _ (Below.refl _ _).drew
              | exact HK.out _ ((Below.refl _ _).drew.trans L1)
              | go_keep)
            (first
              | (go_at_call 46; refine HC.out.mono ?_; rintro e w1 ⟨rfl, L1⟩))
          have LF := hidP (HLL.out.drew.trans (L1.mono hz))
          clear L1 HC HK
          go_wp2_with fail
          go_roundw
          case rel => exact ⟨k + 1, by omega, by go_num, LF.out⟩
          case measure => simp [intOf]; omega
        · go_wp2
          go_ret
          exact ⟨rfl, L⟩

end Go.Proofs.Ytlnkmjnbippjjaa
