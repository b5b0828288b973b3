/-
  The laws' own toBallS: new balls that read as what was given.
-/
import Derived.Test.YthddhblmnfjciaaVArgZz
import Derived.Test.YthddhblmnfjciaaKCopyZz
namespace Go.Proofs.Ythddhblmnfjciaa
open Go Go.RowKit

set_option maxRecDepth 100000 in
set_option maxHeartbeats 1000000 in
theorem toVb (k : Kn) (ao : Option Addr) (cap : Nat) (w : World) (hv : View w ao k.1.2) (hn : k.1.2.length ≤ 1048576) :
    Calls Try.prog 89 #[.agg #[.int .i64 k.1.1, .slice ao k.1.2.length cap, .int .i64 k.2.1, .int .i64 k.2.2.1, .int .i64 k.2.2.2]] w fun e w' => ∃ b, e = .returned (.agg #[.int .i64 k.1.1, .slice (some ⟨b, 0, none⟩) k.1.2.length k.1.2.length, .int .i64 k.2.1, .int .i64 k.2.2.1, .int .i64 k.2.2.2]) ∧ Own w' b k.1.2 ∧ w.heap.size ≤ b ∧ Below w.heap.size w w' := by
  obtain ⟨W, hW⟩ : ∃ W, W = ((w.alloc (.cells #[.int .i64 k.1.1, .slice ao k.1.2.length cap, .int .i64 k.2.1, .int .i64 k.2.2.1, .int .i64 k.2.2.2] 111)).alloc (.cells #[.int .i64 0, .slice none 0 0, .int .i64 0, .int .i64 0, .int .i64 0] 107)).alloc (.cells #[.int .i64 0, .slice none 0 0, .int .i64 0, .int .i64 0, .int .i64 0] 107) := ⟨_, rfl⟩
  have hL : Below w.heap.size w W := by rw [hW]; exact (((Below.refl _ _).alloc (Nat.le_refl _) _).alloc (by simp) _).alloc (by simp; omega) _
  have hsz : W.heap.size = w.heap.size + 3 := by rw [hW]; simp
  have F0 : Five W w.heap.size (.int .i64 k.1.1) (.slice ao k.1.2.length cap) (.int .i64 k.2.1) (.int .i64 k.2.2.1) (.int .i64 k.2.2.2) 111 := by rw [hW]; exact (((Five.new w _ _ _ _ _ _).below (alloc_below _ _)).below (alloc_below _ _))
  have F1 : Five W (w.heap.size + 1) (.int .i64 0) (.slice none 0 0) (.int .i64 0) (.int .i64 0) (.int .i64 0) 107 := by
    rw [hW]
    have := Five.new (w.alloc (.cells #[.int .i64 k.1.1, .slice ao k.1.2.length cap, .int .i64 k.2.1, .int .i64 k.2.2.1, .int .i64 k.2.2.2] 111)) (.int .i64 0) (.slice none 0 0) (.int .i64 0) (.int .i64 0) (.int .i64 0) 107
    rw [World.size_alloc] at this
    exact this.below (alloc_below _ _)
  have F2 : Five W (w.heap.size + 1 + 1) (.int .i64 0) (.slice none 0 0) (.int .i64 0) (.int .i64 0) (.int .i64 0) 107 := by
    rw [hW]
    have := Five.new ((w.alloc (.cells #[.int .i64 k.1.1, .slice ao k.1.2.length cap, .int .i64 k.2.1, .int .i64 k.2.2.1, .int .i64 k.2.2.2] 111)).alloc (.cells #[.int .i64 0, .slice none 0 0, .int .i64 0, .int .i64 0, .int .i64 0] 107)) (.int .i64 0) (.slice none 0 0) (.int .i64 0) (.int .i64 0) (.int .i64 0) 107
    rw [World.size_alloc, World.size_alloc] at this
    exact this
  have HC := hidP (toM k.1 ao cap W (hv.next hL) hn)
  have HF := hidP (And.intro F0 (And.intro F1 F2))
  have HL := hidP hL
  obtain ⟨x0, x1, _, _, _⟩ := F0.cells
  clear hv hL F0 F1 F2
  go_enter Try.func89, Try.ntmps89
  go_wp2_with fail
  rw [← hW]
  clear hW
  refine HC.out.mono ?_
  rintro e w1 ⟨g, rfl, o1, hg, L1⟩
  obtain ⟨F0, F1, F2⟩ := HF.out
  obtain ⟨a0, a1, a2, a3, a4⟩ := (F0.below L1).cells
  obtain ⟨b0, b1, b2, b3, b4⟩ := (F1.below L1).cells
  obtain ⟨c0, c1, c2, c3, c4⟩ := (F2.below L1).cells
  have f1 := (F1.below L1).frozen
  have f2 := (F2.below L1).frozen
  have hz := L1.size
  have HO := hidP o1
  have HL1 := hidP (HL.out.trans (L1.mono (by omega)))
  clear F0 F1 F2 L1 o1 HF HL HC x0 x1
  go_wp2_with fail
  refine bodyPost_ret (v := .agg #[.int .i64 k.1.1, .slice (some ⟨g, 0, none⟩) k.1.2.length k.1.2.length, .int .i64 k.2.1, .int .i64 k.2.2.1, .int .i64 k.2.2.2]) (by simp [results, Try.results89, go_sem, b0, b1, b2, b3, b4]) rfl ?_
  exact ⟨g, rfl, ((((((((((HO.out.setOther (by simp; omega) _).setOther (by simp; omega) _).setOther (by simp; omega) _).setOther (by simp; omega) _).setOther (by simp; omega) _).setOther (by simp; omega) _).setOther (by simp; omega) _).setOther (by simp; omega) _).setOther (by simp; omega) _).setOther (by simp; omega) _), by omega, (set_below (set_below (set_below (set_below (set_below (set_below (set_below (set_below (set_below (set_below HL1.out (by omega) _) (by omega) _) (by omega) _) (by omega) _) (by omega) _) (by omega) _) (by omega) _) (by omega) _) (by omega) _) (by omega) _)⟩
set_option maxRecDepth 100000 in
set_option maxHeartbeats 1000000 in
theorem toVS_seg (b off cap : Nat) (ks : List Kn) (w : World) (hs : KSeg w b off ks) (hb : b < w.heap.size) (hsm : KSmall ks) :
    Calls Try.prog 32 #[.slice (some ⟨b, off, none⟩) ks.length cap] w fun e w' => e = .returned (.slice (some ⟨w.heap.size, 0, none⟩) ks.length ks.length) ∧ KPart w' w.heap.size ks.length ks.length ks ∧ Below w.heap.size w w' := by
  obtain ⟨hn, hat⟩ := hsm
  have hmk := run_make_rows (P := Try.prog) 32 107 (.agg #[.int .i64 0, .slice none 0 0, .int .i64 0, .int .i64 0, .int .i64 0]) 5 56 Try.underlying32 Try.info107 .i64 .i64 ks.length (by omega) (by omega)
  go_enter Try.func32, Try.ntmps32
  go_wp2
  clear hmk
  go_loopw [4] (fun i wr => ∃ k : Nat, k ≤ ks.length ∧ i = .int .i64 k ∧ KPart wr w.heap.size k ks.length ks ∧ Below w.heap.size w wr) (fun i _ => ks.length - (intOf i).toNat)
  case atStart => exact ⟨0, Nat.zero_le _, rfl, KPart.start w _ _ _ _, (Below.refl _ _).alloc (Nat.le_refl _) _⟩
  case round =>
    obtain ⟨k, hk, rfl, hp, L⟩ := hrel
    by_cases hlt : k < ks.length
    · obtain ⟨c0, ⟨ao, ca, c1, hv⟩, c2, c3, c4⟩ := (hs k hlt).below hb L
      have hz := L.size
      have HP := hidP hp
      have HL := hidP L
      have hp1 := hp.1
      have hak := hat k
      generalize hq : knth ks k = q at *
      have HQ := hidP hq
      clear hp L hq
      go_wp2_with fail
      refine (toVb q ao ca _ hv hak).mono ?_
      rintro e w1 ⟨g, rfl, o1, hg, L1⟩
      have hp' := HP.out.below L1
      obtain ⟨v0, e0⟩ := hp'.2.2.1 (k * 5) (Nat.le_refl _) (by omega)
      obtain ⟨v1, e1⟩ := hp'.2.2.1 (k * 5 + 1) (by omega) (by omega)
      obtain ⟨v2, e2⟩ := hp'.2.2.1 (k * 5 + 2) (by omega) (by omega)
      obtain ⟨v3, e3⟩ := hp'.2.2.1 (k * 5 + 3) (by omega) (by omega)
      obtain ⟨v4, e4⟩ := hp'.2.2.1 (k * 5 + 4) (by omega) (by omega)
      have f := hp'.2.2.2
      have HS : Hid (KPart (((((w1.setCell ⟨w.heap.size, k * 5, none⟩ (.int .i64 q.1.1)).setCell ⟨w.heap.size, k * 5 + 1, none⟩ (.slice (some ⟨g, 0, none⟩) q.1.2.length q.1.2.length)).setCell ⟨w.heap.size, k * 5 + 2, none⟩ (.int .i64 q.2.1)).setCell ⟨w.heap.size, k * 5 + 3, none⟩ (.int .i64 q.2.2.1)).setCell ⟨w.heap.size, k * 5 + 4, none⟩ (.int .i64 q.2.2.2)) w.heap.size (k + 1) ks.length ks) := by
        have := hp'.step hlt (g := g) (by omega) (by rw [HQ.out]; exact o1)
        rw [HQ.out] at this
        exact this
      have HL2 := hidP (HL.out.trans (L1.mono hz))
      clear hp' L1 o1 HP HL c0 c1 c2 c3 c4 hv
      go_wp2_with fail
      go_roundw
      case rel => exact ⟨k + 1, by omega, by go_num, HS.out, set_below (set_below (set_below (set_below (set_below HL2.out (Nat.le_refl _) _) (Nat.le_refl _) _) (Nat.le_refl _) _) (Nat.le_refl _) _) (Nat.le_refl _) _⟩
      case measure => simp [intOf]; omega
    · go_wp2
      go_ret
      obtain rfl : k = ks.length := by omega
      exact ⟨rfl, hp, L⟩
set_option maxHeartbeats 400000 in
theorem toVS_nil (ao : Option Addr) (cap : Nat) (w : World) :
    Calls Try.prog 32 #[.slice ao 0 cap] w fun e w' => e = .returned (.slice (some ⟨w.heap.size, 0, none⟩) 0 0) ∧ w' = w.alloc (.cells #[] 107) := by
  have hmk : ∀ w, (Instr.makeSlice 32 (.int .i64 0) (.int .i64 0)).run Try.prog w = .ok (.slice (some ⟨w.heap.size, 0, none⟩) 0 0) (w.alloc (.cells #[] 107)) := fun _ => by kernel_rfl
  go_enter Try.func32, Try.ntmps32
  go_wp2
  clear hmk
  refine wp_loop_rounds 1 ?_
  rw [rounds_succ]
  go_wp2
  go_ret
  exact ⟨rfl, rfl⟩
/-- toKnotS: new knots that read as what was given. -/
theorem toVS (ao : Option Addr) (cap : Nat) (ks : List Kn) (w : World) (hv : KView w ao ks) (hsm : KSmall ks) :
    Calls Try.prog 32 #[.slice ao ks.length cap] w fun e w' => ∃ b, e = .returned (.slice (some ⟨b, 0, none⟩) ks.length ks.length) ∧ KPart w' b ks.length ks.length ks ∧ w.heap.size ≤ b ∧ Below w.heap.size w w' := by
  rcases hv with rfl | ⟨b, off, rfl, hb, hs⟩
  · refine (toVS_nil ao cap w).mono ?_
    rintro e w' ⟨rfl, rfl⟩
    exact ⟨_, rfl, ⟨by simp, fun i hi => by simp at hi, fun j _ h2 => by simp at h2, fun j => World.frozen?_alloc_at _ _ _ _ rfl⟩, Nat.le_refl _, (Below.refl _ _).alloc (Nat.le_refl _) _⟩
  · refine (toVS_seg b off cap ks w hs hb hsm).mono ?_
    rintro e w' ⟨rfl, hp, L⟩
    exact ⟨_, rfl, hp, Nat.le_refl _, L⟩

end Go.Proofs.Ythddhblmnfjciaa
