/-
  The laws' own pick and point, for greater seeds.
-/
import Derived.Test.YthkaiienfkihmaaLike
namespace Go.Proofs.Ythkaiienfkihmaa
open Go Go.RowKit

set_option maxRecDepth 100000 in
set_option maxHeartbeats 400000 in
theorem pickW_nil (ao : Option Addr) (cap : Nat) (s m : Int) (w : World) (hs0 : 0 ≤ s) (hs1 : s ≤ 1000) (h0 : 1 ≤ m) (h1 : m ≤ 10000) :
    Calls Try.prog 56 #[.slice ao 0 cap, .int .i64 s, .int .i64 m] w fun e w' => (∃ x : Int, 0 ≤ x ∧ x < m ∧ e = .returned (.int .i64 x)) ∧ w' = w := by
  have h3 : (m == 0) = false := by simp; omega
  go_enter Try.func56, Try.ntmps56
  go_wp2
  refine wp_loop_rounds 1 ?_
  rw [rounds_succ]
  go_wp2
  go_ret
  exact ⟨⟨_, Int.emod_nonneg _ (by omega), Int.emod_lt_of_pos _ (by omega), rfl⟩, rfl⟩

set_option maxRecDepth 100000 in
set_option maxHeartbeats 400000 in
theorem pickW (ao : Option Addr) (n cap : Nat) (s m : Int) (w : World) (hv : CodeV w ao n) (hn : n ≤ 4096) (hs0 : 0 ≤ s) (hs1 : s ≤ 1000) (h0 : 1 ≤ m) (h1 : m ≤ 10000) :
    Calls Try.prog 56 #[.slice ao n cap, .int .i64 s, .int .i64 m] w fun e w' => (∃ x : Int, 0 ≤ x ∧ x < m ∧ e = .returned (.int .i64 x)) ∧ w' = w := by
  rcases hv with rfl | ⟨b, off, rfl, hbl, hby⟩
  · exact pickW_nil ao cap s m w hs0 hs1 h0 h1
  · have HY := hideP hby
    clear hby
    have h3 : (m == 0) = false := by simp; omega
    go_enter Try.func56, Try.ntmps56
    go_wp2
    go_loop [7, 8] (fun s i => ∃ k : Nat, k ≤ n ∧ i = .int .i64 k ∧ ∃ h : Int, 0 ≤ h ∧ h ≤ 10000000 ∧ s = .int .i64 h) (fun _ i => n - (intOf i).toNat)
    case atStart => exact ⟨0, Nat.zero_le _, rfl, _, by omega, by omega, rfl⟩
    case round =>
      obtain ⟨k, hk, rfl, h, hh0, hh1, rfl⟩ := hrel
      by_cases hlt : k < n
      · obtain ⟨x, hx0, hx1, hx⟩ := HY.out k hlt
        go_wp2
        go_round
        case rel => exact ⟨k + 1, by omega, by go_num, _, by omega, by omega, rfl⟩
        case measure => simp [intOf]; omega
      · go_wp2
        go_ret
        exact ⟨⟨_, Int.emod_nonneg _ (by omega), Int.emod_lt_of_pos _ (by omega), rfl⟩, rfl⟩

set_option maxRecDepth 100000 in
set_option maxHeartbeats 1000000 in
theorem pointW (ao : Option Addr) (n cap m : Nat) (s : Int) (w : World) (hv : CodeV w ao n) (hn : n ≤ 4096) (hs0 : 0 ≤ s) (hs1 : s ≤ 900) (hm : m ≤ 5) :
    Calls Try.prog 25 #[.slice ao n cap, .int .i64 s, .int .i64 m] w fun e w' => ∃ g c xs, e = .returned (.slice (some ⟨g, 0, none⟩) xs.length c) ∧ xs.length = m ∧ (∀ x ∈ xs, -7 ≤ x ∧ x ≤ 7) ∧ View w' (some ⟨g, 0, none⟩) xs ∧ Below w.heap.size w w' := by
  obtain ⟨i0, hi0, hz0, hz1, hz2⟩ := info_parts Try.info2
  go_enter Try.func25, Try.ntmps25
  go_wp2_with fail
  go_loopw [7, 8] (fun v i wr => ∃ (xs : List Int) (g c : Nat), xs.length ≤ m ∧ i = .int .i64 xs.length ∧ v = .slice (some ⟨g, 0, none⟩) xs.length c ∧ (∀ x ∈ xs, -7 ≤ x ∧ x ≤ 7) ∧ Row w.heap.size wr g c xs ∧ Below w.heap.size w wr) (fun _ i _ => m - (intOf i).toNat)
  case atStart =>
    exact ⟨[], w.heap.size, 0, Nat.zero_le _, rfl, rfl, by simp, World.ownsRow_lit w #[] 0 (Nat.le_refl _) (Nat.zero_le _) rfl, (Below.refl _ _).alloc (Nat.le_refl _) _⟩
  case round =>
    obtain ⟨xs, g, c, hk, rfl, rfl, hall, hrow, L⟩ := hrel
    have HA := hideP hall
    clear hall
    have hgl := hrow.lt g rfl
    have hz := L.size
    by_cases hlt : xs.length < m
    · go_wp2_with fail
      refine (pickW ao n cap (s + xs.length) 15 _ (hv.below (Nat.le_refl _) L) hn (by omega) (by omega) (by omega) (by omega)).mono ?_
      rintro e w1 ⟨⟨x, hx0, hx1, rfl⟩, hw1⟩
      subst hw1
      go_wp2_with (at_builtin; refine wpList_append_lies _ rfl (.tmp 15) (.tmp 22) 24 rfl w.heap.size 2 i0 _ 1 8 Try.underlying24 hi0 hz0 hz1 hz2 rfl (by omega) (.slice (some ⟨g, 0, none⟩) xs.length c) xs.length (xs.map (Value.int .i64)) rfl (World.ownsRow.alloc hrow _) ⟨w1.heap.size, 0, none⟩ 1 1 [.int .i64 (x - 7)] rfl rfl (World.news_of_block (cs := #[.int .i64 (x - 7)]) (t := 2) (fr := (0, 0)) (heap_alloc_new w1 _)) (by simp [Value.oneCell']) (by omega) (by unfold maxLen; omega) (by omega) (by simp; omega) (w1.heap.size + 1) (by simp) ?_; intro gg cc w2 hown2 hgrow hat hlt1)
      go_wp2
      go_roundw
      case rel =>
        refine ⟨xs ++ [x - 7], gg, cc, by simp; omega, ?_, ?_, ?_, ?_, ?_⟩
        · rw [List.length_append, List.length_singleton]; go_num
        · rw [List.length_append, List.length_singleton]
        · intro z hzm
          rcases List.mem_append.1 hzm with h | h
          · exact HA.out z h
          · simp at h; omega
        · unfold Row; rw [List.length_append, List.length_singleton, List.map_append]; exact hown2
        · exact (L.alloc hz _).grown hgrow (by simp; omega) (by intro k hk; simp [Value.ownBlock] at hk; omega)
      case measure => simp [intOf]; omega
    · have hml : xs.length = m := by omega
      have HM := hideP hml
      clear hml
      go_wp2_with fail
      go_ret
      exact ⟨g, c, xs, rfl, HM.out, HA.out, hrow.view, L⟩

end Go.Proofs.Ythkaiienfkihmaa
