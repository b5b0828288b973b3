/-
  The named laws' helpers: likeInts, pick, point.
-/
import Derived.Test.YthkaiienfkihmaaDraw
namespace Go.Proofs.Ythkaiienfkihmaa
open Go Go.RowKit

set_option maxHeartbeats 400000 in
theorem likeS_ne (ao ao' : Option Addr) (n n' cap cap' : Nat) (w : World) (h : n ≠ n') :
    Calls Try.prog 14 #[.slice ao n cap, .slice ao' n' cap'] w fun e w' => e = .returned (.bool false) ∧ w' = w := by
  have hlb : ((n : Int) != (n' : Int)) = true := by simp; omega
  go_enter Try.func14, Try.ntmps14
  go_wp2
  go_ret
  exact ⟨rfl, rfl⟩

set_option maxHeartbeats 400000 in
theorem likeS_nil (ao ao' : Option Addr) (cap cap' : Nat) (w : World) :
    Calls Try.prog 14 #[.slice ao 0 cap, .slice ao' 0 cap'] w fun e w' => e = .returned (.bool true) ∧ w' = w := by
  go_enter Try.func14, Try.ntmps14
  go_wp2
  refine wp_loop_rounds 1 ?_
  rw [rounds_succ]
  go_wp2
  go_ret
  exact ⟨rfl, rfl⟩

set_option maxHeartbeats 400000 in
theorem likeS_seg (b off cap b' off' cap' : Nat) (xs ys : List Int) (w : World) (hs : Seg w b off xs) (hs' : Seg w b' off' ys) (hn : xs.length ≤ 1048576) (hl : xs.length = ys.length) :
    Calls Try.prog 14 #[.slice (some ⟨b, off, none⟩) xs.length cap, .slice (some ⟨b', off', none⟩) ys.length cap'] w fun e w' => e = .returned (.bool (decide (xs = ys))) ∧ ∃ n, w' = w.drewN n := by
  have hlb : ((xs.length : Int) != (ys.length : Int)) = false := by simp [hl]
  have HL : Hid (xs.length = ys.length) := hl
  have hn' : ys.length ≤ 1048576 := by omega
  clear hl
  go_enter Try.func14, Try.ntmps14
  go_wp2
  go_loopw [5] (fun i wr => ∃ k : Nat, k ≤ xs.length ∧ i = .int .i64 k ∧ (∀ j, j < k → nth xs j = nth ys j) ∧ ∃ n, wr = w.drewN n) (fun i _ => xs.length - (intOf i).toNat)
  case atStart => exact ⟨0, Nat.zero_le _, rfl, fun j hj => by omega, 0, rfl⟩
  case round =>
    obtain ⟨k, hk, rfl, hall, n, rfl⟩ := hrel
    have HA : Hid (∀ j, j < k → nth xs j = nth ys j) := hall
    clear hall
    by_cases hlt : k < xs.length
    · have hc := hs k hlt
      have hlt' : k < ys.length := by have := HL.out; omega
      have hc' := hs' k hlt'
      by_cases he : nth xs k = nth ys k
      · have heb : (nth xs k != nth ys k) = false := by simp [he]
        have HE : Hid (nth xs k = nth ys k) := he
        clear he
        go_wp2
        go_quiet (fail)
        go_wp2
        go_roundw
        case rel => exact ⟨k + 1, by omega, by go_num, fun j hj => by
          rcases Nat.lt_or_ge j k with h | h
          · exact HA.out j h
          · rw [show j = k by omega]; exact HE.out, _, rfl⟩
        case measure => simp [intOf]; omega
      · have heb : (nth xs k != nth ys k) = true := by simp [he]
        have HE : Hid (¬ nth xs k = nth ys k) := he
        clear he
        go_wp2
        go_quiet (fail)
        go_wp2
        go_ret
        exact ⟨ret_bool (Eq.symm (decide_eq_false (fun h => HE.out (by rw [h])))), n + nq, by simp⟩
    · go_wp2
      go_ret
      obtain rfl : k = xs.length := by omega
      exact ⟨ret_bool (Eq.symm (decide_eq_true (eq_of_nth HL.out HA.out))), _, rfl⟩

/-- likeInts: are two alike. -/
theorem likeS (ao ao' : Option Addr) (cap cap' : Nat) (xs ys : List Int) (w : World) (hv : View w ao xs) (hv' : View w ao' ys) (hn : xs.length ≤ 1048576) :
    Calls Try.prog 14 #[.slice ao xs.length cap, .slice ao' ys.length cap'] w fun e w' => e = .returned (.bool (decide (xs = ys))) ∧ ∃ n, w' = w.drewN n := by
  by_cases hl : xs.length = ys.length
  · rcases hv with rfl | ⟨b, off, rfl, _, hs⟩
    · obtain rfl : ys = [] := List.eq_nil_of_length_eq_zero (by simpa using hl.symm)
      refine (likeS_nil ao ao' cap cap' w).mono ?_
      rintro e w' ⟨rfl, rfl⟩
      exact ⟨rfl, 0, rfl⟩
    · rcases hv' with rfl | ⟨b', off', rfl, _, hs'⟩
      · obtain rfl : xs = [] := List.eq_nil_of_length_eq_zero (by simpa using hl)
        refine (likeS_nil _ ao' cap cap' w).mono ?_
        rintro e w' ⟨rfl, rfl⟩
        exact ⟨rfl, 0, rfl⟩
      · exact likeS_seg b off cap b' off' cap' xs ys w hs hs' hn hl
  · refine (likeS_ne ao ao' xs.length ys.length cap cap' w hl).mono ?_
    rintro e w' ⟨rfl, rfl⟩
    exact ⟨ret_bool (Eq.symm (decide_eq_false (fun h => hl (by rw [h])))), 0, rfl⟩

set_option maxRecDepth 100000 in
set_option maxHeartbeats 400000 in
theorem pick_nil (ao : Option Addr) (cap : Nat) (s m : Int) (w : World) (hs0 : 0 ≤ s) (hs1 : s ≤ 100) (h0 : 1 ≤ m) (h1 : m ≤ 10000) :
    Calls Try.prog 56 #[.slice ao 0 cap, .int .i64 s, .int .i64 m] w fun e w' => (∃ x : Int, 0 ≤ x ∧ x < m ∧ e = .returned (.int .i64 x)) ∧ w' = w := by
  have h3 : (m == 0) = false := by simp; omega
  go_enter Try.func56, Try.ntmps56
  go_wp2
  refine wp_loop_rounds 1 ?_
  rw [rounds_succ]
  go_wp2
  go_ret
  exact ⟨⟨_, Int.emod_nonneg _ (by omega), Int.emod_lt_of_pos _ (by omega), rfl⟩, rfl⟩

set_option maxRecDepth 100000 in
set_option maxHeartbeats 400000 in
theorem pickC (ao : Option Addr) (n cap : Nat) (s m : Int) (w : World) (hv : CodeV w ao n) (hn : n ≤ 4096) (hs0 : 0 ≤ s) (hs1 : s ≤ 100) (h0 : 1 ≤ m) (h1 : m ≤ 10000) :
    Calls Try.prog 56 #[.slice ao n cap, .int .i64 s, .int .i64 m] w fun e w' => (∃ x : Int, 0 ≤ x ∧ x < m ∧ e = .returned (.int .i64 x)) ∧ w' = w := by
  rcases hv with rfl | ⟨b, off, rfl, hbl, hby⟩
  · exact pick_nil ao cap s m w hs0 hs1 h0 h1
  · have HY := hideP hby
    clear hby
    have h3 : (m == 0) = false := by simp; omega
    go_enter Try.func56, Try.ntmps56
    go_wp2
    go_loop [7, 8] (fun s i => ∃ k : Nat, k ≤ n ∧ i = .int .i64 k ∧ ∃ h : Int, 0 ≤ h ∧ h ≤ 2000000 ∧ s = .int .i64 h) (fun _ i => n - (intOf i).toNat)
    case atStart => exact ⟨0, Nat.zero_le _, rfl, _, by omega, by omega, rfl⟩
    case round =>
      obtain ⟨k, hk, rfl, h, hh0, hh1, rfl⟩ := hrel
      by_cases hlt : k < n
      · obtain ⟨x, hx0, hx1, hx⟩ := HY.out k hlt
        go_wp2
        go_round
        case rel => exact ⟨k + 1, by omega, by go_num, _, by omega, by omega, rfl⟩
        case measure => simp [intOf]; omega
      · go_wp2
        go_ret
        exact ⟨⟨_, Int.emod_nonneg _ (by omega), Int.emod_lt_of_pos _ (by omega), rfl⟩, rfl⟩

set_option maxRecDepth 100000 in
set_option maxHeartbeats 1000000 in
theorem pointC (ao : Option Addr) (n cap m : Nat) (s : Int) (w : World) (hv : CodeV w ao n) (hn : n ≤ 4096) (hs0 : 0 ≤ s) (hs1 : s ≤ 50) (hm : m ≤ 5) :
    Calls Try.prog 25 #[.slice ao n cap, .int .i64 s, .int .i64 m] w fun e w' => ∃ g c xs, e = .returned (.slice (some ⟨g, 0, none⟩) xs.length c) ∧ xs.length = m ∧ (∀ x ∈ xs, -7 ≤ x ∧ x ≤ 7) ∧ View w' (some ⟨g, 0, none⟩) xs ∧ Below w.heap.size w w' := by
  obtain ⟨i0, hi0, hz0, hz1, hz2⟩ := info_parts Try.info2
  go_enter Try.func25, Try.ntmps25
  go_wp2_with fail
  go_loopw [7, 8] (fun v i wr => ∃ (xs : List Int) (g c : Nat), xs.length ≤ m ∧ i = .int .i64 xs.length ∧ v = .slice (some ⟨g, 0, none⟩) xs.length c ∧ (∀ x ∈ xs, -7 ≤ x ∧ x ≤ 7) ∧ Row w.heap.size wr g c xs ∧ Below w.heap.size w wr) (fun _ i _ => m - (intOf i).toNat)
  case atStart =>
    exact ⟨[], w.heap.size, 0, Nat.zero_le _, rfl, rfl, by simp, World.ownsRow_lit w #[] 0 (Nat.le_refl _) (Nat.zero_le _) rfl, (Below.refl _ _).alloc (Nat.le_refl _) _⟩
  case round =>
    obtain ⟨xs, g, c, hk, rfl, rfl, hall, hrow, L⟩ := hrel
    have HA := hideP hall
    clear hall
    have hgl := hrow.lt g rfl
    have hz := L.size
    by_cases hlt : xs.length < m
    · go_wp2_with fail
      refine (pickC ao n cap (s + xs.length) 15 _ (hv.below (Nat.le_refl _) L) hn (by omega) (by omega) (by omega) (by omega)).mono ?_
      rintro e w1 ⟨⟨x, hx0, hx1, rfl⟩, hw1⟩
      subst hw1
      go_wp2_with (at_builtin; refine wpList_append_lies _ rfl (.tmp 15) (.tmp 22) 24 rfl w.heap.size 2 i0 _ 1 8 Try.underlying24 hi0 hz0 hz1 hz2 rfl (by omega) (.slice (some ⟨g, 0, none⟩) xs.length c) xs.length (xs.map (Value.int .i64)) rfl (World.ownsRow.alloc hrow _) ⟨w1.heap.size, 0, none⟩ 1 1 [.int .i64 (x - 7)] rfl rfl (World.news_of_block (cs := #[.int .i64 (x - 7)]) (t := 2) (fr := (0, 0)) (heap_alloc_new w1 _)) (by simp [Value.oneCell']) (by omega) (by unfold maxLen; omega) (by omega) (by simp; omega) (w1.heap.size + 1) (by simp) ?_; intro gg cc w2 hown2 hgrow hat hlt1)
      go_wp2
      go_roundw
      case rel =>
        refine ⟨xs ++ [x - 7], gg, cc, by simp; omega, ?_, ?_, ?_, ?_, ?_⟩
        · rw [List.length_append, List.length_singleton]; go_num
        · rw [List.length_append, List.length_singleton]
        · intro z hzm
          rcases List.mem_append.1 hzm with h | h
          · exact HA.out z h
          · simp at h; omega
        · unfold Row; rw [List.length_append, List.length_singleton, List.map_append]; exact hown2
        · exact (L.alloc hz _).grown hgrow (by simp; omega) (by intro k hk; simp [Value.ownBlock] at hk; omega)
      case measure => simp [intOf]; omega
    · have hml : xs.length = m := by omega
      have HM := hideP hml
      clear hml
      go_wp2_with fail
      go_ret
      exact ⟨g, c, xs, rfl, HM.out, HA.out, hrow.view, L⟩

end Go.Proofs.Ythkaiienfkihmaa
