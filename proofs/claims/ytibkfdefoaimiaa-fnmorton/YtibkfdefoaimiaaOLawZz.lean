/-
  Plain mathematics for FnMorton, and what the law keeps in hand.
-/
import Derived.Test.YtibkfdefoaimiaaOUnwIZz
import Derived.Test.YtibkfdefoaimiaaOWeaIZz
import Derived.Test.YtibkfdefoaimiaaORnkTZz
import Derived.Test.YtibkfdefoaimiaaMovedSZz
namespace Go.Proofs.Ytibkfdefoaimiaa
open Go Go.RowKit

theorem wIn_same (n k : Nat) {x y : Nat} (h : x = y) (c i : Nat) : wIn n k x c i = wIn n k y c i := by rw [h]
theorem wOut_congr (n : Nat) (ps qs : Nat → Nat) : ∀ m, (∀ k, k < m → ps k = qs k) → wOut n ps m = wOut n qs m
  | 0, _ => rfl
  | m + 1, h => by rw [wOut, wOut, wOut_congr n ps qs m (fun k hk => h k (by omega)), h m (by omega)]

theorem line_of_weave {p : List Int} (h : 0 ≤ weaveV p) : lineB p = true := by
  rcases hl : lineB p with _ | _
  · rw [weaveV_out hl] at h; omega
  · rfl
theorem code_of {n c : Nat} (h1 : 1 ≤ n) (h4 : n ≤ 4) (hc : c < 2 ^ (10 * n)) : codeB (c : Int) (n : Int) = true := by
  simp only [codeB, Bool.and_eq_true, Int.toNat_natCast]
  refine ⟨inR_true (by omega) (by omega), inR_true (Int.natCast_nonneg _) ?_⟩
  have : ((c : Nat) : Int) < ((2 ^ (10 * n) : Nat) : Int) := Int.ofNat_lt.2 hc
  simp at this
  omega
theorem morton_back {p : List Int} (h : 0 ≤ weaveV p) : unweaveL (weaveV p) p.length = p := by
  have hl := line_of_weave h
  obtain ⟨h1, h4⟩ := keepB_len hl
  rw [weaveV_in hl, unweaveL_in (code_of h1 h4 (wOut_lt _ _ _ (Nat.le_refl _)))]
  apply List.ext_getElem
  · rw [uL_len]
  · intro i hi1 hi2
    have e := unweave_weave h1 (nats p) (fun k hk => nats_lt hl hk) hi2
    simp only [uL, tabL, List.getElem_map, List.getElem_range]
    rw [e, ← nats_at hl hi2]
    simp [nth, hi2]
theorem morton_forth {c n : Int} (h : 0 < (unweaveL c n).length) : weaveV (unweaveL c n) = c := by
  rcases hb : codeB c n with _ | _
  · rw [unweaveL_out hb] at h; simp at h
  · obtain ⟨c', n', rfl, rfl, h1, h4, hc⟩ := codeB_in hb
    rw [unweaveL_in hb]
    have hn : ∀ k, k < n' → nats (uL n' c' (10 * n')) k = uF n' c' (10 * n') k := fun k hk => by unfold nats; rw [uL_nth hk]; exact Int.toNat_natCast _
    have hl : lineB (uL n' c' (10 * n')) = true := keepB_mk (by rw [uL_len]; exact h1) (by rw [uL_len]; exact h4) (fun i hi => by
      rw [uL_len] at hi
      rw [uL_nth hi]
      have := uF_lt h1 c' i hi (Nat.le_refl (10 * n'))
      omega)
    rw [weaveV_in hl, uL_len, wOut_congr n' _ (uF n' c' (10 * n')) n' hn, weave_unweave h1 hc]
theorem morton_mono {a b : List Int} (h : belowV a b = true) : weaveV a ≤ weaveV b := by
  simp only [belowV, Bool.and_eq_true, decide_eq_true_eq] at h
  obtain ⟨⟨⟨ha, hb⟩, hl⟩, hab⟩ := h
  have h1 := keepB_len ha
  rw [weaveV_in ha, weaveV_in hb, ← hl]
  apply Int.ofNat_le.2
  refine weave_mono h1.1 (nats a) (nats b) (fun k hk => nats_lt ha hk) (fun k hk => nats_lt hb (by omega)) (fun k hk => ?_)
  have := aboveB_at hab hk
  unfold nats
  omega
theorem rank_all {ms : List Mk} (h : 0 < (rankL ms).length) : (rankL ms).length = ms.length ∧ ∀ i, i < ms.length → mid ms i ∈ rankL ms := by
  rcases hb : rankB ms with _ | _
  · rw [rankL_out hb] at h; simp at h
  · refine ⟨rankL_len hb, fun i hi => ?_⟩
    rw [rankL_in hb, List.mem_map]
    refine ⟨pairM ms[i], (sortBy_perm _ _).mem_iff.2 (List.mem_map_of_mem (List.getElem_mem hi)), ?_⟩
    simp [pairM, mid, hi]

/-- What the law keeps in hand. -/
structure PMo (W : World) (ap : Option Addr) (xs : List Int) (aa : Option Addr) (us : List Int) (ab : Option Addr) (bs : List Int) (al : Option Addr) (ns : List Mk) : Prop where
  p : View W ap xs
  a : View W aa us
  b : View W ab bs
  l : MView W al ns
theorem PMo.next {W W' : World} {ap aa ab al : Option Addr} {xs us bs : List Int} {ns : List Mk} (h : PMo W ap xs aa us ab bs al ns) (hb : Below W.heap.size W W') : PMo W' ap xs aa us ab bs al ns :=
  ⟨h.p.next hb, h.a.next hb, h.b.next hb, h.l.below (Nat.le_refl _) hb⟩

set_option maxHeartbeats 1000000 in
theorem hasS_seg (b off cap : Nat) (v : Int) (xs : List Int) (w : World) (hs : Seg w b off xs) (hn : xs.length ≤ 1048576) :
    Calls Try.prog 24 #[.slice (some ⟨b, off, none⟩) xs.length cap, .int .i64 v] w fun e w' => e = .returned (.bool (decide (v ∈ xs))) ∧ w' = w := by
  go_enter Try.func24, Try.ntmps24
  go_wp2
  go_loop [5] (fun i => ∃ k : Nat, k ≤ xs.length ∧ i = .int .i64 k ∧ ∀ j, j < k → nth xs j ≠ v) (fun i => xs.length - (intOf i).toNat)
  case atStart => exact ⟨0, Nat.zero_le _, rfl, fun j hj => by omega⟩
  case round =>
    obtain ⟨k, hk, rfl, hall⟩ := hrel
    have HA := hidP hall
    clear hall
    by_cases hlt : k < xs.length
    · have hc := hs k hlt
      by_cases he : nth xs k = v
      · have HE := hidP (show decide (v ∈ xs) = true by
          rw [decide_eq_true_eq, ← he]
          simp [nth, hlt])
        have heb : (nth xs k == v) = true := by simp [he]
        clear he
        go_wp2
        go_ret
        exact ⟨ret_bool HE.out.symm, rfl⟩
      · have heb : (nth xs k == v) = false := by simp [he]
        have HE := hidP he
        clear he
        go_wp2
        go_round
        case rel => exact ⟨k + 1, by omega, by go_num, fun j hj => by
          rcases Nat.lt_or_ge j k with h | h
          · exact HA.out j h
          · rw [show j = k by omega]; exact HE.out⟩
        case measure => simp [intOf]; omega
    · have HE := hidP (show decide (v ∈ xs) = false by
        rw [decide_eq_false_iff_not]
        intro hm
        obtain ⟨j, hj, e⟩ := List.getElem_of_mem hm
        have := HA.out j (by omega)
        simp [nth, hj, e] at this)
      go_wp2
      go_ret
      exact ⟨ret_bool HE.out.symm, rfl⟩
end Go.Proofs.Ytibkfdefoaimiaa
