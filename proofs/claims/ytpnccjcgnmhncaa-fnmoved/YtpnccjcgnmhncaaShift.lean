/-
  Plain mathematics of moving: what is moved alike stays as far, and there and back is where one was (no program is named here).
-/
import Derived.Test.YtpnccjcgnmhncaaSides
namespace Go.Proofs.Ytpnccjcgnmhncaa

theorem moved_some {a b : List Int} (h : movedL a b ≠ []) : twoB a b = true ∧ okB (tabL (addF a b) a.length) = true ∧ movedL a b = tabL (addF a b) a.length := by
  unfold movedL at h ⊢
  by_cases h1 : twoB a b = true
  · by_cases h2 : okB (tabL (addF a b) a.length) = true
    · exact ⟨h1, h2, by rw [if_pos h1, if_pos h2]⟩
    · rw [if_pos h1, if_neg h2] at h; exact absurd rfl h
  · rw [if_neg h1] at h; exact absurd rfl h
theorem moved_comm (a b : List Int) : movedL b a = movedL a b := by
  unfold movedL
  rw [twoB_comm b a]
  by_cases h1 : twoB a b = true
  · have hl := (twoB_of h1).2.2
    have e : tabL (addF b a) b.length = tabL (addF a b) a.length := by
      rw [hl]; unfold tabL
      exact List.map_congr_left (fun i _ => by unfold addF; omega)
    rw [if_pos h1, if_pos h1, e]
  · rw [if_neg h1, if_neg h1]

/-- What is moved alike stays as far. -/
theorem moved_alike {a b c : List Int} (hx : movedL a c ≠ []) (hy : movedL b c ≠ []) :
    farV (movedL a c) (movedL b c) = farV a b ∧ stepsV (movedL a c) (movedL b c) = stepsV a b ∧ reachV (movedL a c) (movedL b c) = reachV a b := by
  obtain ⟨t1, k1, e1⟩ := moved_some hx
  obtain ⟨t2, k2, e2⟩ := moved_some hy
  obtain ⟨ha, hc, l1⟩ := twoB_of t1
  obtain ⟨hb, _, l2⟩ := twoB_of t2
  have hab : twoB a b = true := twoB_true ha hb (by omega)
  have hxy : twoB (tabL (addF a c) a.length) (tabL (addF b c) b.length) = true := twoB_true k1 k2 (by rw [tabL_length, tabL_length]; omega)
  have hlen : b.length = a.length := by omega
  have hd : ∀ i, i < a.length → nth (tabL (addF a c) a.length) i - nth (tabL (addF b c) b.length) i = nth a i - nth b i := fun i hi => by
    rw [tabL_getD _ _ _ hi, tabL_getD _ _ _ (by omega)]; unfold addF; omega
  rw [e1, e2]
  unfold farV stepsV reachV
  rw [if_pos hxy, if_pos hxy, if_pos hxy, if_pos hab, if_pos hab, if_pos hab, tabL_length]
  refine ⟨sumTo_congr _ _ _ (fun i hi => ?_), sumTo_congr _ _ _ (fun i hi => ?_), maxTo_congr _ _ _ (fun i hi => ?_)⟩
  · unfold sqF; rw [hd i hi]
  · rw [gapF_abs, gapF_abs, hd i hi]
  · rw [gapF_abs, gapF_abs, hd i hi]

/-- There and back is where one was. -/
theorem moved_back {a b c : List Int} (hm : movedL a b ≠ []) (hl : c.length = b.length) (hc : ∀ i, i < b.length → nth c i = - nth b i) : movedL (movedL a b) c = a := by
  obtain ⟨t1, k1, e1⟩ := moved_some hm
  obtain ⟨ha, hb, l1⟩ := twoB_of t1
  have h4 := okB_len hb
  have hco : okB c = true := okB_mk (by omega) (by omega) (fun i hi => by
    have := okB_at hb i
    rw [hc i (by omega)]; omega)
  have ht : twoB (tabL (addF a b) a.length) c = true := twoB_true k1 hco (by rw [tabL_length]; omega)
  have e2 : tabL (addF (tabL (addF a b) a.length) c) (tabL (addF a b) a.length).length = a := by
    rw [tabL_length]
    refine list_eq_of_nth (tabL_length _ _) (fun j hj => ?_)
    rw [tabL_length] at hj
    rw [tabL_getD _ _ _ hj]
    unfold addF
    rw [tabL_getD _ _ _ hj, hc j (by omega)]
    omega
  rw [e1]
  unfold movedL
  rw [if_pos ht, e2, if_pos ha]

end Go.Proofs.Ytpnccjcgnmhncaa
