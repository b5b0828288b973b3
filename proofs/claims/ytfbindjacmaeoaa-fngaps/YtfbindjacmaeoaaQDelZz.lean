/-
  slices.Delete of one number out of a row of the call's own.
-/
import Derived.Test.YtfbindjacmaeoaaProg
import Derived.Test.YtfbindjacmaeoaaESpAZz
import Derived.Test.YtfbindjacmaeoaaBMarkZz
import Derived.Deep.RegionLaw
import Derived.Lib.SliceRun
import Derived.Deep.Upon
import Derived.Test.YtfbindjacmaeoaaQHm0Zz
namespace Go.Proofs.Ytfbindjacmaeoaa
open Go Go.RowKit

/-- Numbers written one behind the other. -/
def putAt : List Int → Nat → List Int → List Int
  | xs, _, [] => xs
  | xs, o, y :: ys => putAt (xs.set o y) (o + 1) ys
theorem putAt_eq : ∀ (ys xs : List Int) (o : Nat), o + ys.length ≤ xs.length → putAt xs o ys = xs.take o ++ ys ++ xs.drop (o + ys.length)
  | [], xs, o, _ => by simp [putAt]
  | y :: ys, xs, o, h => by
    have h' : o + (ys.length + 1) ≤ xs.length := h
    simp only [putAt]
    rw [putAt_eq ys (xs.set o y) (o + 1) (by simp; omega)]
    have e1 : (xs.set o y).take (o + 1) = xs.take o ++ [y] := by
      rw [List.take_succ_eq_append_getElem (by simp; omega), List.take_set_of_le (Nat.le_refl _)]
      simp
    have e2 : (xs.set o y).drop (o + 1 + ys.length) = xs.drop (o + (y :: ys).length) := by
      rw [List.drop_set_of_lt (by omega), List.length_cons, show o + 1 + ys.length = o + (ys.length + 1) by omega]
    rw [e1, e2]
    simp
theorem putAt_length (ys : List Int) : ∀ (xs : List Int) (o : Nat), (putAt xs o ys).length = xs.length := by
  induction ys with
  | nil => intro xs o; rfl
  | cons y ys ih => intro xs o; simp only [putAt]; rw [ih]; simp
theorem del_eq {xs : List Int} {i : Nat} (h : i < xs.length) : ((putAt xs i (xs.drop (i + 1))).set (xs.length - 1) 0).take (xs.length - 1) = xs.eraseIdx i := by
  rw [List.take_set_of_le (by omega), putAt_eq _ _ _ (by simp; omega), List.eraseIdx_eq_take_drop_succ]
  rw [List.take_append_of_le_length (by simp; omega), List.take_of_length_le (by simp; omega)]
theorem IRow.puts {base g c : Nat} : ∀ (ys : List Int) (xs : List Int) (o : Nat) (w : World), IRow base w g c xs → IRow base (w.setCells g o (ys.map (Value.int .i64))) g c (putAt xs o ys)
  | [], _, _, _, h => h
  | y :: ys, xs, o, w, h => by
    simp only [List.map_cons, World.setCells, putAt]
    exact IRow.puts ys _ _ _ (h.store o y)
theorem grown_puts {g : Nat} : ∀ (vs : List Value) (o : Nat) {w0 w : World}, w0.grownBy w (some g) → w0.grownBy (w.setCells g o vs) (some g)
  | [], _, _, _, h => h
  | v :: vs, o, _, _, h => by
    simp only [World.setCells]
    exact grown_puts vs (o + 1) (grown_set h)
theorem IRow.cut {base : Nat} {w : World} {g c : Nat} {l : List Int} (h : IRow base w g c l) (n : Nat) : IRow base w g c (l.take n) := by
  obtain ⟨h1, ⟨h2, _⟩ | ⟨g', c', cur, e, hb, hh, hn, hc, hs, hx⟩⟩ := h
  · cases h2
  · injection e with e1 e2 e3
    injection e1 with e1
    injection e1 with e1
    subst e1 e3
    have ht : (l.take n).map (Value.int .i64) = cur.toList.take ((l.take n).length * 1) := by
      rw [Nat.mul_one] at hx ⊢
      rw [List.map_take, List.length_take, ← hx, List.take_take, Nat.min_comm]
    refine ⟨by simp, Or.inr ⟨g, c, cur, rfl, hb, hh, ?_, hc, hs, ht.symm⟩⟩
    simp; omega

set_option maxRecDepth 100000 in
set_option maxHeartbeats 4000000 in
theorem iDelete (base g c n i : Nat) (xs : List Int) (w : World) (hr : IRow base w g c xs) (hn : xs.length = n) (hi : i < n) (hl : n ≤ 1048576) :
    Calls Try.prog 109 #[.slice (some ⟨g, 0, none⟩) n c, .int .i64 i, .int .i64 ((i : Int) + 1)] w fun e w' => e = .returned (.slice (some ⟨g, 0, none⟩) (n - 1) c) ∧ IRow base w' g c (xs.eraseIdx i) ∧ w.grownBy w' (some g) := by
  obtain ⟨j0, hj0, hy0, hy1, hy2⟩ := info_parts Try.info2
  have hcap : n ≤ c := by
    obtain ⟨_, ⟨h1, _⟩ | ⟨g', c', cur, h1, _, _, h2, _⟩⟩ := hr
    · cases h1
    · injection h1 with e1 e2 e3
      omega
  have hcm : c ≤ maxLen := by
    obtain ⟨_, ⟨h1, _⟩ | ⟨g', c', cur, h1, _, _, _, h2, _⟩⟩ := hr
    · cases h1
    · injection h1 with e1 e2 e3
      omega
  have hcl : ∀ t, t < n → (w.drew.cell? ⟨g, t, none⟩) = some (.int .i64 (nth xs t)) ∧ w.drew.frozen? ⟨g, t, none⟩ = false := fun t ht => by
    have h1 := hr.seg t (by omega)
    rw [Nat.zero_add] at h1
    exact ⟨h1, World.ownsRow.frozenAt hr t⟩
  obtain ⟨news, hnews⟩ : ∃ news, news = (xs.drop (i + 1)).map (Value.int .i64) := ⟨_, rfl⟩
  have hlen : news.length = n - (i + 1) := by rw [hnews]; simp; omega
  have s1 : Hid (news.length = (n - (i + 1)) * 1) := by show _ = _; rw [Nat.mul_one]; exact hlen
  have s2 : Hid (∀ u ∈ news, u.oneCell' = true) := by
    intro u hu
    rw [hnews] at hu
    obtain ⟨x, _, rfl⟩ := List.mem_map.1 hu
    rfl
  have s3 : Hid (∀ t, t < news.length → (w.drew.cell? ⟨g, 0 + i * 1 + t, none⟩).isSome = true ∧ w.drew.frozen? ⟨g, 0 + i * 1 + t, none⟩ = false) := by
    intro t ht
    rw [hlen] at ht
    rw [Nat.mul_one, Nat.zero_add]
    obtain ⟨h1, h2⟩ := hcl (i + t) (by omega)
    exact ⟨by rw [h1]; rfl, h2⟩
  have s4 : Hid (∀ t u, news[t]? = some u → w.drew.cell? ((⟨g, i + 1, none⟩ : Addr).add t) = some u) := by
    intro t u hu
    have ht : t < n - (i + 1) := by
      have := (List.getElem?_eq_some_iff.1 hu).1
      rwa [hlen] at this
    rw [Go.WideShapes.add_plain]
    show w.drew.cell? ⟨g, i + 1 + t, none⟩ = some u
    rw [(hcl (i + 1 + t) (by omega)).1]
    rw [hnews, List.getElem?_map, List.getElem?_drop] at hu
    have hx : xs[i + 1 + t]? = some (nth xs (i + 1 + t)) := by simp [nth, List.getD, (by omega : i + 1 + t < xs.length)]
    rw [hx] at hu
    simpa using hu
  obtain ⟨W1, hW1⟩ : ∃ W1, W1 = w.drew.setCells g (0 + i * 1) news := ⟨_, rfl⟩
  have hr1 : IRow base W1 g c (putAt xs i (xs.drop (i + 1))) := by
    rw [hW1, hnews, Nat.mul_one, Nat.zero_add]
    exact IRow.puts _ _ _ _ (World.ownsRow.drew hr)
  have hg1 : w.grownBy W1 (some g) := by rw [hW1]; exact grown_puts _ _ (grown_drewT (grown_refl w _))
  have hl1 : (putAt xs i (xs.drop (i + 1))).length = n := by rw [putAt_length]; exact hn
  have hcr : ∀ ty, (Builtin.clear_ #[36] ty #[.slice (some ⟨g, n - 1, none⟩) 1 (c - (n - 1))]).run Try.prog W1 = .ok (.tuple #[]) (W1.setCell ⟨g, n - 1, none⟩ (.int .i64 0)) := fun ty => by
    have := Lib.run_clear_slice (P := Try.prog) W1 36 2 ty (.int .i64 0) Try.underlying36 (fun w => by kernel_rfl) rfl rfl g (n - 1) 1 (c - (n - 1)) (by omega) (fun t ht => by
      have h1 := hr1.seg (n - 1) (by omega)
      rw [Nat.zero_add] at h1
      rw [show n - 1 + t = n - 1 by omega, h1]; rfl) (fun t ht => World.ownsRow.frozenAt hr1 _)
    exact this
  have HE : Hid (IRow base (W1.setCell ⟨g, n - 1, none⟩ (.int .i64 0)) g c (xs.eraseIdx i) ∧ w.grownBy (W1.setCell ⟨g, n - 1, none⟩ (.int .i64 0)) (some g)) := by
    refine ⟨?_, grown_set hg1⟩
    have h2 := (hr1.store (n - 1) 0).cut (n - 1)
    have e := del_eq (xs := xs) (i := i) (by omega)
    rw [hn] at e
    rw [e] at h2
    exact h2
  have HW : Hid (W1 = w.drew.setCells g (0 + i * 1) news) := hW1
  have hij : ¬ ((i : Int) = (i : Int) + 1) := by omega
  have hijb : ((i : Int) == (i : Int) + 1) = false := by simp; omega
  have f1 : i ≤ c := by omega
  have f2 : (i : Int) ≤ (i : Int) + 1 := by omega
  have f3 : (0 : Int) ≤ (i : Int) + 1 := by omega
  have f4 : (i : Int) + 1 ≤ (n : Int) := by omega
  clear hr hcl hr1 hg1 hl1 hW1 hnews hlen
  by_cases hcj : c = i + 1
  · obtain rfl : n = i + 1 := by omega
    subst hcj
    have e0 : i + 1 - (i + 1) = 0 := by omega
    have e1 : i + 1 - 1 = i := by omega
    have e2 : i + 1 - i = 1 := by omega
    rw [e0] at s1
    rw [e1, e2] at hcr
    rw [e1] at HE ⊢
    have s5 : Hid (news.length = 0) := s1.out
    have hln : news = [] := List.length_eq_zero_iff.1 s5.out
    subst hln
    clear s4
    go_enter Try.func109, Try.ntmps109
    go_upto_region 5 with fail
    refine wp_region_takes (S := fun _ => True) (fuel := 2) [0, 1, 2, 3, 4, 5] (by kernel_rfl) (by kernel_rfl) (by kernel_rfl) (by kernel_rfl) trivial (fun _ => ?_)
    iterate 6
      refine ⟨_, rfl, ?_⟩
      apply Exists.intro
      refine ⟨Or.inl ⟨by rfl, fun w' hw' => ?_⟩, ?_⟩
      · first
        | (go_simp; done)
        | (go_simp; with_reducible rfl)
      simp only [Act.put, List.getElem_toArray, List.getElem_cons_succ, List.getElem_cons_zero, List.setIfInBounds_toArray, List.set_cons_zero, List.set_cons_succ]
    refine calm_one 6 (by kernel_rfl) rfl (fun K hK => ?_)
    refine step_append_room rfl (.tmp 22) (.tmp 25) 36 rfl 2 j0 1 Try.underlying36 hj0 hy1 g 0 i (i + 1) (by simp [Act.eval]) ⟨g, 0, none⟩ 0 0 [] (by simp [Act.eval]) rfl (fun t u hu => by simp at hu) (fun u hu => by simp at hu) (by omega) (fun t ht => by simp at ht) ?_
    rw [← HW.out]
    refine hK.out _ _ trivial (fun _ => ?_)
    clear hK K
    refine calm_rest [7] rfl (by kernel_rfl) (by kernel_rfl) (by kernel_rfl) trivial ?_
    refine ⟨_, rfl, ?_⟩
    apply Exists.intro
    refine ⟨Or.inl ⟨by rfl, fun w' hw' => ?_⟩, ?_⟩
    · first
      | (go_simp; done)
      | (go_simp; with_reducible rfl)
    simp only [Act.put, List.getElem_toArray, List.getElem_cons_succ, List.getElem_cons_zero, List.setIfInBounds_toArray, List.set_cons_zero, List.set_cons_succ]
    refine NoPanic.normal (NoPanic.normal ?_)
    go_wp2_with fail
    go_ret
    exact ⟨rfl, HE.out⟩
  · have e3 : i + (n - (i + 1)) = n - 1 := by omega
    have e4 : n - (n - 1) = 1 := by omega
    have f5 : ((n - 1 : Nat) : Int) ≤ (n : Int) := by omega
    have f6 : (0 : Int) ≤ ((n - 1 : Nat) : Int) := by omega
    have f7 : ¬ c = n - 1 := by omega
    go_enter Try.func109, Try.ntmps109
    go_upto_region 5 with fail
    refine wp_region_takes (S := fun _ => True) (fuel := 2) [0, 1, 2, 3, 4, 5] (by kernel_rfl) (by kernel_rfl) (by kernel_rfl) (by kernel_rfl) trivial (fun _ => ?_)
    iterate 6
      refine ⟨_, rfl, ?_⟩
      apply Exists.intro
      refine ⟨Or.inl ⟨by rfl, fun w' hw' => ?_⟩, ?_⟩
      · first
        | (go_simp; done)
        | (go_simp; with_reducible rfl)
      simp only [Act.put, List.getElem_toArray, List.getElem_cons_succ, List.getElem_cons_zero, List.setIfInBounds_toArray, List.set_cons_zero, List.set_cons_succ]
    refine calm_one 6 (by kernel_rfl) rfl (fun K hK => ?_)
    refine step_append_room rfl (.tmp 22) (.tmp 25) 36 rfl 2 j0 1 Try.underlying36 hj0 hy1 g 0 i c (by simp [Act.eval]) ⟨g, i + 1, none⟩ (n - (i + 1)) (c - (i + 1)) news (by simp [Act.eval]) s1.out s4.out s2.out (by omega) s3.out ?_
    rw [e3]
    rw [← HW.out]
    refine hK.out _ _ trivial (fun _ => ?_)
    clear hK K
    refine calm_rest [7] rfl (by kernel_rfl) (by kernel_rfl) (by kernel_rfl) trivial ?_
    refine ⟨_, rfl, ?_⟩
    apply Exists.intro
    refine ⟨Or.inl ⟨by rfl, fun w' hw' => ?_⟩, ?_⟩
    · first
      | (go_simp; done)
      | (go_simp; with_reducible rfl)
    simp only [Act.put, List.getElem_toArray, List.getElem_cons_succ, List.getElem_cons_zero, List.setIfInBounds_toArray, List.set_cons_zero, List.set_cons_succ]
    refine NoPanic.normal (NoPanic.normal ?_)
    go_wp2_with fail
    go_ret
    exact ⟨rfl, HE.out⟩

end Go.Proofs.Ytfbindjacmaeoaa
