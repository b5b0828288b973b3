/-
  Rows of texts of the call's own: alike, written over, found again.
-/
import Derived.Test.YtaaagmgglolibaaPcMkZz
import Derived.Test.YtaaagmgglolibaaLastZz
import Derived.Laws.OwnMore
namespace Go.Proofs.Ytaaagmgglolibaa
open Go Go.RowKit

def tnth (xs : List ByteArray) (i : Nat) : ByteArray := xs.getD i ⟨#[]⟩
def TxRow (base : Nat) (w : World) (v : Value) (xs : List ByteArray) : Prop := w.ownsRow base 9 1 v xs.length (xs.map Value.string)
theorem TxRow.next {base : Nat} {w w' : World} {v : Value} {xs : List ByteArray} (h : TxRow base w v xs) (L : Below w.heap.size w w') : TxRow base w' v xs := by
  obtain ⟨h1, h2 | ⟨g, cap, cur, rfl, hb, hg, h3⟩⟩ := h
  · exact ⟨h1, Or.inl h2⟩
  · exact ⟨h1, Or.inr ⟨g, cap, cur, rfl, hb, (L.block g (Array.getElem?_eq_some_iff.1 hg).1).trans hg, h3⟩⟩
theorem TxRow.form {base : Nat} {w : World} {v : Value} {xs : List ByteArray} (h : TxRow base w v xs) : ∃ a c, v = .slice a xs.length c ∧ ∀ i, i < xs.length → ∃ g, a = some ⟨g, 0, none⟩ ∧ base ≤ g ∧ g < w.heap.size ∧ w.cell? ⟨g, i, none⟩ = some (.string (tnth xs i)) ∧ ∀ j, w.frozen? ⟨g, j, none⟩ = false := by
  have hr := h
  obtain ⟨h1, ⟨rfl, h2⟩ | ⟨g, cap, cur, rfl, hb, hg, h3⟩⟩ := h
  · exact ⟨none, 0, by rw [h2], fun i hi => by omega⟩
  · refine ⟨_, _, rfl, fun i hi => ⟨g, rfl, hb, (World.ownsRow.lt hr g rfl).2, ?_, fun j => by simp [World.frozen?, hg]⟩⟩
    have c0 := World.ownsRow.cellAt hr i (by omega)
    rw [List.getElem?_map, List.getElem?_eq_getElem hi] at c0
    simpa [tnth, List.getD, hi] using c0

set_option maxRecDepth 100000 in
set_option maxHeartbeats 1600000 in
/-- Two rows that are alike. -/
theorem eqSS (base base' : Nat) (v v' : Value) (xs : List ByteArray) (w : World) (h : TxRow base w v xs) (h' : TxRow base' w v' xs) (hn : xs.length ≤ 1048576) :
    Calls Try.prog 9 #[v, v'] w fun e w' => e = .returned (.bool true) ∧ ∃ n, w' = w.drewN n := by
  obtain ⟨a, c, rfl, ha⟩ := h.form
  obtain ⟨a', c', rfl, ha'⟩ := h'.form
  have HA := hidS ha
  have HA' := hidS ha'
  have hlb : ((xs.length : Int) != (xs.length : Int)) = false := by simp
  clear h h' ha ha'
  go_enter Try.func9, Try.ntmps9
  go_wp2
  go_loopw [5] (fun i wr => ∃ k : Nat, k ≤ xs.length ∧ i = .int .i64 k ∧ ∃ n, wr = w.drewN n) (fun i _ => xs.length - (intOf i).toNat)
  case atStart => exact ⟨0, Nat.zero_le _, rfl, 0, rfl⟩
  case round =>
    obtain ⟨k, hk, rfl, n, rfl⟩ := hrel
    by_cases hlt : k < xs.length
    · obtain ⟨g, rfl, -, -, hc, -⟩ := HA.out k hlt
      obtain ⟨g', rfl, -, -, hc', -⟩ := HA'.out k hlt
      go_wp2
      go_quiet (fail)
      go_wp2
      go_roundw
      case rel => exact ⟨k + 1, by omega, by go_num, _, rfl⟩
      case measure => simp [intOf]; omega
    · go_wp2
      go_ret
      exact ⟨rfl, _, rfl⟩

/-- The texts of marks from k0 on. -/
def mkL (k0 : Int) (n : Nat) : List ByteArray := (List.range n).map (fun (i : Nat) => mtx (k0 + (i : Int)))
/-- Written over as far as k. -/
def ovr (k0 : Int) (xs : List ByteArray) (k : Nat) : List ByteArray := (List.range xs.length).map (fun (i : Nat) => if i < k then mtx (k0 + (i : Int)) else tnth xs i)
theorem ovr_len (k0 : Int) (xs : List ByteArray) (k : Nat) : (ovr k0 xs k).length = xs.length := by simp [ovr]
theorem ovr_zero (k0 : Int) (xs : List ByteArray) : ovr k0 xs 0 = xs := by
  refine List.ext_getElem (by simp [ovr]) (fun i h1 h2 => ?_)
  simp [ovr, tnth, List.getD, h2]
theorem ovr_all (k0 : Int) (xs : List ByteArray) : ovr k0 xs xs.length = mkL k0 xs.length := by
  refine List.ext_getElem (by simp [ovr, mkL]) (fun i h1 h2 => ?_)
  have hi : i < xs.length := by simpa [ovr] using h1
  simp [ovr, mkL, hi]
theorem ovr_next (k0 : Int) (xs : List ByteArray) (k : Nat) (_ : k < xs.length) : (ovr k0 xs k).set k (mtx (k0 + (k : Int))) = ovr k0 xs (k + 1) := by
  refine List.ext_getElem (by simp [ovr]) (fun i h1 h2 => ?_)
  have hi : i < xs.length := by simpa [ovr] using h2
  rw [List.getElem_set]
  by_cases e : k = i
  · subst e; simp [ovr]
  · rw [if_neg e]
    by_cases e2 : i < k
    · simp [ovr, e2, show i < k + 1 by omega]
    · simp [ovr, e2, show ¬ i < k + 1 by omega]
theorem mkL_at (k0 : Int) {n i : Nat} (h : i < n) : tnth (mkL k0 n) i = mtx (k0 + (i : Int)) := by simp [tnth, mkL, List.getD, h]

set_option maxRecDepth 100000 in
set_option maxHeartbeats 1600000 in
theorem markSS (base : Nat) (v : Value) (xs : List ByteArray) (k0 : Int) (w : World) (h : TxRow base w v xs) (hb : base ≤ w.heap.size) (hn : xs.length ≤ 1048576) (h0 : 1 ≤ k0) (h1 : k0 ≤ 2000000) :
    Calls Try.prog 10 #[v, .int .i64 k0] w fun e w' => e = .returned (.int .i64 (k0 + xs.length)) ∧ TxRow base w' v (mkL k0 xs.length) ∧ Below base w w' := by
  obtain ⟨a, c, rfl, -⟩ := h.form
  have H := hidS h
  clear h
  go_enter Try.func10, Try.ntmps10
  go_wp2_with fail
  go_loopg [1, 5] xs.length (fun gk kv iv wr => ∃ k : Nat, k ≤ xs.length ∧ xs.length - k ≤ gk ∧ iv = .int .i64 k ∧ kv = .int .i64 (k0 + k) ∧ TxRow base wr (.slice a xs.length c) (ovr k0 xs k) ∧ Below base w wr)
  case atStart => exact ⟨0, Nat.zero_le _, Nat.sub_le _ _, rfl, by simp, by rw [ovr_zero]; exact H.out, Below.refl _ _⟩
  case round =>
    obtain ⟨k, _, hgk, rfl, rfl, hp, L⟩ := hrel
    have HP := hidS hp
    have HL := hidS L
    have hbz : base ≤ wr.heap.size := Nat.le_trans hb L.size
    clear hp L
    by_cases hlt : k < xs.length
    · have HT := hidS (sText (k0 + (k : Int)) wr (by omega))
      have hi0 : (0 : Int) ≤ (k : Int) := Int.natCast_nonneg _
      have hi1 : (k : Int) < (xs.length : Int) := by omega
      go_wp2_with fail
      refine HT.out.mono ?_
      rintro e w1 ⟨rfl, L1⟩
      have hp1 := HP.out.next L1
      obtain ⟨a', c', e', hf⟩ := hp1.form
      obtain ⟨g, hg, hbg, hgl, hc, hfz⟩ := hf k (by rw [ovr_len]; exact hlt)
      injection e' with e1 e2 e3
      subst e1
      subst hg
      clear e2 e3 hf
      have hfk := hfz k
      have HS : Hid (TxRow base (w1.setCell ⟨g, k, none⟩ (.string (mtx (k0 + (k : Int))))) (.slice (some ⟨g, 0, none⟩) xs.length c) (ovr k0 xs (k + 1))) := by
        have hp2 : w1.ownsRow base 9 1 (.slice (some ⟨g, 0, none⟩) xs.length c) xs.length ((ovr k0 xs k).map Value.string) := by
          have := hp1; unfold TxRow at this; rw [ovr_len] at this; exact this
        have := (World.ownsRow.stored hp2 k (.string (mtx (k0 + (k : Int))))).1
        show World.ownsRow _ _ _ _ _ _ _
        rw [ovr_len, ← ovr_next k0 xs k hlt, List.map_set]
        exact this
      have HLS := hidS ((HL.out.trans (Below.mono L1 hbz)).setCell (by show base ≤ g; exact hbg) (.string (mtx (k0 + (k : Int)))) : Below base w (w1.setCell ⟨g, k, none⟩ (.string (mtx (k0 + (k : Int))))))
      clear hp1 L1 hfz HT HP HL
      go_wp2_with fail
      go_roundg (xs.length - (k + 1))
      case rel => exact ⟨k + 1, by omega, Nat.le_refl _, by go_num, by go_num, HS.out, HLS.out⟩
      case measure => omega
    · obtain rfl : k = xs.length := by omega
      have hki : ¬ ((xs.length : Int) < (xs.length : Int)) := by omega
      go_wp2_with fail
      go_ret
      exact ⟨rfl, by rw [← ovr_all]; exact HP.out, HL.out⟩

set_option maxRecDepth 100000 in
set_option maxHeartbeats 1600000 in
theorem heldSS (base : Nat) (v : Value) (n : Nat) (k0 : Int) (w : World) (h : TxRow base w v (mkL k0 n)) (hn : n ≤ 1048576) (h0 : 1 ≤ k0) (h1 : k0 ≤ 2000000) :
    Calls Try.prog 11 #[v, .int .i64 k0] w fun e w' => e = .returned (.int .i64 (k0 + n)) ∧ Below w.heap.size w w' := by
  obtain ⟨a, c, rfl, ha⟩ := h.form
  have hlen : (mkL k0 n).length = n := by simp [mkL]
  rw [hlen] at ha ⊢
  have HA := hidS ha
  clear h ha hlen
  go_enter Try.func11, Try.ntmps11
  go_wp2_with fail
  go_loopg [1, 5] n (fun gk kv iv wr => ∃ k : Nat, k ≤ n ∧ n - k ≤ gk ∧ iv = .int .i64 k ∧ kv = .int .i64 (k0 + k) ∧ Below w.heap.size w wr)
  case atStart => exact ⟨0, Nat.zero_le _, Nat.sub_le _ _, rfl, by simp, Below.refl _ _⟩
  case round =>
    obtain ⟨k, _, hgk, rfl, rfl, L⟩ := hrel
    have HL := hidS L
    clear L
    by_cases hlt : k < n
    · obtain ⟨g, rfl, -, hgl, hc, -⟩ := HA.out k hlt
      rw [mkL_at k0 hlt] at hc
      have BL := hidS ((Below.refl wr.heap.size wr).drew)
      have HT := hidS (fun W' => sText (k0 + (k : Int)) W' (by omega))
      have hi0 : (0 : Int) ≤ (k : Int) := Int.natCast_nonneg _
      have hi1 : (k : Int) < (n : Int) := by omega
      have HS : Hid (∀ W', Below wr.heap.size wr W' → W'.cell? ⟨g, k, none⟩ = some (.string (mtx (k0 + (k : Int)))) ∧ (0 : Int) ≤ (k : Int)) := fun W' L' => ⟨((HL.out.trans (Below.mono L' HL.out.size)).cell (p := ⟨g, k, none⟩) hgl).trans hc, hi0⟩
      clear hc
      go_wp2_with fail
      refine wp_region_takes (S := fun W' => Below wr.heap.size wr W') (fuel := 2) [0, 1, 2, 3, 4] (by kernel_rfl) (by kernel_rfl) (by kernel_rfl) (by kernel_rfl) BL.out (fun _ => ?_)
      iterate 5
        refine ⟨_, rfl, ?_⟩
        apply Exists.intro
        refine ⟨Or.inl ⟨by rfl, fun w' hw' => ?_⟩, ?_⟩
        · obtain ⟨e1, e2⟩ := HS.out w' hw'
          first
          | (go_simp; done)
          | (go_simp; with_reducible rfl)
        simp only [Act.put, List.getElem_toArray, List.getElem_cons_succ, List.getElem_cons_zero, List.setIfInBounds_toArray, List.set_cons_zero, List.set_cons_succ]
      refine calm_one 5 (by kernel_rfl) rfl (fun K hK => ?_)
      go_simp
      refine (HT.out _).mono ?_
      rintro e w1 ⟨rfl, L1⟩
      have HL1 := hidS (chainS BL.out L1)
      clear L1
      refine hK.out _ _ HL1.out (fun _ => ?_)
      clear hK K
      refine calm_rest [6] rfl (by kernel_rfl) (by kernel_rfl) (by kernel_rfl) HL1.out ?_
      iterate 1
        refine ⟨_, rfl, ?_⟩
        apply Exists.intro
        refine ⟨Or.inl ⟨by rfl, fun w' hw' => ?_⟩, ?_⟩
        · skip
          first
          | (go_simp; done)
          | (go_simp; with_reducible rfl)
        simp only [Act.put, List.getElem_toArray, List.getElem_cons_succ, List.getElem_cons_zero, List.setIfInBounds_toArray, List.set_cons_zero, List.set_cons_succ]
      refine NoPanic.normal (NoPanic.normal ?_)
      have HLE := hidS (chainS HL.out HL1.out)
      clear HL HL1 BL HS HT
      go_wp2_with fail
      go_roundg (n - (k + 1))
      case rel => exact ⟨k + 1, by omega, Nat.le_refl _, by go_num, by go_num, HLE.out⟩
      case measure => omega
    · obtain rfl : k = n := by omega
      have hki : ¬ ((k : Int) < (k : Int)) := by omega
      go_wp2_with fail
      go_ret
      exact ⟨rfl, HL.out⟩
end Go.Proofs.Ytaaagmgglolibaa
