/-
  What Gonzalez' law asks, plainly; the law's own 'has'.
-/
import Derived.Test.YtpcclaehcmnngaaZBRZz
import Derived.Test.YtpcclaehcmnngaaZDrawZz
import Derived.Test.YtpcclaehcmnngaaMovedSZz
import Derived.Test.YtpcclaehcmnngaaBytesZz
namespace Go.Proofs.Ytpcclaehcmnngaa
open Go Go.RowKit

set_option maxHeartbeats 400000 in
theorem lHas (ao : Option Addr) (cap : Nat) (xs : List Int) (x : Int) (w : World) (hv : View w ao xs) (hn : xs.length ≤ 4194304) :
    Calls Try.prog 17 #[.slice ao xs.length cap, .int .i64 x] w fun e w' => e = .returned (.bool (hasB xs x)) ∧ w' = w := by
  go_enter Try.func17, Try.ntmps17
  go_wp2
  go_loop [5] (fun i => ∃ k : Nat, k ≤ xs.length ∧ i = .int .i64 k ∧ ∀ j, j < k → nth xs j ≠ x) (fun i => xs.length - (intOf i).toNat)
  case atStart => exact ⟨0, Nat.zero_le _, rfl, fun j hj => by omega⟩
  case round =>
    obtain ⟨k, hk, rfl, hall⟩ := hrel
    have HA := hidP hall
    clear hall
    by_cases hlt : k < xs.length
    · obtain ⟨b, off, rfl, hb, hs⟩ : ∃ b off, ao = some ⟨b, off, none⟩ ∧ b < w.heap.size ∧ Seg w b off xs := by
        rcases hv with h | h
        · subst h; simp at hlt
        · exact h
      have hc := hs k hlt
      by_cases he : nth xs k = x
      · have HV := hidP (contains_nth hlt he)
        have heb : (nth xs k == x) = true := by simp [he]
        clear he
        go_wp2
        go_ret
        exact ⟨ret_bool HV.out.symm, rfl⟩
      · have heb : (nth xs k == x) = false := by simp [he]
        have HE := hidP he
        clear he
        go_wp2
        go_round
        case rel => exact ⟨k + 1, by omega, by go_num, fun j hj => by
          rcases Nat.lt_or_ge j k with h | h
          · exact HA.out j h
          · rw [show j = k by omega]; exact HE.out⟩
        case measure => simp [intOf]; omega
    · go_wp2
      go_ret
      obtain rfl : k = xs.length := by omega
      exact ⟨ret_bool (Eq.symm (contains_none HA.out)), rfl⟩
theorem likeIB (ao ao' : Option Addr) (cap cap' : Nat) (xs : List Int) (w : World) (hv : View w ao xs) (hv' : View w ao' xs) (hn : xs.length ≤ 1048576) :
    Calls Try.prog 14 #[.slice ao xs.length cap, .slice ao' xs.length cap'] w fun e w' => e = .returned (.bool true) ∧ Below w.heap.size w w' := by
  refine (likeS ao ao' cap cap' xs xs w hv hv' hn).mono ?_
  rintro e w' ⟨rfl, n, rfl⟩
  exact ⟨by simp, below_drewN (Below.refl _ _) n⟩
theorem IRow.cap {base : Nat} {w : World} {g c : Nat} {xs : List Int} (h : IRow base w g c xs) : xs.length ≤ c := by
  obtain ⟨_, ⟨h1, _⟩ | ⟨g', c', cur, h1, _, _, h2, _⟩⟩ := h
  · cases h1
  · injection h1 with e1 e2 e3; omega
theorem IOut.cap {base : Nat} {w : World} {a : Option Addr} {n c : Nat} {xs : List Int} (h : IOut base w (.slice a n c) xs) (h0 : 0 < xs.length) : xs.length ≤ c ∧ ∃ g, a = some ⟨g, 0, none⟩ ∧ Seg w g 0 xs ∧ g < w.heap.size := by
  rcases h with ⟨_, rfl⟩ | ⟨g, c', e, hr⟩
  · simp at h0
  · injection e with e1 e2 e3
    subst e1 e3
    exact ⟨hr.cap, g, rfl, hr.seg, hr.lt.2⟩
theorem nth_take {xs : List Int} {i k : Nat} (h : i < k) : nth (xs.take k) i = nth xs i := by simp [nth, List.getD, h]
theorem Seg.take {w : World} {b off : Nat} {xs : List Int} (h : Seg w b off xs) (k : Nat) : Seg w b off (xs.take k) := fun i hi => by
  simp at hi
  rw [nth_take (by omega)]
  exact h i (by omega)

/-- All that the law asks of what is chosen. -/
structure Gonz (ms : List Mk) (k : Nat) (kd : Int) : Prop where
  len : (choL ms k kd).length = k
  pos : 1 ≤ k ∧ k ≤ ms.length
  once : ∀ i, i < k → hasB ((choL ms k kd).take i) (nth (choL ms k kd) i) = false
  least : bradI ms k kd ≤ radI ms (choL ms k kd) kd
  two : kd ≠ 1 → radI ms (choL ms k kd) kd ≤ 2 * bradI ms k kd
  four : kd = 1 → radI ms (choL ms k kd) kd ≤ 4 * bradI ms k kd
  all : k < ms.length ∨ radI ms (choL ms k kd) kd = 0
  bd : 0 ≤ bradI ms k kd ∧ bradI ms k kd ≤ 16000000 ∧ -1 ≤ radI ms (choL ms k kd) kd ∧ radI ms (choL ms k kd) kd ≤ 16000000
  none : ¬ k < ms.length → (choL ms (k + 1 : Int) kd).length = 0
  more : k < ms.length → (choL ms (k + 1 : Int) kd).length = k + 1 ∧ (choL ms (k + 1 : Int) kd).take k = choL ms k kd ∧ radI ms (choL ms (k + 1 : Int) kd) kd ≤ radI ms (choL ms k kd) kd ∧ bradI ms (k + 1 : Int) kd ≤ bradI ms k kd
theorem radI_bd (ms : List Mk) (ids : List Int) (kd : Int) : -1 ≤ radI ms ids kd ∧ radI ms ids kd ≤ 16000000 := by
  rcases h : radB ms ids kd with _ | _
  · rw [radI_bad h]; omega
  · obtain ⟨h1, h2, h3, h4⟩ := (radB_iff ms ids kd).1 h
    rw [radI_good h1 h2 h3 h4]
    have := zRadI_bd ms kd ids ms.length
    unfold zRadI
    omega
theorem cho_rad {ms : List Mk} (hm : marksB ms = true) {kd : Int} (hkd : kindB kd = true) {t : Nat} (h1 : 1 ≤ t) (ht : t ≤ ms.length) : choL ms t kd = choT ms kd t ∧ radI ms (choT ms kd t) kd = zRad (zD ms kd) ms.length (zCho (zD ms kd) ms.length t) := by
  refine ⟨choL_good ((chosB_iff ms t kd).2 ⟨hm, ⟨by omega, by omega⟩, hkd⟩), ?_⟩
  have hf := choT_found hm kd ht
  have hl := choT_len (kd := kd) ht
  rw [radI_good hm (by rw [hl]; omega) hkd hf, zRadI_eq hm kd hkd _ hf]
  congr 1
  exact zIdx_map hm (zCho_ok (D := zD ms kd) (n := ms.length) t ht).2.2
theorem brad_good {ms : List Mk} {kd : Int} (hm : marksB ms = true) (hkd : kindB kd = true) {t : Nat} (h1 : 1 ≤ t) (ht : t ≤ ms.length) (h8 : ms.length ≤ 8) : bradI ms t kd = zBest (zD ms kd) ms.length t [] 0 := by
  rw [bradI, if_pos (by simp [bradB, (chosB_iff ms t kd).2 ⟨hm, ⟨by omega, by omega⟩, hkd⟩, h8]), Int.toNat_natCast]
theorem gonz_of {ms : List Mk} {k kd : Int} (h : bradB ms k kd = true) : ∃ t : Nat, k = t ∧ Gonz ms t kd := by
  have hcb : chosB ms k kd = true ∧ ms.length ≤ 8 := by simpa [bradB] using h
  obtain ⟨hm, ⟨h1, h2⟩, hkd⟩ := (chosB_iff ms k kd).1 hcb.1
  obtain ⟨t, rfl⟩ : ∃ t : Nat, k = t := ⟨k.toNat, by omega⟩
  have h8 := hcb.2
  have ht1 : 1 ≤ t := by omega
  have htn : t ≤ ms.length := by omega
  refine ⟨t, rfl, ?_⟩
  obtain ⟨e1, e2⟩ := cho_rad hm hkd ht1 htn
  have e3 := brad_good hm hkd ht1 htn h8
  have hnn := zD_nn ms kd
  have hok := zCho_ok (D := zD ms kd) (n := ms.length) t htn
  have hle := zBest_le hnn (n := ms.length) ht1 hok.2.1 hok.2.2 hok.1
  obtain ⟨E, hEd, hEn, hEl, hEe⟩ := zBest_at hle.1
  have hE0 : E ≠ [] := fun e => by rw [e] at hEl; simp at hEl; omega
  have hk' := (kindB_iff kd).1 hkd
  have hg := zGonz (D := zD ms kd) (n := ms.length) (k := t) (a := zK kd) hnn (zD_self ms kd) (by unfold zK; split <;> omega) (fun i j b hi hj hb => zD_third hm kd hkd i j b hi hj hb) ht1 htn E (by omega) hE0 hEn
  rw [← hEe] at hg
  have hrbd := radI_bd ms (choL ms t kd) kd
  refine ⟨by rw [e1]; exact choT_len htn, ⟨ht1, htn⟩, fun i hi => ?_, by rw [e1, e2, e3]; exact hle.2, fun hk1 => ?_, fun hk1 => ?_, ?_, ⟨by rw [e3]; exact hle.1, ?_, hrbd.1, hrbd.2⟩, fun hnl => ?_, fun hl => ?_⟩
  · rw [e1]
    refine contains_none (fun j hj => ?_)
    have hl := choT_len (kd := kd) htn
    rw [List.length_take, hl] at hj
    rw [nth_take (by omega)]
    have a1 : nth (choT ms kd t) j = mid ms ((zCho (zD ms kd) ms.length t)[j]'(by rw [hok.1]; omega)) := by
      simp [choT, nth, List.getD, hok.1, show j < t by omega]
    have a2 : nth (choT ms kd t) i = mid ms ((zCho (zD ms kd) ms.length t)[i]'(by rw [hok.1]; omega)) := by
      simp [choT, nth, List.getD, hok.1, hi]
    rw [a1, a2]
    intro e
    have := zmid_inj hm (hok.2.2 _ (List.getElem_mem _)) (hok.2.2 _ (List.getElem_mem _)) e
    exact (List.pairwise_iff_getElem.1 hok.2.1) j i (by rw [hok.1]; omega) (by rw [hok.1]; omega) (by omega) this
  · rw [e1, e2, e3]
    rw [zK, if_neg hk1] at hg
    omega
  · rw [e1, e2, e3]
    rw [zK, if_pos hk1] at hg
    omega
  · rcases Nat.lt_or_ge t ms.length with hl | hl
    · exact Or.inl hl
    · refine Or.inr ?_
      rw [e1, e2]
      obtain rfl : t = ms.length := by omega
      refine zRad_all hnn (zD_self ms kd) _ (fun i hi => ?_)
      rcases Classical.em (i ∈ zCho (zD ms kd) ms.length ms.length) with hin | hin
      · exact hin
      · exfalso
        have hnd : (i :: zCho (zD ms kd) ms.length ms.length).Nodup := List.nodup_cons.2 ⟨hin, hok.2.1⟩
        obtain ⟨C, hC, hCl, hm'⟩ := zSorted hnd (n := ms.length) (fun c hc => by
          rcases List.mem_cons.1 hc with e | e
          · omega
          · exact hok.2.2 c e)
        have hlen : C.length ≤ ms.length := by
          have hp : C.length ≤ (List.range ms.length).length := (zRise_nodup hC).length_le_of_subset (fun c hc => List.mem_range.2 (hC.2 c hc).2)
          simpa using hp
        rw [hCl, List.length_cons, hok.1] at hlen
        omega
  · rw [e3]
    have hz := zBestI_bd ms kd t [] 0
    rw [zBestI_eq hm kd hkd t [] 0 (by simp)] at hz
    exact hz.2
  · rw [choL_no (chosB_false (fun h => by omega))]; rfl
  · obtain ⟨f1, f2⟩ := cho_rad hm hkd (t := t + 1) (by omega) hl
    have f3 := brad_good hm hkd (t := t + 1) (by omega) hl h8
    have ec : ((t + 1 : Nat) : Int) = (t : Int) + 1 := by omega
    rw [ec] at f1 f3
    rw [f1, f2, f3, e1, e2, e3]
    refine ⟨choT_len hl, ?_, ?_, zBest_more hnn ht1 hl hle.1⟩
    · unfold choT
      rw [← List.map_take, zCho_take (by omega) hl]
    · refine zRad_more hnn _ (zCho_ne (by omega) htn) (fun c hc => ?_)
      obtain ⟨r, hr⟩ := zCho_pre (D := zD ms kd) (n := ms.length) (t := t) (k := t + 1) (by omega)
      rw [hr]
      exact List.mem_append_left _ hc

end Go.Proofs.Ytpcclaehcmnngaa
