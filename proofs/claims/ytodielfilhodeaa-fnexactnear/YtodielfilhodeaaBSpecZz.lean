/-
  The given BoxOk, l4Told, ToBox, Corner and Inside.
  The given l4Told, ToBox, Corner and Inside.
-/
import Derived.Test.YtodielfilhodeaaMathZz
import Derived.Test.YtodielfilhodeaaCopyZz
import Derived.Test.YtodielfilhodeaaArgsZz
import Derived.Test.YtodielfilhodeaaMCellsZz
namespace Go.Proofs.Ytodielfilhodeaa
open Go Go.RowKit

theorem View.seg {w : World} {ao : Option Addr} {xs : List Int} (h : View w ao xs) (h0 : 0 < xs.length) : ∃ b off, ao = some ⟨b, off, none⟩ ∧ b < w.heap.size ∧ Seg w b off xs := by
  rcases h with h | h
  · subst h; simp at h0
  · exact h

set_option maxRecDepth 100000 in
set_option maxHeartbeats 1000000 in
theorem sBoxOk (a1 a2 : Option Addr) (c1 c2 : Nat) (lo hi : List Int) (w : World) (h1 : View w a1 lo) (h2 : View w a2 hi) (n1 : lo.length ≤ 1048576) (n2 : hi.length ≤ 1048576) :
    Calls Try.prog 19 #[.agg #[.slice a1 lo.length c1, .slice a2 hi.length c2]] w fun e w' => e = .returned (.bool (boxB (lo, hi))) ∧ Below w.heap.size w w' := by
  have hB := (Below.refl w.heap.size w).alloc (Nat.le_refl _) (.cells #[.slice a1 lo.length c1, .slice a2 hi.length c2] 26)
  have HB := hidP hB
  have HT := hidP (sTwo a1 a2 c1 c2 lo hi (w.alloc (.cells #[.slice a1 lo.length c1, .slice a2 hi.length c2] 26)) (h1.next hB) (h2.next hB) n1 n2)
  rcases ht : twoB lo hi with _ | _
  · rw [ht] at HT
    have HV : Hid (boxB (lo, hi) = false) := boxB_not (b := (lo, hi)) ht
    go_enter Try.func19, Try.ntmps19
    go_wp2_with fail
    refine HT.out.mono ?_
    rintro e w' ⟨rfl, rfl⟩
    go_wp2_with fail
    go_ret
    exact ⟨ret_bool HV.out.symm, HB.out⟩
  · rw [ht] at HT
    obtain ⟨ha, hb, hl⟩ := twoB_of ht
    have h4 := okB_len ha
    obtain ⟨b1, o1, rfl, hb1, s1⟩ := h1.seg (by omega)
    obtain ⟨b2, o2, rfl, hb2, s2⟩ := h2.seg (by omega)
    have HL := hidP hl
    have HV := hidP (boxB_mk (b := (lo, hi)) ht)
    obtain ⟨W, hW⟩ : ∃ W, W = w.alloc (.cells #[.slice (some ⟨b1, o1, none⟩) lo.length c1, .slice (some ⟨b2, o2, none⟩) hi.length c2] 26) := ⟨_, rfl⟩
    have k0 : W.cell? ⟨w.heap.size, 0, none⟩ = some (.slice (some ⟨b1, o1, none⟩) lo.length c1) := by rw [hW]; simp
    have k1 : W.cell? ⟨w.heap.size, 1, none⟩ = some (.slice (some ⟨b2, o2, none⟩) hi.length c2) := by rw [hW]; simp
    have s1' : Seg W b1 o1 lo := by rw [hW]; exact s1.below hb1 hB
    have s2' : Seg W b2 o2 hi := by rw [hW]; exact s2.below hb2 hB
    clear hl hB s1 s2
    go_enter Try.func19, Try.ntmps19
    go_wp2_with fail
    refine HT.out.mono ?_
    rintro e w' ⟨rfl, hw'⟩
    rw [← hW] at hw' HB
    subst hw'
    clear hW HT
    go_wp2_with fail
    go_loopw [3] (fun i wr => ∃ k : Nat, k ≤ lo.length ∧ i = .int .i64 k ∧ (∀ j, j < k → nth lo j ≤ nth hi j) ∧ ∃ n, wr = w'.drewN n) (fun i _ => lo.length - (intOf i).toNat)
    case atStart => exact ⟨0, Nat.zero_le _, rfl, fun j hj => by omega, 0, rfl⟩
    case round =>
      obtain ⟨k, hk, rfl, hall, hw⟩ := hrel
      have HW : Hid (∃ n, wr = w'.drewN n) := hw
      have HA := hidP hall
      have q0 : wr.cell? ⟨w.heap.size, 0, none⟩ = some (.slice (some ⟨b1, o1, none⟩) lo.length c1) := by obtain ⟨n, rfl⟩ := HW.out; exact k0
      have q1 : wr.cell? ⟨w.heap.size, 1, none⟩ = some (.slice (some ⟨b2, o2, none⟩) hi.length c2) := by obtain ⟨n, rfl⟩ := HW.out; exact k1
      clear hw hall
      by_cases hlt : k < lo.length
      · have hc : wr.cell? ⟨b1, o1 + k, none⟩ = some (.int .i64 (nth lo k)) := by obtain ⟨n, rfl⟩ := HW.out; exact s1' k hlt
        have hlt' : k < hi.length := by have := HL.out; omega
        have hc' : wr.cell? ⟨b2, o2 + k, none⟩ = some (.int .i64 (nth hi k)) := by obtain ⟨n, rfl⟩ := HW.out; exact s2' k hlt'
        by_cases hgt : nth lo k > nth hi k
        · have HX : Hid (boxB (lo, hi) = false) := boxB_out (b := (lo, hi)) hlt hgt
          go_wp2
          go_quiet (fail)
          go_wp2
          go_ret
          exact ⟨ret_bool HX.out.symm, below_drewN (by obtain ⟨n, rfl⟩ := HW.out; exact below_drewN HB.out n) _⟩
        · go_wp2
          go_quiet (fail)
          go_wp2
          go_roundw
          case rel => exact ⟨k + 1, by omega, by go_num, fun j hj => by
            rcases Nat.lt_or_ge j k with h | h
            · exact HA.out j h
            · rw [show j = k by omega]; omega, by obtain ⟨n, hn⟩ := HW.out; exact ⟨n + nq, by rw [hn]; simp⟩⟩
          case measure => simp [intOf]; omega
      · go_wp2
        go_ret
        refine ⟨ret_bool (HV.out (fun j hj => HA.out j (by have : j < lo.length := hj; omega))).symm, ?_⟩
        obtain ⟨n, rfl⟩ := HW.out; exact below_drewN HB.out n

end Go.Proofs.Ytodielfilhodeaa
namespace Go.Proofs.Ytodielfilhodeaa
open Go Go.RowKit

theorem toldX_no {lo hi p : List Int} (h : boxB (lo, hi) = false) : toldX (lo, hi) p = false := by simp [toldX, h]
theorem toldX_eq {lo hi p : List Int} (h : boxB (lo, hi) = true) : toldX (lo, hi) p = twoB lo p := by simp [toldX, h]

set_option maxRecDepth 100000 in
set_option maxHeartbeats 1000000 in
theorem sToldX (a1 a2 a3 : Option Addr) (c1 c2 c3 : Nat) (lo hi p : List Int) (w : World) (h1 : View w a1 lo) (h2 : View w a2 hi) (h3 : View w a3 p) (n1 : lo.length ≤ 1048576) (n2 : hi.length ≤ 1048576) (n3 : p.length ≤ 1048576) :
    Calls Try.prog 65 #[.agg #[.slice a1 lo.length c1, .slice a2 hi.length c2], .slice a3 p.length c3] w fun e w' => e = .returned (.bool (toldX (lo, hi) p)) ∧ Below w.heap.size w w' := by
  have hB := (Below.refl w.heap.size w).alloc (Nat.le_refl _) (.cells #[.slice a1 lo.length c1, .slice a2 hi.length c2] 26)
  have k0 : (w.alloc (.cells #[.slice a1 lo.length c1, .slice a2 hi.length c2] 26)).cell? ⟨w.heap.size, 0, none⟩ = some (.slice a1 lo.length c1) := by simp
  have HB := hidP (And.intro hB k0)
  have HC := hidP (sBoxOk a1 a2 c1 c2 lo hi (w.alloc (.cells #[.slice a1 lo.length c1, .slice a2 hi.length c2] 26)) (h1.next hB) (h2.next hB) n1 n2)
  have HV := hidP (And.intro h1 h3)
  clear h1 h2 h3 hB k0
  rcases hb : boxB (lo, hi) with _ | _
  · rw [hb] at HC
    have HT := hidP (toldX_no (p := p) hb)
    go_enter Try.func65, Try.ntmps65
    go_wp2_with fail
    refine HC.out.mono ?_
    rintro e w2 ⟨rfl, L2⟩
    go_wp2_with fail
    go_ret
    exact ⟨ret_bool HT.out.symm, chain HB.out.1 L2⟩
  · rw [hb] at HC
    have HT := hidP (toldX_eq (p := p) hb)
    go_enter Try.func65, Try.ntmps65
    go_wp2_with fail
    refine HC.out.mono ?_
    rintro e w2 ⟨rfl, L2⟩
    have q0 := (L2.cell (p := ⟨w.heap.size, 0, none⟩) (by simp)).trans HB.out.2
    have L3 := chain HB.out.1 L2
    have HW := hidP (sTwo a1 a3 c1 c3 lo p w2 (HV.out.1.next L3) (HV.out.2.next L3) n1 n3)
    have HL := hidP L3
    clear L2 L3 HC
    go_wp2_with fail
    refine HW.out.mono ?_
    rintro e w3 ⟨rfl, rfl⟩
    go_wp2_with fail
    go_ret
    exact ⟨ret_bool HT.out.symm, HL.out⟩

set_option maxRecDepth 100000 in
set_option maxHeartbeats 2000000 in
theorem sToBox (a1 a2 a3 : Option Addr) (c1 c2 c3 : Nat) (lo hi p : List Int) (w : World) (h1 : View w a1 lo) (h2 : View w a2 hi) (h3 : View w a3 p) (n1 : lo.length ≤ 1048576) (n2 : hi.length ≤ 1048576) (n3 : p.length ≤ 1048576) :
    Calls Try.prog 14 #[.agg #[.slice a1 lo.length c1, .slice a2 hi.length c2], .slice a3 p.length c3] w fun e w' => e = .returned (.int .i64 (toBoxV (lo, hi) p)) ∧ Below w.heap.size w w' := by
  have hB := (Below.refl w.heap.size w).alloc (Nat.le_refl _) (.cells #[.slice a1 lo.length c1, .slice a2 hi.length c2] 26)
  have k0 : (w.alloc (.cells #[.slice a1 lo.length c1, .slice a2 hi.length c2] 26)).cell? ⟨w.heap.size, 0, none⟩ = some (.slice a1 lo.length c1) := by simp
  have k1 : (w.alloc (.cells #[.slice a1 lo.length c1, .slice a2 hi.length c2] 26)).cell? ⟨w.heap.size, 1, none⟩ = some (.slice a2 hi.length c2) := by simp
  have HB := hidP (And.intro hB (And.intro k0 k1))
  have HC := hidP (sToldX a1 a2 a3 c1 c2 c3 lo hi p (w.alloc (.cells #[.slice a1 lo.length c1, .slice a2 hi.length c2] 26)) (h1.next hB) (h2.next hB) (h3.next hB) n1 n2 n3)
  clear hB k0 k1
  rcases ht : toldX (lo, hi) p with _ | _
  · rw [ht] at HC
    have HV : Hid (toBoxV (lo, hi) p = -1) := by show toBoxV (lo, hi) p = -1; simp [toBoxV, ht]
    go_enter Try.func14, Try.ntmps14
    go_wp2_with fail
    refine HC.out.mono ?_
    rintro e w2 ⟨rfl, L2⟩
    go_wp2_with fail
    go_ret
    exact ⟨ret_int HV.out.symm, chain HB.out.1 L2⟩
  · rw [ht] at HC
    have HV : Hid (toBoxV (lo, hi) p = sumTo (outQ (lo, hi) p) p.length) := by show toBoxV (lo, hi) p = _; simp [toBoxV, ht]
    obtain ⟨hbx, htw⟩ := toldX_of ht
    obtain ⟨ha, hb, hl⟩ := twoB_of (boxB_two hbx)
    obtain ⟨_, hc, hl2⟩ := twoB_of htw
    have h4 := okB_len ha
    have hl' : lo.length = hi.length := hl
    have hl2' : lo.length = p.length := hl2
    obtain ⟨b1, o1, rfl, hb1, s1⟩ := h1.seg (by omega)
    obtain ⟨b2, o2, rfl, hb2, s2⟩ := h2.seg (by omega)
    obtain ⟨b3, o3, rfl, hb3, s3⟩ := h3.seg (by omega)
    have HL := hidP (And.intro hl' hl2')
    have HP := hidP ht
    have HS := hidP (And.intro s1 (And.intro s2 s3))
    clear hl hl2 hl' hl2' s1 s2 s3 hbx htw h1 h2 h3
    go_enter Try.func14, Try.ntmps14
    go_wp2_with fail
    refine HC.out.mono ?_
    rintro e w2 ⟨rfl, L2⟩
    have q0 := (L2.cell (p := ⟨w.heap.size, 0, none⟩) (by simp)).trans HB.out.2.1
    have q1 := (L2.cell (p := ⟨w.heap.size, 1, none⟩) (by simp)).trans HB.out.2.2
    have L3 := chain HB.out.1 L2
    have HS2 : Hid (Seg w2 b1 o1 lo ∧ Seg w2 b2 o2 hi ∧ Seg w2 b3 o3 p) := ⟨HS.out.1.below hb1 L3, HS.out.2.1.below hb2 L3, HS.out.2.2.below hb3 L3⟩
    have HL3 := hidP L3
    have HQ := hidP (And.intro q0 q1)
    clear L2 L3 HC HS HB q0 q1
    go_wp2_with fail
    go_loopw [5, 6] (fun s i wr => ∃ k : Nat, k ≤ p.length ∧ i = .int .i64 k ∧ s = .int .i64 (sumTo (outQ (lo, hi) p) k) ∧ ∃ n, wr = w2.drewN n) (fun _ i _ => p.length - (intOf i).toNat)
    case atStart => exact ⟨0, Nat.zero_le _, rfl, rfl, 0, rfl⟩
    case round =>
      obtain ⟨k, hk, rfl, rfl, hw⟩ := hrel
      have HW : Hid (∃ n, wr = w2.drewN n) := hw
      clear hw
      by_cases hlt : k < p.length
      · have q0 : wr.cell? ⟨w.heap.size, 0, none⟩ = some (.slice (some ⟨b1, o1, none⟩) lo.length c1) := by obtain ⟨n, rfl⟩ := HW.out; exact HQ.out.1
        have q1 : wr.cell? ⟨w.heap.size, 1, none⟩ = some (.slice (some ⟨b2, o2, none⟩) hi.length c2) := by obtain ⟨n, rfl⟩ := HW.out; exact HQ.out.2
        have hl1 : k < lo.length := by have := HL.out; omega
        have hl2 : k < hi.length := by have := HL.out; omega
        have r1 : wr.cell? ⟨b1, o1 + k, none⟩ = some (.int .i64 (nth lo k)) := by obtain ⟨n, rfl⟩ := HW.out; exact HS2.out.1 k hl1
        have r2 : wr.cell? ⟨b2, o2 + k, none⟩ = some (.int .i64 (nth hi k)) := by obtain ⟨n, rfl⟩ := HW.out; exact HS2.out.2.1 k hl2
        have r3 : wr.cell? ⟨b3, o3 + k, none⟩ = some (.int .i64 (nth p k)) := by obtain ⟨n, rfl⟩ := HW.out; exact HS2.out.2.2 k hlt
        have x1 := okB_at ha k
        have x2 := okB_at hb k
        have x3 := okB_at hc k
        have x4 : 0 ≤ outF (lo, hi) p k ∧ outF (lo, hi) p k ≤ 2000 := outF_bd HP.out k
        have x5 := sq_bd x4
        have x6 := sumTo_le (outQ (lo, hi) p) 0 4000000 (outQ_bd HP.out) k
        have HN : Hid (sumTo (outQ (lo, hi) p) (k + 1) = sumTo (outQ (lo, hi) p) k + outF (lo, hi) p k * outF (lo, hi) p k) := rfl
        have ed : outF (lo, hi) p k = maxV 0 (maxV (nth lo k - nth p k) (nth p k - nth hi k)) := rfl
        have e1 : IntKind.i64.wrap (nth lo k - nth p k) = nth lo k - nth p k := IntWalk.i64_in _ ⟨by omega, by omega⟩
        have e2 : IntKind.i64.wrap (nth p k - nth hi k) = nth p k - nth hi k := IntWalk.i64_in _ ⟨by omega, by omega⟩
        rw [ed] at x4 x5 HN
        clear ed
        go_wp2
        go_quiet ((go_at_call 66; exact Calls.quiet_of_same (sMax _ _ _)))
        go_wp2
        go_roundw
        case rel => exact ⟨k + 1, by omega, by go_num, by rw [HN.out], by obtain ⟨n, hn⟩ := HW.out; exact ⟨n + nq, by rw [hn]; simp⟩⟩
        case measure => simp [intOf]; omega
      · go_wp2
        go_ret
        obtain rfl : k = p.length := by omega
        refine ⟨ret_int HV.out.symm, ?_⟩
        obtain ⟨n, rfl⟩ := HW.out
        exact below_drewN HL3.out n

set_option maxRecDepth 100000 in
set_option maxHeartbeats 2000000 in
theorem sCorner (a1 a2 a3 : Option Addr) (c1 c2 c3 : Nat) (lo hi p : List Int) (w : World) (h1 : View w a1 lo) (h2 : View w a2 hi) (h3 : View w a3 p) (n1 : lo.length ≤ 1048576) (n2 : hi.length ≤ 1048576) (n3 : p.length ≤ 1048576) :
    Calls Try.prog 15 #[.agg #[.slice a1 lo.length c1, .slice a2 hi.length c2], .slice a3 p.length c3] w fun e w' => e = .returned (.int .i64 (cornerV (lo, hi) p)) ∧ Below w.heap.size w w' := by
  have hB := (Below.refl w.heap.size w).alloc (Nat.le_refl _) (.cells #[.slice a1 lo.length c1, .slice a2 hi.length c2] 26)
  have k0 : (w.alloc (.cells #[.slice a1 lo.length c1, .slice a2 hi.length c2] 26)).cell? ⟨w.heap.size, 0, none⟩ = some (.slice a1 lo.length c1) := by simp
  have k1 : (w.alloc (.cells #[.slice a1 lo.length c1, .slice a2 hi.length c2] 26)).cell? ⟨w.heap.size, 1, none⟩ = some (.slice a2 hi.length c2) := by simp
  have HB := hidP (And.intro hB (And.intro k0 k1))
  have HC := hidP (sToldX a1 a2 a3 c1 c2 c3 lo hi p (w.alloc (.cells #[.slice a1 lo.length c1, .slice a2 hi.length c2] 26)) (h1.next hB) (h2.next hB) (h3.next hB) n1 n2 n3)
  clear hB k0 k1
  rcases ht : toldX (lo, hi) p with _ | _
  · rw [ht] at HC
    have HV : Hid (cornerV (lo, hi) p = -1) := by show cornerV (lo, hi) p = -1; simp [cornerV, ht]
    go_enter Try.func15, Try.ntmps15
    go_wp2_with fail
    refine HC.out.mono ?_
    rintro e w2 ⟨rfl, L2⟩
    go_wp2_with fail
    go_ret
    exact ⟨ret_int HV.out.symm, chain HB.out.1 L2⟩
  · rw [ht] at HC
    have HV : Hid (cornerV (lo, hi) p = sumTo (endQ (lo, hi) p) p.length) := by show cornerV (lo, hi) p = _; simp [cornerV, ht]
    obtain ⟨hbx, htw⟩ := toldX_of ht
    obtain ⟨ha, hb, hl⟩ := twoB_of (boxB_two hbx)
    obtain ⟨_, hc, hl2⟩ := twoB_of htw
    have h4 := okB_len ha
    have hl' : lo.length = hi.length := hl
    have hl2' : lo.length = p.length := hl2
    obtain ⟨b1, o1, rfl, hb1, s1⟩ := h1.seg (by omega)
    obtain ⟨b2, o2, rfl, hb2, s2⟩ := h2.seg (by omega)
    obtain ⟨b3, o3, rfl, hb3, s3⟩ := h3.seg (by omega)
    have HL := hidP (And.intro hl' hl2')
    have HP := hidP ht
    have HS := hidP (And.intro s1 (And.intro s2 s3))
    clear hl hl2 hl' hl2' s1 s2 s3 hbx htw h1 h2 h3
    go_enter Try.func15, Try.ntmps15
    go_wp2_with fail
    refine HC.out.mono ?_
    rintro e w2 ⟨rfl, L2⟩
    have q0 := (L2.cell (p := ⟨w.heap.size, 0, none⟩) (by simp)).trans HB.out.2.1
    have q1 := (L2.cell (p := ⟨w.heap.size, 1, none⟩) (by simp)).trans HB.out.2.2
    have L3 := chain HB.out.1 L2
    have HS2 : Hid (Seg w2 b1 o1 lo ∧ Seg w2 b2 o2 hi ∧ Seg w2 b3 o3 p) := ⟨HS.out.1.below hb1 L3, HS.out.2.1.below hb2 L3, HS.out.2.2.below hb3 L3⟩
    have HL3 := hidP L3
    have HQ := hidP (And.intro q0 q1)
    clear L2 L3 HC HS HB q0 q1
    go_wp2_with fail
    go_loopw [5, 6] (fun s i wr => ∃ k : Nat, k ≤ p.length ∧ i = .int .i64 k ∧ s = .int .i64 (sumTo (endQ (lo, hi) p) k) ∧ ∃ n, wr = w2.drewN n) (fun _ i _ => p.length - (intOf i).toNat)
    case atStart => exact ⟨0, Nat.zero_le _, rfl, rfl, 0, rfl⟩
    case round =>
      obtain ⟨k, hk, rfl, rfl, hw⟩ := hrel
      have HW : Hid (∃ n, wr = w2.drewN n) := hw
      clear hw
      by_cases hlt : k < p.length
      · have q0 : wr.cell? ⟨w.heap.size, 0, none⟩ = some (.slice (some ⟨b1, o1, none⟩) lo.length c1) := by obtain ⟨n, rfl⟩ := HW.out; exact HQ.out.1
        have q1 : wr.cell? ⟨w.heap.size, 1, none⟩ = some (.slice (some ⟨b2, o2, none⟩) hi.length c2) := by obtain ⟨n, rfl⟩ := HW.out; exact HQ.out.2
        have hl1 : k < lo.length := by have := HL.out; omega
        have hl2 : k < hi.length := by have := HL.out; omega
        have r1 : wr.cell? ⟨b1, o1 + k, none⟩ = some (.int .i64 (nth lo k)) := by obtain ⟨n, rfl⟩ := HW.out; exact HS2.out.1 k hl1
        have r2 : wr.cell? ⟨b2, o2 + k, none⟩ = some (.int .i64 (nth hi k)) := by obtain ⟨n, rfl⟩ := HW.out; exact HS2.out.2.1 k hl2
        have r3 : wr.cell? ⟨b3, o3 + k, none⟩ = some (.int .i64 (nth p k)) := by obtain ⟨n, rfl⟩ := HW.out; exact HS2.out.2.2 k hlt
        have x1 := okB_at ha k
        have x2 := okB_at hb k
        have x3 := okB_at hc k
        have x4 : 0 ≤ endF (lo, hi) p k ∧ endF (lo, hi) p k ≤ 2000 := endF_bd HP.out k
        have x5 := sq_bd x4
        have x6 := sumTo_le (endQ (lo, hi) p) 0 4000000 (endQ_bd HP.out) k
        have HN : Hid (sumTo (endQ (lo, hi) p) (k + 1) = sumTo (endQ (lo, hi) p) k + endF (lo, hi) p k * endF (lo, hi) p k) := rfl
        have ed : endF (lo, hi) p k = maxV (absV (nth p k - nth lo k)) (absV (nth p k - nth hi k)) := rfl
        have e1 : IntKind.i64.wrap (nth p k - nth lo k) = nth p k - nth lo k := IntWalk.i64_in _ ⟨by omega, by omega⟩
        have e2 : IntKind.i64.wrap (nth p k - nth hi k) = nth p k - nth hi k := IntWalk.i64_in _ ⟨by omega, by omega⟩
        rw [ed] at x4 x5 HN
        clear ed
        go_wp2
        go_quiet (first | (go_at_call 66; exact Calls.quiet_of_same (sMax _ _ _)) | (go_at_call 67; exact Calls.quiet_of_same (sAbs _ _ (by omega) (by omega))))
        go_wp2
        go_roundw
        case rel => exact ⟨k + 1, by omega, by go_num, by rw [HN.out], by obtain ⟨n, hn⟩ := HW.out; exact ⟨n + nq, by rw [hn]; simp⟩⟩
        case measure => simp [intOf]; omega
      · go_wp2
        go_ret
        obtain rfl : k = p.length := by omega
        refine ⟨ret_int HV.out.symm, ?_⟩
        obtain ⟨n, rfl⟩ := HW.out
        exact below_drewN HL3.out n

set_option maxRecDepth 100000 in
set_option maxHeartbeats 1000000 in
theorem sInside (a1 a2 a3 : Option Addr) (c1 c2 c3 : Nat) (lo hi p : List Int) (w : World) (h1 : View w a1 lo) (h2 : View w a2 hi) (h3 : View w a3 p) (n1 : lo.length ≤ 1048576) (n2 : hi.length ≤ 1048576) (n3 : p.length ≤ 1048576) :
    Calls Try.prog 17 #[.agg #[.slice a1 lo.length c1, .slice a2 hi.length c2], .slice a3 p.length c3] w fun e w' => e = .returned (.bool (insideB (lo, hi) p)) ∧ Below w.heap.size w w' := by
  have hB := (Below.refl w.heap.size w).alloc (Nat.le_refl _) (.cells #[.slice a1 lo.length c1, .slice a2 hi.length c2] 26)
  have k0 : (w.alloc (.cells #[.slice a1 lo.length c1, .slice a2 hi.length c2] 26)).cell? ⟨w.heap.size, 0, none⟩ = some (.slice a1 lo.length c1) := by simp
  have k1 : (w.alloc (.cells #[.slice a1 lo.length c1, .slice a2 hi.length c2] 26)).cell? ⟨w.heap.size, 1, none⟩ = some (.slice a2 hi.length c2) := by simp
  have HB := hidP (And.intro hB (And.intro k0 k1))
  have HC := hidP (sToldX a1 a2 a3 c1 c2 c3 lo hi p (w.alloc (.cells #[.slice a1 lo.length c1, .slice a2 hi.length c2] 26)) (h1.next hB) (h2.next hB) (h3.next hB) n1 n2 n3)
  have HV := hidP (And.intro h1 (And.intro h2 h3))
  clear hB k0 k1 h1 h2 h3
  rcases ht : toldX (lo, hi) p with _ | _
  · rw [ht] at HC
    have HI : Hid (insideB (lo, hi) p = false) := by show insideB (lo, hi) p = false; simp [insideB, ht]
    go_enter Try.func17, Try.ntmps17
    go_wp2_with fail
    refine HC.out.mono ?_
    rintro e w2 ⟨rfl, L2⟩
    go_wp2_with fail
    go_ret
    exact ⟨ret_bool HI.out.symm, chain HB.out.1 L2⟩
  · rw [ht] at HC
    have HI : Hid (insideB (lo, hi) p = decide (toBoxV (lo, hi) p = 0)) := by show insideB (lo, hi) p = _; simp [insideB, ht]
    go_enter Try.func17, Try.ntmps17
    go_wp2_with fail
    refine HC.out.mono ?_
    rintro e w2 ⟨rfl, L2⟩
    have q0 := (L2.cell (p := ⟨w.heap.size, 0, none⟩) (by simp)).trans HB.out.2.1
    have q1 := (L2.cell (p := ⟨w.heap.size, 1, none⟩) (by simp)).trans HB.out.2.2
    have L3 := chain HB.out.1 L2
    have HT := hidP (sToBox a1 a2 a3 c1 c2 c3 lo hi p w2 (HV.out.1.next L3) (HV.out.2.1.next L3) (HV.out.2.2.next L3) n1 n2 n3)
    have HL := hidP L3
    clear L2 L3 HC
    go_wp2_with fail
    refine HT.out.mono ?_
    rintro e w3 ⟨rfl, L4⟩
    go_wp2_with fail
    go_ret
    exact ⟨ret_bool (by rw [HI.out]; first | rfl | simp [BEq.beq] | simp), chain HL.out L4⟩

end Go.Proofs.Ytodielfilhodeaa
