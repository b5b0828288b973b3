/-
  The given Pieces.
-/
import Derived.Test.YtaaagmgglolibaaPcRowZz
import Derived.Test.YtaaagmgglolibaaAppendZz
import Derived.Deep.CutRange
import Derived.Deep.CutBlock
namespace Go.Proofs.Ytaaagmgglolibaa
open Go Go.RowKit

/-- The first k pieces. -/
def pcT (s : ByteArray) (z : Nat) : Nat → List ByteArray
  | 0 => []
  | k + 1 => pcT s z k ++ [s.extract (k * z) (min s.size ((k + 1) * z))]
def pcN (s : ByteArray) (z : Nat) : Nat := (s.size + z - 1) / z
def pcOk (s : ByteArray) (n : Int) : Bool := decide (1 ≤ n) && decide (n ≤ 1000) && decide (s.size ≤ 100000)
def pcL (s : ByteArray) (n : Int) : List ByteArray := if pcOk s n = true then pcT s n.toNat (pcN s n.toNat) else []
theorem pcT_len (s : ByteArray) (z : Nat) : ∀ k, (pcT s z k).length = k
  | 0 => rfl
  | k + 1 => by rw [pcT, List.length_append, pcT_len s z k]; rfl
theorem pcN_iff {s : ByteArray} {z k : Nat} (hz : 0 < z) : k < pcN s z ↔ k * z < s.size := by
  unfold pcN
  rw [← Nat.succ_le_iff, Nat.le_div_iff_mul_le hz, Nat.succ_mul]
  omega
theorem pcN_le (s : ByteArray) (z : Nat) (hz : 0 < z) : pcN s z ≤ s.size := by
  rcases Nat.lt_or_ge s.size (pcN s z) with h | h
  · have := (pcN_iff hz).1 h
    have h2 : s.size * 1 ≤ s.size * z := Nat.mul_le_mul_left _ hz
    omega
  · exact h
theorem one_txt {w : World} {n : Nat} {x : ByteArray} (hb : w.heap[n]? = some (.cells #[.string x] 9 (0, 0))) : SrcAt w 1 (some ⟨n, 0, none⟩) 1 [.string x] := by
  refine ⟨rfl, fun u hu => by simp at hu; subst hu; rfl, Or.inr ⟨_, rfl, fun j u hj => ?_⟩⟩
  obtain rfl : j = 0 := by
    rcases j with _ | j
    · rfl
    · simp at hj
  simp at hj
  subst hj
  simp [World.cell?, hb, Addr.add]
theorem Try.info9s : (Try.prog.info? 9).map (fun i => (i.zero, i.size, i.bytes)) = some (some (.string ⟨#[]⟩), 1, 16) := by kernel_rfl

set_option maxHeartbeats 400000 in
theorem sIn18 (x lo hi : Int) (w : World) :
    Calls Try.prog 12 #[.int .i64 x, .int .i64 lo, .int .i64 hi] w fun e w' => e = .returned (.bool (decide (lo ≤ x) && decide (x ≤ hi))) ∧ w' = w := by
  by_cases h : lo ≤ x
  · have h1 : decide (lo ≤ x) = true := by simp [h]
    have h2 : x ≥ lo := h
    go_enter Try.func12, Try.ntmps12
    go_wp2
    go_ret
    exact ⟨by simp [h], rfl⟩
  · have h2 : ¬ (x ≥ lo) := h
    go_enter Try.func12, Try.ntmps12
    go_wp2
    go_ret
    exact ⟨by rw [show decide (lo ≤ x) = false by simp; omega]; rfl, rfl⟩
theorem sMin18 (a b : Int) (w : World) :
    Calls Try.prog 13 #[.int .i64 a, .int .i64 b] w fun e w' => e = .returned (.int .i64 (min a b)) ∧ w' = w := by
  by_cases h : a < b
  · go_enter Try.func13, Try.ntmps13
    go_wp2
    go_ret
    exact ⟨by rw [show min a b = a by omega]; rfl, rfl⟩
  · go_enter Try.func13, Try.ntmps13
    go_wp2
    go_ret
    exact ⟨by rw [show min a b = b by omega]; rfl, rfl⟩

set_option maxRecDepth 100000 in
set_option maxHeartbeats 4000000 in
theorem sPieces (s : ByteArray) (n : Int) (w : World) (hs : s.size ≤ 1048576) :
    Calls Try.prog 7 #[.string s, .int .i64 n] w fun e w' => ∃ v, e = .returned v ∧ TxRow w.heap.size w' v (pcL s n) ∧ Below w.heap.size w w' := by
  obtain ⟨j0, hj0, hy0, hy1, hy2⟩ := info_parts Try.info9s
  have HIN := hidS (sIn18 n 1 1000 (w.alloc (.cells #[] 9)))
  have HR0 : Hid (TxRow w.heap.size (w.alloc (.cells #[] 9)) (.slice (some ⟨w.heap.size, 0, none⟩) 0 0) []) := World.ownsRow_lit w #[] 0 (Nat.le_refl _) (Nat.zero_le _) rfl
  have HL0 := hidS ((Below.refl w.heap.size w).alloc (Nat.le_refl _) (.cells #[] 9))
  obtain ⟨w0, hw0⟩ : ∃ w0, w.alloc (.cells #[] 9) = w0 := ⟨_, rfl⟩
  rw [hw0] at HIN HR0 HL0
  by_cases hin : (decide (1 ≤ n) && decide (n ≤ 1000)) = true
  · rw [hin] at HIN
    by_cases hbig : 100000 < s.size
    · have HP : Hid (pcL s n = []) := by show _ = _; unfold pcL pcOk; rw [hin, if_neg (by simp; omega)]
      go_enter Try.func7, Try.ntmps7
      go_upto_region 2 with fail
      first | rw [hw0] | skip
      go_wp2_with fail
      refine HIN.out.mono ?_
      rintro e w1 ⟨rfl, hw1⟩
      subst hw1
      go_wp2_with fail
      go_ret
      exact ⟨_, rfl, by rw [HP.out]; exact HR0.out, HL0.out⟩
    · have hn1 : 1 ≤ n ∧ n ≤ 1000 := by simpa using hin
      obtain ⟨z, rfl⟩ : ∃ z : Nat, n = (z : Int) := ⟨n.toNat, by omega⟩
      have hz : 0 < z := by omega
      have HP : Hid (pcL s (z : Int) = pcT s z (pcN s z)) := by show _ = _; unfold pcL pcOk; rw [hin, if_pos (by simp; omega)]; simp
      have HNL := hidS (pcN_le s z hz)
      go_enter Try.func7, Try.ntmps7
      go_upto_region 2 with fail
      first | rw [hw0] | skip
      clear hw0
      go_wp2_with fail
      refine HIN.out.mono ?_
      rintro e w1 ⟨rfl, hw1⟩
      subst hw1
      go_wp2_with fail
      go_loopg [5, 6] s.size (fun gk ov iv wr => ∃ (k g c : Nat), k ≤ pcN s z ∧ s.size - k ≤ gk ∧ iv = .int .i64 ((k * z : Nat) : Int) ∧ ov = .slice (some ⟨g, 0, none⟩) k c ∧ TxRow w.heap.size wr (.slice (some ⟨g, 0, none⟩) k c) (pcT s z k) ∧ Below w.heap.size w wr)
      case atStart => exact ⟨0, w.heap.size, 0, Nat.zero_le _, Nat.sub_le _ _, by simp, rfl, HR0.out, HL0.out⟩
      case round =>
        obtain ⟨k, g, c, hk, hgk, rfl, rfl, hp, L⟩ := hrel
        have HR := hidS hp
        have HL := hidS L
        have hwz := L.size
        clear hp L
        by_cases hlt : k * z < s.size
        · have hkN := (pcN_iff hz).2 hlt
          have hkz : (k + 1) * z = k * z + z := Nat.succ_mul k z
          have HM := hidS (sMin18 (s.size : Int) (((k * z : Nat) : Int) + (z : Int)) wr)
          rw [show min (s.size : Int) (((k * z : Nat) : Int) + (z : Int)) = ((min s.size ((k + 1) * z) : Nat) : Int) by rw [hkz]; omega] at HM
          have hm1 : k * z ≤ min s.size ((k + 1) * z) := by rw [hkz]; omega
          have hm2 : min s.size ((k + 1) * z) ≤ s.size := Nat.min_le_left _ _
          obtain ⟨hh, hhe⟩ : ∃ hh, min s.size ((k + 1) * z) = hh := ⟨_, rfl⟩
          have HHE := hidS hhe
          rw [hhe] at HM hm1 hm2
          obtain ⟨a, ha⟩ : ∃ a, k * z = a := ⟨_, rfl⟩
          have HAE := hidS ha
          rw [ha] at HM hm1 hlt ⊢
          clear hhe ha hkz
          go_wp2_with fail
          refine HM.out.mono ?_
          rintro e w2 ⟨rfl, hw2⟩
          subst hw2
          have LA := (Below.refl w2.heap.size w2).alloc (Nat.le_refl _) (.cells #[.string (s.extract a hh)] 9)
          have hgl := World.ownsRow.lt HR.out g rfl
          have HRA : Hid ((w2.alloc (.cells #[.string (s.extract a hh)] 9)).ownsRow w.heap.size 9 1 (.slice (some ⟨g, 0, none⟩) k c) k ((pcT s z k).map Value.string)) := by
            have := HR.out.next LA
            unfold TxRow at this
            rw [pcT_len] at this
            exact this
          have hkl := HNL.out
          clear LA
          go_wp2_with (at_builtin; refine wpList_append_at _ rfl (.tmp 24) (.tmp 34) 24 rfl w.heap.size 9 j0 _ 1 16 Try.underlying24 hj0 hy0 hy1 hy2 rfl (by omega) g k c ((pcT s z k).map Value.string) rfl HRA.out (some ⟨w2.heap.size, 0, none⟩) 1 1 [.string (s.extract a hh)] rfl (one_txt (heap_alloc_new w2 _)) (by unfold maxLen; omega) (by omega) (by simp; omega) (w2.heap.size + 1) (by simp) ?_; intro gg cc w4 hown hgrow hat hltt)
          have HOW : Hid (TxRow w.heap.size w4 (.slice (some ⟨gg, 0, none⟩) (k + 1) cc) (pcT s z (k + 1))) := by
            show World.ownsRow _ _ _ _ _ _ _
            rw [pcT_len, pcT, HAE.out, HHE.out, List.map_append]
            exact hown
          have HLW : Hid (Below w.heap.size w w4) := (HL.out.alloc hwz (.cells #[.string (s.extract a hh)] 9)).grown hgrow (by simp; omega) (by intro q hq; cases hq; exact hgl.1)
          have HNX : Hid (((k + 1) * z : Nat) = a + z) := by show _ = _; rw [Nat.succ_mul, HAE.out]
          clear hown hgrow hat hltt HRA
          go_wp2_with fail
          go_roundg (s.size - (k + 1))
          case rel => exact ⟨k + 1, gg, cc, hkN, Nat.le_refl _, by rw [HNX.out]; go_num, by go_num, HOW.out, HLW.out⟩
          case measure => omega
        · have hkN : k = pcN s z := by
            have := mt (pcN_iff (s := s) (k := k) hz).1 hlt
            omega
          obtain ⟨a, ha⟩ : ∃ a, k * z = a := ⟨_, rfl⟩
          rw [ha] at hlt ⊢
          have hcond : ¬ ((a : Int) < (s.size : Int)) := by omega
          have HF : Hid (TxRow w.heap.size wr (.slice (some ⟨g, 0, none⟩) k c) (pcL s (z : Int))) := by show TxRow _ _ _ _; rw [HP.out, ← hkN]; exact HR.out
          clear ha hkN
          go_wp2_with fail
          go_ret
          exact ⟨_, rfl, HF.out, HL.out⟩
  · have hin' : (decide (1 ≤ n) && decide (n ≤ 1000)) = false := by simpa using hin
    rw [hin'] at HIN
    have HP : Hid (pcL s n = []) := by show _ = _; unfold pcL pcOk; rw [hin', if_neg (by simp)]
    go_enter Try.func7, Try.ntmps7
    go_upto_region 2 with fail
    first | rw [hw0] | skip
    go_wp2_with fail
    refine HIN.out.mono ?_
    rintro e w1 ⟨rfl, hw1⟩
    subst hw1
    go_wp2_with fail
    go_ret
    exact ⟨_, rfl, by rw [HP.out]; exact HR0.out, HL0.out⟩
end Go.Proofs.Ytaaagmgglolibaa
