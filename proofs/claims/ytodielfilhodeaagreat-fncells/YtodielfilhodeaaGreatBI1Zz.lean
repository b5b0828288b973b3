/-
  The program's own least and greatest of points, number by number: less, more, slices.Clone, end, lowest, highest.
-/
import Derived.Test.YtodielfilhodeaaGreatBI0Zz
import Derived.Test.YtodielfilhodeaaGreatBMarkZz
import Derived.Test.YtodielfilhodeaaGreatAppendZz
import Derived.Lib.SliceRun
namespace Go.Proofs.YtodielfilhodeaaGreat
open Go Go.RowKit

def loP (P : Nat → List Int) (k : Nat) : Nat → Int
  | 0 => nth (P 0) k
  | j + 1 => min (nth (P (j + 1)) k) (loP P k j)
def hiP (P : Nat → List Int) (k : Nat) : Nat → Int
  | 0 => nth (P 0) k
  | j + 1 => max (nth (P (j + 1)) k) (hiP P k j)
/-- Of n numbers the first i as f says, the others as g says. -/
def mixL (f g : Nat → Int) (n i : Nat) : List Int := tabL (fun k => if k < i then f k else g k) n
theorem mixL_length (f g : Nat → Int) (n i : Nat) : (mixL f g n i).length = n := tabL_length _ _
theorem mixL_zero (f g : Nat → Int) (n : Nat) : mixL f g n 0 = tabL g n := by simp [mixL]
theorem mixL_all (f g : Nat → Int) (n : Nat) : mixL f g n n = tabL f n := by
  unfold mixL tabL
  exact List.map_congr_left fun k hk => by rw [if_pos (List.mem_range.1 hk)]
theorem mixL_at (f g : Nat → Int) (n i : Nat) (h : i < n) : nth (mixL f g n i) i = g i := by
  unfold mixL; rw [tabL_getD _ _ _ h, if_neg (by omega)]
theorem mixL_set (f g : Nat → Int) (n i : Nat) (h : i < n) : (mixL f g n i).set i (f i) = mixL f g n (i + 1) := by
  apply eq_of_nth
  · rw [List.length_set, mixL_length, mixL_length]
  · intro j hj
    rw [List.length_set, mixL_length] at hj
    have e : nth (mixL f g n (i + 1)) j = if j < i + 1 then f j else g j := tabL_getD _ _ _ hj
    have e2 : nth (mixL f g n i) j = if j < i then f j else g j := tabL_getD _ _ _ hj
    rw [e]
    by_cases hji : i = j
    · subst hji
      rw [if_pos (by omega)]
      simp [nth, List.getD, mixL_length, h]
    · have : nth ((mixL f g n i).set i (f i)) j = nth (mixL f g n i) j := by simp [nth, List.getD, hji]
      rw [this, e2]
      by_cases hlt : j < i
      · rw [if_pos hlt, if_pos (by omega)]
      · rw [if_neg hlt, if_neg (by omega)]

theorem seg_src {w : World} {b off : Nat} {xs : List Int} (h : Seg w b off xs) : SrcAt w 1 (some ⟨b, off, none⟩) xs.length (xs.map (Value.int .i64)) := by
  refine ⟨by simp, fun u hu => ?_, Or.inr ⟨_, rfl, fun j u hu => ?_⟩⟩
  · obtain ⟨x, _, rfl⟩ := List.mem_map.1 hu; rfl
  · rw [Go.WideShapes.add_plain]
    have hj : j < xs.length := by
      rcases Nat.lt_or_ge j xs.length with h1 | h1
      · exact h1
      · rw [List.getElem?_eq_none (by simpa using h1)] at hu; cases hu
    rw [h j hj, ← hu]
    simp [nth, List.getD, hj]

/-- m points of n numbers each, told by their places. -/
def PRow (w : World) (b off m n : Nat) (P : Nat → List Int) : Prop :=
  ∀ j, j < m → (P j).length = n ∧ ∃ b' o' c', w.cell? ⟨b, off + j, none⟩ = some (.slice (some ⟨b', o', none⟩) n c') ∧ b' < w.heap.size ∧ Seg w b' o' (P j)
theorem PRow.below {w w' : World} {b off m n : Nat} {P : Nat → List Int} (h : PRow w b off m n P) (hb : b < w.heap.size) (hw : Below w.heap.size w w') : PRow w' b off m n P := fun j hj => by
  obtain ⟨hl, b', o', c', hc, hb', hs⟩ := h j hj
  exact ⟨hl, b', o', c', (hw.cell (p := ⟨b, off + j, none⟩) hb).trans hc, Nat.lt_of_lt_of_le hb' hw.size, hs.below hb' hw⟩

set_option maxRecDepth 100000 in
set_option maxHeartbeats 400000 in
theorem pClone (b off cap : Nat) (xs : List Int) (w : World) (hs : Seg w b off xs) (hb : b < w.heap.size) (hn : xs.length ≤ 1048576) :
    Calls Tryz.prog 190 #[.slice (some ⟨b, off, none⟩) xs.length cap] w fun e w' => ∃ g c, e = .returned (.slice (some ⟨g, 0, none⟩) xs.length c) ∧ IRow w.heap.size w' g c xs ∧ Below w.heap.size w w' := by
  obtain ⟨j0, hj0, hy0, hy1, hy2⟩ := info_parts Tryz.info2
  have hA := alloc_below w (.cells #[] 2)
  have HR := hidP (IRow.start w w.heap.size (Nat.le_refl _))
  have HS := hidP (seg_src (hs.below hb hA))
  have HA := hidP hA
  have q49 : (binOp .eql 80 (.slice (some ⟨b, off, none⟩) xs.length cap) (.slice none 0 0)).run Tryz.prog w = .ok (.bool false) w := Lib.run_eql_slice_nil w 80 2 _ _ _ _ _ Tryz.underlying80
  clear hA hs
  go_enter Tryz.func190, Tryz.ntmps190
  go_wp2_with (at_builtin; refine wpList_append_at _ rfl (.tmp 5) (.tmp 6) 80 rfl w.heap.size 2 j0 _ 1 8 Tryz.underlying80 hj0 hy0 hy1 hy2 rfl (by omega) w.heap.size 0 0 [] rfl HR.out (some ⟨b, off, none⟩) xs.length cap (xs.map (Value.int .i64)) rfl HS.out (by unfold maxLen; omega) (by omega) (by simp) (w.heap.size + 1) (by simp) ?_; intro gg cc w4 hown hgrow hat hltt)
  go_ret
  exact ⟨gg, cc, rfl, IRow.of hown (by omega) (by simp), HA.out.grown hgrow (by simp) (by intro k hk; cases hk; omega)⟩

set_option maxRecDepth 100000 in
set_option maxHeartbeats 400000 in
theorem pLess (b off cap k n : Nat) (x : Int) (xs : List Int) (w : World) (hs : Seg w b off xs) (hk : k < n) (hn : xs.length = n) :
    Calls Tryz.prog 174 #[.slice (some ⟨b, off, none⟩) n cap, .int .i64 k, .int .i64 x] w fun e w' => e = .returned (.int .i64 (min (nth xs k) x)) ∧ w' = w := by
  have hc := hs k (by omega)
  clear hn
  go_enter Tryz.func174, Tryz.ntmps174
  go_wp2
  all_goals
    go_ret
    exact ⟨ret_int (by omega), rfl⟩

set_option maxRecDepth 100000 in
set_option maxHeartbeats 1000000 in
theorem pEndLo (B O C m n : Nat) (P : Nat → List Int) (w : World) (h : PRow w B O m n P) (hB : B < w.heap.size) (hm : 1 ≤ m) (hmm : m ≤ 1048576) (hC : m ≤ C) (hn : n ≤ 4) :
    Calls Tryz.prog 173 #[.func (Fn.func 174) #[] #[], .slice (some ⟨B, O, none⟩) m C] w fun e w' => ∃ g c, e = .returned (.slice (some ⟨g, 0, none⟩) n c) ∧ IRow w.heap.size w' g c (tabL (fun k => loP P k (m - 1)) n) ∧ Below w.heap.size w w' := by
  obtain ⟨hl0, b0, o0, c0, hc0, hb0, hs0⟩ := h 0 (by omega)
  rw [Nat.add_zero] at hc0
  have hcl := pClone b0 o0 c0 (P 0) w hs0 hb0 (by omega)
  have he : P 0 = tabL (fun k => loP P k 0) n := by rw [← hl0]; exact (tabL_list (P 0)).symm
  rw [hl0] at hcl
  rw [he] at hcl
  have HCL := hidP hcl
  have HH := hidP h
  have hm0 : m ≠ 0 := by omega
  clear h hl0 hs0 hcl he
  go_enter Tryz.func173, Tryz.ntmps173
  go_wp2_with fail
  refine HCL.out.mono ?_
  rintro e w1 ⟨g, c, rfl, r0, L0⟩
  have HR0 := hidP r0
  have HL0 := hidP L0
  clear r0 L0 HCL
  go_wp2_with fail
  all_goals
    go_loopw [17] (fun i wr => ∃ j : Nat, j ≤ m - 1 ∧ i = .int .i64 j ∧ IRow w.heap.size wr g c (tabL (fun k => loP P k j) n) ∧ Below w.heap.size w wr) (fun i _ => m - (intOf i).toNat)
    case atStart => exact ⟨0, Nat.zero_le _, rfl, HR0.out, HL0.out⟩
    case round =>
      obtain ⟨j, hj, rfl, hr, L⟩ := hrel
      have HR := hidP hr
      have HL := hidP L
      clear hr L
      by_cases hlt : j < m - 1
      · first
        | (exfalso; omega)
        | (
            obtain ⟨hlp, b1, o1, c1, hc1, hb1, hs1⟩ := HH.out (j + 1) (by omega)
            rw [show O + (j + 1) = O + 1 + j by omega] at hc1
            replace hc1 := (HL.out.cell (p := ⟨B, O + 1 + j, none⟩) hB).trans hc1
            have HLP := hidP hlp
            have HS1 := hidP hs1
            clear hlp hs1
            go_wp2_with fail
            go_loopw [23] (fun i wq => ∃ k : Nat, k ≤ n ∧ i = .int .i64 k ∧ IRow w.heap.size wq g c (mixL (fun k => loP P k (j + 1)) (fun k => loP P k j) n k) ∧ Below w.heap.size w wq) (fun i _ => n - (intOf i).toNat)
            case atStart => exact ⟨0, Nat.zero_le _, rfl, by rw [mixL_zero]; exact HR.out, HL.out⟩
            case round =>
              obtain ⟨k, hk, rfl, hq, Lq⟩ := hrel
              have HQ := hidP hq
              have HLQ := hidP Lq
              by_cases hkn : k < n
              · have hc2 := hq.seg k (by rw [mixL_length]; exact hkn)
                rw [Nat.zero_add, mixL_at _ _ _ _ hkn] at hc2
                have hf2 := World.ownsRow.frozenAt hq k
                have HC := hidP (pLess b1 o1 c1 k n (loP P k j) (P (j + 1)) wr (HS1.out.below hb1 Lq) hkn HLP.out)
                have HN : Hid (loP P k (j + 1) = min (nth (P (j + 1)) k) (loP P k j)) := rfl
                have hq2 := hq.store k (loP P k (j + 1))
                rw [mixL_set _ _ _ _ hkn] at hq2
                have hgb := hq.lt.1
                have HQ2 := hidP (And.intro hq2 (Lq.setCell (p := ⟨g, k, none⟩) hgb (.int .i64 (loP P k (j + 1)))))
                rw [HN.out] at HQ2
                clear hq Lq hq2
                go_wp2_with fail
                refine HC.out.mono ?_
                rintro e w3 ⟨rfl, hw3⟩
                subst w3
                go_wp2_with fail
                go_roundw
                case rel => exact ⟨k + 1, by omega, by go_num, HQ2.out.1, HQ2.out.2⟩
                case measure => simp [intOf]; omega
              · clear hq Lq
                go_wp2_with fail
                obtain rfl : k = n := by omega
                go_roundw
                case rel => exact ⟨j + 1, by omega, by go_num, by have := HQ.out; rwa [mixL_all] at this, HLQ.out⟩
                case measure => simp [intOf]; omega)
      · go_wp2_with fail
        go_ret
        obtain rfl : j = m - 1 := by omega
        exact ⟨g, c, rfl, HR.out, HL.out⟩

set_option maxRecDepth 100000 in
set_option maxHeartbeats 400000 in
theorem pLowest (B O C m n : Nat) (P : Nat → List Int) (w : World) (h : PRow w B O m n P) (hB : B < w.heap.size) (hm : 1 ≤ m) (hmm : m ≤ 1048576) (hC : m ≤ C) (hn : n ≤ 4) :
    Calls Tryz.prog 154 #[.slice (some ⟨B, O, none⟩) m C] w fun e w' => ∃ g c, e = .returned (.slice (some ⟨g, 0, none⟩) n c) ∧ IRow w.heap.size w' g c (tabL (fun k => loP P k (m - 1)) n) ∧ Below w.heap.size w w' := by
  have HE := hidP (pEndLo B O C m n P w h hB hm hmm hC hn)
  clear h
  go_enter Tryz.func154, Tryz.ntmps154
  go_wp2_with fail
  refine HE.out.mono ?_
  rintro e w1 ⟨g, c, rfl, hr, L⟩
  go_wp2_with fail
  go_ret
  exact ⟨g, c, rfl, hr, L⟩

set_option maxRecDepth 100000 in
set_option maxHeartbeats 400000 in
theorem pMore (b off cap k n : Nat) (x : Int) (xs : List Int) (w : World) (hs : Seg w b off xs) (hk : k < n) (hn : xs.length = n) :
    Calls Tryz.prog 175 #[.slice (some ⟨b, off, none⟩) n cap, .int .i64 k, .int .i64 x] w fun e w' => e = .returned (.int .i64 (max (nth xs k) x)) ∧ w' = w := by
  have hc := hs k (by omega)
  clear hn
  go_enter Tryz.func175, Tryz.ntmps175
  go_wp2
  all_goals
    go_ret
    exact ⟨ret_int (by omega), rfl⟩

set_option maxRecDepth 100000 in
set_option maxHeartbeats 1000000 in
theorem pEndHi (B O C m n : Nat) (P : Nat → List Int) (w : World) (h : PRow w B O m n P) (hB : B < w.heap.size) (hm : 1 ≤ m) (hmm : m ≤ 1048576) (hC : m ≤ C) (hn : n ≤ 4) :
    Calls Tryz.prog 173 #[.func (Fn.func 175) #[] #[], .slice (some ⟨B, O, none⟩) m C] w fun e w' => ∃ g c, e = .returned (.slice (some ⟨g, 0, none⟩) n c) ∧ IRow w.heap.size w' g c (tabL (fun k => hiP P k (m - 1)) n) ∧ Below w.heap.size w w' := by
  obtain ⟨hl0, b0, o0, c0, hc0, hb0, hs0⟩ := h 0 (by omega)
  rw [Nat.add_zero] at hc0
  have hcl := pClone b0 o0 c0 (P 0) w hs0 hb0 (by omega)
  have he : P 0 = tabL (fun k => hiP P k 0) n := by rw [← hl0]; exact (tabL_list (P 0)).symm
  rw [hl0] at hcl
  rw [he] at hcl
  have HCL := hidP hcl
  have HH := hidP h
  have hm0 : m ≠ 0 := by omega
  clear h hl0 hs0 hcl he
  go_enter Tryz.func173, Tryz.ntmps173
  go_wp2_with fail
  refine HCL.out.mono ?_
  rintro e w1 ⟨g, c, rfl, r0, L0⟩
  have HR0 := hidP r0
  have HL0 := hidP L0
  clear r0 L0 HCL
  go_wp2_with fail
  all_goals
    go_loopw [17] (fun i wr => ∃ j : Nat, j ≤ m - 1 ∧ i = .int .i64 j ∧ IRow w.heap.size wr g c (tabL (fun k => hiP P k j) n) ∧ Below w.heap.size w wr) (fun i _ => m - (intOf i).toNat)
    case atStart => exact ⟨0, Nat.zero_le _, rfl, HR0.out, HL0.out⟩
    case round =>
      obtain ⟨j, hj, rfl, hr, L⟩ := hrel
      have HR := hidP hr
      have HL := hidP L
      clear hr L
      by_cases hlt : j < m - 1
      · first
        | (exfalso; omega)
        | (
            obtain ⟨hlp, b1, o1, c1, hc1, hb1, hs1⟩ := HH.out (j + 1) (by omega)
            rw [show O + (j + 1) = O + 1 + j by omega] at hc1
            replace hc1 := (HL.out.cell (p := ⟨B, O + 1 + j, none⟩) hB).trans hc1
            have HLP := hidP hlp
            have HS1 := hidP hs1
            clear hlp hs1
            go_wp2_with fail
            go_loopw [23] (fun i wq => ∃ k : Nat, k ≤ n ∧ i = .int .i64 k ∧ IRow w.heap.size wq g c (mixL (fun k => hiP P k (j + 1)) (fun k => hiP P k j) n k) ∧ Below w.heap.size w wq) (fun i _ => n - (intOf i).toNat)
            case atStart => exact ⟨0, Nat.zero_le _, rfl, by rw [mixL_zero]; exact HR.out, HL.out⟩
            case round =>
              obtain ⟨k, hk, rfl, hq, Lq⟩ := hrel
              have HQ := hidP hq
              have HLQ := hidP Lq
              by_cases hkn : k < n
              · have hc2 := hq.seg k (by rw [mixL_length]; exact hkn)
                rw [Nat.zero_add, mixL_at _ _ _ _ hkn] at hc2
                have hf2 := World.ownsRow.frozenAt hq k
                have HC := hidP (pMore b1 o1 c1 k n (hiP P k j) (P (j + 1)) wr (HS1.out.below hb1 Lq) hkn HLP.out)
                have HN : Hid (hiP P k (j + 1) = max (nth (P (j + 1)) k) (hiP P k j)) := rfl
                have hq2 := hq.store k (hiP P k (j + 1))
                rw [mixL_set _ _ _ _ hkn] at hq2
                have hgb := hq.lt.1
                have HQ2 := hidP (And.intro hq2 (Lq.setCell (p := ⟨g, k, none⟩) hgb (.int .i64 (hiP P k (j + 1)))))
                rw [HN.out] at HQ2
                clear hq Lq hq2
                go_wp2_with fail
                refine HC.out.mono ?_
                rintro e w3 ⟨rfl, hw3⟩
                subst w3
                go_wp2_with fail
                go_roundw
                case rel => exact ⟨k + 1, by omega, by go_num, HQ2.out.1, HQ2.out.2⟩
                case measure => simp [intOf]; omega
              · clear hq Lq
                go_wp2_with fail
                obtain rfl : k = n := by omega
                go_roundw
                case rel => exact ⟨j + 1, by omega, by go_num, by have := HQ.out; rwa [mixL_all] at this, HLQ.out⟩
                case measure => simp [intOf]; omega)
      · go_wp2_with fail
        go_ret
        obtain rfl : j = m - 1 := by omega
        exact ⟨g, c, rfl, HR.out, HL.out⟩

set_option maxRecDepth 100000 in
set_option maxHeartbeats 400000 in
theorem pHighest (B O C m n : Nat) (P : Nat → List Int) (w : World) (h : PRow w B O m n P) (hB : B < w.heap.size) (hm : 1 ≤ m) (hmm : m ≤ 1048576) (hC : m ≤ C) (hn : n ≤ 4) :
    Calls Tryz.prog 155 #[.slice (some ⟨B, O, none⟩) m C] w fun e w' => ∃ g c, e = .returned (.slice (some ⟨g, 0, none⟩) n c) ∧ IRow w.heap.size w' g c (tabL (fun k => hiP P k (m - 1)) n) ∧ Below w.heap.size w w' := by
  have HE := hidP (pEndHi B O C m n P w h hB hm hmm hC hn)
  clear h
  go_enter Tryz.func155, Tryz.ntmps155
  go_wp2_with fail
  refine HE.out.mono ?_
  rintro e w1 ⟨g, c, rfl, hr, L⟩
  go_wp2_with fail
  go_ret
  exact ⟨g, c, rfl, hr, L⟩

end Go.Proofs.YtodielfilhodeaaGreat
