/-
  The given l11Best and BestRadius: the least radius of any k marks.
-/
import Derived.Test.YtpcclaehcmnngaaZSpR
import Derived.Test.YtpcclaehcmnngaaSCells
import Derived.Test.YtpcclaehcmnngaaArgs
import Derived.Test.YtpcclaehcmnngaaBMark
import Derived.Deep.RegionHeld3
namespace Go.Proofs.Ytpcclaehcmnngaa
open Go Go.RowKit

/-- The least radius of these and any k more behind them, by numbers. -/
def zBestI (ms : List Mk) (kd : Int) : Nat → List Int → Nat → Int
  | 0, ids, _ => zRadI ms kd ids
  | k + 1, ids, fr => (List.range' fr (ms.length - fr)).foldl (fun b i => zLess b (zBestI ms kd k (ids ++ [mid ms i]) (i + 1))) (-1)
def zBestTo (ms : List Mk) (kd : Int) (k : Nat) (ids : List Int) (fr j : Nat) : Int := (List.range' fr (j - fr)).foldl (fun b i => zLess b (zBestI ms kd k (ids ++ [mid ms i]) (i + 1))) (-1)
theorem zBestI_succ (ms : List Mk) (kd : Int) (k : Nat) (ids : List Int) (fr : Nat) : zBestI ms kd (k + 1) ids fr = zBestTo ms kd k ids fr ms.length := rfl
theorem zBestTo_start (ms : List Mk) (kd : Int) (k : Nat) (ids : List Int) (fr : Nat) : zBestTo ms kd k ids fr fr = -1 := by simp [zBestTo]
theorem zBestTo_next (ms : List Mk) (kd : Int) (k : Nat) (ids : List Int) (fr j : Nat) (h : fr ≤ j) : zBestTo ms kd k ids fr (j + 1) = zLess (zBestTo ms kd k ids fr j) (zBestI ms kd k (ids ++ [mid ms j]) (j + 1)) := by
  unfold zBestTo
  rw [show j + 1 - fr = (j - fr) + 1 by omega, List.range'_concat, List.foldl_append]
  simp only [Nat.one_mul, List.foldl_cons, List.foldl_nil]
  rw [show fr + (j - fr) = j by omega]
theorem zLess_bd {b r : Int} (h1 : -1 ≤ b) (h2 : b ≤ 16000000) (h4 : r ≤ 16000000) : -1 ≤ zLess b r ∧ zLess b r ≤ 16000000 := by unfold zLess; split <;> omega
theorem fold_bd (g : Nat → Int) (hg : ∀ i, g i ≤ 16000000) (L : List Nat) : ∀ b : Int, -1 ≤ b → b ≤ 16000000 → -1 ≤ L.foldl (fun b i => zLess b (g i)) b ∧ L.foldl (fun b i => zLess b (g i)) b ≤ 16000000 := by
  induction L with
  | nil => intro b h1 h2; exact ⟨h1, h2⟩
  | cons x L ih => intro b h1 h2; have := zLess_bd h1 h2 (hg x); exact ih _ this.1 this.2
theorem zBestI_bd (ms : List Mk) (kd : Int) (k : Nat) : ∀ (ids : List Int) (fr : Nat), -1 ≤ zBestI ms kd k ids fr ∧ zBestI ms kd k ids fr ≤ 16000000 := by
  induction k with
  | zero => intro ids fr; have := zRadI_bd ms kd ids ms.length; show -1 ≤ maxTo (zNearF ms kd ids) ms.length ∧ maxTo (zNearF ms kd ids) ms.length ≤ 16000000; omega
  | succ k ih => intro ids fr; exact fold_bd _ (fun i => (ih _ _).2) _ _ (by omega) (by omega)
theorem zBestTo_bd (ms : List Mk) (kd : Int) (k : Nat) (ids : List Int) (fr j : Nat) : -1 ≤ zBestTo ms kd k ids fr j ∧ zBestTo ms kd k ids fr j ≤ 16000000 :=
  fold_bd _ (fun _ => (zBestI_bd _ _ _ _ _).2) _ _ (by omega) (by omega)
theorem fold_congr (f g : Nat → Int) (L : List Nat) (h : ∀ i ∈ L, f i = g i) : ∀ b : Int, L.foldl (fun b i => zLess b (f i)) b = L.foldl (fun b i => zLess b (g i)) b := by
  induction L with
  | nil => intro b; rfl
  | cons x L ih => intro b; simp only [List.foldl_cons]; rw [h x (List.mem_cons_self ..)]; exact ih (fun i hi => h i (List.mem_cons_of_mem _ hi)) _
theorem found_snoc {ms : List Mk} (h : marksB ms = true) {ids : List Int} (hf : ∀ id ∈ ids, 0 ≤ zFind ms id) {i : Nat} (hi : i < ms.length) : ∀ id ∈ ids ++ [mid ms i], 0 ≤ zFind ms id := fun id hid => by
  rcases List.mem_append.1 hid with h1 | h1
  · exact hf id h1
  · simp at h1
    rw [h1, (zFind_mid h hi).1]
    omega
theorem zBestI_eq {ms : List Mk} (h : marksB ms = true) (kd : Int) (hk : kindB kd = true) (k : Nat) : ∀ (ids : List Int) (fr : Nat), (∀ id ∈ ids, 0 ≤ zFind ms id) → zBestI ms kd k ids fr = zBest (zD ms kd) ms.length k (ids.map (zIdx ms)) fr := by
  induction k with
  | zero => intro ids fr hf; exact zRadI_eq h kd hk ids hf
  | succ k ih =>
    intro ids fr hf
    refine fold_congr _ _ _ (fun i hi => ?_) _
    have hi' := List.mem_range'_1.1 hi
    have hlt : i < ms.length := by omega
    rw [ih _ _ (found_snoc h hf hlt), List.map_append]
    simp only [List.map_cons, List.map_nil]
    rw [(zFind_mid h hlt).2]

theorem view_src {w : World} {ao : Option Addr} {xs : List Int} (h : View w ao xs) : SrcAt w 1 ao xs.length (xs.map (Value.int .i64)) :=
  ⟨by simp, fun u hu => by obtain ⟨x, _, rfl⟩ := List.mem_map.1 hu; rfl, by
    rcases h with rfl | ⟨b, off, rfl, hb, hs⟩
    · exact Or.inl rfl
    · refine Or.inr ⟨_, rfl, fun j u hu => ?_⟩
      rw [Go.WideShapes.add_plain]
      have hj : j < xs.length := by
        rcases Nat.lt_or_ge j xs.length with h1 | h1
        · exact h1
        · rw [List.getElem?_eq_none (by simpa using h1)] at hu; cases hu
      have e : (xs.map (Value.int .i64))[j]? = some (.int .i64 (nth xs j)) := by simp [nth, List.getD, hj]
      rw [e] at hu
      injection hu with hu
      rw [← hu]
      exact hs j hj⟩
theorem one_srcI {w : World} {n : Nat} {v : Int} (hb : w.heap[n]? = some (.cells #[.int .i64 v] 2 (0, 0))) : SrcAt w 1 (some ⟨n, 0, none⟩) 1 [.int .i64 v] :=
  ⟨rfl, fun u hu => by simp at hu; subst hu; rfl, Or.inr ⟨_, rfl, World.news_of_block (cs := #[.int .i64 v]) hb⟩⟩
theorem lit_two {base : Nat} (w3 : World) (X : Obj) (hb : base ≤ w3.heap.size) : ((w3.alloc X).alloc (.cells #[] 2)).drew.ownsRow base 2 1 (.slice (some ⟨w3.heap.size + 1, 0, none⟩) 0 0) 0 [] := by
  have := World.ownsRow_lit (base := base) (e := 2) (size := 1) (w3.alloc X) #[] 0 (by simp; omega) (Nat.zero_le _) rfl
  rw [show (w3.alloc X).heap.size = w3.heap.size + 1 by simp] at this
  exact World.ownsRow.drew this
theorem zCellOf {w w' : World} {b j : Nat} {v : Value} (hq : b < w.heap.size) (e : w.cell? ⟨b, j, none⟩ = some v) (L : Below w.heap.size w w') : w'.cell? ⟨b, j, none⟩ = some v ∧ Below w.heap.size w w' :=
  ⟨(L.cell (p := ⟨b, j, none⟩) hq).trans e, L⟩
theorem zLess_take {b r : Int} (h1 : ¬ r < 0) (h2 : b < 0) : zLess b r = r := by unfold zLess; rw [if_pos (by omega)]
theorem zLess_less {b r : Int} (h1 : ¬ r < 0) (h2 : r < b) : zLess b r = r := by unfold zLess; rw [if_pos (by omega)]
theorem zLess_stay {b r : Int} (h2 : ¬ b < 0) (h3 : ¬ r < b) : zLess b r = b := by unfold zLess; rw [if_neg (by omega)]
theorem zLess_none {b r : Int} (h1 : r < 0) : zLess b r = b := by unfold zLess; rw [if_neg (by omega)]

set_option maxRecDepth 100000 in
set_option maxHeartbeats 4000000 in
theorem sBest (ao : Option Addr) (cap : Nat) (ms : List Mk) (kd : Int) (hm : marksB ms = true) (hsm : MSmall ms) (k : Nat) :
    ∀ (ids : List Int) (fr : Nat) (ai : Option Addr) (ci : Nat) (w : World), MView w ao ms → View w ai ids → (∀ id ∈ ids, 0 ≤ zFind ms id) → fr ≤ ms.length → ids.length + k ≤ 1000 →
    Calls Try.prog 46 #[.slice ao ms.length cap, .slice ai ids.length ci, .int .i64 fr, .int .i64 k, .int .i64 kd] w fun e w' => e = .returned (.int .i64 (zBestI ms kd k ids fr)) ∧ Below w.heap.size w w' := by
  induction k with
  | zero =>
    intro ids fr ai ci w hv hi hf hfr hkl
    have HCR := hidP (sRad11 ao ai cap ci ms ids kd w hv hi hsm (by omega) hf)
    have HV : Hid (zBestI ms kd 0 ids fr = zRadI ms kd ids) := rfl
    clear hv hi hf hsm hm
    go_enter Try.func46, Try.ntmps46
    go_wp2_with fail
    refine HCR.out.mono ?_
    rintro e w3 ⟨rfl, n3, rfl⟩
    go_wp2_with fail
    go_ret
    exact ⟨ret_int HV.out.symm, below_drewN (Below.refl _ _) n3⟩
  | succ k ih =>
    intro ids fr ai ci w hv hi hf hfr hkl
    have IH := hidP ih
    have HF := hidP hf
    have HM := hidP hm
    have HSM := hidP hsm
    have HV0 := hidP hv
    have HI0 := hidP hi
    have hn60 := marksB_len hm
    have HV := hidP (zBestI_succ ms kd k ids fr)
    have H0 := hidP (zBestTo_start ms kd k ids fr)
    have hk1 : (((k + 1 : Nat) : Int) == 0) = false := by simp; omega
    have hk2 : (((k : Int) + 1) == 0) = false := by simp; omega
    have hk3 : IntKind.i64.wrap ((k : Int) + 1 - 1) = k := by rw [IntWalk.i64_in _ ⟨by omega, by omega⟩]; omega
    have hk4 : IntKind.i64.wrap (k : Int) = k := IntWalk.i64_in _ ⟨by omega, by omega⟩
    obtain ⟨i0, hi0, hz0, hz1, hz2⟩ := info_parts Try.info2
    clear hv hi hf hsm hm ih
    go_enter Try.func46, Try.ntmps46
    go_wp2_with fail
    go_loopw [11, 12] (fun s i wr => ∃ j : Nat, fr ≤ j ∧ j ≤ ms.length ∧ i = .int .i64 j ∧ s = .int .i64 (zBestTo ms kd k ids fr j) ∧ Below w.heap.size w wr) (fun _ i _ => ms.length - (intOf i).toNat)
    case atStart => exact ⟨fr, Nat.le_refl _, hfr, rfl, by rw [H0.out], Below.refl _ _⟩
    case round =>
      obtain ⟨j, hj1, hj2, rfl, rfl, L⟩ := hrel
      have HL := hidP L
      by_cases hlt : j < ms.length
      · have hvw := HV0.out.next L
        have HVW := hidP hvw
        have HIW := hidP (View.next HI0.out L)
        obtain ⟨b, off, rfl, hb, hs⟩ := MSeg.seg hvw (by omega)
        have e0 := (hs.at hlt).1
        have HN := hidP (zBestTo_next ms kd k ids fr j hj1)
        have hbd := zBestTo_bd ms kd k ids fr j
        have hbd2 := zBestI_bd ms kd k (ids ++ [mid ms j]) (j + 1)
        have HSN := hidP (found_snoc HM.out HF.out hlt)
        have hj0 : (0 : Int) ≤ (j : Int) := Int.natCast_nonneg _
        have hj3 : (j : Int) < (ms.length : Int) := by omega
        have hwj : IntKind.i64.wrap ((j : Int) + 1) = ((j + 1 : Nat) : Int) := by rw [IntWalk.i64_in _ ⟨by omega, by omega⟩]; omega
        have HVT : Hid (∀ w', Below wr.heap.size wr w' → SrcAt w' 1 ai ids.length (ids.map (Value.int .i64))) := fun w' L => view_src (View.next HIW.out L)
        have HCL : Hid (∀ (W : World) (g c : Nat), Below wr.heap.size wr W → W.ownsRow wr.heap.size 2 1 (.slice (some ⟨g, 0, none⟩) (ids.length + 1) c) (ids.length + 1) (ids.map (Value.int .i64) ++ [.int .i64 (mid ms j)]) →
            Calls Try.prog 46 #[.slice (some ⟨b, off, none⟩) ms.length cap, .slice (some ⟨g, 0, none⟩) (ids.length + 1) c, .int .i64 ((j + 1 : Nat) : Int), .int .i64 k, .int .i64 kd] W fun e w' => e = .returned (.int .i64 (zBestI ms kd k (ids ++ [mid ms j]) (j + 1))) ∧ Below W.heap.size W w') := fun W g c LW hown => by
          have hrow : IRow wr.heap.size W g c (ids ++ [mid ms j]) := IRow.of hown (by simp) (by simp)
          have h := IH.out (ids ++ [mid ms j]) (j + 1) (some ⟨g, 0, none⟩) c W (HVW.out.next LW) hrow.view HSN.out (by omega) (by simp; omega)
          simpa using h
        generalize zBestI ms kd k (ids ++ [mid ms j]) (j + 1) = R at *
        generalize mid ms j = x at *
        clear L hvw hs IH
        go_wp2_with fail
        go_region_held3 (fun w' => w'.cell? ⟨b, off + j * 2, none⟩ = some (.int .i64 x) ∧ Below wr.heap.size wr w')
          (first
            | exact ⟨e0, (Below.refl _ _).drew⟩
            | exact zCellOf hb e0 LwC
            | exact zCellOf hb e0 LwB
            | exact zCellOf hb e0 (LwA.alloc (by omega) _)
            | exact zCellOf hb e0 LwA
            | exact zCellOf hb e0 ((Below.refl _ _).alloc (Nat.le_refl _) _).drew
            | exact zCellOf hb e0 (((Below.refl _ _).alloc (Nat.le_refl _) _).alloc (by simp) _).drew)
          (first
            | (refine step_append_at _ (by rfl) (.tmp 28) (.tmp 29) 28 (by rfl) wr.heap.size 2 i0 _ 1 8 Try.underlying28 hi0 hz0 hz1 hz2 rfl (by omega) wr.heap.size 0 0 [] (by rfl) (World.ownsRow.drew (World.ownsRow_lit wr #[] 0 (Nat.le_refl _) (Nat.zero_le _) rfl)) ai ids.length ci (ids.map (Value.int .i64)) (by rfl) (HVT.out _ ((Below.refl _ _).alloc (Nat.le_refl _) _).drew) (by unfold maxLen; omega) (by omega) (by simp) (wr.heap.size + 1) (by simp) ?_; intro gA cA wA hoA hgA haA hlA; try rw [Nat.zero_add]; have LwA : Below wr.heap.size wr wA := ((Below.refl _ _).alloc (Nat.le_refl _) _).drew.grown hgA (by simp) (by intro q hq; cases hq; exact Nat.le_refl _); have hA : wr.heap.size ≤ gA := (by omega); have hoA2 : wA.ownsRow wr.heap.size 2 1 (.slice (some ⟨gA, 0, none⟩) ids.length cA) ids.length (ids.map (Value.int .i64)) := (by simpa using hoA))
            | (refine step_append_at _ (by rfl) (.tmp 28) (.tmp 29) 28 (by rfl) wr.heap.size 2 i0 _ 1 8 Try.underlying28 hi0 hz0 hz1 hz2 rfl (by omega) wr.heap.size 0 0 [] (by rfl) (World.ownsRow.drew (World.ownsRow.alloc (World.ownsRow_lit wr #[] 0 (Nat.le_refl _) (Nat.zero_le _) rfl) _)) ai ids.length ci (ids.map (Value.int .i64)) (by rfl) (HVT.out _ (((Below.refl _ _).alloc (Nat.le_refl _) _).alloc (by simp) _).drew) (by unfold maxLen; omega) (by omega) (by simp; omega) (wr.heap.size + 1 + 1) (by simp) ?_; intro gA cA wA hoA hgA haA hlA; try rw [Nat.zero_add]; have LwA : Below wr.heap.size wr wA := (((Below.refl _ _).alloc (Nat.le_refl _) _).alloc (by simp) _).drew.grown hgA (by simp; omega) (by intro q hq; cases hq; exact Nat.le_refl _); have hA : wr.heap.size ≤ gA := (by omega); have hoA2 : wA.ownsRow wr.heap.size 2 1 (.slice (some ⟨gA, 0, none⟩) ids.length cA) ids.length (ids.map (Value.int .i64)) := (by simpa using hoA); have hX : wA.heap[wr.heap.size + 1]? = some (.cells #[.int .i64 x] 2 (0, 0)) := put_two hgA)
            | (refine step_append_at _ (by rfl) (.tmp 28) (.tmp 29) 28 (by rfl) wr.heap.size 2 i0 _ 1 8 Try.underlying28 hi0 hz0 hz1 hz2 rfl (by omega) (wr.heap.size + 1) 0 0 [] (by rfl) (lit_two wr _ (Nat.le_refl _)) ai ids.length ci (ids.map (Value.int .i64)) (by rfl) (HVT.out _ (((Below.refl _ _).alloc (Nat.le_refl _) _).alloc (by simp) _).drew) (by unfold maxLen; omega) (by omega) (by simp; omega) (wr.heap.size + 1 + 1) (by simp) ?_; intro gA cA wA hoA hgA haA hlA; try rw [Nat.zero_add]; have LwA : Below wr.heap.size wr wA := (((Below.refl _ _).alloc (Nat.le_refl _) _).alloc (by simp) _).drew.grown hgA (by simp; omega) (by intro q hq; cases hq; omega); have hA : wr.heap.size ≤ gA := (by omega); have hoA2 : wA.ownsRow wr.heap.size 2 1 (.slice (some ⟨gA, 0, none⟩) ids.length cA) ids.length (ids.map (Value.int .i64)) := (by simpa using hoA); have hX : wA.heap[wr.heap.size]? = some (.cells #[.int .i64 x] 2 (0, 0)) := put_one hgA)
            | (refine step_append_at _ (by rfl) (.tmp 30) (.tmp 36) 28 (by rfl) wr.heap.size 2 i0 _ 1 8 Try.underlying28 hi0 hz0 hz1 hz2 rfl (by omega) gA ids.length cA (ids.map (Value.int .i64)) (by rfl) hoA2 (some ⟨_, 0, none⟩) 1 1 [.int .i64 x] (by rfl) (one_srcI hX) (by unfold maxLen; omega) (by omega) (by have := LwA.size; omega) wA.heap.size (by rfl) ?_; intro gB cB wB hoB hgB haB hlB; have LwB : Below wr.heap.size wr wB := LwA.grown hgB LwA.size (by intro q hq; cases hq; exact hA))
            | (refine step_append_at _ (by rfl) (.tmp 30) (.tmp 36) 28 (by rfl) wr.heap.size 2 i0 _ 1 8 Try.underlying28 hi0 hz0 hz1 hz2 rfl (by omega) gA ids.length cA (ids.map (Value.int .i64)) (by rfl) (World.ownsRow.alloc hoA2 _) (some ⟨wA.heap.size, 0, none⟩) 1 1 [.int .i64 x] (by rfl) (one_srcI (heap_alloc_new wA _)) (by unfold maxLen; omega) (by omega) (by have := LwA.size; simp; omega) (wA.heap.size + 1) (by simp) ?_; intro gB cB wB hoB hgB haB hlB; have LwB : Below wr.heap.size wr wB := (LwA.alloc LwA.size _).grown hgB (by have := LwA.size; simp; omega) (by intro q hq; cases hq; exact hA))
            | (go_at_call 46; refine (HCL.out _ _ _ LwB hoB).mono ?_; rintro e wC ⟨rfl, LC⟩; have LwC : Below wr.heap.size wr wC := chain LwB LC))
        all_goals
          have HLF := hidP (chain HL.out LwC)
          clear LwC LC LwB hoB hgB haB hlB LwA hA hoA2 hoA hgA haA hlA HVT HCL HL HVW HIW e0
          try clear hX
          generalize zBestTo ms kd k ids fr j = B0 at *
          by_cases hr : R < 0
          · have HE := hidP (HN.out.trans (zLess_none hr))
            have hg : ¬ (R ≥ 0) := by omega
            go_wp2_with fail
            go_roundw
            case rel => exact ⟨j + 1, by omega, by omega, by go_num, by rw [HE.out], HLF.out⟩
            case measure => simp [intOf]; omega
          · have hg : R ≥ 0 := by omega
            by_cases hb0 : B0 < 0
            · have HE := hidP (HN.out.trans (zLess_take hr hb0))
              go_wp2_with fail
              go_roundw
              case rel => exact ⟨j + 1, by omega, by omega, by go_num, by rw [HE.out], HLF.out⟩
              case measure => simp [intOf]; omega
            · by_cases hlb : R < B0
              · have HE := hidP (HN.out.trans (zLess_less hr hlb))
                go_wp2_with fail
                go_roundw
                case rel => exact ⟨j + 1, by omega, by omega, by go_num, by rw [HE.out], HLF.out⟩
                case measure => simp [intOf]; omega
              · have HE := hidP (HN.out.trans (zLess_stay hb0 hlb))
                go_wp2_with fail
                go_roundw
                case rel => exact ⟨j + 1, by omega, by omega, by go_num, by rw [HE.out], HLF.out⟩
                case measure => simp [intOf]; omega
      · obtain rfl : j = ms.length := by omega
        clear L
        go_wp2_with fail
        go_ret
        exact ⟨ret_int HV.out.symm, HL.out⟩

end Go.Proofs.Ytpcclaehcmnngaa
