/-
  The given l11Best and BestRadius: the least radius of any k marks.
  The given Chosen: the first mark, then each time the one farthest from all that are chosen.
  The given Chosen and BestRadius, whole.
-/
import Derived.Test.YtpcclaehcmnngaaZSpecZz
import Derived.Test.YtpcclaehcmnngaaSCellsZz
import Derived.Test.YtpcclaehcmnngaaArgsZz
import Derived.Test.YtpcclaehcmnngaaBMarkZz
import Derived.Deep.RegionHeld3
import Derived.Test.YtpcclaehcmnngaaHSpecZz
namespace Go.Proofs.Ytpcclaehcmnngaa
open Go Go.RowKit

/-- The least radius of these and any k more behind them, by numbers. -/
def zBestI (ms : List Mk) (kd : Int) : Nat → List Int → Nat → Int
  | 0, ids, _ => zRadI ms kd ids
  | k + 1, ids, fr => (List.range' fr (ms.length - fr)).foldl (fun b i => zLess b (zBestI ms kd k (ids ++ [mid ms i]) (i + 1))) (-1)
def zBestTo (ms : List Mk) (kd : Int) (k : Nat) (ids : List Int) (fr j : Nat) : Int := (List.range' fr (j - fr)).foldl (fun b i => zLess b (zBestI ms kd k (ids ++ [mid ms i]) (i + 1))) (-1)
theorem zBestI_succ (ms : List Mk) (kd : Int) (k : Nat) (ids : List Int) (fr : Nat) : zBestI ms kd (k + 1) ids fr = zBestTo ms kd k ids fr ms.length := rfl
theorem zBestTo_start (ms : List Mk) (kd : Int) (k : Nat) (ids : List Int) (fr : Nat) : zBestTo ms kd k ids fr fr = -1 := by simp [zBestTo]
theorem zBestTo_next (ms : List Mk) (kd : Int) (k : Nat) (ids : List Int) (fr j : Nat) (h : fr ≤ j) : zBestTo ms kd k ids fr (j + 1) = zLess (zBestTo ms kd k ids fr j) (zBestI ms kd k (ids ++ [mid ms j]) (j + 1)) := by
  unfold zBestTo
  rw [show j + 1 - fr = (j - fr) + 1 by omega, List.range'_concat, List.foldl_append]
  simp only [Nat.one_mul, List.foldl_cons, List.foldl_nil]
  rw [show fr + (j - fr) = j by omega]
theorem zLess_bd {b r : Int} (h1 : -1 ≤ b) (h2 : b ≤ 16000000) (h4 : r ≤ 16000000) : -1 ≤ zLess b r ∧ zLess b r ≤ 16000000 := by unfold zLess; split <;> omega
theorem fold_bd (g : Nat → Int) (hg : ∀ i, g i ≤ 16000000) (L : List Nat) : ∀ b : Int, -1 ≤ b → b ≤ 16000000 → -1 ≤ L.foldl (fun b i => zLess b (g i)) b ∧ L.foldl (fun b i => zLess b (g i)) b ≤ 16000000 := by
  induction L with
  | nil => intro b h1 h2; exact ⟨h1, h2⟩
  | cons x L ih => intro b h1 h2; have := zLess_bd h1 h2 (hg x); exact ih _ this.1 this.2
theorem zBestI_bd (ms : List Mk) (kd : Int) (k : Nat) : ∀ (ids : List Int) (fr : Nat), -1 ≤ zBestI ms kd k ids fr ∧ zBestI ms kd k ids fr ≤ 16000000 := by
  induction k with
  | zero => intro ids fr; have := zRadI_bd ms kd ids ms.length; show -1 ≤ maxTo (zNearF ms kd ids) ms.length ∧ maxTo (zNearF ms kd ids) ms.length ≤ 16000000; omega
  | succ k ih => intro ids fr; exact fold_bd _ (fun i => (ih _ _).2) _ _ (by omega) (by omega)
theorem zBestTo_bd (ms : List Mk) (kd : Int) (k : Nat) (ids : List Int) (fr j : Nat) : -1 ≤ zBestTo ms kd k ids fr j ∧ zBestTo ms kd k ids fr j ≤ 16000000 :=
  fold_bd _ (fun _ => (zBestI_bd _ _ _ _ _).2) _ _ (by omega) (by omega)
theorem fold_congr (f g : Nat → Int) (L : List Nat) (h : ∀ i ∈ L, f i = g i) : ∀ b : Int, L.foldl (fun b i => zLess b (f i)) b = L.foldl (fun b i => zLess b (g i)) b := by
  induction L with
  | nil => intro b; rfl
  | cons x L ih => intro b; simp only [List.foldl_cons]; rw [h x (List.mem_cons_self ..)]; exact ih (fun i hi => h i (List.mem_cons_of_mem _ hi)) _
theorem found_snoc {ms : List Mk} (h : marksB ms = true) {ids : List Int} (hf : ∀ id ∈ ids, 0 ≤ zFind ms id) {i : Nat} (hi : i < ms.length) : ∀ id ∈ ids ++ [mid ms i], 0 ≤ zFind ms id := fun id hid => by
  rcases List.mem_append.1 hid with h1 | h1
  · exact hf id h1
  · simp at h1
    rw [h1, (zFind_mid h hi).1]
    omega
theorem zBestI_eq {ms : List Mk} (h : marksB ms = true) (kd : Int) (hk : kindB kd = true) (k : Nat) : ∀ (ids : List Int) (fr : Nat), (∀ id ∈ ids, 0 ≤ zFind ms id) → zBestI ms kd k ids fr = zBest (zD ms kd) ms.length k (ids.map (zIdx ms)) fr := by
  induction k with
  | zero => intro ids fr hf; exact zRadI_eq h kd hk ids hf
  | succ k ih =>
    intro ids fr hf
    refine fold_congr _ _ _ (fun i hi => ?_) _
    have hi' := List.mem_range'_1.1 hi
    have hlt : i < ms.length := by omega
    rw [ih _ _ (found_snoc h hf hlt), List.map_append]
    simp only [List.map_cons, List.map_nil]
    rw [(zFind_mid h hlt).2]

theorem view_src {w : World} {ao : Option Addr} {xs : List Int} (h : View w ao xs) : SrcAt w 1 ao xs.length (xs.map (Value.int .i64)) :=
  ⟨by simp, fun u hu => by obtain ⟨x, _, rfl⟩ := List.mem_map.1 hu; rfl, by
    rcases h with rfl | ⟨b, off, rfl, hb, hs⟩
    · exact Or.inl rfl
    · refine Or.inr ⟨_, rfl, fun j u hu => ?_⟩
      rw [Go.WideShapes.add_plain]
      have hj : j < xs.length := by
        rcases Nat.lt_or_ge j xs.length with h1 | h1
        · exact h1
        · rw [List.getElem?_eq_none (by simpa using h1)] at hu; cases hu
      have e : (xs.map (Value.int .i64))[j]? = some (.int .i64 (nth xs j)) := by simp [nth, List.getD, hj]
      rw [e] at hu
      injection hu with hu
      rw [← hu]
      exact hs j hj⟩
theorem one_srcI {w : World} {n : Nat} {v : Int} (hb : w.heap[n]? = some (.cells #[.int .i64 v] 2 (0, 0))) : SrcAt w 1 (some ⟨n, 0, none⟩) 1 [.int .i64 v] :=
  ⟨rfl, fun u hu => by simp at hu; subst hu; rfl, Or.inr ⟨_, rfl, World.news_of_block (cs := #[.int .i64 v]) hb⟩⟩
theorem lit_two {base : Nat} (w3 : World) (X : Obj) (hb : base ≤ w3.heap.size) : ((w3.alloc X).alloc (.cells #[] 2)).drew.ownsRow base 2 1 (.slice (some ⟨w3.heap.size + 1, 0, none⟩) 0 0) 0 [] := by
  have := World.ownsRow_lit (base := base) (e := 2) (size := 1) (w3.alloc X) #[] 0 (by simp; omega) (Nat.zero_le _) rfl
  rw [show (w3.alloc X).heap.size = w3.heap.size + 1 by simp] at this
  exact World.ownsRow.drew this
theorem zCellOf {w w' : World} {b j : Nat} {v : Value} (hq : b < w.heap.size) (e : w.cell? ⟨b, j, none⟩ = some v) (L : Below w.heap.size w w') : w'.cell? ⟨b, j, none⟩ = some v ∧ Below w.heap.size w w' :=
  ⟨(L.cell (p := ⟨b, j, none⟩) hq).trans e, L⟩
theorem zLess_take {b r : Int} (h1 : ¬ r < 0) (h2 : b < 0) : zLess b r = r := by unfold zLess; rw [if_pos (by omega)]
theorem zLess_less {b r : Int} (h1 : ¬ r < 0) (h2 : r < b) : zLess b r = r := by unfold zLess; rw [if_pos (by omega)]
theorem zLess_stay {b r : Int} (h2 : ¬ b < 0) (h3 : ¬ r < b) : zLess b r = b := by unfold zLess; rw [if_neg (by omega)]
theorem zLess_none {b r : Int} (h1 : r < 0) : zLess b r = b := by unfold zLess; rw [if_neg (by omega)]

set_option maxRecDepth 100000 in
set_option maxHeartbeats 4000000 in
theorem sBest (ao : Option Addr) (cap : Nat) (ms : List Mk) (kd : Int) (hm : marksB ms = true) (hsm : MSmall ms) (k : Nat) :
    ∀ (ids : List Int) (fr : Nat) (ai : Option Addr) (ci : Nat) (w : World), MView w ao ms → View w ai ids → (∀ id ∈ ids, 0 ≤ zFind ms id) → fr ≤ ms.length → ids.length + k ≤ 1000 →
    Calls Try.prog 46 #[.slice ao ms.length cap, .slice ai ids.length ci, .int .i64 fr, .int .i64 k, .int .i64 kd] w fun e w' => e = .returned (.int .i64 (zBestI ms kd k ids fr)) ∧ Below w.heap.size w w' := by
  induction k with
  | zero =>
    intro ids fr ai ci w hv hi hf hfr hkl
    have HCR := hidP (sRad11 ao ai cap ci ms ids kd w hv hi hsm (by omega) hf)
    have HV : Hid (zBestI ms kd 0 ids fr = zRadI ms kd ids) := rfl
    clear hv hi hf hsm hm
    go_enter Try.func46, Try.ntmps46
    go_wp2_with fail
    refine HCR.out.mono ?_
    rintro e w3 ⟨rfl, n3, rfl⟩
    go_wp2_with fail
    go_ret
    exact ⟨ret_int HV.out.symm, below_drewN (Below.refl _ _) n3⟩
  | succ k ih =>
    intro ids fr ai ci w hv hi hf hfr hkl
    have IH := hidP ih
    have HF := hidP hf
    have HM := hidP hm
    have HSM := hidP hsm
    have HV0 := hidP hv
    have HI0 := hidP hi
    have hn60 := marksB_len hm
    have HV := hidP (zBestI_succ ms kd k ids fr)
    have H0 := hidP (zBestTo_start ms kd k ids fr)
    have hk1 : (((k + 1 : Nat) : Int) == 0) = false := by simp; omega
    have hk2 : (((k : Int) + 1) == 0) = false := by simp; omega
    have hk3 : IntKind.i64.wrap ((k : Int) + 1 - 1) = k := by rw [IntWalk.i64_in _ ⟨by omega, by omega⟩]; omega
    have hk4 : IntKind.i64.wrap (k : Int) = k := IntWalk.i64_in _ ⟨by omega, by omega⟩
    obtain ⟨i0, hi0, hz0, hz1, hz2⟩ := info_parts Try.info2
    clear hv hi hf hsm hm ih
    go_enter Try.func46, Try.ntmps46
    go_wp2_with fail
    go_loopw [11, 12] (fun s i wr => ∃ j : Nat, fr ≤ j ∧ j ≤ ms.length ∧ i = .int .i64 j ∧ s = .int .i64 (zBestTo ms kd k ids fr j) ∧ Below w.heap.size w wr) (fun _ i _ => ms.length - (intOf i).toNat)
    case atStart => exact ⟨fr, Nat.le_refl _, hfr, rfl, by rw [H0.out], Below.refl _ _⟩
    case round =>
      obtain ⟨j, hj1, hj2, rfl, rfl, L⟩ := hrel
      have HL := hidP L
      by_cases hlt : j < ms.length
      · have hvw := HV0.out.next L
        have HVW := hidP hvw
        have HIW := hidP (View.next HI0.out L)
        obtain ⟨b, off, rfl, hb, hs⟩ := MSeg.seg hvw (by omega)
        have e0 := (hs.at hlt).1
        have HN := hidP (zBestTo_next ms kd k ids fr j hj1)
        have hbd := zBestTo_bd ms kd k ids fr j
        have hbd2 := zBestI_bd ms kd k (ids ++ [mid ms j]) (j + 1)
        have HSN := hidP (found_snoc HM.out HF.out hlt)
        have hj0 : (0 : Int) ≤ (j : Int) := Int.natCast_nonneg _
        have hj3 : (j : Int) < (ms.length : Int) := by omega
        have hwj : IntKind.i64.wrap ((j : Int) + 1) = ((j + 1 : Nat) : Int) := by rw [IntWalk.i64_in _ ⟨by omega, by omega⟩]; omega
        have HVT : Hid (∀ w', Below wr.heap.size wr w' → SrcAt w' 1 ai ids.length (ids.map (Value.int .i64))) := fun w' L => view_src (View.next HIW.out L)
        have HCL : Hid (∀ (W : World) (g c : Nat), Below wr.heap.size wr W → W.ownsRow wr.heap.size 2 1 (.slice (some ⟨g, 0, none⟩) (ids.length + 1) c) (ids.length + 1) (ids.map (Value.int .i64) ++ [.int .i64 (mid ms j)]) →
            Calls Try.prog 46 #[.slice (some ⟨b, off, none⟩) ms.length cap, .slice (some ⟨g, 0, none⟩) (ids.length + 1) c, .int .i64 ((j + 1 : Nat) : Int), .int .i64 k, .int .i64 kd] W fun e w' => e = .returned (.int .i64 (zBestI ms kd k (ids ++ [mid ms j]) (j + 1))) ∧ Below W.heap.size W w') := fun W g c LW hown => by
          have hrow : IRow wr.heap.size W g c (ids ++ [mid ms j]) := IRow.of hown (by simp) (by simp)
          have h := IH.out (ids ++ [mid ms j]) (j + 1) (some ⟨g, 0, none⟩) c W (HVW.out.next LW) hrow.view HSN.out (by omega) (by simp; omega)
          simpa using h
        generalize zBestI ms kd k (ids ++ [mid ms j]) (j + 1) = R at *
        generalize mid ms j = x at *
        clear L hvw hs IH
        go_wp2_with fail
        go_region_held3 (fun w' => w'.cell? ⟨b, off + j * 2, none⟩ = some (.int .i64 x) ∧ Below wr.heap.size wr w')
          (first
            | exact ⟨e0, (Below.refl _ _).drew⟩
            | exact zCellOf hb e0 LwC
            | exact zCellOf hb e0 LwB
            | exact zCellOf hb e0 (LwA.alloc (by omega) _)
            | exact zCellOf hb e0 LwA
            | exact zCellOf hb e0 ((Below.refl _ _).alloc (Nat.le_refl _) _).drew
            | exact zCellOf hb e0 (((Below.refl _ _).alloc (Nat.le_refl _) _).alloc (by simp) _).drew)
          (first
            | (refine step_append_at _ (by rfl) (.tmp 28) (.tmp 29) 28 (by rfl) wr.heap.size 2 i0 _ 1 8 Try.underlying28 hi0 hz0 hz1 hz2 rfl (by omega) wr.heap.size 0 0 [] (by rfl) (World.ownsRow.drew (World.ownsRow_lit wr #[] 0 (Nat.le_refl _) (Nat.zero_le _) rfl)) ai ids.length ci (ids.map (Value.int .i64)) (by rfl) (HVT.out _ ((Below.refl _ _).alloc (Nat.le_refl _) _).drew) (by unfold maxLen; omega) (by omega) (by simp) (wr.heap.size + 1) (by simp) ?_; intro gA cA wA hoA hgA haA hlA; try rw [Nat.zero_add]; have LwA : Below wr.heap.size wr wA := ((Below.refl _ _).alloc (Nat.le_refl _) _).drew.grown hgA (by simp) (by intro q hq; cases hq; exact Nat.le_refl _); have hA : wr.heap.size ≤ gA := (by omega); have hoA2 : wA.ownsRow wr.heap.size 2 1 (.slice (some ⟨gA, 0, none⟩) ids.length cA) ids.length (ids.map (Value.int .i64)) := (by simpa using hoA))
            | (refine step_append_at _ (by rfl) (.tmp 28) (.tmp 29) 28 (by rfl) wr.heap.size 2 i0 _ 1 8 Try.underlying28 hi0 hz0 hz1 hz2 rfl (by omega) wr.heap.size 0 0 [] (by rfl) (World.ownsRow.drew (World.ownsRow.alloc (World.ownsRow_lit wr #[] 0 (Nat.le_refl _) (Nat.zero_le _) rfl) _)) ai ids.length ci (ids.map (Value.int .i64)) (by rfl) (HVT.out _ (((Below.refl _ _).alloc (Nat.le_refl _) _).alloc (by simp) _).drew) (by unfold maxLen; omega) (by omega) (by simp; omega) (wr.heap.size + 1 + 1) (by simp) ?_; intro gA cA wA hoA hgA haA hlA; try rw [Nat.zero_add]; have LwA : Below wr.heap.size wr wA := (((Below.refl _ _).alloc (Nat.le_refl _) _).alloc (by simp) _).drew.grown hgA (by simp; omega) (by intro q hq; cases hq; exact Nat.le_refl _); have hA : wr.heap.size ≤ gA := (by omega); have hoA2 : wA.ownsRow wr.heap.size 2 1 (.slice (some ⟨gA, 0, none⟩) ids.length cA) ids.length (ids.map (Value.int .i64)) := (by simpa using hoA); have hX : wA.heap[wr.heap.size + 1]? = some (.cells #[.int .i64 x] 2 (0, 0)) := put_two hgA)
            | (refine step_append_at _ (by rfl) (.tmp 28) (.tmp 29) 28 (by rfl) wr.heap.size 2 i0 _ 1 8 Try.underlying28 hi0 hz0 hz1 hz2 rfl (by omega) (wr.heap.size + 1) 0 0 [] (by rfl) (lit_two wr _ (Nat.le_refl _)) ai ids.length ci (ids.map (Value.int .i64)) (by rfl) (HVT.out _ (((Below.refl _ _).alloc (Nat.le_refl _) _).alloc (by simp) _).drew) (by unfold maxLen; omega) (by omega) (by simp; omega) (wr.heap.size + 1 + 1) (by simp) ?_; intro gA cA wA hoA hgA haA hlA; try rw [Nat.zero_add]; have LwA : Below wr.heap.size wr wA := (((Below.refl _ _).alloc (Nat.le_refl _) _).alloc (by simp) _).drew.grown hgA (by simp; omega) (by intro q hq; cases hq; omega); have hA : wr.heap.size ≤ gA := (by omega); have hoA2 : wA.ownsRow wr.heap.size 2 1 (.slice (some ⟨gA, 0, none⟩) ids.length cA) ids.length (ids.map (Value.int .i64)) := (by simpa using hoA); have hX : wA.heap[wr.heap.size]? = some (.cells #[.int .i64 x] 2 (0, 0)) := put_one hgA)
            | (refine step_append_at _ (by rfl) (.tmp 30) (.tmp 36) 28 (by rfl) wr.heap.size 2 i0 _ 1 8 Try.underlying28 hi0 hz0 hz1 hz2 rfl (by omega) gA ids.length cA (ids.map (Value.int .i64)) (by rfl) hoA2 (some ⟨_, 0, none⟩) 1 1 [.int .i64 x] (by rfl) (one_srcI hX) (by unfold maxLen; omega) (by omega) (by have := LwA.size; omega) wA.heap.size (by rfl) ?_; intro gB cB wB hoB hgB haB hlB; have LwB : Below wr.heap.size wr wB := LwA.grown hgB LwA.size (by intro q hq; cases hq; exact hA))
            | (refine step_append_at _ (by rfl) (.tmp 30) (.tmp 36) 28 (by rfl) wr.heap.size 2 i0 _ 1 8 Try.underlying28 hi0 hz0 hz1 hz2 rfl (by omega) gA ids.length cA (ids.map (Value.int .i64)) (by rfl) (World.ownsRow.alloc hoA2 _) (some ⟨wA.heap.size, 0, none⟩) 1 1 [.int .i64 x] (by rfl) (one_srcI (heap_alloc_new wA _)) (by unfold maxLen; omega) (by omega) (by have := LwA.size; simp; omega) (wA.heap.size + 1) (by simp) ?_; intro gB cB wB hoB hgB haB hlB; have LwB : Below wr.heap.size wr wB := (LwA.alloc LwA.size _).grown hgB (by have := LwA.size; simp; omega) (by intro q hq; cases hq; exact hA))
            | (go_at_call 46; refine (HCL.out _ _ _ LwB hoB).mono ?_; rintro e wC ⟨rfl, LC⟩; have LwC : Below wr.heap.size wr wC := chain LwB LC))
        all_goals
          have HLF := hidP (chain HL.out LwC)
          clear LwC LC LwB hoB hgB haB hlB LwA hA hoA2 hoA hgA haA hlA HVT HCL HL HVW HIW e0
          try clear hX
          generalize zBestTo ms kd k ids fr j = B0 at *
          by_cases hr : R < 0
          · have HE := hidP (HN.out.trans (zLess_none hr))
            have hg : ¬ (R ≥ 0) := by omega
            go_wp2_with fail
            go_roundw
            case rel => exact ⟨j + 1, by omega, by omega, by go_num, by rw [HE.out], HLF.out⟩
            case measure => simp [intOf]; omega
          · have hg : R ≥ 0 := by omega
            by_cases hb0 : B0 < 0
            · have HE := hidP (HN.out.trans (zLess_take hr hb0))
              go_wp2_with fail
              go_roundw
              case rel => exact ⟨j + 1, by omega, by omega, by go_num, by rw [HE.out], HLF.out⟩
              case measure => simp [intOf]; omega
            · by_cases hlb : R < B0
              · have HE := hidP (HN.out.trans (zLess_less hr hlb))
                go_wp2_with fail
                go_roundw
                case rel => exact ⟨j + 1, by omega, by omega, by go_num, by rw [HE.out], HLF.out⟩
                case measure => simp [intOf]; omega
              · have HE := hidP (HN.out.trans (zLess_stay hb0 hlb))
                go_wp2_with fail
                go_roundw
                case rel => exact ⟨j + 1, by omega, by omega, by go_num, by rw [HE.out], HLF.out⟩
                case measure => simp [intOf]; omega
      · obtain rfl : j = ms.length := by omega
        clear L
        go_wp2_with fail
        go_ret
        exact ⟨ret_int HV.out.symm, HL.out⟩

end Go.Proofs.Ytpcclaehcmnngaa
namespace Go.Proofs.Ytpcclaehcmnngaa
open Go Go.RowKit

def zArgI (D : Nat → Nat → Int) (C : List Nat) (m : Nat) : Int := match zArg D C m with
  | none => -1
  | some b => (b : Int)
theorem zArgI_in {D : Nat → Nat → Int} {C : List Nat} {m : Nat} (h : m ∈ C) : zArgI D C (m + 1) = zArgI D C m := by simp only [zArgI, zArg, if_pos h]
theorem zArgI_first {D : Nat → Nat → Int} {C : List Nat} {m : Nat} (h : ¬ m ∈ C) (h0 : zArg D C m = none) : zArgI D C (m + 1) = m := by simp only [zArgI, zArg, if_neg h, h0]
theorem zArgI_more {D : Nat → Nat → Int} {C : List Nat} {m b : Nat} (h : ¬ m ∈ C) (h0 : zArg D C m = some b) (hl : zNear D b C < zNear D m C) : zArgI D C (m + 1) = m := by simp only [zArgI, zArg, if_neg h, h0, hl, if_true]
theorem zArgI_stay {D : Nat → Nat → Int} {C : List Nat} {m b : Nat} (h : ¬ m ∈ C) (h0 : zArg D C m = some b) (hl : ¬ zNear D b C < zNear D m C) : zArgI D C (m + 1) = zArgI D C m := by simp only [zArgI, zArg, if_neg h, h0, hl, if_false]
theorem has_idx {ms : List Mk} (h : marksB ms = true) {C : List Nat} (hC : ∀ c ∈ C, c < ms.length) {i : Nat} (hi : i < ms.length) : hasB (C.map (mid ms)) (mid ms i) = decide (i ∈ C) := by
  unfold hasB
  by_cases hm : i ∈ C
  · rw [decide_eq_true hm, List.contains_iff_mem]
    exact List.mem_map_of_mem hm
  · rw [decide_eq_false hm]
    rcases hb : (C.map (mid ms)).contains (mid ms i) with _ | _
    · rfl
    · rw [List.contains_iff_mem, List.mem_map] at hb
      obtain ⟨c, hc, e⟩ := hb
      exact absurd (by rw [← zmid_inj h (hC c hc) hi e]; exact hc) hm
theorem chosB_iff (ms : List Mk) (k kd : Int) : chosB ms k kd = true ↔ marksB ms = true ∧ (1 ≤ k ∧ k ≤ ms.length) ∧ kindB kd = true := by simp [chosB, and_assoc]
theorem chosB_false {ms : List Mk} {k kd : Int} (h : ¬ (marksB ms = true ∧ (1 ≤ k ∧ k ≤ ms.length) ∧ kindB kd = true)) : chosB ms k kd = false := by
  rcases hb : chosB ms k kd with _ | _
  · rfl
  · exact absurd ((chosB_iff ms k kd).1 hb) h
theorem choL_no {ms : List Mk} {k kd : Int} (h : chosB ms k kd = false) : choL ms k kd = [] := by rw [choL, h]; rfl
theorem inR_iff (x lo hi : Int) : inR x lo hi = true ↔ lo ≤ x ∧ x ≤ hi := by simp [inR]

/-- The tests that the given Chosen and BestRadius make, decided. -/
inductive CaseB (ms : List Mk) (k kd : Int) : Prop
  | marks (h : marksB ms = false)
  | count (h : marksB ms = true) (h2 : inR k 1 ms.length = false)
  | kind (h : marksB ms = true) (h2 : inR k 1 ms.length = true) (h3 : kindB kd = false)
  | good (h : marksB ms = true) (h2 : inR k 1 ms.length = true) (h3 : kindB kd = true)
theorem caseB (ms : List Mk) (k kd : Int) : CaseB ms k kd := by
  rcases h : marksB ms with _ | _
  · exact .marks h
  · rcases h2 : inR k 1 ms.length with _ | _
    · exact .count h h2
    · rcases h3 : kindB kd with _ | _
      · exact .kind h h2 h3
      · exact .good h h2 h3
theorem chosB_marks {ms : List Mk} {k kd : Int} (h : marksB ms = false) : chosB ms k kd = false := by simp [chosB, h]
theorem chosB_count {ms : List Mk} {k kd : Int} (h : inR k 1 ms.length = false) : chosB ms k kd = false := chosB_false (fun ⟨_, h2, _⟩ => by rw [(inR_iff k 1 ms.length).2 h2] at h; cases h)
theorem chosB_kind {ms : List Mk} {k kd : Int} (h : kindB kd = false) : chosB ms k kd = false := by simp [chosB, h]
theorem chosB_good {ms : List Mk} {k kd : Int} (h : marksB ms = true) (h2 : inR k 1 ms.length = true) (h3 : kindB kd = true) : chosB ms k kd = true := (chosB_iff ms k kd).2 ⟨h, (inR_iff k 1 ms.length).1 h2, h3⟩

set_option maxRecDepth 100000 in
set_option maxHeartbeats 1000000 in
theorem sChosen_no (ao : Option Addr) (cap : Nat) (ms : List Mk) (k kd : Int) (w : World) (hv : MView w ao ms) (hsm : MSmall ms) (hno : chosB ms k kd = false) :
    Calls Try.prog 15 #[.slice ao ms.length cap, .int .i64 k, .int .i64 kd] w fun e w' => ∃ g, e = .returned (.slice (some ⟨g, 0, none⟩) 0 0) ∧ IRow w.heap.size w' g 0 [] ∧ Below w.heap.size w w' := by
  have HC := hidP (sMarks ao cap ms w hv hsm)
  have HI := fun w => hidP (sIn k 1 ms.length w)
  have HK := fun w => hidP (sKind kd w)
  have HE : Hid (∀ w1, (∃ n, w1 = w.drewN n) → IRow w.heap.size (w1.alloc (.cells #[] 2)) w1.heap.size 0 [] ∧ Below w.heap.size w (w1.alloc (.cells #[] 2))) := fun w1 ⟨n, e⟩ => by
    have hz : w1.heap.size = w.heap.size := by rw [e]; rfl
    refine ⟨IRow.start w1 _ (by omega), Below.alloc ?_ (by omega) _⟩
    rw [e]; exact below_drewN (Below.refl _ _) n
  rcases caseB ms k kd with h | ⟨h, h2⟩ | ⟨h, h2, h3⟩ | ⟨h, h2, h3⟩
  · rw [h] at HC
    clear hv hsm hno h
    go_enter Try.func15, Try.ntmps15
    go_wp2_with fail
    refine HC.out.mono ?_
    rintro e w1 ⟨rfl, hw1⟩
    have HX := hidP (HE.out w1 hw1)
    clear hw1 HE
    go_wp2_with fail
    go_ret
    exact ⟨w1.heap.size, rfl, HX.out⟩
  · rw [h] at HC
    rw [h2] at HI
    clear hv hsm hno h h2
    go_enter Try.func15, Try.ntmps15
    go_wp2_with fail
    refine HC.out.mono ?_
    rintro e w1 ⟨rfl, hw1⟩
    have HX := hidP (HE.out w1 hw1)
    clear hw1 HE
    go_wp2_with fail
    refine (HI _).out.mono ?_
    rintro e w2 ⟨rfl, hw2⟩
    subst w2
    go_wp2_with fail
    go_ret
    exact ⟨w1.heap.size, rfl, HX.out⟩
  · rw [h] at HC
    rw [h2] at HI
    rw [h3] at HK
    clear hv hsm hno h h2 h3
    go_enter Try.func15, Try.ntmps15
    go_wp2_with fail
    refine HC.out.mono ?_
    rintro e w1 ⟨rfl, hw1⟩
    have HX := hidP (HE.out w1 hw1)
    clear hw1 HE
    go_wp2_with fail
    refine (HI _).out.mono ?_
    rintro e w2 ⟨rfl, hw2⟩
    subst w2
    go_wp2_with fail
    refine (HK _).out.mono ?_
    rintro e w2 ⟨rfl, hw2⟩
    subst w2
    go_wp2_with fail
    go_ret
    exact ⟨w1.heap.size, rfl, HX.out⟩
  · rw [chosB_good h h2 h3] at hno
    cases hno

theorem zCho_out {ms : List Mk} {kd : Int} {t : Nat} (h : t < ms.length) : ∃ b, zArg (zD ms kd) (zCho (zD ms kd) ms.length t) ms.length = some b ∧ b < ms.length := by
  obtain ⟨j, hj, hn⟩ := zOut (C := zCho (zD ms kd) ms.length t) (n := ms.length) (by rw [(zCho_ok (D := zD ms kd) (n := ms.length) t (by omega)).1]; exact h)
  obtain ⟨b, hb⟩ := zArg_some (D := zD ms kd) hj hn
  have hs := zArg_spec (zD ms kd) (zCho (zD ms kd) ms.length t) ms.length
  rw [hb] at hs
  exact ⟨b, hb, hs.1⟩
theorem zArg_lt {D : Nat → Nat → Int} {C : List Nat} {m b : Nat} (h : zArg D C m = some b) : b < m := by
  have hs := zArg_spec D C m
  rw [h] at hs
  exact hs.1
def sliceLen : Value → Nat
  | .slice _ n _ => n
  | _ => 0
/-- What is chosen, by numbers. -/
def choT (ms : List Mk) (kd : Int) (t : Nat) : List Int := (zCho (zD ms kd) ms.length t).map (mid ms)
theorem choT_len {ms : List Mk} {kd : Int} {t : Nat} (h : t ≤ ms.length) : (choT ms kd t).length = t := by rw [choT, List.length_map]; exact (zCho_ok (D := zD ms kd) (n := ms.length) t h).1
theorem choT_found {ms : List Mk} (hm : marksB ms = true) (kd : Int) {t : Nat} (h : t ≤ ms.length) : ∀ id ∈ choT ms kd t, 0 ≤ zFind ms id := zFind_map hm (zCho_ok (D := zD ms kd) (n := ms.length) t h).2.2
theorem choT_near {ms : List Mk} (hm : marksB ms = true) {kd : Int} (hk : kindB kd = true) {t : Nat} (h : t ≤ ms.length) {i : Nat} (hi : i < ms.length) : zNearI ms kd (mat ms i) (choT ms kd t) = zNear (zD ms kd) i (zCho (zD ms kd) ms.length t) := by
  rw [zNearI_eq hm kd hk hi _ (choT_found hm kd h), choT, zIdx_map hm (zCho_ok (D := zD ms kd) (n := ms.length) t h).2.2]
theorem choT_next {ms : List Mk} {kd : Int} {t b : Nat} (h0 : 0 < t) (hb : zArg (zD ms kd) (zCho (zD ms kd) ms.length t) ms.length = some b) : choT ms kd (t + 1) = choT ms kd t ++ [mid ms b] := by
  rw [choT, zCho_succ h0, hb, List.map_append]; rfl
theorem choT_one (ms : List Mk) (kd : Int) : choT ms kd 1 = [mid ms 0] := by simp [choT, zCho]

set_option maxRecDepth 100000 in
set_option maxHeartbeats 4000000 in
theorem sChosen_in (b off cap : Nat) (ms : List Mk) (k : Nat) (kd : Int) (w : World) (hb : b < w.heap.size) (hs : MSeg w b off ms) (hsm : MSmall ms) (hm : marksB ms = true) (h1 : 1 ≤ k) (hkn : k ≤ ms.length) (hkd : kindB kd = true) :
    Calls Try.prog 15 #[.slice (some ⟨b, off, none⟩) ms.length cap, .int .i64 k, .int .i64 kd] w fun e w' => ∃ g c, e = .returned (.slice (some ⟨g, 0, none⟩) k c) ∧ IRow w.heap.size w' g c (choT ms kd k) ∧ Below w.heap.size w w' := by
  have hn60 := marksB_len hm
  have HC := hidP (sMarks (some ⟨b, off, none⟩) cap ms w (Or.inr ⟨b, off, rfl, hb, hs⟩) hsm)
  rw [hm] at HC
  have HI : ∀ w, Hid _ := fun w => hidP (sIn k 1 ms.length w)
  rw [(inR_iff k 1 ms.length).2 ⟨by omega, by omega⟩] at HI
  have HK : ∀ w, Hid _ := fun w => hidP (sKind kd w)
  rw [hkd] at HK
  have HM := hidP hm
  have HKD := hidP hkd
  have HSM := hidP hsm
  have HS := hidP hs
  have H1 := hidP (choT_one ms kd)
  have hc0 := (hs.at (i := 0) (by omega)).1
  rw [Nat.zero_mul, Nat.add_zero] at hc0
  have hne : ms ≠ [] := by intro h; subst h; simp at hkn; omega
  have hp0 : (0 : Int) < (ms.length : Int) := by omega
  obtain ⟨i0, hi0, hz0, hz1, hz2⟩ := info_parts Try.info2
  clear hs hsm hm hkd
  go_enter Try.func15, Try.ntmps15
  go_wp2_with fail
  refine HC.out.mono ?_
  rintro e w1 ⟨rfl, n1, hw1⟩
  have L1 : Below w.heap.size w w1 := by rw [hw1]; exact below_drewN (Below.refl _ _) n1
  have hc0' := (L1.cell (p := ⟨b, off, none⟩) hb).trans hc0
  clear hw1 HC hc0
  go_wp2_with fail
  refine (HI _).out.mono ?_
  rintro e w2 ⟨rfl, hw2⟩
  subst w2
  go_wp2_with fail
  refine (HK _).out.mono ?_
  rintro e w2 ⟨rfl, hw2⟩
  subst w2
  have HR0 : Hid ((w1.alloc (.cells #[.int .i64 (mid ms 0)] 2)).ownsRow w.heap.size 2 1 (.slice (some ⟨w1.heap.size, 0, none⟩) 1 1) 1 ((choT ms kd 1).map (Value.int .i64))) := by
    show World.ownsRow _ _ _ _ _ _ _
    rw [H1.out]
    exact World.ownsRow_lit w1 #[.int .i64 (mid ms 0)] 1 L1.size (by unfold maxLen; omega) rfl
  have HL1 := hidP (L1.alloc L1.size (.cells #[.int .i64 (mid ms 0)] 2))
  clear L1 HI HK
  go_wp2_with fail
  clear hc0'
  go_loopw [7] (fun v wr => ∃ t g c : Nat, 1 ≤ t ∧ t ≤ k ∧ v = .slice (some ⟨g, 0, none⟩) t c ∧ wr.ownsRow w.heap.size 2 1 (.slice (some ⟨g, 0, none⟩) t c) t ((choT ms kd t).map (Value.int .i64)) ∧ Below w.heap.size w wr) (fun v _ => k - sliceLen v)
  case atStart => exact ⟨1, w1.heap.size, 1, Nat.le_refl _, h1, rfl, HR0.out, HL1.out⟩
  case round =>
    obtain ⟨t, g, c, ht1, htk, rfl, hrow, L⟩ := hrel
    obtain ⟨Wo, hWo⟩ : ∃ Wo, Wo = wr := ⟨_, rfl⟩
    subst hWo
    have HRW := hidP hrow
    have HL := hidP L
    have hgl := World.ownsRow.lt hrow g rfl
    by_cases hlt : t < k
    · obtain ⟨bb, hbb, hbl⟩ := zCho_out (ms := ms) (kd := kd) (t := t) (by omega)
      have HBB := hidP hbb
      have HCL := hidP (choT_len (ms := ms) (kd := kd) (t := t) (by omega))
      have HCF := hidP (choT_found HM.out kd (t := t) (by omega))
      have HCN := hidP (fun i hi => choT_near HM.out HKD.out (t := t) (by omega) (i := i) hi)
      have HCX := hidP (choT_next ht1 hbb)
      have HIN := hidP (zCho_ok (D := zD ms kd) (n := ms.length) t (by omega)).2.2
      have HRV : Hid (View Wo (some ⟨g, 0, none⟩) (choT ms kd t)) := by
        have hr : IRow w.heap.size Wo g c (choT ms kd t) := IRow.of hrow HCL.out.symm rfl
        exact hr.view
      have HSW := hidP (HS.out.below hb (Nat.le_refl _) L)
      have hbw : b < Wo.heap.size := Nat.lt_of_lt_of_le hb L.size
      have HVW : Hid (MView Wo (some ⟨b, off, none⟩) ms) := Or.inr ⟨b, off, rfl, hbw, HSW.out⟩
      clear hrow L hbb
      go_wp2_with fail
      go_loopw [8, 9] (fun s i wr2 => ∃ j : Nat, j ≤ ms.length ∧ i = .int .i64 j ∧ s = .int .i64 (zArgI (zD ms kd) (zCho (zD ms kd) ms.length t) j) ∧ ∃ n, wr2 = Wo.drewN n) (fun _ i _ => ms.length - (intOf i).toNat)
      case atStart => exact ⟨0, Nat.zero_le _, rfl, rfl, 0, rfl⟩
      case round =>
        obtain ⟨j, hj, rfl, rfl, hw⟩ := hrel
        have HW : Hid (∃ n, wr = Wo.drewN n) := hw
        clear hw
        have HSW2 : Hid (MSeg wr b off ms) := by obtain ⟨n, rfl⟩ := HW.out; exact HSW.out
        by_cases hjl : j < ms.length
        · obtain ⟨hd0, ae, ce, hd1, hve⟩ := HSW2.out.at hjl
          have hj0 : (0 : Int) ≤ (j : Int) := Int.natCast_nonneg _
          have hj1 : (j : Int) < (ms.length : Int) := by omega
          have hrv : View wr (some ⟨g, 0, none⟩) (choT ms kd t) := by obtain ⟨n, rfl⟩ := HW.out; exact HRV.out
          have hvw : MView wr (some ⟨b, off, none⟩) ms := by obtain ⟨n, rfl⟩ := HW.out; exact HVW.out
          have HH := hidP (sHas (some ⟨g, 0, none⟩) c (choT ms kd t) (mid ms j) wr hrv (by rw [HCL.out]; omega))
          rw [HCL.out, show hasB (choT ms kd t) (mid ms j) = decide (j ∈ zCho (zD ms kd) ms.length t) from has_idx HM.out HIN.out hjl] at HH
          have HNJ := hidP (fun m => sNear11 (some ⟨b, off, none⟩) ae (some ⟨g, 0, none⟩) cap ce c ms (mat ms j) (choT ms kd t) kd (wr.drewN m) hvw hve hrv HSM.out (HSM.out.2 j) (by rw [HCL.out]; omega) HCF.out)
          rw [HCL.out, HCN.out j hjl] at HNJ
          clear hve
          by_cases hin : j ∈ zCho (zD ms kd) ms.length t
          · rw [decide_eq_true hin] at HH
            have HE := hidP (zArgI_in (D := zD ms kd) hin)
            clear hin hrv hvw HNJ
            go_wp2_with fail
            refine HH.out.mono ?_
            rintro e w3 ⟨rfl, hw3⟩
            subst w3
            go_wp2_with fail
            go_roundw
            case rel => exact ⟨j + 1, by omega, by go_num, by rw [HE.out], HW.out⟩
            case measure => simp [intOf]; omega
          · rw [decide_eq_false hin] at HH
            rcases hz : zArg (zD ms kd) (zCho (zD ms kd) ms.length t) j with _ | ba
            · have HE := hidP (zArgI_first hin hz)
              have e1 : zArgI (zD ms kd) (zCho (zD ms kd) ms.length t) j = -1 := by simp only [zArgI, hz]
              rw [e1]
              clear hin hrv hvw HNJ e1 hz
              go_wp2_with fail
              refine HH.out.mono ?_
              rintro e w3 ⟨rfl, hw3⟩
              subst w3
              go_wp2_with fail
              go_quiet (fail)
              go_wp2_with fail
              go_roundw
              case rel => exact ⟨j + 1, by omega, by go_num, by rw [HE.out], by obtain ⟨n, hn⟩ := HW.out; exact ⟨n + nq, by rw [hn]; simp⟩⟩
              case measure => simp [intOf]; omega
            · have e1 : zArgI (zD ms kd) (zCho (zD ms kd) ms.length t) j = (ba : Int) := by simp only [zArgI, hz]
              have hbal := zArg_lt hz
              obtain ⟨-, af, cf, hf1, hvf⟩ := HSW2.out.at (i := ba) (by omega)
              have HNB := hidP (fun m => sNear11 (some ⟨b, off, none⟩) af (some ⟨g, 0, none⟩) cap cf c ms (mat ms ba) (choT ms kd t) kd (wr.drewN m) hvw hvf hrv HSM.out (HSM.out.2 ba) (by rw [HCL.out]; omega) HCF.out)
              rw [HCL.out, HCN.out ba (by omega)] at HNB
              have hb0 : (0 : Int) ≤ (ba : Int) := Int.natCast_nonneg _
              have hb1 : (ba : Int) < (ms.length : Int) := by omega
              have hgd : decide ((ba : Int) < 0) = false := by simp
              have hgd2 : ¬ ((ba : Int) < 0) := by omega
              have HM1 := hidP (fun h => zArgI_more (D := zD ms kd) hin hz h)
              have HS1 := hidP (fun h => zArgI_stay (D := zD ms kd) hin hz h)
              generalize zNear (zD ms kd) ba (zCho (zD ms kd) ms.length t) = nb at *
              generalize zNear (zD ms kd) j (zCho (zD ms kd) ms.length t) = nj at *
              rw [e1] at HS1 ⊢
              clear hin hrv hvw e1 hz hvf
              by_cases hmore : nb < nj
              · go_wp2_with fail
                refine HH.out.mono ?_
                rintro e w3 ⟨rfl, hw3⟩
                subst w3
                go_wp2_with fail
                go_quiet (first | (go_at_call_of 48 (Value.slice ae (mat ms j).length ce); exact Calls.quiet_of (HNJ.out _)) | (go_at_call_of 48 (Value.slice af (mat ms ba).length cf); exact Calls.quiet_of (HNB.out _)))
                go_wp2_with fail
                go_roundw
                case rel => exact ⟨j + 1, by omega, by go_num, by rw [HM1.out hmore], by obtain ⟨n, hn⟩ := HW.out; exact ⟨n + nq, by rw [hn]; simp⟩⟩
                case measure => simp [intOf]; omega
              · go_wp2_with fail
                refine HH.out.mono ?_
                rintro e w3 ⟨rfl, hw3⟩
                subst w3
                go_wp2_with fail
                go_quiet (first | (go_at_call_of 48 (Value.slice ae (mat ms j).length ce); exact Calls.quiet_of (HNJ.out _)) | (go_at_call_of 48 (Value.slice af (mat ms ba).length cf); exact Calls.quiet_of (HNB.out _)))
                go_wp2_with fail
                go_roundw
                case rel => exact ⟨j + 1, by omega, by go_num, by rw [HS1.out hmore], by obtain ⟨n, hn⟩ := HW.out; exact ⟨n + nq, by rw [hn]; simp⟩⟩
                case measure => simp [intOf]; omega
        · obtain rfl : j = ms.length := by omega
          have e1 : zArgI (zD ms kd) (zCho (zD ms kd) ms.length t) ms.length = (bb : Int) := by simp only [zArgI, HBB.out]
          rw [e1]
          have hd0 := (HSW2.out.at hbl).1
          have hb0 : (0 : Int) ≤ (bb : Int) := Int.natCast_nonneg _
          have hb1 : (bb : Int) < (ms.length : Int) := by omega
          have HOW : Hid (wr.ownsRow w.heap.size 2 1 (.slice (some ⟨g, 0, none⟩) t c) t ((choT ms kd t).map (Value.int .i64))) := by obtain ⟨n, rfl⟩ := HW.out; exact HRW.out
          have HLW : Hid (Below w.heap.size w wr) := by obtain ⟨n, rfl⟩ := HW.out; exact below_drewN HL.out n
          have hz := HLW.out.size
          have hgl2 : w.heap.size ≤ g := hgl.1
          have hgl3 := (World.ownsRow.lt HOW.out g rfl).2
          generalize mid ms bb = x at *
          clear e1
          go_wp2_with (at_builtin; refine wpList_append_lies _ rfl (.tmp 72) (.tmp 78) 28 rfl w.heap.size 2 i0 _ 1 8 Try.underlying28 hi0 hz0 hz1 hz2 rfl (by omega) (.slice (some ⟨g, 0, none⟩) t c) t ((choT ms kd t).map (Value.int .i64)) rfl (World.ownsRow.alloc HOW.out _) ⟨wr.heap.size, 0, none⟩ 1 1 [.int .i64 x] rfl rfl (World.news_of_block (cs := #[.int .i64 x]) (t := 2) (fr := (0, 0)) (heap_alloc_new wr _)) (by simp [Value.oneCell']) (by omega) (by unfold maxLen; omega) (by omega) (by simp; omega) (wr.heap.size + 1) (by simp) ?_; intro gg cc w8 hown hgrow hat8 hlt8)
          go_roundw
          case rel =>
            refine ⟨t + 1, gg, cc, by omega, by omega, rfl, ?_, ?_⟩
            · rw [HCX.out, List.map_append]; exact hown
            · refine (HLW.out.alloc (by omega) _).grown hgrow (by simp; omega) ?_
              intro q hq
              simp [Value.ownBlock] at hq
              omega
          case measure => simp [sliceLen]; omega
    · obtain rfl : t = k := by omega
      have HE : Hid (IRow w.heap.size Wo g c (choT ms kd t)) := IRow.of hrow (choT_len hkn).symm rfl
      clear hrow L
      go_wp2_with fail
      go_ret
      exact ⟨g, c, rfl, HE.out, HL.out⟩

end Go.Proofs.Ytpcclaehcmnngaa
namespace Go.Proofs.Ytpcclaehcmnngaa
open Go Go.RowKit

theorem choL_good {ms : List Mk} {k : Nat} {kd : Int} (h : chosB ms k kd = true) : choL ms k kd = choT ms kd k := by
  rw [choL, if_pos h, Int.toNat_natCast]; rfl
theorem choL_short (ms : List Mk) (k kd : Int) : (choL ms k kd).length ≤ 60 := by
  rcases h : chosB ms k kd with _ | _
  · rw [choL_no h]; simp
  · obtain ⟨hm, ⟨h1, h2⟩, -⟩ := (chosB_iff ms k kd).1 h
    obtain ⟨n, rfl⟩ : ∃ n : Nat, k = n := ⟨k.toNat, by omega⟩
    rw [choL_good h, choT_len (by omega)]
    have := marksB_len hm
    omega

/-- Chosen as given: a row of its own. -/
theorem sChosen (ao : Option Addr) (cap : Nat) (ms : List Mk) (k kd : Int) (w : World) (hv : MView w ao ms) (hsm : MSmall ms) :
    Calls Try.prog 15 #[.slice ao ms.length cap, .int .i64 k, .int .i64 kd] w fun e w' => ∃ g c, e = .returned (.slice (some ⟨g, 0, none⟩) (choL ms k kd).length c) ∧ IRow w.heap.size w' g c (choL ms k kd) ∧ Below w.heap.size w w' := by
  rcases h : chosB ms k kd with _ | _
  · refine (sChosen_no ao cap ms k kd w hv hsm h).mono ?_
    rintro e w' ⟨g, rfl, hr, L⟩
    rw [choL_no h]
    exact ⟨g, 0, rfl, hr, L⟩
  · obtain ⟨hm, ⟨h1, h2⟩, hkd⟩ := (chosB_iff ms k kd).1 h
    obtain ⟨n, rfl⟩ : ∃ n : Nat, k = n := ⟨k.toNat, by omega⟩
    obtain ⟨b, off, rfl, hb, hs⟩ := MSeg.seg hv (by omega)
    refine (sChosen_in b off cap ms n kd w hb hs hsm hm (by omega) (by omega) hkd).mono ?_
    rintro e w' ⟨g, c, rfl, hr, L⟩
    rw [choL_good h]
    exact ⟨g, c, by rw [choT_len (by omega)], hr, L⟩

theorem bradI_no {ms : List Mk} {k kd : Int} (h : bradB ms k kd = false) : bradI ms k kd = -1 := by rw [bradI, h]; rfl
theorem bradB_cho {ms : List Mk} {k kd : Int} (h : chosB ms k kd = false) : bradB ms k kd = false := by simp [bradB, h]
theorem bradB_many {ms : List Mk} {k kd : Int} (h : ¬ ms.length ≤ 8) : bradB ms k kd = false := by simp [bradB]; omega
theorem bradI_good {ms : List Mk} {k : Nat} {kd : Int} (h : chosB ms k kd = true) (h8 : ms.length ≤ 8) : bradI ms k kd = zBestI ms kd k [] 0 := by
  obtain ⟨hm, -, hkd⟩ := (chosB_iff ms k kd).1 h
  rw [bradI, if_pos (by simp [bradB, h, h8]), Int.toNat_natCast, zBestI_eq hm kd hkd k [] 0 (by simp)]
  rfl

set_option maxRecDepth 100000 in
set_option maxHeartbeats 1000000 in
theorem sBestR (ao : Option Addr) (cap : Nat) (ms : List Mk) (k kd : Int) (w : World) (hv : MView w ao ms) (hsm : MSmall ms) :
    Calls Try.prog 13 #[.slice ao ms.length cap, .int .i64 k, .int .i64 kd] w fun e w' => e = .returned (.int .i64 (bradI ms k kd)) ∧ Below w.heap.size w w' := by
  have HC := hidP (sMarks ao cap ms w hv hsm)
  have HI := fun w => hidP (sIn k 1 ms.length w)
  have HK := fun w => hidP (sKind kd w)
  have hn := hsm.1
  have HE : Hid (∀ w1, (∃ n, w1 = w.drewN n) → Below w.heap.size w w1) := fun w1 ⟨n, e⟩ => by rw [e]; exact below_drewN (Below.refl _ _) n
  rcases hm : marksB ms with _ | _
  · have HV := hidP (bradI_no (bradB_cho (k := k) (kd := kd) (chosB_marks hm)))
    rw [hm] at HC
    clear hv hsm hm
    go_enter Try.func13, Try.ntmps13
    go_wp2_with fail
    refine HC.out.mono ?_
    rintro e w1 ⟨rfl, hw1⟩
    have HX := hidP (HE.out w1 hw1)
    clear hw1 HE
    go_wp2_with fail
    go_ret
    exact ⟨ret_int HV.out.symm, HX.out⟩
  · rw [hm] at HC
    by_cases h8 : ms.length ≤ 8
    · have hq8 : ¬ ((ms.length : Int) > 8) := by omega
      rcases caseB ms k kd with h | ⟨h, h2⟩ | ⟨h, h2, h3⟩ | ⟨h, h2, h3⟩
      · rw [hm] at h; cases h
      · have HV := hidP (bradI_no (bradB_cho (k := k) (kd := kd) (chosB_count h2)))
        rw [h2] at HI
        clear hv hsm hm h h2 h8
        go_enter Try.func13, Try.ntmps13
        go_wp2_with fail
        refine HC.out.mono ?_
        rintro e w1 ⟨rfl, hw1⟩
        have HX := hidP (HE.out w1 hw1)
        clear hw1 HE
        go_wp2_with fail
        refine (HI _).out.mono ?_
        rintro e w2 ⟨rfl, hw2⟩
        subst w2
        go_wp2_with fail
        go_ret
        exact ⟨ret_int HV.out.symm, HX.out⟩
      · have HV := hidP (bradI_no (bradB_cho (ms := ms) (k := k) (kd := kd) (chosB_kind h3)))
        rw [h2] at HI
        rw [h3] at HK
        clear hv hsm hm h h2 h8 h3
        go_enter Try.func13, Try.ntmps13
        go_wp2_with fail
        refine HC.out.mono ?_
        rintro e w1 ⟨rfl, hw1⟩
        have HX := hidP (HE.out w1 hw1)
        clear hw1 HE
        go_wp2_with fail
        refine (HI _).out.mono ?_
        rintro e w2 ⟨rfl, hw2⟩
        subst w2
        go_wp2_with fail
        refine (HK _).out.mono ?_
        rintro e w2 ⟨rfl, hw2⟩
        subst w2
        go_wp2_with fail
        go_ret
        exact ⟨ret_int HV.out.symm, HX.out⟩
      · obtain ⟨q1, q2⟩ := (inR_iff k 1 ms.length).1 h2
        obtain ⟨n, rfl⟩ : ∃ n : Nat, k = n := ⟨k.toNat, by omega⟩
        have HV := hidP (bradI_good (chosB_good h h2 h3) h8)
        rw [h2] at HI
        rw [h3] at HK
        have HB : Hid (∀ w1, Below w.heap.size w w1 → Calls Try.prog 46 #[.slice ao ms.length cap, .slice (some ⟨w1.heap.size, 0, none⟩) 0 0, .int .i64 0, .int .i64 n, .int .i64 kd] (w1.alloc (.cells #[] 2)) fun e w' => e = .returned (.int .i64 (zBestI ms kd n [] 0)) ∧ Below w.heap.size w w') := fun w1 L1 => by
          have LA := L1.alloc L1.size (.cells #[] 2)
          refine (sBest ao cap ms kd hm hsm n [] 0 (some ⟨w1.heap.size, 0, none⟩) 0 (w1.alloc (.cells #[] 2)) (hv.next LA) (Or.inl rfl) (by simp) (Nat.zero_le _) (by simp; omega)).mono ?_
          rintro e w' ⟨rfl, L⟩
          exact ⟨rfl, chain LA L⟩
        clear hv hsm hm h h2 h8 h3 q1 q2
        go_enter Try.func13, Try.ntmps13
        go_wp2_with fail
        refine HC.out.mono ?_
        rintro e w1 ⟨rfl, hw1⟩
        have HX := hidP (HE.out w1 hw1)
        clear hw1 HE
        go_wp2_with fail
        refine (HI _).out.mono ?_
        rintro e w2 ⟨rfl, hw2⟩
        subst w2
        go_wp2_with fail
        refine (HK _).out.mono ?_
        rintro e w2 ⟨rfl, hw2⟩
        subst w2
        go_wp2_with fail
        refine (HB.out _ HX.out).mono ?_
        rintro e w3 ⟨rfl, L3⟩
        go_wp2_with fail
        go_ret
        exact ⟨ret_int HV.out.symm, L3⟩
    · have HV := hidP (bradI_no (bradB_many (k := k) (kd := kd) h8))
      have hq8 : ((ms.length : Int) > 8) := by omega
      clear hv hsm hm h8
      go_enter Try.func13, Try.ntmps13
      go_wp2_with fail
      refine HC.out.mono ?_
      rintro e w1 ⟨rfl, hw1⟩
      have HX := hidP (HE.out w1 hw1)
      clear hw1 HE
      go_wp2_with fail
      go_ret
      exact ⟨ret_int HV.out.symm, HX.out⟩

end Go.Proofs.Ytpcclaehcmnngaa
