/-
  The given l11Best and BestRadius: the least radius of any k marks.
  The given Chosen: the first mark, then each time the one farthest from all that are chosen.
-/
import Derived.Test.YtfbindjacmaeoaaZSpecZz
import Derived.Test.YtfbindjacmaeoaaSCellsZz
import Derived.Test.YtfbindjacmaeoaaArgsZz
import Derived.Test.YtfbindjacmaeoaaBMarkZz
import Derived.Deep.RegionHeld3
import Derived.Test.YtfbindjacmaeoaaHSpecZz
namespace Go.Proofs.Ytfbindjacmaeoaa
open Go Go.RowKit

/-- The least radius of these and any k more behind them, by numbers. -/
def zBestI (ms : List Mk) (kd : Int) : Nat → List Int → Nat → Int
  | 0, ids, _ => zRadI ms kd ids
  | k + 1, ids, fr => (List.range' fr (ms.length - fr)).foldl (fun b i => zLess b (zBestI ms kd k (ids ++ [mid ms i]) (i + 1))) (-1)
def zBestTo (ms : List Mk) (kd : Int) (k : Nat) (ids : List Int) (fr j : Nat) : Int := (List.range' fr (j - fr)).foldl (fun b i => zLess b (zBestI ms kd k (ids ++ [mid ms i]) (i + 1))) (-1)
theorem zBestI_succ (ms : List Mk) (kd : Int) (k : Nat) (ids : List Int) (fr : Nat) : zBestI ms kd (k + 1) ids fr = zBestTo ms kd k ids fr ms.length := rfl
theorem zBestTo_start (ms : List Mk) (kd : Int) (k : Nat) (ids : List Int) (fr : Nat) : zBestTo ms kd k ids fr fr = -1 := by simp [zBestTo]
theorem zBestTo_next (ms : List Mk) (kd : Int) (k : Nat) (ids : List Int) (fr j : Nat) (h : fr ≤ j) : zBestTo ms kd k ids fr (j + 1) = zLess (zBestTo ms kd k ids fr j) (zBestI ms kd k (ids ++ [mid ms j]) (j + 1)) := by
  unfold zBestTo
  rw [show j + 1 - fr = (j - fr) + 1 by omega, List.range'_concat, List.foldl_append]
  simp only [Nat.one_mul, List.foldl_cons, List.foldl_nil]
  rw [show fr + (j - fr) = j by omega]
theorem zLess_bd {b r : Int} (h1 : -1 ≤ b) (h2 : b ≤ 16000000) (h4 : r ≤ 16000000) : -1 ≤ zLess b r ∧ zLess b r ≤ 16000000 := by unfold zLess; split <;> omega
theorem fold_bd (g : Nat → Int) (hg : ∀ i, g i ≤ 16000000) (L : List Nat) : ∀ b : Int, -1 ≤ b → b ≤ 16000000 → -1 ≤ L.foldl (fun b i => zLess b (g i)) b ∧ L.foldl (fun b i => zLess b (g i)) b ≤ 16000000 := by
  induction L with
  | nil => intro b h1 h2; exact ⟨h1, h2⟩
  | cons x L ih => intro b h1 h2; have := zLess_bd h1 h2 (hg x); exact ih _ this.1 this.2
theorem zBestI_bd (ms : List Mk) (kd : Int) (k : Nat) : ∀ (ids : List Int) (fr : Nat), -1 ≤ zBestI ms kd k ids fr ∧ zBestI ms kd k ids fr ≤ 16000000 := by
  induction k with
  | zero => intro ids fr; have := zRadI_bd ms kd ids ms.length; show -1 ≤ maxTo (zNearF ms kd ids) ms.length ∧ maxTo (zNearF ms kd ids) ms.length ≤ 16000000; omega
  | succ k ih => intro ids fr; exact fold_bd _ (fun i => (ih _ _).2) _ _ (by omega) (by omega)
theorem zBestTo_bd (ms : List Mk) (kd : Int) (k : Nat) (ids : List Int) (fr j : Nat) : -1 ≤ zBestTo ms kd k ids fr j ∧ zBestTo ms kd k ids fr j ≤ 16000000 :=
  fold_bd _ (fun _ => (zBestI_bd _ _ _ _ _).2) _ _ (by omega) (by omega)
theorem fold_congr (f g : Nat → Int) (L : List Nat) (h : ∀ i ∈ L, f i = g i) : ∀ b : Int, L.foldl (fun b i => zLess b (f i)) b = L.foldl (fun b i => zLess b (g i)) b := by
  induction L with
  | nil => intro b; rfl
  | cons x L ih => intro b; simp only [List.foldl_cons]; rw [h x (List.mem_cons_self ..)]; exact ih (fun i hi => h i (List.mem_cons_of_mem _ hi)) _
theorem found_snoc {ms : List Mk} (h : marksB ms = true) {ids : List Int} (hf : ∀ id ∈ ids, 0 ≤ zFind ms id) {i : Nat} (hi : i < ms.length) : ∀ id ∈ ids ++ [mid ms i], 0 ≤ zFind ms id := fun id hid => by
  rcases List.mem_append.1 hid with h1 | h1
  · exact hf id h1
  · simp at h1
    rw [h1, (zFind_mid h hi).1]
    omega
theorem zBestI_eq {ms : List Mk} (h : marksB ms = true) (kd : Int) (hk : kindB kd = true) (k : Nat) : ∀ (ids : List Int) (fr : Nat), (∀ id ∈ ids, 0 ≤ zFind ms id) → zBestI ms kd k ids fr = zBest (zD ms kd) ms.length k (ids.map (zIdx ms)) fr := by
  induction k with
  | zero => intro ids fr hf; exact zRadI_eq h kd hk ids hf
  | succ k ih =>
    intro ids fr hf
    refine fold_congr _ _ _ (fun i hi => ?_) _
    have hi' := List.mem_range'_1.1 hi
    have hlt : i < ms.length := by omega
    rw [ih _ _ (found_snoc h hf hlt), List.map_append]
    simp only [List.map_cons, List.map_nil]
    rw [(zFind_mid h hlt).2]

theorem view_src {w : World} {ao : Option Addr} {xs : List Int} (h : View w ao xs) : SrcAt w 1 ao xs.length (xs.map (Value.int .i64)) :=
  ⟨by simp, fun u hu => by obtain ⟨x, _, rfl⟩ := List.mem_map.1 hu; rfl, by
    rcases h with rfl | ⟨b, off, rfl, hb, hs⟩
    · exact Or.inl rfl
    · refine Or.inr ⟨_, rfl, fun j u hu => ?_⟩
      rw [Go.WideShapes.add_plain]
      have hj : j < xs.length := by
        rcases Nat.lt_or_ge j xs.length with h1 | h1
        · exact h1
        · rw [List.getElem?_eq_none (by simpa using h1)] at hu; cases hu
      have e : (xs.map (Value.int .i64))[j]? = some (.int .i64 (nth xs j)) := by simp [nth, List.getD, hj]
      rw [e] at hu
      injection hu with hu
      rw [← hu]
      exact hs j hj⟩
theorem one_srcI {w : World} {n : Nat} {v : Int} (hb : w.heap[n]? = some (.cells #[.int .i64 v] 2 (0, 0))) : SrcAt w 1 (some ⟨n, 0, none⟩) 1 [.int .i64 v] :=
  ⟨rfl, fun u hu => by simp at hu; subst hu; rfl, Or.inr ⟨_, rfl, World.news_of_block (cs := #[.int .i64 v]) hb⟩⟩
theorem lit_two {base : Nat} (w3 : World) (X : Obj) (hb : base ≤ w3.heap.size) : ((w3.alloc X).alloc (.cells #[] 2)).drew.ownsRow base 2 1 (.slice (some ⟨w3.heap.size + 1, 0, none⟩) 0 0) 0 [] := by
  have := World.ownsRow_lit (base := base) (e := 2) (size := 1) (w3.alloc X) #[] 0 (by simp; omega) (Nat.zero_le _) rfl
  rw [show (w3.alloc X).heap.size = w3.heap.size + 1 by simp] at this
  exact World.ownsRow.drew this
theorem zCellOf {w w' : World} {b j : Nat} {v : Value} (hq : b < w.heap.size) (e : w.cell? ⟨b, j, none⟩ = some v) (L : Below w.heap.size w w') : w'.cell? ⟨b, j, none⟩ = some v ∧ Below w.heap.size w w' :=
  ⟨(L.cell (p := ⟨b, j, none⟩) hq).trans e, L⟩
theorem zLess_take {b r : Int} (h1 : ¬ r < 0) (h2 : b < 0) : zLess b r = r := by unfold zLess; rw [if_pos (by omega)]
theorem zLess_less {b r : Int} (h1 : ¬ r < 0) (h2 : r < b) : zLess b r = r := by unfold zLess; rw [if_pos (by omega)]
theorem zLess_stay {b r : Int} (h2 : ¬ b < 0) (h3 : ¬ r < b) : zLess b r = b := by unfold zLess; rw [if_neg (by omega)]
theorem zLess_none {b r : Int} (h1 : r < 0) : zLess b r = b := by unfold zLess; rw [if_neg (by omega)]

end Go.Proofs.Ytfbindjacmaeoaa
namespace Go.Proofs.Ytfbindjacmaeoaa
open Go Go.RowKit

def zArgI (D : Nat → Nat → Int) (C : List Nat) (m : Nat) : Int := match zArg D C m with
  | none => -1
  | some b => (b : Int)
theorem zArgI_in {D : Nat → Nat → Int} {C : List Nat} {m : Nat} (h : m ∈ C) : zArgI D C (m + 1) = zArgI D C m := by simp only [zArgI, zArg, if_pos h]
theorem zArgI_first {D : Nat → Nat → Int} {C : List Nat} {m : Nat} (h : ¬ m ∈ C) (h0 : zArg D C m = none) : zArgI D C (m + 1) = m := by simp only [zArgI, zArg, if_neg h, h0]
theorem zArgI_more {D : Nat → Nat → Int} {C : List Nat} {m b : Nat} (h : ¬ m ∈ C) (h0 : zArg D C m = some b) (hl : zNear D b C < zNear D m C) : zArgI D C (m + 1) = m := by simp only [zArgI, zArg, if_neg h, h0, hl, if_true]
theorem zArgI_stay {D : Nat → Nat → Int} {C : List Nat} {m b : Nat} (h : ¬ m ∈ C) (h0 : zArg D C m = some b) (hl : ¬ zNear D b C < zNear D m C) : zArgI D C (m + 1) = zArgI D C m := by simp only [zArgI, zArg, if_neg h, h0, hl, if_false]
theorem has_idx {ms : List Mk} (h : marksB ms = true) {C : List Nat} (hC : ∀ c ∈ C, c < ms.length) {i : Nat} (hi : i < ms.length) : hasB (C.map (mid ms)) (mid ms i) = decide (i ∈ C) := by
  unfold hasB
  by_cases hm : i ∈ C
  · rw [decide_eq_true hm, List.contains_iff_mem]
    exact List.mem_map_of_mem hm
  · rw [decide_eq_false hm]
    rcases hb : (C.map (mid ms)).contains (mid ms i) with _ | _
    · rfl
    · rw [List.contains_iff_mem, List.mem_map] at hb
      obtain ⟨c, hc, e⟩ := hb
      exact absurd (by rw [← zmid_inj h (hC c hc) hi e]; exact hc) hm
theorem chosB_iff (ms : List Mk) (k kd : Int) : chosB ms k kd = true ↔ marksB ms = true ∧ (1 ≤ k ∧ k ≤ ms.length) ∧ kindB kd = true := by simp [chosB, and_assoc]
theorem chosB_false {ms : List Mk} {k kd : Int} (h : ¬ (marksB ms = true ∧ (1 ≤ k ∧ k ≤ ms.length) ∧ kindB kd = true)) : chosB ms k kd = false := by
  rcases hb : chosB ms k kd with _ | _
  · rfl
  · exact absurd ((chosB_iff ms k kd).1 hb) h
theorem choL_no {ms : List Mk} {k kd : Int} (h : chosB ms k kd = false) : choL ms k kd = [] := by rw [choL, h]; rfl
theorem inR_iff (x lo hi : Int) : inR x lo hi = true ↔ lo ≤ x ∧ x ≤ hi := by simp [inR]

/-- The tests that the given Chosen and BestRadius make, decided. -/
inductive CaseB (ms : List Mk) (k kd : Int) : Prop
  | marks (h : marksB ms = false)
  | count (h : marksB ms = true) (h2 : inR k 1 ms.length = false)
  | kind (h : marksB ms = true) (h2 : inR k 1 ms.length = true) (h3 : kindB kd = false)
  | good (h : marksB ms = true) (h2 : inR k 1 ms.length = true) (h3 : kindB kd = true)
theorem caseB (ms : List Mk) (k kd : Int) : CaseB ms k kd := by
  rcases h : marksB ms with _ | _
  · exact .marks h
  · rcases h2 : inR k 1 ms.length with _ | _
    · exact .count h h2
    · rcases h3 : kindB kd with _ | _
      · exact .kind h h2 h3
      · exact .good h h2 h3
theorem chosB_marks {ms : List Mk} {k kd : Int} (h : marksB ms = false) : chosB ms k kd = false := by simp [chosB, h]
theorem chosB_count {ms : List Mk} {k kd : Int} (h : inR k 1 ms.length = false) : chosB ms k kd = false := chosB_false (fun ⟨_, h2, _⟩ => by rw [(inR_iff k 1 ms.length).2 h2] at h; cases h)
theorem chosB_kind {ms : List Mk} {k kd : Int} (h : kindB kd = false) : chosB ms k kd = false := by simp [chosB, h]
theorem chosB_good {ms : List Mk} {k kd : Int} (h : marksB ms = true) (h2 : inR k 1 ms.length = true) (h3 : kindB kd = true) : chosB ms k kd = true := (chosB_iff ms k kd).2 ⟨h, (inR_iff k 1 ms.length).1 h2, h3⟩

theorem zCho_out {ms : List Mk} {kd : Int} {t : Nat} (h : t < ms.length) : ∃ b, zArg (zD ms kd) (zCho (zD ms kd) ms.length t) ms.length = some b ∧ b < ms.length := by
  obtain ⟨j, hj, hn⟩ := zOut (C := zCho (zD ms kd) ms.length t) (n := ms.length) (by rw [(zCho_ok (D := zD ms kd) (n := ms.length) t (by omega)).1]; exact h)
  obtain ⟨b, hb⟩ := zArg_some (D := zD ms kd) hj hn
  have hs := zArg_spec (zD ms kd) (zCho (zD ms kd) ms.length t) ms.length
  rw [hb] at hs
  exact ⟨b, hb, hs.1⟩
theorem zArg_lt {D : Nat → Nat → Int} {C : List Nat} {m b : Nat} (h : zArg D C m = some b) : b < m := by
  have hs := zArg_spec D C m
  rw [h] at hs
  exact hs.1
def sliceLen : Value → Nat
  | .slice _ n _ => n
  | _ => 0
/-- What is chosen, by numbers. -/
def choT (ms : List Mk) (kd : Int) (t : Nat) : List Int := (zCho (zD ms kd) ms.length t).map (mid ms)
theorem choT_len {ms : List Mk} {kd : Int} {t : Nat} (h : t ≤ ms.length) : (choT ms kd t).length = t := by rw [choT, List.length_map]; exact (zCho_ok (D := zD ms kd) (n := ms.length) t h).1
theorem choT_found {ms : List Mk} (hm : marksB ms = true) (kd : Int) {t : Nat} (h : t ≤ ms.length) : ∀ id ∈ choT ms kd t, 0 ≤ zFind ms id := zFind_map hm (zCho_ok (D := zD ms kd) (n := ms.length) t h).2.2
theorem choT_near {ms : List Mk} (hm : marksB ms = true) {kd : Int} (hk : kindB kd = true) {t : Nat} (h : t ≤ ms.length) {i : Nat} (hi : i < ms.length) : zNearI ms kd (mat ms i) (choT ms kd t) = zNear (zD ms kd) i (zCho (zD ms kd) ms.length t) := by
  rw [zNearI_eq hm kd hk hi _ (choT_found hm kd h), choT, zIdx_map hm (zCho_ok (D := zD ms kd) (n := ms.length) t h).2.2]
theorem choT_next {ms : List Mk} {kd : Int} {t b : Nat} (h0 : 0 < t) (hb : zArg (zD ms kd) (zCho (zD ms kd) ms.length t) ms.length = some b) : choT ms kd (t + 1) = choT ms kd t ++ [mid ms b] := by
  rw [choT, zCho_succ h0, hb, List.map_append]; rfl
theorem choT_one (ms : List Mk) (kd : Int) : choT ms kd 1 = [mid ms 0] := by simp [choT, zCho]

end Go.Proofs.Ytfbindjacmaeoaa
