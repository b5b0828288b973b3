/-
  The given Within and Merged.
  The laws' own helpers over rows of hits: szHitS, toHitS (a copy), eqHitS and likeHits (are two alike), markHitS and heldHitS (what is written is held).
-/
import Derived.Test.YtfbhohpbhjlihaaGreatNearZz
import Derived.Test.YtfbhohpbhjlihaaGreatMRowZz
import Derived.Test.YtfbhohpbhjlihaaGreatMSizeZz
namespace Go.Proofs.YtfbhohpbhjlihaaGreat
open Go Go.RowKit

def keepL (ss : List Ht) (most : Int) (k : Nat) : List Ht := (ss.take k).filter (fun h => decide (h.2 ≤ most))
theorem take_snoc {ss : List Ht} {k : Nat} (hk : k < ss.length) : ss.take (k + 1) = ss.take k ++ [hnth ss k] := by
  rw [List.take_add_one]; congr 1; simp [hnth, List.getD, hk]
theorem keepL_yes {ss : List Ht} {most : Int} {k : Nat} (hk : k < ss.length) (h : (hnth ss k).2 ≤ most) : keepL ss most (k + 1) = keepL ss most k ++ [hnth ss k] := by
  unfold keepL; rw [take_snoc hk, List.filter_append]; simp [h]
theorem keepL_no {ss : List Ht} {most : Int} {k : Nat} (hk : k < ss.length) (h : ¬ (hnth ss k).2 ≤ most) : keepL ss most (k + 1) = keepL ss most k := by
  unfold keepL; rw [take_snoc hk, List.filter_append]; simp [h]
theorem keepL_le (ss : List Ht) (most : Int) (k : Nat) : (keepL ss most k).length ≤ ss.length := by
  unfold keepL
  exact Nat.le_trans (List.length_filter_le _ _) (by simp; omega)
theorem keepL_all (ss : List Ht) (most : Int) : keepL ss most ss.length = ss.filter (fun h => decide (h.2 ≤ most)) := by unfold keepL; rw [List.take_length]

theorem HSeg.grown {w w' : World} {b : Nat} {hs : List Ht} {r : Option Nat} (h : HSeg w b 0 hs) (hb : b < w.heap.size) (hg : w.grownBy w' r) (hr : some b ≠ r) : HSeg w' b 0 hs := fun i hi =>
  ⟨(World.cell?_of_block (w := w) (a := ⟨b, 0 + i * 2, none⟩) (hg.block b hb hr)).trans (h i hi).1, (World.cell?_of_block (w := w) (a := ⟨b, 0 + i * 2 + 1, none⟩) (hg.block b hb hr)).trans (h i hi).2⟩
theorem HRow.snoc {base : Nat} {w' : World} {gg cc : Nat} {hs : List Ht} {x : Ht} (h : w'.ownsRow base 44 2 (.slice (some ⟨gg, 0, none⟩) (hs.length + 1) cc) (hs.length + 1) (hCells hs ++ [.int .i64 x.1, .int .i64 x.2])) : HRow base w' gg cc (hs ++ [x]) :=
  HRow.of h (by simp) (by rw [hCells_append]; rfl)

def onceSt (s : List Int × List Ht) (x : Ht) : List Int × List Ht := if hasB s.1 x.1 = true then s else (s.1 ++ [x.1], s.2 ++ [x])
def onceK (ss : List Ht) (k : Nat) : List Int × List Ht := (ss.take k).foldl onceSt ([], [])
theorem once_fold (l : List Ht) (ids : List Int) (os : List Ht) : (l.foldl onceSt (ids, os)).2 = os ++ onceG ids l := by
  induction l generalizing ids os with
  | nil => simp [onceG]
  | cons x xs ih =>
    simp only [List.foldl_cons, onceSt, onceG]
    split
    · rw [ih]
    · rw [ih]; simp
theorem onceK_all (ss : List Ht) : (onceK ss ss.length).2 = onceL ss := by unfold onceK onceL; rw [List.take_length, once_fold]; rfl
theorem onceK_next {ss : List Ht} {k : Nat} (hk : k < ss.length) : onceK ss (k + 1) = onceSt (onceK ss k) (hnth ss k) := by
  unfold onceK; rw [take_snoc hk, List.foldl_append]; rfl
theorem onceK_le (ss : List Ht) (k : Nat) : (onceK ss k).1.length = (onceK ss k).2.length ∧ (onceK ss k).2.length ≤ k := by
  induction k with
  | zero => simp [onceK]
  | succ k ih =>
    rcases Nat.lt_or_ge k ss.length with h | h
    · rw [onceK_next h]; unfold onceSt; split
      · omega
      · simp; omega
    · have e : onceK ss (k + 1) = onceK ss k := by unfold onceK; rw [List.take_of_length_le h, List.take_of_length_le (by omega)]
      rw [e]; omega
theorem onceK_has {ss : List Ht} {k : Nat} (hk : k < ss.length) (h : hasB (onceK ss k).1 (hnth ss k).1 = true) : onceK ss (k + 1) = onceK ss k := by rw [onceK_next hk]; simp [onceSt, h]
theorem onceK_new {ss : List Ht} {k : Nat} (hk : k < ss.length) (h : hasB (onceK ss k).1 (hnth ss k).1 = false) : onceK ss (k + 1) = ((onceK ss k).1 ++ [(hnth ss k).1], (onceK ss k).2 ++ [hnth ss k]) := by rw [onceK_next hk]; simp [onceSt, h]
theorem sortL_take {aa : List Ht} {k : Nat} (hk : k < aa.length) : sortL (aa.take (k + 1)) = putL (sortL (aa.take k)) (hnth aa k) := by rw [take_snoc hk, sortL_snoc]
theorem sortL_take2 {aa bb : List Ht} {k : Nat} (hk : k < bb.length) : sortL (aa ++ bb.take (k + 1)) = putL (sortL (aa ++ bb.take k)) (hnth bb k) := by rw [take_snoc hk, ← List.append_assoc, sortL_snoc]
theorem one_int {w : World} {n : Nat} {x : Int} (hb : w.heap[n]? = some (.cells #[.int .i64 x] 2 (0, 0))) : SrcAt w 1 (some ⟨n, 0, none⟩) 1 [.int .i64 x] :=
  ⟨rfl, by simp [Value.oneCell'], Or.inr ⟨_, rfl, World.news_of_block (cs := #[.int .i64 x]) hb⟩⟩
theorem Row.snoc {base : Nat} {w' : World} {gg cc : Nat} {xs : List Int} {x : Int} (h : w'.ownsRow base 2 1 (.slice (some ⟨gg, 0, none⟩) (xs.length + 1) cc) (xs.length + 1) (xs.map (Value.int .i64) ++ [.int .i64 x])) : Row base w' gg cc (xs ++ [x]) := by
  unfold Row; rw [List.length_append, List.length_singleton, List.map_append]; exact h
theorem Row.keptBy {base : Nat} {w w' : World} {g c : Nat} {r : Option Nat} {xs : List Int} (h : Row base w g c xs) (hg : w.grownBy w' r) (hr : some g ≠ r) : Row base w' g c xs :=
  World.ownsRow.kept h hg (Or.inr hr)
theorem Row.start (w : World) (base : Nat) (hb : base ≤ w.heap.size) : Row base (w.alloc (.cells #[] 2)) w.heap.size 0 [] := World.ownsRow_lit w #[] 0 hb (Nat.zero_le _) rfl

/-- What holds of the three rows while each number is taken once. -/
def OnceR (base : Nat) (w : World) (g : Nat) (ss : List Ht) (gi ci : Nat) (ids : List Int) (go co : Nat) (os : List Ht) : Prop :=
  g < w.heap.size ∧ HSeg w g 0 ss ∧ Row base w gi ci ids ∧ HRow base w go co os ∧ gi ≠ g ∧ go ≠ g ∧ gi ≠ go

end Go.Proofs.YtfbhohpbhjlihaaGreat
namespace Go.Proofs.YtfbhohpbhjlihaaGreat
open Go Go.RowKit

theorem hCells_set (l : List Ht) (k : Nat) (x : Ht) : ((hCells l).set (k * 2) (.int .i64 x.1)).set (k * 2 + 1) (.int .i64 x.2) = hCells (l.set k x) := by
  induction l generalizing k with
  | nil => simp [hCells]
  | cons d ds ih =>
    cases k with
    | zero => rfl
    | succ k =>
      rw [show (k + 1) * 2 = k * 2 + 1 + 1 by omega]
      simp only [hCells, List.set_cons_succ, ih]
theorem hCells_rep (n : Nat) : hCells (List.replicate n (0, 0)) = List.replicate (n * 2) (.int .i64 0) := by
  induction n with
  | zero => rfl
  | succ n ih => rw [show (n + 1) * 2 = n * 2 + 1 + 1 by omega]; simp [List.replicate_succ, hCells, ih]
/-- One hit of a row is written over. -/
theorem HRow.store {base : Nat} {w : World} {g c : Nat} {l : List Ht} (h : HRow base w g c l) (k : Nat) (x : Ht) :
    HRow base ((w.setCell ⟨g, k * 2, none⟩ (.int .i64 x.1)).setCell ⟨g, k * 2 + 1, none⟩ (.int .i64 x.2)) g c (l.set k x) := by
  have h1 := (World.ownsRow.stored h (k * 2) (.int .i64 x.1)).1
  have h2 := (World.ownsRow.stored h1 (k * 2 + 1) (.int .i64 x.2)).1
  rw [hCells_set] at h2
  unfold HRow
  rw [List.length_set]
  exact h2
def fillH (hs : List Ht) (k : Nat) : List Ht := hs.take k ++ List.replicate (hs.length - k) (0, 0)
theorem fillH_length (hs : List Ht) (k : Nat) (h : k ≤ hs.length) : (fillH hs k).length = hs.length := by simp [fillH]; omega
theorem fillH_zero (hs : List Ht) : fillH hs 0 = List.replicate hs.length (0, 0) := by simp [fillH]
theorem fillH_all (hs : List Ht) : fillH hs hs.length = hs := by simp [fillH]
theorem fillH_set (hs : List Ht) (k : Nat) (h : k < hs.length) : (fillH hs k).set k (hnth hs k) = fillH hs (k + 1) := by
  unfold fillH
  rw [List.set_append_right _ _ (by simp; omega), take_snoc h, show (hs.take k).length = k by simp; omega, Nat.sub_self]
  rw [show hs.length - k = (hs.length - (k + 1)) + 1 by omega, List.replicate_succ, List.set_cons_zero]
  simp
theorem made_rep (n : Nat) : (madeCells #[.int .i64 0, .int .i64 0] (n * 2)).toList = hCells (List.replicate n (0, 0)) := by
  rw [hCells_rep]
  apply List.ext_getElem
  · simp [size_madeCells]
  · intro i h1 h2
    have hm : i % 2 = 0 ∨ i % 2 = 1 := by omega
    rcases hm with h | h <;> simp [madeCells, h]
theorem HRow.made (w : World) (n : Nat) (hn : n ≤ maxLen) : HRow w.heap.size (w.alloc (.cells (madeCells #[.int .i64 0, .int .i64 0] (n * 2)) 44)) w.heap.size n (List.replicate n (0, 0)) := by
  have h := World.ownsRow_lit (base := w.heap.size) (e := 44) (size := 2) w (madeCells #[.int .i64 0, .int .i64 0] (n * 2)) n (Nat.le_refl _) hn (size_madeCells _ _)
  rw [made_rep] at h
  exact HRow.of h (by simp) rfl

set_option maxHeartbeats 400000 in
theorem eqH (m m' : Ht) (w : World) :
    Calls Tryz.prog 152 #[.agg #[.int .i64 m.1, .int .i64 m.2], .agg #[.int .i64 m'.1, .int .i64 m'.2]] w fun e w' => e = .returned (.bool (decide (m = m'))) ∧ Below w.heap.size w w' := by
  have L0 : Below w.heap.size w ((w.alloc (.cells #[.int .i64 m.1, .int .i64 m.2] 44)).alloc (.cells #[.int .i64 m'.1, .int .i64 m'.2] 44)) :=
    ((Below.refl _ _).alloc (Nat.le_refl _) _).alloc (by simp) _
  by_cases h : m.1 = m'.1
  · have hb : (m.1 != m'.1) = false := by simp [h]
    by_cases h2 : m.2 = m'.2
    · have hb2 : (m.2 != m'.2) = false := by simp [h2]
      have HM := hidP (decide_eq_true (Prod.ext h h2 : m = m'))
      clear h h2
      go_enter Tryz.func152, Tryz.ntmps152
      go_wp2_with fail
      go_ret
      exact ⟨ret_bool HM.out.symm, L0⟩
    · have hb2 : (m.2 != m'.2) = true := by simp [h2]
      have HM := hidP (decide_eq_false (fun e : m = m' => h2 (by rw [e])))
      clear h h2
      go_enter Tryz.func152, Tryz.ntmps152
      go_wp2_with fail
      go_ret
      exact ⟨ret_bool HM.out.symm, L0⟩
  · have hb : (m.1 != m'.1) = true := by simp [h]
    have HM := hidP (decide_eq_false (fun e : m = m' => h (by rw [e])))
    clear h
    go_enter Tryz.func152, Tryz.ntmps152
    go_wp2_with fail
    go_ret
    exact ⟨ret_bool HM.out.symm, L0⟩

set_option maxHeartbeats 400000 in
theorem eqHS_ne (ao ao' : Option Addr) (n n' cap cap' : Nat) (w : World) (h : n ≠ n') :
    Calls Tryz.prog 75 #[.slice ao n cap, .slice ao' n' cap'] w fun e w' => e = .returned (.bool false) ∧ w' = w := by
  have hlb : ((n : Int) != (n' : Int)) = true := by simp; omega
  go_enter Tryz.func75, Tryz.ntmps75
  go_wp2
  go_ret
  exact ⟨rfl, rfl⟩

set_option maxHeartbeats 1000000 in
theorem eqHS_len (ao ao' : Option Addr) (cap cap' : Nat) (ms ns : List Ht) (w : World) (hv : HView w ao ms) (hv' : HView w ao' ns) (hn : ms.length ≤ 4194304) (hl : ms.length = ns.length) :
    Calls Tryz.prog 75 #[.slice ao ms.length cap, .slice ao' ns.length cap'] w fun e w' => e = .returned (.bool (decide (ms = ns))) ∧ Below w.heap.size w w' := by
  have hlb : ((ms.length : Int) != (ns.length : Int)) = false := by simp [hl]
  have HL : Hid (ms.length = ns.length) := hl
  have hn' : ns.length ≤ 4194304 := by omega
  clear hl
  go_enter Tryz.func75, Tryz.ntmps75
  go_wp2
  go_loopw [5] (fun i wr => ∃ k : Nat, k ≤ ms.length ∧ i = .int .i64 k ∧ (∀ j, j < k → hnth ms j = hnth ns j) ∧ Below w.heap.size w wr) (fun i _ => ms.length - (intOf i).toNat)
  case atStart => exact ⟨0, Nat.zero_le _, rfl, fun j hj => by omega, Below.refl _ _⟩
  case round =>
    obtain ⟨k, hk, rfl, hall, L⟩ := hrel
    have HA := hidP hall
    clear hall
    by_cases hlt : k < ms.length
    · have hlt' : k < ns.length := by have := HL.out; omega
      obtain ⟨b, off, rfl, hb, hs⟩ := hv.seg (by omega)
      obtain ⟨b', off', rfl, hb', hs'⟩ := hv'.seg (by omega)
      obtain ⟨hc0, hc1⟩ := (hs.below hb L) k hlt
      obtain ⟨hd0, hd1⟩ := (hs'.below hb' L) k hlt'
      have hi0 : (0 : Int) ≤ (k : Int) := Int.natCast_nonneg _
      have hi1 : (k : Int) < (ms.length : Int) := by omega
      have hi2 : (k : Int) < (ns.length : Int) := by omega
      have hz := L.size
      have hbw : b < wr.heap.size := by omega
      have hbw' : b' < wr.heap.size := by omega
      have HC := hidP (eqH (hnth ms k) (hnth ns k) wr.drew)
      have HLL := hidP L
      clear L hs hs'
      go_wp2
      go_region_held3 (fun w' => w'.cell? ⟨b, off + k * 2, none⟩ = some (.int .i64 (hnth ms k).1) ∧ w'.cell? ⟨b, off + k * 2 + 1, none⟩ = some (.int .i64 (hnth ms k).2) ∧ w'.cell? ⟨b', off' + k * 2, none⟩ = some (.int .i64 (hnth ns k).1) ∧ w'.cell? ⟨b', off' + k * 2 + 1, none⟩ = some (.int .i64 (hnth ns k).2))
        (first
          | go_keep
          | (refine ⟨(L1.cell (p := ⟨b, off + k * 2, none⟩) hbw).trans hc0, (L1.cell (p := ⟨b, off + k * 2 + 1, none⟩) hbw).trans hc1, (L1.cell (p := ⟨b', off' + k * 2, none⟩) hbw').trans hd0, (L1.cell (p := ⟨b', off' + k * 2 + 1, none⟩) hbw').trans hd1⟩))
        (first
          | (go_at_call 152; refine HC.out.mono ?_; rintro e w1 ⟨rfl, L1⟩))
      have LF := hidP (HLL.out.drew.trans (L1.mono hz))
      clear L1
      by_cases he : hnth ms k = hnth ns k
      · have heb : decide (hnth ms k = hnth ns k) = true := by simp [he]
        have HE := hidP he
        clear he
        generalize decide (hnth ms k = hnth ns k) = d at *
        subst heb
        go_wp2
        go_roundw
        case rel => exact ⟨k + 1, by omega, by go_num, fun j hj => by
          rcases Nat.lt_or_ge j k with h | h
          · exact HA.out j h
          · rw [show j = k by omega]; exact HE.out, LF.out⟩
        case measure => simp [intOf]; omega
      · have heb : decide (hnth ms k = hnth ns k) = false := by simp [he]
        have HE := hidP he
        clear he
        generalize decide (hnth ms k = hnth ns k) = d at *
        subst heb
        go_wp2
        go_ret
        exact ⟨ret_bool (Eq.symm (decide_eq_false (fun h => HE.out (by rw [h])))), LF.out⟩
    · go_wp2
      go_ret
      obtain rfl : k = ms.length := by omega
      exact ⟨ret_bool (Eq.symm (decide_eq_true (hs_eq HL.out HA.out))), L⟩

/-- eqHitS: are two alike. -/
theorem eqHS (ao ao' : Option Addr) (cap cap' : Nat) (ms ns : List Ht) (w : World) (hv : HView w ao ms) (hv' : HView w ao' ns) (hn : ms.length ≤ 4194304) :
    Calls Tryz.prog 75 #[.slice ao ms.length cap, .slice ao' ns.length cap'] w fun e w' => e = .returned (.bool (decide (ms = ns))) ∧ Below w.heap.size w w' := by
  by_cases hl : ms.length = ns.length
  · exact eqHS_len ao ao' cap cap' ms ns w hv hv' hn hl
  · refine (eqHS_ne ao ao' ms.length ns.length cap cap' w hl).mono ?_
    rintro e w' ⟨rfl, rfl⟩
    exact ⟨ret_bool (Eq.symm (decide_eq_false (fun h => hl (by rw [h])))), Below.refl _ _⟩

end Go.Proofs.YtfbhohpbhjlihaaGreat
