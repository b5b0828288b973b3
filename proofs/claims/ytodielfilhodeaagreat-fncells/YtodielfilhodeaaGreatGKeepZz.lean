/-
  What stays of rows of numbers while other rows are written over.
  Rows of rows of numbers: a row of slices, each with a row of its own; the laws' own helpers eqInt64SS, markInt64SS, heldInt64SS.
  The given Cells.
  The program's Cells.
  Both Crowd: the most that are in one cell.
  Plain mathematics for FnCells: how many are in the cells.
-/
import Derived.Test.YtodielfilhodeaaGreatGInIZz
import Derived.Test.YtodielfilhodeaaGreatMArgsZz
import Derived.Test.YtodielfilhodeaaGreatMathZz
import Derived.Maps.RangeRun
namespace Go.Proofs.YtodielfilhodeaaGreat
open Go Go.RowKit

theorem IRow.same {base : Nat} {w w' : World} {g c : Nat} {xs : List Int} (h : IRow base w g c xs) (e : w'.heap[g]? = w.heap[g]?) : IRow base w' g c xs := by
  obtain ⟨h1, h2⟩ := h
  refine ⟨h1, ?_⟩
  rcases h2 with h2 | ⟨g', cp, cur, e1, h3, h4, h5⟩
  · exact Or.inl h2
  · have hg : g = g' := by injection e1 with e2; injection e2 with e2; injection e2
    subst hg
    exact Or.inr ⟨g, cp, cur, e1, h3, e.trans h4, h5⟩
theorem IOut.same {base : Nat} {w w' : World} {v : Value} {xs : List Int} (h : IOut base w v xs) (e : ∀ i, base ≤ i → i < w.heap.size → w'.heap[i]? = w.heap[i]?) : IOut base w' v xs := by
  rcases h with h | ⟨g, c, e1, hr⟩
  · exact Or.inl h
  · exact Or.inr ⟨g, c, e1, hr.same (e g hr.lt.1 hr.lt.2)⟩
theorem GIn.irow {lo hi base : Nat} {w w' : World} {g c : Nat} {xs : List Int} (h : GIn lo hi w w') (hr : IRow base w g c xs) (hg : g < lo ∨ hi ≤ g) : IRow base w' g c xs := hr.same (h.2.2.2.2 g hr.lt.2 hg)
theorem GIn.iout {lo hi base : Nat} {w w' : World} {v : Value} {xs : List Int} (h : GIn lo hi w w') (ho : IOut base w v xs) (hb : hi ≤ base) : IOut base w' v xs := ho.same fun i h1 h2 => h.2.2.2.2 i h2 (Or.inr (by omega))
theorem ChgV.irow {base : Nat} {w w' : World} {v : Value} {g c : Nat} {xs : List Int} (h : ChgV v w w') (hr : IRow base w g c xs) (hg : ∀ a n d, v = .slice (some a) n d → g ≠ a.block) : IRow base w' g c xs := hr.same (h.2.2.2.2 g hr.lt.2 hg)
theorem below_chgV {w w1 w2 : World} {v : Value} (h : Below w.heap.size w w1) (c : ChgV v w1 w2) (hv : ∀ a n d, v = .slice (some a) n d → w.heap.size ≤ a.block) : Below w.heap.size w w2 :=
  h.trans ⟨c.1, c.2.1, c.2.2.1, c.2.2.2.1, fun k hk => c.2.2.2.2 k (Nat.lt_of_lt_of_le hk h.size) (fun a n d e => by have := hv a n d e; omega)⟩
theorem below_farI {w w1 w2 : World} {r : Option Nat} (h : Below w.heap.size w w1) (hg : w1.grownBy w2 r) (hr : ∀ g, r = some g → w.heap.size ≤ g) : Below w.heap.size w w2 := h.grown hg h.size hr

end Go.Proofs.YtodielfilhodeaaGreat
namespace Go.Proofs.YtodielfilhodeaaGreat
open Go Go.RowKit

theorem Tryz.infoL : (Tryz.prog.info? 28).map (fun i => (i.zero, i.size, i.bytes)) = some (some (.slice none 0 0), 1, 24) := by kernel_rfl
/-- A row: where it lies, its room, its numbers. -/
abbrev Rw := Nat × Nat × List Int
def rwV (r : Rw) : Value := .slice (some ⟨r.1, 0, none⟩) r.2.2.length r.2.1
def LRow (base : Nat) (w : World) (g c : Nat) (rs : List Rw) : Prop := w.ownsRow base 28 1 (.slice (some ⟨g, 0, none⟩) rs.length c) rs.length (rs.map rwV)
structure LMem (base : Nat) (w : World) (g c : Nat) (rs : List Rw) : Prop where
  row : LRow base w g c rs
  rows : ∀ r ∈ rs, IRow base w r.1 r.2.1 r.2.2
  apart : (rs.map (·.1)).Nodup
  off : ∀ r ∈ rs, r.1 ≠ g
def nums (rs : List Rw) : List (List Int) := rs.map (·.2.2)
theorem LRow.lt {base : Nat} {w : World} {g c : Nat} {rs : List Rw} (h : LRow base w g c rs) : base ≤ g ∧ g < w.heap.size := World.ownsRow.lt h g rfl
theorem LRow.cell {base : Nat} {w : World} {g c : Nat} {rs : List Rw} (h : LRow base w g c rs) (i : Nat) (hi : i < rs.length) : w.cell? ⟨g, i, none⟩ = some (rwV rs[i]) := by
  rw [World.ownsRow.cellAt h i (by omega)]
  simp [hi]
theorem LRow.kept {base : Nat} {w w' : World} {g c : Nat} {r : Option Nat} {rs : List Rw} (h : LRow base w g c rs) (hg : w.grownBy w' r) (hr : some g ≠ r) : LRow base w' g c rs := World.ownsRow.kept h hg (Or.inr hr)
theorem LMem.kept {base : Nat} {w w' : World} {g c : Nat} {r : Option Nat} {rs : List Rw} (h : LMem base w g c rs) (hg : w.grownBy w' r) (h1 : some g ≠ r) (h2 : ∀ x ∈ rs, some x.1 ≠ r) : LMem base w' g c rs :=
  ⟨h.row.kept hg h1, fun x hx => (h.rows x hx).kept hg (h2 x hx), h.apart, h.off⟩
theorem LMem.below {base : Nat} {w w' : World} {g c : Nat} {rs : List Rw} (h : LMem base w g c rs) (hb : Below w.heap.size w w') : LMem base w' g c rs :=
  h.kept (r := none) ⟨hb.os, hb.tape, hb.output, hb.size, fun i hi _ => hb.block i hi⟩ (by simp) (by simp)
theorem LMem.mono {base base' : Nat} {w : World} {g c : Nat} {rs : List Rw} (h : LMem base w g c rs) (hb : base' ≤ base) : LMem base' w g c rs :=
  ⟨by
    obtain ⟨h1, h2⟩ := h.row
    refine ⟨h1, ?_⟩
    rcases h2 with h2 | ⟨g', cp, cur, e1, h3, h4⟩
    · exact Or.inl h2
    · exact Or.inr ⟨g', cp, cur, e1, Nat.le_trans hb h3, h4⟩, fun x hx => (h.rows x hx).mono hb, h.apart, h.off⟩
theorem LMem.start (w : World) (base : Nat) (hb : base ≤ w.heap.size) : LMem base (w.alloc (.cells #[] 28)) w.heap.size 0 [] :=
  ⟨World.ownsRow_lit w #[] 0 hb (Nat.zero_le _) rfl, by simp, by simp, by simp⟩
/-- One more row. -/
theorem LMem.snoc {base : Nat} {w w8 : World} {g c gg cc : Nat} {rs : List Rw} {r : Rw} (h : LMem base w g c rs) (hown : w8.ownsRow base 28 1 (.slice (some ⟨gg, 0, none⟩) (rs.length + 1) cc) (rs.length + 1) (rs.map rwV ++ [rwV r]))
    (hgrow : w.grownBy w8 (some g)) (hat : g = gg ∨ gg = w.heap.size) (hr : IRow base w r.1 r.2.1 r.2.2) (hrg : r.1 ≠ g) (hnew : ∀ x ∈ rs, x.1 ≠ r.1) : LMem base w8 gg cc (rs ++ [r]) := by
  have hlt : ∀ x ∈ rs, base ≤ x.1 ∧ x.1 < w.heap.size := fun x hx => (h.rows x hx).lt
  refine ⟨?_, fun x hx => ?_, ?_, fun x hx => ?_⟩
  · unfold LRow
    rw [List.length_append, List.length_singleton, List.map_append]
    exact hown
  · rcases List.mem_append.1 hx with hx | hx
    · exact (h.rows x hx).kept hgrow (by have := h.off x hx; simp; exact this)
    · rw [List.mem_singleton.1 hx]
      exact hr.kept hgrow (by simp; exact hrg)
  · rw [List.map_append, List.nodup_append]
    refine ⟨h.apart, by simp, fun a ha b hb => ?_⟩
    obtain ⟨x, hx, rfl⟩ := List.mem_map.1 ha
    simp at hb
    rw [hb]
    exact hnew x hx
  · rcases hat with h1 | h1
    · rw [← h1]
      rcases List.mem_append.1 hx with hx | hx
      · exact h.off x hx
      · rw [List.mem_singleton.1 hx]; exact hrg
    · rcases List.mem_append.1 hx with hx | hx
      · have := hlt x hx; omega
      · rw [List.mem_singleton.1 hx]; have := hr.lt; omega
/-- A row of rows that is only read. -/
def LView (w : World) (ao : Option Addr) (ls : List (List Int)) : Prop := ls = [] ∨ ∃ b, ao = some ⟨b, 0, none⟩ ∧ b < w.heap.size ∧ ∀ i (h : i < ls.length), ∃ a c, w.cell? ⟨b, i, none⟩ = some (.slice a ls[i].length c) ∧ View w a ls[i]
theorem LMem.view {base : Nat} {w : World} {g c : Nat} {rs : List Rw} (h : LMem base w g c rs) : LView w (some ⟨g, 0, none⟩) (nums rs) := by
  refine Or.inr ⟨g, rfl, h.row.lt.2, fun i hi => ?_⟩
  have hi2 : i < rs.length := by simpa [nums] using hi
  have e : (nums rs)[i] = rs[i].2.2 := by simp [nums]
  rw [e]
  exact ⟨_, _, h.row.cell i hi2, (h.rows _ (List.getElem_mem hi2)).view⟩
theorem LView.at {w : World} {ao : Option Addr} {ls : List (List Int)} (h : LView w ao ls) {i : Nat} (hi : i < ls.length) : ∃ b a c, ao = some ⟨b, 0, none⟩ ∧ b < w.heap.size ∧ w.cell? ⟨b, i, none⟩ = some (.slice a ls[i].length c) ∧ View w a ls[i] := by
  rcases h with h | ⟨b, e, hb, hs⟩
  · rw [h] at hi; simp at hi
  · obtain ⟨a, c, c1, v1⟩ := hs i hi
    exact ⟨b, a, c, e, hb, c1, v1⟩
theorem LView.next {w w' : World} {ao : Option Addr} {ls : List (List Int)} (h : LView w ao ls) (hb : Below w.heap.size w w') : LView w' ao ls :=
  h.imp id fun ⟨b, e, hl, hs⟩ => ⟨b, e, Nat.lt_of_lt_of_le hl hb.size, fun i hi => by
    obtain ⟨a, c, c1, v1⟩ := hs i hi
    exact ⟨a, c, (hb.cell (p := ⟨b, i, none⟩) hl).trans c1, v1.next hb⟩⟩
theorem LView.drewN {w : World} {ao : Option Addr} {ls : List (List Int)} (h : LView w ao ls) (n : Nat) : LView (w.drewN n) ao ls := h

/-- How many numbers rows have. -/
def totR : List Rw → Nat
  | [] => 0
  | r :: rs => r.2.2.length + totR rs
/-- The rows behind the marking. -/
def mkRs : Int → List Rw → List Rw
  | _, [] => []
  | k, r :: rs => (r.1, r.2.1, tabL (fun i => k + i) r.2.2.length) :: mkRs (k + r.2.2.length) rs
theorem mkRs_length (k : Int) (rs : List Rw) : (mkRs k rs).length = rs.length := by
  induction rs generalizing k with
  | nil => rfl
  | cons r rs ih => simp [mkRs, ih]
theorem totR_append (a b : List Rw) : totR (a ++ b) = totR a + totR b := by
  induction a with
  | nil => simp [totR]
  | cons r a ih => simp [totR, ih]; omega
theorem totR_take (rs : List Rw) (j : Nat) (h : j < rs.length) : totR (rs.take (j + 1)) = totR (rs.take j) + rs[j].2.2.length := by
  rw [List.take_add_one, List.getElem?_eq_getElem h, totR_append]
  simp [totR]
theorem totR_le (rs : List Rw) (n m : Nat) (h1 : rs.length ≤ n) (h : ∀ r ∈ rs, r.2.2.length ≤ m) : totR rs ≤ n * m := by
  induction rs generalizing n with
  | nil => simp [totR]
  | cons r rs ih =>
    simp at h1
    have h2 := ih (n - 1) (by omega) (fun x hx => h x (List.mem_cons_of_mem _ hx))
    have h3 := h r (List.mem_cons_self ..)
    simp only [totR]
    have : n * m = (n - 1) * m + m := by
      have e : n = (n - 1) + 1 := by omega
      rw [e, Nat.add_mul, Nat.one_mul]; simp
    omega
theorem mkRs_at (k : Int) (rs : List Rw) (j : Nat) (h : j < rs.length) : (mkRs k rs)[j]'(by rw [mkRs_length]; exact h) = (rs[j].1, rs[j].2.1, tabL (fun i => k + totR (rs.take j) + i) rs[j].2.2.length) := by
  induction rs generalizing k j with
  | nil => simp at h
  | cons r rs ih =>
    cases j with
    | zero => simp [mkRs, totR]
    | succ j =>
      simp at h
      simp only [mkRs, List.getElem_cons_succ, List.take_succ_cons, totR]
      rw [ih (k + r.2.2.length) j h]
      congr 2
      congr 1
      funext i
      have : ((r.2.2.length + totR (List.take j rs) : Nat) : Int) = (r.2.2.length : Int) + totR (List.take j rs) := by omega
      rw [this]
      omega
theorem mkRs_fst (k : Int) (rs : List Rw) : (mkRs k rs).map (·.1) = rs.map (·.1) := by
  induction rs generalizing k with
  | nil => rfl
  | cons r rs ih => simp [mkRs, ih]
theorem mkRs_rwV (k : Int) (rs : List Rw) : (mkRs k rs).map rwV = rs.map rwV := by
  induction rs generalizing k with
  | nil => rfl
  | cons r rs ih => simp [mkRs, ih, rwV, tabL_length]
/-- Only these rows have turned. -/
def ChgL (rs : List Rw) (w w' : World) : Prop := w'.os = w.os ∧ w'.tape = w.tape ∧ w'.output = w.output ∧ w.heap.size ≤ w'.heap.size ∧ ∀ i, i < w.heap.size → (∀ r ∈ rs, i ≠ r.1) → w'.heap[i]? = w.heap[i]?

end Go.Proofs.YtodielfilhodeaaGreat
namespace Go.Proofs.YtodielfilhodeaaGreat
open Go Go.RowKit

def cellM (s : Int) (m : Mk) : List Int := cellV m.2 s
def cellsL (s : Int) (ms : List Mk) : List (List Int) := if gridB s ms = true then keysG (cellM s) ms else []
theorem nums_length (rs : List Rw) : (nums rs).length = rs.length := by simp [nums]
theorem nums_snoc (rs : List Rw) (r : Rw) : nums (rs ++ [r]) = nums rs ++ [r.2.2] := by simp [nums]

set_option maxRecDepth 100000 in
set_option maxHeartbeats 4000000 in
theorem sCells (ao : Option Addr) (cap : Nat) (s : Int) (ms : List Mk) (w : World) (hv : MView w ao ms) (hsm : MSmall ms) :
    Calls Tryz.prog 29 #[.agg #[.int .i64 s, .slice ao ms.length cap]] w fun e w' => ∃ g c rs, e = .returned (.slice (some ⟨g, 0, none⟩) rs.length c) ∧ nums rs = cellsL s ms ∧ LMem w.heap.size w' g c rs ∧ Below w.heap.size w w' := by
  obtain ⟨W1, hW1⟩ : ∃ W, W = w.alloc (.cells #[.int .i64 s, .slice ao ms.length cap] 46) := ⟨_, rfl⟩
  obtain ⟨W2, hW2⟩ : ∃ W, W = W1.alloc (.cells #[] 28) := ⟨_, rfl⟩
  have hz1 : W1.heap.size = w.heap.size + 1 := by rw [hW1]; simp
  have T1 : Two W1 w.heap.size (.int .i64 s) (.slice ao ms.length cap) 46 := by rw [hW1]; exact Two.new w _ _ _
  have M1 : Below w.heap.size w W1 := by rw [hW1]; exact alloc_below w _
  have M2 : Below W1.heap.size W1 W2 := by rw [hW2]; exact alloc_below W1 _
  have T2 := T1.below M2
  have L2 := chain M1 M2
  have R2 : LMem w.heap.size W2 (w.heap.size + 1) 0 [] := by rw [hW2, ← hz1]; exact LMem.start W1 w.heap.size (by omega)
  have c0 := T2.c0
  have c1 := T2.c1
  have HG := hidP (sGrid ao cap s ms W2 (hv.next L2) hsm)
  rcases hgd : gridB s ms with _ | _
  · have HV : Hid (cellsL s ms = []) := by show cellsL s ms = []; simp [cellsL, hgd]
    rw [hgd] at HG
    rw [HV.out]
    have HP := hidP (And.intro R2 L2)
    clear hv T1 M1 M2 T2 L2 R2 hz1
    subst hW2
    subst hW1
    go_enter Tryz.func29, Tryz.ntmps29
    go_wp2_with fail
    refine HG.out.mono ?_
    rintro e w3 ⟨rfl, L3⟩
    have HQ := hidP (And.intro (HP.out.1.below L3) (chain HP.out.2 L3))
    clear L3
    go_wp2_with fail
    go_ret
    exact ⟨_, _, [], rfl, rfl, HQ.out.1, HQ.out.2⟩
  · have HV : Hid (cellsL s ms = keysG (cellM s) ms) := by show cellsL s ms = _; simp [cellsL, hgd]
    rw [hgd] at HG
    rw [HV.out]
    have hgd' : gsideB s = true ∧ marksB ms = true := by simpa [gridB] using hgd
    have HOK := hidP (gmarks hgd'.2)
    have hl60 := marksB_len hgd'.2
    have hsd := hgd'.1
    have HP := hidP (And.intro R2 (And.intro T2 L2))
    have HVW := hidP hv
    have hat := hsm.2
    obtain ⟨i0, hi0, hz0, hz1', hz2⟩ := info_parts Tryz.infoL
    clear hv T1 M1 M2 T2 L2 R2 hz1 hgd hgd' HV
    subst hW2
    subst hW1
    go_enter Tryz.func29, Tryz.ntmps29
    go_wp2_with fail
    refine HG.out.mono ?_
    rintro e w3 ⟨rfl, L3⟩
    have HQ := hidP (And.intro (HP.out.1.below L3) (And.intro (HP.out.2.1.below L3) (chain HP.out.2.2 L3)))
    clear L3 HP HG
    go_wp2_with fail
    go_loopw [3, 4] (fun v i wr => ∃ (k g c : Nat) (rs : List Rw), k ≤ ms.length ∧ i = .int .i64 k ∧ v = .slice (some ⟨g, 0, none⟩) rs.length c ∧ nums rs = keysG (cellM s) (ms.take k) ∧ LMem w.heap.size wr g c rs ∧ w.heap.size + 1 ≤ g ∧ Two wr w.heap.size (.int .i64 s) (.slice ao ms.length cap) 46 ∧ Below w.heap.size w wr) (fun _ i _ => ms.length - (intOf i).toNat)
    case atStart => exact ⟨0, w.heap.size + 1, 0, [], Nat.zero_le _, rfl, rfl, rfl, HQ.out.1, Nat.le_refl _, HQ.out.2.1, HQ.out.2.2⟩
    case round =>
      obtain ⟨k, g, c, rs, hk, rfl, rfl, hnm, hrow, hgg, TT, L⟩ := hrel
      have t0 := TT.c0
      have t1 := TT.c1
      have HNM := hidP hnm
      have hrl : rs.length ≤ 60 := by
        have h1 := congrArg List.length hnm
        rw [nums_length] at h1
        have h2 := keysG_length (cellM s) (ms.take k)
        have h3 : (ms.take k).length ≤ ms.length := by simp; omega
        omega
      clear hnm
      by_cases hlt : k < ms.length
      · have hvw := HVW.out.next L
        obtain ⟨b, off, rfl, hb, hseg⟩ := MSeg.seg hvw (by omega)
        obtain ⟨d0, ae, ce, d1, hve⟩ := hseg.at hlt
        have hm : mnth ms k ∈ ms := by
          have : mnth ms k = ms[k] := by simp [mnth, List.getD, hlt]
          rw [this]; exact List.getElem_mem hlt
        have hokk := (HOK.out _ hm).1
        have ecv : cellL (mat ms k) s = cellV (mat ms k) s := by
          have : okB (mat ms k) = true := hokk
          simp [cellL, this, hsd]
        have HC := hidP (sCell ae ce (mat ms k) s wr.drew hve.drew (hat k))
        rw [ecv] at HC
        obtain ⟨X, hX⟩ : ∃ X, X = cellV (mat ms k) s := ⟨_, rfl⟩
        rw [← hX] at HC
        have hXl : X.length ≤ 4 := by rw [hX, cellV_length]; exact (okB_len hokk).2
        have HTK := hidP (take_mark hlt)
        have HSN : Hid (keysG (cellM s) (ms.take (k + 1)) = if X ∈ nums rs then nums rs else nums rs ++ [X]) := by
          show keysG (cellM s) (ms.take (k + 1)) = _
          rw [HTK.out, keysG_snoc, ← HNM.out, hX]
          rfl
        have HROW := hidP hrow
        have HTT := hidP TT
        have HL := hidP L
        have hi0' : (0 : Int) ≤ (k : Int) := Int.natCast_nonneg _
        have hi1 : (k : Int) < (ms.length : Int) := by omega
        have hwz := L.size
        have hbz : w.heap.size < wr.heap.size := TT.lt
        clear hvw hseg hve hm hokk ecv hX hrow TT L
        go_wp2_with fail
        go_region_held3 (fun w' => w'.cell? ⟨b, off + k * 2 + 1, none⟩ = some (.slice ae (mat ms k).length ce) ∧ w'.cell? ⟨w.heap.size, 0, none⟩ = some (.int .i64 s) ∧ w'.cell? ⟨w.heap.size, 1, none⟩ = some (.slice (some ⟨b, off, none⟩) ms.length cap))
          (first
            | go_keep
            | (refine ⟨(L4.cell (p := ⟨b, off + k * 2 + 1, none⟩) hb).trans d1, (L4.cell (p := ⟨w.heap.size, 0, none⟩) hbz).trans t0, (L4.cell (p := ⟨w.heap.size, 1, none⟩) hbz).trans t1⟩))
          (first | (go_at_call 36; refine HC.out.mono ?_; rintro e w4 ⟨g4, c4, rfl, o4, L4⟩))
        have L6 : Below wr.heap.size wr w4 := Below.trans ((Below.refl wr.heap.size wr).drew) L4
        have R6 := HROW.out.below L6
        have T6 := HTT.out.below L6
        have LL6 := chain HL.out L6
        have O6 : IRow wr.heap.size w4 g4 c4 X := o4
        have HS6 := hidP (And.intro R6 (And.intro T6 (And.intro LL6 O6)))
        have hgo := HROW.out.row.lt
        have hro : g < wr.heap.size ∧ ∀ r ∈ rs, r.1 < wr.heap.size := ⟨hgo.2, fun r hr => (HROW.out.rows r hr).lt.2⟩
        have HRO := hidP hro
        clear L4 o4 d0 d1 t0 t1 HC R6 T6 LL6 O6 L6 hro
        simp only [Exit.then]
        go_wp2_with fail
        clear hgo
        clear HROW HTT HL
        generalize wr.heap.size = V at *
        go_loopw [6, 7] (fun f i wq => ∃ j : Nat, j ≤ rs.length ∧ i = .int .i64 j ∧ f = .bool (decide (X ∈ (nums rs).take j)) ∧ ∃ n, wq = w4.drewN n) (fun _ i _ => rs.length - (intOf i).toNat)
        case atStart => exact ⟨0, Nat.zero_le _, rfl, by simp, 0, rfl⟩
        case round =>
          obtain ⟨j, hj, rfl, rfl, hw⟩ := hrel
          have HW := hidP hw
          by_cases hlj : j < rs.length
          · have hrow : LMem w.heap.size wr g c rs := by obtain ⟨n, rfl⟩ := hw; exact HS6.out.1.below (below_drewN (Below.refl _ _) n)
            have hx : IRow V wr g4 c4 X := by obtain ⟨n, rfl⟩ := hw; exact HS6.out.2.2.2
            have hcj := hrow.row.cell j hlj
            have hrj := (hrow.rows _ (List.getElem_mem hlj)).view
            have hlj2 : j < (nums rs).length := by rw [nums_length]; exact hlj
            have htj : (nums rs).take (j + 1) = (nums rs).take j ++ [rs[j].2.2] := by
              rw [List.take_add_one, List.getElem?_eq_getElem hlj2]
              simp [nums]
            have HTJ := hidP htj
            have hrl4 : rs[j].2.2.length ≤ 4 := by
              have h1 : rs[j].2.2 ∈ keysG (cellM s) (ms.take k) := by rw [← HNM.out]; exact List.mem_map_of_mem (List.getElem_mem hlj)
              obtain ⟨m, hm, e⟩ := (keysG_mem _ _ _).1 h1
              rw [← e]
              show (cellV m.2 s).length ≤ 4
              rw [cellV_length]
              exact (okB_len (HOK.out m (List.mem_of_mem_take hm)).1).2
            have HSM := hidP (gsameS _ _ rs[j].2.1 c4 rs[j].2.2 X wr hrj hx.view (by omega))
            have hj0 : (0 : Int) ≤ (j : Int) := Int.natCast_nonneg _
            have hj1 : (j : Int) < (rs.length : Int) := by omega
            unfold rwV at hcj
            clear hrow hx hrj hw htj
            generalize rs[j] = y at *
            by_cases hf : X ∈ (nums rs).take j
            · have hfb : decide (X ∈ (nums rs).take j) = true := by simp [hf]
              have HF : Hid (decide (X ∈ (nums rs).take (j + 1)) = true) := by show decide _ = true; rw [HTJ.out]; simp [hf]
              rw [hfb]
              clear hf hfb
              go_wp2_with fail
              go_roundw
              case rel => exact ⟨j + 1, by omega, by go_num, by rw [HF.out], HW.out⟩
              case measure => simp [intOf]; omega
            · have hfb : decide (X ∈ (nums rs).take j) = false := by simp [hf]
              have HF : Hid (decide (X ∈ (nums rs).take (j + 1)) = decide (y.2.2 = X)) := by
                show decide _ = decide _
                rw [HTJ.out]
                by_cases h : y.2.2 = X
                · simp [h]
                · simp [hf, h, Ne.symm h]
              rw [hfb]
              clear hf hfb
              go_wp2_with fail
              refine HSM.out.mono ?_
              rintro e w5 ⟨rfl, n5, rfl⟩
              go_wp2_with fail
              go_roundw
              case rel => exact ⟨j + 1, by omega, by go_num, by rw [HF.out], by obtain ⟨n, hn⟩ := HW.out; exact ⟨n + n5, by rw [hn]; simp⟩⟩
              case measure => simp [intOf]; omega
          · obtain rfl : j = rs.length := by omega
            have hS : LMem w.heap.size wr g c rs ∧ Two wr w.heap.size (.int .i64 s) (.slice (some ⟨b, off, none⟩) ms.length cap) 46 ∧ Below w.heap.size w wr ∧ IRow V wr g4 c4 X := by
              obtain ⟨n, rfl⟩ := hw
              exact ⟨HS6.out.1.below (below_drewN (Below.refl _ _) n), HS6.out.2.1, below_drewN HS6.out.2.2.1 n, HS6.out.2.2.2⟩
            have HS := hidP hS
            have ht : (nums rs).take rs.length = nums rs := by rw [← nums_length rs, List.take_length]
            rw [ht]
            have hwz2 := hS.2.2.1.size
            have hr4 := hS.2.2.2.lt
            clear hw hS ht HS6 HW
            by_cases hf : X ∈ nums rs
            · have hfb : decide (X ∈ nums rs) = true := by simp [hf]
              have HSN2 : Hid (keysG (cellM s) (ms.take (k + 1)) = nums rs) := by show keysG (cellM s) (ms.take (k + 1)) = _; rw [HSN.out, if_pos hf]
              rw [hfb]
              clear hf hfb HSN
              go_wp2_with fail
              go_roundw
              case rel => exact ⟨k + 1, g, c, rs, by omega, by go_num, rfl, HSN2.out.symm, HS.out.1, hgg, HS.out.2.1, HS.out.2.2.1⟩
              case measure => simp [intOf]; omega
            · have hfb : decide (X ∈ nums rs) = false := by simp [hf]
              have HSN2 : Hid (keysG (cellM s) (ms.take (k + 1)) = nums rs ++ [X]) := by show keysG (cellM s) (ms.take (k + 1)) = _; rw [HSN.out, if_neg hf]
              rw [hfb]
              clear hf hfb HSN
              have A8 := alloc_below wr (.cells #[.slice (some ⟨g4, 0, none⟩) X.length c4] 28)
              have G8 := HS.out.1.below A8
              have T8 := HS.out.2.1.below A8
              have L8 := chain HS.out.2.2.1 A8
              have R8 : IRow w.heap.size (wr.alloc (.cells #[.slice (some ⟨g4, 0, none⟩) X.length c4] 28)) g4 c4 X := (HS.out.2.2.2.below A8).mono hwz
              have HS8 := hidP (And.intro G8 (And.intro T8 (And.intro L8 R8)))
              have HL8 : Hid ((wr.alloc (.cells #[.slice (some ⟨g4, 0, none⟩) X.length c4] 28)).ownsRow w.heap.size 28 1 (.slice (some ⟨g, 0, none⟩) rs.length c) rs.length (rs.map rwV)) := G8.row
              clear A8 G8 T8 L8 R8 HS
              go_wp2_with (at_builtin; refine wpList_append_lies _ rfl (.tmp 46) (.tmp 48) 48 rfl w.heap.size 28 i0 _ 1 24 Tryz.underlying48 hi0 hz0 hz1' hz2 rfl (by omega) (.slice (some ⟨g, 0, none⟩) rs.length c) rs.length (rs.map rwV) rfl HL8.out ⟨wr.heap.size, 0, none⟩ 1 1 [.slice (some ⟨g4, 0, none⟩) X.length c4] rfl rfl (World.news_of_block (cs := #[.slice (some ⟨g4, 0, none⟩) X.length c4]) (t := 28) (fr := (0, 0)) (heap_alloc_new wr _)) (by simp [Value.oneCell']) (by omega) (by unfold maxLen; omega) (by omega) (by simp; omega) (wr.heap.size + 1) (by simp) ?_; intro gg cc w8 hown hgrow hat8 hlt8)
              go_wp2_with fail
              have hgr : World.grownBy _ w8 (some g) := hgrow
              have hg4 : ∀ x ∈ rs, x.1 ≠ g4 := fun x hx => by have := HRO.out.2 x hx; omega
              have hg4g : g4 ≠ g := by have := HRO.out.1; omega
              go_roundw
              case rel =>
                obtain ⟨G8, T8, L8, R8⟩ := HS8.out
                refine ⟨k + 1, gg, cc, rs ++ [(g4, c4, X)], by omega, by go_num, by simp, by rw [nums_snoc, HSN2.out], G8.snoc hown hgr (by rcases hat8 with h | h; exact Or.inl (by simpa [Value.ownBlock] using h); exact Or.inr (by rw [h]; simp)) R8 hg4g hg4, ?_, ?_, ?_⟩
                · rcases hat8 with h | h
                  · simp [Value.ownBlock] at h; omega
                  · omega
                · exact (hgr.block _ T8.lt (by simp; omega)).trans T8
                · exact L8.grown hgr L8.size (by intro q hq; cases hq; omega)
              case measure => simp [intOf]; omega
      · obtain rfl : k = ms.length := by omega
        rw [List.take_length] at HNM
        go_wp2_with fail
        go_ret
        exact ⟨g, c, rs, rfl, HNM.out, hrow, L⟩

end Go.Proofs.YtodielfilhodeaaGreat
namespace Go.Proofs.YtodielfilhodeaaGreat
open Go Go.RowKit

/-- The first of a cell's marks is this one just where no mark ahead of it has that cell. -/
theorem first_new (s : Int) {ds : List Sm} (hp : ds.Pairwise fun a b => a.1 < b.1) {k : Nat} (hk : k < ds.length) :
    0 < (ds.filter fun y => decide (cellS s y = cellS s ds[k])).length ∧ ((snth (ds.filter fun y => decide (cellS s y = cellS s ds[k])) 0).1 = ds[k].1 ↔ cellS s ds[k] ∉ keysG (cellS s) (ds.take k)) := by
  have e : ds = ds.take k ++ ds[k] :: ds.drop (k + 1) := by
    have h1 := List.take_append_drop k ds
    rw [List.drop_eq_getElem_cons hk] at h1
    exact h1.symm
  have ef : ds.filter (fun y => decide (cellS s y = cellS s ds[k])) = (ds.take k).filter (fun y => decide (cellS s y = cellS s ds[k])) ++ ds[k] :: (ds.drop (k + 1)).filter (fun y => decide (cellS s y = cellS s ds[k])) := by
    have h2 : ((ds.take k ++ ds[k] :: ds.drop (k + 1)).filter fun y => decide (cellS s y = cellS s ds[k])) = (ds.take k).filter (fun y => decide (cellS s y = cellS s ds[k])) ++ ds[k] :: (ds.drop (k + 1)).filter (fun y => decide (cellS s y = cellS s ds[k])) := by
      rw [List.filter_append]
      congr 1
      rw [List.filter_cons_of_pos (by simp)]
    rw [← e] at h2
    exact h2
  rw [ef]
  refine ⟨by simp; omega, ?_⟩
  rcases hA : (ds.take k).filter (fun y => decide (cellS s y = cellS s ds[k])) with _ | ⟨x, A⟩
  · have h1 : cellS s ds[k] ∉ keysG (cellS s) (ds.take k) := fun h => by
      obtain ⟨d, hd, e1⟩ := (keysG_mem _ _ _).1 h
      have : d ∈ (ds.take k).filter (fun y => decide (cellS s y = cellS s ds[k])) := List.mem_filter.2 ⟨hd, by simpa using e1⟩
      rw [hA] at this; cases this
    exact ⟨fun _ => h1, fun _ => by simp [snth]⟩
  · have hx : x ∈ (ds.take k).filter (fun y => decide (cellS s y = cellS s ds[k])) := by rw [hA]; exact List.mem_cons_self ..
    obtain ⟨hx1, hx2⟩ := List.mem_filter.1 hx
    have hlt : x.1 < ds[k].1 := by
      rw [e] at hp
      exact (List.pairwise_append.1 hp).2.2 x hx1 _ (List.mem_cons_self ..)
    have h1 : cellS s ds[k] ∈ keysG (cellS s) (ds.take k) := (keysG_mem _ _ _).2 ⟨x, hx1, by simpa using hx2⟩
    constructor
    · intro h
      have : x.1 = ds[k].1 := by simpa [snth] using h
      omega
    · intro h; exact absurd h1 h
theorem keysG_sm (s : Int) (ds : List Sm) : keysG (cellM s) (smMarks ds) = keysG (cellS s) ds := by
  unfold keysG smMarks
  rw [List.foldl_map]
  rfl

/-- What the map of right marks has under a key, in whatever world it lies. -/
theorem look_all {gs : List Gp} {s : Int} {dim : Nat} {ds : List Sm} (hk : GKeys s dim gs ds) (h4 : dim ≤ 4) {cell : List Int} (hi : I64s cell) (hl : ds = [] ∨ cell.length = dim) :
    ∃ va vc, ∀ base B W, GMem base W B gs → (Instr.lookup 102 (.map (some B)) (keyV cell) false).run Tryz.prog W = .ok (.slice va (ds.filter fun y => decide (cellS s y = cell)).length vc) W ∧ SView W va (ds.filter fun y => decide (cellS s y = cell)) := by
  have hkey := keyOf_keyV cell hi
  have hlook := lookG_grp (cellS s) cell ds
  rw [← hk.grp] at hlook
  rcases Nat.lt_or_ge (atG cell (gs.map gpG)) gs.length with hj | hj
  · have hj2 : atG cell (gs.map gpG) < (gs.map gpG).length := by simpa using hj
    have hj3 : atG cell (gs.map gpG) < (gs.map gpV).length := by simpa using hj
    have e1 := atG_key cell (gs.map gpG) hj2
    unfold lookG at hlook
    rw [dif_pos hj2] at hlook
    simp only [List.getElem_map] at e1 hlook
    have hv : (gs.map gpV)[atG cell (gs.map gpG)] = (keyV cell, .slice (some ⟨gs[atG cell (gs.map gpG)].2.1, 0, none⟩) gs[atG cell (gs.map gpG)].2.2.2.length gs[atG cell (gs.map gpG)].2.2.1) := by
      rw [List.getElem_map]
      have e2 : gs[atG cell (gs.map gpG)].1 = cell := e1
      simp [gpV, e2]
    rw [← hlook]
    refine ⟨some ⟨gs[atG cell (gs.map gpG)].2.1, 0, none⟩, gs[atG cell (gs.map gpG)].2.2.1, fun base B W hm => ⟨?_, (hm.rows _ (List.getElem_mem hj)).sview⟩⟩
    have hr := run_look_old hm.map hk.keysOk (hk.nodup h4) hj3 hkey (by rw [hv])
    rw [hv] at hr
    exact hr
  · have ha : atG cell (gs.map gpG) = gs.length := Nat.le_antisymm (by have := atG_le cell (gs.map gpG); simpa using this) hj
    have hno : ∀ g ∈ gs.map gpV, g.1 ≠ keyV cell := by
      rcases hl with h | h
      · have : gs = [] := by have e := hk.grp; rw [h, grpG_nil] at e; simpa using e
        rw [this]; simp
      · exact hk.not h4 h ha
    have e : lookG cell (gs.map gpG) = [] := by unfold lookG; rw [dif_neg (by simp; omega)]
    rw [e] at hlook
    rw [← hlook]
    exact ⟨none, 0, fun base B W hm => ⟨run_look_new hm.map hk.keysOk hkey hno, Or.inl rfl⟩⟩

set_option maxRecDepth 100000 in
set_option maxHeartbeats 4000000 in
theorem iCells (ao : Option Addr) (cap : Nat) (s : Int) (ms : List Mk) (w : World) (hv : MView w ao ms) (hsm : MSmall ms) :
    Calls Tryz.prog 24 #[.agg #[.int .i64 s, .slice ao ms.length cap]] w fun e w' => (e = .returned (.slice none 0 0) ∧ cellsL s ms = [] ∧ Below w.heap.size w w') ∨ ∃ g c rs, e = .returned (.slice (some ⟨g, 0, none⟩) rs.length c) ∧ nums rs = cellsL s ms ∧ LMem w.heap.size w' g c rs ∧ Below w.heap.size w w' := by
  obtain ⟨W1, hW1⟩ : ∃ W, W = w.alloc (.cells #[.int .i64 s, .slice ao ms.length cap] 46) := ⟨_, rfl⟩
  have T1 : Two W1 w.heap.size (.int .i64 s) (.slice ao ms.length cap) 46 := by rw [hW1]; exact Two.new w _ _ _
  have M1 : Below w.heap.size w W1 := by rw [hW1]; exact alloc_below w _
  have c0 := T1.c0
  have c1 := T1.c1
  have HG := hidP (iGrid ao cap s ms W1 (hv.next M1) hsm)
  rcases hgd : gridB s ms with _ | _
  · have HV : Hid (cellsL s ms = []) := by show cellsL s ms = []; simp [cellsL, hgd]
    rw [hgd] at HG
    have HP := hidP M1
    clear hv T1 M1
    subst hW1
    go_enter Tryz.func24, Tryz.ntmps24
    go_wp2_with fail
    refine HG.out.mono ?_
    rintro e w3 ⟨rfl, L3⟩
    have HQ := hidP (chain HP.out L3)
    clear L3
    go_wp2_with fail
    go_ret
    exact Or.inl ⟨rfl, HV.out, HQ.out⟩
  · rw [hgd] at HG
    have HV : Hid (cellsL s ms = keysG (cellM s) ms) := by show cellsL s ms = _; simp [cellsL, hgd]
    have hgd' : gsideB s = true ∧ marksB ms = true := by simpa [gridB] using hgd
    obtain ⟨hs1, hs2⟩ := (gsideB_iff s).1 hgd'.1
    have hok := gmarks hgd'.2
    have hl60 := marksB_len hgd'.2
    have hrise := marks_rise hgd'.2
    obtain ⟨ds, hds, hsv, hsl⟩ := hv.sview
    have hdl : ds.length = ms.length := by rw [← hds, smMarks_length]
    have hdim : (mat ms 0).length ≤ 4 := by
      rcases Nat.eq_zero_or_pos ms.length with h | h
      · have : ms = [] := List.length_eq_zero_iff.1 h
        rw [this]; simp [mat]
      · have h1 := (hok ms[0] (List.getElem_mem h)).1
        have e : mat ms 0 = ms[0].2 := by simp [mat, List.getD, h]
        rw [e]; exact (okB_len h1).2
    have hdok : ∀ d ∈ ds, okB d.2.2.2 = true ∧ d.2.2.2.length = (mat ms 0).length := fun d hd => hok (smMark d) (by rw [← hds]; exact List.mem_map_of_mem hd)
    have hpd : ds.Pairwise fun a b => a.1 < b.1 := by
      rw [← hds] at hrise
      unfold smMarks at hrise
      exact (List.pairwise_map (f := smMark) (R := fun a b => a.1 < b.1)).1 hrise
    have HOF : Hid (∀ w2, Below w.heap.size w w2 → Calls Tryz.prog 79 #[.agg #[.int .i64 s, .slice ao ms.length cap]] w2 fun e w' => ∃ gs, e = .returned (.map (some (w2.heap.size + 1))) ∧ GMem (w2.heap.size + 2) w' (w2.heap.size + 1) gs ∧ GKeys s (mat ms 0).length gs ds ∧ Below w2.heap.size w2 w') := fun w2 L => by
      have h := iCellsOf ao cap s ds (mat ms 0).length w2 (hsv.next L) (hsl.below L) hs1 hs2 (by omega) hdim hdok
      rwa [hdl] at h
    have HKS : Hid (keysG (cellM s) ms = keysG (cellS s) ds) := by show keysG (cellM s) ms = _; rw [← keysG_sm, hds]
    obtain ⟨i0, hi0, hz0, hz1', hz2⟩ := info_parts Tryz.infoL
    have HSV := hidP hsv
    have HSL := hidP hsl
    have HDOK := hidP hdok
    have HPD := hidP hpd
    have HTM := hidP (And.intro T1 M1)
    rw [HV.out, HKS.out]
    clear hv T1 M1 hok hgd hsv hsl hds hdok HV HKS hrise hpd hgd'
    subst hW1
    go_enter Tryz.func24, Tryz.ntmps24
    go_wp2_with fail
    refine HG.out.mono ?_
    rintro e w3 ⟨rfl, L3⟩
    have T3 := HTM.out.1.below L3
    have HL3 := hidP (chain HTM.out.2 L3)
    have d0 := T3.c0
    have d1 := T3.c1
    have HT3 := hidP T3
    have HOF3 := hidP (HOF.out w3 HL3.out)
    clear L3 T3 c0 c1 HG HTM HOF
    go_wp2_with fail
    refine HOF3.out.mono ?_
    rintro e w4 ⟨gs, rfl, hgm, hgk, L4⟩
    have hz4 := L4.size
    have hBl := hgm.map.lt
    obtain ⟨W5, hW5⟩ : ∃ W, W = w4.alloc (.cells #[] 28) := ⟨_, rfl⟩
    have A5 : Below w4.heap.size w4 W5 := by rw [hW5]; exact alloc_below w4 _
    have R5 : LMem w.heap.size W5 w4.heap.size 0 [] := by rw [hW5]; exact LMem.start w4 w.heap.size (Nat.le_trans HL3.out.size hz4)
    have T5 := (HT3.out.below L4).below A5
    have G5 := hgm.below A5
    have L5 := chain (chain HL3.out L4) A5
    have e0 := T5.c0
    have e1 := T5.c1
    have hgo : ∀ x ∈ gs, x.2.1 ≠ w4.heap.size := fun x hx => by have := (hgm.rows x hx).lt.2; omega
    have hwz3 := HL3.out.size
    have HGK := hidP hgk
    generalize hB : w3.heap.size + 1 = B at *
    have hb2 : w3.heap.size + 2 = B + 1 := by omega
    rw [hb2] at G5
    have hBw : w.heap.size < B := by omega
    have HP5 := hidP (And.intro R5 (And.intro T5 (And.intro G5 (And.intro hgo (And.intro L5 (show B ≠ w4.heap.size ∧ w.heap.size + 1 ≤ w4.heap.size by omega))))))
    clear R5 T5 G5 L5 A5 hgm L4 hgo d0 d1 HOF3 hgk HT3 HL3 hB hb2 hwz3 hz4 hBl
    subst hW5
    go_wp2_with fail
    clear e0 e1
    go_loopw [4, 17] (fun v i wr => ∃ (k g c : Nat) (rs : List Rw), k ≤ ms.length ∧ i = .int .i64 k ∧ v = .slice (some ⟨g, 0, none⟩) rs.length c ∧ nums rs = keysG (cellS s) (ds.take k) ∧ LMem w.heap.size wr g c rs ∧ Two wr w.heap.size (.int .i64 s) (.slice ao ms.length cap) 46 ∧ GMem (B + 1) wr B gs ∧ (∀ x ∈ gs, x.2.1 ≠ g) ∧ Below w.heap.size w wr ∧ B ≠ g ∧ w.heap.size + 1 ≤ g) (fun _ i _ => ms.length - (intOf i).toNat)
    case atStart => exact ⟨0, w4.heap.size, 0, [], Nat.zero_le _, rfl, rfl, rfl, HP5.out.1, HP5.out.2.1, HP5.out.2.2.1, HP5.out.2.2.2.1, HP5.out.2.2.2.2.1, HP5.out.2.2.2.2.2⟩
    case round =>
      obtain ⟨k, g, c, rs, hk, rfl, rfl, hnm, hrow, TT, GM, hgo, L, hBg, hwg⟩ := hrel
      have HNM := hidP hnm
      have hrl : rs.length ≤ 60 := by
        have h1 := congrArg List.length hnm
        rw [nums_length] at h1
        have h2 := keysG_length (cellS s) (ds.take k)
        have h3 : (ds.take k).length ≤ ds.length := by simp; omega
        omega
      clear hnm
      by_cases hlt : k < ms.length
      · have hltd : k < ds.length := by omega
        obtain ⟨b, off, rfl, hb, hseg⟩ := HSV.out.seg (by omega)
        obtain ⟨d0, d1⟩ := hseg k hltd
        have esn : snth ds k = ds[k] := by simp [snth, List.getD, hltd]
        have hdm : ds[k] ∈ ds := List.getElem_mem hltd
        have hdk := HDOK.out _ hdm
        have hdv := HSL.out _ hdm
        have hfn := first_new s HPD.out hltd
        rw [esn] at d0 d1
        have htk : ds.take (k + 1) = ds.take k ++ [ds[k]] := by rw [List.take_add_one, List.getElem?_eq_getElem hltd]; rfl
        have f0 := (L.cell (p := ⟨b, off + k * 2, none⟩) hb).trans d0
        have f1 := (L.cell (p := ⟨b, off + k * 2 + 1, none⟩) hb).trans d1
        generalize ds[k] = d at *
        obtain ⟨es, hes⟩ : ∃ es, es = ds.filter (fun y => decide (cellS s y = cellS s d)) := ⟨_, rfl⟩
        rw [← hes] at hfn
        have hkl : (cellS s d).length = (mat ms 0).length := by show (cellV d.2.2.2 s).length = _; rw [cellV_length]; exact hdk.2
        have hki : I64s (cellS s d) := cellV_i64 hdk.1 hs1
        obtain ⟨W6, hW6⟩ : ∃ W, W = wr.alloc (.cells #[.int .i64 d.1, .slice d.2.1 d.2.2.2.length d.2.2.1] 40) := ⟨_, rfl⟩
        have A6 : Below wr.heap.size wr W6 := by rw [hW6]; exact alloc_below wr _
        have M6 : Two W6 wr.heap.size (.int .i64 d.1) (.slice d.2.1 d.2.2.2.length d.2.2.1) 40 := by rw [hW6]; exact Two.new wr _ _ _
        have T6 := TT.below A6
        have HC := hidP (iCellOf d.2.1 d.2.2.1 d.2.2.2 s W6 ((hdv.next L).next A6) hdk.1 hs1 hs2)
        have m0 := M6.c0
        have m1 := M6.c1
        have t0 := T6.c0
        have hgl := hrow.row.lt
        have hrw : ∀ x ∈ rs, x.1 < wr.heap.size := fun x hx => (hrow.rows x hx).lt.2
        have HP6 := hidP (And.intro (hrow.below A6) (And.intro T6 (And.intro (GM.below A6) (And.intro (chain L A6) (And.intro M6 hrw)))))
        have hz6 : W6.heap.size = wr.heap.size + 1 := by rw [hW6]; simp
        have hAw := TT.lt
        have HHK := hidP (And.intro hkl hki)
        have HFN := hidP hfn
        have HES := hidP hes
        have HTK := hidP htk
        have HGO := hidP hgo
        have hi0' : (0 : Int) ≤ (k : Int) := Int.natCast_nonneg _
        have hi1 : (k : Int) < (ms.length : Int) := by omega
        have hXl : (cellV d.2.2.2 s).length ≤ 4 := by rw [cellV_length]; exact (okB_len hdk.1).2
        clear hrow TT GM L A6 M6 T6 hseg hdv d0 d1 htk hdm hdk hkl hki hfn hes hgo hrw esn
        subst hW6
        go_wp2_with fail
        refine HC.out.mono ?_
        rintro e w7 ⟨g7, rfl, hg7, o7, L7⟩
        obtain ⟨R6, T6, G6, L6, M6, hrw⟩ := HP6.out
        have R7 := R6.below L7
        have T7 := T6.below L7
        have G7 := G6.below L7
        have LL7 := chain L6 L7
        have M7 := M6.below L7
        have hz7 := L7.size
        have O7 : IRow w.heap.size w7 g7 d.2.2.2.length (cellV d.2.2.2 s) := by
          have h := o7.irow (base := w.heap.size) (by omega) (by unfold maxLen; omega)
          rwa [cellV_length] at h
        have hmz := M7.lt
        have q0 := M7.c0
        have HKO := hidP (iKeyOf (some ⟨g7, 0, none⟩) d.2.2.2.length (cellV d.2.2.2 s) w7.drew o7.view)
        rw [cellV_length] at HKO
        obtain ⟨va, vc, hlall⟩ := look_all HGK.out hdim HHK.out.2 (Or.inr HHK.out.1)
        rw [← HES.out] at hlall
        obtain ⟨b2, o2, eva, hb2, hs2⟩ := (hlall _ _ _ G7).2.seg HFN.out.1
        have hf0 := (hs2 0 HFN.out.1).1
        rw [Nat.zero_mul, Nat.add_zero] at hf0
        have HLK : Hid (∀ W, Below w7.drew.heap.size w7.drew W → (Instr.lookup 102 (.map (some B)) (keyV (cellS s d)) false).run Tryz.prog W = .ok (.slice (some ⟨b2, o2, none⟩) es.length vc) W) := fun W hL => by
          have h := (hlall _ _ _ (G7.below (Below.trans ((Below.refl w7.heap.size w7).drew) hL))).1
          rwa [eva] at h
        clear hlall eva hs2
        have hepos : 0 < es.length := HFN.out.1
        have hepos2 : (0 : Int) < (es.length : Int) := by omega
        have HP7 := hidP (And.intro R7 (And.intro T7 (And.intro G7 (And.intro LL7 (And.intro O7 (show wr.heap.size + 1 ≤ g7 by omega))))))
        have HRW := hidP hrw
        clear R6 T6 G6 L6 M6 R7 T7 G7 LL7 M7 O7 o7 L7 hrw HP6 HC m0 m1 t0 f0 f1
        generalize (snth es 0).1 = id0 at *
        by_cases hfst : id0 = d.1
        · have hfb : (id0 == d.1) = true := by simp [hfst]
          have HFS := hidP hfst
          clear hfst
          go_wp2_with fail
          go_region_held3 (fun w' => w'.cell? ⟨wr.heap.size, 0, none⟩ = some (.int .i64 d.1) ∧ w'.cell? ⟨b2, o2, none⟩ = some (.int .i64 id0))
            (first
              | go_keep
              | exact ⟨(L8.cell (p := ⟨wr.heap.size, 0, none⟩) hmz).trans q0, (L8.cell (p := ⟨b2, o2, none⟩) hb2).trans hf0⟩)
            (first | (go_at_call 81; refine HKO.out.mono ?_; rintro e w8 ⟨rfl, L8⟩; have hlk := HLK.out _ L8; unfold cellS at hlk; simp only [keyV] at hlk ⊢))
          have L78 : Below w7.heap.size w7 w8 := Below.trans ((Below.refl w7.heap.size w7).drew) L8
          obtain ⟨R7, T7, G7, LL7, O7, hg7w⟩ := HP7.out
          have R8 := R7.below L78
          have T8 := T7.below L78
          have G8 := G7.below L78
          have LL8 := chain LL7 L78
          have O8 := O7.below L78
          have A9 := alloc_below w8 (.cells #[.slice (some ⟨g7, 0, none⟩) d.2.2.2.length d.2.2.2.length] 28)
          have HS9 := hidP (And.intro (R8.below A9) (And.intro (T8.below A9) (And.intro (G8.below A9) (And.intro (chain LL8 A9) (O8.below A9)))))
          have HL9 : Hid ((w8.alloc (.cells #[.slice (some ⟨g7, 0, none⟩) d.2.2.2.length d.2.2.2.length] 28)).ownsRow w.heap.size 28 1 (.slice (some ⟨g, 0, none⟩) rs.length c) rs.length (rs.map rwV)) := (R8.below A9).row
          have hz8 := LL8.size
          have HSN2 : Hid (nums (rs ++ [(g7, d.2.2.2.length, cellV d.2.2.2 s)]) = keysG (cellS s) (ds.take (k + 1))) := by
            show nums (rs ++ [(g7, d.2.2.2.length, cellV d.2.2.2 s)]) = _
            rw [nums_snoc, HTK.out, keysG_snoc, if_neg (HFN.out.2.1 HFS.out), HNM.out]
            rfl
          have HCL := hidP (cellV_length d.2.2.2 s)
          have hgg8 := Nat.lt_of_lt_of_le hgl.2 (Nat.le_trans (by omega : wr.heap.size ≤ w7.heap.size) L78.size)
          clear R7 T7 G7 LL7 O7 R8 T8 G8 LL8 O8 A9 L8 L78 hlk hf0 q0 HP7 HKO HLK
          simp only [Exit.then]
          go_wp2_with (at_builtin; refine wpList_append_lies _ rfl (.tmp 36) (.tmp 38) 48 rfl w.heap.size 28 i0 _ 1 24 Tryz.underlying48 hi0 hz0 hz1' hz2 rfl (by omega) (.slice (some ⟨g, 0, none⟩) rs.length c) rs.length (rs.map rwV) rfl HL9.out ⟨w8.heap.size, 0, none⟩ 1 1 [.slice (some ⟨g7, 0, none⟩) d.2.2.2.length d.2.2.2.length] rfl rfl (World.news_of_block (cs := #[.slice (some ⟨g7, 0, none⟩) d.2.2.2.length d.2.2.2.length]) (t := 28) (fr := (0, 0)) (heap_alloc_new w8 _)) (by simp [Value.oneCell']) (by omega) (by unfold maxLen; omega) (by omega) (by simp; omega) (w8.heap.size + 1) (by simp) ?_; intro gg cc w9 hown hgrow hat9 hlt9)
          go_wp2_with fail
          have hgr : World.grownBy _ w9 (some g) := hgrow
          go_roundw
          case rel =>
            obtain ⟨R9, T9, G9, L9, O9⟩ := HS9.out
            have hown2 : w9.ownsRow w.heap.size 28 1 (.slice (some ⟨gg, 0, none⟩) (rs.length + 1) cc) (rs.length + 1) (rs.map rwV ++ [rwV (g7, d.2.2.2.length, cellV d.2.2.2 s)]) := by
              unfold rwV
              simp only [HCL.out]
              exact hown
            have hrg : ∀ x ∈ rs, x.1 ≠ g7 := fun x hx => by have := HRW.out x hx; omega
            have hBl := G9.map.lt
            refine ⟨k + 1, gg, cc, rs ++ [(g7, d.2.2.2.length, cellV d.2.2.2 s)], by omega, by go_num, by simp, HSN2.out, R9.snoc hown2 hgr (by rcases hat9 with h | h; exact Or.inl (by simpa [Value.ownBlock] using h); exact Or.inr (by rw [h]; simp)) O9 (show g7 ≠ g by omega) hrg, (hgr.block _ T9.lt (by simp; omega)).trans T9, G9.kept hgr (by simp; exact hBg) (fun x hx => by simp; exact HGO.out x hx), fun x hx => ?_, L9.grown hgr L9.size (by intro q hq; cases hq; omega), ?_, ?_⟩
            · rcases hat9 with h | h
              · simp [Value.ownBlock] at h
                rw [← h]; exact HGO.out x hx
              · have := (G9.rows x hx).lt.2
                simp at this
                omega
            · rcases hat9 with h | h
              · simp [Value.ownBlock] at h
                rw [← h]; exact hBg
              · simp at hBl
                omega
            · rcases hat9 with h | h
              · simp [Value.ownBlock] at h
                omega
              · omega
          case measure => simp [intOf]; omega
        · have hfb : (id0 == d.1) = false := by simp [hfst]
          have HFS := hidP hfst
          clear hfst
          go_wp2_with fail
          go_region_held3 (fun w' => w'.cell? ⟨wr.heap.size, 0, none⟩ = some (.int .i64 d.1) ∧ w'.cell? ⟨b2, o2, none⟩ = some (.int .i64 id0))
            (first
              | go_keep
              | exact ⟨(L8.cell (p := ⟨wr.heap.size, 0, none⟩) hmz).trans q0, (L8.cell (p := ⟨b2, o2, none⟩) hb2).trans hf0⟩)
            (first | (go_at_call 81; refine HKO.out.mono ?_; rintro e w8 ⟨rfl, L8⟩; have hlk := HLK.out _ L8; unfold cellS at hlk; simp only [keyV] at hlk ⊢))
          have L78 : Below w7.heap.size w7 w8 := Below.trans ((Below.refl w7.heap.size w7).drew) L8
          obtain ⟨R7, T7, G7, LL7, O7, hg7w⟩ := HP7.out
          have HS9 := hidP (And.intro (R7.below L78) (And.intro (T7.below L78) (And.intro (G7.below L78) (chain LL7 L78))))
          have HSN2 : Hid (nums rs = keysG (cellS s) (ds.take (k + 1))) := by
            show nums rs = _
            have hin : cellS s d ∈ keysG (cellS s) (ds.take k) := by
              rcases Classical.em (cellS s d ∈ keysG (cellS s) (ds.take k)) with h | h
              · exact h
              · exact absurd (HFN.out.2.2 h) HFS.out
            rw [HTK.out, keysG_snoc, if_pos hin, HNM.out]
          clear R7 T7 G7 LL7 O7 L8 L78 hlk hf0 q0 HP7 HKO HLK
          simp only [Exit.then]
          go_wp2_with fail
          go_roundw
          case rel => exact ⟨k + 1, g, c, rs, by omega, by go_num, rfl, HSN2.out, HS9.out.1, HS9.out.2.1, HS9.out.2.2.1, HGO.out, HS9.out.2.2.2, hBg, hwg⟩
          case measure => simp [intOf]; omega
      · obtain rfl : k = ms.length := by omega
        have h1 := HNM.out
        rw [← hdl, List.take_length] at h1
        go_wp2_with fail
        go_ret
        exact Or.inr ⟨g, c, rs, rfl, h1, hrow, L⟩

end Go.Proofs.YtodielfilhodeaaGreat
namespace Go.Proofs.YtodielfilhodeaaGreat
open Go Go.RowKit
open Go.ChangeMaps (setBlock)

def maxL : List Nat → Nat
  | [] => 0
  | x :: l => max x (maxL l)
theorem maxL_ge (l : List Nat) : ∀ x ∈ l, x ≤ maxL l := by
  induction l with
  | nil => simp
  | cons y l ih =>
    intro x hx
    simp only [maxL]
    rcases List.mem_cons.1 hx with rfl | hx
    · omega
    · have := ih x hx; omega
theorem maxL_lub (l : List Nat) (n : Nat) (h : ∀ x ∈ l, x ≤ n) : maxL l ≤ n := by
  induction l with
  | nil => simp [maxL]
  | cons y l ih =>
    simp only [maxL]
    have h1 := h y (List.mem_cons_self ..)
    have h2 := ih (fun x hx => h x (List.mem_cons_of_mem _ hx))
    omega
theorem maxL_snoc (l : List Nat) (x : Nat) : maxL (l ++ [x]) = max (maxL l) x := by
  induction l with
  | nil => simp [maxL]
  | cons y l ih => simp only [List.cons_append, maxL, ih]; omega
def crowdN (s : Int) (ms : List Mk) : Nat := maxL ((keysG (cellM s) ms).map fun c => (idsL s c ms).length)
def crowdV (s : Int) (ms : List Mk) : Int := if gridB s ms = true then (crowdN s ms : Int) else -1

set_option maxRecDepth 100000 in
set_option maxHeartbeats 2000000 in
theorem sCrowd (ao : Option Addr) (cap : Nat) (s : Int) (ms : List Mk) (w : World) (hv : MView w ao ms) (hsm : MSmall ms) :
    Calls Tryz.prog 38 #[.agg #[.int .i64 s, .slice ao ms.length cap]] w fun e w' => e = .returned (.int .i64 (crowdV s ms)) ∧ Below w.heap.size w w' := by
  obtain ⟨W1, hW1⟩ : ∃ W, W = w.alloc (.cells #[.int .i64 s, .slice ao ms.length cap] 46) := ⟨_, rfl⟩
  have T1 : Two W1 w.heap.size (.int .i64 s) (.slice ao ms.length cap) 46 := by rw [hW1]; exact Two.new w _ _ _
  have M1 : Below w.heap.size w W1 := by rw [hW1]; exact alloc_below w _
  have c0 := T1.c0
  have c1 := T1.c1
  have HG := hidP (sGrid ao cap s ms W1 (hv.next M1) hsm)
  have HTM := hidP (And.intro T1 M1)
  rcases hgd : gridB s ms with _ | _
  · have HV : Hid (crowdV s ms = -1) := by show crowdV s ms = -1; simp [crowdV, hgd]
    rw [hgd] at HG
    clear hv T1 M1
    subst hW1
    go_enter Tryz.func38, Tryz.ntmps38
    go_wp2_with fail
    refine HG.out.mono ?_
    rintro e w3 ⟨rfl, L3⟩
    have HQ := hidP (chain HTM.out.2 L3)
    clear L3
    go_wp2_with fail
    go_ret
    exact ⟨ret_int HV.out.symm, HQ.out⟩
  · have HV : Hid (crowdV s ms = (crowdN s ms : Int)) := by show crowdV s ms = _; simp [crowdV, hgd]
    rw [hgd] at HG
    have hgd' : gsideB s = true ∧ marksB ms = true := by simpa [gridB] using hgd
    have hl60 := marksB_len hgd'.2
    have ecl : cellsL s ms = keysG (cellM s) ms := by simp [cellsL, hgd]
    have einc : ∀ cell, inCellL s ms cell = idsL s cell ms := fun cell => by simp [inCellL, hgd]
    have HCL := hidP (fun w2 (L : Below w.heap.size w w2) => sCells ao cap s ms w2 (hv.next L) hsm)
    rw [ecl] at HCL
    have HIN : Hid (∀ w2 qa qc cell, Below w.heap.size w w2 → View w2 qa cell → Calls Tryz.prog 32 #[.agg #[.int .i64 s, .slice ao ms.length cap], .slice qa cell.length qc] w2 fun e w' => ∃ g c, e = .returned (.slice (some ⟨g, 0, none⟩) (idsL s cell ms).length c) ∧ Below w2.heap.size w2 w') := fun w2 qa qc cell L hq => by
      have h := sInCell ao qa cap qc s ms cell w2 (hv.next L) hsm hq
      rw [einc] at h
      exact h.mono fun e w' ⟨g, c, he, _, hb⟩ => ⟨g, c, he, hb⟩
    clear hv T1 M1 hgd hgd' ecl einc
    subst hW1
    go_enter Tryz.func38, Tryz.ntmps38
    go_wp2_with fail
    refine HG.out.mono ?_
    rintro e w3 ⟨rfl, L3⟩
    have T3 := HTM.out.1.below L3
    have L03 := chain HTM.out.2 L3
    have d0 := T3.c0
    have d1 := T3.c1
    have HCL3 := hidP (HCL.out w3 L03)
    have HT3 := hidP (And.intro T3 L03)
    clear L3 T3 L03 c0 c1 HG HTM HCL
    go_wp2_with fail
    refine HCL3.out.mono ?_
    rintro e w4 ⟨g, c, rs, rfl, hnm, hlm, L4⟩
    have HNM := hidP hnm
    have hkl : rs.length ≤ 60 := by
      have h1 := congrArg List.length hnm
      rw [nums_length] at h1
      have h2 := keysG_length (cellM s) ms
      omega
    have HS4 := hidP (And.intro hlm (And.intro (HT3.out.1.below L4) (chain HT3.out.2 L4)))
    clear hnm hlm L4 d0 d1 HT3 HCL3
    go_wp2_with fail
    go_loopw [3, 5] (fun v i wr => ∃ k : Nat, k ≤ rs.length ∧ i = .int .i64 k ∧ v = .int .i64 (maxL ((nums (rs.take k)).map fun c => (idsL s c ms).length) : Nat) ∧ LMem w3.heap.size wr g c rs ∧ Two wr w.heap.size (.int .i64 s) (.slice ao ms.length cap) 46 ∧ Below w.heap.size w wr) (fun _ i _ => rs.length - (intOf i).toNat)
    case atStart => exact ⟨0, Nat.zero_le _, rfl, rfl, HS4.out.1, HS4.out.2.1, HS4.out.2.2⟩
    case round =>
      obtain ⟨k, hk, rfl, rfl, hlm, TT, L⟩ := hrel
      by_cases hlt : k < rs.length
      · have t0 := TT.c0
        have t1 := TT.c1
        have hc := hlm.row.cell k hlt
        have hgl := hlm.row.lt.2
        have hvk := (hlm.rows _ (List.getElem_mem hlt)).view
        have htk : nums (rs.take (k + 1)) = nums (rs.take k) ++ [rs[k].2.2] := by
          rw [List.take_add_one, List.getElem?_eq_getElem hlt]
          exact nums_snoc _ _
        have HMX : Hid (maxL ((nums (rs.take (k + 1))).map fun c => (idsL s c ms).length) = max (maxL ((nums (rs.take k)).map fun c => (idsL s c ms).length)) (idsL s rs[k].2.2 ms).length) := by
          show maxL _ = _
          rw [htk, List.map_append]
          exact maxL_snoc _ _
        have HIK := hidP (HIN.out wr.drew _ rs[k].2.1 rs[k].2.2 (L.drew) hvk.drew)
        have hTl := TT.lt
        have HP := hidP (And.intro hlm (And.intro TT L))
        have hil := idsL_length s rs[k].2.2 ms
        have hml : maxL ((nums (rs.take k)).map fun c => (idsL s c ms).length) ≤ 60 := maxL_lub _ _ (fun x hx => by
          obtain ⟨cc, _, rfl⟩ := List.mem_map.1 hx
          have := idsL_length s cc ms; omega)
        have hi0 : (0 : Int) ≤ (k : Int) := Int.natCast_nonneg _
        have hi1 : (k : Int) < (rs.length : Int) := by omega
        unfold rwV at hc
        clear hlm TT L hvk htk
        generalize maxL ((nums (rs.take k)).map fun c => (idsL s c ms).length) = N at *
        generalize rs[k] = y at *
        generalize hI : (idsL s y.2.2 ms).length = I at *
        have HMAX := hidP (fun W => sMax (N : Int) (I : Int) W)
        go_wp2_with fail
        go_region_held3 (fun w' => w'.cell? ⟨w.heap.size, 0, none⟩ = some (.int .i64 s) ∧ w'.cell? ⟨w.heap.size, 1, none⟩ = some (.slice ao ms.length cap) ∧ w'.cell? ⟨g, k, none⟩ = some (.slice (some ⟨y.1, 0, none⟩) y.2.2.length y.2.1))
          (first
            | go_keep
            | exact ⟨(L5.cell (p := ⟨w.heap.size, 0, none⟩) hTl).trans t0, (L5.cell (p := ⟨w.heap.size, 1, none⟩) hTl).trans t1, (L5.cell (p := ⟨g, k, none⟩) hgl).trans hc⟩)
          (first
            | (go_at_call 32; refine HIK.out.mono ?_; rintro e w5 ⟨g5, c5, rfl, L5⟩)
            | (go_at_call 101; refine (HMAX.out _).mono ?_; rintro e w6 ⟨rfl, rfl⟩))
        have L6 : Below wr.heap.size wr w6 := Below.trans ((Below.refl wr.heap.size wr).drew) L5
        have HS := hidP (And.intro (HP.out.1.below L6) (And.intro (HP.out.2.1.below L6) (chain HP.out.2.2 L6)))
        have HMV : Hid (maxV (N : Int) (I : Int) = ((max N I : Nat) : Int)) := by show maxV _ _ = _; unfold maxV; omega
        clear L5 L6 HP t0 t1 hc HIK HMAX
        simp only [Exit.inBlock, Exit.then]
        go_wp2_with fail
        go_roundw
        case rel => exact ⟨k + 1, by omega, by go_num, by rw [HMX.out, HMV.out], HS.out.1, HS.out.2.1, HS.out.2.2⟩
        case measure => simp [intOf]; omega
      · obtain rfl : k = rs.length := by omega
        have HV2 : Hid (crowdV s ms = (maxL ((nums rs).map fun c => (idsL s c ms).length) : Nat)) := by show crowdV s ms = _; rw [HV.out, crowdN, HNM.out]
        rw [List.take_length] at *
        go_wp2_with fail
        go_ret
        exact ⟨ret_int HV2.out.symm, L⟩

theorem mkE_born {gs : List (Value × Value)} {e : MapEntry} (h : e ∈ (mkE gs).toList) : ∃ hi : e.born < gs.length, e.key = gs[e.born].1 ∧ e.val = gs[e.born].2 := by
  obtain ⟨i, hi, rfl⟩ := List.getElem_of_mem h
  simp [mkE] at hi
  simp [mkE, hi]
theorem mkE_nodup (gs : List (Value × Value)) : ((mkE gs).toList.map (·.born)).Nodup := by
  have e : (mkE gs).toList.map (·.born) = List.range gs.length := by
    apply List.ext_getElem
    · simp [mkE]
    · intro i h1 h2
      simp [mkE]
  rw [e]; exact List.nodup_range
theorem setBlock_grown (w : World) (r : Nat) (o : Obj) : w.grownBy (setBlock w r o) (some r) :=
  ⟨rfl, rfl, rfl, by simp [setBlock], fun i _ hi => by
    have hne : r ≠ i := fun e => hi (by rw [e])
    simp [setBlock, hne]⟩
theorem crowd_groups {s : Int} {dim : Nat} {gs : List Gp} {ds : List Sm} {ms : List Mk} (hk : GKeys s dim gs ds) (hds : smMarks ds = ms) : crowdN s ms = maxL (gs.map fun x => x.2.2.2.length) := by
  unfold crowdN
  rw [← hds, keysG_sm, ← hk.fst, List.map_map]
  congr 1
  refine List.map_congr_left fun x hx => ?_
  simp only [Function.comp_apply]
  rw [idsL_sm, List.length_map, hk.group x hx]

set_option maxRecDepth 100000 in
set_option maxHeartbeats 2000000 in
theorem iCrowd (ao : Option Addr) (cap : Nat) (s : Int) (ms : List Mk) (w : World) (hv : MView w ao ms) (hsm : MSmall ms) :
    Calls Tryz.prog 37 #[.agg #[.int .i64 s, .slice ao ms.length cap]] w fun e w' => e = .returned (.int .i64 (crowdV s ms)) ∧ Below w.heap.size w w' := by
  obtain ⟨W1, hW1⟩ : ∃ W, W = w.alloc (.cells #[.int .i64 s, .slice ao ms.length cap] 46) := ⟨_, rfl⟩
  have T1 : Two W1 w.heap.size (.int .i64 s) (.slice ao ms.length cap) 46 := by rw [hW1]; exact Two.new w _ _ _
  have M1 : Below w.heap.size w W1 := by rw [hW1]; exact alloc_below w _
  have c0 := T1.c0
  have c1 := T1.c1
  have HG := hidP (iGrid ao cap s ms W1 (hv.next M1) hsm)
  have HTM := hidP (And.intro T1 M1)
  rcases hgd : gridB s ms with _ | _
  · have HV : Hid (crowdV s ms = -1) := by show crowdV s ms = -1; simp [crowdV, hgd]
    rw [hgd] at HG
    clear hv T1 M1
    subst hW1
    go_enter Tryz.func37, Tryz.ntmps37
    go_wp2_with fail
    refine HG.out.mono ?_
    rintro e w3 ⟨rfl, L3⟩
    have HQ := hidP (chain HTM.out.2 L3)
    clear L3
    go_wp2_with fail
    go_ret
    exact ⟨ret_int HV.out.symm, HQ.out⟩
  · have HV : Hid (crowdV s ms = (crowdN s ms : Int)) := by show crowdV s ms = _; simp [crowdV, hgd]
    rw [hgd] at HG
    have hgd' : gsideB s = true ∧ marksB ms = true := by simpa [gridB] using hgd
    obtain ⟨hs1, hs2⟩ := (gsideB_iff s).1 hgd'.1
    have hok := gmarks hgd'.2
    have hl60 := marksB_len hgd'.2
    obtain ⟨ds, hds, hsv, hsl⟩ := hv.sview
    have hdl : ds.length = ms.length := by rw [← hds, smMarks_length]
    have hdim : (mat ms 0).length ≤ 4 := by
      rcases Nat.eq_zero_or_pos ms.length with h | h
      · have : ms = [] := List.length_eq_zero_iff.1 h
        rw [this]; simp [mat]
      · have h1 := (hok ms[0] (List.getElem_mem h)).1
        have e : mat ms 0 = ms[0].2 := by simp [mat, List.getD, h]
        rw [e]; exact (okB_len h1).2
    have hdok : ∀ d ∈ ds, okB d.2.2.2 = true ∧ d.2.2.2.length = (mat ms 0).length := fun d hd => hok (smMark d) (by rw [← hds]; exact List.mem_map_of_mem hd)
    have HOF : Hid (∀ w2, Below w.heap.size w w2 → Calls Tryz.prog 79 #[.agg #[.int .i64 s, .slice ao ms.length cap]] w2 fun e w' => ∃ gs, e = .returned (.map (some (w2.heap.size + 1))) ∧ GMem (w2.heap.size + 2) w' (w2.heap.size + 1) gs ∧ crowdN s ms = maxL (gs.map fun x => x.2.2.2.length) ∧ (∀ x ∈ gs, x.2.2.2.length ≤ 60) ∧ Below w2.heap.size w2 w') := fun w2 L => by
      have h := iCellsOf ao cap s ds (mat ms 0).length w2 (hsv.next L) (hsl.below L) hs1 hs2 (by omega) hdim hdok
      rw [hdl] at h
      exact h.mono fun e w' ⟨gs, he, h1, h2, h3⟩ => ⟨gs, he, h1, crowd_groups h2 hds, fun x hx => by rw [h2.group x hx]; have := List.length_filter_le (fun y => decide (cellS s y = x.1)) ds; omega, h3⟩
    clear hv T1 M1 hok hgd hsv hsl hds hdok hgd'
    subst hW1
    go_enter Tryz.func37, Tryz.ntmps37
    go_wp2_with fail
    refine HG.out.mono ?_
    rintro e w3 ⟨rfl, L3⟩
    have T3 := HTM.out.1.below L3
    have L03 := chain HTM.out.2 L3
    have d0 := T3.c0
    have d1 := T3.c1
    have HOF3 := hidP (HOF.out w3 L03)
    have HL3 := hidP L03
    clear L3 T3 L03 c0 c1 HG HTM HOF
    go_wp2_with fail
    refine HOF3.out.mono ?_
    rintro e w4 ⟨gs, rfl, hgm, hcn, hg60, L4⟩
    rw [hcn] at HV
    have hgl : (gs.map gpV).length = gs.length := by simp
    have hmap : w4.heap[w3.heap.size + 1]? = some (.map (mkE (gs.map gpV)) gs.length) := by have h := hgm.map; unfold MapIs at h; rwa [hgl] at h
    have hrg := run_range_map (P := Tryz.prog) w4 102 106 24 (w3.heap.size + 1) (mkE (gs.map gpV)) gs.length Tryz.underlying102 hmap
    have hwz3 := HL3.out.size
    have hBl := hgm.map.lt
    have HG4 := hidP (And.intro (hgm.below (alloc_below w4 (.mapIter (some (w3.heap.size + 1)) gs.length #[] gs.length))) ((chain HL3.out L4).alloc (chain HL3.out L4).size (.mapIter (some (w3.heap.size + 1)) gs.length #[] gs.length)))
    have HI4 := hidP (heap_alloc_new w4 (.mapIter (some (w3.heap.size + 1)) gs.length #[] gs.length))
    have hrows : ∀ x ∈ gs, x.2.1 < w4.heap.size := fun x hx => (hgm.rows x hx).lt.2
    have HROWS := hidP hrows
    have hw4 : w.heap.size ≤ w4.heap.size := (chain HL3.out L4).size
    have HGL := hidP hgl
    clear hmap hgl
    clear hgm L4 d0 d1 HOF3 hcn hrows
    go_wp2_with fail
    clear hrg
    go_loopw [3] (fun v wr => ∃ (seen : Array Nat) (N : Nat), v = .int .i64 (N : Nat) ∧ N ≤ maxL (gs.map fun x => x.2.2.2.length) ∧ (∀ j (h : j < gs.length), seen.contains j = true → gs[j].2.2.2.length ≤ N) ∧ wr.heap[w4.heap.size]? = some (.mapIter (some (w3.heap.size + 1)) gs.length seen gs.length) ∧ GMem (w3.heap.size + 2) wr (w3.heap.size + 1) gs ∧ Below w.heap.size w wr) (fun _ wr => (leftOf (mkE (gs.map gpV)) (wr.iterSeen w4.heap.size)).size)
    case atStart => exact ⟨#[], 0, rfl, Nat.zero_le _, fun j h hc => by simp at hc, HI4.out, HG4.out.1, HG4.out.2⟩
    case round =>
      obtain ⟨seen, N, rfl, hN, hsn, hit, hgm, L⟩ := hrel
      have hseen : wr.iterSeen w4.heap.size = seen := by unfold World.iterSeen; rw [hit]
      have hmap : wr.heap[w3.heap.size + 1]? = some (.map (mkE (gs.map gpV)) gs.length) := by have h := hgm.map; unfold MapIs at h; rwa [HGL.out] at h
      rcases run_next_at (P := Tryz.prog) wr 0 w4.heap.size (w3.heap.size + 1) gs.length gs.length seen (mkE (gs.map gpV)) gs.length hit hmap (fun x hx => by obtain ⟨h, _⟩ := mkE_born hx; rw [HGL.out] at h; exact h) (Nat.le_refl _) with ⟨hz, hrun⟩ | ⟨e, he, w1, hw1, hrun⟩
      · have hall : ∀ x ∈ gs.map (fun x => x.2.2.2.length), x ≤ N := fun y hy => by
          obtain ⟨x, hx, rfl⟩ := List.mem_map.1 hy
          obtain ⟨j, hj, rfl⟩ := List.getElem_of_mem hx
          refine hsn j hj ?_
          rcases hc : seen.contains j with _ | _
          · have hj2 : j < (gs.map gpV).length := by rw [HGL.out]; exact hj
            have hm : (⟨(gs.map gpV)[j].1, (gs.map gpV)[j].2, j⟩ : MapEntry) ∈ leftOf (mkE (gs.map gpV)) seen := by
              unfold leftOf
              refine Array.mem_filter.2 ⟨Array.mem_of_getElem? (mkE_get _ j hj2), ?_⟩
              simp only
              rw [hc]; rfl
            have : leftOf (mkE (gs.map gpV)) seen = #[] := Array.eq_empty_of_size_eq_zero hz
            rw [this] at hm
            simp at hm
          · rfl
        have heq : N = maxL (gs.map fun x => x.2.2.2.length) := Nat.le_antisymm hN (maxL_lub _ _ hall)
        have HEQ : Hid (crowdV s ms = (N : Int)) := by show crowdV s ms = _; rw [HV.out, heq]
        have HL := hidP L
        clear hall heq hsn hit hgm L hmap hz hseen hN
        go_wp2_with fail
        go_ret
        exact ⟨ret_int HEQ.out.symm, HL.out⟩
      · obtain ⟨hel, hes⟩ := mem_left he
        obtain ⟨hj, hkey, hval⟩ := mkE_born hel
        have hj2 : e.born < gs.length := by rw [HGL.out] at hj; exact hj
        have hsh := left_shrinks (mkE (gs.map gpV)) seen e he
        obtain ⟨W2, hW2⟩ : ∃ W, W = setBlock w1 w4.heap.size (.mapIter (some (w3.heap.size + 1)) gs.length (seen.push e.born) gs.length) := ⟨_, rfl⟩
        have hg1 : wr.grownBy w1 none := by rcases hw1 with rfl | rfl <;> exact ⟨rfl, rfl, rfl, Nat.le_refl _, fun _ _ _ => rfl⟩
        have hg2 : w1.grownBy W2 (some w4.heap.size) := by rw [hW2]; exact setBlock_grown _ _ _
        have hlr : w4.heap.size < wr.heap.size := (Array.getElem?_eq_some_iff.1 hit).1
        have hlr1 : w4.heap.size < w1.heap.size := Nat.lt_of_lt_of_le hlr hg1.size
        have hit2 : W2.heap[w4.heap.size]? = some (.mapIter (some (w3.heap.size + 1)) gs.length (seen.push e.born) gs.length) := by rw [hW2]; simp [setBlock, hlr1]
        have G2 := (hgm.kept hg1 (by simp) (by simp)).kept hg2 (by simp; omega) (fun x hx => by have := HROWS.out x hx; simp; omega)
        have hmap2 : W2.heap[w3.heap.size + 1]? = some (.map (mkE (gs.map gpV)) gs.length) := by have h := G2.map; unfold MapIs at h; rwa [HGL.out] at h
        have hent := run_entry_at (P := Tryz.prog) W2 w4.heap.size (w3.heap.size + 1) gs.length seen (mkE (gs.map gpV)) gs.length e hit2 hmap2 hel (mkE_nodup _)
        have L2 := (L.grown hg1 L.size (by intro q hq; cases hq)).grown hg2 (Nat.le_trans L.size hg1.size) (by intro q hq; cases hq; exact hw4)
        have hseen2 : W2.iterSeen w4.heap.size = seen.push e.born := by unfold World.iterSeen; rw [hit2]
        rw [← hW2] at hrun
        have hval2 : e.val = .slice (some ⟨gs[e.born].2.1, 0, none⟩) gs[e.born].2.2.2.length gs[e.born].2.2.1 := by rw [hval]; simp [gpV]
        rw [hval2] at hrun hent
        have hlen : gs[e.born].2.2.2.length ≤ maxL (gs.map fun x => x.2.2.2.length) := maxL_ge _ _ (List.mem_map.2 ⟨_, List.getElem_mem hj2, rfl⟩)
        have h60 := hg60 _ (List.getElem_mem hj2)
        have hm60 : maxL (gs.map fun x => x.2.2.2.length) ≤ 60 := maxL_lub _ _ (fun y hy => by obtain ⟨x, hx, rfl⟩ := List.mem_map.1 hy; exact hg60 x hx)
        have hnew : ∀ j (h : j < gs.length), (seen.push e.born).contains j = true → gs[j].2.2.2.length ≤ max N gs[e.born].2.2.2.length := fun j h hc => by
          rw [contains_push] at hc
          simp only [Bool.or_eq_true, beq_iff_eq] at hc
          rcases hc with hc | hc
          · have := hsn j h hc; omega
          · subst hc; omega
        have HP := hidP (And.intro hit2 (And.intro G2 (And.intro L2 (And.intro hnew (And.intro hseen2 (And.intro hsh hseen))))))
        clear hit2 G2 L2 hnew hmap2 hseen2 hsh hsn hit hgm L hmap hW2 hval hval2 hkey hel he hes hg1 hg2 hw1 hj hseen
        generalize gs[e.born] = x at *
        go_wp2_with fail
        all_goals
          go_roundw
          case rel => exact ⟨seen.push e.born, max N x.2.2.2.length, by congr 1; omega, by omega, HP.out.2.2.2.1, HP.out.1, HP.out.2.1, HP.out.2.2.1⟩
          case measure => rw [HP.out.2.2.2.2.1, HP.out.2.2.2.2.2.2]; exact HP.out.2.2.2.2.2.1

end Go.Proofs.YtodielfilhodeaaGreat
namespace Go.Proofs.YtodielfilhodeaaGreat
open Go Go.RowKit

def sumL : List Nat → Nat
  | [] => 0
  | x :: l => x + sumL l
theorem sumL_snoc (l : List Nat) (x : Nat) : sumL (l ++ [x]) = sumL l + x := by
  induction l with
  | nil => simp [sumL]
  | cons y l ih => simp only [List.cons_append, sumL, ih]; omega
theorem sumL_add {α : Type} (cs : List α) (a b : α → Nat) : sumL (cs.map fun c => a c + b c) = sumL (cs.map a) + sumL (cs.map b) := by
  induction cs with
  | nil => rfl
  | cons c cs ih => simp only [List.map_cons, sumL, ih]; omega
theorem sumL_none (cs : List (List Int)) (x : List Int) (h : x ∉ cs) : sumL (cs.map fun c => if x = c then 1 else 0) = 0 := by
  induction cs with
  | nil => rfl
  | cons c cs ih =>
    simp only [List.mem_cons, not_or] at h
    simp only [List.map_cons, sumL, ih h.2, if_neg h.1]
theorem sumL_one (cs : List (List Int)) (x : List Int) (hn : cs.Nodup) (h : x ∈ cs) : sumL (cs.map fun c => if x = c then 1 else 0) = 1 := by
  induction cs with
  | nil => cases h
  | cons c cs ih =>
    rw [List.nodup_cons] at hn
    simp only [List.map_cons, sumL]
    by_cases hx : x = c
    · subst hx
      rw [if_pos rfl, sumL_none _ _ hn.1]
    · rw [if_neg hx, ih hn.2 ((List.mem_cons.1 h).resolve_left hx)]
theorem sum_cells (s : Int) (cs : List (List Int)) (hn : cs.Nodup) : ∀ ms : List Mk, (∀ m ∈ ms, cellM s m ∈ cs) → sumL (cs.map fun c => (idsL s c ms).length) = ms.length
  | [], _ => by
    have : ∀ l : List (List Int), sumL (l.map fun _ => 0) = 0 := fun l => by
      induction l with
      | nil => rfl
      | cons c l ih => simp only [List.map_cons, sumL, ih]
    simpa [idsL] using this cs
  | m :: ms, h => by
    have e : (fun c => (idsL s c (m :: ms)).length) = fun c => (if cellM s m = c then 1 else 0) + (idsL s c ms).length := by
      funext c
      simp only [idsL, List.length_map, List.filter_cons, cellM]
      by_cases hc : cellV m.2 s = c
      · simp [hc]; omega
      · simp [hc]
    rw [e, sumL_add, sumL_one _ _ hn (h m (List.mem_cons_self ..)), sum_cells s cs hn ms fun x hx => h x (List.mem_cons_of_mem _ hx)]
    simp only [List.length_cons]; omega
theorem sum_all (s : Int) (ms : List Mk) : sumL ((keysG (cellM s) ms).map fun c => (idsL s c ms).length) = ms.length :=
  sum_cells s _ (keysG_nodup _ _) ms fun m hm => (keysG_mem _ _ _).2 ⟨m, hm, rfl⟩

theorem ids_pair {ms : List Mk} (h : marksB ms = true) : ms.Pairwise fun a b => a.1 < b.1 := by
  have hstep : ∀ i (hi : i + 1 < ms.length), ms[i].1 < ms[i + 1].1 := fun i hi => by
    have := (mOkAt_iff ms (i + 1)).1 (marksB_at h hi)
    have h1 : mid ms i < mid ms (i + 1) := by
      have h5 := this.2.2.2.2
      rcases h5 with h5 | h5
      · omega
      · simpa using h5
    have e1 : mid ms i = ms[i].1 := by simp [mid, List.getD, show i < ms.length by omega]
    have e2 : mid ms (i + 1) = ms[i + 1].1 := by simp [mid, List.getD, hi]
    rw [e1, e2] at h1
    exact h1
  rw [List.pairwise_iff_getElem]
  intro i j hi hj hij
  obtain ⟨d, rfl⟩ : ∃ d, j = i + 1 + d := ⟨j - i - 1, by omega⟩
  induction d with
  | zero => exact hstep i hj
  | succ d ih =>
    have h1 := ih (by omega) (by omega)
    have h2 := hstep (i + 1 + d) (by omega)
    have e : i + 1 + (d + 1) = i + 1 + d + 1 := by omega
    simp only [e]
    omega
theorem ids_rise {s : Int} {c : List Int} {ms : List Mk} (h : marksB ms = true) : ∀ j, j + 1 < (idsL s c ms).length → nth (idsL s c ms) j < nth (idsL s c ms) (j + 1) := fun j hj => by
  have hp : (idsL s c ms).Pairwise (· < ·) := by
    unfold idsL
    rw [List.pairwise_map]
    exact (ids_pair h).filter _
  have h1 := (List.pairwise_iff_getElem.1 hp) j (j + 1) (by omega) hj (by omega)
  simpa [nth, List.getD, hj, show j < (idsL s c ms).length by omega] using h1
theorem ids_some {s : Int} {c : List Int} {ms : List Mk} (h : c ∈ keysG (cellM s) ms) : 0 < (idsL s c ms).length := by
  obtain ⟨m, hm, e⟩ := (keysG_mem _ _ _).1 h
  rw [idsL, List.length_map]
  exact List.length_pos_of_mem (List.mem_filter.2 ⟨hm, by simpa [cellM] using e⟩)
theorem ids_crowd {s : Int} {c : List Int} {ms : List Mk} (h : c ∈ keysG (cellM s) ms) : (idsL s c ms).length ≤ crowdN s ms :=
  maxL_ge _ _ (List.mem_map.2 ⟨c, h, rfl⟩)
theorem cell_floor {p : List Int} {s : Int} {i : Nat} (hi : i < (cellL p s).length) : (cellL p s).length = p.length ∧ (1 ≤ s ∧ s ≤ 1000) ∧ (-1000 ≤ nth (cellL p s) i ∧ nth (cellL p s) i ≤ 1000) ∧ nth (cellL p s) i * s ≤ nth p i ∧ nth p i < (nth (cellL p s) i + 1) * s ∧ (-1000 ≤ nth p i ∧ nth p i ≤ 1000) := by
  unfold cellL at hi ⊢
  split at hi
  · rename_i h
    rw [if_pos h]
    have hs := (gsideB_iff s).1 h.2
    have hi' : i < p.length := by rw [cellV_length] at hi; exact hi
    have e : nth (cellV p s) i = nth p i / s := tabL_getD _ _ _ hi'
    have hp := okB_at h.1 i
    have f := floor_in (n := nth p i) (s := s) (by omega)
    have b := floor_bd (n := nth p i) (s := s) (by omega) hp.1 hp.2
    rw [e]
    refine ⟨cellV_length p s, hs, b, f.1, ?_, hp⟩
    rw [Int.add_mul, Int.one_mul]; exact f.2
  · simp at hi

end Go.Proofs.YtodielfilhodeaaGreat
