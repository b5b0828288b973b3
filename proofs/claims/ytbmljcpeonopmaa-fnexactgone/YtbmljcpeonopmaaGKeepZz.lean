/-
  What stays of rows of numbers while other rows are written over.
  Rows of rows of numbers: a row of slices, each with a row of its own; the laws' own helpers eqInt64SS, markInt64SS, heldInt64SS.
  What stays of rows of rows while other blocks are written over; rows of rows that are handed out.
-/
import Derived.Test.YtbmljcpeonopmaaBMarkZz
import Derived.Test.YtbmljcpeonopmaaMMarkZz
namespace Go.Proofs.Ytbmljcpeonopmaa
open Go Go.RowKit

theorem IRow.same {base : Nat} {w w' : World} {g c : Nat} {xs : List Int} (h : IRow base w g c xs) (e : w'.heap[g]? = w.heap[g]?) : IRow base w' g c xs := by
  obtain ⟨h1, h2⟩ := h
  refine ⟨h1, ?_⟩
  rcases h2 with h2 | ⟨g', cp, cur, e1, h3, h4, h5⟩
  · exact Or.inl h2
  · have hg : g = g' := by injection e1 with e2; injection e2 with e2; injection e2
    subst hg
    exact Or.inr ⟨g, cp, cur, e1, h3, e.trans h4, h5⟩
theorem IOut.same {base : Nat} {w w' : World} {v : Value} {xs : List Int} (h : IOut base w v xs) (e : ∀ i, base ≤ i → i < w.heap.size → w'.heap[i]? = w.heap[i]?) : IOut base w' v xs := by
  rcases h with h | ⟨g, c, e1, hr⟩
  · exact Or.inl h
  · exact Or.inr ⟨g, c, e1, hr.same (e g hr.lt.1 hr.lt.2)⟩
theorem GIn.irow {lo hi base : Nat} {w w' : World} {g c : Nat} {xs : List Int} (h : GIn lo hi w w') (hr : IRow base w g c xs) (hg : g < lo ∨ hi ≤ g) : IRow base w' g c xs := hr.same (h.2.2.2.2 g hr.lt.2 hg)
theorem GIn.iout {lo hi base : Nat} {w w' : World} {v : Value} {xs : List Int} (h : GIn lo hi w w') (ho : IOut base w v xs) (hb : hi ≤ base) : IOut base w' v xs := ho.same fun i h1 h2 => h.2.2.2.2 i h2 (Or.inr (by omega))
theorem ChgV.irow {base : Nat} {w w' : World} {v : Value} {g c : Nat} {xs : List Int} (h : ChgV v w w') (hr : IRow base w g c xs) (hg : ∀ a n d, v = .slice (some a) n d → g ≠ a.block) : IRow base w' g c xs := hr.same (h.2.2.2.2 g hr.lt.2 hg)
theorem below_chgV {w w1 w2 : World} {v : Value} (h : Below w.heap.size w w1) (c : ChgV v w1 w2) (hv : ∀ a n d, v = .slice (some a) n d → w.heap.size ≤ a.block) : Below w.heap.size w w2 :=
  h.trans ⟨c.1, c.2.1, c.2.2.1, c.2.2.2.1, fun k hk => c.2.2.2.2 k (Nat.lt_of_lt_of_le hk h.size) (fun a n d e => by have := hv a n d e; omega)⟩
theorem below_farI {w w1 w2 : World} {r : Option Nat} (h : Below w.heap.size w w1) (hg : w1.grownBy w2 r) (hr : ∀ g, r = some g → w.heap.size ≤ g) : Below w.heap.size w w2 := h.grown hg h.size hr

end Go.Proofs.Ytbmljcpeonopmaa
namespace Go.Proofs.Ytbmljcpeonopmaa
open Go Go.RowKit

theorem Try.infoL : (Try.prog.info? 41).map (fun i => (i.zero, i.size, i.bytes)) = some (some (.slice none 0 0), 1, 24) := by kernel_rfl
/-- A row: where it lies, its room, its numbers. -/
abbrev Rw := Nat × Nat × List Int
def rwV (r : Rw) : Value := .slice (some ⟨r.1, 0, none⟩) r.2.2.length r.2.1
def LRow (base : Nat) (w : World) (g c : Nat) (rs : List Rw) : Prop := w.ownsRow base 41 1 (.slice (some ⟨g, 0, none⟩) rs.length c) rs.length (rs.map rwV)
structure LMem (base : Nat) (w : World) (g c : Nat) (rs : List Rw) : Prop where
  row : LRow base w g c rs
  rows : ∀ r ∈ rs, IRow base w r.1 r.2.1 r.2.2
  apart : (rs.map (·.1)).Nodup
  off : ∀ r ∈ rs, r.1 ≠ g
def nums (rs : List Rw) : List (List Int) := rs.map (·.2.2)
theorem LRow.lt {base : Nat} {w : World} {g c : Nat} {rs : List Rw} (h : LRow base w g c rs) : base ≤ g ∧ g < w.heap.size := World.ownsRow.lt h g rfl
theorem LRow.cell {base : Nat} {w : World} {g c : Nat} {rs : List Rw} (h : LRow base w g c rs) (i : Nat) (hi : i < rs.length) : w.cell? ⟨g, i, none⟩ = some (rwV rs[i]) := by
  rw [World.ownsRow.cellAt h i (by omega)]
  simp [hi]
theorem LRow.kept {base : Nat} {w w' : World} {g c : Nat} {r : Option Nat} {rs : List Rw} (h : LRow base w g c rs) (hg : w.grownBy w' r) (hr : some g ≠ r) : LRow base w' g c rs := World.ownsRow.kept h hg (Or.inr hr)
theorem LMem.kept {base : Nat} {w w' : World} {g c : Nat} {r : Option Nat} {rs : List Rw} (h : LMem base w g c rs) (hg : w.grownBy w' r) (h1 : some g ≠ r) (h2 : ∀ x ∈ rs, some x.1 ≠ r) : LMem base w' g c rs :=
  ⟨h.row.kept hg h1, fun x hx => (h.rows x hx).kept hg (h2 x hx), h.apart, h.off⟩
theorem LMem.below {base : Nat} {w w' : World} {g c : Nat} {rs : List Rw} (h : LMem base w g c rs) (hb : Below w.heap.size w w') : LMem base w' g c rs :=
  h.kept (r := none) ⟨hb.os, hb.tape, hb.output, hb.size, fun i hi _ => hb.block i hi⟩ (by simp) (by simp)
theorem LMem.mono {base base' : Nat} {w : World} {g c : Nat} {rs : List Rw} (h : LMem base w g c rs) (hb : base' ≤ base) : LMem base' w g c rs :=
  ⟨by
    obtain ⟨h1, h2⟩ := h.row
    refine ⟨h1, ?_⟩
    rcases h2 with h2 | ⟨g', cp, cur, e1, h3, h4⟩
    · exact Or.inl h2
    · exact Or.inr ⟨g', cp, cur, e1, Nat.le_trans hb h3, h4⟩, fun x hx => (h.rows x hx).mono hb, h.apart, h.off⟩
theorem LMem.start (w : World) (base : Nat) (hb : base ≤ w.heap.size) : LMem base (w.alloc (.cells #[] 41)) w.heap.size 0 [] :=
  ⟨World.ownsRow_lit w #[] 0 hb (Nat.zero_le _) rfl, by simp, by simp, by simp⟩
/-- One more row. -/
theorem LMem.snoc {base : Nat} {w w8 : World} {g c gg cc : Nat} {rs : List Rw} {r : Rw} (h : LMem base w g c rs) (hown : w8.ownsRow base 41 1 (.slice (some ⟨gg, 0, none⟩) (rs.length + 1) cc) (rs.length + 1) (rs.map rwV ++ [rwV r]))
    (hgrow : w.grownBy w8 (some g)) (hat : g = gg ∨ gg = w.heap.size) (hr : IRow base w r.1 r.2.1 r.2.2) (hrg : r.1 ≠ g) (hnew : ∀ x ∈ rs, x.1 ≠ r.1) : LMem base w8 gg cc (rs ++ [r]) := by
  have hlt : ∀ x ∈ rs, base ≤ x.1 ∧ x.1 < w.heap.size := fun x hx => (h.rows x hx).lt
  refine ⟨?_, fun x hx => ?_, ?_, fun x hx => ?_⟩
  · unfold LRow
    rw [List.length_append, List.length_singleton, List.map_append]
    exact hown
  · rcases List.mem_append.1 hx with hx | hx
    · exact (h.rows x hx).kept hgrow (by have := h.off x hx; simp; exact this)
    · rw [List.mem_singleton.1 hx]
      exact hr.kept hgrow (by simp; exact hrg)
  · rw [List.map_append, List.nodup_append]
    refine ⟨h.apart, by simp, fun a ha b hb => ?_⟩
    obtain ⟨x, hx, rfl⟩ := List.mem_map.1 ha
    simp at hb
    rw [hb]
    exact hnew x hx
  · rcases hat with h1 | h1
    · rw [← h1]
      rcases List.mem_append.1 hx with hx | hx
      · exact h.off x hx
      · rw [List.mem_singleton.1 hx]; exact hrg
    · rcases List.mem_append.1 hx with hx | hx
      · have := hlt x hx; omega
      · rw [List.mem_singleton.1 hx]; have := hr.lt; omega
/-- A row of rows that is only read. -/
def LView (w : World) (ao : Option Addr) (ls : List (List Int)) : Prop := ls = [] ∨ ∃ b, ao = some ⟨b, 0, none⟩ ∧ b < w.heap.size ∧ ∀ i (h : i < ls.length), ∃ a c, w.cell? ⟨b, i, none⟩ = some (.slice a ls[i].length c) ∧ View w a ls[i]
theorem LMem.view {base : Nat} {w : World} {g c : Nat} {rs : List Rw} (h : LMem base w g c rs) : LView w (some ⟨g, 0, none⟩) (nums rs) := by
  refine Or.inr ⟨g, rfl, h.row.lt.2, fun i hi => ?_⟩
  have hi2 : i < rs.length := by simpa [nums] using hi
  have e : (nums rs)[i] = rs[i].2.2 := by simp [nums]
  rw [e]
  exact ⟨_, _, h.row.cell i hi2, (h.rows _ (List.getElem_mem hi2)).view⟩
theorem LView.at {w : World} {ao : Option Addr} {ls : List (List Int)} (h : LView w ao ls) {i : Nat} (hi : i < ls.length) : ∃ b a c, ao = some ⟨b, 0, none⟩ ∧ b < w.heap.size ∧ w.cell? ⟨b, i, none⟩ = some (.slice a ls[i].length c) ∧ View w a ls[i] := by
  rcases h with h | ⟨b, e, hb, hs⟩
  · rw [h] at hi; simp at hi
  · obtain ⟨a, c, c1, v1⟩ := hs i hi
    exact ⟨b, a, c, e, hb, c1, v1⟩
theorem LView.next {w w' : World} {ao : Option Addr} {ls : List (List Int)} (h : LView w ao ls) (hb : Below w.heap.size w w') : LView w' ao ls :=
  h.imp id fun ⟨b, e, hl, hs⟩ => ⟨b, e, Nat.lt_of_lt_of_le hl hb.size, fun i hi => by
    obtain ⟨a, c, c1, v1⟩ := hs i hi
    exact ⟨a, c, (hb.cell (p := ⟨b, i, none⟩) hl).trans c1, v1.next hb⟩⟩
theorem LView.drewN {w : World} {ao : Option Addr} {ls : List (List Int)} (h : LView w ao ls) (n : Nat) : LView (w.drewN n) ao ls := h

set_option maxHeartbeats 1000000 in
theorem eqSS (ao ao' : Option Addr) (cap cap' : Nat) (ls : List (List Int)) (w : World) (hv : LView w ao ls) (hv' : LView w ao' ls) (hn : ls.length ≤ 1048576) (hat : ∀ l ∈ ls, l.length ≤ 1048576) :
    Calls Try.prog 115 #[.slice ao ls.length cap, .slice ao' ls.length cap'] w fun e w' => e = .returned (.bool true) ∧ ∃ n, w' = w.drewN n := by
  have hlb : ((ls.length : Int) != (ls.length : Int)) = false := by simp
  have HV := hidP hv
  have HV' := hidP hv'
  have HAT := hidP hat
  clear hv hv' hat
  go_enter Try.func115, Try.ntmps115
  go_wp2_with fail
  go_loopw [5] (fun i wr => ∃ k : Nat, k ≤ ls.length ∧ i = .int .i64 k ∧ ∃ n, wr = w.drewN n) (fun i _ => ls.length - (intOf i).toNat)
  case atStart => exact ⟨0, Nat.zero_le _, rfl, 0, rfl⟩
  case round =>
    obtain ⟨k, hk, rfl, hw⟩ := hrel
    have HW := hidP hw
    clear hw
    by_cases hlt : k < ls.length
    · have v1 : LView wr ao ls := by obtain ⟨n, rfl⟩ := HW.out; exact HV.out.drewN n
      have v2 : LView wr ao' ls := by obtain ⟨n, rfl⟩ := HW.out; exact HV'.out.drewN n
      obtain ⟨b, a, c, rfl, hb, c1, va⟩ := v1.at hlt
      obtain ⟨b', a', c', rfl, hb', c2, va'⟩ := v2.at hlt
      have hl := HAT.out _ (List.getElem_mem hlt)
      have HE := hidP (fun n => eqS a a' c c' ls[k] ls[k] (wr.drewN n) (va.drewN n) (va'.drewN n) hl)
      have hse : decide (ls[k] = ls[k]) = true := by simp
      rw [hse] at HE
      have hi0 : (0 : Int) ≤ (k : Int) := Int.natCast_nonneg _
      have hi1 : (k : Int) < (ls.length : Int) := by omega
      clear va va' v1 v2 hse
      generalize ls[k] = x at *
      go_wp2_with fail
      go_quiet (first | (go_at_call 51; exact Calls.quiet_of (HE.out _)))
      go_wp2_with fail
      go_roundw
      case rel => exact ⟨k + 1, by omega, by go_num, by obtain ⟨n, hn⟩ := HW.out; exact ⟨n + nq, by rw [hn]; simp⟩⟩
      case measure => simp [intOf]; omega
    · go_wp2_with fail
      go_ret
      exact ⟨rfl, HW.out⟩

/-- How many numbers rows have. -/
def totR : List Rw → Nat
  | [] => 0
  | r :: rs => r.2.2.length + totR rs
/-- The rows behind the marking. -/
def mkRs : Int → List Rw → List Rw
  | _, [] => []
  | k, r :: rs => (r.1, r.2.1, tabL (fun i => k + i) r.2.2.length) :: mkRs (k + r.2.2.length) rs
theorem mkRs_length (k : Int) (rs : List Rw) : (mkRs k rs).length = rs.length := by
  induction rs generalizing k with
  | nil => rfl
  | cons r rs ih => simp [mkRs, ih]
theorem totR_append (a b : List Rw) : totR (a ++ b) = totR a + totR b := by
  induction a with
  | nil => simp [totR]
  | cons r a ih => simp [totR, ih]; omega
theorem totR_take (rs : List Rw) (j : Nat) (h : j < rs.length) : totR (rs.take (j + 1)) = totR (rs.take j) + rs[j].2.2.length := by
  rw [List.take_add_one, List.getElem?_eq_getElem h, totR_append]
  simp [totR]
theorem totR_le (rs : List Rw) (n m : Nat) (h1 : rs.length ≤ n) (h : ∀ r ∈ rs, r.2.2.length ≤ m) : totR rs ≤ n * m := by
  induction rs generalizing n with
  | nil => simp [totR]
  | cons r rs ih =>
    simp at h1
    have h2 := ih (n - 1) (by omega) (fun x hx => h x (List.mem_cons_of_mem _ hx))
    have h3 := h r (List.mem_cons_self ..)
    simp only [totR]
    have : n * m = (n - 1) * m + m := by
      have e : n = (n - 1) + 1 := by omega
      rw [e, Nat.add_mul, Nat.one_mul]; simp
    omega
theorem mkRs_at (k : Int) (rs : List Rw) (j : Nat) (h : j < rs.length) : (mkRs k rs)[j]'(by rw [mkRs_length]; exact h) = (rs[j].1, rs[j].2.1, tabL (fun i => k + totR (rs.take j) + i) rs[j].2.2.length) := by
  induction rs generalizing k j with
  | nil => simp at h
  | cons r rs ih =>
    cases j with
    | zero => simp [mkRs, totR]
    | succ j =>
      simp at h
      simp only [mkRs, List.getElem_cons_succ, List.take_succ_cons, totR]
      rw [ih (k + r.2.2.length) j h]
      congr 2
      congr 1
      funext i
      have : ((r.2.2.length + totR (List.take j rs) : Nat) : Int) = (r.2.2.length : Int) + totR (List.take j rs) := by omega
      rw [this]
      omega
theorem mkRs_fst (k : Int) (rs : List Rw) : (mkRs k rs).map (·.1) = rs.map (·.1) := by
  induction rs generalizing k with
  | nil => rfl
  | cons r rs ih => simp [mkRs, ih]
theorem mkRs_rwV (k : Int) (rs : List Rw) : (mkRs k rs).map rwV = rs.map rwV := by
  induction rs generalizing k with
  | nil => rfl
  | cons r rs ih => simp [mkRs, ih, rwV, tabL_length]
/-- Only these rows have turned. -/
def ChgL (rs : List Rw) (w w' : World) : Prop := w'.os = w.os ∧ w'.tape = w.tape ∧ w'.output = w.output ∧ w.heap.size ≤ w'.heap.size ∧ ∀ i, i < w.heap.size → (∀ r ∈ rs, i ≠ r.1) → w'.heap[i]? = w.heap[i]?

set_option maxHeartbeats 1000000 in
theorem markSS (base g c : Nat) (rs : List Rw) (k0 : Int) (w : World) (hm : LMem base w g c rs) (hn : rs.length ≤ 60) (hat : ∀ r ∈ rs, r.2.2.length ≤ 4) (h0 : 1 ≤ k0) (h1 : k0 ≤ 1000000) :
    Calls Try.prog 105 #[.slice (some ⟨g, 0, none⟩) rs.length c, .int .i64 k0] w fun e w' => e = .returned (.int .i64 (k0 + totR rs)) ∧ LMem base w' g c (mkRs k0 rs) ∧ ChgL rs w w' := by
  have HM := hidP hm
  have HAT := hidP hat
  have htot := totR_le rs 60 4 hn hat
  clear hm hat
  go_enter Try.func105, Try.ntmps105
  go_wp2_with fail
  go_loopw [1, 5] (fun kk i wr => ∃ j : Nat, j ≤ rs.length ∧ i = .int .i64 j ∧ kk = .int .i64 (k0 + totR (rs.take j)) ∧ LRow base wr g c rs ∧ (∀ i (h : i < rs.length), IRow base wr rs[i].1 rs[i].2.1 (if i < j then ((mkRs k0 rs)[i]'(by rw [mkRs_length]; exact h)).2.2 else rs[i].2.2)) ∧ ChgL rs w wr) (fun _ i _ => rs.length - (intOf i).toNat)
  case atStart => exact ⟨0, Nat.zero_le _, rfl, by simp [totR], HM.out.row, fun i h => by rw [if_neg (by omega)]; exact HM.out.rows _ (List.getElem_mem h), rfl, rfl, rfl, Nat.le_refl _, fun _ _ _ => rfl⟩
  case round =>
    obtain ⟨j, hj, rfl, rfl, hrow, hrows, hchg⟩ := hrel
    by_cases hlt : j < rs.length
    · have hc := hrow.cell j hlt
      have hr := hrows j hlt
      rw [if_neg (by omega)] at hr
      have hl4 := HAT.out _ (List.getElem_mem hlt)
      have ht1 := totR_le (rs.take j) 60 4 (by simp; omega) (fun x hx => HAT.out x (List.mem_of_mem_take hx))
      have HMK := hidP (markI base rs[j].1 rs[j].2.1 (k0 + totR (rs.take j)) rs[j].2.2 wr hr (by omega) (by omega) (by omega))
      have HTK := hidP (totR_take rs j hlt)
      have HAJ := hidP (mkRs_at k0 rs j hlt)
      have hbw : IntKind.i64.wrap (k0 + totR (rs.take j)) = k0 + totR (rs.take j) := IntWalk.i64_in _ ⟨by omega, by omega⟩
      have HP := hidP (And.intro hrow (And.intro hrows hchg))
      have hi0 : (0 : Int) ≤ (j : Int) := Int.natCast_nonneg _
      have hi1 : (j : Int) < (rs.length : Int) := by omega
      clear hrow hrows hchg hr
      unfold rwV at hc
      go_wp2_with fail
      refine HMK.out.mono ?_
      rintro e w2 ⟨rfl, r2, g2⟩
      have HR2 := hidP (And.intro r2 g2)
      clear r2 g2
      go_wp2_with fail
      go_roundw
      case rel =>
        obtain ⟨hrow, hrows, hchg⟩ := HP.out
        obtain ⟨r2, g2⟩ := HR2.out
        have hother : ∀ i (hi : i < rs.length), i ≠ j → rs[i].1 ≠ rs[j].1 := fun i hi hne e => by
          have a1 : i < (rs.map (·.1)).length := by simpa using hi
          have a2 : j < (rs.map (·.1)).length := by simpa using hlt
          exact hne ((List.getElem_inj HM.out.apart).1 (by simpa using e : (rs.map (·.1))[i] = (rs.map (·.1))[j]))
        refine ⟨j + 1, by omega, by go_num, ?_, hrow.kept g2 (fun e => by injection e with e; exact HM.out.off _ (List.getElem_mem hlt) e.symm), fun i hi => ?_, g2.os.trans hchg.1, g2.tape.trans hchg.2.1, g2.output.trans hchg.2.2.1, Nat.le_trans hchg.2.2.2.1 g2.size, fun i hi hno => ?_⟩
        · rw [HTK.out]
          congr 1
          omega
        · by_cases hij : i = j
          · subst hij
            rw [if_pos (by omega), HAJ.out]
            exact r2
          · have := hrows i hi
            have e : (if i < j + 1 then ((mkRs k0 rs)[i]'(by rw [mkRs_length]; exact hi)).2.2 else rs[i].2.2) = (if i < j then ((mkRs k0 rs)[i]'(by rw [mkRs_length]; exact hi)).2.2 else rs[i].2.2) := by
              by_cases h : i < j
              · rw [if_pos h, if_pos (by omega)]
              · rw [if_neg h, if_neg (by omega)]
            rw [e]
            exact this.kept g2 (fun e => by injection e with e; exact hother i hi hij e)
        · exact (g2.block i (Nat.lt_of_lt_of_le hi hchg.2.2.2.1) (fun e => by injection e with e; exact hno _ (List.getElem_mem hlt) e)).trans (hchg.2.2.2.2 i hi hno)
      case measure => simp [intOf]; omega
    · obtain rfl : j = rs.length := by omega
      go_wp2_with fail
      go_ret
      refine ⟨ret_int (by rw [List.take_length]), ⟨?_, fun x hx => ?_, by rw [mkRs_fst]; exact HM.out.apart, fun x hx => ?_⟩, hchg⟩
      · unfold LRow
        rw [mkRs_length, mkRs_rwV]
        exact hrow
      · obtain ⟨i, hi, rfl⟩ := List.getElem_of_mem hx
        have hi2 : i < rs.length := by rw [mkRs_length] at hi; exact hi
        have := hrows i hi2
        rw [if_pos hi2] at this
        have e := mkRs_at k0 rs i hi2
        rw [e] at this ⊢
        exact this
      · obtain ⟨i, hi, rfl⟩ := List.getElem_of_mem hx
        have hi2 : i < rs.length := by rw [mkRs_length] at hi; exact hi
        rw [mkRs_at k0 rs i hi2]
        exact HM.out.off rs[i] (List.getElem_mem hi2)

set_option maxHeartbeats 1000000 in
theorem heldSS (ao : Option Addr) (cap : Nat) (rs : List Rw) (k0 : Int) (w : World) (hv : LView w ao (nums (mkRs k0 rs))) (hn : rs.length ≤ 60) (hat : ∀ r ∈ rs, r.2.2.length ≤ 4) (h0 : 1 ≤ k0) (h1 : k0 ≤ 1000000) :
    Calls Try.prog 106 #[.slice ao rs.length cap, .int .i64 k0] w fun e w' => e = .returned (.int .i64 (k0 + totR rs)) ∧ w' = w := by
  have HM := hidP hv
  have HAT := hidP hat
  have htot := totR_le rs 60 4 hn hat
  clear hv hat
  go_enter Try.func106, Try.ntmps106
  go_wp2_with fail
  go_loop [1, 5] (fun kk i => ∃ j : Nat, j ≤ rs.length ∧ i = .int .i64 j ∧ kk = .int .i64 (k0 + totR (rs.take j))) (fun _ i => rs.length - (intOf i).toNat)
  case atStart => exact ⟨0, Nat.zero_le _, rfl, by simp [totR]⟩
  case round =>
    obtain ⟨j, hj, rfl, rfl⟩ := hrel
    by_cases hlt : j < rs.length
    · have hl2 : j < (nums (mkRs k0 rs)).length := by simp [nums, mkRs_length, hlt]
      obtain ⟨b, a, c, rfl, hb, c1, va⟩ := HM.out.at hl2
      have e : (nums (mkRs k0 rs))[j] = tabL (fun i => k0 + totR (rs.take j) + i) rs[j].2.2.length := by
        simp only [nums, List.getElem_map]
        rw [mkRs_at k0 rs j hlt]
      rw [e] at c1 va
      rw [tabL_length] at c1
      have hl4 := HAT.out _ (List.getElem_mem hlt)
      have ht1 := totR_le (rs.take j) 60 4 (by simp; omega) (fun x hx => HAT.out x (List.mem_of_mem_take hx))
      have HH := hidP (heldI a c rs[j].2.2.length (k0 + totR (rs.take j)) w va (by omega) (by omega) (by omega))
      have HTK := hidP (totR_take rs j hlt)
      have hi0 : (0 : Int) ≤ (j : Int) := Int.natCast_nonneg _
      have hi1 : (j : Int) < (rs.length : Int) := by omega
      have hneg : ¬ (k0 + (totR (rs.take j) : Int) + (rs[j].2.2.length : Int) < 0) := by omega
      clear va e hl2
      generalize rs[j].2.2.length = m at *
      go_wp2_with fail
      refine HH.out.mono ?_
      rintro e w2 ⟨rfl, rfl⟩
      go_wp2_with fail
      go_round
      case rel => exact ⟨j + 1, by omega, by go_num, by rw [HTK.out]; congr 1; omega⟩
      case measure => simp [intOf]; omega
    · obtain rfl : j = rs.length := by omega
      go_wp2_with fail
      go_ret
      exact ⟨rfl, rfl⟩

end Go.Proofs.Ytbmljcpeonopmaa
namespace Go.Proofs.Ytbmljcpeonopmaa
open Go Go.RowKit

theorem nums_length (rs : List Rw) : (nums rs).length = rs.length := by simp [nums]
theorem nums_snoc (rs : List Rw) (r : Rw) : nums (rs ++ [r]) = nums rs ++ [r.2.2] := by simp [nums]
theorem LRow.same {base : Nat} {w w' : World} {g c : Nat} {rs : List Rw} (h : LRow base w g c rs) (e : w'.heap[g]? = w.heap[g]?) : LRow base w' g c rs := by
  obtain ⟨h1, h2⟩ := h
  refine ⟨h1, ?_⟩
  rcases h2 with h2 | ⟨g', cp, cur, e1, h3, h4, h5⟩
  · exact Or.inl h2
  · have hg : g = g' := by injection e1 with e2; injection e2 with e2; injection e2
    subst hg
    exact Or.inr ⟨g, cp, cur, e1, h3, e.trans h4, h5⟩
theorem LMem.same {base : Nat} {w w' : World} {g c : Nat} {rs : List Rw} (h : LMem base w g c rs) (e : ∀ i, (i = g ∨ ∃ r ∈ rs, i = r.1) → w'.heap[i]? = w.heap[i]?) : LMem base w' g c rs :=
  ⟨h.row.same (e g (Or.inl rfl)), fun x hx => (h.rows x hx).same (e x.1 (Or.inr ⟨x, hx, rfl⟩)), h.apart, h.off⟩
theorem LMem.all {base : Nat} {w : World} {g c : Nat} {rs : List Rw} (h : LMem base w g c rs) : ∀ i, (i = g ∨ ∃ r ∈ rs, i = r.1) → base ≤ i ∧ i < w.heap.size := fun i hi => by
  rcases hi with rfl | ⟨r, hr, rfl⟩
  · exact h.row.lt
  · exact (h.rows r hr).lt
/-- Nothing, or a row of rows of the call's own. -/
def LOut (base : Nat) (w : World) (ao : Option Addr) (c : Nat) (rs : List Rw) : Prop := (ao = none ∧ c = 0 ∧ rs = []) ∨ ∃ g, ao = some ⟨g, 0, none⟩ ∧ LMem base w g c rs
theorem LOut.view {base : Nat} {w : World} {ao : Option Addr} {c : Nat} {rs : List Rw} (h : LOut base w ao c rs) : LView w ao (nums rs) := by
  rcases h with ⟨_, _, rfl⟩ | ⟨g, rfl, h⟩
  · exact Or.inl rfl
  · exact h.view
theorem LOut.below {base : Nat} {w w' : World} {ao : Option Addr} {c : Nat} {rs : List Rw} (h : LOut base w ao c rs) (hb : Below w.heap.size w w') : LOut base w' ao c rs :=
  h.imp id fun ⟨g, e, hm⟩ => ⟨g, e, hm.below hb⟩
theorem LOut.same {base : Nat} {w w' : World} {ao : Option Addr} {c : Nat} {rs : List Rw} (h : LOut base w ao c rs) (e : ∀ i, base ≤ i → i < w.heap.size → w'.heap[i]? = w.heap[i]?) : LOut base w' ao c rs :=
  h.imp id fun ⟨g, e1, hm⟩ => ⟨g, e1, hm.same fun i hi => e i (hm.all i hi).1 (hm.all i hi).2⟩
theorem nums_small {rs : List Rw} {R : List (List Int)} (h : nums rs = R) (hR : R.length ≤ 60 ∧ ∀ l ∈ R, l.length ≤ 4) : rs.length = R.length ∧ rs.length ≤ 60 ∧ ∀ r ∈ rs, r.2.2.length ≤ 4 := by
  subst h
  refine ⟨(nums_length rs).symm, by rw [← nums_length]; exact hR.1, fun r hr => hR.2 _ (List.mem_map_of_mem hr)⟩

set_option maxHeartbeats 400000 in
theorem markSS_nil (ao : Option Addr) (cap : Nat) (k0 : Int) (w : World) :
    Calls Try.prog 105 #[.slice ao 0 cap, .int .i64 k0] w fun e w' => e = .returned (.int .i64 k0) ∧ w' = w := by
  go_enter Try.func105, Try.ntmps105
  go_wp2
  refine wp_loop_rounds 1 ?_
  rw [rounds_succ]
  go_wp2
  go_ret
  exact ⟨rfl, rfl⟩
/-- What is handed out is marked: only its own blocks turn, and what it has then is told. -/
theorem markOL (base c : Nat) (ao : Option Addr) (rs : List Rw) (w : World) (h : LOut base w ao c rs) (hn : rs.length ≤ 60) (hat : ∀ r ∈ rs, r.2.2.length ≤ 4) :
    Calls Try.prog 105 #[.slice ao rs.length c, .int .i64 1] w fun e w' => e = .returned (.int .i64 (1 + totR rs)) ∧ LView w' ao (nums (mkRs 1 rs)) ∧ w'.os = w.os ∧ w'.tape = w.tape ∧ w'.output = w.output ∧ w.heap.size ≤ w'.heap.size ∧ ∀ i, i < w.heap.size → i < base → w'.heap[i]? = w.heap[i]? := by
  rcases h with ⟨rfl, rfl, rfl⟩ | ⟨g, rfl, hm⟩
  · refine (markSS_nil none 0 1 w).mono ?_
    rintro e w' ⟨rfl, rfl⟩
    exact ⟨rfl, Or.inl rfl, rfl, rfl, rfl, Nat.le_refl _, fun _ _ _ => rfl⟩
  · refine (markSS base g c rs 1 w hm hn hat (by omega) (by omega)).mono ?_
    rintro e w' ⟨rfl, hm', h1, h2, h3, h4, h5⟩
    exact ⟨rfl, hm'.view, h1, h2, h3, h4, fun i hi hb => h5 i hi (fun r hr e => by have := (hm.rows r hr).lt.1; omega)⟩

end Go.Proofs.Ytbmljcpeonopmaa
