/-
  The laws' own helpers markKnotS and heldKnotS: knots that were handed out are written over, and held.
-/
import Derived.Test.YtlnkmjnbippjjaaKEq
namespace Go.Proofs.Ytlnkmjnbippjjaa
open Go Go.RowKit

theorem dkCells_id (pre : List Dk) (d : Dk) (rest : List Dk) (v : Int) : (dkCells (pre ++ d :: rest)).set (pre.length * 5) (.int .i64 v) = dkCells (pre ++ ((v, d.1.2), d.2) :: rest) := by
  induction pre with
  | nil => rfl
  | cons p pre ih =>
    rw [List.cons_append, List.cons_append, dkCells, dkCells, ← ih, List.length_cons, show (pre.length + 1) * 5 = (pre.length * 5) + 1 + 1 + 1 + 1 + 1 by omega]
    rfl
theorem dkCells_axis (pre : List Dk) (d : Dk) (rest : List Dk) (v : Int) : (dkCells (pre ++ d :: rest)).set (pre.length * 5 + 2) (.int .i64 v) = dkCells (pre ++ (d.1, v, d.2.2) :: rest) := by
  induction pre with
  | nil => rfl
  | cons p pre ih =>
    rw [List.cons_append, List.cons_append, dkCells, dkCells, ← ih, List.length_cons, show (pre.length + 1) * 5 + 2 = (pre.length * 5 + 2) + 1 + 1 + 1 + 1 + 1 by omega]
    rfl
theorem KRow.ident {base : Nat} {w : World} {g c : Nat} {pre rest : List Dk} {d : Dk} (h : KRow base w g c (pre ++ d :: rest)) (v : Int) : KRow base (w.setCell ⟨g, pre.length * 5, none⟩ (.int .i64 v)) g c (pre ++ ((v, d.1.2), d.2) :: rest) := by
  have h1 := (World.ownsRow.stored h (pre.length * 5) (.int .i64 v)).1
  rw [dkCells_id] at h1
  exact KRow.of h1 (by simp) rfl
theorem KRow.axis {base : Nat} {w : World} {g c : Nat} {pre rest : List Dk} {d : Dk} (h : KRow base w g c (pre ++ d :: rest)) (v : Int) : KRow base (w.setCell ⟨g, pre.length * 5 + 2, none⟩ (.int .i64 v)) g c (pre ++ (d.1, v, d.2.2) :: rest) := by
  have h1 := (World.ownsRow.stored h (pre.length * 5 + 2) (.int .i64 v)).1
  rw [dkCells_axis] at h1
  exact KRow.of h1 (by simp) rfl

/-- A knot written over from k on. -/
def mkD (k : Int) (d : Dk) : Dk := ((k, d.1.2.1, d.1.2.2.1, tabL (fun i => k + 1 + i) d.1.2.2.2.length), k + 1 + d.1.2.2.2.length, k + 1 + d.1.2.2.2.length + 1, k + 1 + d.1.2.2.2.length + 1 + 1)
def mkS (k : Int) (d : Dk) : Int := k + 1 + d.1.2.2.2.length + 1 + 1 + 1
def mkL : Int → List Dk → List Dk
  | _, [] => []
  | k, d :: ds => mkD k d :: mkL (mkS k d) ds
def mkN : Int → List Dk → Int
  | k, [] => k
  | k, d :: ds => mkN (mkS k d) ds
theorem mkL_length (k : Int) (ds : List Dk) : (mkL k ds).length = ds.length := by
  induction ds generalizing k with
  | nil => rfl
  | cons d ds ih => simp [mkL, ih]
theorem mkL_snoc (k : Int) (ds : List Dk) (d : Dk) : mkL k (ds ++ [d]) = mkL k ds ++ [mkD (mkN k ds) d] := by
  induction ds generalizing k with
  | nil => rfl
  | cons x xs ih => simp only [List.cons_append, mkL, mkN, ih]
theorem mkN_snoc (k : Int) (ds : List Dk) (d : Dk) : mkN k (ds ++ [d]) = mkS (mkN k ds) d := by
  induction ds generalizing k with
  | nil => rfl
  | cons x xs ih => simp only [List.cons_append, mkN, ih]
theorem mkN_le (k : Int) (ds : List Dk) (h : ∀ d ∈ ds, d.1.2.2.2.length ≤ 4) : k ≤ mkN k ds ∧ mkN k ds ≤ k + 8 * ds.length := by
  induction ds generalizing k with
  | nil => simp [mkN]
  | cons x xs ih =>
    have h1 := h x (List.mem_cons_self ..)
    have h2 := ih (mkS k x) (fun d hd => h d (List.mem_cons_of_mem _ hd))
    unfold mkN
    unfold mkS at *
    simp only [List.length_cons]
    omega
/-- Knots that were handed out: a row, and each place a row of its own. -/
def KHeld (B : Nat) (w : World) (g c : Nat) (es : List Dk) : Prop := KRow B w g c es ∧ KOuts B w g es
theorem take_mid {es : List Dk} {i : Nat} (h : i < es.length) : es.take (i + 1) = es.take i ++ [dnth es i] := by
  rw [List.take_add_one, List.getElem?_eq_getElem h]; simp [dnth, List.getD, h]
theorem drop_mid {es : List Dk} {i : Nat} (h : i < es.length) : es.drop i = dnth es i :: es.drop (i + 1) := by
  rw [List.drop_eq_getElem_cons h]; simp [dnth, List.getD, h]
/-- One knot of a row handed out is written over. -/
theorem KHeld.over {B : Nat} {w w' : World} {g h : Nat} {pre rest : List Dk} {d : Dk} {xs : List Int} (hk : KOuts B w g (pre ++ d :: rest)) (hd : d.1.2.1 = some ⟨h, 0, none⟩) (hg : w.grownBy w' (some h)) (hi : IRow B w' h d.1.2.2.1 xs) (d' : Dk) (e1 : d'.1.2.1 = d.1.2.1) (e2 : d'.1.2.2.1 = d.1.2.2.1) (e3 : d'.1.2.2.2 = xs) : KOuts B w' g (pre ++ d' :: rest) := by
  obtain ⟨ha, hp⟩ := hk
  obtain ⟨p1, p2, p3⟩ := List.pairwise_append.1 hp
  obtain ⟨p4, p5⟩ := List.pairwise_cons.1 p2
  have hkeep : ∀ x ∈ pre ++ d :: rest, x.1.2.1 ≠ d.1.2.1 → ∃ q, x.1.2.1 = some ⟨q, 0, none⟩ ∧ IRow B w' q x.1.2.2.1 x.1.2.2.2 ∧ q ≠ g := fun x hx hne => by
    obtain ⟨q, e, r, n⟩ := ha x hx
    refine ⟨q, e, r.kept hg (fun y => hne ?_), n⟩
    injection y with y
    rw [e, hd, y]
  refine ⟨fun x hx => ?_, List.pairwise_append.2 ⟨p1, List.pairwise_cons.2 ⟨fun b hb => by rw [e1]; exact p4 b hb, p5⟩, fun a ha' b hb => ?_⟩⟩
  · rcases List.mem_append.1 hx with hx1 | hx1
    · exact hkeep x (List.mem_append_left _ hx1) (p3 x hx1 d (List.mem_cons_self ..))
    · rcases List.mem_cons.1 hx1 with e | hx2
      · obtain ⟨q, e', r, n⟩ := ha d (List.mem_append_right _ (List.mem_cons_self ..))
        rw [hd] at e'
        injection e' with e'
        injection e' with e'
        subst e
        refine ⟨h, by rw [e1]; exact hd, by rw [e2, e3]; exact hi, by omega⟩
      · exact hkeep x (List.mem_append_right _ (List.mem_cons_of_mem _ hx2)) (fun y => p4 x hx2 y.symm)
  · rcases List.mem_cons.1 hb with e | hb2
    · subst e; rw [e1]; exact p3 a ha' d (List.mem_cons_self ..)
    · exact p3 a ha' b (List.mem_cons_of_mem _ hb2)

/-- Of the blocks that were there ahead of B, none has changed. -/
def KChg (B : Nat) (w w' : World) : Prop := w'.os = w.os ∧ w'.tape = w.tape ∧ w'.output = w.output ∧ w.heap.size ≤ w'.heap.size ∧ ∀ i, i < w.heap.size → i < B → w'.heap[i]? = w.heap[i]?
theorem KChg.grown {B g : Nat} {w w1 w2 : World} (h : KChg B w w1) (k : w1.grownBy w2 (some g)) (hg : B ≤ g) : KChg B w w2 :=
  ⟨k.os.trans h.1, k.tape.trans h.2.1, k.output.trans h.2.2.1, Nat.le_trans h.2.2.2.1 k.size, fun i hi hb => (k.block i (Nat.lt_of_lt_of_le hi h.2.2.2.1) (fun e => by injection e with e; omega)).trans (h.2.2.2.2 i hi hb)⟩

theorem KRow.same {base : Nat} {w : World} {g c : Nat} {pre rest : List Dk} {d d' : Dk} (h : KRow base w g c (pre ++ d :: rest)) (e0 : d'.1.1 = d.1.1) (e1 : d'.1.2.1 = d.1.2.1) (e2 : d'.1.2.2.1 = d.1.2.2.1) (e3 : d'.1.2.2.2.length = d.1.2.2.2.length) (e4 : d'.2 = d.2) : KRow base w g c (pre ++ d' :: rest) := by
  refine KRow.of h (by simp) ?_
  rw [dkCells_append, dkCells_append, dkCells, dkCells, e0, e1, e2, e3, e4]
theorem KRow.cellM {base : Nat} {w : World} {g c : Nat} {pre rest : List Dk} {d : Dk} (h : KRow base w g c (pre ++ d :: rest)) : w.cell? ⟨g, pre.length * 5, none⟩ = some (.int .i64 d.1.1) ∧ w.cell? ⟨g, pre.length * 5 + 1, none⟩ = some (.slice d.1.2.1 d.1.2.2.2.length d.1.2.2.1) ∧ w.cell? ⟨g, pre.length * 5 + 2, none⟩ = some (.int .i64 d.2.1) ∧ w.cell? ⟨g, pre.length * 5 + 3, none⟩ = some (.int .i64 d.2.2.1) ∧ w.cell? ⟨g, pre.length * 5 + 4, none⟩ = some (.int .i64 d.2.2.2) := by
  have h1 := h.cell (i := pre.length) (by simp)
  have e : dnth (pre ++ d :: rest) pre.length = d := by simp [dnth, List.getD]
  rw [e] at h1; exact h1

set_option maxRecDepth 100000 in
set_option maxHeartbeats 2000000 in
theorem markKS (B g c : Nat) (k0 : Int) (es : List Dk) (w : World) (hr : KRow B w g c es) (ho : KOuts B w g es) (h4 : ∀ d ∈ es, d.1.2.2.2.length ≤ 4) (hn : es.length ≤ 60) (h0 : 1 ≤ k0) (h1 : k0 ≤ 1000000) :
    Calls Try.prog 17 #[.slice (some ⟨g, 0, none⟩) es.length c, .int .i64 k0] w fun e w' => e = .returned (.int .i64 (mkN k0 es)) ∧ KRow B w' g c (mkL k0 es) ∧ KOuts B w' g (mkL k0 es) ∧ KChg B w w' := by
  have hgl := hr.lt
  have H0 := hidP (And.intro hr ho)
  have H4 := hidP h4
  clear hr ho h4
  go_enter Try.func17, Try.ntmps17
  go_wp2
  go_loopw [1, 5] (fun kk i wr => ∃ k : Nat, k ≤ es.length ∧ i = .int .i64 k ∧ kk = .int .i64 (mkN k0 (es.take k)) ∧ KRow B wr g c (mkL k0 (es.take k) ++ es.drop k) ∧ KOuts B wr g (mkL k0 (es.take k) ++ es.drop k) ∧ KChg B w wr) (fun _ i _ => es.length - (intOf i).toNat)
  case atStart => exact ⟨0, Nat.zero_le _, rfl, rfl, H0.out.1, H0.out.2, ⟨rfl, rfl, rfl, Nat.le_refl _, fun _ _ _ => rfl⟩⟩
  case round =>
    obtain ⟨k, hk, rfl, rfl, hrow, hout, hchg⟩ := hrel
    by_cases hlt : k < es.length
    · have hb := mkN_le k0 (es.take k) (fun d hd => H4.out d (List.mem_of_mem_take hd))
      have htl : (es.take k).length = k := by simp; omega
      have hml : (mkL k0 (es.take k)).length = k := by rw [mkL_length, htl]
      rw [htl] at hb
      have hd4 := H4.out (dnth es k) (by simp [dnth, List.getD, hlt])
      have hE1 : mkL k0 (es.take (k + 1)) = mkL k0 (es.take k) ++ [mkD (mkN k0 (es.take k)) (dnth es k)] := by rw [take_mid hlt, mkL_snoc]
      have hE2 : mkN k0 (es.take (k + 1)) = mkS (mkN k0 (es.take k)) (dnth es k) := by rw [take_mid hlt, mkN_snoc]
      have HE1 := hidP hE1
      have HE2 := hidP hE2
      clear hE1 hE2
      rw [drop_mid hlt] at hrow hout
      have hrl : (es.drop (k + 1)).length = es.length - (k + 1) := by simp
      have HTK : Hid (∀ x : List Dk, mkL k0 (es.take k) ++ [mkD (mkN k0 (es.take k)) (dnth es k)] ++ x = mkL k0 (es.take k) ++ mkD (mkN k0 (es.take k)) (dnth es k) :: x) := fun x => by simp
      generalize mkL k0 (es.take k) = pre at *
      generalize mkN k0 (es.take k) = N at *
      generalize dnth es k = d at *
      generalize hrest : es.drop (k + 1) = rest at *
      have HRST := hidP hrest
      clear hrest
      subst hml
      have hlen : (pre ++ d :: rest).length = es.length := by simp; omega
      obtain ⟨h, hd, hi, hne⟩ := hout.1 d (by simp)
      have hil := hi.lt
      obtain ⟨x0, -⟩ := hrow.cellM
      have f0 : ∀ j, wr.frozen? ⟨g, j, none⟩ = false := fun j => World.ownsRow.frozenAt hrow j
      have r1 := hrow.ident N
      have s1 := grown_setCell wr g (pre.length * 5) (.int .i64 N)
      obtain ⟨-, x1, -⟩ := r1.cellM
      have hi1 := hi.kept s1 (fun e => hne (Option.some.inj e))
      have o1 := hout.kept s1
      have HM := hidP (markI B h d.1.2.2.1 (N + 1) d.1.2.2.2 _ hi1 (by omega) (by omega) (by omega))
      have c1 := hchg.grown s1 hgl.1
      simp only at x1
      rw [hd] at x1
      have H1 := hidP (And.intro r1 (And.intro o1 c1))
      have hlt0 : (0 : Int) ≤ (pre.length : Int) := by omega
      have hlt1 : (pre.length : Int) < (es.length : Int) := by omega
      have hf1 := f0 (pre.length * 5)
      have HD := hidP hd
      clear hrow hout hchg hi r1 s1 hi1 o1 c1 f0 hd
      go_wp2_with fail
      obtain ⟨W1, hW1⟩ : ∃ W1, W1 = wr.setCell ⟨g, pre.length * 5, none⟩ (.int .i64 N) := ⟨_, rfl⟩
      rw [← hW1]
      rw [← hW1] at HM H1
      clear hW1 x0 hf1 x1
      refine HM.out.mono ?_
      rintro e w2 ⟨rfl, hi2, g2⟩
      obtain ⟨r1, o1, c1⟩ := H1.out
      have r2 := r1.kept g2 (fun e => hne (Option.some.inj e).symm)
      have c2 := c1.grown g2 (by omega)
      have o2 : KOuts B w2 g (pre ++ mkD N d :: rest) := KHeld.over o1 HD.out g2 hi2 (mkD N d) rfl rfl rfl
      obtain ⟨-, -, y2, y3, y4⟩ := r2.cellM
      have hf : ∀ j, w2.frozen? ⟨g, j, none⟩ = false := fun j => World.ownsRow.frozenAt r2 j
      have e2 := hf (pre.length * 5 + 2)
      have e3 := hf (pre.length * 5 + 3)
      have e4 := hf (pre.length * 5 + 4)
      have r3 := ((r2.axis (N + 1 + d.1.2.2.2.length)).less (N + 1 + d.1.2.2.2.length + 1)).more (N + 1 + d.1.2.2.2.length + 1 + 1)
      have t1 := grown_setCell w2 g (pre.length * 5 + 2) (.int .i64 (N + 1 + d.1.2.2.2.length))
      have t2 := grown_setCell (w2.setCell ⟨g, pre.length * 5 + 2, none⟩ (.int .i64 (N + 1 + d.1.2.2.2.length))) g (pre.length * 5 + 3) (.int .i64 (N + 1 + d.1.2.2.2.length + 1))
      have t3 := grown_setCell ((w2.setCell ⟨g, pre.length * 5 + 2, none⟩ (.int .i64 (N + 1 + d.1.2.2.2.length))).setCell ⟨g, pre.length * 5 + 3, none⟩ (.int .i64 (N + 1 + d.1.2.2.2.length + 1))) g (pre.length * 5 + 4) (.int .i64 (N + 1 + d.1.2.2.2.length + 1 + 1))
      have r4 := r3.same (d' := mkD N d) rfl rfl rfl (by simp [mkD, tabL_length]) rfl
      have o4 := ((o2.kept t1).kept t2).kept t3
      have c4 := ((c2.grown t1 hgl.1).grown t2 hgl.1).grown t3 hgl.1
      have HF : Hid (∀ W, W = ((w2.setCell ⟨g, pre.length * 5 + 2, none⟩ (.int .i64 (N + 1 + d.1.2.2.2.length))).setCell ⟨g, pre.length * 5 + 3, none⟩ (.int .i64 (N + 1 + d.1.2.2.2.length + 1))).setCell ⟨g, pre.length * 5 + 4, none⟩ (.int .i64 (N + 1 + d.1.2.2.2.length + 1 + 1)) → KRow B W g c (mkL k0 (es.take (pre.length + 1)) ++ es.drop (pre.length + 1)) ∧ KOuts B W g (mkL k0 (es.take (pre.length + 1)) ++ es.drop (pre.length + 1)) ∧ KChg B w W) := fun W e => by
        rw [e, HE1.out, HRST.out, HTK.out]; exact ⟨r4, o4, c4⟩
      have y3' : (w2.setCell ⟨g, pre.length * 5 + 2, none⟩ (.int .i64 (N + 1 + d.1.2.2.2.length))).cell? ⟨g, pre.length * 5 + 3, none⟩ = some (.int .i64 d.2.2.1) := by rw [cell_setOther _ _ _ _ _ (by omega)]; exact y3
      have y4' : ((w2.setCell ⟨g, pre.length * 5 + 2, none⟩ (.int .i64 (N + 1 + d.1.2.2.2.length))).setCell ⟨g, pre.length * 5 + 3, none⟩ (.int .i64 (N + 1 + d.1.2.2.2.length + 1))).cell? ⟨g, pre.length * 5 + 4, none⟩ = some (.int .i64 d.2.2.2) := by rw [cell_setOther _ _ _ _ _ (by omega), cell_setOther _ _ _ _ _ (by omega)]; exact y4
      clear r1 o1 c1 r2 c2 o2 hf r3 t1 t2 t3 r4 o4 c4 H1 HM hi2 g2
      go_wp2_with fail
      go_roundw
      case rel => exact ⟨pre.length + 1, by omega, by go_num, by rw [HE2.out]; rfl, (HF.out _ rfl).1, (HF.out _ rfl).2.1, (HF.out _ rfl).2.2⟩
      case measure => simp [intOf]; omega
    · obtain rfl : k = es.length := by omega
      rw [List.take_length, List.drop_length, List.append_nil] at hrow hout
      have HE : Hid (KRow B wr g c (mkL k0 es) ∧ KOuts B wr g (mkL k0 es) ∧ KChg B w wr) := ⟨hrow, hout, hchg⟩
      have HN : Hid (mkN k0 (es.take es.length) = mkN k0 es) := by show mkN k0 (es.take es.length) = mkN k0 es; rw [List.take_length]
      clear hrow hout hchg
      go_wp2_with fail
      go_ret
      exact ⟨ret_int HN.out, HE.out⟩

theorem KHeld.at {B : Nat} {w : World} {g c : Nat} {es : List Dk} (hr : KRow B w g c es) (ho : KOuts B w g es) {i : Nat} (hi : i < es.length) : w.cell? ⟨g, i * 5, none⟩ = some (.int .i64 (dnth es i).1.1) ∧ (∃ h, w.cell? ⟨g, i * 5 + 1, none⟩ = some (.slice (some ⟨h, 0, none⟩) (dnth es i).1.2.2.2.length (dnth es i).1.2.2.1) ∧ View w (some ⟨h, 0, none⟩) (dnth es i).1.2.2.2) ∧ w.cell? ⟨g, i * 5 + 2, none⟩ = some (.int .i64 (dnth es i).2.1) ∧ w.cell? ⟨g, i * 5 + 3, none⟩ = some (.int .i64 (dnth es i).2.2.1) ∧ w.cell? ⟨g, i * 5 + 4, none⟩ = some (.int .i64 (dnth es i).2.2.2) := by
  obtain ⟨c0, c1, c2, c3, c4⟩ := hr.cell hi
  obtain ⟨h, e, r, n⟩ := ho.1 (dnth es i) (by simp [dnth, List.getD, hi])
  rw [e] at c1
  exact ⟨c0, ⟨h, c1, r.view⟩, c2, c3, c4⟩
theorem mkL_nth (k : Int) (es : List Dk) (i : Nat) (hi : i < es.length) : dnth (mkL k es) i = mkD (mkN k (es.take i)) (dnth es i) := by
  induction es generalizing k i with
  | nil => simp at hi
  | cons d ds ih =>
    match i with
    | 0 => rfl
    | i + 1 => exact ih (mkS k d) i (by simpa using hi)

set_option maxRecDepth 100000 in
set_option maxHeartbeats 2000000 in
theorem heldKS (B g c : Nat) (k0 : Int) (es : List Dk) (w : World) (hr : KRow B w g c (mkL k0 es)) (ho : KOuts B w g (mkL k0 es)) (h4 : ∀ d ∈ es, d.1.2.2.2.length ≤ 4) (hn : es.length ≤ 60) (h0 : 1 ≤ k0) (h1 : k0 ≤ 1000000) :
    Calls Try.prog 18 #[.slice (some ⟨g, 0, none⟩) es.length c, .int .i64 k0] w fun e w' => e = .returned (.int .i64 (mkN k0 es)) ∧ w' = w := by
  have HH := hidP (And.intro hr ho)
  have H4 := hidP h4
  clear hr ho h4
  go_enter Try.func18, Try.ntmps18
  go_wp2
  go_loop [1, 5] (fun kk i => ∃ k : Nat, k ≤ es.length ∧ i = .int .i64 k ∧ kk = .int .i64 (mkN k0 (es.take k))) (fun _ i => es.length - (intOf i).toNat)
  case atStart => exact ⟨0, Nat.zero_le _, rfl, rfl⟩
  case round =>
    obtain ⟨k, hk, rfl, rfl⟩ := hrel
    by_cases hlt : k < es.length
    · have hb := mkN_le k0 (es.take k) (fun d hd => H4.out d (List.mem_of_mem_take hd))
      have htl : (es.take k).length = k := by simp; omega
      rw [htl] at hb
      have hd4 := H4.out (dnth es k) (by simp [dnth, List.getD, hlt])
      have hE2 : mkN k0 (es.take (k + 1)) = mkS (mkN k0 (es.take k)) (dnth es k) := by rw [take_mid hlt, mkN_snoc]
      have HE2 := hidP hE2
      clear hE2
      obtain ⟨c0, ⟨h, c1, hv⟩, c2, c3, c4⟩ := KHeld.at HH.out.1 HH.out.2 (i := k) (by rw [mkL_length]; exact hlt)
      rw [mkL_nth k0 es k hlt] at c0 c1 c2 c3 c4 hv
      generalize mkN k0 (es.take k) = N at *
      generalize dnth es k = d at *
      simp only [mkD, tabL_length] at c0 c1 c2 c3 c4 hv
      have HI := hidP (heldI (some ⟨h, 0, none⟩) d.1.2.2.1 d.1.2.2.2.length (N + 1) w hv (by omega) (by omega) (by omega))
      have n0 : (N != N) = false := by simp
      have n1 : ((N + 1 + (d.1.2.2.2.length : Int)) != (N + 1 + (d.1.2.2.2.length : Int))) = false := by simp
      have n2 : ((N + 1 + (d.1.2.2.2.length : Int) + 1) != (N + 1 + (d.1.2.2.2.length : Int) + 1)) = false := by simp
      have n3 : ((N + 1 + (d.1.2.2.2.length : Int) + 1 + 1) != (N + 1 + (d.1.2.2.2.length : Int) + 1 + 1)) = false := by simp
      have n4 : ¬ (N + 1 + (d.1.2.2.2.length : Int) < 0) := by omega
      have hlt0 : (0 : Int) ≤ (k : Int) := by omega
      have hlt1 : (k : Int) < (es.length : Int) := by omega
      clear hv HH
      go_wp2_with fail
      refine HI.out.mono ?_
      rintro e w1 ⟨rfl, hw1⟩
      rw [hw1]
      clear hw1 HI
      go_wp2_with fail
      go_round
      case rel => exact ⟨k + 1, by omega, by go_num, by rw [HE2.out]; rfl⟩
      case measure => simp [intOf]; omega
    · obtain rfl : k = es.length := by omega
      have HN : Hid (mkN k0 (es.take es.length) = mkN k0 es) := by show mkN k0 (es.take es.length) = mkN k0 es; rw [List.take_length]
      go_wp2_with fail
      go_ret
      first | exact ⟨rfl, rfl⟩ | exact ⟨ret_int HN.out, rfl⟩

end Go.Proofs.Ytlnkmjnbippjjaa
