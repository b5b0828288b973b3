/-
  The program's gatherings: one mark more (the closure add).
  All gatherings in memory: a row of them, each with variables of its own.
  The program's gatherings: what they cost, and their mean (the closures cost and mean).
-/
import Derived.Test.YthcjkneifkmkdaaJGatZz
import Derived.Test.YthcjkneifkmkdaaLastZz
import Derived.Deep.Cut
namespace Go.Proofs.Ythcjkneifkmkdaa
open Go Go.RowKit

/-- Of the blocks that were there, at most those of L have changed. -/
def ChgQ (L : List Nat) (w w' : World) : Prop := w'.os = w.os ∧ w'.tape = w.tape ∧ w'.output = w.output ∧ w.heap.size ≤ w'.heap.size ∧ ∀ i, i < w.heap.size → i ∉ L → w'.heap[i]? = w.heap[i]?
theorem ChgQ.refl (L : List Nat) (w : World) : ChgQ L w w := ⟨rfl, rfl, rfl, Nat.le_refl _, fun _ _ _ => rfl⟩
theorem ChgQ.set {L : List Nat} {w w' : World} (h : ChgQ L w w') {b j : Nat} (hb : b ∈ L) (v : Value) : ChgQ L w (w'.setCell ⟨b, j, none⟩ v) := by
  have k := grown_setCell w' b j v
  refine ⟨k.os.trans h.1, k.tape.trans h.2.1, k.output.trans h.2.2.1, Nat.le_trans h.2.2.2.1 k.size, fun i hi hn => ?_⟩
  exact (k.block i (Nat.lt_of_lt_of_le hi h.2.2.2.1) (fun e => by injection e with e; subst e; exact hn hb)).trans (h.2.2.2.2 i hi hn)
theorem ChgQ.below {L : List Nat} {w w1 w2 : World} (h : ChgQ L w w1) (k : Below w1.heap.size w1 w2) : ChgQ L w w2 :=
  ⟨k.os.trans h.1, k.tape.trans h.2.1, k.output.trans h.2.2.1, Nat.le_trans h.2.2.2.1 k.size, fun i hi hn => (k.block i (Nat.lt_of_lt_of_le hi h.2.2.2.1)).trans (h.2.2.2.2 i hi hn)⟩
theorem ChgQ.own {L : List Nat} {w w' : World} (h : ChgQ L w w') {b : Nat} {xs : List Int} (ho : Own w b xs) (hb : b ∉ L) : Own w' b xs := (h.2.2.2.2 b ho.lt hb).trans ho
theorem ChgQ.seg {L : List Nat} {w w' : World} (h : ChgQ L w w') {b off : Nat} {xs : List Int} (hs : Seg w b off xs) (hl : b < w.heap.size) (hb : b ∉ L) : Seg w' b off xs := fun i hi =>
  (World.cell?_of_block (w := w) (a := ⟨b, off + i, none⟩) (h.2.2.2.2 b hl hb)).trans (hs i hi)
theorem below_chgQ {L : List Nat} {B : Nat} {w w1 w2 : World} (h : Below B w w1) (k : ChgQ L w1 w2) (hB : B ≤ w.heap.size) (hL : ∀ b ∈ L, B ≤ b) : Below B w w2 :=
  ⟨k.1.trans h.os, k.2.1.trans h.tape, k.2.2.1.trans h.output, Nat.le_trans h.size k.2.2.2.1, fun i hi => (k.2.2.2.2 i (by have := h.size; omega) (fun hm => by have := hL i hm; omega)).trans (h.block i hi)⟩

theorem GatAt.below {w w' : World} {q : Gq} {c : Value} {m k : Int} {g : Nat} {s : List Int} (h : GatAt w q c m k g s) (hb : Below w.heap.size w w') : GatAt w' q c m k g s := by
  have lt : ∀ {b : Nat} {o : Obj}, w.heap[b]? = some o → b < w.heap.size := fun e => (Array.getElem?_eq_some_iff.1 e).1
  exact ⟨(hb.block _ (lt h.hctr)).trans h.hctr, (hb.block _ (lt h.hmany)).trans h.hmany, (hb.block _ (lt h.hcost)).trans h.hcost, (hb.block _ (lt h.hsums)).trans h.hsums, h.hrow.below h.hrow.lt hb⟩
theorem GatAt.chgQ {L : List Nat} {w w' : World} {q : Gq} {c : Value} {m k : Int} {g : Nat} {s : List Int} (h : GatAt w q c m k g s) (hb : ChgQ L w w') (hn : ∀ b ∈ g :: gatL q, b ∉ L) : GatAt w' q c m k g s := by
  have lt : ∀ {b : Nat} {o : Obj}, w.heap[b]? = some o → b < w.heap.size := fun e => (Array.getElem?_eq_some_iff.1 e).1
  exact ⟨(hb.2.2.2.2 _ (lt h.hctr) (hn _ (by simp [gatL]))).trans h.hctr, (hb.2.2.2.2 _ (lt h.hmany) (hn _ (by simp [gatL]))).trans h.hmany, (hb.2.2.2.2 _ (lt h.hcost) (hn _ (by simp [gatL]))).trans h.hcost, (hb.2.2.2.2 _ (lt h.hsums) (hn _ (by simp [gatL]))).trans h.hsums, hb.own h.hrow (hn _ (by simp))⟩
theorem nodup_gat {g : Nat} {q : Gq} (h : (g :: gatL q).Nodup) : g ≠ q.1 ∧ g ≠ q.2.1 ∧ g ≠ q.2.2.1 ∧ g ≠ q.2.2.2 ∧ q.1 ≠ q.2.1 ∧ q.1 ≠ q.2.2.1 ∧ q.1 ≠ q.2.2.2 ∧ q.2.1 ≠ q.2.2.1 ∧ q.2.1 ≠ q.2.2.2 ∧ q.2.2.1 ≠ q.2.2.2 := by
  simp [gatL] at h
  omega
theorem GatAt.setMany {w : World} {q : Gq} {c : Value} {m k : Int} {g : Nat} {s : List Int} (h : GatAt w q c m k g s) (hd : (g :: gatL q).Nodup) (m' : Int) : GatAt (w.setCell ⟨q.2.1, 0, none⟩ (.int .i64 m')) q c m' k g s := by
  obtain ⟨d1, d2, d3, d4, d5, d6, d7, d8, d9, d10⟩ := nodup_gat hd
  refine ⟨(Below.heap_setCell w ⟨q.2.1, 0, none⟩ _ _ (by simp only; omega)).trans h.hctr, ?_, (Below.heap_setCell w ⟨q.2.1, 0, none⟩ _ _ (by simp only; omega)).trans h.hcost, (Below.heap_setCell w ⟨q.2.1, 0, none⟩ _ _ (by simp only; omega)).trans h.hsums, (Below.heap_setCell w ⟨q.2.1, 0, none⟩ _ _ (by simp only; omega)).trans h.hrow⟩
  rw [heap_setCell_same w q.2.1 0 _ 2 _ h.hmany]; simp
theorem GatAt.setCost {w : World} {q : Gq} {c : Value} {m k : Int} {g : Nat} {s : List Int} (h : GatAt w q c m k g s) (hd : (g :: gatL q).Nodup) (k' : Int) : GatAt (w.setCell ⟨q.2.2.1, 0, none⟩ (.int .i64 k')) q c m k' g s := by
  obtain ⟨d1, d2, d3, d4, d5, d6, d7, d8, d9, d10⟩ := nodup_gat hd
  refine ⟨(Below.heap_setCell w ⟨q.2.2.1, 0, none⟩ _ _ (by simp only; omega)).trans h.hctr, (Below.heap_setCell w ⟨q.2.2.1, 0, none⟩ _ _ (by simp only; omega)).trans h.hmany, ?_, (Below.heap_setCell w ⟨q.2.2.1, 0, none⟩ _ _ (by simp only; omega)).trans h.hsums, (Below.heap_setCell w ⟨q.2.2.1, 0, none⟩ _ _ (by simp only; omega)).trans h.hrow⟩
  rw [heap_setCell_same w q.2.2.1 0 _ 2 _ h.hcost]; simp
theorem GatAt.setSums {w : World} {q : Gq} {c : Value} {m k : Int} {g g' : Nat} {s s' : List Int} (h : GatAt w q c m k g s) (hd : (g :: gatL q).Nodup) (ho : Own w g' s') (hg' : g' ≠ q.2.2.2) : GatAt (w.setCell ⟨q.2.2.2, 0, none⟩ (.slice (some ⟨g', 0, none⟩) s'.length s'.length)) q c m k g' s' := by
  obtain ⟨d1, d2, d3, d4, d5, d6, d7, d8, d9, d10⟩ := nodup_gat hd
  refine ⟨(Below.heap_setCell w ⟨q.2.2.2, 0, none⟩ _ _ (by simp only; omega)).trans h.hctr, (Below.heap_setCell w ⟨q.2.2.2, 0, none⟩ _ _ (by simp only; omega)).trans h.hmany, (Below.heap_setCell w ⟨q.2.2.2, 0, none⟩ _ _ (by simp only; omega)).trans h.hcost, ?_, (Below.heap_setCell w ⟨q.2.2.2, 0, none⟩ _ _ (by simp only; omega)).trans ho⟩
  rw [heap_setCell_same w q.2.2.2 0 _ 55 _ h.hsums]; simp

set_option maxHeartbeats 400000 in
theorem jPlus (b off cap k : Nat) (x : Int) (xs : List Int) (w : World) (hs : Seg w b off xs) (hk : k < xs.length) (h1 : -1000000 ≤ nth xs k) (h2 : nth xs k ≤ 1000000) (h3 : -1000 ≤ x) (h4 : x ≤ 1000) :
    Calls Try.prog 72 #[.slice (some ⟨b, off, none⟩) xs.length cap, .int .i64 k, .int .i64 x] w fun e w' => e = .returned (.int .i64 (nth xs k + x)) ∧ ∃ n, w' = w.drewN n := by
  have hc := hs k hk
  go_enter Try.func72, Try.ntmps72
  go_wp2
  go_ret
  exact ⟨rfl, 0, rfl⟩

def plusF (s p : List Int) (k : Nat) : Int := nth s k + nth p k

set_option maxRecDepth 100000 in
set_option maxHeartbeats 2000000 in
theorem iAdd (q : Gq) (bc oc cc bp op cp g : Nat) (c p s : List Int) (many cost : Int) (w : World) (hG : GatAt w q (.slice (some ⟨bc, oc, none⟩) c.length cc) many cost g s) (hd : (g :: gatL q).Nodup)
    (hsc : Seg w bc oc c) (hbc : bc < w.heap.size) (hnc : bc ∉ gatL q) (hsp : Seg w bp op p) (hbp : bp < w.heap.size) (hnp : bp ∉ gatL q) (ht : twoB c p = true) (hsl : s.length = c.length)
    (hm0 : 0 ≤ many) (hm1 : many ≤ 60) (hk0 : 0 ≤ cost) (hk1 : cost ≤ 1000000000) (hsb : ∀ k, -1000000 ≤ nth s k ∧ nth s k ≤ 1000000) :
    Calls Try.prog 70 #[.slice (some ⟨bp, op, none⟩) p.length cp, ptrV q.2.1, ptrV q.2.2.1, ptrV q.1, ptrV q.2.2.2] w fun e w' => e = .returned (.tuple #[]) ∧ ∃ g', GatAt w' q (.slice (some ⟨bc, oc, none⟩) c.length cc) (many + 1) (cost + farV c p) g' (tabL (plusF s p) c.length) ∧ w.heap.size ≤ g' ∧ ChgQ [q.2.1, q.2.2.1, q.2.2.2] w w' := by
  obtain ⟨hokc, hokp, hl⟩ := twoB_of ht
  have h4 := okB_len hokp
  have HF : Hid (farV c p = sumTo (sqF c p) c.length) := by show _ = _; rw [farV, if_pos ht]
  have hfb := farV_pos ht
  rw [HF.out] at hfb
  have hnc' : bc ≠ q.1 ∧ bc ≠ q.2.1 ∧ bc ≠ q.2.2.1 ∧ bc ≠ q.2.2.2 := by simp [gatL] at hnc; exact hnc
  have hnp' : bp ≠ q.1 ∧ bp ≠ q.2.1 ∧ bp ≠ q.2.2.1 ∧ bp ≠ q.2.2.2 := by simp [gatL] at hnp; exact hnp
  have HC : Hid (∀ W, ChgQ [q.2.1, q.2.2.1, q.2.2.2] w W → Seg W bc oc c ∧ Seg W bp op p ∧ bc < W.heap.size ∧ bp < W.heap.size) := fun W hW =>
    ⟨hW.seg hsc hbc (by simp; omega), hW.seg hsp hbp (by simp; omega), Nat.lt_of_lt_of_le hbc hW.2.2.2.1, Nat.lt_of_lt_of_le hbp hW.2.2.2.1⟩
  have HD := hidP hd
  have HT := hidP ht
  obtain ⟨W1, hW1⟩ : ∃ W1, w.setCell ⟨q.2.1, 0, none⟩ (.int .i64 (many + 1)) = W1 := ⟨_, rfl⟩
  have G1 : Hid (GatAt W1 q (.slice (some ⟨bc, oc, none⟩) c.length cc) (many + 1) cost g s ∧ ChgQ [q.2.1, q.2.2.1, q.2.2.2] w W1) := by
    refine ⟨?_, ?_⟩
    · rw [← hW1]; exact hG.setMany hd _
    · rw [← hW1]; exact (ChgQ.refl _ w).set (by simp) _
  obtain ⟨m1, m2⟩ := one_cell hG.hmany
  obtain ⟨k1, k2⟩ := one_cell G1.out.1.hcost
  obtain ⟨c1, -⟩ := one_cell G1.out.1.hctr
  have HL := hidP hl
  have HSL := hidP hsl
  have HSB := hidP hsb
  have HOP := hidP hokp
  clear hG hd hsc hsp hnc hnp ht hl hsl hsb hnc' hnp' hokc hokp
  unfold ptrV
  go_enter Try.func70, Try.ntmps70
  go_upto_region 1 with fail
  clear hW1 m1 m2
  have HPF := hidP (pFar bc oc cc bp op cp c p W1.drew (HC.out W1 G1.out.2).1 (HC.out W1 G1.out.2).2.1 (HC.out W1 G1.out.2).2.2.1 (HC.out W1 G1.out.2).2.2.2 HT.out)
  generalize hfv : sumTo (sqF c p) c.length = fv at *
  have HFV := hidP hfv
  clear hfv
  refine wp_region_calm (S := fun w' => w'.cell? ⟨q.2.2.1, 0, none⟩ = some (.int .i64 cost) ∧ w'.cell? ⟨q.1, 0, none⟩ = some (.slice (some ⟨bc, oc, none⟩) c.length cc)) (fuel := 2)
    [0, 1, 2] _ rfl (by kernel_rfl) (by kernel_rfl) (by kernel_rfl) (by kernel_rfl) (by kernel_rfl) (by kernel_rfl) (by kernel_rfl) ⟨k1, c1⟩ (fun hS => ?_)
  simp only [List.pop_toArray, List.dropLast]
  iterate 3
    refine ⟨_, rfl, ?_⟩
    apply Exists.intro
    refine ⟨Or.inl ⟨by rfl, fun w' hw' => ?_⟩, ?_⟩
    · first
      | (go_simp; done)
      | (go_simp; with_reducible rfl)
    simp only [Act.put, List.getElem_toArray, List.getElem_cons_succ, List.getElem_cons_zero, List.setIfInBounds_toArray, List.set_cons_zero, List.set_cons_succ]
  refine calm_one 3 (by kernel_rfl) rfl (fun K hK => ?_)
  go_simp
  refine HPF.out.mono ?_
  rintro e w2 ⟨rfl, L2⟩
  have G2 : Hid (GatAt w2 q (.slice (some ⟨bc, oc, none⟩) c.length cc) (many + 1) cost g s ∧ ChgQ [q.2.1, q.2.2.1, q.2.2.2] w w2) :=
    ⟨G1.out.1.below ((Below.refl _ W1).drew.trans L2), G1.out.2.below ((Below.refl _ W1).drew.trans L2)⟩
  obtain ⟨k3, k4⟩ := one_cell G2.out.1.hcost
  obtain ⟨c3, -⟩ := one_cell G2.out.1.hctr
  refine hK.out _ _ ⟨k3, c3⟩ (fun _ => ?_)
  clear hK K L2 G1 k1 k2 c1 HPF
  refine calm_one 4 (by kernel_rfl) rfl (fun K hK => ?_)
  go_simp
  refine hK.out _ _ ⟨k3, c3⟩ (fun _ => ?_)
  clear hK K
  refine wpAnyH_done (by kernel_rfl) ?_ _
  simp only [Exit.then]
  have G3 : Hid (GatAt (w2.setCell ⟨q.2.2.1, 0, none⟩ (.int .i64 (cost + fv))) q (.slice (some ⟨bc, oc, none⟩) c.length cc) (many + 1) (cost + fv) g s ∧ ChgQ [q.2.1, q.2.2.1, q.2.2.2] w (w2.setCell ⟨q.2.2.1, 0, none⟩ (.int .i64 (cost + fv)))) :=
    ⟨G2.out.1.setCost HD.out _, G2.out.2.set (by simp) _⟩
  obtain ⟨W3, hW3⟩ : ∃ W3, w2.setCell ⟨q.2.2.1, 0, none⟩ (.int .i64 (cost + fv)) = W3 := ⟨_, rfl⟩
  rw [hW3] at G3
  obtain ⟨s1, s2⟩ := one_cell G3.out.1.hsums
  have HEP := hidP (pEachPlus (plusF s p) g 0 s.length bp op cp s.length s p W3 G3.out.1.hrow.seg (HC.out W3 G3.out.2).2.1 G3.out.1.hrow.lt (HC.out W3 G3.out.2).2.2.2 h4.2 (fun W k hk hS => by
    have hx := HSB.out k
    have hy := okB_at HOP.out k
    exact jPlus g 0 s.length k (nth p k) s W hS (by have := HSL.out; have := HL.out; omega) hx.1 hx.2 hy.1 hy.2))
  go_wp2_with fail
  refine NoPanic.normal ?_
  rw [hW3]
  have hlt : q.2.2.2 < W3.heap.size := (Array.getElem?_eq_some_iff.1 G3.out.1.hsums).1
  have hz3 := G3.out.2.2.2.2.1
  clear hW3 k3 k4 c3 G2 hS
  go_wp2_with fail
  refine HEP.out.mono ?_
  rintro e w4 ⟨rfl, o4, L4⟩
  have G4 := G3.out.1.below L4
  obtain ⟨s3, s4⟩ := one_cell G4.hsums
  have HTL := hidP (tabL_length (plusF s p) p.length)
  have G5 := G4.setSums HD.out o4 (by omega)
  rw [HTL.out] at G5
  have HG5 := hidP (And.intro G5 ((G3.out.2.below L4).set (b := q.2.2.2) (j := 0) (by simp) (.slice (some ⟨W3.heap.size, 0, none⟩) p.length p.length)))
  clear G4 G5 o4 L4 s1 s2 HEP
  go_wp2_with fail
  refine bodyPost_end (v := .tuple #[]) (by simp [results, Try.results70, go_sem]) rfl ?_
  refine ⟨rfl, W3.heap.size, ?_, hz3, HG5.out.2⟩
  rw [HF.out, HL.out]
  have := HG5.out.1
  rw [HL.out] at this
  exact this

end Go.Proofs.Ythcjkneifkmkdaa
namespace Go.Proofs.Ythcjkneifkmkdaa
open Go Go.RowKit

structure GAll (w : World) (A n : Nat) (Q : Nat → Gq) (ctr : Nat → Value) (many cost : Nat → Int) (gs : Nat → Nat) (S : Nat → List Int) : Prop where
  here : ∀ i, i < n → GatAt w (Q i) (ctr i) (many i) (cost i) (gs i) (S i)
  nod : ∀ i, i < n → (gatL (Q i)).Nodup
  dis : ∀ i j, i < n → j < n → i ≠ j → ∀ b ∈ gatL (Q i), b ∉ gatL (Q j)
  rows : ∀ i j, i < n → j < n → gs i ∉ gatL (Q j)
  rowA : ∀ i, i < n → A < gs i
  up : ∀ i, i < n → ∀ b ∈ gatL (Q i), A < b
  cells : ∀ i, i < n → w.cell? ⟨A, i * 3, none⟩ = some (addV (Q i)) ∧ w.cell? ⟨A, i * 3 + 1, none⟩ = some (cstV (Q i)) ∧ w.cell? ⟨A, i * 3 + 2, none⟩ = some (menV (Q i))
  lt : A < w.heap.size
theorem GatAt.lts {w : World} {q : Gq} {c : Value} {m k : Int} {g : Nat} {s : List Int} (h : GatAt w q c m k g s) : ∀ b ∈ gatL q, b < w.heap.size := by
  have lt : ∀ {b : Nat} {o : Obj}, w.heap[b]? = some o → b < w.heap.size := fun e => (Array.getElem?_eq_some_iff.1 e).1
  intro b hb
  simp [gatL] at hb
  rcases hb with h1 | h1 | h1 | h1
  · rw [h1]; exact lt h.hctr
  · rw [h1]; exact lt h.hmany
  · rw [h1]; exact lt h.hcost
  · rw [h1]; exact lt h.hsums
theorem GAll.both {w : World} {A n : Nat} {Q : Nat → Gq} {ctr : Nat → Value} {many cost : Nat → Int} {gs : Nat → Nat} {S : Nat → List Int} (h : GAll w A n Q ctr many cost gs S) {i : Nat} (hi : i < n) : (gs i :: gatL (Q i)).Nodup :=
  List.nodup_cons.2 ⟨h.rows i i hi hi, h.nod i hi⟩
theorem GAll.below {w w' : World} {A n : Nat} {Q : Nat → Gq} {ctr : Nat → Value} {many cost : Nat → Int} {gs : Nat → Nat} {S : Nat → List Int} (h : GAll w A n Q ctr many cost gs S) (hb : Below w.heap.size w w') : GAll w' A n Q ctr many cost gs S :=
  ⟨fun i hi => (h.here i hi).below hb, h.nod, h.dis, h.rows, h.rowA, h.up, fun i hi => by
    obtain ⟨c1, c2, c3⟩ := h.cells i hi
    exact ⟨(hb.cell (p := ⟨A, i * 3, none⟩) h.lt).trans c1, (hb.cell (p := ⟨A, i * 3 + 1, none⟩) h.lt).trans c2, (hb.cell (p := ⟨A, i * 3 + 2, none⟩) h.lt).trans c3⟩, Nat.lt_of_lt_of_le h.lt hb.size⟩
theorem GAll.congr {w : World} {A n : Nat} {Q : Nat → Gq} {ctr ctr' : Nat → Value} {many cost many' cost' : Nat → Int} {gs : Nat → Nat} {S S' : Nat → List Int} (h : GAll w A n Q ctr many cost gs S) (e : ∀ i, i < n → ctr i = ctr' i ∧ many i = many' i ∧ cost i = cost' i ∧ S i = S' i) : GAll w A n Q ctr' many' cost' gs S' :=
  ⟨fun i hi => by obtain ⟨e1, e2, e3, e4⟩ := e i hi; rw [← e1, ← e2, ← e3, ← e4]; exact h.here i hi, h.nod, h.dis, h.rows, h.rowA, h.up, h.cells, h.lt⟩
def upd {α : Type} (f : Nat → α) (i : Nat) (v : α) (j : Nat) : α := if j = i then v else f j
theorem upd_same {α : Type} (f : Nat → α) (i : Nat) (v : α) : upd f i v i = v := if_pos rfl
theorem upd_other {α : Type} (f : Nat → α) {i j : Nat} (v : α) (h : j ≠ i) : upd f i v j = f j := if_neg h
/-- One of them has one mark more. -/
theorem GAll.add {w w' : World} {A n : Nat} {Q : Nat → Gq} {ctr : Nat → Value} {many cost : Nat → Int} {gs : Nat → Nat} {S : Nat → List Int} (h : GAll w A n Q ctr many cost gs S) {i : Nat} (hi : i < n) {m' k' : Int} {g' : Nat} {s' : List Int}
    (hG : GatAt w' (Q i) (ctr i) m' k' g' s') (hg : w.heap.size ≤ g') (hc : ChgQ [(Q i).2.1, (Q i).2.2.1, (Q i).2.2.2] w w') : GAll w' A n Q ctr (upd many i m') (upd cost i k') (upd gs i g') (upd S i s') := by
  have hsub : ∀ b, b ∈ [(Q i).2.1, (Q i).2.2.1, (Q i).2.2.2] → b ∈ gatL (Q i) := fun b hb => by simp [gatL] at hb ⊢; omega
  have hA : A ∉ [(Q i).2.1, (Q i).2.2.1, (Q i).2.2.2] := fun hm => by have := h.up i hi A (hsub A hm); omega
  have hcell : ∀ k, w'.cell? ⟨A, k, none⟩ = w.cell? ⟨A, k, none⟩ := fun k => World.cell?_of_block (w := w) (a := ⟨A, k, none⟩) (hc.2.2.2.2 A h.lt hA)
  refine ⟨fun j hj => ?_, h.nod, h.dis, fun j k hj hk => ?_, fun j hj => ?_, h.up, fun j hj => ?_, Nat.lt_of_lt_of_le h.lt hc.2.2.2.1⟩
  · by_cases e : j = i
    · subst e
      rw [upd_same, upd_same, upd_same, upd_same]; exact hG
    · rw [upd_other _ _ e, upd_other _ _ e, upd_other _ _ e, upd_other _ _ e]
      refine (h.here j hj).chgQ hc (fun b hb hm => ?_)
      rcases List.mem_cons.1 hb with h1 | h1
      · subst h1; exact h.rows j i hj hi (hsub _ hm)
      · exact h.dis j i hj hi e b h1 (hsub b hm)
  · by_cases e : j = i
    · subst e
      rw [upd_same]
      intro hm
      have := (h.here k hk).lts g' hm
      omega
    · rw [upd_other _ _ e]; exact h.rows j k hj hk
  · by_cases e : j = i
    · subst e
      rw [upd_same]
      have := h.lt
      omega
    · rw [upd_other _ _ e]; exact h.rowA j hj
  · rw [hcell, hcell, hcell]; exact h.cells j hj
/-- One more of them: what gatheringAt made is laid into the row. -/
theorem GAll.snoc {w w1 : World} {A n : Nat} {Q : Nat → Gq} {ctr : Nat → Value} {many cost : Nat → Int} {gs : Nat → Nat} {S : Nat → List Int} (h : GAll w A n Q ctr many cost gs S) (hb : Below w.heap.size w w1) {q : Gq} {c : Value} {m k : Int} {g : Nat} {s : List Int}
    (hG : GatAt w1 q c m k g s) (hd : (g :: gatL q).Nodup) (hu : ∀ b ∈ g :: gatL q, w.heap.size ≤ b) (hA : ∀ j, j < 3 → ∃ v, w1.cell? ⟨A, n * 3 + j, none⟩ = some v) :
    GAll (((w1.setCell ⟨A, n * 3, none⟩ (addV q)).setCell ⟨A, n * 3 + 1, none⟩ (cstV q)).setCell ⟨A, n * 3 + 2, none⟩ (menV q)) A (n + 1) (upd Q n q) (upd ctr n c) (upd many n m) (upd cost n k) (upd gs n g) (upd S n s) := by
  have h1 := h.below hb
  have hlt := h.lt
  have hch : ChgQ [A] w1 (((w1.setCell ⟨A, n * 3, none⟩ (addV q)).setCell ⟨A, n * 3 + 1, none⟩ (cstV q)).setCell ⟨A, n * 3 + 2, none⟩ (menV q)) := (((ChgQ.refl [A] w1).set (by simp) _).set (by simp) _).set (by simp) _
  have hold : ∀ i, i < n → ∀ b ∈ gatL (Q i), b < w.heap.size := fun i hi => (h.here i hi).lts
  have hog : ∀ i, i < n → gs i < w.heap.size := fun i hi => (h.here i hi).hrow.lt
  refine ⟨fun i hi => ?_, fun i hi => ?_, fun i j hi hj hij b hbi hbj => ?_, fun i j hi hj hm => ?_, fun i hi => ?_, fun i hi b hbi => ?_, fun i hi => ?_, by rw [setCell_size, setCell_size, setCell_size]; exact h1.lt⟩
  · by_cases e : i = n
    · subst e
      simp only [upd_same]
      refine hG.chgQ hch (fun b hb' hm => ?_)
      have := hu b hb'
      simp at hm
      omega
    · have hi' : i < n := by omega
      simp only [upd_other _ _ e]
      refine (h1.here i hi').chgQ hch (fun b hb' hm => ?_)
      simp at hm
      rcases List.mem_cons.1 hb' with e1 | e1
      · have := h.rowA i hi'; omega
      · have := h.up i hi' b e1; omega
  · by_cases e : i = n
    · subst e; rw [upd_same]; exact (List.nodup_cons.1 hd).2
    · rw [upd_other _ _ e]; exact h.nod i (by omega)
  · by_cases e : i = n
    · subst e
      rw [upd_same] at hbi
      have e2 : j ≠ i := fun e => hij e.symm
      rw [upd_other _ _ e2] at hbj
      have := hold j (by omega) b hbj
      have := hu b (List.mem_cons_of_mem _ hbi)
      omega
    · rw [upd_other _ _ e] at hbi
      by_cases e2 : j = n
      · subst e2
        rw [upd_same] at hbj
        have := hold i (by omega) b hbi
        have := hu b (List.mem_cons_of_mem _ hbj)
        omega
      · rw [upd_other _ _ e2] at hbj
        exact h.dis i j (by omega) (by omega) hij b hbi hbj
  · by_cases e : i = n
    · subst e
      rw [upd_same] at hm
      by_cases e2 : j = i
      · subst e2
        rw [upd_same] at hm
        exact (List.nodup_cons.1 hd).1 hm
      · rw [upd_other _ _ e2] at hm
        have := hold j (by omega) g hm
        have := hu g (List.mem_cons_self ..)
        omega
    · rw [upd_other _ _ e] at hm
      by_cases e2 : j = n
      · subst e2
        rw [upd_same] at hm
        have := hog i (by omega)
        have := hu (gs i) (List.mem_cons_of_mem _ hm)
        omega
      · rw [upd_other _ _ e2] at hm
        exact h.rows i j (by omega) (by omega) hm
  · by_cases e : i = n
    · subst e
      rw [upd_same]
      have := hu g (List.mem_cons_self ..)
      omega
    · rw [upd_other _ _ e]; exact h.rowA i (by omega)
  · by_cases e : i = n
    · subst e
      rw [upd_same] at hbi
      have := hu b (List.mem_cons_of_mem _ hbi)
      omega
    · rw [upd_other _ _ e] at hbi; exact h.up i (by omega) b hbi
  · by_cases e : i = n
    · subst e
      rw [upd_same]
      obtain ⟨v0, e0⟩ := hA 0 (by omega)
      obtain ⟨v1, e1⟩ := hA 1 (by omega)
      obtain ⟨v2, e2⟩ := hA 2 (by omega)
      rw [Nat.add_zero] at e0
      refine ⟨?_, ?_, ?_⟩
      · rw [cell_setOther _ _ _ _ _ (by omega), cell_setOther _ _ _ _ _ (by omega)]; exact World.cell?_setCell_same _ _ _ e0
      · rw [cell_setOther _ _ _ _ _ (by omega)]; exact World.cell?_setCell_same _ _ _ (u := v1) (by rw [cell_setOther _ _ _ _ _ (by omega)]; exact e1)
      · exact World.cell?_setCell_same _ _ _ (u := v2) (by rw [cell_setOther _ _ _ _ _ (by omega), cell_setOther _ _ _ _ _ (by omega)]; exact e2)
    · rw [upd_other _ _ e]
      obtain ⟨c1, c2, c3⟩ := h1.cells i (by omega)
      refine ⟨?_, ?_, ?_⟩
      · rw [cell_setOther _ _ _ _ _ (by omega), cell_setOther _ _ _ _ _ (by omega), cell_setOther _ _ _ _ _ (by omega)]; exact c1
      · rw [cell_setOther _ _ _ _ _ (by omega), cell_setOther _ _ _ _ _ (by omega), cell_setOther _ _ _ _ _ (by omega)]; exact c2
      · rw [cell_setOther _ _ _ _ _ (by omega), cell_setOther _ _ _ _ _ (by omega), cell_setOther _ _ _ _ _ (by omega)]; exact c3
theorem GAll.none (w : World) (A : Nat) (h : A < w.heap.size) : GAll w A 0 (fun _ => (0, 0, 0, 0)) (fun _ => undef) (fun _ => 0) (fun _ => 0) (fun _ => 0) (fun _ => []) :=
  ⟨fun i hi => by omega, fun i hi => by omega, fun i j hi => by omega, fun i j hi => by omega, fun i hi => by omega, fun i hi => by omega, fun i hi => by omega, h⟩

end Go.Proofs.Ythcjkneifkmkdaa
namespace Go.Proofs.Ythcjkneifkmkdaa
open Go Go.RowKit

theorem floor_big {n s : Int} (hs : 0 < s) (h1 : -1000000 ≤ n) (h2 : n ≤ 1000000) : -1000000 ≤ n / s ∧ n / s ≤ 1000000 := by
  constructor
  · exact (Int.le_ediv_iff_mul_le hs).2 (by
      have : (1000000 : Int) * 1 ≤ 1000000 * s := Int.mul_le_mul_of_nonneg_left (by omega) (by omega)
      rw [Int.neg_mul]; omega)
  · have := (Int.ediv_lt_iff_lt_mul hs (a := n) (b := 1000001)).2 (by
      have : (1000001 : Int) * 1 ≤ 1000001 * s := Int.mul_le_mul_of_nonneg_left (by omega) (by omega)
      omega)
    omega

set_option maxHeartbeats 400000 in
theorem jDown (x s : Int) (w : World) (hs : 1 ≤ s) (hs' : s ≤ 1000) (h1 : -1000000 ≤ x) (h2 : x ≤ 1000000) :
    Calls Try.prog 87 #[.int .i64 x, .int .i64 s] w fun e w' => e = .returned (.int .i64 (x / s)) ∧ w' = w := by
  have hs0 : (s == 0) = false := by simp; omega
  have hbd := floor_big (n := x) (s := s) (by omega) h1 h2
  by_cases h : x < 0
  · have HV := hidP (floor_low (n := x) (s := s) (by omega) h)
    have hw1 : IntKind.i64.wrap ((x - (s - 1)).tdiv s) = (x - (s - 1)).tdiv s := by rw [HV.out]; exact IntWalk.i64_in _ ⟨by omega, by omega⟩
    clear hbd
    go_enter Try.func87, Try.ntmps87
    go_wp2
    go_ret
    exact ⟨ret_int HV.out, rfl⟩
  · have HV := hidP (tdiv_pos (n := x) (s := s) (by omega))
    have hw1 : IntKind.i64.wrap (x.tdiv s) = x.tdiv s := by rw [HV.out]; exact IntWalk.i64_in _ ⟨by omega, by omega⟩
    clear hbd
    go_enter Try.func87, Try.ntmps87
    go_wp2
    go_ret
    exact ⟨ret_int HV.out, rfl⟩

set_option maxHeartbeats 400000 in
theorem iMeanOf (s n : Int) (w : World) (h1 : -100000 ≤ s) (h2 : s ≤ 100000) (h3 : 1 ≤ n) (h4 : n ≤ 60) :
    Calls Try.prog 77 #[.int .i64 s, .int .i64 n] w fun e w' => e = .returned (.int .i64 (meanN s n)) ∧ w' = w := by
  have HD := hidP (jDown (2 * s + n - 1) (2 * n) w (by omega) (by omega) (by omega) (by omega))
  have HM : Hid ((2 * s + n - 1) / (2 * n) = meanN s n) := rfl
  rw [HM.out] at HD
  go_enter Try.func77, Try.ntmps77
  go_wp2_with fail
  refine HD.out.mono ?_
  rintro e w1 ⟨rfl, rfl⟩
  go_wp2_with fail
  go_ret
  exact ⟨rfl, rfl⟩

set_option maxHeartbeats 400000 in
theorem iMenFn (B : Nat) (k : Int) (x n : Int) (w : World) (hc : w.cell? ⟨B, 0, none⟩ = some (.int .i64 n)) (h1 : -100000 ≤ x) (h2 : x ≤ 100000) (h3 : 1 ≤ n) (h4 : n ≤ 60) :
    Calls Try.prog 76 #[.int .i64 k, .int .i64 x, .pointer (some ⟨B, 0, none⟩)] w fun e w' => e = .returned (.int .i64 (meanN x n)) ∧ w' = w := by
  have HD := hidP (iMeanOf x n w h1 h2 h3 h4)
  go_enter Try.func76, Try.ntmps76
  go_wp2_with fail
  refine HD.out.mono ?_
  rintro e w1 ⟨rfl, rfl⟩
  go_wp2_with fail
  go_ret
  exact ⟨rfl, rfl⟩

def menF (s : List Int) (n : Int) (k : Nat) : Int := meanN (nth s k) n

set_option maxHeartbeats 400000 in
theorem pEachMen (B : Nat) (n : Int) (b' off' cap' : Nat) (ys : List Int) (w : World) (hs' : Seg w b' off' ys) (hb' : b' < w.heap.size) (hn : ys.length ≤ 4)
    (hB : B < w.heap.size) (hc : w.cell? ⟨B, 0, none⟩ = some (.int .i64 n)) (hn1 : 1 ≤ n) (hn2 : n ≤ 60) (hbd : ∀ k, -100000 ≤ nth ys k ∧ nth ys k ≤ 100000) :
    Calls Try.prog 71 #[.slice (some ⟨b', off', none⟩) ys.length cap', .func (Fn.func 76) #[] #[.pointer (some ⟨B, 0, none⟩)]] w fun e w' =>
      e = .returned (.slice (some ⟨w.heap.size, 0, none⟩) ys.length ys.length) ∧ Own w' w.heap.size (tabL (menF ys n) ys.length) ∧ Below w.heap.size w w' := by
  have hmk := run_make_row' (P := Try.prog) 55 2 (.int .i64 0) 8 Try.underlying55 Try.info2 rfl .i64 .i64 ys.length (by omega) (by omega)
  have HH := hidP (fun (W : World) (k : Nat) (h : W.cell? ⟨B, 0, none⟩ = some (.int .i64 n)) => iMenFn B (k : Int) (nth ys k) n W h (hbd k).1 (hbd k).2 hn1 hn2)
  have HE : Hid (∀ k, menF ys n k = meanN (nth ys k) n) := fun k => rfl
  have HC : Hid (∀ (o : Obj) m, ((w.alloc o).drewN m).cell? ⟨B, 0, none⟩ = some (.int .i64 n)) := fun o m => by
    have L : Below w.heap.size w ((w.alloc o).drewN m) := below_drewN ((Below.refl _ _).alloc (Nat.le_refl _) _) m
    exact (L.cell (p := ⟨B, 0, none⟩) hB).trans hc
  clear hbd hc
  go_enter Try.func71, Try.ntmps71
  go_wp2
  clear hmk
  go_loopw [13] (fun i wr => ∃ k : Nat, k ≤ ys.length ∧ i = .int .i64 k ∧ ∃ m, wr = (w.alloc (.cells (filled (menF ys n) ys.length k) 2)).drewN m) (fun i _ => ys.length - (intOf i).toNat)
  case atStart => exact ⟨0, Nat.zero_le _, rfl, 0, by rw [filled_zero]; rfl⟩
  case round =>
    obtain ⟨k, hk, rfl, m, rfl⟩ := hrel
    by_cases hlt : k < ys.length
    · have hc := hs' k hlt
      have hnext := filled_next (menF ys n) ys.length k hlt
      have HC1 := hidP (HH.out _ k (HC.out (.cells (filled (menF ys n) ys.length k) 2) m))
      have HEk := hidP (HE.out k)
      go_wp2_with fail
      refine HC1.out.mono ?_
      rintro e w1 ⟨rfl, rfl⟩
      rw [← HEk.out]
      go_wp2
      go_roundw
      case rel => exact ⟨k + 1, by omega, by go_num, m, by rw [← filled_set (menF ys n) ys.length k hlt, set_new]⟩
      case measure => simp [intOf]; omega
    · go_wp2
      go_ret
      obtain rfl : k = ys.length := by omega
      refine ⟨rfl, ?_, ?_⟩
      · rw [filled_all]; exact (Own.new w _).drewN m
      · exact below_drewN ((Below.refl _ _).alloc (Nat.le_refl _) _) m

set_option maxHeartbeats 400000 in
theorem iCstFn (B : Nat) (x : Int) (w : World) (hc : w.cell? ⟨B, 0, none⟩ = some (.int .i64 x)) :
    Calls Try.prog 73 #[.pointer (some ⟨B, 0, none⟩)] w fun e w' => e = .returned (.int .i64 x) ∧ w' = w := by
  go_enter Try.func73, Try.ntmps73
  go_wp2_with fail
  go_ret
  exact ⟨rfl, rfl⟩

/-- The mean of a gathering: its center where there is none. -/
def gmean (c s : List Int) (many : Int) : List Int := if many = 0 then c else tabL (menF s many) s.length

set_option maxRecDepth 100000 in
set_option maxHeartbeats 1000000 in
theorem iMean (q : Gq) (bc oc cc g : Nat) (c s : List Int) (many cost : Int) (w : World) (hG : GatAt w q (.slice (some ⟨bc, oc, none⟩) c.length cc) many cost g s)
    (hsc : Seg w bc oc c) (hbc : bc < w.heap.size) (hc4 : c.length ≤ 4) (hsl : s.length = c.length) (hm0 : 0 ≤ many) (hm1 : many ≤ 60) (hsb : ∀ k, -100000 ≤ nth s k ∧ nth s k ≤ 100000) :
    Calls Try.prog 74 #[ptrV q.2.1, ptrV q.1, ptrV q.2.2.2] w fun e w' => ∃ g' c', e = .returned (.slice (some ⟨g', 0, none⟩) c.length c') ∧ IRow w.heap.size w' g' c' (gmean c s many) ∧ w.heap.size ≤ g' ∧ Below w.heap.size w w' := by
  obtain ⟨m1, -⟩ := one_cell hG.hmany
  obtain ⟨c1, -⟩ := one_cell hG.hctr
  obtain ⟨s1, -⟩ := one_cell hG.hsums
  have hlm : q.2.1 < w.heap.size := (Array.getElem?_eq_some_iff.1 hG.hmany).1
  unfold ptrV
  by_cases h0 : many = 0
  · have HV : Hid (gmean c s many = c) := by show _ = _; simp [gmean, h0]
    have hb0 : (many == 0) = true := by simp [h0]
    have HCL := hidP (pClone bc oc cc c w hsc hbc (by omega))
    rw [HV.out]
    clear h0 s1 hG hsc
    go_enter Try.func74, Try.ntmps74
    go_wp2_with fail
    refine HCL.out.mono ?_
    rintro e w1 ⟨g', c', rfl, r1, L1⟩
    have hlt := r1.lt
    have HP := hidP (And.intro r1 L1)
    clear r1 L1
    go_wp2_with fail
    go_ret
    exact ⟨g', c', rfl, HP.out.1, hlt.1, HP.out.2⟩
  · have HV : Hid (gmean c s many = tabL (menF s many) s.length) := by show _ = _; simp [gmean, h0]
    have hb0 : (many == 0) = false := by simp [h0]
    have HEM := hidP (pEachMen q.2.1 many g 0 s.length s w hG.hrow.seg hG.hrow.lt (by omega) hlm m1 (by omega) hm1 hsb)
    have HSL := hidP hsl
    rw [HV.out]
    clear h0 c1 hG hsc hsl
    go_enter Try.func74, Try.ntmps74
    go_wp2_with fail
    refine HEM.out.mono ?_
    rintro e w1 ⟨rfl, o1, L1⟩
    have HP := hidP (And.intro o1 L1)
    clear o1 L1
    go_wp2_with fail
    go_ret
    have hI := Own.irow (base := w.heap.size) HP.out.1 (Nat.le_refl _) (by rw [tabL_length, HSL.out]; unfold maxLen; omega)
    rw [tabL_length] at hI
    exact ⟨w.heap.size, s.length, by rw [HSL.out]; rfl, hI, Nat.le_refl _, HP.out.2⟩

end Go.Proofs.Ythcjkneifkmkdaa
