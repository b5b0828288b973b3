/-
  The program's gatherings: one mark more (the closure add).
-/
import Derived.Test.YthcjkneifkmkdaaJGat
import Derived.Test.YthcjkneifkmkdaaLast
import Derived.Deep.Cut
namespace Go.Proofs.Ythcjkneifkmkdaa
open Go Go.RowKit

/-- Of the blocks that were there, at most those of L have changed. -/
def ChgQ (L : List Nat) (w w' : World) : Prop := w'.os = w.os ∧ w'.tape = w.tape ∧ w'.output = w.output ∧ w.heap.size ≤ w'.heap.size ∧ ∀ i, i < w.heap.size → i ∉ L → w'.heap[i]? = w.heap[i]?
theorem ChgQ.refl (L : List Nat) (w : World) : ChgQ L w w := ⟨rfl, rfl, rfl, Nat.le_refl _, fun _ _ _ => rfl⟩
theorem ChgQ.set {L : List Nat} {w w' : World} (h : ChgQ L w w') {b j : Nat} (hb : b ∈ L) (v : Value) : ChgQ L w (w'.setCell ⟨b, j, none⟩ v) := by
  have k := grown_setCell w' b j v
  refine ⟨k.os.trans h.1, k.tape.trans h.2.1, k.output.trans h.2.2.1, Nat.le_trans h.2.2.2.1 k.size, fun i hi hn => ?_⟩
  exact (k.block i (Nat.lt_of_lt_of_le hi h.2.2.2.1) (fun e => by injection e with e; subst e; exact hn hb)).trans (h.2.2.2.2 i hi hn)
theorem ChgQ.below {L : List Nat} {w w1 w2 : World} (h : ChgQ L w w1) (k : Below w1.heap.size w1 w2) : ChgQ L w w2 :=
  ⟨k.os.trans h.1, k.tape.trans h.2.1, k.output.trans h.2.2.1, Nat.le_trans h.2.2.2.1 k.size, fun i hi hn => (k.block i (Nat.lt_of_lt_of_le hi h.2.2.2.1)).trans (h.2.2.2.2 i hi hn)⟩
theorem ChgQ.own {L : List Nat} {w w' : World} (h : ChgQ L w w') {b : Nat} {xs : List Int} (ho : Own w b xs) (hb : b ∉ L) : Own w' b xs := (h.2.2.2.2 b ho.lt hb).trans ho
theorem ChgQ.seg {L : List Nat} {w w' : World} (h : ChgQ L w w') {b off : Nat} {xs : List Int} (hs : Seg w b off xs) (hl : b < w.heap.size) (hb : b ∉ L) : Seg w' b off xs := fun i hi =>
  (World.cell?_of_block (w := w) (a := ⟨b, off + i, none⟩) (h.2.2.2.2 b hl hb)).trans (hs i hi)
theorem below_chgQ {L : List Nat} {B : Nat} {w w1 w2 : World} (h : Below B w w1) (k : ChgQ L w1 w2) (hB : B ≤ w.heap.size) (hL : ∀ b ∈ L, B ≤ b) : Below B w w2 :=
  ⟨k.1.trans h.os, k.2.1.trans h.tape, k.2.2.1.trans h.output, Nat.le_trans h.size k.2.2.2.1, fun i hi => (k.2.2.2.2 i (by have := h.size; omega) (fun hm => by have := hL i hm; omega)).trans (h.block i hi)⟩

theorem GatAt.below {w w' : World} {q : Gq} {c : Value} {m k : Int} {g : Nat} {s : List Int} (h : GatAt w q c m k g s) (hb : Below w.heap.size w w') : GatAt w' q c m k g s := by
  have lt : ∀ {b : Nat} {o : Obj}, w.heap[b]? = some o → b < w.heap.size := fun e => (Array.getElem?_eq_some_iff.1 e).1
  exact ⟨(hb.block _ (lt h.hctr)).trans h.hctr, (hb.block _ (lt h.hmany)).trans h.hmany, (hb.block _ (lt h.hcost)).trans h.hcost, (hb.block _ (lt h.hsums)).trans h.hsums, h.hrow.below h.hrow.lt hb⟩
theorem GatAt.chgQ {L : List Nat} {w w' : World} {q : Gq} {c : Value} {m k : Int} {g : Nat} {s : List Int} (h : GatAt w q c m k g s) (hb : ChgQ L w w') (hn : ∀ b ∈ g :: gatL q, b ∉ L) : GatAt w' q c m k g s := by
  have lt : ∀ {b : Nat} {o : Obj}, w.heap[b]? = some o → b < w.heap.size := fun e => (Array.getElem?_eq_some_iff.1 e).1
  exact ⟨(hb.2.2.2.2 _ (lt h.hctr) (hn _ (by simp [gatL]))).trans h.hctr, (hb.2.2.2.2 _ (lt h.hmany) (hn _ (by simp [gatL]))).trans h.hmany, (hb.2.2.2.2 _ (lt h.hcost) (hn _ (by simp [gatL]))).trans h.hcost, (hb.2.2.2.2 _ (lt h.hsums) (hn _ (by simp [gatL]))).trans h.hsums, hb.own h.hrow (hn _ (by simp))⟩
theorem nodup_gat {g : Nat} {q : Gq} (h : (g :: gatL q).Nodup) : g ≠ q.1 ∧ g ≠ q.2.1 ∧ g ≠ q.2.2.1 ∧ g ≠ q.2.2.2 ∧ q.1 ≠ q.2.1 ∧ q.1 ≠ q.2.2.1 ∧ q.1 ≠ q.2.2.2 ∧ q.2.1 ≠ q.2.2.1 ∧ q.2.1 ≠ q.2.2.2 ∧ q.2.2.1 ≠ q.2.2.2 := by
  simp [gatL] at h
  omega
theorem GatAt.setMany {w : World} {q : Gq} {c : Value} {m k : Int} {g : Nat} {s : List Int} (h : GatAt w q c m k g s) (hd : (g :: gatL q).Nodup) (m' : Int) : GatAt (w.setCell ⟨q.2.1, 0, none⟩ (.int .i64 m')) q c m' k g s := by
  obtain ⟨d1, d2, d3, d4, d5, d6, d7, d8, d9, d10⟩ := nodup_gat hd
  refine ⟨(Below.heap_setCell w ⟨q.2.1, 0, none⟩ _ _ (by simp only; omega)).trans h.hctr, ?_, (Below.heap_setCell w ⟨q.2.1, 0, none⟩ _ _ (by simp only; omega)).trans h.hcost, (Below.heap_setCell w ⟨q.2.1, 0, none⟩ _ _ (by simp only; omega)).trans h.hsums, (Below.heap_setCell w ⟨q.2.1, 0, none⟩ _ _ (by simp only; omega)).trans h.hrow⟩
  rw [heap_setCell_same w q.2.1 0 _ 2 _ h.hmany]; simp
theorem GatAt.setCost {w : World} {q : Gq} {c : Value} {m k : Int} {g : Nat} {s : List Int} (h : GatAt w q c m k g s) (hd : (g :: gatL q).Nodup) (k' : Int) : GatAt (w.setCell ⟨q.2.2.1, 0, none⟩ (.int .i64 k')) q c m k' g s := by
  obtain ⟨d1, d2, d3, d4, d5, d6, d7, d8, d9, d10⟩ := nodup_gat hd
  refine ⟨(Below.heap_setCell w ⟨q.2.2.1, 0, none⟩ _ _ (by simp only; omega)).trans h.hctr, (Below.heap_setCell w ⟨q.2.2.1, 0, none⟩ _ _ (by simp only; omega)).trans h.hmany, ?_, (Below.heap_setCell w ⟨q.2.2.1, 0, none⟩ _ _ (by simp only; omega)).trans h.hsums, (Below.heap_setCell w ⟨q.2.2.1, 0, none⟩ _ _ (by simp only; omega)).trans h.hrow⟩
  rw [heap_setCell_same w q.2.2.1 0 _ 2 _ h.hcost]; simp
theorem GatAt.setSums {w : World} {q : Gq} {c : Value} {m k : Int} {g g' : Nat} {s s' : List Int} (h : GatAt w q c m k g s) (hd : (g :: gatL q).Nodup) (ho : Own w g' s') (hg' : g' ≠ q.2.2.2) : GatAt (w.setCell ⟨q.2.2.2, 0, none⟩ (.slice (some ⟨g', 0, none⟩) s'.length s'.length)) q c m k g' s' := by
  obtain ⟨d1, d2, d3, d4, d5, d6, d7, d8, d9, d10⟩ := nodup_gat hd
  refine ⟨(Below.heap_setCell w ⟨q.2.2.2, 0, none⟩ _ _ (by simp only; omega)).trans h.hctr, (Below.heap_setCell w ⟨q.2.2.2, 0, none⟩ _ _ (by simp only; omega)).trans h.hmany, (Below.heap_setCell w ⟨q.2.2.2, 0, none⟩ _ _ (by simp only; omega)).trans h.hcost, ?_, (Below.heap_setCell w ⟨q.2.2.2, 0, none⟩ _ _ (by simp only; omega)).trans ho⟩
  rw [heap_setCell_same w q.2.2.2 0 _ 55 _ h.hsums]; simp

set_option maxHeartbeats 400000 in
theorem jPlus (b off cap k : Nat) (x : Int) (xs : List Int) (w : World) (hs : Seg w b off xs) (hk : k < xs.length) (h1 : -1000000 ≤ nth xs k) (h2 : nth xs k ≤ 1000000) (h3 : -1000 ≤ x) (h4 : x ≤ 1000) :
    Calls Try.prog 72 #[.slice (some ⟨b, off, none⟩) xs.length cap, .int .i64 k, .int .i64 x] w fun e w' => e = .returned (.int .i64 (nth xs k + x)) ∧ ∃ n, w' = w.drewN n := by
  have hc := hs k hk
  go_enter Try.func72, Try.ntmps72
  go_wp2
  go_ret
  exact ⟨rfl, 0, rfl⟩

def plusF (s p : List Int) (k : Nat) : Int := nth s k + nth p k

set_option maxRecDepth 100000 in
set_option maxHeartbeats 2000000 in
theorem iAdd (q : Gq) (bc oc cc bp op cp g : Nat) (c p s : List Int) (many cost : Int) (w : World) (hG : GatAt w q (.slice (some ⟨bc, oc, none⟩) c.length cc) many cost g s) (hd : (g :: gatL q).Nodup)
    (hsc : Seg w bc oc c) (hbc : bc < w.heap.size) (hnc : bc ∉ gatL q) (hsp : Seg w bp op p) (hbp : bp < w.heap.size) (hnp : bp ∉ gatL q) (ht : twoB c p = true) (hsl : s.length = c.length)
    (hm0 : 0 ≤ many) (hm1 : many ≤ 60) (hk0 : 0 ≤ cost) (hk1 : cost ≤ 1000000000) (hsb : ∀ k, -1000000 ≤ nth s k ∧ nth s k ≤ 1000000) :
    Calls Try.prog 70 #[.slice (some ⟨bp, op, none⟩) p.length cp, ptrV q.2.1, ptrV q.2.2.1, ptrV q.1, ptrV q.2.2.2] w fun e w' => e = .returned (.tuple #[]) ∧ ∃ g', GatAt w' q (.slice (some ⟨bc, oc, none⟩) c.length cc) (many + 1) (cost + farV c p) g' (tabL (plusF s p) c.length) ∧ w.heap.size ≤ g' ∧ ChgQ [q.2.1, q.2.2.1, q.2.2.2] w w' := by
  obtain ⟨hokc, hokp, hl⟩ := twoB_of ht
  have h4 := okB_len hokp
  have HF : Hid (farV c p = sumTo (sqF c p) c.length) := by show _ = _; rw [farV, if_pos ht]
  have hfb := farV_pos ht
  rw [HF.out] at hfb
  have hnc' : bc ≠ q.1 ∧ bc ≠ q.2.1 ∧ bc ≠ q.2.2.1 ∧ bc ≠ q.2.2.2 := by simp [gatL] at hnc; exact hnc
  have hnp' : bp ≠ q.1 ∧ bp ≠ q.2.1 ∧ bp ≠ q.2.2.1 ∧ bp ≠ q.2.2.2 := by simp [gatL] at hnp; exact hnp
  have HC : Hid (∀ W, ChgQ [q.2.1, q.2.2.1, q.2.2.2] w W → Seg W bc oc c ∧ Seg W bp op p ∧ bc < W.heap.size ∧ bp < W.heap.size) := fun W hW =>
    ⟨hW.seg hsc hbc (by simp; omega), hW.seg hsp hbp (by simp; omega), Nat.lt_of_lt_of_le hbc hW.2.2.2.1, Nat.lt_of_lt_of_le hbp hW.2.2.2.1⟩
  have HD := hidP hd
  have HT := hidP ht
  obtain ⟨W1, hW1⟩ : ∃ W1, w.setCell ⟨q.2.1, 0, none⟩ (.int .i64 (many + 1)) = W1 := ⟨_, rfl⟩
  have G1 : Hid (GatAt W1 q (.slice (some ⟨bc, oc, none⟩) c.length cc) (many + 1) cost g s ∧ ChgQ [q.2.1, q.2.2.1, q.2.2.2] w W1) := by
    refine ⟨?_, ?_⟩
    · rw [← hW1]; exact hG.setMany hd _
    · rw [← hW1]; exact (ChgQ.refl _ w).set (by simp) _
  obtain ⟨m1, m2⟩ := one_cell hG.hmany
  obtain ⟨k1, k2⟩ := one_cell G1.out.1.hcost
  obtain ⟨c1, -⟩ := one_cell G1.out.1.hctr
  have HL := hidP hl
  have HSL := hidP hsl
  have HSB := hidP hsb
  have HOP := hidP hokp
  clear hG hd hsc hsp hnc hnp ht hl hsl hsb hnc' hnp' hokc hokp
  unfold ptrV
  go_enter Try.func70, Try.ntmps70
  go_upto_region 1 with fail
  clear hW1 m1 m2
  have HPF := hidP (pFar bc oc cc bp op cp c p W1.drew (HC.out W1 G1.out.2).1 (HC.out W1 G1.out.2).2.1 (HC.out W1 G1.out.2).2.2.1 (HC.out W1 G1.out.2).2.2.2 HT.out)
  generalize hfv : sumTo (sqF c p) c.length = fv at *
  have HFV := hidP hfv
  clear hfv
  refine wp_region_calm (S := fun w' => w'.cell? ⟨q.2.2.1, 0, none⟩ = some (.int .i64 cost) ∧ w'.cell? ⟨q.1, 0, none⟩ = some (.slice (some ⟨bc, oc, none⟩) c.length cc)) (fuel := 2)
    [0, 1, 2] _ rfl (by kernel_rfl) (by kernel_rfl) (by kernel_rfl) (by kernel_rfl) (by kernel_rfl) (by kernel_rfl) (by kernel_rfl) ⟨k1, c1⟩ (fun hS => ?_)
  simp only [List.pop_toArray, List.dropLast]
  iterate 3
    refine ⟨_, rfl, ?_⟩
    apply Exists.intro
    refine ⟨Or.inl ⟨by rfl, fun w' hw' => ?_⟩, ?_⟩
    · first
      | (go_simp; done)
      | (go_simp; with_reducible rfl)
    simp only [Act.put, List.getElem_toArray, List.getElem_cons_succ, List.getElem_cons_zero, List.setIfInBounds_toArray, List.set_cons_zero, List.set_cons_succ]
  refine calm_one 3 (by kernel_rfl) rfl (fun K hK => ?_)
  go_simp
  refine HPF.out.mono ?_
  rintro e w2 ⟨rfl, L2⟩
  have G2 : Hid (GatAt w2 q (.slice (some ⟨bc, oc, none⟩) c.length cc) (many + 1) cost g s ∧ ChgQ [q.2.1, q.2.2.1, q.2.2.2] w w2) :=
    ⟨G1.out.1.below ((Below.refl _ W1).drew.trans L2), G1.out.2.below ((Below.refl _ W1).drew.trans L2)⟩
  obtain ⟨k3, k4⟩ := one_cell G2.out.1.hcost
  obtain ⟨c3, -⟩ := one_cell G2.out.1.hctr
  refine hK.out _ _ ⟨k3, c3⟩ (fun _ => ?_)
  clear hK K L2 G1 k1 k2 c1 HPF
  refine calm_one 4 (by kernel_rfl) rfl (fun K hK => ?_)
  go_simp
  refine hK.out _ _ ⟨k3, c3⟩ (fun _ => ?_)
  clear hK K
  refine wpAnyH_done (by kernel_rfl) ?_ _
  simp only [Exit.then]
  have G3 : Hid (GatAt (w2.setCell ⟨q.2.2.1, 0, none⟩ (.int .i64 (cost + fv))) q (.slice (some ⟨bc, oc, none⟩) c.length cc) (many + 1) (cost + fv) g s ∧ ChgQ [q.2.1, q.2.2.1, q.2.2.2] w (w2.setCell ⟨q.2.2.1, 0, none⟩ (.int .i64 (cost + fv)))) :=
    ⟨G2.out.1.setCost HD.out _, G2.out.2.set (by simp) _⟩
  obtain ⟨W3, hW3⟩ : ∃ W3, w2.setCell ⟨q.2.2.1, 0, none⟩ (.int .i64 (cost + fv)) = W3 := ⟨_, rfl⟩
  rw [hW3] at G3
  obtain ⟨s1, s2⟩ := one_cell G3.out.1.hsums
  have HEP := hidP (pEachPlus (plusF s p) g 0 s.length bp op cp s.length s p W3 G3.out.1.hrow.seg (HC.out W3 G3.out.2).2.1 G3.out.1.hrow.lt (HC.out W3 G3.out.2).2.2.2 h4.2 (fun W k hk hS => by
    have hx := HSB.out k
    have hy := okB_at HOP.out k
    exact jPlus g 0 s.length k (nth p k) s W hS (by have := HSL.out; have := HL.out; omega) hx.1 hx.2 hy.1 hy.2))
  go_wp2_with fail
  refine NoPanic.normal ?_
  rw [hW3]
  have hlt : q.2.2.2 < W3.heap.size := (Array.getElem?_eq_some_iff.1 G3.out.1.hsums).1
  have hz3 := G3.out.2.2.2.2.1
  clear hW3 k3 k4 c3 G2 hS
  go_wp2_with fail
  refine HEP.out.mono ?_
  rintro e w4 ⟨rfl, o4, L4⟩
  have G4 := G3.out.1.below L4
  obtain ⟨s3, s4⟩ := one_cell G4.hsums
  have HTL := hidP (tabL_length (plusF s p) p.length)
  have G5 := G4.setSums HD.out o4 (by omega)
  rw [HTL.out] at G5
  have HG5 := hidP (And.intro G5 ((G3.out.2.below L4).set (b := q.2.2.2) (j := 0) (by simp) (.slice (some ⟨W3.heap.size, 0, none⟩) p.length p.length)))
  clear G4 G5 o4 L4 s1 s2 HEP
  go_wp2_with fail
  refine bodyPost_end (v := .tuple #[]) (by simp [results, Try.results70, go_sem]) rfl ?_
  refine ⟨rfl, W3.heap.size, ?_, hz3, HG5.out.2⟩
  rw [HF.out, HL.out]
  have := HG5.out.1
  rw [HL.out] at this
  exact this

end Go.Proofs.Ythcjkneifkmkdaa
