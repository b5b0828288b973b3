/-
  The laws' own helpers on webs: how great, copied, compared, written over.
  What a web that was written over is held to: heldMarkS, heldWeb; markMark.
  Webs in a row, in memory.
  The laws' own helpers on towers: how great, copied, compared.
  The walks of the exact laws of chapter 14, over what the program's own functions answer.
  The given l14Copy: a web copied, every list of its own.
  The laws' own helpers on towers: szTower, toTower, eqTower.
  The given l14Linked and Linked.
  The laws' own markTower over a tower that was copied: what is written over.
-/
import Derived.Test.YtaaagmgglolibaaGreatFeSpecZz
import Derived.Test.YtaaagmgglolibaaGreatJRwZz
import Derived.Test.YtaaagmgglolibaaGreatMMarkZz
import Derived.Test.YtaaagmgglolibaaGreatFeIsZz
import Derived.Test.YtaaagmgglolibaaGreatFeBmZz
import Derived.Test.YtaaagmgglolibaaGreatLastZz
import Derived.Test.YtaaagmgglolibaaGreatBMarkZz
import Derived.Test.YtaaagmgglolibaaGreatFeWalkZz
import Derived.Test.YtaaagmgglolibaaGreatFePutZz
import Derived.Test.YtaaagmgglolibaaGreatMathZz
namespace Go.Proofs.YtaaagmgglolibaaGreat
open Go Go.RowKit

theorem MPart.far {w w' : World} {b k n : Nat} {ms : List Mk} (h : MPart w b k n ms) (hs : w.heap.size ≤ w'.heap.size) (e : ∀ i, b ≤ i → i < w.heap.size → w'.heap[i]? = w.heap[i]?) : MPart w' b k n ms := by
  obtain ⟨h1, h2, h3, h4⟩ := h
  have eb := e b (Nat.le_refl _) h1
  refine ⟨by omega, fun i hi => ?_, fun j h5 h6 => ?_, fun j => ?_⟩
  · obtain ⟨c0, g, hg, c1, o⟩ := h2 i hi
    exact ⟨(World.cell?_of_block eb).trans c0, g, hg, (World.cell?_of_block eb).trans c1, (e g (by omega) o.lt).trans o⟩
  · obtain ⟨v, hv, hf⟩ := h3 j h5 h6
    exact ⟨v, (World.cell?_of_block eb).trans hv, (World.frozen?_of_block eb).trans hf⟩
  · exact (World.frozen?_of_block eb).trans (h4 j)
theorem CPart.far {w w' : World} {b k n : Nat} {ls : List (List Int)} (h : CPart w b k n ls) (hs : w.heap.size ≤ w'.heap.size) (e : ∀ i, b ≤ i → i < w.heap.size → w'.heap[i]? = w.heap[i]?) : CPart w' b k n ls := by
  obtain ⟨h1, h2, h3, h4⟩ := h
  have eb := e b (Nat.le_refl _) h1
  refine ⟨by omega, fun i hi => ?_, fun j h5 h6 => ?_, fun j => ?_⟩
  · obtain ⟨g, hg, c1, o⟩ := h2 i hi
    exact ⟨g, hg, (World.cell?_of_block eb).trans c1, (e g (by omega) o.lt).trans o⟩
  · obtain ⟨v, hv⟩ := h3 j h5 h6
    exact ⟨v, (World.cell?_of_block eb).trans hv⟩
  · exact (World.frozen?_of_block eb).trans (h4 j)
theorem MOver.far {w w' : World} {b hi : Nat} {ms : List Mk} (h : MOver w b hi ms) (hs : w.heap.size ≤ w'.heap.size) (e : ∀ i, b ≤ i → i < hi → i < w.heap.size → w'.heap[i]? = w.heap[i]?) : MOver w' b hi ms := by
  obtain ⟨h1, h2, h3, h4⟩ := h
  have eb := e b (Nat.le_refl _) h2 h1
  refine ⟨by omega, h2, fun j => (World.frozen?_of_block eb).trans (h3 j), fun j hj => ?_⟩
  obtain ⟨⟨v, c0⟩, g, xs, hg1, hg2, c1, hl, o⟩ := h4 j hj
  exact ⟨⟨v, (World.cell?_of_block eb).trans c0⟩, g, xs, hg1, hg2, (World.cell?_of_block eb).trans c1, hl, (e g (by omega) hg2 o.lt).trans o⟩
theorem COver.far {w w' : World} {b hi : Nat} {ls : List (List Int)} (h : COver w b hi ls) (hs : w.heap.size ≤ w'.heap.size) (e : ∀ i, b ≤ i → i < hi → i < w.heap.size → w'.heap[i]? = w.heap[i]?) : COver w' b hi ls := by
  obtain ⟨h1, h2, h4⟩ := h
  have eb := e b (Nat.le_refl _) h2 h1
  refine ⟨by omega, h2, fun j hj => ?_⟩
  obtain ⟨g, xs, hg1, hg2, c1, hl, o⟩ := h4 j hj
  exact ⟨g, xs, hg1, hg2, (World.cell?_of_block eb).trans c1, hl, (e g (by omega) hg2 o.lt).trans o⟩
/-- A web of the call's own, as the laws copy one: the marks' blocks ahead of the links'. -/
structure WebOwn (lo hi : Nat) (w : World) (bm bl : Nat) (ms : List Mk) (ls : List (List Int)) : Prop where
  lo : lo ≤ bm
  mv : MView w (some ⟨bm, 0, none⟩) ms
  cv : CView w (some ⟨bl, 0, none⟩) ls
  mo : MOver w bm bl ms
  co : COver w bl hi ls
  lt : bm < bl
  hi : hi ≤ w.heap.size
theorem WebOwn.next {lo hi : Nat} {w w' : World} {bm bl : Nat} {ms : List Mk} {ls : List (List Int)} (h : WebOwn lo hi w bm bl ms ls) (L : Below w.heap.size w w') : WebOwn lo hi w' bm bl ms ls :=
  ⟨h.lo, h.mv.next L, h.cv.next L, h.mo.far L.size (fun i _ _ h3 => L.block i h3), h.co.far L.size (fun i _ _ h3 => L.block i h3), h.lt, Nat.le_trans h.hi L.size⟩

set_option maxRecDepth 100000 in
set_option maxHeartbeats 1000000 in
theorem eqW (a1 a2 b1 b2 : Option Addr) (c1 c2 d1 d2 : Nat) (ms : List Mk) (ls : List (List Int)) (w : World) (h1 : MView w a1 ms) (h2 : CView w a2 ls) (h3 : MView w b1 ms) (h4 : CView w b2 ls) (hsm : MSmall ms) (hcs : CSmall ls) :
    Calls Tryz.prog 230 #[.agg #[.slice a1 ms.length c1, .slice a2 ls.length c2], .agg #[.slice b1 ms.length d1, .slice b2 ls.length d2]] w fun e w' => e = .returned (.bool true) ∧ Below w.heap.size w w' := by
  obtain ⟨W, hW⟩ : ∃ W, (w.alloc (.cells #[.slice a1 ms.length c1, .slice a2 ls.length c2] 47)).alloc (.cells #[.slice b1 ms.length d1, .slice b2 ls.length d2] 47) = W := ⟨_, rfl⟩
  have hB : Below w.heap.size w W := by rw [← hW]; exact ((Below.refl w.heap.size w).alloc (Nat.le_refl _) _).alloc (by simp) _
  have hsz : W.heap.size = w.heap.size + 2 := by rw [← hW]; simp
  have k1 : W.cell? ⟨w.heap.size, 0, none⟩ = some (.slice a1 ms.length c1) := by rw [← hW]; simp
  have k3 : W.cell? ⟨w.heap.size + 1, 0, none⟩ = some (.slice b1 ms.length d1) := by rw [← hW]; simp
  have k2 : W.cell? ⟨w.heap.size, 1, none⟩ = some (.slice a2 ls.length c2) := by rw [← hW]; simp
  have k4 : W.cell? ⟨w.heap.size + 1, 1, none⟩ = some (.slice b2 ls.length d2) := by rw [← hW]; simp
  have HS := hidP (eqMS a1 b1 c1 d1 ms ms W (h1.next hB) (h3.next hB) hsm)
  rw [show decide (ms = ms) = true by simp] at HS
  have HS2 := hidP (fun (W' : World) (L : Below W.heap.size W W') => eqCS a2 b2 c2 d2 ls W' (h2.next (chain hB L)) (h4.next (chain hB L)) hcs)
  have HB := hidP hB
  clear hB h1 h2 h3 h4
  go_enter Tryz.func230, Tryz.ntmps230
  go_wp2_with fail
  refine HS.out.mono ?_
  rintro e w2 ⟨rfl, L2⟩
  have q2 := (L2.cell (p := ⟨w.heap.size, 1, none⟩) (by show w.heap.size < _; omega)).trans k2
  have q4 := (L2.cell (p := ⟨w.heap.size + 1, 1, none⟩) (by show w.heap.size + 1 < _; omega)).trans k4
  have HC := hidP (HS2.out w2 L2)
  have HL2 := hidP (chain HB.out L2)
  clear hW k1 k2 k3 k4 L2
  go_wp2_with fail
  refine HC.out.mono ?_
  rintro e w3 ⟨rfl, n3, rfl⟩
  go_wp2_with fail
  go_ret
  exact ⟨rfl, below_drewN HL2.out n3⟩

theorem two_cells {w : World} {q : Nat} {u v : Value} {t : TypeId} (h : w.heap[q]? = some (.cells #[u, v] t)) : w.cell? ⟨q, 0, none⟩ = some u ∧ w.cell? ⟨q, 1, none⟩ = some v ∧ (∀ j, w.frozen? ⟨q, j, none⟩ = false) ∧ q < w.heap.size := by
  refine ⟨by simp [World.cell?, h], by simp [World.cell?, h], fun j => by simp [World.frozen?, h], ?_⟩
  rcases Nat.lt_or_ge q w.heap.size with e | e
  · exact e
  · rw [Array.getElem?_eq_none e] at h; cases h
theorem two_set {w : World} {q : Nat} {u v x : Value} {t : TypeId} (h : w.heap[q]? = some (.cells #[u, v] t)) : (w.setCell ⟨q, 0, none⟩ x).heap[q]? = some (.cells #[x, v] t) ∧ (w.setCell ⟨q, 1, none⟩ x).heap[q]? = some (.cells #[u, x] t) := by
  constructor <;> simp [World.setCell, Array.getElem?_modify, h]

set_option maxRecDepth 100000 in
set_option maxHeartbeats 2000000 in
theorem toW (a1 a2 : Option Addr) (c1 c2 : Nat) (ms : List Mk) (ls : List (List Int)) (w : World) (h1 : MView w a1 ms) (h2 : CView w a2 ls) (hsm : MSmall ms) (hcs : CSmall ls) :
    Calls Tryz.prog 229 #[.agg #[.slice a1 ms.length c1, .slice a2 ls.length c2]] w fun e w' => ∃ bm bl, e = .returned (.agg #[.slice (some ⟨bm, 0, none⟩) ms.length ms.length, .slice (some ⟨bl, 0, none⟩) ls.length ls.length]) ∧ WebOwn w.heap.size w'.heap.size w' bm bl ms ls ∧ Below w.heap.size w w' := by
  obtain ⟨W1, hW1⟩ : ∃ W, w.alloc (.cells #[.slice a1 ms.length c1, .slice a2 ls.length c2] 258) = W := ⟨_, rfl⟩
  obtain ⟨W2, hW2⟩ : ∃ W, W1.alloc (.cells #[.slice none 0 0, .slice none 0 0] 47) = W := ⟨_, rfl⟩
  obtain ⟨W, hW⟩ : ∃ W, W2.alloc (.cells #[.slice none 0 0, .slice none 0 0] 47) = W := ⟨_, rfl⟩
  have s1 : W1.heap.size = w.heap.size + 1 := by rw [← hW1]; simp
  have s2 : W2.heap.size = w.heap.size + 1 + 1 := by rw [← hW2]; simp [s1]
  have hsz : W.heap.size = w.heap.size + 1 + 1 + 1 := by rw [← hW]; simp [s2]
  have b1 : Below w.heap.size w W1 := by rw [← hW1]; exact (Below.refl _ _).alloc (Nat.le_refl _) _
  have b2 : Below W1.heap.size W1 W2 := by rw [← hW2]; exact (Below.refl _ _).alloc (Nat.le_refl _) _
  have b3 : Below W2.heap.size W2 W := by rw [← hW]; exact (Below.refl _ _).alloc (Nat.le_refl _) _
  have hB : Below w.heap.size w W := chain (chain b1 b2) b3
  have t0 : W.heap[w.heap.size]? = some (.cells #[.slice a1 ms.length c1, .slice a2 ls.length c2] 258) := (b3.block _ (by omega)).trans ((b2.block _ (by omega)).trans (by rw [← hW1]; exact heap_alloc_new w _))
  have t1 : W.heap[w.heap.size + 1]? = some (.cells #[.slice none 0 0, .slice none 0 0] 47) := (b3.block _ (by omega)).trans (by rw [← hW2, ← s1]; exact heap_alloc_new W1 _)
  have t2 : W.heap[w.heap.size + 1 + 1]? = some (.cells #[.slice none 0 0, .slice none 0 0] 47) := by rw [← hW, ← s2]; exact heap_alloc_new W2 _
  obtain ⟨z0, z1, -, -⟩ := two_cells t0
  have HS := hidP (toMS a1 c1 ms W (h1.next hB) hsm)
  have HV := hidP h2
  have HB := hidP hB
  have HT := hidP (And.intro t0 (And.intro t1 t2))
  clear hB h1 h2 b1 b2 b3 t0 t1 t2
  go_enter Tryz.func229, Tryz.ntmps229
  go_wp2_with fail
  refine HS.out.mono ?_
  rintro e w2 ⟨bm, rfl, p1, hb1, L1⟩
  obtain ⟨t0, t1, t2⟩ := HT.out
  have u0 := (L1.block _ (by omega)).trans t0
  have u1 := (L1.block _ (by omega)).trans t1
  have u2 := (L1.block _ (by omega)).trans t2
  obtain ⟨e2, e2', f2, -⟩ := two_cells u2
  have f20 := f2 0
  obtain ⟨w3, hw3⟩ : ∃ w3, w2.setCell ⟨w.heap.size + 1 + 1, 0, none⟩ (.slice (some ⟨bm, 0, none⟩) ms.length ms.length) = w3 := ⟨_, rfl⟩
  have far3 : ∀ i, i ≠ w.heap.size + 1 + 1 → w3.heap[i]? = w2.heap[i]? := fun i hi => by rw [← hw3]; exact Below.heap_setCell w2 ⟨w.heap.size + 1 + 1, 0, none⟩ _ i (fun e => hi e)
  have z3 : w3.heap.size = w2.heap.size := by rw [← hw3]; simp [World.setCell]
  have v0 := (far3 w.heap.size (by omega)).trans u0
  have v1 := (far3 (w.heap.size + 1) (by omega)).trans u1
  have v2 : w3.heap[w.heap.size + 1 + 1]? = some (.cells #[.slice (some ⟨bm, 0, none⟩) ms.length ms.length, .slice none 0 0] 47) := by rw [← hw3]; exact (two_set u2).1
  have p3 : MPart w3 bm ms.length ms.length ms := p1.far (by omega) (fun i h1 _ => far3 i (by omega))
  have L3 : Below w.heap.size w w3 := by rw [← hw3]; exact (chain HB.out L1).setCell (by show w.heap.size ≤ w.heap.size + 1 + 1; omega) _
  have c3 := (two_cells v0).2.1
  have hz1 := L1.size
  have HS2 := hidP (toCS a2 c2 ls w3 (HV.out.next L3) hcs)
  have H3 := hidP (And.intro v1 (And.intro v2 (And.intro p3 L3)))
  have HB1 : Hid (w.heap.size + 1 + 1 + 1 ≤ bm) := by show _ ≤ bm; omega
  clear HT t0 t1 t2 u0 u1 u2 v0 v1 v2 p1 p3 L1 L3 far3 hb1 f2 HS hW1 hW2 hW z0 z1 e2'
  go_wp2_with fail
  refine HS2.out.mono ?_
  rintro e w4 ⟨bl, rfl, o2, hb2, L4⟩
  obtain ⟨v1, v2, p3, L3⟩ := H3.out
  have hbm := p3.1
  have x1 := (L4.block _ (by omega)).trans v1
  have x2 := (L4.block _ (by omega)).trans v2
  have hz4 := L4.size
  obtain ⟨g1, g1', k1, -⟩ := two_cells x1
  obtain ⟨g2, g2', k2, -⟩ := two_cells x2
  have k11 := k1 0
  have k12 := k1 1
  have k21 := k2 1
  have p4 : MPart w4 bm ms.length ms.length ms := p3.far hz4 (fun i _ h => L4.block i h)
  have mo4 : MOver w4 bm bl ms := by
    obtain ⟨m1, m2, m3, m4⟩ := p3.over
    have m5 : MOver w3 bm bl ms := ⟨m1, by omega, m3, fun j hj => by
      obtain ⟨hv, g, xs, q1, q2, q3⟩ := m4 j hj
      exact ⟨hv, g, xs, q1, by omega, q3⟩⟩
    exact m5.far hz4 (fun i _ _ h => L4.block i h)
  have HF := hidP (And.intro p4.view (And.intro mo4 (And.intro o2 (chain L3 L4))))
  have HB2 : Hid (bl < w4.heap.size ∧ bm < bl) := ⟨o2.1, by omega⟩
  clear v1 v2 p3 L3 x1 x2 k1 k2 p4 mo4 o2 L4 H3 HS2
  go_wp2_with fail
  refine bodyPost_ret (v := .agg #[.slice (some ⟨bm, 0, none⟩) ms.length ms.length, .slice (some ⟨bl, 0, none⟩) ls.length ls.length]) (by simp [results, Tryz.results229, go_sem, g1, g1']) rfl ?_
  obtain ⟨w5, hw5⟩ : ∃ w5, ((w4.setCell ⟨w.heap.size + 1 + 1, 1, none⟩ (.slice (some ⟨bl, 0, none⟩) ls.length ls.length)).setCell ⟨w.heap.size + 1, 0, none⟩ (.slice (some ⟨bm, 0, none⟩) ms.length ms.length)).setCell ⟨w.heap.size + 1, 1, none⟩ (.slice (some ⟨bl, 0, none⟩) ls.length ls.length) = w5 := ⟨_, rfl⟩
  obtain ⟨q1, q2, q3, q4⟩ := HF.out
  have hb1 := HB1.out
  have hb2' := HB2.out
  have far5 : ∀ i, bm ≤ i → w5.heap[i]? = w4.heap[i]? := fun i hi => by
    rw [← hw5, Below.heap_setCell _ ⟨w.heap.size + 1, 1, none⟩ _ i (fun e => by have : i = w.heap.size + 1 := e; omega), Below.heap_setCell _ ⟨w.heap.size + 1, 0, none⟩ _ i (fun e => by have : i = w.heap.size + 1 := e; omega), Below.heap_setCell _ ⟨w.heap.size + 1 + 1, 1, none⟩ _ i (fun e => by have : i = w.heap.size + 1 + 1 := e; omega)]
  have z5 : w5.heap.size = w4.heap.size := by rw [← hw5]; simp [World.setCell]
  have L5 : Below w.heap.size w w5 := by rw [← hw5]; exact ((q4.setCell (by show w.heap.size ≤ w.heap.size + 1 + 1; omega) _).setCell (by show w.heap.size ≤ w.heap.size + 1; omega) _).setCell (by show w.heap.size ≤ w.heap.size + 1; omega) _
  have c5 : CPart w5 bl ls.length ls.length ls := q3.far (by omega) (fun i h1 _ => far5 i (by omega))
  rw [hw5]
  refine ⟨bm, bl, rfl, ⟨by omega, ?_, c5.view, q2.far (by omega) (fun i h1 _ _ => far5 i h1), c5.over, hb2'.2, Nat.le_refl _⟩, L5⟩
  rcases q1 with h | ⟨b, off, e, hb, hs⟩
  · exact Or.inl h
  · injection e with e
    injection e with e1 e2
    subst e1 e2
    refine Or.inr ⟨bm, 0, rfl, by omega, fun i hi => ?_⟩
    obtain ⟨c0, ao, cap, c1, hv⟩ := hs i hi
    obtain ⟨-, -, -, m4⟩ := q2
    obtain ⟨-, g, xs, hg1, hg2, cg, -, -⟩ := m4 i hi
    have eb := far5 bm (Nat.le_refl _)
    refine ⟨(World.cell?_of_block eb).trans c0, ao, cap, (World.cell?_of_block eb).trans c1, ?_⟩
    rw [show (0 : Nat) + i * 2 + 1 = i * 2 + 1 by omega, cg] at c1
    injection c1 with c1
    injection c1 with c1 c2' c3'
    rcases hv with h | ⟨b', off', e', hb', hs'⟩
    · exact Or.inl h
    · refine Or.inr ⟨b', off', e', by omega, fun k hk => ?_⟩
      have hbg : b' = g := by
        rw [e'] at c1
        injection c1 with c1
        injection c1 with c1
        exact c1.symm
      exact (World.cell?_of_block (far5 b' (by omega))).trans (hs' k hk)

end Go.Proofs.YtaaagmgglolibaaGreat
namespace Go.Proofs.YtaaagmgglolibaaGreat
open Go Go.RowKit

def totM : List Mk → Nat
  | [] => 0
  | m :: l => 1 + m.2.length + totM l
/-- The marks behind markMarkS: each number the next. -/
def mkM : Int → List Mk → List Mk
  | _, [] => []
  | k, m :: l => (k, tabL (fun i => k + 1 + i) m.2.length) :: mkM (k + 1 + m.2.length) l
theorem mkM_length (k : Int) (ms : List Mk) : (mkM k ms).length = ms.length := by
  induction ms generalizing k with
  | nil => rfl
  | cons m l ih => simp [mkM, ih]
theorem mkM_at (k : Int) (ms : List Mk) (j : Nat) (h : j < ms.length) : mnth (mkM k ms) j = (k + totM (ms.take j), tabL (fun i => k + totM (ms.take j) + 1 + i) (mnth ms j).2.length) := by
  induction ms generalizing k j with
  | nil => simp at h
  | cons m l ih =>
    cases j with
    | zero => simp [mkM, mnth, totM]
    | succ j =>
      have h' : j < l.length := by simpa using h
      have e := ih (k + 1 + m.2.length) j h'
      show mnth (mkM (k + 1 + m.2.length) l) j = _
      rw [e]
      have e2 : k + 1 + (m.2.length : Int) + (totM (l.take j) : Int) = k + (totM ((m :: l).take (j + 1)) : Int) := by
        simp only [List.take_succ_cons, totM]; omega
      rw [e2]
      rfl
theorem totM_take (ms : List Mk) (j : Nat) (h : j < ms.length) : totM (ms.take (j + 1)) = totM (ms.take j) + 1 + (mnth ms j).2.length := by
  induction ms generalizing j with
  | nil => simp at h
  | cons m l ih =>
    cases j with
    | zero => simp [totM, mnth]
    | succ j =>
      have h' : j < l.length := by simpa using h
      have e := ih j h'
      simp only [List.take_succ_cons, totM]
      rw [e]
      show _ = _ + (mnth l j).2.length
      omega
theorem totM_le (ms : List Mk) (n m : Nat) (h1 : ms.length ≤ n) (h : ∀ x ∈ ms, x.2.length ≤ m) : totM ms ≤ n * (m + 1) := by
  induction ms generalizing n with
  | nil => simp [totM]
  | cons a l ih =>
    cases n with
    | zero => simp at h1
    | succ n =>
      have e := ih n (by simpa using h1) (fun x hx => h x (List.mem_cons_of_mem _ hx))
      have e2 := h a (List.mem_cons_self)
      simp only [totM]
      have e3 : (n + 1) * (m + 1) = n * (m + 1) + (m + 1) := Nat.succ_mul n (m + 1)
      omega

set_option maxHeartbeats 1000000 in
theorem heldMS (ao : Option Addr) (cap : Nat) (ms : List Mk) (k0 : Int) (w : World) (hv : MView w ao (mkM k0 ms)) (hn : ms.length ≤ 60) (hat : ∀ x ∈ ms, x.2.length ≤ 4) (h0 : 1 ≤ k0) (h1 : k0 ≤ 1000000) :
    Calls Tryz.prog 171 #[.slice ao ms.length cap, .int .i64 k0] w fun e w' => e = .returned (.int .i64 (k0 + totM ms)) ∧ w' = w := by
  have HM := hidP hv
  have HAT := hidP hat
  clear hv hat
  go_enter Tryz.func171, Tryz.ntmps171
  go_wp2_with fail
  go_loop [1, 5] (fun kk i => ∃ j : Nat, j ≤ ms.length ∧ i = .int .i64 j ∧ kk = .int .i64 (k0 + totM (ms.take j))) (fun _ i => ms.length - (intOf i).toNat)
  case atStart => exact ⟨0, Nat.zero_le _, rfl, by simp [totM]⟩
  case round =>
    obtain ⟨j, hj, rfl, rfl⟩ := hrel
    by_cases hlt : j < ms.length
    · obtain ⟨b, off, rfl, hb, hs⟩ := mview_seg HM.out (by rw [mkM_length]; omega)
      have hm := hs j (by rw [mkM_length]; exact hlt)
      rw [mkM_at k0 ms j hlt] at hm
      obtain ⟨c0, a, c, c1, va⟩ := hm
      simp only [tabL_length] at c1
      have hl4 : (mnth ms j).2.length ≤ 4 := by
        have : mnth ms j = ms[j] := by simp [mnth, List.getD, hlt]
        rw [this]; exact HAT.out _ (List.getElem_mem hlt)
      have ht1 := totM_le (ms.take j) 60 4 (by simp; omega) (fun x hx => HAT.out x (List.mem_of_mem_take hx))
      have HTK := hidP (totM_take ms j hlt)
      have HH := hidP (heldI a c (mnth ms j).2.length (k0 + totM (ms.take j) + 1) w va (by omega) (by omega) (by omega))
      have hi0 : (0 : Int) ≤ (j : Int) := Int.natCast_nonneg _
      have hi1 : (j : Int) < (ms.length : Int) := by omega
      clear va hs
      generalize (mnth ms j).2.length = m at *
      have hneg : ¬ (k0 + (totM (ms.take j) : Int) + 1 + (m : Int) < 0) := by omega
      generalize hT : totM (ms.take j) = T at *
      have hne : ((k0 + (T : Int)) != (k0 + (T : Int))) = false := by simp
      have HT := hidP hT
      clear hT
      go_wp2_with fail
      refine HH.out.mono ?_
      rintro e w2 ⟨rfl, rfl⟩
      go_wp2_with fail
      go_round
      case rel => exact ⟨j + 1, by omega, by go_num, by rw [HTK.out]; congr 1; omega⟩
      case measure => simp [intOf]; omega
    · obtain rfl : j = ms.length := by omega
      go_wp2_with fail
      go_ret
      exact ⟨rfl, rfl⟩

end Go.Proofs.YtaaagmgglolibaaGreat
namespace Go.Proofs.YtaaagmgglolibaaGreat
open Go Go.RowKit

abbrev Wb := List Mk × List (List Int)
def wnth (ts : List Wb) (i : Nat) : Wb := ts.getD i ([], [])
/-- One web in a row; s: its slices have room for what they hold. -/
def WbAt (s : Bool) (w : World) (b off : Nat) (t : Wb) : Prop := ∃ am cm al cl, w.cell? ⟨b, off, none⟩ = some (.slice am t.1.length cm) ∧ w.cell? ⟨b, off + 1, none⟩ = some (.slice al t.2.length cl) ∧ MView w am t.1 ∧ CView w al t.2 ∧ (s = true → t.1.length ≤ cm ∧ t.2.length ≤ cl)
def WbSeg (s : Bool) (w : World) (b off : Nat) (ts : List Wb) : Prop := ∀ i, i < ts.length → WbAt s w b (off + i * 2) (wnth ts i)
def WbView (s : Bool) (w : World) (ao : Option Addr) (ts : List Wb) : Prop := ts = [] ∨ ∃ b off, ao = some ⟨b, off, none⟩ ∧ b < w.heap.size ∧ WbSeg s w b off ts
def WbSmall (ts : List Wb) : Prop := ts.length ≤ 1048576 ∧ ∀ i, MSmall (wnth ts i).1 ∧ CSmall (wnth ts i).2
theorem WbAt.next {s : Bool} {w w' : World} {b off : Nat} {t : Wb} (h : WbAt s w b off t) (hb : b < w.heap.size) (L : Below w.heap.size w w') : WbAt s w' b off t := by
  obtain ⟨am, cm, al, cl, h1, h2, h3, h4, h5⟩ := h
  exact ⟨am, cm, al, cl, (L.cell (p := ⟨b, off, none⟩) hb).trans h1, (L.cell (p := ⟨b, off + 1, none⟩) hb).trans h2, h3.next L, h4.next L, h5⟩
theorem WbSeg.next {s : Bool} {w w' : World} {b off : Nat} {ts : List Wb} (h : WbSeg s w b off ts) (hb : b < w.heap.size) (L : Below w.heap.size w w') : WbSeg s w' b off ts := fun i hi => (h i hi).next hb L
theorem WbView.next {s : Bool} {w w' : World} {ao : Option Addr} {ts : List Wb} (h : WbView s w ao ts) (L : Below w.heap.size w w') : WbView s w' ao ts := by
  rcases h with h | ⟨b, off, e, hb, hs⟩
  · exact Or.inl h
  · exact Or.inr ⟨b, off, e, Nat.lt_of_lt_of_le hb L.size, hs.next hb L⟩
theorem WbView.seg {s : Bool} {w : World} {ao : Option Addr} {ts : List Wb} (h : WbView s w ao ts) (h0 : 0 < ts.length) : ∃ b off, ao = some ⟨b, off, none⟩ ∧ b < w.heap.size ∧ WbSeg s w b off ts := by
  rcases h with h | h
  · subst h; simp at h0
  · exact h
/-- A sum. -/
def tot (f : Nat → Nat) : Nat → Nat
  | 0 => 0
  | k + 1 => tot f k + f k
def mtot (ms : List Mk) : Nat := ms.length + tot (fun j => (mat ms j).length) ms.length
def ctot (ls : List (List Int)) : Nat := ls.length + tot (fun j => (cn ls j).length) ls.length
def wtot (t : Wb) : Nat := mtot t.1 + ctot t.2
def ttot (ts : List Wb) : Nat := ts.length + tot (fun j => wtot (wnth ts j)) ts.length
theorem cutV_pos {left : Int} {n : Nat} (h : ¬ cutV left n < 0) : cutV left n = left - n := by
  unfold cutV at h ⊢
  split at h
  · exact absurd (show (-1 : Int) < 0 by decide) h
  · rename_i hc; rw [if_neg hc]

set_option maxHeartbeats 400000 in
theorem szMg_long (ao : Option Addr) (n cap : Nat) (left : Int) (w : World) (hn : n ≤ maxLen) (h0 : 0 ≤ left) (h : left < n) :
    Calls Tryz.prog 167 #[.slice ao n cap, .int .i64 left] w fun e w' => e = .returned (.int .i64 (-1)) ∧ w' = w := by
  unfold maxLen at hn
  have ht : left - n < 0 := by omega
  go_enter Tryz.func167, Tryz.ntmps167
  go_wp2
  go_ret
  exact ⟨rfl, rfl⟩

set_option maxHeartbeats 400000 in
theorem szMg_nil (ao : Option Addr) (cap : Nat) (left : Int) (w : World) (h0 : 0 ≤ left) (h1 : left ≤ 1048576) :
    Calls Tryz.prog 167 #[.slice ao 0 cap, .int .i64 left] w fun e w' => e = .returned (.int .i64 left) ∧ w' = w := by
  have ht : ¬ left < 0 := by omega
  go_enter Tryz.func167, Tryz.ntmps167
  go_wp2
  refine wp_loop_rounds 1 ?_
  rw [rounds_succ]
  go_wp2
  go_ret
  exact ⟨rfl, rfl⟩

set_option maxHeartbeats 800000 in
theorem szMg_seg (b off cap : Nat) (ms : List Mk) (left0 : Int) (w : World) (hs : MSeg w b off ms) (hb : b < w.heap.size) (hn : (ms.length : Int) ≤ left0) (hl0 : left0 ≤ 1048576) (hat : ∀ i, (mat ms i).length ≤ maxLen) :
    Calls Tryz.prog 167 #[.slice (some ⟨b, off, none⟩) ms.length cap, .int .i64 left0] w fun e w' => ∃ r, e = .returned (.int .i64 r) ∧ r ≤ left0 ∧ (r < 0 ∨ (MSmall ms ∧ (mtot ms : Int) + r = left0)) ∧ Below w.heap.size w w' := by
  have ht : ¬ left0 - ms.length < 0 := by omega
  go_enter Tryz.func167, Tryz.ntmps167
  go_wp2
  go_loopw [1, 5] (fun l i wr => ∃ (k : Nat) (left : Int), k ≤ ms.length ∧ i = .int .i64 k ∧ l = .int .i64 left ∧ 0 ≤ left ∧ left + (tot (fun j => (mat ms j).length) k : Nat) = left0 - ms.length ∧ (∀ j, j < k → (mat ms j).length ≤ 1048576) ∧ Below w.heap.size w wr) (fun _ i _ => ms.length - (intOf i).toNat)
  case atStart => exact ⟨0, left0 - ms.length, Nat.zero_le _, rfl, rfl, by omega, by simp [tot], fun j hj => by omega, Below.refl _ _⟩
  case round =>
    obtain ⟨k, left, hk, rfl, rfl, h0, h1', hall, L⟩ := hrel
    have HT := hidP h1'
    have h1 : left ≤ 1048576 := by omega
    have hle0 : left ≤ left0 := by omega
    clear h1'
    have HA := hidP hall
    clear hall
    by_cases hlt : k < ms.length
    · obtain ⟨hc0, ao, cap', hc1, hv⟩ := (hs.below hb (Nat.le_refl _) L).at hlt
      have hcut := cutV_le (mat ms k).length (by omega) h1
      have HS := hidP (fun h => cutV_small (n := (mat ms k).length) h1 h)
      have HP := hidP (fun h => cutV_pos (left := left) (n := (mat ms k).length) h)
      have HTS : Hid (tot (fun j => (mat ms j).length) (k + 1) = tot (fun j => (mat ms j).length) k + (mat ms k).length) := rfl
      have hz := L.size
      clear hv
      go_wp2_with fail
      refine (szM (mnth ms k) ao cap' left _ (hat k) h0 h1).mono ?_
      rintro e w1 ⟨rfl, L1⟩
      rw [← mnth_mem_len] at *
      by_cases hneg : cutV left (mat ms k).length < 0
      · go_wp2_with fail
        go_ret
        exact ⟨_, rfl, by omega, Or.inl (by omega), L.trans (L1.mono hz)⟩
      · have HC := hidP (HP.out (by omega))
        go_wp2_with fail
        go_roundw
        case rel => exact ⟨k + 1, cutV left (mat ms k).length, by omega, by go_num, rfl, by omega, by have := HC.out; have := HT.out; have := HTS.out; omega, fun j hj => by
          rcases Nat.lt_or_ge j k with h | h
          · exact HA.out j h
          · rw [show j = k by omega]; exact HS.out (by omega), L.trans (L1.mono hz)⟩
        case measure => simp [intOf]; omega
    · go_wp2
      go_ret
      obtain rfl : k = ms.length := by omega
      refine ⟨_, rfl, hle0, Or.inr ⟨⟨by omega, fun i => ?_⟩, by have := HT.out; unfold mtot; omega⟩, L⟩
      rcases Nat.lt_or_ge i ms.length with h | h
      · exact HA.out i h
      · simp [mat, List.getD, h]

theorem szMg (ao : Option Addr) (cap : Nat) (ms : List Mk) (left0 : Int) (w : World) (hv : MView w ao ms) (h0 : 0 ≤ left0) (hl0 : left0 ≤ 1048576) (hn : ms.length ≤ maxLen) (hat : ∀ i, (mat ms i).length ≤ maxLen) :
    Calls Tryz.prog 167 #[.slice ao ms.length cap, .int .i64 left0] w fun e w' => ∃ r, e = .returned (.int .i64 r) ∧ r ≤ left0 ∧ (r < 0 ∨ (MSmall ms ∧ (mtot ms : Int) + r = left0)) ∧ Below w.heap.size w w' := by
  rcases Int.lt_or_le left0 ms.length with h | h
  · refine (szMg_long ao ms.length cap left0 w hn h0 h).mono ?_
    rintro e w' ⟨rfl, rfl⟩
    exact ⟨_, rfl, by omega, Or.inl (by omega), Below.refl _ _⟩
  · rcases hv with rfl | ⟨b, off, rfl, hb, hs⟩
    · refine (szMg_nil ao cap left0 w h0 hl0).mono ?_
      rintro e w' ⟨rfl, rfl⟩
      exact ⟨_, rfl, by omega, Or.inr ⟨⟨by simp, fun i => by simp [mat]⟩, by simp [mtot, tot]⟩, Below.refl _ _⟩
    · exact szMg_seg b off cap ms left0 w hs hb h hl0 hat

set_option maxHeartbeats 800000 in
theorem szCg_seg (b off cap : Nat) (ls : List (List Int)) (left0 : Int) (w : World) (hs : CSeg w b off ls) (hn : (ls.length : Int) ≤ left0) (hl0 : left0 ≤ 1048576) (hat : ∀ i, (cn ls i).length ≤ maxLen) :
    Calls Tryz.prog 266 #[.slice (some ⟨b, off, none⟩) ls.length cap, .int .i64 left0] w fun e w' => ∃ r, e = .returned (.int .i64 r) ∧ r ≤ left0 ∧ (r < 0 ∨ (CSmall ls ∧ (ctot ls : Int) + r = left0)) ∧ w' = w := by
  have ht : ¬ left0 - ls.length < 0 := by omega
  go_enter Tryz.func266, Tryz.ntmps266
  go_wp2
  go_loop [1, 5] (fun l i => ∃ (k : Nat) (left : Int), k ≤ ls.length ∧ i = .int .i64 k ∧ l = .int .i64 left ∧ 0 ≤ left ∧ left + (tot (fun j => (cn ls j).length) k : Nat) = left0 - ls.length ∧ (∀ j, j < k → (cn ls j).length ≤ 1048576)) (fun _ i => ls.length - (intOf i).toNat)
  case atStart => exact ⟨0, left0 - ls.length, Nat.zero_le _, rfl, rfl, by omega, by simp [tot], fun j hj => by omega⟩
  case round =>
    obtain ⟨k, left, hk, rfl, rfl, h0, h1', hall⟩ := hrel
    have HT := hidP h1'
    have h1 : left ≤ 1048576 := by omega
    have hle0 : left ≤ left0 := by omega
    clear h1'
    have HA := hidP hall
    clear hall
    by_cases hlt : k < ls.length
    · obtain ⟨ao, cap', hc1, hv⟩ := hs k hlt
      have hcut := cutV_le (cn ls k).length (by omega) h1
      have HS := hidP (fun h => cutV_small (n := (cn ls k).length) h1 h)
      have HP := hidP (fun h => cutV_pos (left := left) (n := (cn ls k).length) h)
      have HTS : Hid (tot (fun j => (cn ls j).length) (k + 1) = tot (fun j => (cn ls j).length) k + (cn ls k).length) := rfl
      clear hv
      go_wp2_with fail
      refine (szS ao (cn ls k).length cap' left _ (hat k) h0 h1).mono ?_
      rintro e w1 ⟨rfl, rfl⟩
      by_cases hneg : cutV left (cn ls k).length < 0
      · go_wp2_with fail
        go_ret
        exact ⟨_, rfl, by omega, Or.inl (by omega), rfl⟩
      · have HC := hidP (HP.out (by omega))
        go_wp2_with fail
        go_round
        case rel => exact ⟨k + 1, cutV left (cn ls k).length, by omega, by go_num, rfl, by omega, by have := HC.out; have := HT.out; have := HTS.out; omega, fun j hj => by
          rcases Nat.lt_or_ge j k with h | h
          · exact HA.out j h
          · rw [show j = k by omega]; exact HS.out (by omega)⟩
        case measure => simp [intOf]; omega
    · go_wp2
      go_ret
      obtain rfl : k = ls.length := by omega
      refine ⟨_, rfl, hle0, Or.inr ⟨⟨by omega, fun i => ?_⟩, by have := HT.out; unfold ctot; omega⟩, rfl⟩
      rcases Nat.lt_or_ge i ls.length with h | h
      · exact HA.out i h
      · simp [cn, List.getD, h]

theorem szCg (ao : Option Addr) (cap : Nat) (ls : List (List Int)) (left0 : Int) (w : World) (hv : CView w ao ls) (h0 : 0 ≤ left0) (hl0 : left0 ≤ 1048576) (hn : ls.length ≤ maxLen) (hat : ∀ i, (cn ls i).length ≤ maxLen) :
    Calls Tryz.prog 266 #[.slice ao ls.length cap, .int .i64 left0] w fun e w' => ∃ r, e = .returned (.int .i64 r) ∧ r ≤ left0 ∧ (r < 0 ∨ (CSmall ls ∧ (ctot ls : Int) + r = left0)) ∧ w' = w := by
  rcases Int.lt_or_le left0 ls.length with h | h
  · refine (szCS_long ao ls.length cap left0 w hn h0 h).mono ?_
    rintro e w' ⟨rfl, rfl⟩
    exact ⟨_, rfl, by omega, Or.inl (by omega), rfl⟩
  · rcases hv with rfl | ⟨b, off, rfl, hb, hs⟩
    · refine (szCS_nil ao cap left0 w h0 hl0).mono ?_
      rintro e w' ⟨rfl, rfl⟩
      exact ⟨_, rfl, by omega, Or.inr ⟨⟨by simp, fun i => by simp [cn]⟩, by simp [ctot, tot]⟩, rfl⟩
    · exact szCg_seg b off cap ls left0 w hs h hl0 hat

set_option maxRecDepth 100000 in
set_option maxHeartbeats 1000000 in
theorem szWg (a1 a2 : Option Addr) (c1 c2 : Nat) (ms : List Mk) (ls : List (List Int)) (left0 : Int) (w : World) (h1 : MView w a1 ms) (h2 : CView w a2 ls) (h0 : 0 ≤ left0) (hl0 : left0 ≤ 1048576) (n1 : ms.length ≤ maxLen) (t1 : ∀ i, (mat ms i).length ≤ maxLen) (n2 : ls.length ≤ maxLen) (t2 : ∀ i, (cn ls i).length ≤ maxLen) :
    Calls Tryz.prog 228 #[.agg #[.slice a1 ms.length c1, .slice a2 ls.length c2], .int .i64 left0] w fun e w' => ∃ r, e = .returned (.int .i64 r) ∧ r ≤ left0 ∧ (r < 0 ∨ (MSmall ms ∧ CSmall ls ∧ (wtot (ms, ls) : Int) + r = left0)) ∧ Below w.heap.size w w' := by
  obtain ⟨W, hW⟩ : ∃ W, w.alloc (.cells #[.slice a1 ms.length c1, .slice a2 ls.length c2] 258) = W := ⟨_, rfl⟩
  have hB : Below w.heap.size w W := by rw [← hW]; exact (Below.refl _ _).alloc (Nat.le_refl _) _
  have hI : WebIn W w.heap.size a1 c1 ms a2 c2 ls := by rw [← hW]; exact WebIn.box h1 h2
  have HB := hidP hB
  have HI := hidP hI
  have k0 := hI.c0
  have HS := hidP (szMg a1 c1 ms left0 W hI.mv h0 hl0 n1 t1)
  have HS2 := hidP (fun (W' : World) (L : Below W.heap.size W W') (r : Int) (h0 : 0 ≤ r) (h1 : r ≤ 1048576) => szCg a2 c2 ls r W' (hI.below L).cv h0 h1 n2 t2)
  clear h1 h2 hB hI t1 t2
  go_enter Tryz.func228, Tryz.ntmps228
  go_wp2_with fail
  refine HS.out.mono ?_
  rintro e w1 ⟨r, rfl, hr1, hr, L1⟩
  by_cases hneg : r < 0
  · go_wp2_with fail
    go_ret
    exact ⟨-1, rfl, by omega, Or.inl (by omega), chain HB.out L1⟩
  have hsm : MSmall ms ∧ (mtot ms : Int) + r = left0 := by rcases hr with h | h; exact absurd h hneg; exact h
  have HSM := hidP hsm
  have c1' := (HI.out.below L1).c1
  have HC := hidP (HS2.out w1 L1 r (by omega) (by omega))
  have HL1 := hidP (chain HB.out L1)
  clear hr L1 hW hsm
  go_wp2_with fail
  refine HC.out.mono ?_
  rintro e w2 ⟨r2, rfl, hr21, hr2, hw2⟩
  subst hw2
  by_cases hneg2 : r2 < 0
  · go_wp2_with fail
    go_ret
    exact ⟨-1, rfl, by omega, Or.inl (by omega), HL1.out⟩
  have HCS : Hid (CSmall ls ∧ (ctot ls : Int) + r2 = r) := by rcases hr2 with h | h; exact absurd h hneg2; exact h
  clear hr2
  go_wp2_with fail
  go_ret
  exact ⟨r2, rfl, by omega, Or.inr ⟨HSM.out.1, HCS.out.1, by have := HSM.out.2; have := HCS.out.2; unfold wtot; simp only; omega⟩, HL1.out⟩
end Go.Proofs.YtaaagmgglolibaaGreat
namespace Go.Proofs.YtaaagmgglolibaaGreat
open Go Go.RowKit

theorem Tryz.info47 : (Tryz.prog.info? 47).map (fun i => (i.zero, i.size, i.bytes)) = some (some (.agg #[.slice none 0 0, .slice none 0 0]), 2, 48) := by kernel_rfl

theorem WebOwn.far {lo hi : Nat} {w w' : World} {bm bl : Nat} {ms : List Mk} {ls : List (List Int)} (h : WebOwn lo hi w bm bl ms ls) (hs : w.heap.size ≤ w'.heap.size) (far : ∀ i, lo ≤ i → i < hi → w'.heap[i]? = w.heap[i]?) : WebOwn lo hi w' bm bl ms ls := by
  have hlo := h.lo
  have hlt := h.lt
  have hbh : bl < hi := h.co.2.1
  have hh := h.hi
  refine ⟨hlo, ?_, ?_, h.mo.far hs (fun i h1 h2 _ => far i (by omega) (by omega)), h.co.far hs (fun i h1 h2 _ => far i (by omega) h2), hlt, by omega⟩
  · rcases h.mv with e | ⟨b, off, e, hb, hsg⟩
    · exact Or.inl e
    · injection e with e
      injection e with e1 e2
      subst e1 e2
      refine Or.inr ⟨bm, 0, rfl, by omega, fun i hi' => ?_⟩
      obtain ⟨c0, ao, cap, c1, hv⟩ := hsg i hi'
      obtain ⟨-, -, -, m4⟩ := h.mo
      obtain ⟨-, g, xs, hg1, hg2, cg, -, -⟩ := m4 i hi'
      have eb := far bm hlo (by omega)
      refine ⟨(World.cell?_of_block eb).trans c0, ao, cap, (World.cell?_of_block eb).trans c1, ?_⟩
      rw [show (0 : Nat) + i * 2 + 1 = i * 2 + 1 by omega, cg] at c1
      injection c1 with c1
      injection c1 with c1 c2' c3'
      rcases hv with e | ⟨b', off', e', hb', hs'⟩
      · exact Or.inl e
      · refine Or.inr ⟨b', off', e', by omega, fun k hk => ?_⟩
        have hbg : b' = g := by
          rw [e'] at c1
          injection c1 with c1
          injection c1 with c1
          exact c1.symm
        exact (World.cell?_of_block (far b' (by omega) (by omega))).trans (hs' k hk)
  · rcases h.cv with e | ⟨b, off, e, hb, hsg⟩
    · exact Or.inl e
    · injection e with e
      injection e with e1 e2
      subst e1 e2
      refine Or.inr ⟨bl, 0, rfl, by omega, fun i hi' => ?_⟩
      obtain ⟨ao, cap, c1, hv⟩ := hsg i hi'
      obtain ⟨-, -, m4⟩ := h.co
      obtain ⟨g, xs, hg1, hg2, cg, -, -⟩ := m4 i hi'
      have eb := far bl (by omega) hbh
      refine ⟨ao, cap, (World.cell?_of_block eb).trans c1, ?_⟩
      rw [show (0 : Nat) + i = i by omega, cg] at c1
      injection c1 with c1
      injection c1 with c1 c2' c3'
      rcases hv with e | ⟨b', off', e', hb', hs'⟩
      · exact Or.inl e
      · refine Or.inr ⟨b', off', e', by omega, fun k hk => ?_⟩
        have hbg : b' = g := by
          rw [e'] at c1
          injection c1 with c1
          injection c1 with c1
          exact c1.symm
        exact (World.cell?_of_block (far b' (by omega) (by omega))).trans (hs' k hk)

/-- A row of webs that a call fills: the first k are there, each in blocks of its own, one behind the other. -/
structure WbPart (w : World) (b k n : Nat) (ts : List Wb) (lo : Nat → Nat) : Prop where
  lt : b < w.heap.size
  first : b < lo 0
  last : lo k ≤ w.heap.size
  mono : ∀ i, i < k → lo i ≤ lo (i + 1)
  at_ : ∀ i, i < k → ∃ bm bl, w.cell? ⟨b, i * 2, none⟩ = some (.slice (some ⟨bm, 0, none⟩) (wnth ts i).1.length (wnth ts i).1.length) ∧ w.cell? ⟨b, i * 2 + 1, none⟩ = some (.slice (some ⟨bl, 0, none⟩) (wnth ts i).2.length (wnth ts i).2.length) ∧ WebOwn (lo i) (lo (i + 1)) w bm bl (wnth ts i).1 (wnth ts i).2
  room : ∀ j, j < n * 2 → ∃ v, w.cell? ⟨b, j, none⟩ = some v
  frozen : ∀ j, w.frozen? ⟨b, j, none⟩ = false
theorem WbPart.lo_le {w : World} {b k n : Nat} {ts : List Wb} {lo : Nat → Nat} (h : WbPart w b k n ts lo) (i : Nat) (hi : i ≤ k) : lo 0 ≤ lo i := by
  induction i with
  | zero => exact Nat.le_refl _
  | succ i ih => exact Nat.le_trans (ih (by omega)) (h.mono i (by omega))
theorem WbPart.le_last {w : World} {b k n : Nat} {ts : List Wb} {lo : Nat → Nat} (h : WbPart w b k n ts lo) (i : Nat) (hi : i ≤ k) : lo i ≤ lo k := by
  obtain ⟨d, rfl⟩ : ∃ d, k = i + d := ⟨k - i, by omega⟩
  clear hi
  have : ∀ m, m ≤ d → lo i ≤ lo (i + m) := by
    intro m
    induction m with
    | zero => intro _; exact Nat.le_refl _
    | succ m ih => intro hm; exact Nat.le_trans (ih (by omega)) (h.mono (i + m) (by omega))
  exact this d (Nat.le_refl _)
theorem WbPart.next {w w' : World} {b k n : Nat} {ts : List Wb} {lo : Nat → Nat} (h : WbPart w b k n ts lo) (L : Below w.heap.size w w') : WbPart w' b k n ts lo := by
  refine ⟨Nat.lt_of_lt_of_le h.lt L.size, h.first, Nat.le_trans h.last L.size, h.mono, fun i hi => ?_, fun j hj => ?_, fun j => (L.frozen (p := ⟨b, j, none⟩) h.lt).trans (h.frozen j)⟩
  · obtain ⟨bm, bl, c0, c1, ho⟩ := h.at_ i hi
    exact ⟨bm, bl, (L.cell (p := ⟨b, i * 2, none⟩) h.lt).trans c0, (L.cell (p := ⟨b, i * 2 + 1, none⟩) h.lt).trans c1, ho.next L⟩
  · obtain ⟨v, hv⟩ := h.room j hj
    exact ⟨v, (L.cell (p := ⟨b, j, none⟩) h.lt).trans hv⟩
theorem WbPart.view {w : World} {b : Nat} {ts : List Wb} {lo : Nat → Nat} (h : WbPart w b ts.length ts.length ts lo) : WbView true w (some ⟨b, 0, none⟩) ts :=
  Or.inr ⟨b, 0, rfl, h.lt, fun i hi => by
    obtain ⟨bm, bl, c0, c1, ho⟩ := h.at_ i hi
    exact ⟨_, _, _, _, by rw [Nat.zero_add]; exact c0, by rw [Nat.zero_add]; exact c1, ho.mv, ho.cv, fun _ => ⟨Nat.le_refl _, Nat.le_refl _⟩⟩⟩
theorem WbPart.start (w : World) (n : Nat) (ts : List Wb) (t : TypeId) : WbPart (w.alloc (.cells (madeCells #[.slice none 0 0, .slice none 0 0] (n * 2)) t)) w.heap.size 0 n ts (fun _ => w.heap.size + 1) := by
  refine ⟨by simp, by simp, by simp, fun i hi => by omega, fun i hi => by omega, fun j hj => ?_, fun j => World.frozen?_alloc_at _ _ _ _ rfl⟩
  rw [World.cell?_alloc_at _ _ _ _ rfl]
  refine ⟨_, Array.getElem?_eq_getElem (by rw [size_madeCells]; exact hj)⟩
def updN (f : Nat → Nat) (m v : Nat) (i : Nat) : Nat := if i = m then v else f i
theorem WbPart.step {w w' : World} {b k n bm bl : Nat} {ts : List Wb} {lo : Nat → Nat} (h : WbPart w b k n ts lo) (hk : k < n) (L : Below w.heap.size w w') (ho : WebOwn w.heap.size w'.heap.size w' bm bl (wnth ts k).1 (wnth ts k).2) :
    WbPart ((w'.setCell ⟨b, k * 2, none⟩ (.slice (some ⟨bm, 0, none⟩) (wnth ts k).1.length (wnth ts k).1.length)).setCell ⟨b, k * 2 + 1, none⟩ (.slice (some ⟨bl, 0, none⟩) (wnth ts k).2.length (wnth ts k).2.length)) b (k + 1) n ts (updN lo (k + 1) w'.heap.size) := by
  have hb := h.lt
  have hbw : b < w'.heap.size := Nat.lt_of_lt_of_le hb L.size
  have hN := h.next L
  generalize hu : Value.slice (some ⟨bm, 0, none⟩) (wnth ts k).1.length (wnth ts k).1.length = u
  generalize hv : Value.slice (some ⟨bl, 0, none⟩) (wnth ts k).2.length (wnth ts k).2.length = v
  obtain ⟨W, hW⟩ : ∃ W, (w'.setCell ⟨b, k * 2, none⟩ u).setCell ⟨b, k * 2 + 1, none⟩ v = W := ⟨_, rfl⟩
  have hsz : W.heap.size = w'.heap.size := by rw [← hW]; simp [World.setCell]
  have far : ∀ i, i ≠ b → W.heap[i]? = w'.heap[i]? := fun i hi => by
    rw [← hW, Below.heap_setCell _ ⟨b, k * 2 + 1, none⟩ _ i (fun e => hi e), Below.heap_setCell _ ⟨b, k * 2, none⟩ _ i (fun e => hi e)]
  obtain ⟨x0, hx0⟩ := hN.room (k * 2) (by omega)
  obtain ⟨x1, hx1⟩ := hN.room (k * 2 + 1) (by omega)
  have c0 : W.cell? ⟨b, k * 2, none⟩ = some u := by rw [← hW, World.cell?_setCell_other _ _ _ _ (by intro e; simp only [Addr.mk.injEq] at e; omega)]; exact World.cell?_setCell_same _ _ _ hx0
  have c1 : W.cell? ⟨b, k * 2 + 1, none⟩ = some v := by
    rw [← hW]
    refine World.cell?_setCell_same _ _ _ (?_ : _ = some x1)
    rw [World.cell?_setCell_other _ _ _ _ (by intro e; simp only [Addr.mk.injEq] at e; omega)]
    exact hx1
  have co : ∀ j, j ≠ k * 2 → j ≠ k * 2 + 1 → W.cell? ⟨b, j, none⟩ = w'.cell? ⟨b, j, none⟩ := fun j h1 h2 => by
    rw [← hW, World.cell?_setCell_other _ _ _ _ (by intro e; simp only [Addr.mk.injEq] at e; omega), World.cell?_setCell_other _ _ _ _ (by intro e; simp only [Addr.mk.injEq] at e; omega)]
  rw [hW]
  have hlo0 := h.first
  have hlk : lo k ≤ w.heap.size := h.last
  have hLs := L.size
  have e1 : ∀ i, i ≤ k → updN lo (k + 1) w'.heap.size i = lo i := fun i hi => by unfold updN; rw [if_neg (by omega)]
  have e2 : updN lo (k + 1) w'.heap.size (k + 1) = w'.heap.size := by unfold updN; rw [if_pos rfl]
  refine ⟨by omega, by rw [e1 0 (by omega)]; exact hlo0, by rw [e2]; omega, fun i hi => ?_, fun i hi => ?_, fun j hj => ?_, fun j => ?_⟩
  · rcases Nat.lt_or_ge i k with h1 | h1
    · rw [e1 i (by omega), e1 (i + 1) (by omega)]; exact h.mono i h1
    · obtain rfl : i = k := by omega
      rw [e1 i (by omega), e2]; omega
  · rcases Nat.lt_or_ge i k with h1 | h1
    · obtain ⟨bm', bl', d0, d1, ho'⟩ := hN.at_ i h1
      rw [e1 i (by omega), e1 (i + 1) (by omega)]
      have hl0 := h.lo_le i (by omega)
      have hl1 := h.le_last (i + 1) (by omega)
      exact ⟨bm', bl', (co _ (by omega) (by omega)).trans d0, (co _ (by omega) (by omega)).trans d1, ho'.far (by omega) (fun j hj1 hj2 => far j (by omega))⟩
    · obtain rfl : i = k := by omega
      rw [e1 i (by omega), e2]
      refine ⟨bm, bl, by rw [c0, hu], by rw [c1, hv], ?_⟩
      have hoo : WebOwn w.heap.size w'.heap.size W bm bl (wnth ts i).1 (wnth ts i).2 := ho.far (by omega) (fun j hj1 _ => far j (by omega))
      exact ⟨Nat.le_trans hlk hoo.lo, hoo.mv, hoo.cv, hoo.mo, hoo.co, hoo.lt, hoo.hi⟩
  · by_cases h1 : j = k * 2
    · exact ⟨_, by rw [h1]; exact c0⟩
    · by_cases h2 : j = k * 2 + 1
      · exact ⟨_, by rw [h2]; exact c1⟩
      · obtain ⟨v, hv⟩ := hN.room j hj
        exact ⟨v, (co j h1 h2).trans hv⟩
  · rw [← hW]
    simp only [World.frozen?_setCell]
    exact hN.frozen j
end Go.Proofs.YtaaagmgglolibaaGreat
namespace Go.Proofs.YtaaagmgglolibaaGreat
open Go Go.RowKit

def IWebOk : Prop := ∀ (am : Option Addr) (cm : Nat) (ms : List Mk) (al : Option Addr) (cl : Nat) (ls : List (List Int)) (w : World), MView w am ms → CView w al ls → MSmall ms → CSmall ls → ms.length ≤ cm → ls.length ≤ cl → Calls Tryz.prog 112 #[.agg #[.slice am ms.length cm, .slice al ls.length cl]] w fun e w' => e = .returned (.bool (webB ms ls)) ∧ Below w.heap.size w w'
end Go.Proofs.YtaaagmgglolibaaGreat
namespace Go.Proofs.YtaaagmgglolibaaGreat
open Go Go.RowKit

/-- Rows of rows of the call's own, or nothing yet. -/
def LMemV (base : Nat) (w : World) (v : Value) (rs : List Rw) : Prop := (v = .slice none 0 0 ∧ rs = []) ∨ ∃ g c, v = .slice (some ⟨g, 0, none⟩) rs.length c ∧ LMem base w g c rs
theorem LMemV.owns {base : Nat} {w : World} {v : Value} {rs : List Rw} (h : LMemV base w v rs) : w.ownsRow base 27 1 v rs.length (rs.map rwV) := by
  rcases h with ⟨rfl, rfl⟩ | ⟨g, c, rfl, h⟩
  · exact World.ownsRow_nil w base _ _
  · exact h.row
theorem LMemV.same {base : Nat} {w w' : World} {v : Value} {rs : List Rw} (h : LMemV base w v rs) (e : ∀ i, base ≤ i → i < w.heap.size → w'.heap[i]? = w.heap[i]?) : LMemV base w' v rs := by
  rcases h with h | ⟨g, c, rfl, h⟩
  · exact Or.inl h
  · exact Or.inr ⟨g, c, rfl, h.same (fun i hi => e i (h.all i hi).1 (h.all i hi).2)⟩
theorem LMemV.snoc {base : Nat} {w w8 : World} {v : Value} {gg cc : Nat} {rs : List Rw} {r : Rw} (h : LMemV base w v rs) (hown : w8.ownsRow base 27 1 (.slice (some ⟨gg, 0, none⟩) (rs.length + 1) cc) (rs.length + 1) (rs.map rwV ++ [rwV r]))
    (hgrow : w.grownBy w8 v.ownBlock) (hat : v.ownBlock = some gg ∨ gg = w.heap.size) (hr : IRow base w r.1 r.2.1 r.2.2) (hnew : ∀ i, base ≤ i → i < w.heap.size → (v.ownBlock = some i ∨ ∃ x ∈ rs, i = x.1) → i < r.1) : LMem base w8 gg cc (rs ++ [r]) := by
  have hrl := hr.lt
  rcases h with ⟨rfl, rfl⟩ | ⟨g, c, rfl, h⟩
  · have hgg : gg = w.heap.size := by
      rcases hat with e | e
      · cases e
      · exact e
    refine ⟨?_, fun x hx => ?_, by simp, fun x hx => ?_⟩
    · simpa [LRow] using hown
    · simp at hx; rw [hx]
      exact hr.kept hgrow (by simp [Value.ownBlock])
    · simp at hx; rw [hx]; omega
  · have hgl := h.row.lt
    refine h.snoc hown hgrow ?_ hr ?_ ?_
    · rcases hat with e | e
      · left; simpa [Value.ownBlock] using e
      · exact Or.inr e
    · have := hnew g hgl.1 hgl.2 (Or.inl rfl); omega
    · intro x hx
      have hx2 := (h.rows x hx).lt
      have := hnew x.1 hx2.1 hx2.2 (Or.inr ⟨x, hx, rfl⟩)
      omega
/-- Below B nothing has changed but one block. -/
structure KeptBut (B O : Nat) (w w' : World) : Prop where
  os : w'.os = w.os
  tape : w'.tape = w.tape
  output : w'.output = w.output
  size : w.heap.size ≤ w'.heap.size
  block : ∀ i, i < B → i ≠ O → w'.heap[i]? = w.heap[i]?
theorem KeptBut.refl (B O : Nat) (w : World) : KeptBut B O w w := ⟨rfl, rfl, rfl, Nat.le_refl _, fun _ _ _ => rfl⟩
theorem row_src_r {w : World} {n : Nat} {r : Rw} (hb : w.heap[n]? = some (.cells #[rwV r] 27 (0, 0))) : (∀ j u, [rwV r][j]? = some u → w.cell? ((⟨n, 0, none⟩ : Addr).add j) = some u) ∧ ∀ u ∈ [rwV r], u.oneCell' = true :=
  ⟨World.news_of_block (cs := #[rwV r]) hb, by simp [rwV, Value.oneCell']⟩

theorem owns_same14 {base : Nat} {w w' : World} {e : TypeId} {size g c n : Nat} {xs : List Value} (h : w.ownsRow base e size (.slice (some ⟨g, 0, none⟩) n c) n xs) (hh : w'.heap[g]? = w.heap[g]?) : w'.ownsRow base e size (.slice (some ⟨g, 0, none⟩) n c) n xs := by
  refine ⟨h.1, ?_⟩
  rcases h.2 with hn | ⟨g', cap, cur, e1, hb, hgg, rest⟩
  · exact .inl hn
  · refine .inr ⟨g', cap, cur, e1, hb, ?_, rest⟩
    injection e1 with e2 e3 e4
    injection e2 with e5
    injection e5 with e6
    rw [← e6, hh, e6]
    exact hgg
theorem owns_mono14 {base base' : Nat} {w : World} {e : TypeId} {size n : Nat} {v : Value} {xs : List Value} (h : w.ownsRow base e size v n xs) (hb : base' ≤ base) : w.ownsRow base' e size v n xs := ⟨h.1, h.2.imp id fun ⟨g', cap, cur, e, hg, r⟩ => ⟨g', cap, cur, e, Nat.le_trans hb hg, r⟩⟩

set_option maxRecDepth 100000 in
set_option maxHeartbeats 8000000 in
theorem sCopyW (am al : Option Addr) (cm cl : Nat) (ms : List Mk) (ls : List (List Int)) (w : World) (hm : MView w am ms) (hl : CView w al ls) (h60 : ms.length ≤ 60) (h4 : ∀ i, (mat ms i).length ≤ 4) (hl60 : ls.length ≤ 60) (hll : ∀ i, (cn ls i).length ≤ 60) :
    Calls Tryz.prog 245 #[.agg #[.slice am ms.length cm, .slice al ls.length cl]] w fun e w' => ∃ gm c ds v rs B1, e = .returned (.agg #[.slice (some ⟨gm, 0, none⟩) ms.length c, v]) ∧ DRow w.heap.size w' gm c ds ∧ dMarks ds = ms ∧ LMemV B1 w' v rs ∧ nums rs = ls ∧ gm < B1 ∧ (∀ d ∈ ds, d.2.1 < B1) ∧ w.heap.size ≤ B1 ∧ B1 ≤ w'.heap.size ∧ Below w.heap.size w w' := by
  obtain ⟨i0, hi0, hx0, hx1, hx2⟩ := info_parts Tryz.info2
  obtain ⟨j0, hj0, hy0, hy1, hy2⟩ := info_parts Tryz.infoL
  obtain ⟨W, hW⟩ : ∃ W, w.alloc (.cells #[.slice am ms.length cm, .slice al ls.length cl] 47) = W := ⟨_, rfl⟩
  obtain ⟨W2, hW2⟩ : ∃ W2, W.alloc (.cells #[.slice none 0 0, .slice none 0 0] 47) = W2 := ⟨_, rfl⟩
  have hB : Below w.heap.size w W := by rw [← hW]; exact (Below.refl _ _).alloc (Nat.le_refl _) _
  have hB2 : Below W.heap.size W W2 := by rw [← hW2]; exact (Below.refl _ _).alloc (Nat.le_refl _) _
  have s1 : W.heap.size = w.heap.size + 1 := by rw [← hW]; simp
  have s2 : W2.heap.size = w.heap.size + 1 + 1 := by rw [← hW2]; simp [s1]
  have hI0 : WebIn W w.heap.size am cm ms al cl ls := by rw [← hW]; exact WebIn.box hm hl
  have hI := hI0.below hB2
  have t1 : W2.heap[w.heap.size + 1]? = some (.cells #[.slice none 0 0, .slice none 0 0] 47) := by rw [← hW2, ← s1]; exact heap_alloc_new W _
  have HI := hidP hI
  have HB := hidP (chain hB hB2)
  have HT := hidP t1
  have k0 := hI.c0
  have HC := hidP (sCopyM am cm ms W2 hI.mv h60 h4)
  have HLL := hidP hll
  have HCV := hidP hl
  clear hm hl hB hB2 hI hI0 t1 h4 hll
  go_enter Tryz.func245, Tryz.ntmps245
  go_wp2_with fail
  refine HC.out.mono ?_
  rintro e w3 ⟨gm, c, ds, rfl, hrow, hdm, L3⟩
  obtain ⟨w4, hw4⟩ : ∃ w4, w3.alloc (.cells #[.slice (some ⟨gm, 0, none⟩) ms.length c, .slice none 0 0] 47) = w4 := ⟨_, rfl⟩
  have L4 : Below w3.heap.size w3 w4 := by rw [← hw4]; exact (Below.refl _ _).alloc (Nat.le_refl _) _
  have s4 : w4.heap.size = w3.heap.size + 1 := by rw [← hw4]; simp
  have z3 := L3.size
  have HO4 : Hid (w4.heap[w3.heap.size]? = some (.cells #[.slice (some ⟨gm, 0, none⟩) ms.length c, .slice none 0 0] 47)) := by show _ = _; rw [← hw4]; exact heap_alloc_new w3 _
  have HD4 := hidP (hrow.kept (r := none) ⟨L4.os, L4.tape, L4.output, L4.size, fun i hi _ => L4.block i hi⟩ (by simp))
  have HDB : Hid (gm < w3.heap.size ∧ ∀ d ∈ ds, d.2.1 < w3.heap.size) := ⟨hrow.lt.2, fun d hd => (hrow.2.1 d hd).1.lt2.2⟩
  have HDM := hidP hdm
  have HI4 := hidP (HI.out.below (chain L3 L4))
  have HT4 := hidP ((L4.block _ (by omega)).trans ((L3.block _ (by omega)).trans HT.out))
  have HB4 := hidP (chain (chain HB.out L3) L4)
  have c1 := HI4.out.c1
  have HW4 := hidP hw4
  clear hrow hdm L3 L4 HC HI HT hW hW2 k0 hw4
  go_wp2_with fail
  rw [HW4.out]
  obtain ⟨O, hO⟩ : ∃ O, w3.heap.size = O := ⟨_, rfl⟩
  rw [hO] at HO4 HDB s4 z3
  rw [hO]
  have HOO := hidP hO
  clear hO HW4
  have HLB : Hid (∀ wr, KeptBut (O + 1) O w4 wr → Below w.heap.size w wr) := fun wr K => ⟨K.os.trans HB4.out.os, K.tape.trans HB4.out.tape, K.output.trans HB4.out.output, Nat.le_trans HB4.out.size K.size, fun i hi => (K.block i (by omega) (by omega)).trans (HB4.out.block i hi)⟩
  go_loopw [4] (fun vi wr => ∃ (i : Nat) (v : Value) (rs : List Rw), i ≤ ls.length ∧ vi = .int .i64 i ∧ wr.heap[O]? = some (.cells #[.slice (some ⟨gm, 0, none⟩) ms.length c, v] 47) ∧ LMemV (O + 1) wr v rs ∧ rs.length = i ∧ nums rs = ls.take i ∧ KeptBut (O + 1) O w4 wr) (fun vi _ => ls.length - (intOf vi).toNat)
  case atStart => exact ⟨0, .slice none 0 0, [], Nat.zero_le _, rfl, HO4.out, Or.inl ⟨rfl, rfl⟩, rfl, rfl, KeptBut.refl _ _ _⟩
  case round =>
    clear HO4
    obtain ⟨i, v, rs, hi, rfl, hO', hlm, hrl, hnu, K⟩ := hrel
    obtain ⟨o0, o1, of, oO⟩ := two_cells hO'
    have LB := HLB.out wr K
    have hzk := K.size
    have c1 : wr.cell? ⟨w.heap.size, 1, none⟩ = some (.slice al ls.length cl) := (World.cell?_of_block (K.block w.heap.size (by omega) (by omega))).trans HI4.out.c1
    have HO5 := hidP hO'
    have HLM := hidP hlm
    have HNU := hidP hnu
    have HRL := hidP hrl
    have HK := hidP K
    have HLW := hidP LB
    by_cases hlt : i < ls.length
    · obtain ⟨bl, ol, rfl, hbl, hcs⟩ := (HCV.out.next LB).seg (by omega)
      have hblw : bl < w.heap.size := by
        obtain ⟨b', o', e', hb', -⟩ := HCV.out.seg (by omega)
        injection e' with e'
        injection e' with e1 e2
        omega
      obtain ⟨ai, ci, hci, hvi⟩ := hcs i hlt
      have hlci := HLL.out i
      have HVI := hidP hvi
      have hi0' : (0 : Int) ≤ (i : Int) := Int.natCast_nonneg _
      have hi1' : (i : Int) < (ls.length : Int) := by omega
      have HS0 : Hid (∀ W' : World, (∀ j, j < O + 1 → W'.heap[j]? = wr.heap[j]?) → W'.cell? ⟨O, 1, none⟩ = some v ∧ W'.cell? ⟨w.heap.size, 1, none⟩ = some (.slice (some ⟨bl, ol, none⟩) ls.length cl) ∧ W'.cell? ⟨bl, ol + i, none⟩ = some (.slice ai (cn ls i).length ci)) := fun W' h => ⟨(World.cell?_of_block (h O (by omega))).trans o1, (World.cell?_of_block (h w.heap.size (by omega))).trans c1, (World.cell?_of_block (h bl (by omega))).trans hci⟩
      have HTK : Hid (∀ g6 c6, nums (rs ++ [(g6, c6, cn ls i)]) = ls.take (i + 1)) := fun g6 c6 => by
        show _ = _
        rw [nums, List.map_append, ← nums, HNU.out, List.take_add_one]
        congr 1
        simp [cn, List.getD, hlt]
      clear hlm hnu hrl K LB hcs hvi hO'
      go_wp2_with fail
      refine wp_region_calm (S := fun W' => W'.cell? ⟨O, 1, none⟩ = some v ∧ W'.cell? ⟨w.heap.size, 1, none⟩ = some (.slice (some ⟨bl, ol, none⟩) ls.length cl) ∧ W'.cell? ⟨bl, ol + i, none⟩ = some (.slice ai (cn ls i).length ci)) (fuel := 5)
        [0, 1, 3, 4, 5, 6, 7] _ rfl (by kernel_rfl) (by kernel_rfl) (by kernel_rfl) (by kernel_rfl) (by kernel_rfl) (by kernel_rfl) (by kernel_rfl) (HS0.out _ (fun j _ => rfl)) (fun _ => ?_)
      iterate 7
        refine ⟨_, rfl, ?_⟩
        apply Exists.intro
        refine ⟨Or.inl ⟨by rfl, fun w' hw' => ?_⟩, ?_⟩
        · obtain ⟨e1, e2, e3⟩ := hw'
          first
          | (go_simp; done)
          | (go_simp; with_reducible rfl)
        simp only [Act.put, List.setIfInBounds_toArray]
      refine calm_one 2 (by kernel_rfl) rfl (fun K hK => ?_)
      go_simp
      obtain ⟨w5, hw5⟩ : ∃ w5, (wr.alloc (.cells #[] 2)).drew = w5 := ⟨_, rfl⟩
      have HL5 : Hid (Below wr.heap.size wr w5) := by show Below _ _ _; rw [← hw5]; exact ((Below.refl wr.heap.size wr).alloc (Nat.le_refl _) _).drew
      have HR5 : Hid (Row (O + 1) w5 wr.heap.size 0 []) := by show Row _ _ _ _ _; rw [← hw5]; exact Row.start wr (O + 1) (by omega)
      have hs5 : w5.heap.size = wr.heap.size + 1 := by rw [← hw5]; simp
      rw [hw5]
      clear hw5
      refine hK.out _ _ (HS0.out _ (fun j hj => HL5.out.block j (by omega))) (fun _ => ?_)
      clear hK K
      refine calm_one 8 (by kernel_rfl) rfl (fun K hK => ?_)
      refine step_append_at w5 rfl (.tmp 18) (.tmp 23) 27 rfl (O + 1) 2 i0 _ 1 8 Tryz.underlying27 hi0 hx0 hx1 hx2 rfl (by omega) wr.heap.size 0 0 [] rfl HR5.out ai (cn ls i).length ci ((cn ls i).map (Value.int .i64)) rfl (view_src14 (View.next HVI.out HL5.out)) (by unfold maxLen; omega) (by omega) (by omega) w5.heap.size rfl ?_
      intro g6 c6 w6 hown6 hgrow6 hat6 hlt6
      have HR6 : Hid (Row (O + 1) w6 g6 c6 (cn ls i)) := row_of14 hown6 rfl
      have hz6 := hgrow6.size
      have HL6 : Hid (Below wr.heap.size wr w6) := HL5.out.grown hgrow6 (by omega) (by intro q hq; cases hq; omega)
      have hg6b : wr.heap.size ≤ g6 := by rcases hat6 with e | e <;> omega
      clear hown6 hgrow6
      refine hK.out _ _ (HS0.out _ (fun j hj => HL6.out.block j (by omega))) (fun _ => ?_)
      clear hK K
      refine calm_one 9 (by kernel_rfl) rfl (fun K hK => ?_)
      go_simp
      obtain ⟨w7, hw7⟩ : ∃ w7, w6.alloc (.cells #[.slice (some ⟨g6, 0, none⟩) (cn ls i).length c6] 27) = w7 := ⟨_, rfl⟩
      have HN7 : Hid (w7.heap[w6.heap.size]? = some (.cells #[rwV (g6, c6, cn ls i)] 27 (0, 0))) := by show _ = _; rw [← hw7]; exact heap_alloc_new w6 _
      have L67 : Below w6.heap.size w6 w7 := by rw [← hw7]; exact (Below.refl _ _).alloc (Nat.le_refl _) _
      have hs7 : w7.heap.size = w6.heap.size + 1 := by rw [← hw7]; simp
      have HL7 := hidP (chain HL6.out L67)
      have HR7 := hidP (HR6.out.next L67 HR6.out.lt2.2)
      have HM7 := hidP (HLM.out.same (w' := w7) (fun j _ hj => HL7.out.block j hj))
      try rw [Nat.zero_add]
      try rw [hw7]
      clear hw7 L67
      refine hK.out _ _ (HS0.out _ (fun j hj => HL7.out.block j (by omega))) (fun _ => ?_)
      clear hK K
      refine calm_one 10 (by kernel_rfl) rfl (fun K hK => ?_)
      refine step_append_lies w7 rfl (.tmp 17) (.tmp 25) 45 rfl (O + 1) 27 j0 _ 1 24 Tryz.underlying45 hj0 hy0 hy1 hy2 rfl (by omega) v rs.length (rs.map rwV) rfl HM7.out.owns ⟨w6.heap.size, 0, none⟩ 1 1 [rwV (g6, c6, cn ls i)] rfl rfl (row_src_r HN7.out).1 (row_src_r HN7.out).2 (by omega) (by have := HRL.out; unfold maxLen; omega) (by have := HRL.out; omega) (by omega) w7.heap.size rfl ?_
      intro g8 c8 w8 hown8 hgrow8 hat8 hlt8
      have HM8 : Hid (LMem (O + 1) w8 g8 c8 (rs ++ [(g6, c6, cn ls i)])) := HM7.out.snoc hown8 hgrow8 hat8 HR7.out (fun j h1 h2 h3 => by
        have : j < wr.heap.size := by
          rcases HLM.out with ⟨hv0, hr0⟩ | ⟨g', c', hv0, hm0⟩
          · rcases h3 with e | ⟨x, hx, -⟩
            · rw [hv0] at e; cases e
            · rw [hr0] at hx; cases hx
          · rcases h3 with e | ⟨x, hx, rfl⟩
            · rw [hv0] at e
              have e' : g' = j := by simpa [Value.ownBlock] using e
              have := hm0.row.lt
              omega
            · exact (hm0.rows x hx).lt.2
        show j < g6
        omega)
      have HK8 : Hid (∀ j, j < O + 1 → w8.heap[j]? = wr.heap[j]?) := fun j hj => (hgrow8.block j (by omega) (fun e => by
        rcases HM7.out with ⟨hv0, hr0⟩ | ⟨g', c', hv0, hm0⟩
        · rw [hv0] at e; cases e
        · rw [hv0] at e
          have e' : j = g' := by simpa [Value.ownBlock] using e
          have := hm0.row.lt
          omega)).trans (HL7.out.block j (by omega))
      have hz8 := hgrow8.size
      have HKK : Hid (w8.os = wr.os ∧ w8.tape = wr.tape ∧ w8.output = wr.output) := ⟨hgrow8.os.trans HL7.out.os, hgrow8.tape.trans HL7.out.tape, hgrow8.output.trans HL7.out.output⟩
      clear hown8 hgrow8
      refine hK.out _ _ (HS0.out _ HK8.out) (fun _ => ?_)
      clear hK K
      refine calm_one 11 (by kernel_rfl) rfl (fun K hK => ?_)
      go_simp
      refine hK.out _ _ (HS0.out _ HK8.out) (fun _ => ?_)
      clear hK K
      refine wpAnyH_done (by kernel_rfl) ?_ _
      simp only [Exit.then]
      have t8 := (HK8.out O (by omega)).trans HO5.out
      obtain ⟨u0, u1, uf, uO⟩ := two_cells t8
      have uf1 := uf 1
      have HT9 := hidP (two_set (x := .slice (some ⟨g8, 0, none⟩) (rs.length + 1) c8) t8).2
      have HM9 : Hid (LMem (O + 1) (w8.setCell ⟨O, 1, none⟩ (.slice (some ⟨g8, 0, none⟩) (rs.length + 1) c8)) g8 c8 (rs ++ [(g6, c6, cn ls i)])) := HM8.out.same (fun j hj => Below.heap_setCell w8 ⟨O, 1, none⟩ _ j (fun e => by have h1 := (HM8.out.all j hj).1; have : j = O := e; omega))
      have HK9 : Hid (KeptBut (O + 1) O w4 (w8.setCell ⟨O, 1, none⟩ (.slice (some ⟨g8, 0, none⟩) (rs.length + 1) c8))) := ⟨HKK.out.1.trans HK.out.os, HKK.out.2.1.trans HK.out.tape, HKK.out.2.2.trans HK.out.output, by simp [World.setCell]; omega, fun j hj hne => (Below.heap_setCell w8 ⟨O, 1, none⟩ _ j (fun e => hne e)).trans ((HK8.out j hj).trans (HK.out.block j hj hne))⟩
      clear HS0 HL5 HR5 HL6 HR6 HL7 HR7 HM7 HN7 HM8 HK8 HKK t8 u0 uf
      go_wp2_with fail
      refine NoPanic.normal ?_
      go_wp2_with fail
      go_roundw
      case rel => exact ⟨i + 1, .slice (some ⟨g8, 0, none⟩) (rs.length + 1) c8, rs ++ [(g6, c6, cn ls i)], by omega, by go_num, HT9.out, Or.inr ⟨g8, c8, by simp, HM9.out⟩, by have := HRL.out; simp; omega, HTK.out g6 c6, HK9.out⟩
      case measure => simp [intOf]; omega
    · obtain rfl : i = ls.length := by omega
      have hnl : nums rs = ls := by rw [HNU.out, List.take_length]
      have p1 := (K.block (w.heap.size + 1) (by omega) (by omega)).trans HT4.out
      obtain ⟨q0, q1, qf, -⟩ := two_cells p1
      have qf0 := qf 0
      have qf1 := qf 1
      have HDW : Hid (DRow w.heap.size wr gm c ds) := by
        have h := HD4.out
        have hdb := HDB.out
        refine ⟨?_, fun d hd => ⟨?_, (h.2.1 d hd).2⟩, h.2.2⟩
        · exact owns_mono14 (owns_same14 h.1 (K.block gm (by omega) (by omega))) (by omega)
        · have h2 := (h.2.1 d hd).1
          have := hdb.2 d hd
          exact (h2.same (K.block d.2.1 (by omega) (by omega))).mono14 (by omega)
      have HF : Hid (∀ (u : Value) (w' : World), LMemV (O + 1) wr u rs → w' = (wr.setCell ⟨w.heap.size + 1, 0, none⟩ (.slice (some ⟨gm, 0, none⟩) ms.length c)).setCell ⟨w.heap.size + 1, 1, none⟩ u → ∃ gm' c' ds' v' rs' B1, Ending.returned (.agg #[.slice (some ⟨gm, 0, none⟩) ms.length c, u]) = Ending.returned (.agg #[.slice (some ⟨gm', 0, none⟩) ms.length c', v']) ∧ DRow w.heap.size w' gm' c' ds' ∧ dMarks ds' = ms ∧ LMemV B1 w' v' rs' ∧ nums rs' = ls ∧ gm' < B1 ∧ (∀ d ∈ ds', d.2.1 < B1) ∧ w.heap.size ≤ B1 ∧ B1 ≤ w'.heap.size ∧ Below w.heap.size w w') := fun u w' hu e => by
        have hfar : ∀ j, j ≠ w.heap.size + 1 → w'.heap[j]? = wr.heap[j]? := fun j hj => by
          rw [e, Below.heap_setCell _ ⟨w.heap.size + 1, 1, none⟩ _ j (fun e => hj e), Below.heap_setCell _ ⟨w.heap.size + 1, 0, none⟩ _ j (fun e => hj e)]
        have hsz : w'.heap.size = wr.heap.size := by rw [e]; simp [World.setCell]
        have hdb := HDB.out
        have hg2 := HD4.out.lt.1
        refine ⟨gm, c, ds, u, rs, O + 1, rfl, ?_, HDM.out, hu.same (fun j h1 _ => hfar j (by omega)), hnl, by omega, fun d hd => by have := hdb.2 d hd; omega, by omega, by omega, ?_⟩
        · refine ⟨owns_same14 HDW.out.1 (hfar gm (by omega)), fun d hd => ⟨?_, (HDW.out.2.1 d hd).2⟩, HDW.out.2.2⟩
          have h3 := (HD4.out.2.1 d hd).1.lt2.1
          exact (HDW.out.2.1 d hd).1.same (hfar d.2.1 (by omega))
        · rw [e]
          exact (HLW.out.setCell (by show w.heap.size ≤ w.heap.size + 1; omega) _).setCell (by show w.heap.size ≤ w.heap.size + 1; omega) _
      clear hlm hnu hrl LB hO' qf of K p1
      rcases HLM.out with ⟨hv0, hr0⟩ | ⟨gl, cl', hv0, hm0⟩
      · subst hv0
        have hq := HF.out (.slice none 0 0) _ (Or.inl ⟨rfl, hr0⟩) rfl
        have HQ := hidP hq
        clear hq HF
        go_wp2_with fail
        refine bodyPost_ret (v := .agg #[.slice (some ⟨gm, 0, none⟩) ms.length c, .slice none 0 0]) (by simp [results, Tryz.results245, go_sem, q0, q1]) rfl ?_
        exact HQ.out
      · subst hv0
        have hq := HF.out (.slice (some ⟨gl, 0, none⟩) rs.length cl') _ (Or.inr ⟨gl, cl', rfl, hm0⟩) rfl
        have HQ := hidP hq
        clear hq HF hm0
        go_wp2_with fail
        refine bodyPost_ret (v := .agg #[.slice (some ⟨gm, 0, none⟩) ms.length c, .slice (some ⟨gl, 0, none⟩) rs.length cl']) (by simp [results, Tryz.results245, go_sem, q0, q1]) rfl ?_
        exact HQ.out

end Go.Proofs.YtaaagmgglolibaaGreat
namespace Go.Proofs.YtaaagmgglolibaaGreat
open Go Go.RowKit

theorem WbSeg.at {s : Bool} {w : World} {b off : Nat} {ts : List Wb} (h : WbSeg s w b off ts) {i : Nat} (hi : i < ts.length) : ∃ am cm al cl, w.cell? ⟨b, off + i * 2, none⟩ = some (.slice am (wnth ts i).1.length cm) ∧ w.cell? ⟨b, off + i * 2 + 1, none⟩ = some (.slice al (wnth ts i).2.length cl) ∧ MView w am (wnth ts i).1 ∧ CView w al (wnth ts i).2 ∧ (s = true → (wnth ts i).1.length ≤ cm ∧ (wnth ts i).2.length ≤ cl) := h i hi

theorem WbPart.far {w w' : World} {b k n : Nat} {ts : List Wb} {lo : Nat → Nat} (h : WbPart w b k n ts lo) (hs : w.heap.size ≤ w'.heap.size) (far : ∀ i, b ≤ i → i < w.heap.size → w'.heap[i]? = w.heap[i]?) : WbPart w' b k n ts lo := by
  have eb := far b (Nat.le_refl _) h.lt
  have h0 := h.first
  have hl := h.last
  refine ⟨Nat.lt_of_lt_of_le h.lt hs, h0, Nat.le_trans hl hs, h.mono, fun i hi => ?_, fun j hj => ?_, fun j => (World.frozen?_of_block eb).trans (h.frozen j)⟩
  · obtain ⟨bm, bl, c0, c1, ho⟩ := h.at_ i hi
    have h1 := h.lo_le i (by omega)
    have h2 := h.le_last (i + 1) (by omega)
    exact ⟨bm, bl, (World.cell?_of_block eb).trans c0, (World.cell?_of_block eb).trans c1, ho.far hs (fun j hj1 hj2 => far j (by omega) (by omega))⟩
  · obtain ⟨v, hv⟩ := h.room j hj
    exact ⟨v, (World.cell?_of_block eb).trans hv⟩

set_option maxHeartbeats 400000 in
theorem szWS_long (ao : Option Addr) (n cap : Nat) (left : Int) (w : World) (hn : n ≤ maxLen) (h0 : 0 ≤ left) (h : left < n) :
    Calls Tryz.prog 161 #[.slice ao n cap, .int .i64 left] w fun e w' => e = .returned (.int .i64 (-1)) ∧ w' = w := by
  unfold maxLen at hn
  have ht : left - n < 0 := by omega
  go_enter Tryz.func161, Tryz.ntmps161
  go_wp2
  go_ret
  exact ⟨rfl, rfl⟩

set_option maxHeartbeats 400000 in
theorem szWS_nil (ao : Option Addr) (cap : Nat) (left : Int) (w : World) (h0 : 0 ≤ left) (h1 : left ≤ 1048576) :
    Calls Tryz.prog 161 #[.slice ao 0 cap, .int .i64 left] w fun e w' => e = .returned (.int .i64 left) ∧ w' = w := by
  have ht : ¬ left < 0 := by omega
  go_enter Tryz.func161, Tryz.ntmps161
  go_wp2
  refine wp_loop_rounds 1 ?_
  rw [rounds_succ]
  go_wp2
  go_ret
  exact ⟨rfl, rfl⟩

set_option maxRecDepth 100000 in
set_option maxHeartbeats 800000 in
theorem szWS_seg (s : Bool) (b off cap : Nat) (ts : List Wb) (left0 : Int) (w : World) (hs : WbSeg s w b off ts) (hb : b < w.heap.size) (hn : (ts.length : Int) ≤ left0) (hl0 : left0 ≤ 1048576) (hat : ∀ i, (wnth ts i).1.length ≤ maxLen ∧ (∀ j, (mat (wnth ts i).1 j).length ≤ maxLen) ∧ (wnth ts i).2.length ≤ maxLen ∧ ∀ j, (cn (wnth ts i).2 j).length ≤ maxLen) :
    Calls Tryz.prog 161 #[.slice (some ⟨b, off, none⟩) ts.length cap, .int .i64 left0] w fun e w' => ∃ r, e = .returned (.int .i64 r) ∧ r ≤ left0 ∧ (r < 0 ∨ (WbSmall ts ∧ (ttot ts : Int) + r = left0)) ∧ Below w.heap.size w w' := by
  have ht : ¬ left0 - ts.length < 0 := by omega
  have HAT := hidP hat
  have HSG := hidP hs
  clear hat hs
  go_enter Tryz.func161, Tryz.ntmps161
  go_wp2
  go_loopw [1, 5] (fun l i wr => ∃ (k : Nat) (left : Int), k ≤ ts.length ∧ i = .int .i64 k ∧ l = .int .i64 left ∧ 0 ≤ left ∧ left + (tot (fun j => wtot (wnth ts j)) k : Nat) = left0 - ts.length ∧ (∀ j, j < k → MSmall (wnth ts j).1 ∧ CSmall (wnth ts j).2) ∧ Below w.heap.size w wr) (fun _ i _ => ts.length - (intOf i).toNat)
  case atStart => exact ⟨0, left0 - ts.length, Nat.zero_le _, rfl, rfl, by omega, by simp [tot], fun j hj => by omega, Below.refl _ _⟩
  case round =>
    obtain ⟨k, left, hk, rfl, rfl, h0, h1', hall, L⟩ := hrel
    have HT := hidP h1'
    have h1 : left ≤ 1048576 := by omega
    have hle0 : left ≤ left0 := by omega
    clear h1'
    have HA := hidP hall
    have HL := hidP L
    clear hall
    by_cases hlt : k < ts.length
    · obtain ⟨am, cm, al, cl, c0, c1, hm, hc, -⟩ := (HSG.out.next hb L).at hlt
      have HTS : Hid (tot (fun j => wtot (wnth ts j)) (k + 1) = tot (fun j => wtot (wnth ts j)) k + wtot (wnth ts k)) := rfl
      obtain ⟨t1, t2, t3, t4⟩ := HAT.out k
      have HC := hidP (szWg am al cm cl (wnth ts k).1 (wnth ts k).2 left wr hm hc h0 h1 t1 t2 t3 t4)
      have hz := L.size
      have HWT : Hid (wtot ((wnth ts k).1, (wnth ts k).2) = wtot (wnth ts k)) := rfl
      clear hm hc t2 t4 L
      generalize hg1 : (wnth ts k).1 = gm at *
      generalize hg2 : (wnth ts k).2 = gl at *
      have HG := hidP (And.intro hg1 hg2)
      clear hg1 hg2
      go_wp2_with fail
      refine HC.out.mono ?_
      rintro e w1 ⟨r, rfl, hr1, hr2, L1⟩
      by_cases hneg : r < 0
      · go_wp2_with fail
        go_ret
        exact ⟨-1, rfl, by omega, Or.inl (by omega), HL.out.trans (L1.mono hz)⟩
      · have HR : Hid (MSmall gm ∧ CSmall gl ∧ (wtot (gm, gl) : Int) + r = left) := by rcases hr2 with h | h; exact absurd h hneg; exact h
        clear hr2
        go_wp2_with fail
        go_roundw
        case rel => exact ⟨k + 1, r, by omega, by go_num, rfl, by omega, by have := HR.out.2.2; have := HT.out; have := HTS.out; have := HWT.out; omega, fun j hj => by
          rcases Nat.lt_or_ge j k with h | h
          · exact HA.out j h
          · rw [show j = k by omega, HG.out.1, HG.out.2]; exact ⟨HR.out.1, HR.out.2.1⟩, HL.out.trans (L1.mono hz)⟩
        case measure => simp [intOf]; omega
    · go_wp2
      go_ret
      obtain rfl : k = ts.length := by omega
      refine ⟨_, rfl, hle0, Or.inr ⟨⟨by omega, fun i => ?_⟩, by have := HT.out; unfold ttot; omega⟩, L⟩
      rcases Nat.lt_or_ge i ts.length with h | h
      · exact HA.out i h
      · simp [wnth, List.getD, h, MSmall, CSmall, mat, cn]

theorem szWS (s : Bool) (ao : Option Addr) (cap : Nat) (ts : List Wb) (left0 : Int) (w : World) (hv : WbView s w ao ts) (h0 : 0 ≤ left0) (hl0 : left0 ≤ 1048576) (hn : ts.length ≤ maxLen) (hat : ∀ i, (wnth ts i).1.length ≤ maxLen ∧ (∀ j, (mat (wnth ts i).1 j).length ≤ maxLen) ∧ (wnth ts i).2.length ≤ maxLen ∧ ∀ j, (cn (wnth ts i).2 j).length ≤ maxLen) :
    Calls Tryz.prog 161 #[.slice ao ts.length cap, .int .i64 left0] w fun e w' => ∃ r, e = .returned (.int .i64 r) ∧ r ≤ left0 ∧ (r < 0 ∨ (WbSmall ts ∧ (ttot ts : Int) + r = left0)) ∧ Below w.heap.size w w' := by
  rcases Int.lt_or_le left0 ts.length with h | h
  · refine (szWS_long ao ts.length cap left0 w hn h0 h).mono ?_
    rintro e w' ⟨rfl, rfl⟩
    exact ⟨_, rfl, by omega, Or.inl (by omega), Below.refl _ _⟩
  · rcases hv with rfl | ⟨b, off, rfl, hb, hs⟩
    · refine (szWS_nil ao cap left0 w h0 hl0).mono ?_
      rintro e w' ⟨rfl, rfl⟩
      exact ⟨_, rfl, by omega, Or.inr ⟨⟨by simp, fun i => by simp [wnth, MSmall, CSmall, mat, cn]⟩, by simp [ttot, tot]⟩, Below.refl _ _⟩
    · exact szWS_seg s b off cap ts left0 w hs hb h hl0 hat

set_option maxRecDepth 100000 in
set_option maxHeartbeats 1000000 in
theorem szTw (s : Bool) (ao : Option Addr) (cap : Nat) (d : Int) (ts : List Wb) (left0 : Int) (w : World) (hv : WbView s w ao ts) (h0 : 0 ≤ left0) (hl0 : left0 ≤ 1048576) (hn : ts.length ≤ maxLen) (hat : ∀ i, (wnth ts i).1.length ≤ maxLen ∧ (∀ j, (mat (wnth ts i).1 j).length ≤ maxLen) ∧ (wnth ts i).2.length ≤ maxLen ∧ ∀ j, (cn (wnth ts i).2 j).length ≤ maxLen) :
    Calls Tryz.prog 64 #[.agg #[.int .i64 d, .slice ao ts.length cap], .int .i64 left0] w fun e w' => ∃ r, e = .returned (.int .i64 r) ∧ r ≤ left0 ∧ (r < 0 ∨ (WbSmall ts ∧ (ttot ts : Int) + r = left0)) ∧ Below w.heap.size w w' := by
  obtain ⟨W, hW⟩ : ∃ W, w.alloc (.cells #[.int .i64 d, .slice ao ts.length cap] 92) = W := ⟨_, rfl⟩
  have hB : Below w.heap.size w W := by rw [← hW]; exact (Below.refl _ _).alloc (Nat.le_refl _) _
  have HB := hidP hB
  have HW := hidP hW
  have k1 : W.cell? ⟨w.heap.size, 1, none⟩ = some (.slice ao ts.length cap) := by rw [← hW]; simp
  have HS := hidP (szWS s ao cap ts left0 W (hv.next hB) h0 hl0 hn hat)
  clear hv hB hat hW
  go_enter Tryz.func64, Tryz.ntmps64
  go_wp2_with fail
  rw [HW.out]
  refine HS.out.mono ?_
  rintro e w1 ⟨r, rfl, hr1, hr, L1⟩
  have HR := hidP hr
  have HL1 := hidP (chain HB.out L1)
  clear hr L1 HW
  by_cases hneg : r < 0
  · go_wp2_with fail
    go_ret
    exact ⟨-1, rfl, by omega, Or.inl (by omega), HL1.out⟩
  · go_wp2_with fail
    go_ret
    exact ⟨r, rfl, by omega, HR.out, HL1.out⟩

set_option maxRecDepth 100000 in
set_option maxHeartbeats 800000 in
theorem toWS_seg (s : Bool) (b off cap : Nat) (ts : List Wb) (w : World) (hs : WbSeg s w b off ts) (hb : b < w.heap.size) (hsm : WbSmall ts) :
    Calls Tryz.prog 163 #[.slice (some ⟨b, off, none⟩) ts.length cap] w fun e w' => e = .returned (.slice (some ⟨w.heap.size, 0, none⟩) ts.length ts.length) ∧ (∃ lo, WbPart w' w.heap.size ts.length ts.length ts lo) ∧ Below w.heap.size w w' := by
  obtain ⟨hn, hat⟩ := hsm
  have HAT := hidP hat
  have HSG := hidP hs
  clear hat hs
  have hmk := run_make_rows (P := Tryz.prog) 24 47 (.agg #[.slice none 0 0, .slice none 0 0]) 2 48 Tryz.underlying24 Tryz.info47 .i64 .i64 ts.length (by omega) (by omega)
  go_enter Tryz.func163, Tryz.ntmps163
  go_wp2
  clear hmk
  go_loopw [4] (fun i wr => ∃ (k : Nat) (lo : Nat → Nat), k ≤ ts.length ∧ i = .int .i64 k ∧ WbPart wr w.heap.size k ts.length ts lo ∧ Below w.heap.size w wr) (fun i _ => ts.length - (intOf i).toNat)
  case atStart => exact ⟨0, _, Nat.zero_le _, rfl, WbPart.start w _ _ _, (Below.refl _ _).alloc (Nat.le_refl _) _⟩
  case round =>
    obtain ⟨k, lo, hk, rfl, hp, L⟩ := hrel
    by_cases hlt : k < ts.length
    · obtain ⟨am, cm, al, cl, c0, c1, hm, hc, -⟩ := (HSG.out.next hb L).at hlt
      have HC := hidP (toW am al cm cl (wnth ts k).1 (wnth ts k).2 wr hm hc (HAT.out k).1 (HAT.out k).2)
      have hz := L.size
      have hp1 := hp.lt
      have HP := hidP hp
      have HL := hidP L
      have HTY : Hid (wnth ts k = ((wnth ts k).1, (wnth ts k).2)) := rfl
      clear hm hc hp L
      go_wp2_with fail
      refine HC.out.mono ?_
      rintro e w1 ⟨bm, bl, rfl, ho, L1⟩
      have HST := hidP (HP.out.step hlt L1 ho)
      have hN := HP.out.next L1
      obtain ⟨v0, e0⟩ := hN.room (k * 2) (by omega)
      obtain ⟨v1, e1⟩ := hN.room (k * 2 + 1) (by omega)
      have f0 := hN.frozen (k * 2)
      have f1 := hN.frozen (k * 2 + 1)
      have HL2 := hidP (HL.out.trans (L1.mono hz))
      clear ho L1 hN HC
      go_wp2_with fail
      go_roundw
      case rel => exact ⟨k + 1, _, by omega, by go_num, HST.out, (HL2.out.setCell (by simp) _).setCell (by simp) _⟩
      case measure => simp [intOf]; omega
    · go_wp2
      go_ret
      obtain rfl : k = ts.length := by omega
      exact ⟨rfl, ⟨lo, hp⟩, L⟩

set_option maxHeartbeats 400000 in
theorem toWS_nil (ao : Option Addr) (cap : Nat) (w : World) :
    Calls Tryz.prog 163 #[.slice ao 0 cap] w fun e w' => e = .returned (.slice (some ⟨w.heap.size, 0, none⟩) 0 0) ∧ w' = w.alloc (.cells #[] 47) := by
  have hmk : ∀ w, (Instr.makeSlice 24 (.int .i64 0) (.int .i64 0)).run Tryz.prog w = .ok (.slice (some ⟨w.heap.size, 0, none⟩) 0 0) (w.alloc (.cells #[] 47)) := fun _ => by kernel_rfl
  go_enter Tryz.func163, Tryz.ntmps163
  go_wp2
  clear hmk
  refine wp_loop_rounds 1 ?_
  rw [rounds_succ]
  go_wp2
  go_ret
  exact ⟨rfl, rfl⟩

theorem toWS (s : Bool) (ao : Option Addr) (cap : Nat) (ts : List Wb) (w : World) (hv : WbView s w ao ts) (hsm : WbSmall ts) :
    Calls Tryz.prog 163 #[.slice ao ts.length cap] w fun e w' => ∃ b lo, e = .returned (.slice (some ⟨b, 0, none⟩) ts.length ts.length) ∧ WbPart w' b ts.length ts.length ts lo ∧ w.heap.size ≤ b ∧ Below w.heap.size w w' := by
  rcases hv with rfl | ⟨b, off, rfl, hb, hs⟩
  · refine (toWS_nil ao cap w).mono ?_
    rintro e w' ⟨rfl, rfl⟩
    exact ⟨_, fun _ => w.heap.size + 1, rfl, ⟨by simp, by simp, by simp, fun i hi => by simp at hi, fun i hi => by simp at hi, fun j hj => by simp at hj, fun j => World.frozen?_alloc_at _ _ _ _ rfl⟩, Nat.le_refl _, (Below.refl _ _).alloc (Nat.le_refl _) _⟩
  · refine (toWS_seg s b off cap ts w hs hb hsm).mono ?_
    rintro e w' ⟨rfl, ⟨lo, hp⟩, L⟩
    exact ⟨_, lo, rfl, hp, Nat.le_refl _, L⟩

set_option maxRecDepth 100000 in
set_option maxHeartbeats 1000000 in
theorem toTw (s : Bool) (ao : Option Addr) (cap : Nat) (d : Int) (ts : List Wb) (w : World) (hv : WbView s w ao ts) (hsm : WbSmall ts) :
    Calls Tryz.prog 66 #[.agg #[.int .i64 d, .slice ao ts.length cap]] w fun e w' => ∃ b lo, e = .returned (.agg #[.int .i64 d, .slice (some ⟨b, 0, none⟩) ts.length ts.length]) ∧ WbPart w' b ts.length ts.length ts lo ∧ w.heap.size ≤ b ∧ Below w.heap.size w w' := by
  obtain ⟨W1, hW1⟩ : ∃ W, w.alloc (.cells #[.int .i64 d, .slice ao ts.length cap] 92) = W := ⟨_, rfl⟩
  obtain ⟨W2, hW2⟩ : ∃ W, W1.alloc (.cells #[.int .i64 0, .slice none 0 0] 26) = W := ⟨_, rfl⟩
  obtain ⟨W, hW⟩ : ∃ W, W2.alloc (.cells #[.int .i64 d, .slice none 0 0] 26) = W := ⟨_, rfl⟩
  have s1 : W1.heap.size = w.heap.size + 1 := by rw [← hW1]; simp
  have s2 : W2.heap.size = w.heap.size + 1 + 1 := by rw [← hW2]; simp [s1]
  have hsz : W.heap.size = w.heap.size + 1 + 1 + 1 := by rw [← hW]; simp [s2]
  have b1 : Below w.heap.size w W1 := by rw [← hW1]; exact (Below.refl _ _).alloc (Nat.le_refl _) _
  have b2 : Below W1.heap.size W1 W2 := by rw [← hW2]; exact (Below.refl _ _).alloc (Nat.le_refl _) _
  have b3 : Below W2.heap.size W2 W := by rw [← hW]; exact (Below.refl _ _).alloc (Nat.le_refl _) _
  have hB : Below w.heap.size w W := chain (chain b1 b2) b3
  have t0 : W.heap[w.heap.size]? = some (.cells #[.int .i64 d, .slice ao ts.length cap] 92) := (b3.block _ (by omega)).trans ((b2.block _ (by omega)).trans (by rw [← hW1]; exact heap_alloc_new w _))
  have t1 : W.heap[w.heap.size + 1]? = some (.cells #[.int .i64 0, .slice none 0 0] 26) := (b3.block _ (by omega)).trans (by rw [← hW2, ← s1]; exact heap_alloc_new W1 _)
  have t2 : W.heap[w.heap.size + 1 + 1]? = some (.cells #[.int .i64 d, .slice none 0 0] 26) := by rw [← hW, ← s2]; exact heap_alloc_new W2 _
  obtain ⟨z0, z1, -, -⟩ := two_cells t0
  have HS := hidP (toWS s ao cap ts W (hv.next hB) hsm)
  have HB := hidP hB
  have HT := hidP (And.intro t1 t2)
  have HWW : Hid (((w.alloc (.cells #[.int .i64 d, .slice ao ts.length cap] 92)).alloc (.cells #[.int .i64 0, .slice none 0 0] 26)).alloc (.cells #[.int .i64 d, .slice none 0 0] 26) = W) := by show _ = _; rw [hW1, hW2, hW]
  clear hB hv b1 b2 b3 t0 t1 t2 hW1 hW2 hW z0 z1
  go_enter Tryz.func66, Tryz.ntmps66
  go_wp2_with fail
  rw [HWW.out]
  refine HS.out.mono ?_
  rintro e w2 ⟨b, lo, rfl, hp, hb, L1⟩
  obtain ⟨t1, t2⟩ := HT.out
  have u1 := (L1.block _ (by omega)).trans t1
  have u2 := (L1.block _ (by omega)).trans t2
  obtain ⟨e1, e1', f1, -⟩ := two_cells u1
  obtain ⟨e2, e2', f2, -⟩ := two_cells u2
  have f10 := f1 0
  have f11 := f1 1
  have f21 := f2 1
  have HF := hidP (And.intro hp (chain HB.out L1))
  clear hp L1 HT t1 t2 u1 u2 f1 f2 HS HWW
  go_wp2_with fail
  refine bodyPost_ret (v := .agg #[.int .i64 d, .slice (some ⟨b, 0, none⟩) ts.length ts.length]) (by simp [results, Tryz.results66, go_sem, e1, e1']) rfl ?_
  obtain ⟨w5, hw5⟩ : ∃ w5, ((w2.setCell ⟨w.heap.size + 1 + 1, 1, none⟩ (.slice (some ⟨b, 0, none⟩) ts.length ts.length)).setCell ⟨w.heap.size + 1, 0, none⟩ (.int .i64 d)).setCell ⟨w.heap.size + 1, 1, none⟩ (.slice (some ⟨b, 0, none⟩) ts.length ts.length) = w5 := ⟨_, rfl⟩
  obtain ⟨q1, q4⟩ := HF.out
  have far5 : ∀ i, b ≤ i → w5.heap[i]? = w2.heap[i]? := fun i hi => by
    rw [← hw5, Below.heap_setCell _ ⟨w.heap.size + 1, 1, none⟩ _ i (fun e => by have : i = w.heap.size + 1 := e; omega), Below.heap_setCell _ ⟨w.heap.size + 1, 0, none⟩ _ i (fun e => by have : i = w.heap.size + 1 := e; omega), Below.heap_setCell _ ⟨w.heap.size + 1 + 1, 1, none⟩ _ i (fun e => by have : i = w.heap.size + 1 + 1 := e; omega)]
  have z5 : w5.heap.size = w2.heap.size := by rw [← hw5]; simp [World.setCell]
  have L5 : Below w.heap.size w w5 := by rw [← hw5]; exact ((q4.setCell (by show w.heap.size ≤ w.heap.size + 1 + 1; omega) _).setCell (by show w.heap.size ≤ w.heap.size + 1; omega) _).setCell (by show w.heap.size ≤ w.heap.size + 1; omega) _
  rw [hw5]
  exact ⟨b, lo, rfl, q1.far (by omega) (fun i h1 _ => far5 i h1), by omega, L5⟩

set_option maxHeartbeats 400000 in
theorem eqWS_nil (ao ao' : Option Addr) (cap cap' : Nat) (w : World) :
    Calls Tryz.prog 164 #[.slice ao 0 cap, .slice ao' 0 cap'] w fun e w' => e = .returned (.bool true) ∧ w' = w := by
  go_enter Tryz.func164, Tryz.ntmps164
  go_wp2
  refine wp_loop_rounds 1 ?_
  rw [rounds_succ]
  go_wp2
  go_ret
  exact ⟨rfl, rfl⟩

set_option maxRecDepth 100000 in
set_option maxHeartbeats 1000000 in
theorem eqWS_seg (s s' : Bool) (b off cap b' off' cap' : Nat) (ts : List Wb) (w : World) (hs : WbSeg s w b off ts) (hs' : WbSeg s' w b' off' ts) (hb : b < w.heap.size) (hb' : b' < w.heap.size) (hsm : WbSmall ts) :
    Calls Tryz.prog 164 #[.slice (some ⟨b, off, none⟩) ts.length cap, .slice (some ⟨b', off', none⟩) ts.length cap'] w fun e w' => e = .returned (.bool true) ∧ Below w.heap.size w w' := by
  obtain ⟨hn, hat⟩ := hsm
  have HAT := hidP hat
  have HSG := hidP hs
  have HSG' := hidP hs'
  clear hat hs hs'
  go_enter Tryz.func164, Tryz.ntmps164
  go_wp2
  go_loopw [5] (fun i wr => ∃ k : Nat, k ≤ ts.length ∧ i = .int .i64 k ∧ Below w.heap.size w wr) (fun i _ => ts.length - (intOf i).toNat)
  case atStart => exact ⟨0, Nat.zero_le _, rfl, Below.refl _ _⟩
  case round =>
    obtain ⟨k, hk, rfl, L⟩ := hrel
    by_cases hlt : k < ts.length
    · obtain ⟨am, cm, al, cl, hc0, hc1, hm, hc, -⟩ := (HSG.out.next hb L).at hlt
      obtain ⟨am', cm', al', cl', hd0, hd1, hm', hc', -⟩ := (HSG'.out.next hb' L).at hlt
      have hi0 : (0 : Int) ≤ (k : Int) := Int.natCast_nonneg _
      have hi1 : (k : Int) < (ts.length : Int) := by omega
      have hz := L.size
      have hbw : b < wr.heap.size := by omega
      have hbw' : b' < wr.heap.size := by omega
      have HC := hidP (eqW am al am' al' cm cl cm' cl' (wnth ts k).1 (wnth ts k).2 wr.drew hm hc hm' hc' (HAT.out k).1 (HAT.out k).2)
      have HLL := hidP L
      clear L hm hc hm' hc'
      generalize (wnth ts k).1.length = ml at *
      generalize (wnth ts k).2.length = ll at *
      go_wp2
      go_region_held3 (fun w' => w'.cell? ⟨b, off + k * 2, none⟩ = some (.slice am ml cm) ∧ w'.cell? ⟨b, off + k * 2 + 1, none⟩ = some (.slice al ll cl) ∧ w'.cell? ⟨b', off' + k * 2, none⟩ = some (.slice am' ml cm') ∧ w'.cell? ⟨b', off' + k * 2 + 1, none⟩ = some (.slice al' ll cl'))
        (first
          | go_keep
          | (refine ⟨(L1.cell (p := ⟨b, off + k * 2, none⟩) hbw).trans hc0, (L1.cell (p := ⟨b, off + k * 2 + 1, none⟩) hbw).trans hc1, (L1.cell (p := ⟨b', off' + k * 2, none⟩) hbw').trans hd0, (L1.cell (p := ⟨b', off' + k * 2 + 1, none⟩) hbw').trans hd1⟩))
        (first
          | (go_at_call 230; refine HC.out.mono ?_; rintro e w1 ⟨rfl, L1⟩))
      have LF := hidP (HLL.out.drew.trans (L1.mono hz))
      clear L1
      go_wp2
      go_roundw
      case rel => exact ⟨k + 1, by omega, by go_num, LF.out⟩
      case measure => simp [intOf]; omega
    · go_wp2
      go_ret
      exact ⟨rfl, L⟩

theorem eqWS (s s' : Bool) (ao ao' : Option Addr) (cap cap' : Nat) (ts : List Wb) (w : World) (hv : WbView s w ao ts) (hv' : WbView s' w ao' ts) (hsm : WbSmall ts) :
    Calls Tryz.prog 164 #[.slice ao ts.length cap, .slice ao' ts.length cap'] w fun e w' => e = .returned (.bool true) ∧ Below w.heap.size w w' := by
  rcases hv with rfl | ⟨b, off, rfl, hb, hs⟩
  · refine (eqWS_nil ao ao' cap cap' w).mono ?_
    rintro e w' ⟨rfl, rfl⟩
    exact ⟨rfl, Below.refl _ _⟩
  · rcases hv' with rfl | ⟨b', off', rfl, hb', hs'⟩
    · refine (eqWS_nil _ ao' cap cap' w).mono ?_
      rintro e w' ⟨rfl, rfl⟩
      exact ⟨rfl, Below.refl _ _⟩
    · exact eqWS_seg s s' b off cap b' off' cap' ts w hs hs' hb hb' hsm

set_option maxRecDepth 100000 in
set_option maxHeartbeats 1000000 in
theorem eqTw (s s' : Bool) (ao ao' : Option Addr) (cap cap' : Nat) (d : Int) (ts : List Wb) (w : World) (hv : WbView s w ao ts) (hv' : WbView s' w ao' ts) (hsm : WbSmall ts) :
    Calls Tryz.prog 68 #[.agg #[.int .i64 d, .slice ao ts.length cap], .agg #[.int .i64 d, .slice ao' ts.length cap']] w fun e w' => e = .returned (.bool true) ∧ Below w.heap.size w w' := by
  obtain ⟨W, hW⟩ : ∃ W, (w.alloc (.cells #[.int .i64 d, .slice ao ts.length cap] 26)).alloc (.cells #[.int .i64 d, .slice ao' ts.length cap'] 26) = W := ⟨_, rfl⟩
  have hB : Below w.heap.size w W := by rw [← hW]; exact ((Below.refl w.heap.size w).alloc (Nat.le_refl _) _).alloc (by simp) _
  have k0 : W.cell? ⟨w.heap.size, 0, none⟩ = some (.int .i64 d) := by rw [← hW]; simp
  have k1 : W.cell? ⟨w.heap.size, 1, none⟩ = some (.slice ao ts.length cap) := by rw [← hW]; simp
  have k2 : W.cell? ⟨w.heap.size + 1, 0, none⟩ = some (.int .i64 d) := by rw [← hW]; simp
  have k3 : W.cell? ⟨w.heap.size + 1, 1, none⟩ = some (.slice ao' ts.length cap') := by rw [← hW]; simp
  have hd : (d != d) = false := by simp
  have HS := hidP (eqWS s s' ao ao' cap cap' ts W (hv.next hB) (hv'.next hB) hsm)
  have HB := hidP hB
  clear hB hv hv' hsm
  go_enter Tryz.func68, Tryz.ntmps68
  go_wp2_with fail
  refine HS.out.mono ?_
  rintro e w2 ⟨rfl, L2⟩
  have HL := hidP (chain HB.out L2)
  clear L2 hW
  go_wp2_with fail
  go_ret
  exact ⟨rfl, HL.out⟩
end Go.Proofs.YtaaagmgglolibaaGreat
namespace Go.Proofs.YtaaagmgglolibaaGreat
open Go Go.RowKit

theorem LMem.uniq14 {base : Nat} {w : World} {g c : Nat} {rs : List Rw} (h : LMem base w g c rs) {i j : Nat} (hi : i < rs.length) (hj : j < rs.length) (e : rs[i].1 = rs[j].1) : i = j := by
  have hp := List.pairwise_iff_getElem.1 h.apart
  rcases Nat.lt_trichotomy i j with h1 | h1 | h1
  · exact absurd (by rw [List.getElem_map, List.getElem_map]; exact e) (hp i j (by simpa using hi) (by simpa using hj) h1)
  · exact h1
  · exact absurd (by rw [List.getElem_map, List.getElem_map]; exact e.symm) (hp j i (by simpa using hj) (by simpa using hi) h1)
/-- One row of a row of rows is another now: grown in its place, or new. -/
theorem LMem.over14 {base : Nat} {w w8 : World} {g c : Nat} {rs : List Rw} (h : LMem base w g c rs) (k : Nat) (hk : k < rs.length) {gg cc : Nat} {ys : List Int} (hown : IRow base w8 gg cc ys) (hg : w.grownBy w8 (some rs[k].1)) (hat : rs[k].1 = gg ∨ w.heap.size ≤ gg) :
    LMem base (w8.setCell ⟨g, k, none⟩ (rwV (gg, cc, ys))) g c (rs.set k (gg, cc, ys)) := by
  have hk1 : rs[k].1 ≠ g := h.off _ (List.getElem_mem hk)
  have hall : ∀ x ∈ rs, base ≤ x.1 ∧ x.1 < w.heap.size := fun x hx => (h.rows x hx).lt
  have hgl := h.row.lt
  have hggg : gg ≠ g := by rcases hat with e | e <;> omega
  have hnew : ∀ j (hj : j < rs.length), j ≠ k → rs[j].1 ≠ gg := fun j hj hne e => by
    rcases hat with e' | e'
    · exact hne (h.uniq14 hj hk (by omega))
    · have := hall _ (List.getElem_mem hj)
      omega
  have r1 : LRow base w8 g c rs := h.row.kept hg (by simp; omega)
  have heap8 : ∀ i, i ≠ g → (w8.setCell ⟨g, k, none⟩ (rwV (gg, cc, ys))).heap[i]? = w8.heap[i]? := fun i hi => Below.heap_setCell w8 ⟨g, k, none⟩ _ i (fun e => hi e)
  refine ⟨?_, fun x hx => ?_, ?_, fun x hx => ?_⟩
  · have h1 := (World.ownsRow.stored r1 k (rwV (gg, cc, ys))).1
    unfold LRow
    rw [List.length_set, List.map_set]
    exact h1
  · obtain ⟨j, hj, e⟩ := List.getElem_of_mem hx
    rw [List.length_set] at hj
    rw [List.getElem_set] at e
    by_cases hjk : k = j
    · rw [if_pos hjk] at e
      rw [← e]
      exact hown.same (heap8 gg hggg)
    · rw [if_neg hjk] at e
      rw [← e]
      have hne : rs[j].1 ≠ rs[k].1 := fun e' => hjk (h.uniq14 hj hk e').symm
      have h2 := (h.rows _ (List.getElem_mem hj)).kept hg (by simp; omega)
      exact h2.same (heap8 _ (h.off _ (List.getElem_mem hj)))
  · refine List.pairwise_iff_getElem.2 (fun i j hi hj hij => ?_)
    have hi' : i < rs.length := by simpa using hi
    have hj' : j < rs.length := by simpa using hj
    simp only [List.getElem_map, List.getElem_set]
    by_cases h1 : k = i
    · rw [if_pos h1, if_neg (by omega)]
      exact fun e => hnew j hj' (by omega) e.symm
    · by_cases h2 : k = j
      · rw [if_neg h1, if_pos h2]
        exact fun e => hnew i hi' (by omega) e
      · rw [if_neg h1, if_neg h2]
        exact fun e => by have := h.uniq14 hi' hj' e; omega
  · obtain ⟨j, hj, e⟩ := List.getElem_of_mem hx
    rw [List.length_set] at hj
    rw [List.getElem_set] at e
    by_cases hjk : k = j
    · rw [if_pos hjk] at e
      rw [← e]
      exact hggg
    · rw [if_neg hjk] at e
      rw [← e]
      exact h.off _ (List.getElem_mem hj)

/-- The blocks of a row of rows. -/
def LBlk (v : Value) (rs : List Rw) (i : Nat) : Prop := v.ownBlock = some i ∨ ∃ r ∈ rs, i = r.1
theorem lblk_in {base : Nat} {w : World} {v : Value} {rs : List Rw} (h : LMemV base w v rs) {i : Nat} (hi : LBlk v rs i) : base ≤ i ∧ i < w.heap.size := by
  rcases h with ⟨rfl, rfl⟩ | ⟨g, c, rfl, h⟩
  · rcases hi with e | ⟨r, hr, -⟩
    · cases e
    · cases hr
  · refine h.all i ?_
    rcases hi with e | ⟨r, hr, rfl⟩
    · left
      have e' : g = i := by simpa [Value.ownBlock] using e
      exact e'.symm
    · exact Or.inr ⟨r, hr, rfl⟩

theorem lmemv_same {base : Nat} {w w' : World} {v : Value} {rs : List Rw} (h : LMemV base w v rs) (e : ∀ i, LBlk v rs i → w'.heap[i]? = w.heap[i]?) : LMemV base w' v rs := by
  rcases h with h | ⟨g, c, rfl, h⟩
  · exact Or.inl h
  · refine Or.inr ⟨g, c, rfl, h.same (fun i hi => e i ?_)⟩
    rcases hi with rfl | ⟨r, hr, rfl⟩
    · exact Or.inl rfl
    · exact Or.inr ⟨r, hr, rfl⟩

theorem lmemv_snoc2 {base : Nat} {w w8 : World} {v : Value} {gg cc : Nat} {rs : List Rw} {r : Rw} (h : LMemV base w v rs) (hown : w8.ownsRow base 27 1 (.slice (some ⟨gg, 0, none⟩) (rs.length + 1) cc) (rs.length + 1) (rs.map rwV ++ [rwV r]))
    (hgrow : w.grownBy w8 v.ownBlock) (hat : v.ownBlock = some gg ∨ gg = w.heap.size) (hr : IRow base w r.1 r.2.1 r.2.2) (hnew : ¬ LBlk v rs r.1) : LMem base w8 gg cc (rs ++ [r]) := by
  have hrl := hr.lt
  rcases h with ⟨rfl, rfl⟩ | ⟨g, c, rfl, h⟩
  · have hgg : gg = w.heap.size := by
      rcases hat with e | e
      · cases e
      · exact e
    refine ⟨?_, fun x hx => ?_, by simp, fun x hx => ?_⟩
    · simpa [LRow] using hown
    · simp at hx; rw [hx]
      exact hr.kept hgrow (by simp [Value.ownBlock])
    · simp at hx; rw [hx]; omega
  · refine h.snoc hown hgrow ?_ hr (fun e => hnew (Or.inl (by rw [e]; rfl))) (fun x hx e => hnew (Or.inr ⟨x, hx, e.symm⟩))
    rcases hat with e | e
    · left; simpa [Value.ownBlock] using e
    · exact Or.inr e

/-- A web that a call hands out, in blocks of its own. -/
def WebOut (base : Nat) (w : World) (gm cm gl cl : Nat) (ms : List Mk) (ls : List (List Int)) : Prop :=
  ∃ B ds B' rs, base ≤ B ∧ base ≤ B' ∧ DRow B w gm cm ds ∧ dMarks ds = ms ∧ LMem B' w gl cl rs ∧ nums rs = ls ∧ ∀ b, (b = gm ∨ ∃ d ∈ ds, b = d.2.1) → b ≠ gl ∧ ∀ r ∈ rs, b ≠ r.1
theorem WebOut.same {base : Nat} {w w' : World} {gm cm gl cl : Nat} {ms : List Mk} {ls : List (List Int)} (h : WebOut base w gm cm gl cl ms ls) (e : ∀ b, base ≤ b → w'.heap[b]? = w.heap[b]?) : WebOut base w' gm cm gl cl ms ls := by
  obtain ⟨B, ds, B', rs, hb, hb', h1, h2, h3, h4, h5⟩ := h
  refine ⟨B, ds, B', rs, hb, hb', ⟨owns_same14 h1.1 (e gm (by have := h1.lt; omega)), fun d hd => ⟨(h1.2.1 d hd).1.same (e d.2.1 (by have := (h1.2.1 d hd).1.lt2; omega)), (h1.2.1 d hd).2⟩, h1.2.2⟩, h2, h3.same (fun b hbb => e b (by have := h3.all b hbb; omega)), h4, h5⟩

set_option maxRecDepth 100000 in
set_option maxHeartbeats 8000000 in
theorem sLinkG (am al at' : Option Addr) (cm cl ct : Nat) (ms : List Mk) (ls : List (List Int)) (m : Mk) (most : Int) (w : World) (hm : MView w am ms) (hl : CView w al ls) (ha : View w at' m.2) (hal : m.2.length ≤ 1048576) (hw : webB ms ls = true) :
    Calls Tryz.prog 197 #[.agg #[.slice am ms.length cm, .slice al ls.length cl], .agg #[.int .i64 m.1, .slice at' m.2.length ct], .int .i64 most] w fun e w' =>
      (marksB (ms ++ [m]) = false ∧ e = .returned (.tuple #[.agg #[.slice none 0 0, .slice none 0 0], .bool false]) ∧ Below w.heap.size w w') ∨
      (marksB (ms ++ [m]) = true ∧ ∃ gm cm' gl cl', e = .returned (.tuple #[.agg #[.slice (some ⟨gm, 0, none⟩) (ms.length + 1) cm', .slice (some ⟨gl, 0, none⟩) (ls.length + 1) cl'], .bool true]) ∧ WebOut w.heap.size w' gm cm' gl cl' (ms ++ [m]) (lnkL ms ls (nearI ms m.2 most) m.1) ∧ Below w.heap.size w w') := by
  obtain ⟨i0, hi0, hx0, hx1, hx2⟩ := info_parts Tryz.info2
  obtain ⟨j0, hj0, hy0, hy1, hy2⟩ := info_parts Tryz.infoL
  obtain ⟨m0, hm0, hv0, hv1, hv2⟩ := info_parts Tryz.info29
  obtain ⟨h60, h4, hl60, hll⟩ := web_small hw
  obtain ⟨W1, hW1⟩ : ∃ W, w.alloc (.cells #[.slice am ms.length cm, .slice al ls.length cl] 47) = W := ⟨_, rfl⟩
  obtain ⟨W2, hW2⟩ : ∃ W, W1.alloc (.cells #[.int .i64 m.1, .slice at' m.2.length ct] 29) = W := ⟨_, rfl⟩
  obtain ⟨W, hW⟩ : ∃ W, W2.alloc (.cells #[.slice none 0 0, .slice none 0 0] 47) = W := ⟨_, rfl⟩
  have s1 : W1.heap.size = w.heap.size + 1 := by rw [← hW1]; simp
  have s2 : W2.heap.size = w.heap.size + 1 + 1 := by rw [← hW2]; simp [s1]
  have s3 : W.heap.size = w.heap.size + 1 + 1 + 1 := by rw [← hW]; simp [s2]
  have b1 : Below w.heap.size w W1 := by rw [← hW1]; exact (Below.refl _ _).alloc (Nat.le_refl _) _
  have b2 : Below W1.heap.size W1 W2 := by rw [← hW2]; exact (Below.refl _ _).alloc (Nat.le_refl _) _
  have b3 : Below W2.heap.size W2 W := by rw [← hW]; exact (Below.refl _ _).alloc (Nat.le_refl _) _
  have hB : Below w.heap.size w W := chain (chain b1 b2) b3
  have hI : WebIn W w.heap.size am cm ms al cl ls := (show WebIn W1 w.heap.size am cm ms al cl ls by rw [← hW1]; exact WebIn.box hm hl).below (chain b2 b3)
  have t2 : W.heap[w.heap.size + 1]? = some (.cells #[.int .i64 m.1, .slice at' m.2.length ct] 29) := (b3.block _ (by omega)).trans (by rw [← hW2, ← s1]; exact heap_alloc_new W1 _)
  have t3 : W.heap[w.heap.size + 1 + 1]? = some (.cells #[.slice none 0 0, .slice none 0 0] 47) := by rw [← hW, ← s2]; exact heap_alloc_new W2 _
  have HI := hidP hI
  have HB := hidP hB
  have HA := hidP (View.next ha hB)
  have HT := hidP (And.intro t2 t3)
  have k0 := hI.c0
  have k1 := hI.c1
  have HW := hidP hw
  have HC := hidP (sCopyW am al cm cl ms ls W hI.mv hI.cv h60 h4 hl60 hll)
  clear hm hl ha hB hI b1 b2 b3 t2 t3 hw h4 hll
  go_enter Tryz.func197, Tryz.ntmps197
  go_wp2_with fail
  refine HC.out.mono ?_
  rintro e w3 ⟨gm, cm2, ds, v, rs, B1, rfl, hrow, hdm, hlm, hnu, hgm, hds, hB1, hB1', L3⟩
  obtain ⟨av, cv, rfl⟩ : ∃ av cv, v = .slice av rs.length cv := by
    rcases hlm with ⟨h1, h2⟩ | ⟨g, c, h1, -⟩
    · exact ⟨none, 0, by rw [h1, h2]; rfl⟩
    · exact ⟨_, _, h1⟩
  have hrl : rs.length = ls.length := by have := congrArg List.length hnu; simpa [nums] using this
  obtain ⟨w4, hw4⟩ : ∃ w4, w3.alloc (.cells #[.slice (some ⟨gm, 0, none⟩) ms.length cm2, .slice av rs.length cv] 47) = w4 := ⟨_, rfl⟩
  have L4 : Below w3.heap.size w3 w4 := by rw [← hw4]; exact (Below.refl _ _).alloc (Nat.le_refl _) _
  have s4 : w4.heap.size = w3.heap.size + 1 := by rw [← hw4]; simp
  have z3 := L3.size
  have HO4 : Hid (w4.heap[w3.heap.size]? = some (.cells #[.slice (some ⟨gm, 0, none⟩) ms.length cm2, .slice av rs.length cv] 47)) := by show _ = _; rw [← hw4]; exact heap_alloc_new w3 _
  have HD4 := hidP (hrow.kept (r := none) ⟨L4.os, L4.tape, L4.output, L4.size, fun i hi _ => L4.block i hi⟩ (by simp))
  have HM4 := hidP (hlm.same (w' := w4) (fun j _ hj => L4.block j hj))
  have HLI : Hid (∀ i, LBlk (.slice av rs.length cv) rs i → B1 ≤ i ∧ i < w3.heap.size) := fun i hi => lblk_in hlm hi
  have HDM := hidP hdm
  have HNU := hidP hnu
  have HDS := hidP hds
  have HL4 := hidP (chain L3 L4)
  have HI4 := hidP (HI.out.below HL4.out)
  have HW4 := hidP hw4
  have HRL := hidP hrl
  obtain ⟨e20, e21, -, -⟩ := two_cells (show w4.heap[w.heap.size + 1]? = _ from (HL4.out.block _ (by omega)).trans HT.out.1)
  obtain ⟨Sc, hSc⟩ : ∃ n, w3.heap.size = n := ⟨_, rfl⟩
  have HA4 := hidP (View.next HA.out HL4.out)
  have hgml := hrow.lt
  clear hrow hdm hlm hnu hds L3 L4 hrl hw4 HC k0 k1 hW hW1 hW2
  go_wp2_with fail
  rw [HW4.out]
  have HO4c := two_cells HO4.out
  obtain ⟨o0, o1, of, -⟩ := HO4c
  rw [hSc] at o0 o1 of HO4 HLI s4
  try rw [hSc]
  have HSC := hidP hSc
  have hz3s : W.heap.size ≤ Sc := by omega
  have hgs : gm < Sc := by omega
  have hB1s : B1 ≤ Sc := by omega
  clear hSc HW4
  -- out.Marks = append(out.Marks, ..)
  have HS0 : Hid (∀ W' : World, (∀ j, j < Sc + 1 → W'.heap[j]? = w4.heap[j]?) → W'.cell? ⟨Sc, 0, none⟩ = some (.slice (some ⟨gm, 0, none⟩) ms.length cm2) ∧ W'.cell? ⟨w.heap.size + 1, 0, none⟩ = some (.int .i64 m.1) ∧ W'.cell? ⟨w.heap.size + 1, 1, none⟩ = some (.slice at' m.2.length ct)) := fun W' h => ⟨(World.cell?_of_block (h Sc (by omega))).trans o0, (World.cell?_of_block (h (w.heap.size + 1) (by omega))).trans e20, (World.cell?_of_block (h (w.heap.size + 1) (by omega))).trans e21⟩
  refine wp_region_calm (S := fun W' => W'.cell? ⟨Sc, 0, none⟩ = some (.slice (some ⟨gm, 0, none⟩) ms.length cm2) ∧ W'.cell? ⟨w.heap.size + 1, 0, none⟩ = some (.int .i64 m.1) ∧ W'.cell? ⟨w.heap.size + 1, 1, none⟩ = some (.slice at' m.2.length ct)) (fuel := 6)
    [0, 1, 2, 3, 5, 6] _ rfl (by kernel_rfl) (by kernel_rfl) (by kernel_rfl) (by kernel_rfl) (by kernel_rfl) (by kernel_rfl) (by kernel_rfl) (HS0.out _ (fun j _ => rfl)) (fun _ => ?_)
  iterate 6
    refine ⟨_, rfl, ?_⟩
    apply Exists.intro
    refine ⟨Or.inl ⟨by rfl, fun w' hw' => ?_⟩, ?_⟩
    · obtain ⟨e1, e2, e3⟩ := hw'
      first
      | (go_simp; done)
      | (go_simp; with_reducible rfl)
    simp only [Act.put, List.setIfInBounds_toArray]
  refine calm_one 4 (by kernel_rfl) rfl (fun K hK => ?_)
  go_simp
  obtain ⟨w5, hw5⟩ : ∃ w5, (w4.alloc (.cells #[] 2)).drew = w5 := ⟨_, rfl⟩
  have HL5 : Hid (Below w4.heap.size w4 w5) := by show Below _ _ _; rw [← hw5]; exact ((Below.refl w4.heap.size w4).alloc (Nat.le_refl _) _).drew
  have HR5 : Hid (Row W.heap.size w5 w4.heap.size 0 []) := by show Row _ _ _ _ _; rw [← hw5]; exact Row.start w4 W.heap.size (by omega)
  have hs5 : w5.heap.size = w4.heap.size + 1 := by rw [← hw5]; simp
  try rw [← s4]
  rw [hw5]
  clear hw5
  refine hK.out _ _ (HS0.out _ (fun j hj => HL5.out.block j (by omega))) (fun _ => ?_)
  clear hK K
  refine calm_one 7 (by kernel_rfl) rfl (fun K hK => ?_)
  refine step_append_at w5 rfl (.tmp 19) (.tmp 21) 27 rfl W.heap.size 2 i0 _ 1 8 Tryz.underlying27 hi0 hx0 hx1 hx2 rfl (by omega) w4.heap.size 0 0 [] rfl HR5.out at' m.2.length ct (m.2.map (Value.int .i64)) rfl (view_src14 (View.next HA4.out HL5.out)) (by unfold maxLen; omega) (by omega) (by omega) w5.heap.size rfl ?_
  intro g6 c6 w6 hown6 hgrow6 hat6 hlt6
  have HR6 : Hid (Row W.heap.size w6 g6 c6 m.2) := row_of14 hown6 rfl
  have hz6 := hgrow6.size
  have HL6 : Hid (Below w4.heap.size w4 w6) := HL5.out.grown hgrow6 (by omega) (by intro q hq; cases hq; omega)
  have hg6b : w4.heap.size ≤ g6 := by rcases hat6 with e | e <;> omega
  clear hown6 hgrow6
  refine hK.out _ _ (HS0.out _ (fun j hj => HL6.out.block j (by omega))) (fun _ => ?_)
  clear hK K
  refine calm_one 8 (by kernel_rfl) rfl (fun K hK => ?_)
  go_simp
  refine hK.out _ _ (HS0.out _ (fun j hj => HL6.out.block j (by omega))) (fun _ => ?_)
  clear hK K
  refine calm_one 9 (by kernel_rfl) rfl (fun K hK => ?_)
  go_simp
  obtain ⟨w7, hw7⟩ : ∃ w7, w6.alloc (.cells #[.int .i64 m.1, .slice (some ⟨g6, 0, none⟩) m.2.length c6] 29) = w7 := ⟨_, rfl⟩
  have HN7 : Hid (w7.heap[w6.heap.size]? = some (.cells #[.int .i64 m.1, .slice (some ⟨g6, 0, none⟩) m.2.length c6] 29 (0, 0))) := by show _ = _; rw [← hw7]; exact heap_alloc_new w6 _
  have L67 : Below w6.heap.size w6 w7 := by rw [← hw7]; exact (Below.refl _ _).alloc (Nat.le_refl _) _
  have hs7 : w7.heap.size = w6.heap.size + 1 := by rw [← hw7]; simp
  have HL7 := hidP (chain HL6.out L67)
  have HR7 := hidP (HR6.out.next L67 HR6.out.lt2.2)
  have hg6 := HR6.out.lt2
  have HD7 := hidP (HD4.out.kept (r := none) ⟨HL7.out.os, HL7.out.tape, HL7.out.output, HL7.out.size, fun i hi _ => HL7.out.block i hi⟩ (by simp))
  have hdl : ds.length = ms.length := by have := congrArg List.length HDM.out; simpa [dMarks] using this
  have HDL := hidP hdl
  try rw [Nat.zero_add]
  try rw [hw7]
  clear hw7 L67 hdl
  refine hK.out _ _ (HS0.out _ (fun j hj => HL7.out.block j (by omega))) (fun _ => ?_)
  clear hK K
  refine calm_one 10 (by kernel_rfl) rfl (fun K hK => ?_)
  refine step_append_at w7 rfl (.tmp 16) (.tmp 24) 44 rfl W.heap.size 29 m0 _ 2 32 Tryz.underlying44 hm0 hv0 hv1 hv2 rfl (by omega) gm ms.length cm2 (dCells ds) rfl (by have h := HD7.out.1; rw [HDL.out] at h; exact h) (some ⟨w6.heap.size, 0, none⟩) 1 1 [.int .i64 m.1, .slice (some ⟨g6, 0, none⟩) m.2.length c6] rfl (dmark_src HN7.out) (by unfold maxLen; omega) (by omega) (by omega) w7.heap.size rfl ?_
  intro g8 c8 w8 hown8 hgrow8 hat8 hlt8
  have HD8 : Hid (DRow W.heap.size w8 g8 c8 (ds ++ [(m.1, g6, c6, m.2)])) := DRow.snoc HD7.out HR7.out (by omega) (fun d hd => by
    have h1 := HDS.out d hd
    omega) (by rw [HDL.out]; exact hown8) hgrow8 (by rcases hat8 with e | e; exact Or.inl e.symm; exact Or.inr e)
  have HK8 : Hid (∀ j, j < w4.heap.size → j ≠ gm → w8.heap[j]? = w4.heap[j]?) := fun j hj hne => (hgrow8.block j (by omega) (by simp; exact hne)).trans (HL7.out.block j hj)
  have HKK : Hid (w8.os = w4.os ∧ w8.tape = w4.tape ∧ w8.output = w4.output) := ⟨hgrow8.os.trans HL7.out.os, hgrow8.tape.trans HL7.out.tape, hgrow8.output.trans HL7.out.output⟩
  have hz8 := hgrow8.size
  have hg8 : g8 = gm ∨ Sc + 1 ≤ g8 := by rcases hat8 with e | e; exact Or.inl e.symm; exact Or.inr (by omega)
  have HS8 : Hid (w8.cell? ⟨Sc, 0, none⟩ = some (.slice (some ⟨gm, 0, none⟩) ms.length cm2) ∧ w8.cell? ⟨w.heap.size + 1, 0, none⟩ = some (.int .i64 m.1) ∧ w8.cell? ⟨w.heap.size + 1, 1, none⟩ = some (.slice at' m.2.length ct)) := ⟨(World.cell?_of_block (HK8.out Sc (by omega) (by omega))).trans o0, (World.cell?_of_block (HK8.out (w.heap.size + 1) (by omega) (by omega))).trans e20, (World.cell?_of_block (HK8.out (w.heap.size + 1) (by omega) (by omega))).trans e21⟩
  clear hown8 hgrow8
  refine hK.out _ _ HS8.out (fun _ => ?_)
  clear hK K
  refine calm_one 11 (by kernel_rfl) rfl (fun K hK => ?_)
  go_simp
  refine hK.out _ _ HS8.out (fun _ => ?_)
  clear hK K
  refine wpAnyH_done (by kernel_rfl) ?_ _
  simp only [Exit.then]
  have t8 := (HK8.out Sc (by omega) (by omega)).trans HO4.out
  obtain ⟨u0, u1, uf, uO⟩ := two_cells t8
  have uf0 := uf 0
  obtain ⟨w9, hw9⟩ : ∃ w9, w8.setCell ⟨Sc, 0, none⟩ (.slice (some ⟨g8, 0, none⟩) (ms.length + 1) c8) = w9 := ⟨_, rfl⟩
  have HT9 : Hid (w9.heap[Sc]? = some (.cells #[.slice (some ⟨g8, 0, none⟩) (ms.length + 1) c8, .slice av rs.length cv] 47)) := by show _ = _; rw [← hw9]; exact (two_set t8).1
  have hf9 : ∀ j, j ≠ Sc → w9.heap[j]? = w8.heap[j]? := fun j hj => by rw [← hw9]; exact Below.heap_setCell w8 ⟨Sc, 0, none⟩ _ j (fun e => hj e)
  have hz9 : w9.heap.size = w8.heap.size := by rw [← hw9]; simp [World.setCell]
  have HD9 : Hid (DRow W.heap.size w9 g8 c8 (ds ++ [(m.1, g6, c6, m.2)])) := ⟨owns_same14 HD8.out.1 (hf9 g8 (by omega)), fun d hd => ⟨(HD8.out.2.1 d hd).1.same (hf9 d.2.1 (by
    rcases List.mem_append.1 hd with h | h
    · have := HDS.out d h; omega
    · simp at h; rw [h]; show g6 ≠ Sc; omega)), (HD8.out.2.1 d hd).2⟩, HD8.out.2.2⟩
  have HM9 : Hid (LMemV B1 w9 (.slice av rs.length cv) rs) := lmemv_same HM4.out (fun j hj => by
    have h := HLI.out j hj
    exact (hf9 j (by omega)).trans (HK8.out j (by omega) (by omega)))
  have HL9 : Hid (Below W.heap.size W w9) := ⟨by rw [← hw9]; exact HKK.out.1.trans HL4.out.os, by rw [← hw9]; exact HKK.out.2.1.trans HL4.out.tape, by rw [← hw9]; exact HKK.out.2.2.trans HL4.out.output, by omega, fun j hj => (hf9 j (by omega)).trans ((HK8.out j (by omega) (by omega)).trans (HL4.out.block j hj))⟩
  have HDM9 : Hid (dMarks (ds ++ [(m.1, g6, c6, m.2)]) = ms ++ [m]) := by show _ = _; rw [dMarks, List.map_append, ← dMarks, HDM.out]; rfl
  have HBK : Hid ((g8 < B1 ∨ Sc + 1 ≤ g8 ∧ g8 < w9.heap.size) ∧ ∀ d ∈ (ds ++ [(m.1, g6, c6, m.2)]), d.2.1 < B1 ∨ Sc + 1 ≤ d.2.1 ∧ d.2.1 < w9.heap.size) := ⟨by rcases hg8 with e | e; exact Or.inl (by omega); exact Or.inr ⟨e, by omega⟩, fun d hd => by
    rcases List.mem_append.1 hd with h | h
    · exact Or.inl (HDS.out d h)
    · simp at h; rw [h]; right; show Sc + 1 ≤ g6 ∧ g6 < _; omega⟩
  have HW9 := hidP hw9
  clear HS0 HL5 HR5 HL6 HR6 HL7 HR7 HD7 HN7 HD8 HK8 HKK HS8 t8 hf9 HD4 HM4 HO4 hw9 uf
  go_wp2_with fail
  try rw [HW9.out]
  refine NoPanic.normal ?_
  have HMV9 : Hid (MView w9 (some ⟨g8, 0, none⟩) (ms ++ [m])) := by show MView _ _ _; rw [← HDM9.out]; exact HD9.out.view
  have HML : Hid ((ms ++ [m]).length = ms.length + 1) := by show _ = _; simp
  have HMO := hidP (sMarks (some ⟨g8, 0, none⟩) c8 (ms ++ [m]) w9 HMV9.out ⟨by rw [HML.out]; omega, fun i => by
    rcases Nat.lt_trichotomy i ms.length with h | h | h
    · rw [mat_snoc h]; have := (web_small HW.out).2.1 i; omega
    · rw [h, mat_last]; omega
    · have : mat (ms ++ [m]) i = [] := by simp [mat, List.getD, show ms.length + 1 ≤ i by omega]
      rw [this]; simp⟩)
  rw [HML.out] at HMO
  obtain ⟨x0, x1, -, -⟩ := two_cells HT9.out
  rcases hmk : marksB (ms ++ [m]) with _ | _
  · rw [hmk] at HMO
    have hr0 : W.heap.size = w.heap.size + 1 + 1 + 1 := s3
    have y2 := (HL9.out.block (w.heap.size + 1 + 1) (by omega)).trans HT.out.2
    obtain ⟨y0, y1, yf, -⟩ := two_cells y2
    have yf0 := yf 0
    have yf1 := yf 1
    clear yf y2
    go_wp2_with fail
    refine HMO.out.mono ?_
    rintro e wa ⟨rfl, na, rfl⟩
    go_wp2_with fail
    refine bodyPost_ret (v := .tuple #[.agg #[.slice none 0 0, .slice none 0 0], .bool false]) (by simp [results, Tryz.results197, go_sem, y0, y1]) rfl ?_
    left
    refine ⟨by trivial, rfl, ?_⟩
    exact ((below_drewN (chain HB.out HL9.out) na).setCell (by show w.heap.size ≤ w.heap.size + 1 + 1; omega) _).setCell (by show w.heap.size ≤ w.heap.size + 1 + 1; omega) _
  rw [hmk] at HMO
  go_wp2_with fail
  refine HMO.out.mono ?_
  rintro e wa ⟨rfl, na, hwa⟩
  have HLa : Hid (Below w9.heap.size w9 wa) := by show Below _ _ _; rw [hwa]; exact below_drewN (Below.refl _ _) na
  have hIa := HI.out.below (chain HL9.out HLa.out)
  have p0 := hIa.c0
  obtain ⟨e40, e41, -, -⟩ := two_cells ((HLa.out.block (w.heap.size + 1) (by omega)).trans ((HL9.out.block (w.heap.size + 1) (by omega)).trans HT.out.1))
  have HNE := hidP (sNear am at' cm ct ms m.2 most wa hIa.mv (View.next HA.out (chain HL9.out HLa.out)) ⟨by omega, fun i => by have := (web_small HW.out).2.1 i; omega⟩ hal)
  clear hwa hIa HMO
  go_wp2_with fail
  refine HNE.out.mono ?_
  rintro e wb ⟨gh, ch, rfl, hrb, Lb⟩
  obtain ⟨wc, hwc⟩ : ∃ wc, wb.alloc (.cells #[] 2) = wc := ⟨_, rfl⟩
  have Lc : Below wb.heap.size wb wc := by rw [← hwc]; exact (Below.refl _ _).alloc (Nat.le_refl _) _
  have hsc : wc.heap.size = wb.heap.size + 1 := by rw [← hwc]; simp
  have HL9c := hidP (chain HLa.out (chain Lb Lc))
  have HHR := hidP (hrb.below (Nat.le_refl _) Lc)
  have HRO : Hid (Row w9.heap.size wc wb.heap.size 0 []) := by show Row _ _ _ _ _; rw [← hwc]; exact Row.start wb w9.heap.size (by have := HLa.out.size; have := Lb.size; omega)
  have hza := HLa.out.size
  have hzb := Lb.size
  have hghb := hrb.lt
  have hgo : gh ≠ wb.heap.size := by omega
  clear Lb Lc hrb
  go_wp2_with fail
  try rw [hwc]
  obtain ⟨hs, hhs⟩ : ∃ hs, nearL ms m.2 most = hs := ⟨_, rfl⟩
  have HIDS : Hid (nearI ms m.2 most = hs.map (fun h => h.1)) := by show _ = _; rw [nearI, hhs]
  have hhl : hs.length ≤ 60 := by rw [← hhs]; exact near_len14 ms m.2 most
  rw [hhs] at HHR
  rw [hhs]
  have HND : Hid ((hs.map (fun h => h.1)).Nodup) := by show List.Nodup _; rw [← HIDS.out]; exact nearI_nodup (web_marks HW.out) m.2 most
  have HFD : Hid (∀ i, i < hs.length → 0 ≤ zFind ms (hnth hs i).1) := fun i hi => nearI_find (web_marks HW.out) _ (by rw [HIDS.out]; exact List.mem_map.2 ⟨hnth hs i, hnth_mem hi, rfl⟩)
  have HLL := hidP (web_len HW.out)
  have HNT : Hid (∀ i, nth (hs.map (fun h => h.1)) i = (hnth hs i).1 ∨ hs.length ≤ i) := fun i => by
    rcases Nat.lt_or_ge i hs.length with h | h
    · left; simp [nth, hnth, List.getD, h]
    · exact Or.inr h
  have hcnt : wc.heap.size = wb.heap.size + 1 := hsc
  have HB2 : Hid (Sc + 1 ≤ w9.heap.size ∧ w9.heap.size ≤ wb.heap.size) := ⟨by omega, by omega⟩
  have HMc := hidP (lmemv_same HM9.out (w' := wc) (fun j hj => HL9c.out.block j (by have := HLI.out j hj; omega)))
  go_loopw [10, 11] (fun vo vi wr => ∃ (i go co : Nat) (rs' : List Rw), i ≤ hs.length ∧ vi = .int .i64 i ∧ vo = .slice (some ⟨go, 0, none⟩) (((hs.map (fun h => h.1)).take i).foldl insI []).length co ∧ Row w9.heap.size wr go co (((hs.map (fun h => h.1)).take i).foldl insI []) ∧ rs'.length = rs.length ∧ LMemV B1 wr (.slice av rs.length cv) rs' ∧ nums rs' = lnkT ms ls ((hs.map (fun h => h.1)).take i) m.1 ∧ (∀ b, LBlk (.slice av rs.length cv) rs' b → B1 ≤ b ∧ (b < Sc ∨ wc.heap.size ≤ b) ∧ b ≠ go) ∧ (∀ j, j < wc.heap.size → (j < B1 ∨ Sc ≤ j) → wr.heap[j]? = wc.heap[j]?) ∧ wr.os = wc.os ∧ wr.tape = wc.tape ∧ wr.output = wc.output ∧ wc.heap.size ≤ wr.heap.size) (fun _ vi _ => hs.length - (intOf vi).toNat)
  case atStart => exact ⟨0, _, 0, rs, Nat.zero_le _, rfl, rfl, HRO.out, rfl, HMc.out, by rw [List.take_zero, lnkT_nil HLL.out]; exact HNU.out, fun b hb => by have h1 := HLI.out b hb; have h2 := HB2.out; exact ⟨by omega, by omega, by omega⟩, fun _ _ _ => rfl, rfl, rfl, rfl, Nat.le_refl _⟩
  case round =>
    clear HMc HRO
    obtain ⟨i, go, co, rs', hi, rfl, rfl, hro, hrl', hlm, hnu, hlb, hfr, ho1, ho2, ho3, hzr⟩ := hrel
    have HB2' := HB2.out
    obtain ⟨acc, hacc⟩ : ∃ acc, ((hs.map (fun h => h.1)).take i).foldl insI [] = acc := ⟨_, rfl⟩
    have hal' : acc.length ≤ 60 := by
      rw [← hacc]
      have := fold_len14 ((hs.map (fun h => h.1)).take i) []
      simp at this
      simp
      omega
    rw [hacc] at hro
    rw [hacc]
    have HACC := hidP hacc
    have HRO := hidP hro
    have HLM := hidP hlm
    have HNU' := hidP hnu
    have HLBK := hidP hlb
    have HFR := hidP hfr
    have HRL' := hidP hrl'
    have HOS : Hid (wr.os = wc.os ∧ wr.tape = wc.tape ∧ wr.output = wc.output) := ⟨ho1, ho2, ho3⟩
    have hgo' := hro.lt2
    have hLW : Below W.heap.size W wr := ⟨ho1.trans (HL9c.out.os.trans HL9.out.os), ho2.trans (HL9c.out.tape.trans HL9.out.tape), ho3.trans (HL9c.out.output.trans HL9.out.output), by have := HL9.out.size; have := HL9c.out.size; omega, fun j hj => (hfr j (by omega) (by omega)).trans ((HL9c.out.block j (by omega)).trans (HL9.out.block j hj))⟩
    have HLW := hidP hLW
    clear hacc hro hlm hnu hlb hfr hrl' ho1 ho2 ho3 hLW
    by_cases hlt : i < hs.length
    · have hfx := HFD.out i hlt
      obtain ⟨hj1, hj2, hj3⟩ := zIdx_lt hfx
      have hcx : wr.cell? ⟨gh, i * 2, none⟩ = some (.int .i64 (hnth hs i).1) := by
        have h := (HHR.out.seg i hlt).1
        rw [Nat.zero_add] at h
        exact (World.cell?_of_block (HFR.out gh (by omega) (by omega))).trans h
      have HNX : Hid (nth (hs.map (fun h => h.1)) i = (hnth hs i).1) := by rcases HNT.out i with h | h; exact h; omega
      obtain ⟨x, hx⟩ : ∃ x, (hnth hs i).1 = x := ⟨_, rfl⟩
      rw [hx] at hfx hj1 hj2 hj3 hcx HNX
      obtain ⟨j, hj⟩ : ∃ j, zIdx ms x = j := ⟨_, rfl⟩
      rw [hj] at hj1 hj2 hj3
      have HJM := hidP hj3
      have hi0' : (0 : Int) ≤ (i : Int) := Int.natCast_nonneg _
      have hi1' : (i : Int) < (hs.length : Int) := by omega
      have HP := hidP (sPutI w9.heap.size go co acc x wr HRO.out (by omega) (by omega))
      have HACC2 : Hid (((hs.map (fun h => h.1)).take (i + 1)).foldl insI [] = insI acc x) := by
        show _ = _
        rw [List.take_add_one, List.foldl_append, HACC.out]
        have e : (hs.map (fun h => h.1))[i]?.toList = [x] := by
          have h := HNX.out
          simp [nth, List.getD, hlt] at h
          simp [hlt, h]
        rw [e]
        rfl
      have HJ2 := hidP hj2
      clear hfx hj hx hj2 hj3
      go_wp2_with fail
      refine HP.out.mono ?_
      rintro e w1 ⟨go2, co2, rfl, hro1, L1, hg2⟩
      have hz1 := L1.size
      have HRO1 := hidP hro1
      have HL1 := hidP L1
      have HFI := hidP (fun W' (L' : Below w1.heap.size w1 W') => sFind am cm ms x W' (HI.out.below (chain HLW.out (chain HL1.out L'))).mv (by omega))
      rw [← HJ2.out] at HFI
      have HS1 : Hid (∀ W', Below w1.heap.size w1 W' → W'.cell? ⟨w.heap.size, 0, none⟩ = some (.slice am ms.length cm) ∧ W'.cell? ⟨gh, i * 2, none⟩ = some (.int .i64 x)) := fun W' L' => ⟨(HI.out.below (chain HLW.out (chain HL1.out L'))).c0, ((chain HL1.out L').cell (p := ⟨gh, i * 2, none⟩) (by show gh < _; omega)).trans hcx⟩
      have BL1 := hidP ((Below.refl w1.heap.size w1).drew)
      have hgol := hro1.lt2
      clear hro1 L1 HP
      go_wp2_with fail
      refine wp_region_takes (S := fun W' => Below w1.heap.size w1 W') (fuel := 2) [0, 1, 2, 3, 4, 5, 6] (by kernel_rfl) (by kernel_rfl) (by kernel_rfl) (by kernel_rfl) BL1.out (fun _ => ?_)
      iterate 7
        refine ⟨_, rfl, ?_⟩
        apply Exists.intro
        refine ⟨Or.inl ⟨by rfl, fun w' hw' => ?_⟩, ?_⟩
        · obtain ⟨e1, e2⟩ := HS1.out w' hw'
          first
          | (go_simp; done)
          | (go_simp; with_reducible rfl)
        simp only [Act.put, List.getElem_toArray, List.getElem_cons_succ, List.getElem_cons_zero, List.setIfInBounds_toArray, List.set_cons_zero, List.set_cons_succ]
      refine calm_one 7 (by kernel_rfl) rfl (fun K hK => ?_)
      go_simp
      refine (HFI.out _ BL1.out).mono ?_
      rintro e w2 ⟨rfl, hw2⟩
      have HL2 : Hid (Below w1.heap.size w1 w2) := by show Below _ _ _; rw [hw2]; exact BL1.out
      clear hw2
      refine hK.out _ _ HL2.out (fun _ => ?_)
      clear hK K
      refine calm_rest [8] rfl (by kernel_rfl) (by kernel_rfl) (by kernel_rfl) HL2.out ?_
      iterate 1
        refine ⟨_, rfl, ?_⟩
        apply Exists.intro
        refine ⟨Or.inl ⟨by rfl, fun w' hw' => ?_⟩, ?_⟩
        · skip
          first
          | (go_simp; done)
          | (go_simp; with_reducible rfl)
        simp only [Act.put, List.getElem_toArray, List.getElem_cons_succ, List.getElem_cons_zero, List.setIfInBounds_toArray, List.set_cons_zero, List.set_cons_succ]
      refine NoPanic.normal (NoPanic.normal ?_)
      have hz2 := HL2.out.size
      have HL12 := hidP (chain HL1.out HL2.out)
      have hrn : rs'.length = ms.length := by have h1 := HRL'.out; have h2 := HRL.out; have h3 := HLL.out; omega
      have HM2 := hidP (lmemv_same HLM.out (w' := w2) (fun b hb => HL12.out.block b (lblk_in HLM.out hb).2))
      obtain ⟨gl, hav, hlmem⟩ : ∃ gl, av = some ⟨gl, 0, none⟩ ∧ LMem B1 w2 gl cv rs' := by
        rcases HM2.out with ⟨h1, h2⟩ | ⟨g, c, h1, h2⟩
        · rw [h2] at hrn; simp at hrn; omega
        · injection h1 with e1 e2 e3
          subst e1 e3
          exact ⟨g, rfl, h2⟩
      subst hav
      have hjr : j < rs'.length := by omega
      have hgll := hlmem.row.lt
      have hgl1 := HLBK.out gl (Or.inl rfl)
      have hrow : (rs'[j]).2.2 = cn ls j := by
        have h := congrArg (fun l => l[j]?) HNU'.out
        simp only [nums, List.getElem?_map, List.getElem?_eq_getElem hjr, Option.map_some] at h
        rw [lnkT_at hj1, (lnkT_step (web_marks HW.out) HND.out (by simpa using hlt) hj1 (HNX.out.trans HJM.out.symm) m.1).1] at h
        injection h
      have HIR := hidP (hlmem.rows _ (List.getElem_mem hjr))
      have hcj := hlmem.row.cell j hjr
      have hfj := World.ownsRow.frozenAt hlmem.row j
      have hrb := HLBK.out (rs'[j]).1 (Or.inr ⟨_, List.getElem_mem hjr, rfl⟩)
      have HMEM := hidP hlmem
      obtain ⟨r, hr⟩ : ∃ r, rs'[j] = r := ⟨_, rfl⟩
      rw [hr] at hrow HIR hcj hrb
      obtain ⟨r1, rc, rx⟩ := r
      simp only at hrow
      subst hrow
      have HR0 := hidP hr
      have hcl := (web_small HW.out).2.2.2 j
      have hir := HIR.out.lt
      have hoff := HMEM.out.off _ (List.getElem_mem hjr)
      rw [hr] at hoff
      simp only at hoff hrb hir
      have hcj' : w2.cell? ⟨gl, j, none⟩ = some (.slice (some ⟨r1, 0, none⟩) (cn ls j).length rc) := hcj
      have hOc : w2.cell? ⟨Sc, 1, none⟩ = some (.slice (some ⟨gl, 0, none⟩) rs.length cv) := (World.cell?_of_block ((HL12.out.block Sc (by omega)).trans ((HFR.out Sc (by omega) (by omega)).trans (HL9c.out.block Sc (by omega))))).trans x1
      have hmc : w2.cell? ⟨w.heap.size + 1, 0, none⟩ = some (.int .i64 m.1) := by
        obtain ⟨a0, -, -, -⟩ := two_cells ((chain HLW.out HL12.out).block (w.heap.size + 1) (by omega) |>.trans HT.out.1)
        exact a0
      have hj0' : (0 : Int) ≤ (j : Int) := Int.natCast_nonneg _
      have hj1' : (j : Int) < (rs.length : Int) := by have := HRL'.out; omega
      have HS2 : Hid (∀ W' : World, (∀ b, (b = Sc ∨ b = gl ∨ b = w.heap.size + 1) → W'.heap[b]? = w2.heap[b]?) → W'.cell? ⟨Sc, 1, none⟩ = some (.slice (some ⟨gl, 0, none⟩) rs.length cv) ∧ W'.cell? ⟨gl, j, none⟩ = some (.slice (some ⟨r1, 0, none⟩) (cn ls j).length rc) ∧ W'.cell? ⟨w.heap.size + 1, 0, none⟩ = some (.int .i64 m.1)) := fun W' h => ⟨(World.cell?_of_block (h Sc (Or.inl rfl))).trans hOc, (World.cell?_of_block (h gl (Or.inr (Or.inl rfl)))).trans hcj', (World.cell?_of_block (h (w.heap.size + 1) (Or.inr (Or.inr rfl)))).trans hmc⟩
      clear HM2 hlmem hcj hr HS1 BL1 HFI
      go_wp2_with fail
      refine wp_region_calm (S := fun W' => W'.cell? ⟨Sc, 1, none⟩ = some (.slice (some ⟨gl, 0, none⟩) rs.length cv) ∧ W'.cell? ⟨gl, j, none⟩ = some (.slice (some ⟨r1, 0, none⟩) (cn ls j).length rc) ∧ W'.cell? ⟨w.heap.size + 1, 0, none⟩ = some (.int .i64 m.1)) (fuel := 3)
        [0, 1, 2, 3, 4, 5, 6, 7, 8, 9] _ rfl (by kernel_rfl) (by kernel_rfl) (by kernel_rfl) (by kernel_rfl) (by kernel_rfl) (by kernel_rfl) (by kernel_rfl) (HS2.out _ (fun _ _ => rfl)) (fun _ => ?_)
      iterate 10
        refine ⟨_, rfl, ?_⟩
        apply Exists.intro
        refine ⟨Or.inl ⟨by rfl, fun w' hw' => ?_⟩, ?_⟩
        · obtain ⟨e1, e2, e3⟩ := hw'
          first
          | (go_simp; done)
          | (go_simp; with_reducible rfl)
        simp only [Act.put, List.setIfInBounds_toArray]
      refine calm_one 10 (by kernel_rfl) rfl (fun K hK => ?_)
      go_simp
      obtain ⟨wd, hwd⟩ : ∃ wd, (w2.alloc (.cells #[.int .i64 m.1] 2)).drew = wd := ⟨_, rfl⟩
      have HLd : Hid (Below w2.heap.size w2 wd) := by show Below _ _ _; rw [← hwd]; exact ((Below.refl w2.heap.size w2).alloc (Nat.le_refl _) _).drew
      have HNd : Hid (wd.heap[w2.heap.size]? = some (.cells #[.int .i64 m.1] 2 (0, 0))) := by show _ = _; rw [← hwd]; exact heap_alloc_new w2 _
      have hsd : wd.heap.size = w2.heap.size + 1 := by rw [← hwd]; simp
      rw [hwd]
      clear hwd
      refine hK.out _ _ (HS2.out _ (fun b hb => HLd.out.block b (by omega))) (fun _ => ?_)
      clear hK K
      have HMd := hidP (HMEM.out.below HLd.out)
      have HIRd := hidP (HIR.out.below HLd.out)
      refine calm_one 11 (by kernel_rfl) rfl (fun K hK => ?_)
      refine step_append_at wd rfl (.tmp 67) (.tmp 70) 27 rfl B1 2 i0 _ 1 8 Tryz.underlying27 hi0 hx0 hx1 hx2 rfl (by omega) r1 (cn ls j).length rc ((cn ls j).map (Value.int .i64)) rfl HIRd.out (some ⟨w2.heap.size, 0, none⟩) 1 1 [.int .i64 m.1] rfl (one_int HNd.out) (by unfold maxLen; omega) (by omega) (by omega) wd.heap.size rfl ?_
      intro gg cc we howne hgrowe hate hlte
      have HIe : Hid (IRow B1 we gg cc (cn ls j ++ [m.1])) := Row.snoc howne
      have HGe := hidP hgrowe
      have hze := hgrowe.size
      have HOVE : Hid (LMem B1 (we.setCell ⟨gl, j, none⟩ (rwV (gg, cc, cn ls j ++ [m.1]))) gl cv (rs'.set j (gg, cc, cn ls j ++ [m.1]))) := HMd.out.over14 j hjr HIe.out (by rw [HR0.out]; exact hgrowe) (by rw [HR0.out]; rcases hate with e | e; exact Or.inl e; exact Or.inr (by omega))
      have hSe : ∀ b, (b = Sc ∨ b = gl ∨ b = w.heap.size + 1) → we.heap[b]? = w2.heap[b]? := fun b hb => (hgrowe.block b (by omega) (by simp; omega)).trans (HLd.out.block b (by omega))
      have HSe := hidP (HS2.out _ hSe)
      have hce := (hSe gl (Or.inr (Or.inl rfl)))
      have hcel : we.cell? ⟨gl, j, none⟩ = some (.slice (some ⟨r1, 0, none⟩) (cn ls j).length rc) := HSe.out.2.1
      have hfel : we.frozen? ⟨gl, j, none⟩ = false := (World.frozen?_of_block hce).trans hfj
      clear howne hgrowe
      refine hK.out _ _ HSe.out (fun _ => ?_)
      clear hK K
      refine calm_one 12 (by kernel_rfl) rfl (fun K hK => ?_)
      go_simp
      refine hK.out _ _ HSe.out (fun _ => ?_)
      clear hK K
      refine wpAnyH_done (by kernel_rfl) ?_ _
      simp only [Exit.then]
      obtain ⟨wf, hwf⟩ : ∃ wf, we.setCell ⟨gl, j, none⟩ (.slice (some ⟨gg, 0, none⟩) ((cn ls j).length + 1) cc) = wf := ⟨_, rfl⟩
      have hrv : rwV (gg, cc, cn ls j ++ [m.1]) = .slice (some ⟨gg, 0, none⟩) ((cn ls j).length + 1) cc := by simp [rwV]
      rw [hrv, hwf] at HOVE
      have hff : ∀ b, b ≠ gl → wf.heap[b]? = we.heap[b]? := fun b hb => by rw [← hwf]; exact Below.heap_setCell we ⟨gl, j, none⟩ _ b (fun e => hb e)
      have hzf : wf.heap.size = we.heap.size := by rw [← hwf]; simp [World.setCell]
      have HNUf : Hid (nums (rs'.set j (gg, cc, cn ls j ++ [m.1])) = lnkT ms ls ((hs.map (fun h => h.1)).take (i + 1)) m.1) := by
        show _ = _
        rw [← (lnkT_step (ls := ls) (web_marks HW.out) HND.out (by simpa using hlt) hj1 (HNX.out.trans HJM.out.symm) m.1).2, ← HNU'.out, nums, nums, List.map_set]
      have HKf : Hid (∀ b, b ≠ gl → b ≠ r1 → b < wr.heap.size → wf.heap[b]? = wr.heap[b]?) := fun b h1 h2 h3 => (hff b h1).trans ((HGe.out.block b (by omega) (by simp; exact h2)).trans ((HLd.out.block b (by omega)).trans (HL12.out.block b h3)))
      have HROf : Hid (Row w9.heap.size wf go2 co2 (insI acc x)) := HRO1.out.same (by
        have hne1 : go2 ≠ gl := by rcases hg2 with e | e; rw [e]; exact fun h => hgl1.2.2 h.symm; have := (lblk_in HLM.out (Or.inl rfl : LBlk (.slice (some ⟨gl, 0, none⟩) rs.length cv) rs' gl)).2; omega
        have hne2 : go2 ≠ r1 := by rcases hg2 with e | e; rw [e]; exact fun h => hrb.2.2 h.symm; have := (lblk_in HLM.out (Or.inr ⟨_, List.getElem_mem hjr, by rw [HR0.out]⟩ : LBlk (.slice (some ⟨gl, 0, none⟩) rs.length cv) rs' r1)).2; omega
        exact (hff go2 hne1).trans ((HGe.out.block go2 (by omega) (by simp; exact hne2)).trans ((HLd.out.block go2 (by omega)).trans (HL2.out.block go2 hgol.2))))
      have HLBf : Hid (∀ b, LBlk (.slice (some ⟨gl, 0, none⟩) rs.length cv) (rs'.set j (gg, cc, cn ls j ++ [m.1])) b → B1 ≤ b ∧ (b < Sc ∨ wc.heap.size ≤ b) ∧ b ≠ go2) := fun b hb => by
        have hold : LBlk (.slice (some ⟨gl, 0, none⟩) rs.length cv) rs' b → B1 ≤ b ∧ (b < Sc ∨ wc.heap.size ≤ b) ∧ b ≠ go2 := fun h => by
          have h1 := HLBK.out b h
          have h2 := (lblk_in HLM.out h).2
          refine ⟨h1.1, h1.2.1, ?_⟩
          rcases hg2 with e | e
          · rw [e]; exact h1.2.2
          · omega
        rcases hb with e | ⟨q, hq, rfl⟩
        · exact hold (Or.inl e)
        · rcases List.mem_or_eq_of_mem_set hq with h | h
          · exact hold (Or.inr ⟨q, h, rfl⟩)
          · rw [h]
            show B1 ≤ gg ∧ (gg < Sc ∨ wc.heap.size ≤ gg) ∧ gg ≠ go2
            rcases hate with e | e
            · have hq1 : q.1 = r1 := by rw [h]; exact e.symm
              have h3 := hold (Or.inr ⟨_, List.getElem_mem hjr, by rw [HR0.out]; exact hq1⟩)
              rw [hq1] at h3
              rw [← e]; exact h3
            · have := hgol.2; exact ⟨by omega, by omega, by omega⟩
      have HOSf : Hid (wf.os = wc.os ∧ wf.tape = wc.tape ∧ wf.output = wc.output) := by
        have ho := HOS.out
        refine ⟨?_, ?_, ?_⟩
        · rw [← hwf]; exact HGe.out.os.trans (HLd.out.os.trans (HL12.out.os.trans ho.1))
        · rw [← hwf]; exact HGe.out.tape.trans (HLd.out.tape.trans (HL12.out.tape.trans ho.2.1))
        · rw [← hwf]; exact HGe.out.output.trans (HLd.out.output.trans (HL12.out.output.trans ho.2.2))
      have HWF := hidP hwf
      clear hSe hce hwf hff HS2 HSe
      go_wp2_with fail
      try rw [HWF.out]
      refine NoPanic.normal ?_
      go_wp2_with fail
      go_roundw
      case rel => exact ⟨i + 1, go2, co2, rs'.set j (gg, cc, cn ls j ++ [m.1]), by omega, by go_num, by rw [HACC2.out], by rw [HACC2.out]; exact HROf.out, by rw [List.length_set]; exact HRL'.out, Or.inr ⟨gl, cv, by rw [List.length_set, HRL'.out], HOVE.out⟩, HNUf.out, HLBf.out, fun b h1 h2 => (HKf.out b (by omega) (by omega) (by omega)).trans (HFR.out b h1 h2), HOSf.out.1, HOSf.out.2.1, HOSf.out.2.2, by omega⟩
      case measure => simp [intOf]; omega
    · skip
      have e1 : i = hs.length := by omega
      have HTK : Hid ((hs.map (fun h => h.1)).take i = hs.map (fun h => h.1)) := by show _ = _; rw [e1]; exact List.take_of_length_le (by simp)
      have HNU8 : Hid (nums rs' = lnkT ms ls (hs.map (fun h => h.1)) m.1) := by have h := HNU'.out; rw [HTK.out] at h; exact h
      have HAC8 : Hid (acc = ownI (hs.map (fun h => h.1))) := by have h := HACC.out; rw [HTK.out] at h; exact h.symm
      have hrn : rs'.length = ms.length := by have h1 := HRL'.out; have h2 := HRL.out; have h3 := HLL.out; omega
      obtain ⟨y0, y1, yf, -⟩ := two_cells ((HFR.out Sc (by omega) (by omega)).trans ((HL9c.out.block Sc (by omega)).trans HT9.out))
      have GA := World.grownBy_alloc wr (.cells #[.slice (some ⟨go, 0, none⟩) acc.length co] 27) none
      obtain ⟨wd, hwd⟩ : ∃ wd, wr.alloc (.cells #[.slice (some ⟨go, 0, none⟩) acc.length co] 27) = wd := ⟨_, rfl⟩
      have hsd : wd.heap.size = wr.heap.size + 1 := by rw [← hwd]; simp
      have HLd : Hid (Below wr.heap.size wr wd) := by show Below _ _ _; rw [← hwd]; exact (Below.refl _ _).alloc (Nat.le_refl _) _
      have HNd : Hid (wd.heap[wr.heap.size]? = some (.cells #[rwV (go, co, acc)] 27 (0, 0))) := by show _ = _; rw [← hwd]; exact heap_alloc_new wr _
      have HMd := hidP (lmemv_same HLM.out (w' := wd) (fun b hb => HLd.out.block b (lblk_in HLM.out hb).2))
      have HROd := hidP (HRO.out.next HLd.out hgo'.2)
      have z0 := (HLd.out.cell (p := ⟨Sc, 0, none⟩) (by show Sc < _; omega)).trans y0
      have z1 := (HLd.out.cell (p := ⟨Sc, 1, none⟩) (by show Sc < _; omega)).trans y1
      have HOWN : Hid (wd.ownsRow B1 27 1 (.slice av rs.length cv) rs.length (rs'.map rwV)) := by have h := HMd.out.owns; rw [HRL'.out] at h; exact h
      clear GA
      have hrb0 : W.heap.size ≤ B1 := hB1
      obtain ⟨v0, v1, vf, -⟩ := two_cells ((HLd.out.block (w.heap.size + 1 + 1) (by omega)).trans ((HLW.out.block (w.heap.size + 1 + 1) (by omega)).trans HT.out.2))
      have HWD := hidP hwd
      have yf1 := yf 1
      have zf1 : wd.frozen? ⟨Sc, 1, none⟩ = false := (World.frozen?_of_block (HLd.out.block Sc (by omega))).trans yf1
      have HVC : Hid (∀ W' : World, W'.heap[Sc]? = wd.heap[Sc]? → W'.heap[w.heap.size + 1 + 1]? = wd.heap[w.heap.size + 1 + 1]? → (W'.cell? ⟨Sc, 0, none⟩ = some (.slice (some ⟨g8, 0, none⟩) (ms.length + 1) c8) ∧ W'.cell? ⟨Sc, 1, none⟩ = some (.slice av rs.length cv) ∧ W'.frozen? ⟨Sc, 1, none⟩ = false) ∧ W'.cell? ⟨w.heap.size + 1 + 1, 0, none⟩ = some (.slice none 0 0) ∧ W'.cell? ⟨w.heap.size + 1 + 1, 1, none⟩ = some (.slice none 0 0) ∧ W'.frozen? ⟨w.heap.size + 1 + 1, 0, none⟩ = false ∧ W'.frozen? ⟨w.heap.size + 1 + 1, 1, none⟩ = false) := fun W' h1 h2 => ⟨⟨(World.cell?_of_block h1).trans z0, (World.cell?_of_block h1).trans z1, (World.frozen?_of_block h1).trans zf1⟩, (World.cell?_of_block h2).trans v0, (World.cell?_of_block h2).trans v1, (World.frozen?_of_block h2).trans (vf 0), (World.frozen?_of_block h2).trans (vf 1)⟩
      have HNB : Hid (∀ b, (Value.slice av rs.length cv).ownBlock = some b → LBlk (.slice av rs.length cv) rs' b) := fun b h => Or.inl h
      clear hwd v0 v1 vf yf z0 z1 yf1 zf1
      go_wp2_with (at_builtin; rw [HWD.out]; refine wpList_append_lies wd rfl (.tmp 74) (.tmp 76) 45 rfl B1 27 j0 _ 1 24 Tryz.underlying45 hj0 hy0 hy1 hy2 rfl (by omega) (.slice av rs.length cv) rs.length (rs'.map rwV) rfl HOWN.out ⟨wr.heap.size, 0, none⟩ 1 1 [rwV (go, co, acc)] rfl rfl (row_src_r HNd.out).1 (row_src_r HNd.out).2 (by omega) (by have := HRL.out; unfold maxLen; omega) (by have := HRL.out; omega) (by omega) wd.heap.size rfl ?_; intro gF cF wF hownF hgrowF hatF hltF; have hbS := hgrowF.block Sc (by omega) (fun e => by have := (HLBK.out Sc (HNB.out Sc e.symm)).2.1; omega); have hbR := hgrowF.block (w.heap.size + 1 + 1) (by omega) (fun e => by have := (HLBK.out _ (HNB.out _ e.symm)).1; omega); obtain ⟨⟨a0, a1, af⟩, r0, r1, rf0, rf1⟩ := HVC.out wF hbS hbR; have HOF := hidP hownF; have HGF := hidP hgrowF; clear hbS hbR hownF hgrowF)
      refine bodyPost_ret (v := .tuple #[.agg #[.slice (some ⟨g8, 0, none⟩) (ms.length + 1) c8, .slice (some ⟨gF, 0, none⟩) (rs.length + 1) cF], .bool true]) (by simp [results, Tryz.results197, go_sem, r0, r1]) rfl ?_
      right
      obtain ⟨wz, hwz⟩ : ∃ wz, ((wF.setCell ⟨Sc, 1, none⟩ (.slice (some ⟨gF, 0, none⟩) (rs.length + 1) cF)).setCell ⟨w.heap.size + 1 + 1, 0, none⟩ (.slice (some ⟨g8, 0, none⟩) (ms.length + 1) c8)).setCell ⟨w.heap.size + 1 + 1, 1, none⟩ (.slice (some ⟨gF, 0, none⟩) (rs.length + 1) cF) = wz := ⟨_, rfl⟩
      rw [hwz]
      have hfz : ∀ b, b ≠ Sc → b ≠ w.heap.size + 1 + 1 → wz.heap[b]? = wF.heap[b]? := fun b h1 h2 => by
        rw [← hwz, Below.heap_setCell _ ⟨w.heap.size + 1 + 1, 1, none⟩ _ b (fun e => h2 e), Below.heap_setCell _ ⟨w.heap.size + 1 + 1, 0, none⟩ _ b (fun e => h2 e), Below.heap_setCell _ ⟨Sc, 1, none⟩ _ b (fun e => h1 e)]
      have hzz : wz.heap.size = wF.heap.size := by rw [← hwz]; simp [World.setCell]
      have hzF := HGF.out.size
      have hIR : IRow B1 wd go co acc := HROd.out.mono14 (by omega)
      have hLF : LMem B1 wF gF cF (rs' ++ [(go, co, acc)]) := lmemv_snoc2 HMd.out (by rw [HRL'.out]; simpa using HOF.out) HGF.out hatF hIR (fun h => by
        have := (HLBK.out go h).2.2
        exact this rfl)
      have hLz : LMem B1 wz gF cF (rs' ++ [(go, co, acc)]) := hLF.same (fun b hb => by
        have h1 := hLF.all b hb
        refine hfz b (fun e => ?_) (by omega)
        subst e
        rcases hb with hb | ⟨q, hq, hb⟩
        · rcases hatF with e | e
          · have := (HLBK.out gF (Or.inl e)).2.1; omega
          · omega
        · rcases List.mem_append.1 hq with h | h
          · have := (HLBK.out q.1 (Or.inr ⟨q, h, rfl⟩)).2.1; omega
          · simp at h
            rw [h] at hb
            have hb' : b = go := hb
            omega)
      have hfull : nums (rs' ++ [(go, co, acc)]) = lnkL ms ls (nearI ms m.2 most) m.1 := by
        rw [nums, List.map_append, ← nums, HNU8.out, HIDS.out, ← lnkT_all, HAC8.out]
        rfl
      have hblk : ∀ b, (b < B1 ∨ Sc + 1 ≤ b ∧ b < w9.heap.size) → W.heap.size ≤ b → wz.heap[b]? = w9.heap[b]? := fun b hb hb2 => by
        refine (hfz b (by omega) (by omega)).trans ((HGF.out.block b (by omega) (fun e => ?_)).trans ((HLd.out.block b (by omega)).trans ((HFR.out b (by omega) (by omega)).trans (HL9c.out.block b (by omega)))))
        have := HLBK.out b (HNB.out b e.symm)
        omega
      have hDz : DRow W.heap.size wz g8 c8 (ds ++ [(m.1, g6, c6, m.2)]) := ⟨owns_same14 HD9.out.1 (hblk g8 HBK.out.1 HD9.out.lt.1), fun d hd => ⟨(HD9.out.2.1 d hd).1.same (hblk d.2.1 (HBK.out.2 d hd) (HD9.out.2.1 d hd).1.lt2.1), (HD9.out.2.1 d hd).2⟩, HD9.out.2.2⟩
      have hAP : ∀ b, (b = g8 ∨ ∃ d ∈ (ds ++ [(m.1, g6, c6, m.2)]), b = d.2.1) → b ≠ gF ∧ ∀ r ∈ rs' ++ [(go, co, acc)], b ≠ r.1 := fun b hb => by
        have h1 : b < B1 ∨ Sc + 1 ≤ b ∧ b < w9.heap.size := by
          rcases hb with rfl | ⟨d, hd, rfl⟩
          · exact HBK.out.1
          · exact HBK.out.2 d hd
        refine ⟨fun e => ?_, fun r hr e => ?_⟩
        · subst e
          rcases hatF with e | e
          · have := HLBK.out b (Or.inl e); omega
          · omega
        · rcases List.mem_append.1 hr with h | h
          · have := HLBK.out r.1 (Or.inr ⟨r, h, rfl⟩); omega
          · simp at h
            rw [h] at e
            have e' : b = go := e
            omega
      have hrl : rs.length = ls.length := HRL.out
      refine ⟨by trivial, g8, c8, gF, cF, by rw [hrl], ⟨_, _, _, _, by omega, by omega, hDz, HDM9.out, hLz, hfull, hAP⟩, ?_⟩
      have hLF' : Below w.heap.size w wF := (chain HB.out (chain HLW.out HLd.out)).grown HGF.out (by omega) (fun q hq => by have := (HLBK.out q (HNB.out q hq)).1; omega)
      rw [← hwz]
      exact ((hLF'.setCell (by show w.heap.size ≤ Sc; omega) _).setCell (by show w.heap.size ≤ w.heap.size + 1 + 1; omega) _).setCell (by show w.heap.size ≤ w.heap.size + 1 + 1; omega) _

end Go.Proofs.YtaaagmgglolibaaGreat
namespace Go.Proofs.YtaaagmgglolibaaGreat
open Go Go.RowKit

theorem gin_trans {l1 h1 l2 h2 l h : Nat} {w w1 w2 : World} (a : GIn l1 h1 w w1) (b : GIn l2 h2 w1 w2) (e1 : l ≤ l1) (e2 : l ≤ l2) (e3 : h1 ≤ h) (e4 : h2 ≤ h) : GIn l h w w2 :=
  ⟨b.1.trans a.1, b.2.1.trans a.2.1, b.2.2.1.trans a.2.2.1, Nat.le_trans a.2.2.2.1 b.2.2.2.1, fun i hi hc => (b.2.2.2.2 i (Nat.lt_of_lt_of_le hi a.2.2.2.1) (by omega)).trans (a.2.2.2.2 i hi (by omega))⟩

set_option maxHeartbeats 1000000 in
theorem markMg (b hi cap : Nat) (k0 : Int) (ms : List Mk) (w : World) (hm : MOver w b hi ms) (hsm : MSmall ms) (h0 : 1 ≤ k0) (h1 : k0 ≤ 10000000000) :
    Calls Tryz.prog 170 #[.slice (some ⟨b, 0, none⟩) ms.length cap, .int .i64 k0] w fun e w' => e = .returned (.int .i64 (k0 + mtot ms)) ∧ GIn b hi w w' := by
  obtain ⟨hn, hat⟩ := hsm
  have HKE : Hid (∀ k : Nat, tot (fun j => (mat ms j).length) (k + 1) = tot (fun j => (mat ms j).length) k + (mat ms k).length) := fun k => rfl
  have HMT : Hid (mtot ms = ms.length + tot (fun j => (mat ms j).length) ms.length) := rfl
  go_enter Tryz.func170, Tryz.ntmps170
  go_wp2
  go_loopw [1, 5] (fun kk i wr => ∃ (k : Nat) (k1 : Int), k ≤ ms.length ∧ i = .int .i64 k ∧ kk = .int .i64 k1 ∧ 1 ≤ k1 ∧ k1 ≤ 10000000000 + 1048577 * (k : Int) ∧ k1 = k0 + k + (tot (fun j => (mat ms j).length) k : Nat) ∧ MOver wr b hi ms ∧ GIn b hi w wr) (fun _ i _ => ms.length - (intOf i).toNat)
  case atStart => exact ⟨0, k0, Nat.zero_le _, rfl, rfl, h0, by omega, by simp [tot], hm, GIn.refl _ _ _⟩
  case round =>
    obtain ⟨k, k1, hk, rfl, rfl, hk0, hk1, hke, ho, hg⟩ := hrel
    have HE := hidP hke
    clear hke
    by_cases hlt : k < ms.length
    · have ho2 := ho.setId k (.int .i64 k1)
      obtain ⟨⟨v, c0⟩, -⟩ := ho.2.2.2 k hlt
      have f0 := ho.2.2.1 (k * 2)
      obtain ⟨-, g, xs, hbg, hgh, c1, hl, hown⟩ := ho2.2.2.2 k hlt
      have HG := hidP ((hg.grown (grown_setCell wr b (k * 2) (.int .i64 k1)) (Nat.le_refl _) ho.2.1))
      have HO := hidP ho2
      have HM := hidP (mark_big g (k1 + 1) xs _ hown (by rw [hl]; exact hat k) (by omega) (by omega))
      have HL := hidP hl
      have HOW := hidP hown
      rw [hl] at HM
      have hatk := hat k
      clear ho ho2 hg hown hl
      go_wp2_with fail
      refine HM.out.mono ?_
      rintro e w1 ⟨rfl, ho1, hg1⟩
      have HO2 := hidP (HO.out.marked hbg HOW.out hg1 ho1 (by rw [tabL_length]; exact HL.out.symm))
      have HG2 := hidP (HG.out.grown hg1 (by omega) hgh)
      clear ho1 hg1 HO HG HM HOW
      go_wp2_with fail
      go_roundw
      case rel => exact ⟨k + 1, k1 + 1 + ((mat ms k).length : Int), by omega, by go_num, rfl, by omega, by omega, by have := HE.out; have := HKE.out k; omega, HO2.out, HG2.out⟩
      case measure => simp [intOf]; omega
    · go_wp2
      go_ret
      obtain rfl : k = ms.length := by omega
      exact ⟨ret_int (by have := HE.out; have := HMT.out; omega), hg⟩

set_option maxHeartbeats 1000000 in
theorem markCg (b hi cap : Nat) (k0 : Int) (ls : List (List Int)) (w : World) (hm : COver w b hi ls) (hsm : CSmall ls) (h0 : 1 ≤ k0) (h1 : k0 ≤ 10000000000) :
    Calls Tryz.prog 231 #[.slice (some ⟨b, 0, none⟩) ls.length cap, .int .i64 k0] w fun e w' => (∃ k1 : Int, k0 ≤ k1 ∧ k1 ≤ k0 + ctot ls ∧ e = .returned (.int .i64 k1)) ∧ GIn b hi w w' := by
  obtain ⟨hn, hat⟩ := hsm
  have HKE : Hid (∀ k : Nat, tot (fun j => (cn ls j).length) (k + 1) = tot (fun j => (cn ls j).length) k + (cn ls k).length) := fun k => rfl
  have HMT : Hid (ctot ls = ls.length + tot (fun j => (cn ls j).length) ls.length) := rfl
  go_enter Tryz.func231, Tryz.ntmps231
  go_wp2
  go_loopw [1, 5] (fun kk i wr => ∃ (k : Nat) (k1 : Int), k ≤ ls.length ∧ i = .int .i64 k ∧ kk = .int .i64 k1 ∧ 1 ≤ k1 ∧ k1 ≤ 10000000000 + 1048576 * (k : Int) ∧ k1 = k0 + (tot (fun j => (cn ls j).length) k : Nat) ∧ COver wr b hi ls ∧ GIn b hi w wr) (fun _ i _ => ls.length - (intOf i).toNat)
  case atStart => exact ⟨0, k0, Nat.zero_le _, rfl, rfl, h0, by omega, by simp [tot], hm, GIn.refl _ _ _⟩
  case round =>
    obtain ⟨k, k1, hk, rfl, rfl, hk0, hk1, hke, ho, hg⟩ := hrel
    have HE := hidP hke
    clear hke
    by_cases hlt : k < ls.length
    · obtain ⟨g, xs, hbg, hgh, c1, hl, hown⟩ := ho.2.2 k hlt
      have HG := hidP hg
      have HO := hidP ho
      have HM := hidP (mark_big g k1 xs _ hown (by rw [hl]; exact hat k) (by omega) (by omega))
      have HL := hidP hl
      have HOW := hidP hown
      rw [hl] at HM
      have hatk := hat k
      clear ho hg hown hl
      go_wp2_with fail
      refine HM.out.mono ?_
      rintro e w1 ⟨rfl, ho1, hg1⟩
      have HO2 := hidP (HO.out.marked hbg HOW.out hg1 ho1 (by rw [tabL_length]; exact HL.out.symm))
      have HG2 := hidP (HG.out.grown hg1 (by omega) hgh)
      clear ho1 hg1 HO HG HM HOW
      go_wp2_with fail
      go_roundw
      case rel => exact ⟨k + 1, k1 + ((cn ls k).length : Int), by omega, by go_num, rfl, by omega, by omega, by have := HE.out; have := HKE.out k; omega, HO2.out, HG2.out⟩
      case measure => simp [intOf]; omega
    · go_wp2
      go_ret
      obtain rfl : k = ls.length := by omega
      exact ⟨⟨k1, by have := HE.out; omega, by have := HE.out; have := HMT.out; omega, rfl⟩, hg⟩

end Go.Proofs.YtaaagmgglolibaaGreat
