/-
  The laws' own helpers on webs: how great, copied, compared, written over.
  What a web that was written over is held to: heldMarkS, heldWeb; markMark.
  markMarkS over marks that a call hands out, in blocks of their own.
  Webs in a row, in memory.
  The laws' own helpers on towers: how great, copied, compared.
  The walks of the exact laws of chapter 14, over what the program's own functions answer.
  The named laws' helpers likeMark, likeMarks and likeWeb: of two that read as the same they say so.
  The laws' likeLists and has, for FnWebs.
  The walks of FnExactWalk and FnExactBeam, over what the program's own functions answer.
-/
import Derived.Test.YtfbhohpbhjlihaaGreatFeSpecZz
import Derived.Test.YtfbhohpbhjlihaaGreatJRwZz
import Derived.Test.YtfbhohpbhjlihaaGreatMMarkZz
import Derived.Test.YtfbhohpbhjlihaaGreatMRowZz
import Derived.Test.YtfbhohpbhjlihaaGreatBMarkZz
import Derived.Test.YtfbhohpbhjlihaaGreatFeIsZz
import Derived.Test.YtfbhohpbhjlihaaGreatLastZz
import Derived.Test.YtfbhohpbhjlihaaGreatMovedSZz
import Derived.Test.YtfbhohpbhjlihaaGreatBytesZz
import Derived.Test.YtfbhohpbhjlihaaGreatHOtZz
import Derived.Test.YtfbhohpbhjlihaaGreatGKeepZz
namespace Go.Proofs.YtfbhohpbhjlihaaGreat
open Go Go.RowKit

theorem MPart.far {w w' : World} {b k n : Nat} {ms : List Mk} (h : MPart w b k n ms) (hs : w.heap.size ≤ w'.heap.size) (e : ∀ i, b ≤ i → i < w.heap.size → w'.heap[i]? = w.heap[i]?) : MPart w' b k n ms := by
  obtain ⟨h1, h2, h3, h4⟩ := h
  have eb := e b (Nat.le_refl _) h1
  refine ⟨by omega, fun i hi => ?_, fun j h5 h6 => ?_, fun j => ?_⟩
  · obtain ⟨c0, g, hg, c1, o⟩ := h2 i hi
    exact ⟨(World.cell?_of_block eb).trans c0, g, hg, (World.cell?_of_block eb).trans c1, (e g (by omega) o.lt).trans o⟩
  · obtain ⟨v, hv, hf⟩ := h3 j h5 h6
    exact ⟨v, (World.cell?_of_block eb).trans hv, (World.frozen?_of_block eb).trans hf⟩
  · exact (World.frozen?_of_block eb).trans (h4 j)
theorem CPart.far {w w' : World} {b k n : Nat} {ls : List (List Int)} (h : CPart w b k n ls) (hs : w.heap.size ≤ w'.heap.size) (e : ∀ i, b ≤ i → i < w.heap.size → w'.heap[i]? = w.heap[i]?) : CPart w' b k n ls := by
  obtain ⟨h1, h2, h3, h4⟩ := h
  have eb := e b (Nat.le_refl _) h1
  refine ⟨by omega, fun i hi => ?_, fun j h5 h6 => ?_, fun j => ?_⟩
  · obtain ⟨g, hg, c1, o⟩ := h2 i hi
    exact ⟨g, hg, (World.cell?_of_block eb).trans c1, (e g (by omega) o.lt).trans o⟩
  · obtain ⟨v, hv⟩ := h3 j h5 h6
    exact ⟨v, (World.cell?_of_block eb).trans hv⟩
  · exact (World.frozen?_of_block eb).trans (h4 j)
theorem MOver.far {w w' : World} {b hi : Nat} {ms : List Mk} (h : MOver w b hi ms) (hs : w.heap.size ≤ w'.heap.size) (e : ∀ i, b ≤ i → i < hi → i < w.heap.size → w'.heap[i]? = w.heap[i]?) : MOver w' b hi ms := by
  obtain ⟨h1, h2, h3, h4⟩ := h
  have eb := e b (Nat.le_refl _) h2 h1
  refine ⟨by omega, h2, fun j => (World.frozen?_of_block eb).trans (h3 j), fun j hj => ?_⟩
  obtain ⟨⟨v, c0⟩, g, xs, hg1, hg2, c1, hl, o⟩ := h4 j hj
  exact ⟨⟨v, (World.cell?_of_block eb).trans c0⟩, g, xs, hg1, hg2, (World.cell?_of_block eb).trans c1, hl, (e g (by omega) hg2 o.lt).trans o⟩
theorem COver.far {w w' : World} {b hi : Nat} {ls : List (List Int)} (h : COver w b hi ls) (hs : w.heap.size ≤ w'.heap.size) (e : ∀ i, b ≤ i → i < hi → i < w.heap.size → w'.heap[i]? = w.heap[i]?) : COver w' b hi ls := by
  obtain ⟨h1, h2, h4⟩ := h
  have eb := e b (Nat.le_refl _) h2 h1
  refine ⟨by omega, h2, fun j hj => ?_⟩
  obtain ⟨g, xs, hg1, hg2, c1, hl, o⟩ := h4 j hj
  exact ⟨g, xs, hg1, hg2, (World.cell?_of_block eb).trans c1, hl, (e g (by omega) hg2 o.lt).trans o⟩
/-- A web of the call's own, as the laws copy one: the marks' blocks ahead of the links'. -/
structure WebOwn (lo hi : Nat) (w : World) (bm bl : Nat) (ms : List Mk) (ls : List (List Int)) : Prop where
  lo : lo ≤ bm
  mv : MView w (some ⟨bm, 0, none⟩) ms
  cv : CView w (some ⟨bl, 0, none⟩) ls
  mo : MOver w bm bl ms
  co : COver w bl hi ls
  lt : bm < bl
  hi : hi ≤ w.heap.size
theorem WebOwn.next {lo hi : Nat} {w w' : World} {bm bl : Nat} {ms : List Mk} {ls : List (List Int)} (h : WebOwn lo hi w bm bl ms ls) (L : Below w.heap.size w w') : WebOwn lo hi w' bm bl ms ls :=
  ⟨h.lo, h.mv.next L, h.cv.next L, h.mo.far L.size (fun i _ _ h3 => L.block i h3), h.co.far L.size (fun i _ _ h3 => L.block i h3), h.lt, Nat.le_trans h.hi L.size⟩

set_option maxRecDepth 100000 in
set_option maxHeartbeats 1000000 in
theorem szW (a1 a2 : Option Addr) (c1 c2 : Nat) (ms : List Mk) (ls : List (List Int)) (w : World) (h1 : MView w a1 ms) (h2 : CView w a2 ls) (n1 : ms.length ≤ maxLen) (t1 : ∀ i, (mat ms i).length ≤ maxLen) (n2 : ls.length ≤ maxLen) (t2 : ∀ i, (cn ls i).length ≤ maxLen) :
    Calls Tryz.prog 203 #[.agg #[.slice a1 ms.length c1, .slice a2 ls.length c2], .int .i64 1048576] w fun e w' => ∃ r, e = .returned (.int .i64 r) ∧ (r < 0 ∨ (MSmall ms ∧ CSmall ls)) ∧ Below w.heap.size w w' := by
  obtain ⟨W, hW⟩ : ∃ W, w.alloc (.cells #[.slice a1 ms.length c1, .slice a2 ls.length c2] 214) = W := ⟨_, rfl⟩
  have hB : Below w.heap.size w W := by rw [← hW]; exact (Below.refl _ _).alloc (Nat.le_refl _) _
  have hI : WebIn W w.heap.size a1 c1 ms a2 c2 ls := by rw [← hW]; exact WebIn.box h1 h2
  have HB := hidP hB
  have HI := hidP hI
  have k0 := hI.c0
  have HS := hidP (szMS2 a1 c1 ms W hI.mv n1 t1)
  have HS2 := hidP (fun (W' : World) (L : Below W.heap.size W W') (r : Int) (h0 : 0 ≤ r) (h1 : r ≤ 1048576) => szCS a2 c2 ls r W' (hI.below L).cv h0 h1 n2 t2)
  clear h1 h2 hB hI t1 t2
  go_enter Tryz.func203, Tryz.ntmps203
  go_wp2_with fail
  refine HS.out.mono ?_
  rintro e w1 ⟨r, rfl, hr1, hr, L1⟩
  by_cases hneg : r < 0
  · go_wp2_with fail
    go_ret
    exact ⟨-1, rfl, Or.inl (by omega), chain HB.out L1⟩
  have hsm : MSmall ms := by rcases hr with h | h; exact absurd h hneg; exact h
  have c1' := (HI.out.below L1).c1
  have HC := hidP (HS2.out w1 L1 r (by omega) hr1)
  have HL1 := hidP (chain HB.out L1)
  clear hr L1 hW
  go_wp2_with fail
  refine HC.out.mono ?_
  rintro e w2 ⟨r2, rfl, hr2, hw2⟩
  subst hw2
  by_cases hneg2 : r2 < 0
  · go_wp2_with fail
    go_ret
    exact ⟨-1, rfl, Or.inl (by omega), HL1.out⟩
  have hcs : CSmall ls := by rcases hr2 with h | h; exact absurd h hneg2; exact h
  go_wp2_with fail
  go_ret
  exact ⟨r2, rfl, Or.inr ⟨hsm, hcs⟩, HL1.out⟩

set_option maxRecDepth 100000 in
set_option maxHeartbeats 1000000 in
theorem eqW (a1 a2 b1 b2 : Option Addr) (c1 c2 d1 d2 : Nat) (ms : List Mk) (ls : List (List Int)) (w : World) (h1 : MView w a1 ms) (h2 : CView w a2 ls) (h3 : MView w b1 ms) (h4 : CView w b2 ls) (hsm : MSmall ms) (hcs : CSmall ls) :
    Calls Tryz.prog 205 #[.agg #[.slice a1 ms.length c1, .slice a2 ls.length c2], .agg #[.slice b1 ms.length d1, .slice b2 ls.length d2]] w fun e w' => e = .returned (.bool true) ∧ Below w.heap.size w w' := by
  obtain ⟨W, hW⟩ : ∃ W, (w.alloc (.cells #[.slice a1 ms.length c1, .slice a2 ls.length c2] 27)).alloc (.cells #[.slice b1 ms.length d1, .slice b2 ls.length d2] 27) = W := ⟨_, rfl⟩
  have hB : Below w.heap.size w W := by rw [← hW]; exact ((Below.refl w.heap.size w).alloc (Nat.le_refl _) _).alloc (by simp) _
  have hsz : W.heap.size = w.heap.size + 2 := by rw [← hW]; simp
  have k1 : W.cell? ⟨w.heap.size, 0, none⟩ = some (.slice a1 ms.length c1) := by rw [← hW]; simp
  have k3 : W.cell? ⟨w.heap.size + 1, 0, none⟩ = some (.slice b1 ms.length d1) := by rw [← hW]; simp
  have k2 : W.cell? ⟨w.heap.size, 1, none⟩ = some (.slice a2 ls.length c2) := by rw [← hW]; simp
  have k4 : W.cell? ⟨w.heap.size + 1, 1, none⟩ = some (.slice b2 ls.length d2) := by rw [← hW]; simp
  have HS := hidP (eqMS a1 b1 c1 d1 ms ms W (h1.next hB) (h3.next hB) hsm)
  rw [show decide (ms = ms) = true by simp] at HS
  have HS2 := hidP (fun (W' : World) (L : Below W.heap.size W W') => eqCS a2 b2 c2 d2 ls W' (h2.next (chain hB L)) (h4.next (chain hB L)) hcs)
  have HB := hidP hB
  clear hB h1 h2 h3 h4
  go_enter Tryz.func205, Tryz.ntmps205
  go_wp2_with fail
  refine HS.out.mono ?_
  rintro e w2 ⟨rfl, L2⟩
  have q2 := (L2.cell (p := ⟨w.heap.size, 1, none⟩) (by show w.heap.size < _; omega)).trans k2
  have q4 := (L2.cell (p := ⟨w.heap.size + 1, 1, none⟩) (by show w.heap.size + 1 < _; omega)).trans k4
  have HC := hidP (HS2.out w2 L2)
  have HL2 := hidP (chain HB.out L2)
  clear hW k1 k2 k3 k4 L2
  go_wp2_with fail
  refine HC.out.mono ?_
  rintro e w3 ⟨rfl, n3, rfl⟩
  go_wp2_with fail
  go_ret
  exact ⟨rfl, below_drewN HL2.out n3⟩

set_option maxHeartbeats 1000000 in
theorem markCS14 (b hi cap : Nat) (k0 : Int) (ls : List (List Int)) (w : World) (hm : COver w b hi ls) (hsm : CSmall ls) (h0 : 1 ≤ k0) (h1 : k0 ≤ 2305843009213693952) :
    Calls Tryz.prog 206 #[.slice (some ⟨b, 0, none⟩) ls.length cap, .int .i64 k0] w fun e w' => (∃ k1 : Int, 1 ≤ k1 ∧ k1 ≤ 2305844108725321728 ∧ e = .returned (.int .i64 k1)) ∧ GIn b hi w w' := by
  obtain ⟨hn, hat⟩ := hsm
  go_enter Tryz.func206, Tryz.ntmps206
  go_wp2
  go_loopw [1, 5] (fun kk i wr => ∃ (k : Nat) (k1 : Int), k ≤ ls.length ∧ i = .int .i64 k ∧ kk = .int .i64 k1 ∧ 1 ≤ k1 ∧ k1 ≤ 2305843009213693952 + 1048576 * (k : Int) ∧ COver wr b hi ls ∧ GIn b hi w wr) (fun _ i _ => ls.length - (intOf i).toNat)
  case atStart => exact ⟨0, k0, Nat.zero_le _, rfl, rfl, h0, by omega, hm, GIn.refl _ _ _⟩
  case round =>
    obtain ⟨k, k1, hk, rfl, rfl, hk0, hk1, ho, hg⟩ := hrel
    by_cases hlt : k < ls.length
    · obtain ⟨g, xs, hbg, hgh, c1, hl, hown⟩ := ho.2.2 k hlt
      have HG := hidP hg
      have HO := hidP ho
      have HM := hidP (mark_big g k1 xs _ hown (by rw [hl]; exact hat k) (by omega) (by omega))
      have HL := hidP hl
      have HOW := hidP hown
      rw [hl] at HM
      have hatk := hat k
      clear ho hg hown hl
      go_wp2_with fail
      refine HM.out.mono ?_
      rintro e w1 ⟨rfl, ho1, hg1⟩
      have HO2 := hidP (HO.out.marked hbg HOW.out hg1 ho1 (by rw [tabL_length]; exact HL.out.symm))
      have HG2 := hidP (HG.out.grown hg1 (by omega) hgh)
      clear ho1 hg1 HO HG HM HOW
      go_wp2_with fail
      go_roundw
      case rel => exact ⟨k + 1, k1 + ((cn ls k).length : Int), by omega, by go_num, rfl, by omega, by omega, HO2.out, HG2.out⟩
      case measure => simp [intOf]; omega
    · go_wp2
      go_ret
      exact ⟨⟨k1, hk0, by omega, rfl⟩, hg⟩

theorem cell_set_far {w : World} {q i : Nat} {v : Value} {a : Addr} (h : a.block ≠ q) : (w.setCell ⟨q, i, none⟩ v).cell? a = w.cell? a := World.cell?_of_block (Below.heap_setCell w ⟨q, i, none⟩ v a.block h)
theorem two_cells {w : World} {q : Nat} {u v : Value} {t : TypeId} (h : w.heap[q]? = some (.cells #[u, v] t)) : w.cell? ⟨q, 0, none⟩ = some u ∧ w.cell? ⟨q, 1, none⟩ = some v ∧ (∀ j, w.frozen? ⟨q, j, none⟩ = false) ∧ q < w.heap.size := by
  refine ⟨by simp [World.cell?, h], by simp [World.cell?, h], fun j => by simp [World.frozen?, h], ?_⟩
  rcases Nat.lt_or_ge q w.heap.size with e | e
  · exact e
  · rw [Array.getElem?_eq_none e] at h; cases h
theorem two_set {w : World} {q : Nat} {u v x : Value} {t : TypeId} (h : w.heap[q]? = some (.cells #[u, v] t)) : (w.setCell ⟨q, 0, none⟩ x).heap[q]? = some (.cells #[x, v] t) ∧ (w.setCell ⟨q, 1, none⟩ x).heap[q]? = some (.cells #[u, x] t) := by
  constructor <;> simp [World.setCell, Array.getElem?_modify, h]

set_option maxRecDepth 100000 in
set_option maxHeartbeats 2000000 in
theorem toW (a1 a2 : Option Addr) (c1 c2 : Nat) (ms : List Mk) (ls : List (List Int)) (w : World) (h1 : MView w a1 ms) (h2 : CView w a2 ls) (hsm : MSmall ms) (hcs : CSmall ls) :
    Calls Tryz.prog 204 #[.agg #[.slice a1 ms.length c1, .slice a2 ls.length c2]] w fun e w' => ∃ bm bl, e = .returned (.agg #[.slice (some ⟨bm, 0, none⟩) ms.length ms.length, .slice (some ⟨bl, 0, none⟩) ls.length ls.length]) ∧ WebOwn w.heap.size w'.heap.size w' bm bl ms ls ∧ Below w.heap.size w w' := by
  obtain ⟨W1, hW1⟩ : ∃ W, w.alloc (.cells #[.slice a1 ms.length c1, .slice a2 ls.length c2] 214) = W := ⟨_, rfl⟩
  obtain ⟨W2, hW2⟩ : ∃ W, W1.alloc (.cells #[.slice none 0 0, .slice none 0 0] 27) = W := ⟨_, rfl⟩
  obtain ⟨W, hW⟩ : ∃ W, W2.alloc (.cells #[.slice none 0 0, .slice none 0 0] 27) = W := ⟨_, rfl⟩
  have s1 : W1.heap.size = w.heap.size + 1 := by rw [← hW1]; simp
  have s2 : W2.heap.size = w.heap.size + 1 + 1 := by rw [← hW2]; simp [s1]
  have hsz : W.heap.size = w.heap.size + 1 + 1 + 1 := by rw [← hW]; simp [s2]
  have b1 : Below w.heap.size w W1 := by rw [← hW1]; exact (Below.refl _ _).alloc (Nat.le_refl _) _
  have b2 : Below W1.heap.size W1 W2 := by rw [← hW2]; exact (Below.refl _ _).alloc (Nat.le_refl _) _
  have b3 : Below W2.heap.size W2 W := by rw [← hW]; exact (Below.refl _ _).alloc (Nat.le_refl _) _
  have hB : Below w.heap.size w W := chain (chain b1 b2) b3
  have t0 : W.heap[w.heap.size]? = some (.cells #[.slice a1 ms.length c1, .slice a2 ls.length c2] 214) := (b3.block _ (by omega)).trans ((b2.block _ (by omega)).trans (by rw [← hW1]; exact heap_alloc_new w _))
  have t1 : W.heap[w.heap.size + 1]? = some (.cells #[.slice none 0 0, .slice none 0 0] 27) := (b3.block _ (by omega)).trans (by rw [← hW2, ← s1]; exact heap_alloc_new W1 _)
  have t2 : W.heap[w.heap.size + 1 + 1]? = some (.cells #[.slice none 0 0, .slice none 0 0] 27) := by rw [← hW, ← s2]; exact heap_alloc_new W2 _
  obtain ⟨z0, z1, -, -⟩ := two_cells t0
  have HS := hidP (toMS a1 c1 ms W (h1.next hB) hsm)
  have HV := hidP h2
  have HB := hidP hB
  have HT := hidP (And.intro t0 (And.intro t1 t2))
  clear hB h1 h2 b1 b2 b3 t0 t1 t2
  go_enter Tryz.func204, Tryz.ntmps204
  go_wp2_with fail
  refine HS.out.mono ?_
  rintro e w2 ⟨bm, rfl, p1, hb1, L1⟩
  obtain ⟨t0, t1, t2⟩ := HT.out
  have u0 := (L1.block _ (by omega)).trans t0
  have u1 := (L1.block _ (by omega)).trans t1
  have u2 := (L1.block _ (by omega)).trans t2
  obtain ⟨e2, e2', f2, -⟩ := two_cells u2
  have f20 := f2 0
  obtain ⟨w3, hw3⟩ : ∃ w3, w2.setCell ⟨w.heap.size + 1 + 1, 0, none⟩ (.slice (some ⟨bm, 0, none⟩) ms.length ms.length) = w3 := ⟨_, rfl⟩
  have far3 : ∀ i, i ≠ w.heap.size + 1 + 1 → w3.heap[i]? = w2.heap[i]? := fun i hi => by rw [← hw3]; exact Below.heap_setCell w2 ⟨w.heap.size + 1 + 1, 0, none⟩ _ i (fun e => hi e)
  have z3 : w3.heap.size = w2.heap.size := by rw [← hw3]; simp [World.setCell]
  have v0 := (far3 w.heap.size (by omega)).trans u0
  have v1 := (far3 (w.heap.size + 1) (by omega)).trans u1
  have v2 : w3.heap[w.heap.size + 1 + 1]? = some (.cells #[.slice (some ⟨bm, 0, none⟩) ms.length ms.length, .slice none 0 0] 27) := by rw [← hw3]; exact (two_set u2).1
  have p3 : MPart w3 bm ms.length ms.length ms := p1.far (by omega) (fun i h1 _ => far3 i (by omega))
  have L3 : Below w.heap.size w w3 := by rw [← hw3]; exact (chain HB.out L1).setCell (by show w.heap.size ≤ w.heap.size + 1 + 1; omega) _
  have c3 := (two_cells v0).2.1
  have hz1 := L1.size
  have HS2 := hidP (toCS a2 c2 ls w3 (HV.out.next L3) hcs)
  have H3 := hidP (And.intro v1 (And.intro v2 (And.intro p3 L3)))
  have HB1 : Hid (w.heap.size + 1 + 1 + 1 ≤ bm) := by show _ ≤ bm; omega
  clear HT t0 t1 t2 u0 u1 u2 v0 v1 v2 p1 p3 L1 L3 far3 hb1 f2 HS hW1 hW2 hW z0 z1 e2'
  go_wp2_with fail
  refine HS2.out.mono ?_
  rintro e w4 ⟨bl, rfl, o2, hb2, L4⟩
  obtain ⟨v1, v2, p3, L3⟩ := H3.out
  have hbm := p3.1
  have x1 := (L4.block _ (by omega)).trans v1
  have x2 := (L4.block _ (by omega)).trans v2
  have hz4 := L4.size
  obtain ⟨g1, g1', k1, -⟩ := two_cells x1
  obtain ⟨g2, g2', k2, -⟩ := two_cells x2
  have k11 := k1 0
  have k12 := k1 1
  have k21 := k2 1
  have p4 : MPart w4 bm ms.length ms.length ms := p3.far hz4 (fun i _ h => L4.block i h)
  have mo4 : MOver w4 bm bl ms := by
    obtain ⟨m1, m2, m3, m4⟩ := p3.over
    have m5 : MOver w3 bm bl ms := ⟨m1, by omega, m3, fun j hj => by
      obtain ⟨hv, g, xs, q1, q2, q3⟩ := m4 j hj
      exact ⟨hv, g, xs, q1, by omega, q3⟩⟩
    exact m5.far hz4 (fun i _ _ h => L4.block i h)
  have HF := hidP (And.intro p4.view (And.intro mo4 (And.intro o2 (chain L3 L4))))
  have HB2 : Hid (bl < w4.heap.size ∧ bm < bl) := ⟨o2.1, by omega⟩
  clear v1 v2 p3 L3 x1 x2 k1 k2 p4 mo4 o2 L4 H3 HS2
  go_wp2_with fail
  refine bodyPost_ret (v := .agg #[.slice (some ⟨bm, 0, none⟩) ms.length ms.length, .slice (some ⟨bl, 0, none⟩) ls.length ls.length]) (by simp [results, Tryz.results204, go_sem, g1, g1']) rfl ?_
  obtain ⟨w5, hw5⟩ : ∃ w5, ((w4.setCell ⟨w.heap.size + 1 + 1, 1, none⟩ (.slice (some ⟨bl, 0, none⟩) ls.length ls.length)).setCell ⟨w.heap.size + 1, 0, none⟩ (.slice (some ⟨bm, 0, none⟩) ms.length ms.length)).setCell ⟨w.heap.size + 1, 1, none⟩ (.slice (some ⟨bl, 0, none⟩) ls.length ls.length) = w5 := ⟨_, rfl⟩
  obtain ⟨q1, q2, q3, q4⟩ := HF.out
  have hb1 := HB1.out
  have hb2' := HB2.out
  have far5 : ∀ i, bm ≤ i → w5.heap[i]? = w4.heap[i]? := fun i hi => by
    rw [← hw5, Below.heap_setCell _ ⟨w.heap.size + 1, 1, none⟩ _ i (fun e => by have : i = w.heap.size + 1 := e; omega), Below.heap_setCell _ ⟨w.heap.size + 1, 0, none⟩ _ i (fun e => by have : i = w.heap.size + 1 := e; omega), Below.heap_setCell _ ⟨w.heap.size + 1 + 1, 1, none⟩ _ i (fun e => by have : i = w.heap.size + 1 + 1 := e; omega)]
  have z5 : w5.heap.size = w4.heap.size := by rw [← hw5]; simp [World.setCell]
  have L5 : Below w.heap.size w w5 := by rw [← hw5]; exact ((q4.setCell (by show w.heap.size ≤ w.heap.size + 1 + 1; omega) _).setCell (by show w.heap.size ≤ w.heap.size + 1; omega) _).setCell (by show w.heap.size ≤ w.heap.size + 1; omega) _
  have c5 : CPart w5 bl ls.length ls.length ls := q3.far (by omega) (fun i h1 _ => far5 i (by omega))
  rw [hw5]
  refine ⟨bm, bl, rfl, ⟨by omega, ?_, c5.view, q2.far (by omega) (fun i h1 _ _ => far5 i h1), c5.over, hb2'.2, Nat.le_refl _⟩, L5⟩
  rcases q1 with h | ⟨b, off, e, hb, hs⟩
  · exact Or.inl h
  · injection e with e
    injection e with e1 e2
    subst e1 e2
    refine Or.inr ⟨bm, 0, rfl, by omega, fun i hi => ?_⟩
    obtain ⟨c0, ao, cap, c1, hv⟩ := hs i hi
    obtain ⟨-, -, -, m4⟩ := q2
    obtain ⟨-, g, xs, hg1, hg2, cg, -, -⟩ := m4 i hi
    have eb := far5 bm (Nat.le_refl _)
    refine ⟨(World.cell?_of_block eb).trans c0, ao, cap, (World.cell?_of_block eb).trans c1, ?_⟩
    rw [show (0 : Nat) + i * 2 + 1 = i * 2 + 1 by omega, cg] at c1
    injection c1 with c1
    injection c1 with c1 c2' c3'
    rcases hv with h | ⟨b', off', e', hb', hs'⟩
    · exact Or.inl h
    · refine Or.inr ⟨b', off', e', by omega, fun k hk => ?_⟩
      have hbg : b' = g := by
        rw [e'] at c1
        injection c1 with c1
        injection c1 with c1
        exact c1.symm
      exact (World.cell?_of_block (far5 b' (by omega))).trans (hs' k hk)

end Go.Proofs.YtfbhohpbhjlihaaGreat
namespace Go.Proofs.YtfbhohpbhjlihaaGreat
open Go Go.RowKit

def totM : List Mk → Nat
  | [] => 0
  | m :: l => 1 + m.2.length + totM l
/-- The marks behind markMarkS: each number the next. -/
def mkM : Int → List Mk → List Mk
  | _, [] => []
  | k, m :: l => (k, tabL (fun i => k + 1 + i) m.2.length) :: mkM (k + 1 + m.2.length) l
theorem mkM_length (k : Int) (ms : List Mk) : (mkM k ms).length = ms.length := by
  induction ms generalizing k with
  | nil => rfl
  | cons m l ih => simp [mkM, ih]
theorem mkM_at (k : Int) (ms : List Mk) (j : Nat) (h : j < ms.length) : mnth (mkM k ms) j = (k + totM (ms.take j), tabL (fun i => k + totM (ms.take j) + 1 + i) (mnth ms j).2.length) := by
  induction ms generalizing k j with
  | nil => simp at h
  | cons m l ih =>
    cases j with
    | zero => simp [mkM, mnth, totM]
    | succ j =>
      have h' : j < l.length := by simpa using h
      have e := ih (k + 1 + m.2.length) j h'
      show mnth (mkM (k + 1 + m.2.length) l) j = _
      rw [e]
      have e2 : k + 1 + (m.2.length : Int) + (totM (l.take j) : Int) = k + (totM ((m :: l).take (j + 1)) : Int) := by
        simp only [List.take_succ_cons, totM]; omega
      rw [e2]
      rfl
theorem totM_take (ms : List Mk) (j : Nat) (h : j < ms.length) : totM (ms.take (j + 1)) = totM (ms.take j) + 1 + (mnth ms j).2.length := by
  induction ms generalizing j with
  | nil => simp at h
  | cons m l ih =>
    cases j with
    | zero => simp [totM, mnth]
    | succ j =>
      have h' : j < l.length := by simpa using h
      have e := ih j h'
      simp only [List.take_succ_cons, totM]
      rw [e]
      show _ = _ + (mnth l j).2.length
      omega
theorem totM_le (ms : List Mk) (n m : Nat) (h1 : ms.length ≤ n) (h : ∀ x ∈ ms, x.2.length ≤ m) : totM ms ≤ n * (m + 1) := by
  induction ms generalizing n with
  | nil => simp [totM]
  | cons a l ih =>
    cases n with
    | zero => simp at h1
    | succ n =>
      have e := ih n (by simpa using h1) (fun x hx => h x (List.mem_cons_of_mem _ hx))
      have e2 := h a (List.mem_cons_self)
      simp only [totM]
      have e3 : (n + 1) * (m + 1) = n * (m + 1) + (m + 1) := Nat.succ_mul n (m + 1)
      omega

set_option maxHeartbeats 1000000 in
theorem heldMS (ao : Option Addr) (cap : Nat) (ms : List Mk) (k0 : Int) (w : World) (hv : MView w ao (mkM k0 ms)) (hn : ms.length ≤ 60) (hat : ∀ x ∈ ms, x.2.length ≤ 4) (h0 : 1 ≤ k0) (h1 : k0 ≤ 1000000) :
    Calls Tryz.prog 151 #[.slice ao ms.length cap, .int .i64 k0] w fun e w' => e = .returned (.int .i64 (k0 + totM ms)) ∧ w' = w := by
  have HM := hidP hv
  have HAT := hidP hat
  clear hv hat
  go_enter Tryz.func151, Tryz.ntmps151
  go_wp2_with fail
  go_loop [1, 5] (fun kk i => ∃ j : Nat, j ≤ ms.length ∧ i = .int .i64 j ∧ kk = .int .i64 (k0 + totM (ms.take j))) (fun _ i => ms.length - (intOf i).toNat)
  case atStart => exact ⟨0, Nat.zero_le _, rfl, by simp [totM]⟩
  case round =>
    obtain ⟨j, hj, rfl, rfl⟩ := hrel
    by_cases hlt : j < ms.length
    · obtain ⟨b, off, rfl, hb, hs⟩ := mview_seg HM.out (by rw [mkM_length]; omega)
      have hm := hs j (by rw [mkM_length]; exact hlt)
      rw [mkM_at k0 ms j hlt] at hm
      obtain ⟨c0, a, c, c1, va⟩ := hm
      simp only [tabL_length] at c1
      have hl4 : (mnth ms j).2.length ≤ 4 := by
        have : mnth ms j = ms[j] := by simp [mnth, List.getD, hlt]
        rw [this]; exact HAT.out _ (List.getElem_mem hlt)
      have ht1 := totM_le (ms.take j) 60 4 (by simp; omega) (fun x hx => HAT.out x (List.mem_of_mem_take hx))
      have HTK := hidP (totM_take ms j hlt)
      have HH := hidP (heldI a c (mnth ms j).2.length (k0 + totM (ms.take j) + 1) w va (by omega) (by omega) (by omega))
      have hi0 : (0 : Int) ≤ (j : Int) := Int.natCast_nonneg _
      have hi1 : (j : Int) < (ms.length : Int) := by omega
      clear va hs
      generalize (mnth ms j).2.length = m at *
      have hneg : ¬ (k0 + (totM (ms.take j) : Int) + 1 + (m : Int) < 0) := by omega
      generalize hT : totM (ms.take j) = T at *
      have hne : ((k0 + (T : Int)) != (k0 + (T : Int))) = false := by simp
      have HT := hidP hT
      clear hT
      go_wp2_with fail
      refine HH.out.mono ?_
      rintro e w2 ⟨rfl, rfl⟩
      go_wp2_with fail
      go_round
      case rel => exact ⟨j + 1, by omega, by go_num, by rw [HTK.out]; congr 1; omega⟩
      case measure => simp [intOf]; omega
    · obtain rfl : j = ms.length := by omega
      go_wp2_with fail
      go_ret
      exact ⟨rfl, rfl⟩

set_option maxHeartbeats 1000000 in
theorem markM14 (b : Nat) (id k0 : Int) (xs : List Int) (w : World) (ho : Own w b xs) (hn : xs.length ≤ 1048576) (h0 : 1 ≤ k0) (h1 : k0 ≤ 4611686018427387904) :
    Calls Tryz.prog 65 #[.agg #[.int .i64 id, .slice (some ⟨b, 0, none⟩) xs.length xs.length], .int .i64 k0] w fun e w' => e = .returned (.int .i64 (k0 + xs.length)) ∧ w.grownBy w' (some b) := by
  obtain ⟨W, hW⟩ : ∃ W, w.alloc (.cells #[.int .i64 id, .slice (some ⟨b, 0, none⟩) xs.length xs.length] 30) = W := ⟨_, rfl⟩
  have ga : w.grownBy W (some b) := by rw [← hW]; exact World.grownBy_alloc w _ (some b)
  have L : Below w.heap.size w W := by rw [← hW]; exact (Below.refl _ _).alloc (Nat.le_refl _) _
  have k1c : W.cell? ⟨w.heap.size, 1, none⟩ = some (.slice (some ⟨b, 0, none⟩) xs.length xs.length) := by rw [← hW]; simp
  have HM := hidP (mark_big b k0 xs W ((L.block b ho.lt).trans ho) hn h0 h1)
  have HG := hidP ga
  clear ga L ho
  go_enter Tryz.func65, Tryz.ntmps65
  go_wp2_with fail
  refine HM.out.mono ?_
  rintro e w2 ⟨rfl, -, g2⟩
  have HG2 := hidP (grown_trans HG.out g2)
  clear g2
  go_wp2_with fail
  go_ret
  exact ⟨rfl, HG2.out⟩

end Go.Proofs.YtfbhohpbhjlihaaGreat
namespace Go.Proofs.YtfbhohpbhjlihaaGreat
open Go Go.RowKit

theorem dCells_set (ds : List Dm) (j : Nat) (h : j < ds.length) (id : Int) (xs : List Int) (hl : xs.length = (mdnth ds j).2.2.2.length) :
    dCells (ds.set j (id, (mdnth ds j).2.1, (mdnth ds j).2.2.1, xs)) = (dCells ds).set (j * 2) (.int .i64 id) := by
  induction ds generalizing j with
  | nil => simp at h
  | cons d ds ih =>
    cases j with
    | zero =>
      have e : mdnth (d :: ds) 0 = d := rfl
      rw [e] at hl ⊢
      simp [dCells, hl]
    | succ j =>
      have h' : j < ds.length := by simpa using h
      have e := ih j h' hl
      rw [show (j + 1) * 2 = j * 2 + 1 + 1 by omega]
      show dCells (d :: ds.set j _) = _
      simp only [dCells, List.set_cons_succ]
      first
        | (rw [← e]; rfl)
        | (simp only [List.cons_append, List.nil_append, List.set_cons_succ]; rw [← e]; rfl)

theorem mdnth_set (ds : List Dm) (j : Nat) (h : j < ds.length) (d : Dm) (i : Nat) : mdnth (ds.set j d) i = if i = j then d else mdnth ds i := by
  by_cases e : i = j
  · subst e; simp [mdnth, List.getD, h]
  · simp [mdnth, List.getD, e, List.getElem?_set_ne (fun e' => e e'.symm)]

/-- Marks in a block of the call's own, each place in one of its own. -/
structure MOwn (base : Nat) (w : World) (g c : Nat) (ds : List Dm) : Prop where
  row : w.ownsRow base 30 2 (.slice (some ⟨g, 0, none⟩) ds.length c) ds.length (dCells ds)
  rows : ∀ i, i < ds.length → IRow base w (mdnth ds i).2.1 (mdnth ds i).2.2.1 (mdnth ds i).2.2.2
  off : ∀ i, i < ds.length → (mdnth ds i).2.1 ≠ g
  apart : ∀ i j, i < ds.length → j < ds.length → i ≠ j → (mdnth ds i).2.1 ≠ (mdnth ds j).2.1
theorem MOwn.lt {base : Nat} {w : World} {g c : Nat} {ds : List Dm} (h : MOwn base w g c ds) : base ≤ g ∧ g < w.heap.size := World.ownsRow.lt h.row g rfl
theorem MOwn.cells {base : Nat} {w : World} {g c : Nat} {ds : List Dm} (h : MOwn base w g c ds) (i : Nat) (hi : i < ds.length) :
    w.cell? ⟨g, i * 2, none⟩ = some (.int .i64 (mdnth ds i).1) ∧ w.cell? ⟨g, i * 2 + 1, none⟩ = some (.slice (some ⟨(mdnth ds i).2.1, 0, none⟩) (mdnth ds i).2.2.2.length (mdnth ds i).2.2.1) := by
  have := dCells_at ds i hi
  rw [World.ownsRow.cellAt h.row _ (by omega), World.ownsRow.cellAt h.row _ (by omega)]
  exact this
theorem MOwn.view {base : Nat} {w : World} {g c : Nat} {ds : List Dm} (h : MOwn base w g c ds) : MView w (some ⟨g, 0, none⟩) (dMarks ds) :=
  Or.inr ⟨g, 0, rfl, h.lt.2, fun i hi => by
    rw [dMarks_length] at hi
    rw [Nat.zero_add, dMarks_at ds i hi]
    exact ⟨(h.cells i hi).1, _, _, (h.cells i hi).2, (h.rows i hi).view⟩⟩
/-- A mark's number is stored, and its place written over. -/
theorem MOwn.over {base : Nat} {w w2 : World} {g c : Nat} {ds : List Dm} (h : MOwn base w g c ds) (j : Nat) (hj : j < ds.length) (id : Int) (xs : List Int) (hl : xs.length = (mdnth ds j).2.2.2.length)
    (hg : (w.setCell ⟨g, j * 2, none⟩ (.int .i64 id)).grownBy w2 (some (mdnth ds j).2.1)) (hr : IRow base w2 (mdnth ds j).2.1 (mdnth ds j).2.2.1 xs) : MOwn base w2 g c (ds.set j (id, (mdnth ds j).2.1, (mdnth ds j).2.2.1, xs)) := by
  have hoj := h.off j hj
  have r1 := (World.ownsRow.stored h.row (j * 2) (.int .i64 id)).1
  have hne : ∀ i, i < ds.length → i ≠ j → (w2.heap[(mdnth ds i).2.1]? = w.heap[(mdnth ds i).2.1]?) := fun i hi e => by
    have h1 := (h.rows i hi).lt
    refine (hg.block _ (by rw [setCell_size]; exact h1.2) (fun e' => ?_)).trans (Below.heap_setCell w ⟨g, j * 2, none⟩ _ _ (fun e' => h.off i hi e'))
    injection e' with e'
    exact h.apart i j hi hj e e'
  refine ⟨?_, fun i hi => ?_, fun i hi => ?_, fun i k hi hk e => ?_⟩
  · rw [List.length_set, dCells_set ds j hj id xs hl]
    exact World.ownsRow.kept r1 hg (Or.inr (by simp [Value.ownBlock]; exact fun e => hoj e.symm))
  · rw [List.length_set] at hi
    rw [mdnth_set ds j hj]
    by_cases e : i = j
    · rw [if_pos e]; exact hr
    · rw [if_neg e]; exact (h.rows i hi).same (hne i hi e)
  · rw [List.length_set] at hi
    rw [mdnth_set ds j hj]
    by_cases e : i = j
    · rw [if_pos e]; exact hoj
    · rw [if_neg e]; exact h.off i hi
  · rw [List.length_set] at hi hk
    rw [mdnth_set ds j hj, mdnth_set ds j hj]
    by_cases e1 : i = j
    · rw [if_pos e1, if_neg (by omega)]; exact h.apart j k hj hk (by omega)
    · rw [if_neg e1]
      by_cases e2 : k = j
      · rw [if_pos e2]; exact h.apart i j hi hj e1
      · rw [if_neg e2]; exact h.apart i k hi hk e

/-- Only the marks' own blocks have changed. -/
structure ChgM (g : Nat) (ds : List Dm) (w w' : World) : Prop where
  os : w'.os = w.os
  tape : w'.tape = w.tape
  output : w'.output = w.output
  size : w.heap.size ≤ w'.heap.size
  block : ∀ b, b < w.heap.size → b ≠ g → (∀ i, i < ds.length → b ≠ (mdnth ds i).2.1) → w'.heap[b]? = w.heap[b]?
theorem ChgM.refl (g : Nat) (ds : List Dm) (w : World) : ChgM g ds w w := ⟨rfl, rfl, rfl, Nat.le_refl _, fun _ _ _ _ => rfl⟩
theorem ChgM.step {g : Nat} {ds : List Dm} {w w1 w2 : World} (h : ChgM g ds w w1) (k j : Nat) (v : Value) (hj : j < ds.length) (hg : (w1.setCell ⟨g, k, none⟩ v).grownBy w2 (some (mdnth ds j).2.1)) : ChgM g ds w w2 :=
  ⟨hg.os.trans h.os, hg.tape.trans h.tape, hg.output.trans h.output, Nat.le_trans h.size (by have := hg.size; rw [setCell_size] at this; exact this), fun b hb h1 h2 => by
    refine (hg.block b (by rw [setCell_size]; exact Nat.lt_of_lt_of_le hb h.size) (fun e => ?_)).trans ((Below.heap_setCell w1 ⟨g, k, none⟩ _ b (fun e => h1 e)).trans (h.block b hb h1 h2))
    injection e with e
    exact h2 j hj e⟩

/-- Between two rounds: the first j marks are written over. -/
structure MkTo (base g c : Nat) (ds : List Dm) (k0 : Int) (w wr : World) (j : Nat) (es : List Dm) : Prop where
  own : MOwn base wr g c es
  len : es.length = ds.length
  done : ∀ i, i < j → mnth (dMarks es) i = mnth (mkM k0 (dMarks ds)) i
  rest : ∀ i, j ≤ i → mdnth es i = mdnth ds i
  blk : ∀ i, i < ds.length → (mdnth es i).2.1 = (mdnth ds i).2.1
  chg : ChgM g ds w wr
theorem mnth_ext {a b : List Mk} (hl : a.length = b.length) (h : ∀ i, i < a.length → mnth a i = mnth b i) : a = b := by
  refine List.ext_getElem hl (fun i h1 h2 => ?_)
  have e := h i h1
  simpa [mnth, List.getD, h1, h2] using e

set_option maxHeartbeats 2000000 in
theorem markDM (base g c : Nat) (ds : List Dm) (k0 : Int) (w : World) (hm : MOwn base w g c ds) (hn : ds.length ≤ 60) (hat : ∀ x ∈ dMarks ds, x.2.length ≤ 4) (h0 : 1 ≤ k0) (h1 : k0 ≤ 1000000) :
    Calls Tryz.prog 150 #[.slice (some ⟨g, 0, none⟩) ds.length c, .int .i64 k0] w fun e w' => e = .returned (.int .i64 (k0 + totM (dMarks ds))) ∧ (∃ es, MOwn base w' g c es ∧ es.length = ds.length ∧ dMarks es = mkM k0 (dMarks ds) ∧ ∀ i, i < ds.length → (mdnth es i).2.1 = (mdnth ds i).2.1) ∧ ChgM g ds w w' := by
  have HAT := hidP hat
  have HM := hidP hm
  clear hat hm
  go_enter Tryz.func150, Tryz.ntmps150
  go_wp2_with fail
  go_loopw [1, 5] (fun kk i wr => ∃ (j : Nat) (es : List Dm), j ≤ ds.length ∧ i = .int .i64 j ∧ kk = .int .i64 (k0 + totM ((dMarks ds).take j)) ∧ MkTo base g c ds k0 w wr j es) (fun _ i _ => ds.length - (intOf i).toNat)
  case atStart => exact ⟨0, ds, Nat.zero_le _, rfl, by simp [totM], ⟨HM.out, rfl, fun i hi => absurd hi (by omega), fun i _ => rfl, fun i _ => rfl, ChgM.refl _ _ _⟩⟩
  case round =>
    obtain ⟨j, es, hj, rfl, rfl, I⟩ := hrel
    by_cases hlt : j < ds.length
    · have hje : j < es.length := by rw [I.len]; exact hlt
      have hjm : j < (dMarks ds).length := by rw [dMarks_length]; exact hlt
      obtain ⟨c0, c1⟩ := I.own.cells j hje
      have f0 : wr.frozen? ⟨g, j * 2, none⟩ = false := World.ownsRow.frozenAt I.own.row (j * 2)
      have hd := I.rest j (Nat.le_refl _)
      have hl4 : (mnth (dMarks ds) j).2.length ≤ 4 := by
        have : mnth (dMarks ds) j = (dMarks ds)[j] := by simp [mnth, List.getD, hjm]
        rw [this]; exact HAT.out _ (List.getElem_mem hjm)
      have ht1 := totM_le ((dMarks ds).take j) 60 4 (by rw [List.length_take, dMarks_length]; omega) (fun x hx => HAT.out x (List.mem_of_mem_take hx))
      have HTK := hidP (totM_take (dMarks ds) j hjm)
      have HAJ := hidP (mkM_at k0 (dMarks ds) j hjm)
      have HDM := hidP (dMarks_at ds j hlt)
      have HI := hidP I
      have hlen : (mdnth es j).2.2.2.length = (mnth (dMarks ds) j).2.length := by rw [hd, dMarks_at ds j hlt]
      rw [hlen] at c1
      have HLN := hidP hlen
      have HH : Hid (Calls Tryz.prog 73 #[.slice (some ⟨(mdnth es j).2.1, 0, none⟩) (mnth (dMarks ds) j).2.length (mdnth es j).2.2.1, .int .i64 (k0 + totM ((dMarks ds).take j) + 1)] (wr.setCell ⟨g, j * 2, none⟩ (.int .i64 (k0 + totM ((dMarks ds).take j)))) fun e w' => e = .returned (.int .i64 (k0 + totM ((dMarks ds).take j) + 1 + (mnth (dMarks ds) j).2.length)) ∧ IRow base w' (mdnth es j).2.1 (mdnth es j).2.2.1 (tabL (fun i => k0 + totM ((dMarks ds).take j) + 1 + i) (mnth (dMarks ds) j).2.length) ∧ (wr.setCell ⟨g, j * 2, none⟩ (.int .i64 (k0 + totM ((dMarks ds).take j)))).grownBy w' (some (mdnth es j).2.1)) := by
        have := markI base (mdnth es j).2.1 (mdnth es j).2.2.1 (k0 + totM ((dMarks ds).take j) + 1) (mdnth es j).2.2.2 (wr.setCell ⟨g, j * 2, none⟩ (.int .i64 (k0 + totM ((dMarks ds).take j)))) ((I.own.rows j hje).same (Below.heap_setCell wr ⟨g, j * 2, none⟩ _ _ (fun e => I.own.off j hje e))) (by omega) (by omega) (by omega)
        rw [hlen] at this
        exact this
      have hi0 : (0 : Int) ≤ (j : Int) := Int.natCast_nonneg _
      have hi1 : (j : Int) < (ds.length : Int) := by omega
      clear hd hlen I
      generalize hM : (mnth (dMarks ds) j).2.length = m at *
      generalize hT : totM ((dMarks ds).take j) = T at *
      generalize hG : (mdnth es j).2.1 = gb at *
      generalize hC : (mdnth es j).2.2.1 = cb at *
      have HE := hidP (And.intro hM (And.intro hT (And.intro hG hC)))
      clear hM hT hG hC
      go_wp2_with fail
      refine HH.out.mono ?_
      rintro e w2 ⟨rfl, hr, hg⟩
      have HR := hidP (And.intro hr hg)
      clear hr hg
      go_wp2_with fail
      go_roundw
      case rel =>
        obtain ⟨eM, eT, eG, eC⟩ := HE.out
        have I := HI.out
        have hr := HR.out.1
        have hg := HR.out.2
        rw [← eG] at hr hg
        rw [← eC] at hr
        have hxl : (tabL (fun i => k0 + (T : Int) + 1 + i) m).length = (mdnth es j).2.2.2.length := by rw [tabL_length, HLN.out]
        have hb := I.blk j hlt
        refine ⟨j + 1, es.set j (k0 + T, (mdnth es j).2.1, (mdnth es j).2.2.1, tabL (fun i => k0 + (T : Int) + 1 + i) m), by omega, by go_num, by rw [HTK.out]; congr 1; omega, ?_⟩
        refine ⟨I.own.over j hje _ _ hxl hg hr, by rw [List.length_set]; exact I.len, fun i hi => ?_, fun i hi => ?_, fun i hi => ?_, I.chg.step _ j _ hlt (by rw [← hb]; exact hg)⟩
        · rw [dMarks_at _ _ (by rw [List.length_set]; omega), mdnth_set es j hje]
          by_cases e : i = j
          · subst e
            rw [if_pos rfl, HAJ.out]
          · rw [if_neg e, ← dMarks_at _ _ (by omega)]
            exact I.done i (by omega)
        · rw [mdnth_set es j hje, if_neg (by omega)]
          exact I.rest i (by omega)
        · rw [mdnth_set es j hje]
          by_cases e : i = j
          · subst e; rw [if_pos rfl]; exact hb
          · rw [if_neg e]; exact I.blk i hi
      case measure => simp [intOf]; omega
    · obtain rfl : j = ds.length := by omega
      go_wp2_with fail
      go_ret
      refine ⟨ret_int (by rw [← dMarks_length, List.take_length]), ⟨es, I.own, I.len, mnth_ext (by rw [dMarks_length, mkM_length, dMarks_length]; exact I.len) (fun i hi => I.done i (by rw [dMarks_length, I.len] at hi; exact hi)), I.blk⟩, I.chg⟩

end Go.Proofs.YtfbhohpbhjlihaaGreat
namespace Go.Proofs.YtfbhohpbhjlihaaGreat
open Go Go.RowKit

abbrev Wb := List Mk × List (List Int)
def wnth (ts : List Wb) (i : Nat) : Wb := ts.getD i ([], [])
/-- One web in a row; s: its slices have room for what they hold. -/
def WbAt (s : Bool) (w : World) (b off : Nat) (t : Wb) : Prop := ∃ am cm al cl, w.cell? ⟨b, off, none⟩ = some (.slice am t.1.length cm) ∧ w.cell? ⟨b, off + 1, none⟩ = some (.slice al t.2.length cl) ∧ MView w am t.1 ∧ CView w al t.2 ∧ (s = true → t.1.length ≤ cm ∧ t.2.length ≤ cl)
def WbSeg (s : Bool) (w : World) (b off : Nat) (ts : List Wb) : Prop := ∀ i, i < ts.length → WbAt s w b (off + i * 2) (wnth ts i)
def WbView (s : Bool) (w : World) (ao : Option Addr) (ts : List Wb) : Prop := ts = [] ∨ ∃ b off, ao = some ⟨b, off, none⟩ ∧ b < w.heap.size ∧ WbSeg s w b off ts
def WbSmall (ts : List Wb) : Prop := ts.length ≤ 1048576 ∧ ∀ i, MSmall (wnth ts i).1 ∧ CSmall (wnth ts i).2
theorem WbAt.next {s : Bool} {w w' : World} {b off : Nat} {t : Wb} (h : WbAt s w b off t) (hb : b < w.heap.size) (L : Below w.heap.size w w') : WbAt s w' b off t := by
  obtain ⟨am, cm, al, cl, h1, h2, h3, h4, h5⟩ := h
  exact ⟨am, cm, al, cl, (L.cell (p := ⟨b, off, none⟩) hb).trans h1, (L.cell (p := ⟨b, off + 1, none⟩) hb).trans h2, h3.next L, h4.next L, h5⟩
theorem WbSeg.next {s : Bool} {w w' : World} {b off : Nat} {ts : List Wb} (h : WbSeg s w b off ts) (hb : b < w.heap.size) (L : Below w.heap.size w w') : WbSeg s w' b off ts := fun i hi => (h i hi).next hb L
theorem WbView.next {s : Bool} {w w' : World} {ao : Option Addr} {ts : List Wb} (h : WbView s w ao ts) (L : Below w.heap.size w w') : WbView s w' ao ts := by
  rcases h with h | ⟨b, off, e, hb, hs⟩
  · exact Or.inl h
  · exact Or.inr ⟨b, off, e, Nat.lt_of_lt_of_le hb L.size, hs.next hb L⟩
theorem WbView.seg {s : Bool} {w : World} {ao : Option Addr} {ts : List Wb} (h : WbView s w ao ts) (h0 : 0 < ts.length) : ∃ b off, ao = some ⟨b, off, none⟩ ∧ b < w.heap.size ∧ WbSeg s w b off ts := by
  rcases h with h | h
  · subst h; simp at h0
  · exact h
theorem wnth_eq {ts us : List Wb} (hl : ts.length = us.length) (h : ∀ i, i < ts.length → wnth ts i = wnth us i) : ts = us := by
  refine List.ext_getElem hl (fun i h1 h2 => ?_)
  have := h i h1
  simpa [wnth, List.getD, h1, h2] using this

/-- A sum. -/
def tot (f : Nat → Nat) : Nat → Nat
  | 0 => 0
  | k + 1 => tot f k + f k
def mtot (ms : List Mk) : Nat := ms.length + tot (fun j => (mat ms j).length) ms.length
def ctot (ls : List (List Int)) : Nat := ls.length + tot (fun j => (cn ls j).length) ls.length
def wtot (t : Wb) : Nat := mtot t.1 + ctot t.2
def ttot (ts : List Wb) : Nat := ts.length + tot (fun j => wtot (wnth ts j)) ts.length
theorem cutV_pos {left : Int} {n : Nat} (h : ¬ cutV left n < 0) : cutV left n = left - n := by
  unfold cutV at h ⊢
  split at h
  · exact absurd (show (-1 : Int) < 0 by decide) h
  · rename_i hc; rw [if_neg hc]

end Go.Proofs.YtfbhohpbhjlihaaGreat
namespace Go.Proofs.YtfbhohpbhjlihaaGreat
open Go Go.RowKit

theorem Tryz.info27 : (Tryz.prog.info? 27).map (fun i => (i.zero, i.size, i.bytes)) = some (some (.agg #[.slice none 0 0, .slice none 0 0]), 2, 48) := by kernel_rfl

theorem mview_far {w w' : World} {bm hi : Nat} {ms : List Mk} (q1 : MView w (some ⟨bm, 0, none⟩) ms) (q2 : MOver w bm hi ms) (hs : w.heap.size ≤ w'.heap.size) (far : ∀ i, bm ≤ i → i < w.heap.size → w'.heap[i]? = w.heap[i]?) : MView w' (some ⟨bm, 0, none⟩) ms := by
  rcases q1 with h | ⟨b, off, e, hb, hsg⟩
  · exact Or.inl h
  · injection e with e
    injection e with e1 e2
    subst e1 e2
    refine Or.inr ⟨bm, 0, rfl, by omega, fun i hi' => ?_⟩
    obtain ⟨c0, ao, cap, c1, hv⟩ := hsg i hi'
    obtain ⟨-, -, -, m4⟩ := q2
    obtain ⟨-, g, xs, hg1, hg2, cg, -, -⟩ := m4 i hi'
    have eb := far bm (Nat.le_refl _) hb
    refine ⟨(World.cell?_of_block eb).trans c0, ao, cap, (World.cell?_of_block eb).trans c1, ?_⟩
    rw [show (0 : Nat) + i * 2 + 1 = i * 2 + 1 by omega, cg] at c1
    injection c1 with c1
    injection c1 with c1 c2' c3'
    rcases hv with h | ⟨b', off', e', hb', hs'⟩
    · exact Or.inl h
    · refine Or.inr ⟨b', off', e', by omega, fun k hk => ?_⟩
      have hbg : b' = g := by
        rw [e'] at c1
        injection c1 with c1
        injection c1 with c1
        exact c1.symm
      exact (World.cell?_of_block (far b' (by omega) hb')).trans (hs' k hk)
theorem cview_far {w w' : World} {bm hi : Nat} {ls : List (List Int)} (q1 : CView w (some ⟨bm, 0, none⟩) ls) (q2 : COver w bm hi ls) (hs : w.heap.size ≤ w'.heap.size) (far : ∀ i, bm ≤ i → i < w.heap.size → w'.heap[i]? = w.heap[i]?) : CView w' (some ⟨bm, 0, none⟩) ls := by
  rcases q1 with h | ⟨b, off, e, hb, hsg⟩
  · exact Or.inl h
  · injection e with e
    injection e with e1 e2
    subst e1 e2
    refine Or.inr ⟨bm, 0, rfl, by omega, fun i hi' => ?_⟩
    obtain ⟨ao, cap, c1, hv⟩ := hsg i hi'
    obtain ⟨-, -, m4⟩ := q2
    obtain ⟨g, xs, hg1, hg2, cg, -, -⟩ := m4 i hi'
    have eb := far bm (Nat.le_refl _) hb
    refine ⟨ao, cap, (World.cell?_of_block eb).trans c1, ?_⟩
    rw [show (0 : Nat) + i = i by omega, cg] at c1
    injection c1 with c1
    injection c1 with c1 c2' c3'
    rcases hv with h | ⟨b', off', e', hb', hs'⟩
    · exact Or.inl h
    · refine Or.inr ⟨b', off', e', by omega, fun k hk => ?_⟩
      have hbg : b' = g := by
        rw [e'] at c1
        injection c1 with c1
        injection c1 with c1
        exact c1.symm
      exact (World.cell?_of_block (far b' (by omega) hb')).trans (hs' k hk)
theorem WebOwn.far {lo hi : Nat} {w w' : World} {bm bl : Nat} {ms : List Mk} {ls : List (List Int)} (h : WebOwn lo hi w bm bl ms ls) (hs : w.heap.size ≤ w'.heap.size) (far : ∀ i, lo ≤ i → i < hi → w'.heap[i]? = w.heap[i]?) : WebOwn lo hi w' bm bl ms ls := by
  have hlo := h.lo
  have hlt := h.lt
  have hbh : bl < hi := h.co.2.1
  have hh := h.hi
  refine ⟨hlo, ?_, ?_, h.mo.far hs (fun i h1 h2 _ => far i (by omega) (by omega)), h.co.far hs (fun i h1 h2 _ => far i (by omega) h2), hlt, by omega⟩
  · rcases h.mv with e | ⟨b, off, e, hb, hsg⟩
    · exact Or.inl e
    · injection e with e
      injection e with e1 e2
      subst e1 e2
      refine Or.inr ⟨bm, 0, rfl, by omega, fun i hi' => ?_⟩
      obtain ⟨c0, ao, cap, c1, hv⟩ := hsg i hi'
      obtain ⟨-, -, -, m4⟩ := h.mo
      obtain ⟨-, g, xs, hg1, hg2, cg, -, -⟩ := m4 i hi'
      have eb := far bm hlo (by omega)
      refine ⟨(World.cell?_of_block eb).trans c0, ao, cap, (World.cell?_of_block eb).trans c1, ?_⟩
      rw [show (0 : Nat) + i * 2 + 1 = i * 2 + 1 by omega, cg] at c1
      injection c1 with c1
      injection c1 with c1 c2' c3'
      rcases hv with e | ⟨b', off', e', hb', hs'⟩
      · exact Or.inl e
      · refine Or.inr ⟨b', off', e', by omega, fun k hk => ?_⟩
        have hbg : b' = g := by
          rw [e'] at c1
          injection c1 with c1
          injection c1 with c1
          exact c1.symm
        exact (World.cell?_of_block (far b' (by omega) (by omega))).trans (hs' k hk)
  · rcases h.cv with e | ⟨b, off, e, hb, hsg⟩
    · exact Or.inl e
    · injection e with e
      injection e with e1 e2
      subst e1 e2
      refine Or.inr ⟨bl, 0, rfl, by omega, fun i hi' => ?_⟩
      obtain ⟨ao, cap, c1, hv⟩ := hsg i hi'
      obtain ⟨-, -, m4⟩ := h.co
      obtain ⟨g, xs, hg1, hg2, cg, -, -⟩ := m4 i hi'
      have eb := far bl (by omega) hbh
      refine ⟨ao, cap, (World.cell?_of_block eb).trans c1, ?_⟩
      rw [show (0 : Nat) + i = i by omega, cg] at c1
      injection c1 with c1
      injection c1 with c1 c2' c3'
      rcases hv with e | ⟨b', off', e', hb', hs'⟩
      · exact Or.inl e
      · refine Or.inr ⟨b', off', e', by omega, fun k hk => ?_⟩
        have hbg : b' = g := by
          rw [e'] at c1
          injection c1 with c1
          injection c1 with c1
          exact c1.symm
        exact (World.cell?_of_block (far b' (by omega) (by omega))).trans (hs' k hk)

/-- A row of webs that a call fills: the first k are there, each in blocks of its own, one behind the other. -/
structure WbPart (w : World) (b k n : Nat) (ts : List Wb) (lo : Nat → Nat) : Prop where
  lt : b < w.heap.size
  first : b < lo 0
  last : lo k ≤ w.heap.size
  mono : ∀ i, i < k → lo i ≤ lo (i + 1)
  at_ : ∀ i, i < k → ∃ bm bl, w.cell? ⟨b, i * 2, none⟩ = some (.slice (some ⟨bm, 0, none⟩) (wnth ts i).1.length (wnth ts i).1.length) ∧ w.cell? ⟨b, i * 2 + 1, none⟩ = some (.slice (some ⟨bl, 0, none⟩) (wnth ts i).2.length (wnth ts i).2.length) ∧ WebOwn (lo i) (lo (i + 1)) w bm bl (wnth ts i).1 (wnth ts i).2
  room : ∀ j, j < n * 2 → ∃ v, w.cell? ⟨b, j, none⟩ = some v
  frozen : ∀ j, w.frozen? ⟨b, j, none⟩ = false
theorem WbPart.lo_le {w : World} {b k n : Nat} {ts : List Wb} {lo : Nat → Nat} (h : WbPart w b k n ts lo) (i : Nat) (hi : i ≤ k) : lo 0 ≤ lo i := by
  induction i with
  | zero => exact Nat.le_refl _
  | succ i ih => exact Nat.le_trans (ih (by omega)) (h.mono i (by omega))
theorem WbPart.le_last {w : World} {b k n : Nat} {ts : List Wb} {lo : Nat → Nat} (h : WbPart w b k n ts lo) (i : Nat) (hi : i ≤ k) : lo i ≤ lo k := by
  obtain ⟨d, rfl⟩ : ∃ d, k = i + d := ⟨k - i, by omega⟩
  clear hi
  have : ∀ m, m ≤ d → lo i ≤ lo (i + m) := by
    intro m
    induction m with
    | zero => intro _; exact Nat.le_refl _
    | succ m ih => intro hm; exact Nat.le_trans (ih (by omega)) (h.mono (i + m) (by omega))
  exact this d (Nat.le_refl _)
theorem WbPart.next {w w' : World} {b k n : Nat} {ts : List Wb} {lo : Nat → Nat} (h : WbPart w b k n ts lo) (L : Below w.heap.size w w') : WbPart w' b k n ts lo := by
  refine ⟨Nat.lt_of_lt_of_le h.lt L.size, h.first, Nat.le_trans h.last L.size, h.mono, fun i hi => ?_, fun j hj => ?_, fun j => (L.frozen (p := ⟨b, j, none⟩) h.lt).trans (h.frozen j)⟩
  · obtain ⟨bm, bl, c0, c1, ho⟩ := h.at_ i hi
    exact ⟨bm, bl, (L.cell (p := ⟨b, i * 2, none⟩) h.lt).trans c0, (L.cell (p := ⟨b, i * 2 + 1, none⟩) h.lt).trans c1, ho.next L⟩
  · obtain ⟨v, hv⟩ := h.room j hj
    exact ⟨v, (L.cell (p := ⟨b, j, none⟩) h.lt).trans hv⟩
theorem WbPart.view {w : World} {b : Nat} {ts : List Wb} {lo : Nat → Nat} (h : WbPart w b ts.length ts.length ts lo) : WbView true w (some ⟨b, 0, none⟩) ts :=
  Or.inr ⟨b, 0, rfl, h.lt, fun i hi => by
    obtain ⟨bm, bl, c0, c1, ho⟩ := h.at_ i hi
    exact ⟨_, _, _, _, by rw [Nat.zero_add]; exact c0, by rw [Nat.zero_add]; exact c1, ho.mv, ho.cv, fun _ => ⟨Nat.le_refl _, Nat.le_refl _⟩⟩⟩
theorem WbPart.start (w : World) (n : Nat) (ts : List Wb) (t : TypeId) : WbPart (w.alloc (.cells (madeCells #[.slice none 0 0, .slice none 0 0] (n * 2)) t)) w.heap.size 0 n ts (fun _ => w.heap.size + 1) := by
  refine ⟨by simp, by simp, by simp, fun i hi => by omega, fun i hi => by omega, fun j hj => ?_, fun j => World.frozen?_alloc_at _ _ _ _ rfl⟩
  rw [World.cell?_alloc_at _ _ _ _ rfl]
  refine ⟨_, Array.getElem?_eq_getElem (by rw [size_madeCells]; exact hj)⟩
def updN (f : Nat → Nat) (m v : Nat) (i : Nat) : Nat := if i = m then v else f i
theorem WbPart.step {w w' : World} {b k n bm bl : Nat} {ts : List Wb} {lo : Nat → Nat} (h : WbPart w b k n ts lo) (hk : k < n) (L : Below w.heap.size w w') (ho : WebOwn w.heap.size w'.heap.size w' bm bl (wnth ts k).1 (wnth ts k).2) :
    WbPart ((w'.setCell ⟨b, k * 2, none⟩ (.slice (some ⟨bm, 0, none⟩) (wnth ts k).1.length (wnth ts k).1.length)).setCell ⟨b, k * 2 + 1, none⟩ (.slice (some ⟨bl, 0, none⟩) (wnth ts k).2.length (wnth ts k).2.length)) b (k + 1) n ts (updN lo (k + 1) w'.heap.size) := by
  have hb := h.lt
  have hbw : b < w'.heap.size := Nat.lt_of_lt_of_le hb L.size
  have hN := h.next L
  generalize hu : Value.slice (some ⟨bm, 0, none⟩) (wnth ts k).1.length (wnth ts k).1.length = u
  generalize hv : Value.slice (some ⟨bl, 0, none⟩) (wnth ts k).2.length (wnth ts k).2.length = v
  obtain ⟨W, hW⟩ : ∃ W, (w'.setCell ⟨b, k * 2, none⟩ u).setCell ⟨b, k * 2 + 1, none⟩ v = W := ⟨_, rfl⟩
  have hsz : W.heap.size = w'.heap.size := by rw [← hW]; simp [World.setCell]
  have far : ∀ i, i ≠ b → W.heap[i]? = w'.heap[i]? := fun i hi => by
    rw [← hW, Below.heap_setCell _ ⟨b, k * 2 + 1, none⟩ _ i (fun e => hi e), Below.heap_setCell _ ⟨b, k * 2, none⟩ _ i (fun e => hi e)]
  obtain ⟨x0, hx0⟩ := hN.room (k * 2) (by omega)
  obtain ⟨x1, hx1⟩ := hN.room (k * 2 + 1) (by omega)
  have c0 : W.cell? ⟨b, k * 2, none⟩ = some u := by rw [← hW, World.cell?_setCell_other _ _ _ _ (by intro e; simp only [Addr.mk.injEq] at e; omega)]; exact World.cell?_setCell_same _ _ _ hx0
  have c1 : W.cell? ⟨b, k * 2 + 1, none⟩ = some v := by
    rw [← hW]
    refine World.cell?_setCell_same _ _ _ (?_ : _ = some x1)
    rw [World.cell?_setCell_other _ _ _ _ (by intro e; simp only [Addr.mk.injEq] at e; omega)]
    exact hx1
  have co : ∀ j, j ≠ k * 2 → j ≠ k * 2 + 1 → W.cell? ⟨b, j, none⟩ = w'.cell? ⟨b, j, none⟩ := fun j h1 h2 => by
    rw [← hW, World.cell?_setCell_other _ _ _ _ (by intro e; simp only [Addr.mk.injEq] at e; omega), World.cell?_setCell_other _ _ _ _ (by intro e; simp only [Addr.mk.injEq] at e; omega)]
  rw [hW]
  have hlo0 := h.first
  have hlk : lo k ≤ w.heap.size := h.last
  have hLs := L.size
  have e1 : ∀ i, i ≤ k → updN lo (k + 1) w'.heap.size i = lo i := fun i hi => by unfold updN; rw [if_neg (by omega)]
  have e2 : updN lo (k + 1) w'.heap.size (k + 1) = w'.heap.size := by unfold updN; rw [if_pos rfl]
  refine ⟨by omega, by rw [e1 0 (by omega)]; exact hlo0, by rw [e2]; omega, fun i hi => ?_, fun i hi => ?_, fun j hj => ?_, fun j => ?_⟩
  · rcases Nat.lt_or_ge i k with h1 | h1
    · rw [e1 i (by omega), e1 (i + 1) (by omega)]; exact h.mono i h1
    · obtain rfl : i = k := by omega
      rw [e1 i (by omega), e2]; omega
  · rcases Nat.lt_or_ge i k with h1 | h1
    · obtain ⟨bm', bl', d0, d1, ho'⟩ := hN.at_ i h1
      rw [e1 i (by omega), e1 (i + 1) (by omega)]
      have hl0 := h.lo_le i (by omega)
      have hl1 := h.le_last (i + 1) (by omega)
      exact ⟨bm', bl', (co _ (by omega) (by omega)).trans d0, (co _ (by omega) (by omega)).trans d1, ho'.far (by omega) (fun j hj1 hj2 => far j (by omega))⟩
    · obtain rfl : i = k := by omega
      rw [e1 i (by omega), e2]
      refine ⟨bm, bl, by rw [c0, hu], by rw [c1, hv], ?_⟩
      have hoo : WebOwn w.heap.size w'.heap.size W bm bl (wnth ts i).1 (wnth ts i).2 := ho.far (by omega) (fun j hj1 _ => far j (by omega))
      exact ⟨Nat.le_trans hlk hoo.lo, hoo.mv, hoo.cv, hoo.mo, hoo.co, hoo.lt, hoo.hi⟩
  · by_cases h1 : j = k * 2
    · exact ⟨_, by rw [h1]; exact c0⟩
    · by_cases h2 : j = k * 2 + 1
      · exact ⟨_, by rw [h2]; exact c1⟩
      · obtain ⟨v, hv⟩ := hN.room j hj
        exact ⟨v, (co j h1 h2).trans hv⟩
  · rw [← hW]
    simp only [World.frozen?_setCell]
    exact hN.frozen j
end Go.Proofs.YtfbhohpbhjlihaaGreat
namespace Go.Proofs.YtfbhohpbhjlihaaGreat
open Go Go.RowKit

def IWebOk : Prop := ∀ (am : Option Addr) (cm : Nat) (ms : List Mk) (al : Option Addr) (cl : Nat) (ls : List (List Int)) (w : World), MView w am ms → CView w al ls → MSmall ms → CSmall ls → ms.length ≤ cm → ls.length ≤ cl → Calls Tryz.prog 17 #[.agg #[.slice am ms.length cm, .slice al ls.length cl]] w fun e w' => e = .returned (.bool (webB ms ls)) ∧ Below w.heap.size w w'
def IIslands : Prop := ∀ (am : Option Addr) (cm : Nat) (ms : List Mk) (al : Option Addr) (cl : Nat) (ls : List (List Int)) (w : World), MView w am ms → CView w al ls → MSmall ms → CSmall ls → ms.length ≤ cm → ls.length ≤ cl → Calls Tryz.prog 19 #[.agg #[.slice am ms.length cm, .slice al ls.length cl]] w fun e w' => e = .returned (.int .i64 (islV ms ls)) ∧ Below w.heap.size w w'

end Go.Proofs.YtfbhohpbhjlihaaGreat
namespace Go.Proofs.YtfbhohpbhjlihaaGreat
open Go Go.RowKit

set_option maxRecDepth 100000 in
set_option maxHeartbeats 1000000 in
theorem likeM14 (m : Mk) (ao ao' : Option Addr) (cap cap' : Nat) (w : World) (hv : View w ao m.2) (hv' : View w ao' m.2) (hn : m.2.length ≤ 1048576) :
    Calls Tryz.prog 22 #[.agg #[.int .i64 m.1, .slice ao m.2.length cap], .agg #[.int .i64 m.1, .slice ao' m.2.length cap']] w fun e w' => e = .returned (.bool true) ∧ Below w.heap.size w w' := by
  have L0 : Below w.heap.size w ((w.alloc (.cells #[.int .i64 m.1, .slice ao m.2.length cap] 30)).alloc (.cells #[.int .i64 m.1, .slice ao' m.2.length cap'] 30)) :=
    ((Below.refl _ _).alloc (Nat.le_refl _) _).alloc (by simp) _
  have hb : (m.1 == m.1) = true := by simp
  have hself : decide (m.2 = m.2) = true := by simp
  have HL := hidP (likeS ao ao' cap cap' m.2 m.2 _ (hv.next L0) (hv'.next L0) hn)
  rw [hself] at HL
  clear hv hv' hself
  go_enter Tryz.func22, Tryz.ntmps22
  go_wp2_with fail
  refine HL.out.mono ?_
  rintro e w1 ⟨rfl, n1, rfl⟩
  go_wp2_with fail
  go_ret
  exact ⟨rfl, below_drewN L0 _⟩

set_option maxRecDepth 100000 in
set_option maxHeartbeats 2000000 in
theorem likeMs14 (ao ao' : Option Addr) (cap cap' : Nat) (ms : List Mk) (w : World) (hv : MView w ao ms) (hv' : MView w ao' ms) (hsm : MSmall ms) :
    Calls Tryz.prog 94 #[.slice ao ms.length cap, .slice ao' ms.length cap'] w fun e w' => e = .returned (.bool true) ∧ Below w.heap.size w w' := by
  have hlb : ((ms.length : Int) != (ms.length : Int)) = false := by simp
  have HV := hidP hv
  have HV' := hidP hv'
  have HSM := hidP hsm
  have hn := hsm.1
  clear hv hv' hsm
  go_enter Tryz.func94, Tryz.ntmps94
  go_wp2_with fail
  go_loopw [5] (fun i wr => ∃ k : Nat, k ≤ ms.length ∧ i = .int .i64 k ∧ Below w.heap.size w wr) (fun i _ => ms.length - (intOf i).toNat)
  case atStart => exact ⟨0, Nat.zero_le _, rfl, Below.refl _ _⟩
  case round =>
    obtain ⟨k, hk, rfl, L⟩ := hrel
    by_cases hlt : k < ms.length
    · obtain ⟨b, off, rfl, hb, hs⟩ := mview_seg (HV.out.next L) (by omega)
      obtain ⟨b', off', rfl, hb', hs'⟩ := mview_seg (HV'.out.next L) (by omega)
      obtain ⟨c0, a, c, c1, va⟩ := hs k hlt
      obtain ⟨d0, a', c', d1, va'⟩ := hs' k hlt
      have hl : (mnth ms k).2.length ≤ 1048576 := HSM.out.2 k
      have HH : Hid (∀ W, Below wr.heap.size wr W → Calls Tryz.prog 22 #[.agg #[.int .i64 (mnth ms k).1, .slice a (mnth ms k).2.length c], .agg #[.int .i64 (mnth ms k).1, .slice a' (mnth ms k).2.length c']] W fun e w' => e = .returned (.bool true) ∧ Below w.heap.size w w') := fun W LW =>
        (likeM14 (mnth ms k) a a' c c' W (va.next LW) (va'.next LW) hl).mono (by rintro e w' ⟨rfl, L'⟩; exact ⟨rfl, chain L (chain LW L')⟩)
      have hi0 : (0 : Int) ≤ (k : Int) := Int.natCast_nonneg _
      have hi1 : (k : Int) < (ms.length : Int) := by omega
      clear va va' hs hs' L
      generalize (mnth ms k).1 = x at *
      generalize (mnth ms k).2.length = m at *
      go_wp2_with fail
      go_region_with (go_at_call 22; refine (HH.out _ (below_drewN (Below.refl _ _) 1)).mono ?_; rintro e w2 ⟨rfl, L2⟩; have HL2 := hidP L2; clear L2)
      all_goals (
        simp only [Exit.then]
        go_wp2_with fail
        go_roundw
        case rel => exact ⟨k + 1, by omega, by go_num, HL2.out⟩
        case measure => simp [intOf]; omega)
    · go_wp2_with fail
      go_ret
      exact ⟨rfl, L⟩

set_option maxRecDepth 100000 in
set_option maxHeartbeats 1000000 in
theorem likeW14 (am am' al al' : Option Addr) (cm cm' cl cl' ll : Nat) (ms : List Mk) (w : World) (hv : MView w am ms) (hv' : MView w am' ms) (hsm : MSmall ms)
    (hL : ∀ W, Below w.heap.size w W → Calls Tryz.prog 95 #[.slice al ll cl, .slice al' ll cl'] W fun e w' => e = .returned (.bool true) ∧ Below W.heap.size W w') :
    Calls Tryz.prog 16 #[.agg #[.slice am ms.length cm, .slice al ll cl], .agg #[.slice am' ms.length cm', .slice al' ll cl']] w fun e w' => e = .returned (.bool true) ∧ Below w.heap.size w w' := by
  obtain ⟨W1, hW1⟩ : ∃ W, w.alloc (.cells #[.slice am ms.length cm, .slice al ll cl] 27) = W := ⟨_, rfl⟩
  obtain ⟨W, hW⟩ : ∃ W, W1.alloc (.cells #[.slice am' ms.length cm', .slice al' ll cl'] 27) = W := ⟨_, rfl⟩
  have s1 : W1.heap.size = w.heap.size + 1 := by rw [← hW1]; simp
  have b1 : Below w.heap.size w W1 := by rw [← hW1]; exact (Below.refl _ _).alloc (Nat.le_refl _) _
  have b2 : Below W1.heap.size W1 W := by rw [← hW]; exact (Below.refl _ _).alloc (Nat.le_refl _) _
  have t1 : W.heap[w.heap.size]? = some (.cells #[.slice am ms.length cm, .slice al ll cl] 27) := (b2.block _ (by omega)).trans (by rw [← hW1]; exact heap_alloc_new w _)
  have t2 : W.heap[w.heap.size + 1]? = some (.cells #[.slice am' ms.length cm', .slice al' ll cl'] 27) := by rw [← hW, ← s1]; exact heap_alloc_new W1 _
  have L := chain b1 b2
  have sz : W.heap.size = w.heap.size + 1 + 1 := by rw [← hW]; simp [s1]
  obtain ⟨k0, k1, -, -⟩ := two_cells t1
  obtain ⟨j0, j1, -, -⟩ := two_cells t2
  have HM := hidP (likeMs14 am am' cm cm' ms W (hv.next L) (hv'.next L) hsm)
  have HL := hidP hL
  have HB := hidP L
  have HT := hidP (And.intro t1 t2)
  clear hv hv' hL L b1 b2 t1 t2 hsm
  go_enter Tryz.func16, Tryz.ntmps16
  go_wp2_with fail
  refine HM.out.mono ?_
  rintro e w2 ⟨rfl, L2⟩
  obtain ⟨x0, x1, -, -⟩ := two_cells ((L2.block _ (by omega)).trans HT.out.1)
  obtain ⟨y0, y1, -, -⟩ := two_cells ((L2.block _ (by omega)).trans HT.out.2)
  have HL2 := hidP (chain HB.out L2)
  clear L2 hW hW1
  go_wp2_with fail
  refine (HL.out _ HL2.out).mono ?_
  rintro e w3 ⟨rfl, L3⟩
  have HL3 := hidP (chain HL2.out L3)
  clear L3
  go_wp2_with fail
  go_ret
  exact ⟨rfl, HL3.out⟩

end Go.Proofs.YtfbhohpbhjlihaaGreat
namespace Go.Proofs.YtfbhohpbhjlihaaGreat
open Go Go.RowKit

set_option maxHeartbeats 1000000 in
theorem likeCC (ao ao' : Option Addr) (cap cap' : Nat) (ls : List (List Int)) (w : World) (hv : CView w ao ls) (hv' : CView w ao' ls) (hsm : CSmall ls) :
    Calls Tryz.prog 95 #[.slice ao ls.length cap, .slice ao' ls.length cap'] w fun e w' => e = .returned (.bool true) ∧ ∃ n, w' = w.drewN n := by
  have hlb : ((ls.length : Int) != (ls.length : Int)) = false := by simp
  have hn := hsm.1
  have HV := hidP hv
  have HV' := hidP hv'
  have HAT := hidP hsm.2
  clear hv hv' hsm
  go_enter Tryz.func95, Tryz.ntmps95
  go_wp2_with fail
  go_loopw [5] (fun i wr => ∃ k : Nat, k ≤ ls.length ∧ i = .int .i64 k ∧ ∃ n, wr = w.drewN n) (fun i _ => ls.length - (intOf i).toNat)
  case atStart => exact ⟨0, Nat.zero_le _, rfl, 0, rfl⟩
  case round =>
    obtain ⟨k, hk, rfl, hw⟩ := hrel
    have HW := hidP hw
    clear hw
    by_cases hlt : k < ls.length
    · have v1 : CView wr ao ls := by obtain ⟨n, rfl⟩ := HW.out; exact HV.out.drewN n
      have v2 : CView wr ao' ls := by obtain ⟨n, rfl⟩ := HW.out; exact HV'.out.drewN n
      obtain ⟨b, off, rfl, hb, s1⟩ := v1.seg (by omega)
      obtain ⟨b', off', rfl, hb', s2⟩ := v2.seg (by omega)
      obtain ⟨a, c, c1, va⟩ := s1 k hlt
      obtain ⟨a', c', c2, va'⟩ := s2 k hlt
      have HE := hidP (fun n => likeS a a' c c' (cn ls k) (cn ls k) (wr.drewN n) (va.drewN n) (va'.drewN n) (HAT.out k))
      have hse : decide (cn ls k = cn ls k) = true := by simp
      rw [hse] at HE
      have hi0 : (0 : Int) ≤ (k : Int) := Int.natCast_nonneg _
      have hi1 : (k : Int) < (ls.length : Int) := by omega
      clear va va' v1 v2 s1 s2 hse
      generalize cn ls k = x at *
      go_wp2_with fail
      go_quiet (first | (go_at_call 106; exact Calls.quiet_of (HE.out _)))
      go_wp2_with fail
      go_roundw
      case rel => exact ⟨k + 1, by omega, by go_num, by obtain ⟨n, hn⟩ := HW.out; exact ⟨n + nq, by rw [hn]; simp⟩⟩
      case measure => simp [intOf]; omega
    · go_wp2_with fail
      go_ret
      exact ⟨rfl, HW.out⟩


set_option maxHeartbeats 400000 in
theorem lHas14 (ao : Option Addr) (cap : Nat) (xs : List Int) (x : Int) (w : World) (hv : View w ao xs) (hn : xs.length ≤ 4194304) :
    Calls Tryz.prog 23 #[.slice ao xs.length cap, .int .i64 x] w fun e w' => e = .returned (.bool (hasB xs x)) ∧ w' = w := by
  go_enter Tryz.func23, Tryz.ntmps23
  go_wp2
  go_loop [5] (fun i => ∃ k : Nat, k ≤ xs.length ∧ i = .int .i64 k ∧ ∀ j, j < k → nth xs j ≠ x) (fun i => xs.length - (intOf i).toNat)
  case atStart => exact ⟨0, Nat.zero_le _, rfl, fun j hj => by omega⟩
  case round =>
    obtain ⟨k, hk, rfl, hall⟩ := hrel
    have HA := hidP hall
    clear hall
    by_cases hlt : k < xs.length
    · obtain ⟨b, off, rfl, hb, hs⟩ : ∃ b off, ao = some ⟨b, off, none⟩ ∧ b < w.heap.size ∧ Seg w b off xs := by
        rcases hv with h | h
        · subst h; simp at hlt
        · exact h
      have hc := hs k hlt
      by_cases he : nth xs k = x
      · have HV := hidP (contains_nth hlt he)
        have heb : (nth xs k == x) = true := by simp [he]
        clear he
        go_wp2
        go_ret
        exact ⟨ret_bool HV.out.symm, rfl⟩
      · have heb : (nth xs k == x) = false := by simp [he]
        have HE := hidP he
        clear he
        go_wp2
        go_round
        case rel => exact ⟨k + 1, by omega, by go_num, fun j hj => by
          rcases Nat.lt_or_ge j k with h | h
          · exact HA.out j h
          · rw [show j = k by omega]; exact HE.out⟩
        case measure => simp [intOf]; omega
    · go_wp2
      go_ret
      obtain rfl : k = xs.length := by omega
      exact ⟨ret_bool (Eq.symm (contains_none HA.out)), rfl⟩
end Go.Proofs.YtfbhohpbhjlihaaGreat
namespace Go.Proofs.YtfbhohpbhjlihaaGreat
open Go Go.RowKit

def IWalk : Prop := ∀ (am : Option Addr) (cm : Nat) (ms : List Mk) (al : Option Addr) (cl : Nat) (ls : List (List Int)) (fr : Int) (aq : Option Addr) (cq : Nat) (q : List Int) (w : World), MView w am ms → CView w al ls → View w aq q → MSmall ms → CSmall ls → q.length ≤ 1048576 → ms.length ≤ cm → ls.length ≤ cl → q.length ≤ cq → Calls Tryz.prog 190 #[.agg #[.slice am ms.length cm, .slice al ls.length cl], .int .i64 fr, .slice aq q.length cq] w fun e w' => ∃ a c, e = .returned (.slice a (walkL ms ls fr q).length c) ∧ IOut w.heap.size w' (.slice a (walkL ms ls fr q).length c) (walkL ms ls fr q) ∧ Below w.heap.size w w'
def IBeam : Prop := ∀ (am : Option Addr) (cm : Nat) (ms : List Mk) (al : Option Addr) (cl : Nat) (ls : List (List Int)) (fr : Int) (aq : Option Addr) (cq : Nat) (q : List Int) (wide : Int) (w : World), MView w am ms → CView w al ls → View w aq q → MSmall ms → CSmall ls → q.length ≤ 1048576 → ms.length ≤ cm → ls.length ≤ cl → q.length ≤ cq → Calls Tryz.prog 114 #[.agg #[.slice am ms.length cm, .slice al ls.length cl], .int .i64 fr, .slice aq q.length cq, .int .i64 wide] w fun e w' => ∃ a c, e = .returned (.slice a (beamL ms ls fr q wide).length c) ∧ HOut w.heap.size w' (.slice a (beamL ms ls fr q wide).length c) (beamL ms ls fr q wide) ∧ Below w.heap.size w w'
theorem Walk_len14 (ms : List Mk) (ls : List (List Int)) (fr : Int) (q : List Int) : (walkL ms ls fr q).length ≤ 61 := by
  unfold walkL
  split
  · rename_i h
    have h1 := walkG_short (ms := ms) (ls := ls) (q := q) fr
    have h2 := marksB_len (web_marks ((toldW_iff _ _ _ _).1 h).1)
    omega
  · simp
theorem Beam_len14 (ms : List Mk) (ls : List (List Int)) (fr : Int) (q : List Int) (wide : Int) : (beamL ms ls fr q wide).length ≤ 61 := by
  unfold beamL
  split
  · rename_i h
    obtain ⟨h1, h2, h3⟩ := (toldW_iff _ _ _ _).1 h.1
    obtain ⟨s', ids', op', e, hb, -⟩ := beam_ends (q := q) h1 wide.toNat ms.length [hitOf ms q fr] [fr] [] (by simp) (beam_start (ls := ls) h3).1 (beam_start (q := q) h3).2
    rw [e, List.length_take]
    have := hb.len
    have := hb.short
    have := marksB_len (web_marks h1)
    omega
  · simp
theorem seg_same14 {w w' : World} {b off : Nat} {xs : List Int} (h : Seg w b off xs) (e : w'.heap[b]? = w.heap[b]?) : Seg w' b off xs := fun i hi => (World.cell?_of_block (w := w) (a := ⟨b, off + i, none⟩) e).trans (h i hi)
theorem hseg_same14 {w w' : World} {b off : Nat} {xs : List Ht} (h : HSeg w b off xs) (e : w'.heap[b]? = w.heap[b]?) : HSeg w' b off xs := fun i hi => ⟨(World.cell?_of_block (w := w) (a := ⟨b, off + i * 2, none⟩) e).trans (h i hi).1, (World.cell?_of_block (w := w) (a := ⟨b, off + i * 2 + 1, none⟩) e).trans (h i hi).2⟩
theorem below_gin14 {lo hi : Nat} {W w1 w2 : World} (h : Below W.heap.size W w1) (g : GIn lo hi w1 w2) (hl : W.heap.size ≤ lo) : Below W.heap.size W w2 := below_gin h g hl
theorem eqI14 (ao ao' : Option Addr) (cap cap' : Nat) (R : List Int) (w : World) (hv : View w ao R) (hv' : View w ao' R) (hn : R.length ≤ 1048576) :
    Calls Tryz.prog 71 #[.slice ao R.length cap, .slice ao' R.length cap'] w fun e w' => e = .returned (.bool true) ∧ Below w.heap.size w w' := by
  refine (eqS ao ao' cap cap' R R w hv hv' hn).mono ?_
  rintro e w' ⟨rfl, n, rfl⟩
  exact ⟨ret_bool (by simp), below_drewN (Below.refl _ _) n⟩
theorem eqH14 (ao ao' : Option Addr) (cap cap' : Nat) (R : List Ht) (w : World) (hv : HView w ao R) (hv' : HView w ao' R) (hn : R.length ≤ 1048576) :
    Calls Tryz.prog 75 #[.slice ao R.length cap, .slice ao' R.length cap'] w fun e w' => e = .returned (.bool true) ∧ Below w.heap.size w w' := by
  refine (eqHS ao ao' cap cap' R R w hv hv' (by omega)).mono ?_
  rintro e w' ⟨rfl, L⟩
  exact ⟨ret_bool (by simp), L⟩
theorem markI14 (b : Nat) (k0 : Int) (xs : List Int) (w : World) (ho : Own w b xs) (hn : xs.length ≤ 1048576) (h0 : 1 ≤ k0) (h1 : k0 ≤ 2305844108725321728) :
    Calls Tryz.prog 73 #[.slice (some ⟨b, 0, none⟩) xs.length xs.length, .int .i64 k0] w fun e w' => (∃ k1 : Int, 1 ≤ k1 ∧ e = .returned (.int .i64 k1)) ∧ w.grownBy w' (some b) := by
  refine (mark_big b k0 xs w ho hn h0 (by omega)).mono ?_
  rintro e w' ⟨rfl, -, hg⟩
  exact ⟨⟨k0 + xs.length, by omega, rfl⟩, hg⟩
theorem outMarkI (Z c : Nat) (ao : Option Addr) (R : List Int) (w : World) (h : IOut Z w (.slice ao R.length c) R) (hn : R.length ≤ 1048576) (hZ : Z ≤ w.heap.size) :
    Calls Tryz.prog 73 #[.slice ao R.length c, .int .i64 1] w fun e w' => e = .returned (.int .i64 (1 + (R.length : Int))) ∧ View w' ao (tabL (fun i => 1 + (i : Int)) R.length) ∧ Below Z w w' := by
  refine (markO Z c ao 1 R w h hn (by omega) (by omega)).mono ?_
  rintro e w' ⟨rfl, g, hc, hb⟩
  rw [tabL_length] at g
  refine ⟨rfl, g.slice, hc.1, hc.2.1, hc.2.2.1, hc.2.2.2.1, fun i hi => ?_⟩
  refine hc.2.2.2.2 i (by omega) (fun a n c e e' => ?_)
  injection e with e1
  have := hb a.block ⟨a, e1, rfl⟩
  omega
theorem outMarkH (Z c : Nat) (ao : Option Addr) (R : List Ht) (w : World) (h : HOut Z w (.slice ao R.length c) R) (hn : R.length ≤ 1048576) (hZ : Z ≤ w.heap.size) :
    Calls Tryz.prog 76 #[.slice ao R.length c, .int .i64 1] w fun e w' => e = .returned (.int .i64 (1 + 2 * (R.length : Int))) ∧ HView w' ao (seqH 1 R.length) ∧ Below Z w w' := by
  refine (markOut Z c ao R w h (by omega)).mono ?_
  rintro e w' ⟨rfl, hv, r, hg, hr⟩
  refine ⟨rfl, hv, hg.os, hg.tape, hg.output, hg.size, fun i hi => hg.block i (by omega) (fun e => ?_)⟩
  have := hr i e.symm
  omega

/-- What is kept in hand while Walk's law goes on. -/
structure WkWalk (W : World) (gw bm bl hi bx bq Z : Nat) (ms : List Mk) (ls : List (List Int)) (q : List Int) (R : List Int) (ag : Option Addr) (cg : Nat) (w : World) : Prop where
  low : Below W.heap.size W w
  row : Seg w gw 0 R
  web : WebOwn W.heap.size hi w bm bl ms ls
  box : WebIn w bx (some ⟨bm, 0, none⟩) ms.length ms (some ⟨bl, 0, none⟩) ls.length ls
  own : Own w bq q
  out : IOut Z w (.slice ag R.length cg) R
  hz : Z ≤ w.heap.size
  gl : gw < w.heap.size
theorem WkWalk.next {W w w' : World} {gw bm bl hi bx bq Z : Nat} {ms : List Mk} {ls : List (List Int)} {q : List Int} {R : List Int} {ag : Option Addr} {cg : Nat} (h : WkWalk W gw bm bl hi bx bq Z ms ls q R ag cg w) (L : Below w.heap.size w w') : WkWalk W gw bm bl hi bx bq Z ms ls q R ag cg w' :=
  ⟨chain h.low L, Seg.below h.row h.gl L, h.web.next L, h.box.below L, h.own.below h.own.lt L, h.out.below L, Nat.le_trans h.hz L.size, Nat.lt_of_lt_of_le h.gl L.size⟩

/-- What is kept in hand while Beam's law goes on. -/
structure WkBeam (W : World) (gw bm bl hi bx bq Z : Nat) (ms : List Mk) (ls : List (List Int)) (q : List Int) (R : List Ht) (ag : Option Addr) (cg : Nat) (w : World) : Prop where
  low : Below W.heap.size W w
  row : HSeg w gw 0 R
  web : WebOwn W.heap.size hi w bm bl ms ls
  box : WebIn w bx (some ⟨bm, 0, none⟩) ms.length ms (some ⟨bl, 0, none⟩) ls.length ls
  own : Own w bq q
  out : HOut Z w (.slice ag R.length cg) R
  hz : Z ≤ w.heap.size
  gl : gw < w.heap.size
theorem WkBeam.next {W w w' : World} {gw bm bl hi bx bq Z : Nat} {ms : List Mk} {ls : List (List Int)} {q : List Int} {R : List Ht} {ag : Option Addr} {cg : Nat} (h : WkBeam W gw bm bl hi bx bq Z ms ls q R ag cg w) (L : Below w.heap.size w w') : WkBeam W gw bm bl hi bx bq Z ms ls q R ag cg w' :=
  ⟨chain h.low L, HSeg.below h.row h.gl L, h.web.next L, h.box.below L, h.own.below h.own.lt L, h.out.below L, Nat.le_trans h.hz L.size, Nat.lt_of_lt_of_le h.gl L.size⟩

end Go.Proofs.YtfbhohpbhjlihaaGreat
