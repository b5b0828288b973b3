/-
  The laws' own helpers on webs: how great, copied, compared, written over.
-/
import Derived.Test.YtmembegdbceooaaFeSpecZz
import Derived.Test.YtmembegdbceooaaJRwZz
import Derived.Test.YtmembegdbceooaaMMarkZz
namespace Go.Proofs.Ytmembegdbceooaa
open Go Go.RowKit

theorem MPart.far {w w' : World} {b k n : Nat} {ms : List Mk} (h : MPart w b k n ms) (hs : w.heap.size ≤ w'.heap.size) (e : ∀ i, b ≤ i → i < w.heap.size → w'.heap[i]? = w.heap[i]?) : MPart w' b k n ms := by
  obtain ⟨h1, h2, h3, h4⟩ := h
  have eb := e b (Nat.le_refl _) h1
  refine ⟨by omega, fun i hi => ?_, fun j h5 h6 => ?_, fun j => ?_⟩
  · obtain ⟨c0, g, hg, c1, o⟩ := h2 i hi
    exact ⟨(World.cell?_of_block eb).trans c0, g, hg, (World.cell?_of_block eb).trans c1, (e g (by omega) o.lt).trans o⟩
  · obtain ⟨v, hv, hf⟩ := h3 j h5 h6
    exact ⟨v, (World.cell?_of_block eb).trans hv, (World.frozen?_of_block eb).trans hf⟩
  · exact (World.frozen?_of_block eb).trans (h4 j)
theorem CPart.far {w w' : World} {b k n : Nat} {ls : List (List Int)} (h : CPart w b k n ls) (hs : w.heap.size ≤ w'.heap.size) (e : ∀ i, b ≤ i → i < w.heap.size → w'.heap[i]? = w.heap[i]?) : CPart w' b k n ls := by
  obtain ⟨h1, h2, h3, h4⟩ := h
  have eb := e b (Nat.le_refl _) h1
  refine ⟨by omega, fun i hi => ?_, fun j h5 h6 => ?_, fun j => ?_⟩
  · obtain ⟨g, hg, c1, o⟩ := h2 i hi
    exact ⟨g, hg, (World.cell?_of_block eb).trans c1, (e g (by omega) o.lt).trans o⟩
  · obtain ⟨v, hv⟩ := h3 j h5 h6
    exact ⟨v, (World.cell?_of_block eb).trans hv⟩
  · exact (World.frozen?_of_block eb).trans (h4 j)
theorem MOver.far {w w' : World} {b hi : Nat} {ms : List Mk} (h : MOver w b hi ms) (hs : w.heap.size ≤ w'.heap.size) (e : ∀ i, b ≤ i → i < hi → i < w.heap.size → w'.heap[i]? = w.heap[i]?) : MOver w' b hi ms := by
  obtain ⟨h1, h2, h3, h4⟩ := h
  have eb := e b (Nat.le_refl _) h2 h1
  refine ⟨by omega, h2, fun j => (World.frozen?_of_block eb).trans (h3 j), fun j hj => ?_⟩
  obtain ⟨⟨v, c0⟩, g, xs, hg1, hg2, c1, hl, o⟩ := h4 j hj
  exact ⟨⟨v, (World.cell?_of_block eb).trans c0⟩, g, xs, hg1, hg2, (World.cell?_of_block eb).trans c1, hl, (e g (by omega) hg2 o.lt).trans o⟩
theorem COver.far {w w' : World} {b hi : Nat} {ls : List (List Int)} (h : COver w b hi ls) (hs : w.heap.size ≤ w'.heap.size) (e : ∀ i, b ≤ i → i < hi → i < w.heap.size → w'.heap[i]? = w.heap[i]?) : COver w' b hi ls := by
  obtain ⟨h1, h2, h4⟩ := h
  have eb := e b (Nat.le_refl _) h2 h1
  refine ⟨by omega, h2, fun j hj => ?_⟩
  obtain ⟨g, xs, hg1, hg2, c1, hl, o⟩ := h4 j hj
  exact ⟨g, xs, hg1, hg2, (World.cell?_of_block eb).trans c1, hl, (e g (by omega) hg2 o.lt).trans o⟩
/-- A web of the call's own, as the laws copy one: the marks' blocks ahead of the links'. -/
structure WebOwn (lo hi : Nat) (w : World) (bm bl : Nat) (ms : List Mk) (ls : List (List Int)) : Prop where
  lo : lo ≤ bm
  mv : MView w (some ⟨bm, 0, none⟩) ms
  cv : CView w (some ⟨bl, 0, none⟩) ls
  mo : MOver w bm bl ms
  co : COver w bl hi ls
  lt : bm < bl
  hi : hi ≤ w.heap.size
theorem WebOwn.next {lo hi : Nat} {w w' : World} {bm bl : Nat} {ms : List Mk} {ls : List (List Int)} (h : WebOwn lo hi w bm bl ms ls) (L : Below w.heap.size w w') : WebOwn lo hi w' bm bl ms ls :=
  ⟨h.lo, h.mv.next L, h.cv.next L, h.mo.far L.size (fun i _ _ h3 => L.block i h3), h.co.far L.size (fun i _ _ h3 => L.block i h3), h.lt, Nat.le_trans h.hi L.size⟩

set_option maxRecDepth 100000 in
set_option maxHeartbeats 1000000 in
theorem szW (a1 a2 : Option Addr) (c1 c2 : Nat) (ms : List Mk) (ls : List (List Int)) (w : World) (h1 : MView w a1 ms) (h2 : CView w a2 ls) (n1 : ms.length ≤ maxLen) (t1 : ∀ i, (mat ms i).length ≤ maxLen) (n2 : ls.length ≤ maxLen) (t2 : ∀ i, (cn ls i).length ≤ maxLen) :
    Calls Try.prog 87 #[.agg #[.slice a1 ms.length c1, .slice a2 ls.length c2], .int .i64 1048576] w fun e w' => ∃ r, e = .returned (.int .i64 r) ∧ (r < 0 ∨ (MSmall ms ∧ CSmall ls)) ∧ Below w.heap.size w w' := by
  obtain ⟨W, hW⟩ : ∃ W, w.alloc (.cells #[.slice a1 ms.length c1, .slice a2 ls.length c2] 118) = W := ⟨_, rfl⟩
  have hB : Below w.heap.size w W := by rw [← hW]; exact (Below.refl _ _).alloc (Nat.le_refl _) _
  have hI : WebIn W w.heap.size a1 c1 ms a2 c2 ls := by rw [← hW]; exact WebIn.box h1 h2
  have HB := hidP hB
  have HI := hidP hI
  have k0 := hI.c0
  have HS := hidP (szMS2 a1 c1 ms W hI.mv n1 t1)
  have HS2 := hidP (fun (W' : World) (L : Below W.heap.size W W') (r : Int) (h0 : 0 ≤ r) (h1 : r ≤ 1048576) => szCS a2 c2 ls r W' (hI.below L).cv h0 h1 n2 t2)
  clear h1 h2 hB hI t1 t2
  go_enter Try.func87, Try.ntmps87
  go_wp2_with fail
  refine HS.out.mono ?_
  rintro e w1 ⟨r, rfl, hr1, hr, L1⟩
  by_cases hneg : r < 0
  · go_wp2_with fail
    go_ret
    exact ⟨-1, rfl, Or.inl (by omega), chain HB.out L1⟩
  have hsm : MSmall ms := by rcases hr with h | h; exact absurd h hneg; exact h
  have c1' := (HI.out.below L1).c1
  have HC := hidP (HS2.out w1 L1 r (by omega) hr1)
  have HL1 := hidP (chain HB.out L1)
  clear hr L1 hW
  go_wp2_with fail
  refine HC.out.mono ?_
  rintro e w2 ⟨r2, rfl, hr2, hw2⟩
  subst hw2
  by_cases hneg2 : r2 < 0
  · go_wp2_with fail
    go_ret
    exact ⟨-1, rfl, Or.inl (by omega), HL1.out⟩
  have hcs : CSmall ls := by rcases hr2 with h | h; exact absurd h hneg2; exact h
  go_wp2_with fail
  go_ret
  exact ⟨r2, rfl, Or.inr ⟨hsm, hcs⟩, HL1.out⟩

set_option maxRecDepth 100000 in
set_option maxHeartbeats 1000000 in
theorem eqW (a1 a2 b1 b2 : Option Addr) (c1 c2 d1 d2 : Nat) (ms : List Mk) (ls : List (List Int)) (w : World) (h1 : MView w a1 ms) (h2 : CView w a2 ls) (h3 : MView w b1 ms) (h4 : CView w b2 ls) (hsm : MSmall ms) (hcs : CSmall ls) :
    Calls Try.prog 93 #[.agg #[.slice a1 ms.length c1, .slice a2 ls.length c2], .agg #[.slice b1 ms.length d1, .slice b2 ls.length d2]] w fun e w' => e = .returned (.bool true) ∧ Below w.heap.size w w' := by
  obtain ⟨W, hW⟩ : ∃ W, (w.alloc (.cells #[.slice a1 ms.length c1, .slice a2 ls.length c2] 27)).alloc (.cells #[.slice b1 ms.length d1, .slice b2 ls.length d2] 27) = W := ⟨_, rfl⟩
  have hB : Below w.heap.size w W := by rw [← hW]; exact ((Below.refl w.heap.size w).alloc (Nat.le_refl _) _).alloc (by simp) _
  have hsz : W.heap.size = w.heap.size + 2 := by rw [← hW]; simp
  have k1 : W.cell? ⟨w.heap.size, 0, none⟩ = some (.slice a1 ms.length c1) := by rw [← hW]; simp
  have k3 : W.cell? ⟨w.heap.size + 1, 0, none⟩ = some (.slice b1 ms.length d1) := by rw [← hW]; simp
  have k2 : W.cell? ⟨w.heap.size, 1, none⟩ = some (.slice a2 ls.length c2) := by rw [← hW]; simp
  have k4 : W.cell? ⟨w.heap.size + 1, 1, none⟩ = some (.slice b2 ls.length d2) := by rw [← hW]; simp
  have HS := hidP (eqMS a1 b1 c1 d1 ms ms W (h1.next hB) (h3.next hB) hsm)
  rw [show decide (ms = ms) = true by simp] at HS
  have HS2 := hidP (fun (W' : World) (L : Below W.heap.size W W') => eqCS a2 b2 c2 d2 ls W' (h2.next (chain hB L)) (h4.next (chain hB L)) hcs)
  have HB := hidP hB
  clear hB h1 h2 h3 h4
  go_enter Try.func93, Try.ntmps93
  go_wp2_with fail
  refine HS.out.mono ?_
  rintro e w2 ⟨rfl, L2⟩
  have q2 := (L2.cell (p := ⟨w.heap.size, 1, none⟩) (by show w.heap.size < _; omega)).trans k2
  have q4 := (L2.cell (p := ⟨w.heap.size + 1, 1, none⟩) (by show w.heap.size + 1 < _; omega)).trans k4
  have HC := hidP (HS2.out w2 L2)
  have HL2 := hidP (chain HB.out L2)
  clear hW k1 k2 k3 k4 L2
  go_wp2_with fail
  refine HC.out.mono ?_
  rintro e w3 ⟨rfl, n3, rfl⟩
  go_wp2_with fail
  go_ret
  exact ⟨rfl, below_drewN HL2.out n3⟩

set_option maxHeartbeats 1000000 in
theorem markCS14 (b hi cap : Nat) (k0 : Int) (ls : List (List Int)) (w : World) (hm : COver w b hi ls) (hsm : CSmall ls) (h0 : 1 ≤ k0) (h1 : k0 ≤ 2305843009213693952) :
    Calls Try.prog 95 #[.slice (some ⟨b, 0, none⟩) ls.length cap, .int .i64 k0] w fun e w' => (∃ k1 : Int, 1 ≤ k1 ∧ k1 ≤ 2305844108725321728 ∧ e = .returned (.int .i64 k1)) ∧ GIn b hi w w' := by
  obtain ⟨hn, hat⟩ := hsm
  go_enter Try.func95, Try.ntmps95
  go_wp2
  go_loopw [1, 5] (fun kk i wr => ∃ (k : Nat) (k1 : Int), k ≤ ls.length ∧ i = .int .i64 k ∧ kk = .int .i64 k1 ∧ 1 ≤ k1 ∧ k1 ≤ 2305843009213693952 + 1048576 * (k : Int) ∧ COver wr b hi ls ∧ GIn b hi w wr) (fun _ i _ => ls.length - (intOf i).toNat)
  case atStart => exact ⟨0, k0, Nat.zero_le _, rfl, rfl, h0, by omega, hm, GIn.refl _ _ _⟩
  case round =>
    obtain ⟨k, k1, hk, rfl, rfl, hk0, hk1, ho, hg⟩ := hrel
    by_cases hlt : k < ls.length
    · obtain ⟨g, xs, hbg, hgh, c1, hl, hown⟩ := ho.2.2 k hlt
      have HG := hidP hg
      have HO := hidP ho
      have HM := hidP (mark_big g k1 xs _ hown (by rw [hl]; exact hat k) (by omega) (by omega))
      have HL := hidP hl
      have HOW := hidP hown
      rw [hl] at HM
      have hatk := hat k
      clear ho hg hown hl
      go_wp2_with fail
      refine HM.out.mono ?_
      rintro e w1 ⟨rfl, ho1, hg1⟩
      have HO2 := hidP (HO.out.marked hbg HOW.out hg1 ho1 (by rw [tabL_length]; exact HL.out.symm))
      have HG2 := hidP (HG.out.grown hg1 (by omega) hgh)
      clear ho1 hg1 HO HG HM HOW
      go_wp2_with fail
      go_roundw
      case rel => exact ⟨k + 1, k1 + ((cn ls k).length : Int), by omega, by go_num, rfl, by omega, by omega, HO2.out, HG2.out⟩
      case measure => simp [intOf]; omega
    · go_wp2
      go_ret
      exact ⟨⟨k1, hk0, by omega, rfl⟩, hg⟩

theorem cell_set_far {w : World} {q i : Nat} {v : Value} {a : Addr} (h : a.block ≠ q) : (w.setCell ⟨q, i, none⟩ v).cell? a = w.cell? a := World.cell?_of_block (Below.heap_setCell w ⟨q, i, none⟩ v a.block h)
theorem two_cells {w : World} {q : Nat} {u v : Value} {t : TypeId} (h : w.heap[q]? = some (.cells #[u, v] t)) : w.cell? ⟨q, 0, none⟩ = some u ∧ w.cell? ⟨q, 1, none⟩ = some v ∧ (∀ j, w.frozen? ⟨q, j, none⟩ = false) ∧ q < w.heap.size := by
  refine ⟨by simp [World.cell?, h], by simp [World.cell?, h], fun j => by simp [World.frozen?, h], ?_⟩
  rcases Nat.lt_or_ge q w.heap.size with e | e
  · exact e
  · rw [Array.getElem?_eq_none e] at h; cases h
theorem two_set {w : World} {q : Nat} {u v x : Value} {t : TypeId} (h : w.heap[q]? = some (.cells #[u, v] t)) : (w.setCell ⟨q, 0, none⟩ x).heap[q]? = some (.cells #[x, v] t) ∧ (w.setCell ⟨q, 1, none⟩ x).heap[q]? = some (.cells #[u, x] t) := by
  constructor <;> simp [World.setCell, Array.getElem?_modify, h]

set_option maxRecDepth 100000 in
set_option maxHeartbeats 2000000 in
theorem toW (a1 a2 : Option Addr) (c1 c2 : Nat) (ms : List Mk) (ls : List (List Int)) (w : World) (h1 : MView w a1 ms) (h2 : CView w a2 ls) (hsm : MSmall ms) (hcs : CSmall ls) :
    Calls Try.prog 89 #[.agg #[.slice a1 ms.length c1, .slice a2 ls.length c2]] w fun e w' => ∃ bm bl, e = .returned (.agg #[.slice (some ⟨bm, 0, none⟩) ms.length ms.length, .slice (some ⟨bl, 0, none⟩) ls.length ls.length]) ∧ WebOwn w.heap.size w'.heap.size w' bm bl ms ls ∧ Below w.heap.size w w' := by
  obtain ⟨W1, hW1⟩ : ∃ W, w.alloc (.cells #[.slice a1 ms.length c1, .slice a2 ls.length c2] 118) = W := ⟨_, rfl⟩
  obtain ⟨W2, hW2⟩ : ∃ W, W1.alloc (.cells #[.slice none 0 0, .slice none 0 0] 27) = W := ⟨_, rfl⟩
  obtain ⟨W, hW⟩ : ∃ W, W2.alloc (.cells #[.slice none 0 0, .slice none 0 0] 27) = W := ⟨_, rfl⟩
  have s1 : W1.heap.size = w.heap.size + 1 := by rw [← hW1]; simp
  have s2 : W2.heap.size = w.heap.size + 1 + 1 := by rw [← hW2]; simp [s1]
  have hsz : W.heap.size = w.heap.size + 1 + 1 + 1 := by rw [← hW]; simp [s2]
  have b1 : Below w.heap.size w W1 := by rw [← hW1]; exact (Below.refl _ _).alloc (Nat.le_refl _) _
  have b2 : Below W1.heap.size W1 W2 := by rw [← hW2]; exact (Below.refl _ _).alloc (Nat.le_refl _) _
  have b3 : Below W2.heap.size W2 W := by rw [← hW]; exact (Below.refl _ _).alloc (Nat.le_refl _) _
  have hB : Below w.heap.size w W := chain (chain b1 b2) b3
  have t0 : W.heap[w.heap.size]? = some (.cells #[.slice a1 ms.length c1, .slice a2 ls.length c2] 118) := (b3.block _ (by omega)).trans ((b2.block _ (by omega)).trans (by rw [← hW1]; exact heap_alloc_new w _))
  have t1 : W.heap[w.heap.size + 1]? = some (.cells #[.slice none 0 0, .slice none 0 0] 27) := (b3.block _ (by omega)).trans (by rw [← hW2, ← s1]; exact heap_alloc_new W1 _)
  have t2 : W.heap[w.heap.size + 1 + 1]? = some (.cells #[.slice none 0 0, .slice none 0 0] 27) := by rw [← hW, ← s2]; exact heap_alloc_new W2 _
  obtain ⟨z0, z1, -, -⟩ := two_cells t0
  have HS := hidP (toMS a1 c1 ms W (h1.next hB) hsm)
  have HV := hidP h2
  have HB := hidP hB
  have HT := hidP (And.intro t0 (And.intro t1 t2))
  clear hB h1 h2 b1 b2 b3 t0 t1 t2
  go_enter Try.func89, Try.ntmps89
  go_wp2_with fail
  refine HS.out.mono ?_
  rintro e w2 ⟨bm, rfl, p1, hb1, L1⟩
  obtain ⟨t0, t1, t2⟩ := HT.out
  have u0 := (L1.block _ (by omega)).trans t0
  have u1 := (L1.block _ (by omega)).trans t1
  have u2 := (L1.block _ (by omega)).trans t2
  obtain ⟨e2, e2', f2, -⟩ := two_cells u2
  have f20 := f2 0
  obtain ⟨w3, hw3⟩ : ∃ w3, w2.setCell ⟨w.heap.size + 1 + 1, 0, none⟩ (.slice (some ⟨bm, 0, none⟩) ms.length ms.length) = w3 := ⟨_, rfl⟩
  have far3 : ∀ i, i ≠ w.heap.size + 1 + 1 → w3.heap[i]? = w2.heap[i]? := fun i hi => by rw [← hw3]; exact Below.heap_setCell w2 ⟨w.heap.size + 1 + 1, 0, none⟩ _ i (fun e => hi e)
  have z3 : w3.heap.size = w2.heap.size := by rw [← hw3]; simp [World.setCell]
  have v0 := (far3 w.heap.size (by omega)).trans u0
  have v1 := (far3 (w.heap.size + 1) (by omega)).trans u1
  have v2 : w3.heap[w.heap.size + 1 + 1]? = some (.cells #[.slice (some ⟨bm, 0, none⟩) ms.length ms.length, .slice none 0 0] 27) := by rw [← hw3]; exact (two_set u2).1
  have p3 : MPart w3 bm ms.length ms.length ms := p1.far (by omega) (fun i h1 _ => far3 i (by omega))
  have L3 : Below w.heap.size w w3 := by rw [← hw3]; exact (chain HB.out L1).setCell (by show w.heap.size ≤ w.heap.size + 1 + 1; omega) _
  have c3 := (two_cells v0).2.1
  have hz1 := L1.size
  have HS2 := hidP (toCS a2 c2 ls w3 (HV.out.next L3) hcs)
  have H3 := hidP (And.intro v1 (And.intro v2 (And.intro p3 L3)))
  have HB1 : Hid (w.heap.size + 1 + 1 + 1 ≤ bm) := by show _ ≤ bm; omega
  clear HT t0 t1 t2 u0 u1 u2 v0 v1 v2 p1 p3 L1 L3 far3 hb1 f2 HS hW1 hW2 hW z0 z1 e2'
  go_wp2_with fail
  refine HS2.out.mono ?_
  rintro e w4 ⟨bl, rfl, o2, hb2, L4⟩
  obtain ⟨v1, v2, p3, L3⟩ := H3.out
  have hbm := p3.1
  have x1 := (L4.block _ (by omega)).trans v1
  have x2 := (L4.block _ (by omega)).trans v2
  have hz4 := L4.size
  obtain ⟨g1, g1', k1, -⟩ := two_cells x1
  obtain ⟨g2, g2', k2, -⟩ := two_cells x2
  have k11 := k1 0
  have k12 := k1 1
  have k21 := k2 1
  have p4 : MPart w4 bm ms.length ms.length ms := p3.far hz4 (fun i _ h => L4.block i h)
  have mo4 : MOver w4 bm bl ms := by
    obtain ⟨m1, m2, m3, m4⟩ := p3.over
    have m5 : MOver w3 bm bl ms := ⟨m1, by omega, m3, fun j hj => by
      obtain ⟨hv, g, xs, q1, q2, q3⟩ := m4 j hj
      exact ⟨hv, g, xs, q1, by omega, q3⟩⟩
    exact m5.far hz4 (fun i _ _ h => L4.block i h)
  have HF := hidP (And.intro p4.view (And.intro mo4 (And.intro o2 (chain L3 L4))))
  have HB2 : Hid (bl < w4.heap.size ∧ bm < bl) := ⟨o2.1, by omega⟩
  clear v1 v2 p3 L3 x1 x2 k1 k2 p4 mo4 o2 L4 H3 HS2
  go_wp2_with fail
  refine bodyPost_ret (v := .agg #[.slice (some ⟨bm, 0, none⟩) ms.length ms.length, .slice (some ⟨bl, 0, none⟩) ls.length ls.length]) (by simp [results, Try.results89, go_sem, g1, g1']) rfl ?_
  obtain ⟨w5, hw5⟩ : ∃ w5, ((w4.setCell ⟨w.heap.size + 1 + 1, 1, none⟩ (.slice (some ⟨bl, 0, none⟩) ls.length ls.length)).setCell ⟨w.heap.size + 1, 0, none⟩ (.slice (some ⟨bm, 0, none⟩) ms.length ms.length)).setCell ⟨w.heap.size + 1, 1, none⟩ (.slice (some ⟨bl, 0, none⟩) ls.length ls.length) = w5 := ⟨_, rfl⟩
  obtain ⟨q1, q2, q3, q4⟩ := HF.out
  have hb1 := HB1.out
  have hb2' := HB2.out
  have far5 : ∀ i, bm ≤ i → w5.heap[i]? = w4.heap[i]? := fun i hi => by
    rw [← hw5, Below.heap_setCell _ ⟨w.heap.size + 1, 1, none⟩ _ i (fun e => by have : i = w.heap.size + 1 := e; omega), Below.heap_setCell _ ⟨w.heap.size + 1, 0, none⟩ _ i (fun e => by have : i = w.heap.size + 1 := e; omega), Below.heap_setCell _ ⟨w.heap.size + 1 + 1, 1, none⟩ _ i (fun e => by have : i = w.heap.size + 1 + 1 := e; omega)]
  have z5 : w5.heap.size = w4.heap.size := by rw [← hw5]; simp [World.setCell]
  have L5 : Below w.heap.size w w5 := by rw [← hw5]; exact ((q4.setCell (by show w.heap.size ≤ w.heap.size + 1 + 1; omega) _).setCell (by show w.heap.size ≤ w.heap.size + 1; omega) _).setCell (by show w.heap.size ≤ w.heap.size + 1; omega) _
  have c5 : CPart w5 bl ls.length ls.length ls := q3.far (by omega) (fun i h1 _ => far5 i (by omega))
  rw [hw5]
  refine ⟨bm, bl, rfl, ⟨by omega, ?_, c5.view, q2.far (by omega) (fun i h1 _ _ => far5 i h1), c5.over, hb2'.2, Nat.le_refl _⟩, L5⟩
  rcases q1 with h | ⟨b, off, e, hb, hs⟩
  · exact Or.inl h
  · injection e with e
    injection e with e1 e2
    subst e1 e2
    refine Or.inr ⟨bm, 0, rfl, by omega, fun i hi => ?_⟩
    obtain ⟨c0, ao, cap, c1, hv⟩ := hs i hi
    obtain ⟨-, -, -, m4⟩ := q2
    obtain ⟨-, g, xs, hg1, hg2, cg, -, -⟩ := m4 i hi
    have eb := far5 bm (Nat.le_refl _)
    refine ⟨(World.cell?_of_block eb).trans c0, ao, cap, (World.cell?_of_block eb).trans c1, ?_⟩
    rw [show (0 : Nat) + i * 2 + 1 = i * 2 + 1 by omega, cg] at c1
    injection c1 with c1
    injection c1 with c1 c2' c3'
    rcases hv with h | ⟨b', off', e', hb', hs'⟩
    · exact Or.inl h
    · refine Or.inr ⟨b', off', e', by omega, fun k hk => ?_⟩
      have hbg : b' = g := by
        rw [e'] at c1
        injection c1 with c1
        injection c1 with c1
        exact c1.symm
      exact (World.cell?_of_block (far5 b' (by omega))).trans (hs' k hk)

end Go.Proofs.Ytmembegdbceooaa
