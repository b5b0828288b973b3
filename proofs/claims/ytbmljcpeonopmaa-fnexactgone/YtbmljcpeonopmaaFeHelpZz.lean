/-
  The laws' own helpers on webs: how great, copied, compared, written over.
  What a web that was written over is held to: heldMarkS, heldWeb; markMark.
  Webs in a row, in memory.
  The laws' own helpers on towers: how great, copied, compared.
  The laws' own helpers on towers: szTower, toTower, eqTower.
  The laws' own markTower over a tower that was copied: what is written over.
-/
import Derived.Test.YtbmljcpeonopmaaFeSpecZz
import Derived.Test.YtbmljcpeonopmaaJRwZz
import Derived.Test.YtbmljcpeonopmaaMMarkZz
namespace Go.Proofs.Ytbmljcpeonopmaa
open Go Go.RowKit

theorem MPart.far {w w' : World} {b k n : Nat} {ms : List Mk} (h : MPart w b k n ms) (hs : w.heap.size ≤ w'.heap.size) (e : ∀ i, b ≤ i → i < w.heap.size → w'.heap[i]? = w.heap[i]?) : MPart w' b k n ms := by
  obtain ⟨h1, h2, h3, h4⟩ := h
  have eb := e b (Nat.le_refl _) h1
  refine ⟨by omega, fun i hi => ?_, fun j h5 h6 => ?_, fun j => ?_⟩
  · obtain ⟨c0, g, hg, c1, o⟩ := h2 i hi
    exact ⟨(World.cell?_of_block eb).trans c0, g, hg, (World.cell?_of_block eb).trans c1, (e g (by omega) o.lt).trans o⟩
  · obtain ⟨v, hv, hf⟩ := h3 j h5 h6
    exact ⟨v, (World.cell?_of_block eb).trans hv, (World.frozen?_of_block eb).trans hf⟩
  · exact (World.frozen?_of_block eb).trans (h4 j)
theorem CPart.far {w w' : World} {b k n : Nat} {ls : List (List Int)} (h : CPart w b k n ls) (hs : w.heap.size ≤ w'.heap.size) (e : ∀ i, b ≤ i → i < w.heap.size → w'.heap[i]? = w.heap[i]?) : CPart w' b k n ls := by
  obtain ⟨h1, h2, h3, h4⟩ := h
  have eb := e b (Nat.le_refl _) h1
  refine ⟨by omega, fun i hi => ?_, fun j h5 h6 => ?_, fun j => ?_⟩
  · obtain ⟨g, hg, c1, o⟩ := h2 i hi
    exact ⟨g, hg, (World.cell?_of_block eb).trans c1, (e g (by omega) o.lt).trans o⟩
  · obtain ⟨v, hv⟩ := h3 j h5 h6
    exact ⟨v, (World.cell?_of_block eb).trans hv⟩
  · exact (World.frozen?_of_block eb).trans (h4 j)
theorem MOver.far {w w' : World} {b hi : Nat} {ms : List Mk} (h : MOver w b hi ms) (hs : w.heap.size ≤ w'.heap.size) (e : ∀ i, b ≤ i → i < hi → i < w.heap.size → w'.heap[i]? = w.heap[i]?) : MOver w' b hi ms := by
  obtain ⟨h1, h2, h3, h4⟩ := h
  have eb := e b (Nat.le_refl _) h2 h1
  refine ⟨by omega, h2, fun j => (World.frozen?_of_block eb).trans (h3 j), fun j hj => ?_⟩
  obtain ⟨⟨v, c0⟩, g, xs, hg1, hg2, c1, hl, o⟩ := h4 j hj
  exact ⟨⟨v, (World.cell?_of_block eb).trans c0⟩, g, xs, hg1, hg2, (World.cell?_of_block eb).trans c1, hl, (e g (by omega) hg2 o.lt).trans o⟩
theorem COver.far {w w' : World} {b hi : Nat} {ls : List (List Int)} (h : COver w b hi ls) (hs : w.heap.size ≤ w'.heap.size) (e : ∀ i, b ≤ i → i < hi → i < w.heap.size → w'.heap[i]? = w.heap[i]?) : COver w' b hi ls := by
  obtain ⟨h1, h2, h4⟩ := h
  have eb := e b (Nat.le_refl _) h2 h1
  refine ⟨by omega, h2, fun j hj => ?_⟩
  obtain ⟨g, xs, hg1, hg2, c1, hl, o⟩ := h4 j hj
  exact ⟨g, xs, hg1, hg2, (World.cell?_of_block eb).trans c1, hl, (e g (by omega) hg2 o.lt).trans o⟩
/-- A web of the call's own, as the laws copy one: the marks' blocks ahead of the links'. -/
structure WebOwn (lo hi : Nat) (w : World) (bm bl : Nat) (ms : List Mk) (ls : List (List Int)) : Prop where
  lo : lo ≤ bm
  mv : MView w (some ⟨bm, 0, none⟩) ms
  cv : CView w (some ⟨bl, 0, none⟩) ls
  mo : MOver w bm bl ms
  co : COver w bl hi ls
  lt : bm < bl
  hi : hi ≤ w.heap.size
theorem WebOwn.next {lo hi : Nat} {w w' : World} {bm bl : Nat} {ms : List Mk} {ls : List (List Int)} (h : WebOwn lo hi w bm bl ms ls) (L : Below w.heap.size w w') : WebOwn lo hi w' bm bl ms ls :=
  ⟨h.lo, h.mv.next L, h.cv.next L, h.mo.far L.size (fun i _ _ h3 => L.block i h3), h.co.far L.size (fun i _ _ h3 => L.block i h3), h.lt, Nat.le_trans h.hi L.size⟩

set_option maxRecDepth 100000 in
set_option maxHeartbeats 1000000 in
theorem szW (a1 a2 : Option Addr) (c1 c2 : Nat) (ms : List Mk) (ls : List (List Int)) (w : World) (h1 : MView w a1 ms) (h2 : CView w a2 ls) (n1 : ms.length ≤ maxLen) (t1 : ∀ i, (mat ms i).length ≤ maxLen) (n2 : ls.length ≤ maxLen) (t2 : ∀ i, (cn ls i).length ≤ maxLen) :
    Calls Try.prog 88 #[.agg #[.slice a1 ms.length c1, .slice a2 ls.length c2], .int .i64 1048576] w fun e w' => ∃ r, e = .returned (.int .i64 r) ∧ (r < 0 ∨ (MSmall ms ∧ CSmall ls)) ∧ Below w.heap.size w w' := by
  obtain ⟨W, hW⟩ : ∃ W, w.alloc (.cells #[.slice a1 ms.length c1, .slice a2 ls.length c2] 134) = W := ⟨_, rfl⟩
  have hB : Below w.heap.size w W := by rw [← hW]; exact (Below.refl _ _).alloc (Nat.le_refl _) _
  have hI : WebIn W w.heap.size a1 c1 ms a2 c2 ls := by rw [← hW]; exact WebIn.box h1 h2
  have HB := hidP hB
  have HI := hidP hI
  have k0 := hI.c0
  have HS := hidP (szMS2 a1 c1 ms W hI.mv n1 t1)
  have HS2 := hidP (fun (W' : World) (L : Below W.heap.size W W') (r : Int) (h0 : 0 ≤ r) (h1 : r ≤ 1048576) => szCS a2 c2 ls r W' (hI.below L).cv h0 h1 n2 t2)
  clear h1 h2 hB hI t1 t2
  go_enter Try.func88, Try.ntmps88
  go_wp2_with fail
  refine HS.out.mono ?_
  rintro e w1 ⟨r, rfl, hr1, hr, L1⟩
  by_cases hneg : r < 0
  · go_wp2_with fail
    go_ret
    exact ⟨-1, rfl, Or.inl (by omega), chain HB.out L1⟩
  have hsm : MSmall ms := by rcases hr with h | h; exact absurd h hneg; exact h
  have c1' := (HI.out.below L1).c1
  have HC := hidP (HS2.out w1 L1 r (by omega) hr1)
  have HL1 := hidP (chain HB.out L1)
  clear hr L1 hW
  go_wp2_with fail
  refine HC.out.mono ?_
  rintro e w2 ⟨r2, rfl, hr2, hw2⟩
  subst hw2
  by_cases hneg2 : r2 < 0
  · go_wp2_with fail
    go_ret
    exact ⟨-1, rfl, Or.inl (by omega), HL1.out⟩
  have hcs : CSmall ls := by rcases hr2 with h | h; exact absurd h hneg2; exact h
  go_wp2_with fail
  go_ret
  exact ⟨r2, rfl, Or.inr ⟨hsm, hcs⟩, HL1.out⟩

set_option maxRecDepth 100000 in
set_option maxHeartbeats 1000000 in
theorem eqW (a1 a2 b1 b2 : Option Addr) (c1 c2 d1 d2 : Nat) (ms : List Mk) (ls : List (List Int)) (w : World) (h1 : MView w a1 ms) (h2 : CView w a2 ls) (h3 : MView w b1 ms) (h4 : CView w b2 ls) (hsm : MSmall ms) (hcs : CSmall ls) :
    Calls Try.prog 104 #[.agg #[.slice a1 ms.length c1, .slice a2 ls.length c2], .agg #[.slice b1 ms.length d1, .slice b2 ls.length d2]] w fun e w' => e = .returned (.bool true) ∧ Below w.heap.size w w' := by
  obtain ⟨W, hW⟩ : ∃ W, (w.alloc (.cells #[.slice a1 ms.length c1, .slice a2 ls.length c2] 105)).alloc (.cells #[.slice b1 ms.length d1, .slice b2 ls.length d2] 105) = W := ⟨_, rfl⟩
  have hB : Below w.heap.size w W := by rw [← hW]; exact ((Below.refl w.heap.size w).alloc (Nat.le_refl _) _).alloc (by simp) _
  have hsz : W.heap.size = w.heap.size + 2 := by rw [← hW]; simp
  have k1 : W.cell? ⟨w.heap.size, 0, none⟩ = some (.slice a1 ms.length c1) := by rw [← hW]; simp
  have k3 : W.cell? ⟨w.heap.size + 1, 0, none⟩ = some (.slice b1 ms.length d1) := by rw [← hW]; simp
  have k2 : W.cell? ⟨w.heap.size, 1, none⟩ = some (.slice a2 ls.length c2) := by rw [← hW]; simp
  have k4 : W.cell? ⟨w.heap.size + 1, 1, none⟩ = some (.slice b2 ls.length d2) := by rw [← hW]; simp
  have HS := hidP (eqMS a1 b1 c1 d1 ms ms W (h1.next hB) (h3.next hB) hsm)
  rw [show decide (ms = ms) = true by simp] at HS
  have HS2 := hidP (fun (W' : World) (L : Below W.heap.size W W') => eqCS a2 b2 c2 d2 ls W' (h2.next (chain hB L)) (h4.next (chain hB L)) hcs)
  have HB := hidP hB
  clear hB h1 h2 h3 h4
  go_enter Try.func104, Try.ntmps104
  go_wp2_with fail
  refine HS.out.mono ?_
  rintro e w2 ⟨rfl, L2⟩
  have q2 := (L2.cell (p := ⟨w.heap.size, 1, none⟩) (by show w.heap.size < _; omega)).trans k2
  have q4 := (L2.cell (p := ⟨w.heap.size + 1, 1, none⟩) (by show w.heap.size + 1 < _; omega)).trans k4
  have HC := hidP (HS2.out w2 L2)
  have HL2 := hidP (chain HB.out L2)
  clear hW k1 k2 k3 k4 L2
  go_wp2_with fail
  refine HC.out.mono ?_
  rintro e w3 ⟨rfl, n3, rfl⟩
  go_wp2_with fail
  go_ret
  exact ⟨rfl, below_drewN HL2.out n3⟩

set_option maxHeartbeats 1000000 in
theorem markCS14 (b hi cap : Nat) (k0 : Int) (ls : List (List Int)) (w : World) (hm : COver w b hi ls) (hsm : CSmall ls) (h0 : 1 ≤ k0) (h1 : k0 ≤ 2305843009213693952) :
    Calls Try.prog 105 #[.slice (some ⟨b, 0, none⟩) ls.length cap, .int .i64 k0] w fun e w' => (∃ k1 : Int, 1 ≤ k1 ∧ k1 ≤ 2305844108725321728 ∧ e = .returned (.int .i64 k1)) ∧ GIn b hi w w' := by
  obtain ⟨hn, hat⟩ := hsm
  go_enter Try.func105, Try.ntmps105
  go_wp2
  go_loopw [1, 5] (fun kk i wr => ∃ (k : Nat) (k1 : Int), k ≤ ls.length ∧ i = .int .i64 k ∧ kk = .int .i64 k1 ∧ 1 ≤ k1 ∧ k1 ≤ 2305843009213693952 + 1048576 * (k : Int) ∧ COver wr b hi ls ∧ GIn b hi w wr) (fun _ i _ => ls.length - (intOf i).toNat)
  case atStart => exact ⟨0, k0, Nat.zero_le _, rfl, rfl, h0, by omega, hm, GIn.refl _ _ _⟩
  case round =>
    obtain ⟨k, k1, hk, rfl, rfl, hk0, hk1, ho, hg⟩ := hrel
    by_cases hlt : k < ls.length
    · obtain ⟨g, xs, hbg, hgh, c1, hl, hown⟩ := ho.2.2 k hlt
      have HG := hidP hg
      have HO := hidP ho
      have HM := hidP (mark_big g k1 xs _ hown (by rw [hl]; exact hat k) (by omega) (by omega))
      have HL := hidP hl
      have HOW := hidP hown
      rw [hl] at HM
      have hatk := hat k
      clear ho hg hown hl
      go_wp2_with fail
      refine HM.out.mono ?_
      rintro e w1 ⟨rfl, ho1, hg1⟩
      have HO2 := hidP (HO.out.marked hbg HOW.out hg1 ho1 (by rw [tabL_length]; exact HL.out.symm))
      have HG2 := hidP (HG.out.grown hg1 (by omega) hgh)
      clear ho1 hg1 HO HG HM HOW
      go_wp2_with fail
      go_roundw
      case rel => exact ⟨k + 1, k1 + ((cn ls k).length : Int), by omega, by go_num, rfl, by omega, by omega, HO2.out, HG2.out⟩
      case measure => simp [intOf]; omega
    · go_wp2
      go_ret
      exact ⟨⟨k1, hk0, by omega, rfl⟩, hg⟩

theorem cell_set_far {w : World} {q i : Nat} {v : Value} {a : Addr} (h : a.block ≠ q) : (w.setCell ⟨q, i, none⟩ v).cell? a = w.cell? a := World.cell?_of_block (Below.heap_setCell w ⟨q, i, none⟩ v a.block h)
theorem two_cells {w : World} {q : Nat} {u v : Value} {t : TypeId} (h : w.heap[q]? = some (.cells #[u, v] t)) : w.cell? ⟨q, 0, none⟩ = some u ∧ w.cell? ⟨q, 1, none⟩ = some v ∧ (∀ j, w.frozen? ⟨q, j, none⟩ = false) ∧ q < w.heap.size := by
  refine ⟨by simp [World.cell?, h], by simp [World.cell?, h], fun j => by simp [World.frozen?, h], ?_⟩
  rcases Nat.lt_or_ge q w.heap.size with e | e
  · exact e
  · rw [Array.getElem?_eq_none e] at h; cases h
theorem two_set {w : World} {q : Nat} {u v x : Value} {t : TypeId} (h : w.heap[q]? = some (.cells #[u, v] t)) : (w.setCell ⟨q, 0, none⟩ x).heap[q]? = some (.cells #[x, v] t) ∧ (w.setCell ⟨q, 1, none⟩ x).heap[q]? = some (.cells #[u, x] t) := by
  constructor <;> simp [World.setCell, Array.getElem?_modify, h]

set_option maxRecDepth 100000 in
set_option maxHeartbeats 2000000 in
theorem toW (a1 a2 : Option Addr) (c1 c2 : Nat) (ms : List Mk) (ls : List (List Int)) (w : World) (h1 : MView w a1 ms) (h2 : CView w a2 ls) (hsm : MSmall ms) (hcs : CSmall ls) :
    Calls Try.prog 92 #[.agg #[.slice a1 ms.length c1, .slice a2 ls.length c2]] w fun e w' => ∃ bm bl, e = .returned (.agg #[.slice (some ⟨bm, 0, none⟩) ms.length ms.length, .slice (some ⟨bl, 0, none⟩) ls.length ls.length]) ∧ WebOwn w.heap.size w'.heap.size w' bm bl ms ls ∧ Below w.heap.size w w' := by
  obtain ⟨W1, hW1⟩ : ∃ W, w.alloc (.cells #[.slice a1 ms.length c1, .slice a2 ls.length c2] 134) = W := ⟨_, rfl⟩
  obtain ⟨W2, hW2⟩ : ∃ W, W1.alloc (.cells #[.slice none 0 0, .slice none 0 0] 105) = W := ⟨_, rfl⟩
  obtain ⟨W, hW⟩ : ∃ W, W2.alloc (.cells #[.slice none 0 0, .slice none 0 0] 105) = W := ⟨_, rfl⟩
  have s1 : W1.heap.size = w.heap.size + 1 := by rw [← hW1]; simp
  have s2 : W2.heap.size = w.heap.size + 1 + 1 := by rw [← hW2]; simp [s1]
  have hsz : W.heap.size = w.heap.size + 1 + 1 + 1 := by rw [← hW]; simp [s2]
  have b1 : Below w.heap.size w W1 := by rw [← hW1]; exact (Below.refl _ _).alloc (Nat.le_refl _) _
  have b2 : Below W1.heap.size W1 W2 := by rw [← hW2]; exact (Below.refl _ _).alloc (Nat.le_refl _) _
  have b3 : Below W2.heap.size W2 W := by rw [← hW]; exact (Below.refl _ _).alloc (Nat.le_refl _) _
  have hB : Below w.heap.size w W := chain (chain b1 b2) b3
  have t0 : W.heap[w.heap.size]? = some (.cells #[.slice a1 ms.length c1, .slice a2 ls.length c2] 134) := (b3.block _ (by omega)).trans ((b2.block _ (by omega)).trans (by rw [← hW1]; exact heap_alloc_new w _))
  have t1 : W.heap[w.heap.size + 1]? = some (.cells #[.slice none 0 0, .slice none 0 0] 105) := (b3.block _ (by omega)).trans (by rw [← hW2, ← s1]; exact heap_alloc_new W1 _)
  have t2 : W.heap[w.heap.size + 1 + 1]? = some (.cells #[.slice none 0 0, .slice none 0 0] 105) := by rw [← hW, ← s2]; exact heap_alloc_new W2 _
  obtain ⟨z0, z1, -, -⟩ := two_cells t0
  have HS := hidP (toMS a1 c1 ms W (h1.next hB) hsm)
  have HV := hidP h2
  have HB := hidP hB
  have HT := hidP (And.intro t0 (And.intro t1 t2))
  clear hB h1 h2 b1 b2 b3 t0 t1 t2
  go_enter Try.func92, Try.ntmps92
  go_wp2_with fail
  refine HS.out.mono ?_
  rintro e w2 ⟨bm, rfl, p1, hb1, L1⟩
  obtain ⟨t0, t1, t2⟩ := HT.out
  have u0 := (L1.block _ (by omega)).trans t0
  have u1 := (L1.block _ (by omega)).trans t1
  have u2 := (L1.block _ (by omega)).trans t2
  obtain ⟨e2, e2', f2, -⟩ := two_cells u2
  have f20 := f2 0
  obtain ⟨w3, hw3⟩ : ∃ w3, w2.setCell ⟨w.heap.size + 1 + 1, 0, none⟩ (.slice (some ⟨bm, 0, none⟩) ms.length ms.length) = w3 := ⟨_, rfl⟩
  have far3 : ∀ i, i ≠ w.heap.size + 1 + 1 → w3.heap[i]? = w2.heap[i]? := fun i hi => by rw [← hw3]; exact Below.heap_setCell w2 ⟨w.heap.size + 1 + 1, 0, none⟩ _ i (fun e => hi e)
  have z3 : w3.heap.size = w2.heap.size := by rw [← hw3]; simp [World.setCell]
  have v0 := (far3 w.heap.size (by omega)).trans u0
  have v1 := (far3 (w.heap.size + 1) (by omega)).trans u1
  have v2 : w3.heap[w.heap.size + 1 + 1]? = some (.cells #[.slice (some ⟨bm, 0, none⟩) ms.length ms.length, .slice none 0 0] 105) := by rw [← hw3]; exact (two_set u2).1
  have p3 : MPart w3 bm ms.length ms.length ms := p1.far (by omega) (fun i h1 _ => far3 i (by omega))
  have L3 : Below w.heap.size w w3 := by rw [← hw3]; exact (chain HB.out L1).setCell (by show w.heap.size ≤ w.heap.size + 1 + 1; omega) _
  have c3 := (two_cells v0).2.1
  have hz1 := L1.size
  have HS2 := hidP (toCS a2 c2 ls w3 (HV.out.next L3) hcs)
  have H3 := hidP (And.intro v1 (And.intro v2 (And.intro p3 L3)))
  have HB1 : Hid (w.heap.size + 1 + 1 + 1 ≤ bm) := by show _ ≤ bm; omega
  clear HT t0 t1 t2 u0 u1 u2 v0 v1 v2 p1 p3 L1 L3 far3 hb1 f2 HS hW1 hW2 hW z0 z1 e2'
  go_wp2_with fail
  refine HS2.out.mono ?_
  rintro e w4 ⟨bl, rfl, o2, hb2, L4⟩
  obtain ⟨v1, v2, p3, L3⟩ := H3.out
  have hbm := p3.1
  have x1 := (L4.block _ (by omega)).trans v1
  have x2 := (L4.block _ (by omega)).trans v2
  have hz4 := L4.size
  obtain ⟨g1, g1', k1, -⟩ := two_cells x1
  obtain ⟨g2, g2', k2, -⟩ := two_cells x2
  have k11 := k1 0
  have k12 := k1 1
  have k21 := k2 1
  have p4 : MPart w4 bm ms.length ms.length ms := p3.far hz4 (fun i _ h => L4.block i h)
  have mo4 : MOver w4 bm bl ms := by
    obtain ⟨m1, m2, m3, m4⟩ := p3.over
    have m5 : MOver w3 bm bl ms := ⟨m1, by omega, m3, fun j hj => by
      obtain ⟨hv, g, xs, q1, q2, q3⟩ := m4 j hj
      exact ⟨hv, g, xs, q1, by omega, q3⟩⟩
    exact m5.far hz4 (fun i _ _ h => L4.block i h)
  have HF := hidP (And.intro p4.view (And.intro mo4 (And.intro o2 (chain L3 L4))))
  have HB2 : Hid (bl < w4.heap.size ∧ bm < bl) := ⟨o2.1, by omega⟩
  clear v1 v2 p3 L3 x1 x2 k1 k2 p4 mo4 o2 L4 H3 HS2
  go_wp2_with fail
  refine bodyPost_ret (v := .agg #[.slice (some ⟨bm, 0, none⟩) ms.length ms.length, .slice (some ⟨bl, 0, none⟩) ls.length ls.length]) (by simp [results, Try.results92, go_sem, g1, g1']) rfl ?_
  obtain ⟨w5, hw5⟩ : ∃ w5, ((w4.setCell ⟨w.heap.size + 1 + 1, 1, none⟩ (.slice (some ⟨bl, 0, none⟩) ls.length ls.length)).setCell ⟨w.heap.size + 1, 0, none⟩ (.slice (some ⟨bm, 0, none⟩) ms.length ms.length)).setCell ⟨w.heap.size + 1, 1, none⟩ (.slice (some ⟨bl, 0, none⟩) ls.length ls.length) = w5 := ⟨_, rfl⟩
  obtain ⟨q1, q2, q3, q4⟩ := HF.out
  have hb1 := HB1.out
  have hb2' := HB2.out
  have far5 : ∀ i, bm ≤ i → w5.heap[i]? = w4.heap[i]? := fun i hi => by
    rw [← hw5, Below.heap_setCell _ ⟨w.heap.size + 1, 1, none⟩ _ i (fun e => by have : i = w.heap.size + 1 := e; omega), Below.heap_setCell _ ⟨w.heap.size + 1, 0, none⟩ _ i (fun e => by have : i = w.heap.size + 1 := e; omega), Below.heap_setCell _ ⟨w.heap.size + 1 + 1, 1, none⟩ _ i (fun e => by have : i = w.heap.size + 1 + 1 := e; omega)]
  have z5 : w5.heap.size = w4.heap.size := by rw [← hw5]; simp [World.setCell]
  have L5 : Below w.heap.size w w5 := by rw [← hw5]; exact ((q4.setCell (by show w.heap.size ≤ w.heap.size + 1 + 1; omega) _).setCell (by show w.heap.size ≤ w.heap.size + 1; omega) _).setCell (by show w.heap.size ≤ w.heap.size + 1; omega) _
  have c5 : CPart w5 bl ls.length ls.length ls := q3.far (by omega) (fun i h1 _ => far5 i (by omega))
  rw [hw5]
  refine ⟨bm, bl, rfl, ⟨by omega, ?_, c5.view, q2.far (by omega) (fun i h1 _ _ => far5 i h1), c5.over, hb2'.2, Nat.le_refl _⟩, L5⟩
  rcases q1 with h | ⟨b, off, e, hb, hs⟩
  · exact Or.inl h
  · injection e with e
    injection e with e1 e2
    subst e1 e2
    refine Or.inr ⟨bm, 0, rfl, by omega, fun i hi => ?_⟩
    obtain ⟨c0, ao, cap, c1, hv⟩ := hs i hi
    obtain ⟨-, -, -, m4⟩ := q2
    obtain ⟨-, g, xs, hg1, hg2, cg, -, -⟩ := m4 i hi
    have eb := far5 bm (Nat.le_refl _)
    refine ⟨(World.cell?_of_block eb).trans c0, ao, cap, (World.cell?_of_block eb).trans c1, ?_⟩
    rw [show (0 : Nat) + i * 2 + 1 = i * 2 + 1 by omega, cg] at c1
    injection c1 with c1
    injection c1 with c1 c2' c3'
    rcases hv with h | ⟨b', off', e', hb', hs'⟩
    · exact Or.inl h
    · refine Or.inr ⟨b', off', e', by omega, fun k hk => ?_⟩
      have hbg : b' = g := by
        rw [e'] at c1
        injection c1 with c1
        injection c1 with c1
        exact c1.symm
      exact (World.cell?_of_block (far5 b' (by omega))).trans (hs' k hk)

end Go.Proofs.Ytbmljcpeonopmaa
namespace Go.Proofs.Ytbmljcpeonopmaa
open Go Go.RowKit

def totM : List Mk → Nat
  | [] => 0
  | m :: l => 1 + m.2.length + totM l
/-- The marks behind markMarkS: each number the next. -/
def mkM : Int → List Mk → List Mk
  | _, [] => []
  | k, m :: l => (k, tabL (fun i => k + 1 + i) m.2.length) :: mkM (k + 1 + m.2.length) l
theorem mkM_length (k : Int) (ms : List Mk) : (mkM k ms).length = ms.length := by
  induction ms generalizing k with
  | nil => rfl
  | cons m l ih => simp [mkM, ih]
theorem mkM_at (k : Int) (ms : List Mk) (j : Nat) (h : j < ms.length) : mnth (mkM k ms) j = (k + totM (ms.take j), tabL (fun i => k + totM (ms.take j) + 1 + i) (mnth ms j).2.length) := by
  induction ms generalizing k j with
  | nil => simp at h
  | cons m l ih =>
    cases j with
    | zero => simp [mkM, mnth, totM]
    | succ j =>
      have h' : j < l.length := by simpa using h
      have e := ih (k + 1 + m.2.length) j h'
      show mnth (mkM (k + 1 + m.2.length) l) j = _
      rw [e]
      have e2 : k + 1 + (m.2.length : Int) + (totM (l.take j) : Int) = k + (totM ((m :: l).take (j + 1)) : Int) := by
        simp only [List.take_succ_cons, totM]; omega
      rw [e2]
      rfl
theorem totM_take (ms : List Mk) (j : Nat) (h : j < ms.length) : totM (ms.take (j + 1)) = totM (ms.take j) + 1 + (mnth ms j).2.length := by
  induction ms generalizing j with
  | nil => simp at h
  | cons m l ih =>
    cases j with
    | zero => simp [totM, mnth]
    | succ j =>
      have h' : j < l.length := by simpa using h
      have e := ih j h'
      simp only [List.take_succ_cons, totM]
      rw [e]
      show _ = _ + (mnth l j).2.length
      omega
theorem totM_le (ms : List Mk) (n m : Nat) (h1 : ms.length ≤ n) (h : ∀ x ∈ ms, x.2.length ≤ m) : totM ms ≤ n * (m + 1) := by
  induction ms generalizing n with
  | nil => simp [totM]
  | cons a l ih =>
    cases n with
    | zero => simp at h1
    | succ n =>
      have e := ih n (by simpa using h1) (fun x hx => h x (List.mem_cons_of_mem _ hx))
      have e2 := h a (List.mem_cons_self)
      simp only [totM]
      have e3 : (n + 1) * (m + 1) = n * (m + 1) + (m + 1) := Nat.succ_mul n (m + 1)
      omega

set_option maxHeartbeats 1000000 in
theorem heldMS (ao : Option Addr) (cap : Nat) (ms : List Mk) (k0 : Int) (w : World) (hv : MView w ao (mkM k0 ms)) (hn : ms.length ≤ 60) (hat : ∀ x ∈ ms, x.2.length ≤ 4) (h0 : 1 ≤ k0) (h1 : k0 ≤ 1000000) :
    Calls Try.prog 43 #[.slice ao ms.length cap, .int .i64 k0] w fun e w' => e = .returned (.int .i64 (k0 + totM ms)) ∧ w' = w := by
  have HM := hidP hv
  have HAT := hidP hat
  clear hv hat
  go_enter Try.func43, Try.ntmps43
  go_wp2_with fail
  go_loop [1, 5] (fun kk i => ∃ j : Nat, j ≤ ms.length ∧ i = .int .i64 j ∧ kk = .int .i64 (k0 + totM (ms.take j))) (fun _ i => ms.length - (intOf i).toNat)
  case atStart => exact ⟨0, Nat.zero_le _, rfl, by simp [totM]⟩
  case round =>
    obtain ⟨j, hj, rfl, rfl⟩ := hrel
    by_cases hlt : j < ms.length
    · obtain ⟨b, off, rfl, hb, hs⟩ := mview_seg HM.out (by rw [mkM_length]; omega)
      have hm := hs j (by rw [mkM_length]; exact hlt)
      rw [mkM_at k0 ms j hlt] at hm
      obtain ⟨c0, a, c, c1, va⟩ := hm
      simp only [tabL_length] at c1
      have hl4 : (mnth ms j).2.length ≤ 4 := by
        have : mnth ms j = ms[j] := by simp [mnth, List.getD, hlt]
        rw [this]; exact HAT.out _ (List.getElem_mem hlt)
      have ht1 := totM_le (ms.take j) 60 4 (by simp; omega) (fun x hx => HAT.out x (List.mem_of_mem_take hx))
      have HTK := hidP (totM_take ms j hlt)
      have HH := hidP (heldI a c (mnth ms j).2.length (k0 + totM (ms.take j) + 1) w va (by omega) (by omega) (by omega))
      have hi0 : (0 : Int) ≤ (j : Int) := Int.natCast_nonneg _
      have hi1 : (j : Int) < (ms.length : Int) := by omega
      clear va hs
      generalize (mnth ms j).2.length = m at *
      have hneg : ¬ (k0 + (totM (ms.take j) : Int) + 1 + (m : Int) < 0) := by omega
      generalize hT : totM (ms.take j) = T at *
      have hne : ((k0 + (T : Int)) != (k0 + (T : Int))) = false := by simp
      have HT := hidP hT
      clear hT
      go_wp2_with fail
      refine HH.out.mono ?_
      rintro e w2 ⟨rfl, rfl⟩
      go_wp2_with fail
      go_round
      case rel => exact ⟨j + 1, by omega, by go_num, by rw [HTK.out]; congr 1; omega⟩
      case measure => simp [intOf]; omega
    · obtain rfl : j = ms.length := by omega
      go_wp2_with fail
      go_ret
      exact ⟨rfl, rfl⟩

end Go.Proofs.Ytbmljcpeonopmaa
namespace Go.Proofs.Ytbmljcpeonopmaa
open Go Go.RowKit

abbrev Wb := List Mk × List (List Int)
def wnth (ts : List Wb) (i : Nat) : Wb := ts.getD i ([], [])
/-- One web in a row; s: its slices have room for what they hold. -/
def WbAt (s : Bool) (w : World) (b off : Nat) (t : Wb) : Prop := ∃ am cm al cl, w.cell? ⟨b, off, none⟩ = some (.slice am t.1.length cm) ∧ w.cell? ⟨b, off + 1, none⟩ = some (.slice al t.2.length cl) ∧ MView w am t.1 ∧ CView w al t.2 ∧ (s = true → t.1.length ≤ cm ∧ t.2.length ≤ cl)
def WbSeg (s : Bool) (w : World) (b off : Nat) (ts : List Wb) : Prop := ∀ i, i < ts.length → WbAt s w b (off + i * 2) (wnth ts i)
def WbView (s : Bool) (w : World) (ao : Option Addr) (ts : List Wb) : Prop := ts = [] ∨ ∃ b off, ao = some ⟨b, off, none⟩ ∧ b < w.heap.size ∧ WbSeg s w b off ts
def WbSmall (ts : List Wb) : Prop := ts.length ≤ 1048576 ∧ ∀ i, MSmall (wnth ts i).1 ∧ CSmall (wnth ts i).2
theorem WbAt.next {s : Bool} {w w' : World} {b off : Nat} {t : Wb} (h : WbAt s w b off t) (hb : b < w.heap.size) (L : Below w.heap.size w w') : WbAt s w' b off t := by
  obtain ⟨am, cm, al, cl, h1, h2, h3, h4, h5⟩ := h
  exact ⟨am, cm, al, cl, (L.cell (p := ⟨b, off, none⟩) hb).trans h1, (L.cell (p := ⟨b, off + 1, none⟩) hb).trans h2, h3.next L, h4.next L, h5⟩
theorem WbSeg.next {s : Bool} {w w' : World} {b off : Nat} {ts : List Wb} (h : WbSeg s w b off ts) (hb : b < w.heap.size) (L : Below w.heap.size w w') : WbSeg s w' b off ts := fun i hi => (h i hi).next hb L
theorem WbView.next {s : Bool} {w w' : World} {ao : Option Addr} {ts : List Wb} (h : WbView s w ao ts) (L : Below w.heap.size w w') : WbView s w' ao ts := by
  rcases h with h | ⟨b, off, e, hb, hs⟩
  · exact Or.inl h
  · exact Or.inr ⟨b, off, e, Nat.lt_of_lt_of_le hb L.size, hs.next hb L⟩
theorem WbView.seg {s : Bool} {w : World} {ao : Option Addr} {ts : List Wb} (h : WbView s w ao ts) (h0 : 0 < ts.length) : ∃ b off, ao = some ⟨b, off, none⟩ ∧ b < w.heap.size ∧ WbSeg s w b off ts := by
  rcases h with h | h
  · subst h; simp at h0
  · exact h
theorem wnth_eq {ts us : List Wb} (hl : ts.length = us.length) (h : ∀ i, i < ts.length → wnth ts i = wnth us i) : ts = us := by
  refine List.ext_getElem hl (fun i h1 h2 => ?_)
  have := h i h1
  simpa [wnth, List.getD, h1, h2] using this

/-- A sum. -/
def tot (f : Nat → Nat) : Nat → Nat
  | 0 => 0
  | k + 1 => tot f k + f k
def mtot (ms : List Mk) : Nat := ms.length + tot (fun j => (mat ms j).length) ms.length
def ctot (ls : List (List Int)) : Nat := ls.length + tot (fun j => (cn ls j).length) ls.length
def wtot (t : Wb) : Nat := mtot t.1 + ctot t.2
def ttot (ts : List Wb) : Nat := ts.length + tot (fun j => wtot (wnth ts j)) ts.length
theorem cutV_pos {left : Int} {n : Nat} (h : ¬ cutV left n < 0) : cutV left n = left - n := by
  unfold cutV at h ⊢
  split at h
  · exact absurd (show (-1 : Int) < 0 by decide) h
  · rename_i hc; rw [if_neg hc]

set_option maxHeartbeats 400000 in
theorem szMg_long (ao : Option Addr) (n cap : Nat) (left : Int) (w : World) (hn : n ≤ maxLen) (h0 : 0 ≤ left) (h : left < n) :
    Calls Try.prog 28 #[.slice ao n cap, .int .i64 left] w fun e w' => e = .returned (.int .i64 (-1)) ∧ w' = w := by
  unfold maxLen at hn
  have ht : left - n < 0 := by omega
  go_enter Try.func28, Try.ntmps28
  go_wp2
  go_ret
  exact ⟨rfl, rfl⟩

set_option maxHeartbeats 400000 in
theorem szMg_nil (ao : Option Addr) (cap : Nat) (left : Int) (w : World) (h0 : 0 ≤ left) (h1 : left ≤ 1048576) :
    Calls Try.prog 28 #[.slice ao 0 cap, .int .i64 left] w fun e w' => e = .returned (.int .i64 left) ∧ w' = w := by
  have ht : ¬ left < 0 := by omega
  go_enter Try.func28, Try.ntmps28
  go_wp2
  refine wp_loop_rounds 1 ?_
  rw [rounds_succ]
  go_wp2
  go_ret
  exact ⟨rfl, rfl⟩

set_option maxHeartbeats 800000 in
theorem szMg_seg (b off cap : Nat) (ms : List Mk) (left0 : Int) (w : World) (hs : MSeg w b off ms) (hb : b < w.heap.size) (hn : (ms.length : Int) ≤ left0) (hl0 : left0 ≤ 1048576) (hat : ∀ i, (mat ms i).length ≤ maxLen) :
    Calls Try.prog 28 #[.slice (some ⟨b, off, none⟩) ms.length cap, .int .i64 left0] w fun e w' => ∃ r, e = .returned (.int .i64 r) ∧ r ≤ left0 ∧ (r < 0 ∨ (MSmall ms ∧ (mtot ms : Int) + r = left0)) ∧ Below w.heap.size w w' := by
  have ht : ¬ left0 - ms.length < 0 := by omega
  go_enter Try.func28, Try.ntmps28
  go_wp2
  go_loopw [1, 5] (fun l i wr => ∃ (k : Nat) (left : Int), k ≤ ms.length ∧ i = .int .i64 k ∧ l = .int .i64 left ∧ 0 ≤ left ∧ left + (tot (fun j => (mat ms j).length) k : Nat) = left0 - ms.length ∧ (∀ j, j < k → (mat ms j).length ≤ 1048576) ∧ Below w.heap.size w wr) (fun _ i _ => ms.length - (intOf i).toNat)
  case atStart => exact ⟨0, left0 - ms.length, Nat.zero_le _, rfl, rfl, by omega, by simp [tot], fun j hj => by omega, Below.refl _ _⟩
  case round =>
    obtain ⟨k, left, hk, rfl, rfl, h0, h1', hall, L⟩ := hrel
    have HT := hidP h1'
    have h1 : left ≤ 1048576 := by omega
    have hle0 : left ≤ left0 := by omega
    clear h1'
    have HA := hidP hall
    clear hall
    by_cases hlt : k < ms.length
    · obtain ⟨hc0, ao, cap', hc1, hv⟩ := (hs.below hb (Nat.le_refl _) L).at hlt
      have hcut := cutV_le (mat ms k).length (by omega) h1
      have HS := hidP (fun h => cutV_small (n := (mat ms k).length) h1 h)
      have HP := hidP (fun h => cutV_pos (left := left) (n := (mat ms k).length) h)
      have HTS : Hid (tot (fun j => (mat ms j).length) (k + 1) = tot (fun j => (mat ms j).length) k + (mat ms k).length) := rfl
      have hz := L.size
      clear hv
      go_wp2_with fail
      refine (szM (mnth ms k) ao cap' left _ (hat k) h0 h1).mono ?_
      rintro e w1 ⟨rfl, L1⟩
      rw [← mnth_mem_len] at *
      by_cases hneg : cutV left (mat ms k).length < 0
      · go_wp2_with fail
        go_ret
        exact ⟨_, rfl, by omega, Or.inl (by omega), L.trans (L1.mono hz)⟩
      · have HC := hidP (HP.out (by omega))
        go_wp2_with fail
        go_roundw
        case rel => exact ⟨k + 1, cutV left (mat ms k).length, by omega, by go_num, rfl, by omega, by have := HC.out; have := HT.out; have := HTS.out; omega, fun j hj => by
          rcases Nat.lt_or_ge j k with h | h
          · exact HA.out j h
          · rw [show j = k by omega]; exact HS.out (by omega), L.trans (L1.mono hz)⟩
        case measure => simp [intOf]; omega
    · go_wp2
      go_ret
      obtain rfl : k = ms.length := by omega
      refine ⟨_, rfl, hle0, Or.inr ⟨⟨by omega, fun i => ?_⟩, by have := HT.out; unfold mtot; omega⟩, L⟩
      rcases Nat.lt_or_ge i ms.length with h | h
      · exact HA.out i h
      · simp [mat, List.getD, h]

theorem szMg (ao : Option Addr) (cap : Nat) (ms : List Mk) (left0 : Int) (w : World) (hv : MView w ao ms) (h0 : 0 ≤ left0) (hl0 : left0 ≤ 1048576) (hn : ms.length ≤ maxLen) (hat : ∀ i, (mat ms i).length ≤ maxLen) :
    Calls Try.prog 28 #[.slice ao ms.length cap, .int .i64 left0] w fun e w' => ∃ r, e = .returned (.int .i64 r) ∧ r ≤ left0 ∧ (r < 0 ∨ (MSmall ms ∧ (mtot ms : Int) + r = left0)) ∧ Below w.heap.size w w' := by
  rcases Int.lt_or_le left0 ms.length with h | h
  · refine (szMg_long ao ms.length cap left0 w hn h0 h).mono ?_
    rintro e w' ⟨rfl, rfl⟩
    exact ⟨_, rfl, by omega, Or.inl (by omega), Below.refl _ _⟩
  · rcases hv with rfl | ⟨b, off, rfl, hb, hs⟩
    · refine (szMg_nil ao cap left0 w h0 hl0).mono ?_
      rintro e w' ⟨rfl, rfl⟩
      exact ⟨_, rfl, by omega, Or.inr ⟨⟨by simp, fun i => by simp [mat]⟩, by simp [mtot, tot]⟩, Below.refl _ _⟩
    · exact szMg_seg b off cap ms left0 w hs hb h hl0 hat

set_option maxHeartbeats 800000 in
theorem szCg_seg (b off cap : Nat) (ls : List (List Int)) (left0 : Int) (w : World) (hs : CSeg w b off ls) (hn : (ls.length : Int) ≤ left0) (hl0 : left0 ≤ 1048576) (hat : ∀ i, (cn ls i).length ≤ maxLen) :
    Calls Try.prog 107 #[.slice (some ⟨b, off, none⟩) ls.length cap, .int .i64 left0] w fun e w' => ∃ r, e = .returned (.int .i64 r) ∧ r ≤ left0 ∧ (r < 0 ∨ (CSmall ls ∧ (ctot ls : Int) + r = left0)) ∧ w' = w := by
  have ht : ¬ left0 - ls.length < 0 := by omega
  go_enter Try.func107, Try.ntmps107
  go_wp2
  go_loop [1, 5] (fun l i => ∃ (k : Nat) (left : Int), k ≤ ls.length ∧ i = .int .i64 k ∧ l = .int .i64 left ∧ 0 ≤ left ∧ left + (tot (fun j => (cn ls j).length) k : Nat) = left0 - ls.length ∧ (∀ j, j < k → (cn ls j).length ≤ 1048576)) (fun _ i => ls.length - (intOf i).toNat)
  case atStart => exact ⟨0, left0 - ls.length, Nat.zero_le _, rfl, rfl, by omega, by simp [tot], fun j hj => by omega⟩
  case round =>
    obtain ⟨k, left, hk, rfl, rfl, h0, h1', hall⟩ := hrel
    have HT := hidP h1'
    have h1 : left ≤ 1048576 := by omega
    have hle0 : left ≤ left0 := by omega
    clear h1'
    have HA := hidP hall
    clear hall
    by_cases hlt : k < ls.length
    · obtain ⟨ao, cap', hc1, hv⟩ := hs k hlt
      have hcut := cutV_le (cn ls k).length (by omega) h1
      have HS := hidP (fun h => cutV_small (n := (cn ls k).length) h1 h)
      have HP := hidP (fun h => cutV_pos (left := left) (n := (cn ls k).length) h)
      have HTS : Hid (tot (fun j => (cn ls j).length) (k + 1) = tot (fun j => (cn ls j).length) k + (cn ls k).length) := rfl
      clear hv
      go_wp2_with fail
      refine (szS ao (cn ls k).length cap' left _ (hat k) h0 h1).mono ?_
      rintro e w1 ⟨rfl, rfl⟩
      by_cases hneg : cutV left (cn ls k).length < 0
      · go_wp2_with fail
        go_ret
        exact ⟨_, rfl, by omega, Or.inl (by omega), rfl⟩
      · have HC := hidP (HP.out (by omega))
        go_wp2_with fail
        go_round
        case rel => exact ⟨k + 1, cutV left (cn ls k).length, by omega, by go_num, rfl, by omega, by have := HC.out; have := HT.out; have := HTS.out; omega, fun j hj => by
          rcases Nat.lt_or_ge j k with h | h
          · exact HA.out j h
          · rw [show j = k by omega]; exact HS.out (by omega)⟩
        case measure => simp [intOf]; omega
    · go_wp2
      go_ret
      obtain rfl : k = ls.length := by omega
      refine ⟨_, rfl, hle0, Or.inr ⟨⟨by omega, fun i => ?_⟩, by have := HT.out; unfold ctot; omega⟩, rfl⟩
      rcases Nat.lt_or_ge i ls.length with h | h
      · exact HA.out i h
      · simp [cn, List.getD, h]

theorem szCg (ao : Option Addr) (cap : Nat) (ls : List (List Int)) (left0 : Int) (w : World) (hv : CView w ao ls) (h0 : 0 ≤ left0) (hl0 : left0 ≤ 1048576) (hn : ls.length ≤ maxLen) (hat : ∀ i, (cn ls i).length ≤ maxLen) :
    Calls Try.prog 107 #[.slice ao ls.length cap, .int .i64 left0] w fun e w' => ∃ r, e = .returned (.int .i64 r) ∧ r ≤ left0 ∧ (r < 0 ∨ (CSmall ls ∧ (ctot ls : Int) + r = left0)) ∧ w' = w := by
  rcases Int.lt_or_le left0 ls.length with h | h
  · refine (szCS_long ao ls.length cap left0 w hn h0 h).mono ?_
    rintro e w' ⟨rfl, rfl⟩
    exact ⟨_, rfl, by omega, Or.inl (by omega), rfl⟩
  · rcases hv with rfl | ⟨b, off, rfl, hb, hs⟩
    · refine (szCS_nil ao cap left0 w h0 hl0).mono ?_
      rintro e w' ⟨rfl, rfl⟩
      exact ⟨_, rfl, by omega, Or.inr ⟨⟨by simp, fun i => by simp [cn]⟩, by simp [ctot, tot]⟩, rfl⟩
    · exact szCg_seg b off cap ls left0 w hs h hl0 hat

set_option maxRecDepth 100000 in
set_option maxHeartbeats 1000000 in
theorem szWg (a1 a2 : Option Addr) (c1 c2 : Nat) (ms : List Mk) (ls : List (List Int)) (left0 : Int) (w : World) (h1 : MView w a1 ms) (h2 : CView w a2 ls) (h0 : 0 ≤ left0) (hl0 : left0 ≤ 1048576) (n1 : ms.length ≤ maxLen) (t1 : ∀ i, (mat ms i).length ≤ maxLen) (n2 : ls.length ≤ maxLen) (t2 : ∀ i, (cn ls i).length ≤ maxLen) :
    Calls Try.prog 88 #[.agg #[.slice a1 ms.length c1, .slice a2 ls.length c2], .int .i64 left0] w fun e w' => ∃ r, e = .returned (.int .i64 r) ∧ r ≤ left0 ∧ (r < 0 ∨ (MSmall ms ∧ CSmall ls ∧ (wtot (ms, ls) : Int) + r = left0)) ∧ Below w.heap.size w w' := by
  obtain ⟨W, hW⟩ : ∃ W, w.alloc (.cells #[.slice a1 ms.length c1, .slice a2 ls.length c2] 134) = W := ⟨_, rfl⟩
  have hB : Below w.heap.size w W := by rw [← hW]; exact (Below.refl _ _).alloc (Nat.le_refl _) _
  have hI : WebIn W w.heap.size a1 c1 ms a2 c2 ls := by rw [← hW]; exact WebIn.box h1 h2
  have HB := hidP hB
  have HI := hidP hI
  have k0 := hI.c0
  have HS := hidP (szMg a1 c1 ms left0 W hI.mv h0 hl0 n1 t1)
  have HS2 := hidP (fun (W' : World) (L : Below W.heap.size W W') (r : Int) (h0 : 0 ≤ r) (h1 : r ≤ 1048576) => szCg a2 c2 ls r W' (hI.below L).cv h0 h1 n2 t2)
  clear h1 h2 hB hI t1 t2
  go_enter Try.func88, Try.ntmps88
  go_wp2_with fail
  refine HS.out.mono ?_
  rintro e w1 ⟨r, rfl, hr1, hr, L1⟩
  by_cases hneg : r < 0
  · go_wp2_with fail
    go_ret
    exact ⟨-1, rfl, by omega, Or.inl (by omega), chain HB.out L1⟩
  have hsm : MSmall ms ∧ (mtot ms : Int) + r = left0 := by rcases hr with h | h; exact absurd h hneg; exact h
  have HSM := hidP hsm
  have c1' := (HI.out.below L1).c1
  have HC := hidP (HS2.out w1 L1 r (by omega) (by omega))
  have HL1 := hidP (chain HB.out L1)
  clear hr L1 hW hsm
  go_wp2_with fail
  refine HC.out.mono ?_
  rintro e w2 ⟨r2, rfl, hr21, hr2, hw2⟩
  subst hw2
  by_cases hneg2 : r2 < 0
  · go_wp2_with fail
    go_ret
    exact ⟨-1, rfl, by omega, Or.inl (by omega), HL1.out⟩
  have HCS : Hid (CSmall ls ∧ (ctot ls : Int) + r2 = r) := by rcases hr2 with h | h; exact absurd h hneg2; exact h
  clear hr2
  go_wp2_with fail
  go_ret
  exact ⟨r2, rfl, by omega, Or.inr ⟨HSM.out.1, HCS.out.1, by have := HSM.out.2; have := HCS.out.2; unfold wtot; simp only; omega⟩, HL1.out⟩
end Go.Proofs.Ytbmljcpeonopmaa
namespace Go.Proofs.Ytbmljcpeonopmaa
open Go Go.RowKit

theorem Try.info105 : (Try.prog.info? 105).map (fun i => (i.zero, i.size, i.bytes)) = some (some (.agg #[.slice none 0 0, .slice none 0 0]), 2, 48) := by kernel_rfl

theorem mview_far {w w' : World} {bm hi : Nat} {ms : List Mk} (q1 : MView w (some ⟨bm, 0, none⟩) ms) (q2 : MOver w bm hi ms) (hs : w.heap.size ≤ w'.heap.size) (far : ∀ i, bm ≤ i → i < w.heap.size → w'.heap[i]? = w.heap[i]?) : MView w' (some ⟨bm, 0, none⟩) ms := by
  rcases q1 with h | ⟨b, off, e, hb, hsg⟩
  · exact Or.inl h
  · injection e with e
    injection e with e1 e2
    subst e1 e2
    refine Or.inr ⟨bm, 0, rfl, by omega, fun i hi' => ?_⟩
    obtain ⟨c0, ao, cap, c1, hv⟩ := hsg i hi'
    obtain ⟨-, -, -, m4⟩ := q2
    obtain ⟨-, g, xs, hg1, hg2, cg, -, -⟩ := m4 i hi'
    have eb := far bm (Nat.le_refl _) hb
    refine ⟨(World.cell?_of_block eb).trans c0, ao, cap, (World.cell?_of_block eb).trans c1, ?_⟩
    rw [show (0 : Nat) + i * 2 + 1 = i * 2 + 1 by omega, cg] at c1
    injection c1 with c1
    injection c1 with c1 c2' c3'
    rcases hv with h | ⟨b', off', e', hb', hs'⟩
    · exact Or.inl h
    · refine Or.inr ⟨b', off', e', by omega, fun k hk => ?_⟩
      have hbg : b' = g := by
        rw [e'] at c1
        injection c1 with c1
        injection c1 with c1
        exact c1.symm
      exact (World.cell?_of_block (far b' (by omega) hb')).trans (hs' k hk)
theorem cview_far {w w' : World} {bm hi : Nat} {ls : List (List Int)} (q1 : CView w (some ⟨bm, 0, none⟩) ls) (q2 : COver w bm hi ls) (hs : w.heap.size ≤ w'.heap.size) (far : ∀ i, bm ≤ i → i < w.heap.size → w'.heap[i]? = w.heap[i]?) : CView w' (some ⟨bm, 0, none⟩) ls := by
  rcases q1 with h | ⟨b, off, e, hb, hsg⟩
  · exact Or.inl h
  · injection e with e
    injection e with e1 e2
    subst e1 e2
    refine Or.inr ⟨bm, 0, rfl, by omega, fun i hi' => ?_⟩
    obtain ⟨ao, cap, c1, hv⟩ := hsg i hi'
    obtain ⟨-, -, m4⟩ := q2
    obtain ⟨g, xs, hg1, hg2, cg, -, -⟩ := m4 i hi'
    have eb := far bm (Nat.le_refl _) hb
    refine ⟨ao, cap, (World.cell?_of_block eb).trans c1, ?_⟩
    rw [show (0 : Nat) + i = i by omega, cg] at c1
    injection c1 with c1
    injection c1 with c1 c2' c3'
    rcases hv with h | ⟨b', off', e', hb', hs'⟩
    · exact Or.inl h
    · refine Or.inr ⟨b', off', e', by omega, fun k hk => ?_⟩
      have hbg : b' = g := by
        rw [e'] at c1
        injection c1 with c1
        injection c1 with c1
        exact c1.symm
      exact (World.cell?_of_block (far b' (by omega) hb')).trans (hs' k hk)
theorem WebOwn.far {lo hi : Nat} {w w' : World} {bm bl : Nat} {ms : List Mk} {ls : List (List Int)} (h : WebOwn lo hi w bm bl ms ls) (hs : w.heap.size ≤ w'.heap.size) (far : ∀ i, lo ≤ i → i < hi → w'.heap[i]? = w.heap[i]?) : WebOwn lo hi w' bm bl ms ls := by
  have hlo := h.lo
  have hlt := h.lt
  have hbh : bl < hi := h.co.2.1
  have hh := h.hi
  refine ⟨hlo, ?_, ?_, h.mo.far hs (fun i h1 h2 _ => far i (by omega) (by omega)), h.co.far hs (fun i h1 h2 _ => far i (by omega) h2), hlt, by omega⟩
  · rcases h.mv with e | ⟨b, off, e, hb, hsg⟩
    · exact Or.inl e
    · injection e with e
      injection e with e1 e2
      subst e1 e2
      refine Or.inr ⟨bm, 0, rfl, by omega, fun i hi' => ?_⟩
      obtain ⟨c0, ao, cap, c1, hv⟩ := hsg i hi'
      obtain ⟨-, -, -, m4⟩ := h.mo
      obtain ⟨-, g, xs, hg1, hg2, cg, -, -⟩ := m4 i hi'
      have eb := far bm hlo (by omega)
      refine ⟨(World.cell?_of_block eb).trans c0, ao, cap, (World.cell?_of_block eb).trans c1, ?_⟩
      rw [show (0 : Nat) + i * 2 + 1 = i * 2 + 1 by omega, cg] at c1
      injection c1 with c1
      injection c1 with c1 c2' c3'
      rcases hv with e | ⟨b', off', e', hb', hs'⟩
      · exact Or.inl e
      · refine Or.inr ⟨b', off', e', by omega, fun k hk => ?_⟩
        have hbg : b' = g := by
          rw [e'] at c1
          injection c1 with c1
          injection c1 with c1
          exact c1.symm
        exact (World.cell?_of_block (far b' (by omega) (by omega))).trans (hs' k hk)
  · rcases h.cv with e | ⟨b, off, e, hb, hsg⟩
    · exact Or.inl e
    · injection e with e
      injection e with e1 e2
      subst e1 e2
      refine Or.inr ⟨bl, 0, rfl, by omega, fun i hi' => ?_⟩
      obtain ⟨ao, cap, c1, hv⟩ := hsg i hi'
      obtain ⟨-, -, m4⟩ := h.co
      obtain ⟨g, xs, hg1, hg2, cg, -, -⟩ := m4 i hi'
      have eb := far bl (by omega) hbh
      refine ⟨ao, cap, (World.cell?_of_block eb).trans c1, ?_⟩
      rw [show (0 : Nat) + i = i by omega, cg] at c1
      injection c1 with c1
      injection c1 with c1 c2' c3'
      rcases hv with e | ⟨b', off', e', hb', hs'⟩
      · exact Or.inl e
      · refine Or.inr ⟨b', off', e', by omega, fun k hk => ?_⟩
        have hbg : b' = g := by
          rw [e'] at c1
          injection c1 with c1
          injection c1 with c1
          exact c1.symm
        exact (World.cell?_of_block (far b' (by omega) (by omega))).trans (hs' k hk)

/-- A row of webs that a call fills: the first k are there, each in blocks of its own, one behind the other. -/
structure WbPart (w : World) (b k n : Nat) (ts : List Wb) (lo : Nat → Nat) : Prop where
  lt : b < w.heap.size
  first : b < lo 0
  last : lo k ≤ w.heap.size
  mono : ∀ i, i < k → lo i ≤ lo (i + 1)
  at_ : ∀ i, i < k → ∃ bm bl, w.cell? ⟨b, i * 2, none⟩ = some (.slice (some ⟨bm, 0, none⟩) (wnth ts i).1.length (wnth ts i).1.length) ∧ w.cell? ⟨b, i * 2 + 1, none⟩ = some (.slice (some ⟨bl, 0, none⟩) (wnth ts i).2.length (wnth ts i).2.length) ∧ WebOwn (lo i) (lo (i + 1)) w bm bl (wnth ts i).1 (wnth ts i).2
  room : ∀ j, j < n * 2 → ∃ v, w.cell? ⟨b, j, none⟩ = some v
  frozen : ∀ j, w.frozen? ⟨b, j, none⟩ = false
theorem WbPart.lo_le {w : World} {b k n : Nat} {ts : List Wb} {lo : Nat → Nat} (h : WbPart w b k n ts lo) (i : Nat) (hi : i ≤ k) : lo 0 ≤ lo i := by
  induction i with
  | zero => exact Nat.le_refl _
  | succ i ih => exact Nat.le_trans (ih (by omega)) (h.mono i (by omega))
theorem WbPart.le_last {w : World} {b k n : Nat} {ts : List Wb} {lo : Nat → Nat} (h : WbPart w b k n ts lo) (i : Nat) (hi : i ≤ k) : lo i ≤ lo k := by
  obtain ⟨d, rfl⟩ : ∃ d, k = i + d := ⟨k - i, by omega⟩
  clear hi
  have : ∀ m, m ≤ d → lo i ≤ lo (i + m) := by
    intro m
    induction m with
    | zero => intro _; exact Nat.le_refl _
    | succ m ih => intro hm; exact Nat.le_trans (ih (by omega)) (h.mono (i + m) (by omega))
  exact this d (Nat.le_refl _)
theorem WbPart.next {w w' : World} {b k n : Nat} {ts : List Wb} {lo : Nat → Nat} (h : WbPart w b k n ts lo) (L : Below w.heap.size w w') : WbPart w' b k n ts lo := by
  refine ⟨Nat.lt_of_lt_of_le h.lt L.size, h.first, Nat.le_trans h.last L.size, h.mono, fun i hi => ?_, fun j hj => ?_, fun j => (L.frozen (p := ⟨b, j, none⟩) h.lt).trans (h.frozen j)⟩
  · obtain ⟨bm, bl, c0, c1, ho⟩ := h.at_ i hi
    exact ⟨bm, bl, (L.cell (p := ⟨b, i * 2, none⟩) h.lt).trans c0, (L.cell (p := ⟨b, i * 2 + 1, none⟩) h.lt).trans c1, ho.next L⟩
  · obtain ⟨v, hv⟩ := h.room j hj
    exact ⟨v, (L.cell (p := ⟨b, j, none⟩) h.lt).trans hv⟩
theorem WbPart.view {w : World} {b : Nat} {ts : List Wb} {lo : Nat → Nat} (h : WbPart w b ts.length ts.length ts lo) : WbView true w (some ⟨b, 0, none⟩) ts :=
  Or.inr ⟨b, 0, rfl, h.lt, fun i hi => by
    obtain ⟨bm, bl, c0, c1, ho⟩ := h.at_ i hi
    exact ⟨_, _, _, _, by rw [Nat.zero_add]; exact c0, by rw [Nat.zero_add]; exact c1, ho.mv, ho.cv, fun _ => ⟨Nat.le_refl _, Nat.le_refl _⟩⟩⟩
theorem WbPart.start (w : World) (n : Nat) (ts : List Wb) (t : TypeId) : WbPart (w.alloc (.cells (madeCells #[.slice none 0 0, .slice none 0 0] (n * 2)) t)) w.heap.size 0 n ts (fun _ => w.heap.size + 1) := by
  refine ⟨by simp, by simp, by simp, fun i hi => by omega, fun i hi => by omega, fun j hj => ?_, fun j => World.frozen?_alloc_at _ _ _ _ rfl⟩
  rw [World.cell?_alloc_at _ _ _ _ rfl]
  refine ⟨_, Array.getElem?_eq_getElem (by rw [size_madeCells]; exact hj)⟩
def updN (f : Nat → Nat) (m v : Nat) (i : Nat) : Nat := if i = m then v else f i
theorem WbPart.step {w w' : World} {b k n bm bl : Nat} {ts : List Wb} {lo : Nat → Nat} (h : WbPart w b k n ts lo) (hk : k < n) (L : Below w.heap.size w w') (ho : WebOwn w.heap.size w'.heap.size w' bm bl (wnth ts k).1 (wnth ts k).2) :
    WbPart ((w'.setCell ⟨b, k * 2, none⟩ (.slice (some ⟨bm, 0, none⟩) (wnth ts k).1.length (wnth ts k).1.length)).setCell ⟨b, k * 2 + 1, none⟩ (.slice (some ⟨bl, 0, none⟩) (wnth ts k).2.length (wnth ts k).2.length)) b (k + 1) n ts (updN lo (k + 1) w'.heap.size) := by
  have hb := h.lt
  have hbw : b < w'.heap.size := Nat.lt_of_lt_of_le hb L.size
  have hN := h.next L
  generalize hu : Value.slice (some ⟨bm, 0, none⟩) (wnth ts k).1.length (wnth ts k).1.length = u
  generalize hv : Value.slice (some ⟨bl, 0, none⟩) (wnth ts k).2.length (wnth ts k).2.length = v
  obtain ⟨W, hW⟩ : ∃ W, (w'.setCell ⟨b, k * 2, none⟩ u).setCell ⟨b, k * 2 + 1, none⟩ v = W := ⟨_, rfl⟩
  have hsz : W.heap.size = w'.heap.size := by rw [← hW]; simp [World.setCell]
  have far : ∀ i, i ≠ b → W.heap[i]? = w'.heap[i]? := fun i hi => by
    rw [← hW, Below.heap_setCell _ ⟨b, k * 2 + 1, none⟩ _ i (fun e => hi e), Below.heap_setCell _ ⟨b, k * 2, none⟩ _ i (fun e => hi e)]
  obtain ⟨x0, hx0⟩ := hN.room (k * 2) (by omega)
  obtain ⟨x1, hx1⟩ := hN.room (k * 2 + 1) (by omega)
  have c0 : W.cell? ⟨b, k * 2, none⟩ = some u := by rw [← hW, World.cell?_setCell_other _ _ _ _ (by intro e; simp only [Addr.mk.injEq] at e; omega)]; exact World.cell?_setCell_same _ _ _ hx0
  have c1 : W.cell? ⟨b, k * 2 + 1, none⟩ = some v := by
    rw [← hW]
    refine World.cell?_setCell_same _ _ _ (?_ : _ = some x1)
    rw [World.cell?_setCell_other _ _ _ _ (by intro e; simp only [Addr.mk.injEq] at e; omega)]
    exact hx1
  have co : ∀ j, j ≠ k * 2 → j ≠ k * 2 + 1 → W.cell? ⟨b, j, none⟩ = w'.cell? ⟨b, j, none⟩ := fun j h1 h2 => by
    rw [← hW, World.cell?_setCell_other _ _ _ _ (by intro e; simp only [Addr.mk.injEq] at e; omega), World.cell?_setCell_other _ _ _ _ (by intro e; simp only [Addr.mk.injEq] at e; omega)]
  rw [hW]
  have hlo0 := h.first
  have hlk : lo k ≤ w.heap.size := h.last
  have hLs := L.size
  have e1 : ∀ i, i ≤ k → updN lo (k + 1) w'.heap.size i = lo i := fun i hi => by unfold updN; rw [if_neg (by omega)]
  have e2 : updN lo (k + 1) w'.heap.size (k + 1) = w'.heap.size := by unfold updN; rw [if_pos rfl]
  refine ⟨by omega, by rw [e1 0 (by omega)]; exact hlo0, by rw [e2]; omega, fun i hi => ?_, fun i hi => ?_, fun j hj => ?_, fun j => ?_⟩
  · rcases Nat.lt_or_ge i k with h1 | h1
    · rw [e1 i (by omega), e1 (i + 1) (by omega)]; exact h.mono i h1
    · obtain rfl : i = k := by omega
      rw [e1 i (by omega), e2]; omega
  · rcases Nat.lt_or_ge i k with h1 | h1
    · obtain ⟨bm', bl', d0, d1, ho'⟩ := hN.at_ i h1
      rw [e1 i (by omega), e1 (i + 1) (by omega)]
      have hl0 := h.lo_le i (by omega)
      have hl1 := h.le_last (i + 1) (by omega)
      exact ⟨bm', bl', (co _ (by omega) (by omega)).trans d0, (co _ (by omega) (by omega)).trans d1, ho'.far (by omega) (fun j hj1 hj2 => far j (by omega))⟩
    · obtain rfl : i = k := by omega
      rw [e1 i (by omega), e2]
      refine ⟨bm, bl, by rw [c0, hu], by rw [c1, hv], ?_⟩
      have hoo : WebOwn w.heap.size w'.heap.size W bm bl (wnth ts i).1 (wnth ts i).2 := ho.far (by omega) (fun j hj1 _ => far j (by omega))
      exact ⟨Nat.le_trans hlk hoo.lo, hoo.mv, hoo.cv, hoo.mo, hoo.co, hoo.lt, hoo.hi⟩
  · by_cases h1 : j = k * 2
    · exact ⟨_, by rw [h1]; exact c0⟩
    · by_cases h2 : j = k * 2 + 1
      · exact ⟨_, by rw [h2]; exact c1⟩
      · obtain ⟨v, hv⟩ := hN.room j hj
        exact ⟨v, (co j h1 h2).trans hv⟩
  · rw [← hW]
    simp only [World.frozen?_setCell]
    exact hN.frozen j
end Go.Proofs.Ytbmljcpeonopmaa
namespace Go.Proofs.Ytbmljcpeonopmaa
open Go Go.RowKit

theorem WbSeg.at {s : Bool} {w : World} {b off : Nat} {ts : List Wb} (h : WbSeg s w b off ts) {i : Nat} (hi : i < ts.length) : ∃ am cm al cl, w.cell? ⟨b, off + i * 2, none⟩ = some (.slice am (wnth ts i).1.length cm) ∧ w.cell? ⟨b, off + i * 2 + 1, none⟩ = some (.slice al (wnth ts i).2.length cl) ∧ MView w am (wnth ts i).1 ∧ CView w al (wnth ts i).2 ∧ (s = true → (wnth ts i).1.length ≤ cm ∧ (wnth ts i).2.length ≤ cl) := h i hi

theorem WbPart.far {w w' : World} {b k n : Nat} {ts : List Wb} {lo : Nat → Nat} (h : WbPart w b k n ts lo) (hs : w.heap.size ≤ w'.heap.size) (far : ∀ i, b ≤ i → i < w.heap.size → w'.heap[i]? = w.heap[i]?) : WbPart w' b k n ts lo := by
  have eb := far b (Nat.le_refl _) h.lt
  have h0 := h.first
  have hl := h.last
  refine ⟨Nat.lt_of_lt_of_le h.lt hs, h0, Nat.le_trans hl hs, h.mono, fun i hi => ?_, fun j hj => ?_, fun j => (World.frozen?_of_block eb).trans (h.frozen j)⟩
  · obtain ⟨bm, bl, c0, c1, ho⟩ := h.at_ i hi
    have h1 := h.lo_le i (by omega)
    have h2 := h.le_last (i + 1) (by omega)
    exact ⟨bm, bl, (World.cell?_of_block eb).trans c0, (World.cell?_of_block eb).trans c1, ho.far hs (fun j hj1 hj2 => far j (by omega) (by omega))⟩
  · obtain ⟨v, hv⟩ := h.room j hj
    exact ⟨v, (World.cell?_of_block eb).trans hv⟩

set_option maxHeartbeats 400000 in
theorem szWS_long (ao : Option Addr) (n cap : Nat) (left : Int) (w : World) (hn : n ≤ maxLen) (h0 : 0 ≤ left) (h : left < n) :
    Calls Try.prog 61 #[.slice ao n cap, .int .i64 left] w fun e w' => e = .returned (.int .i64 (-1)) ∧ w' = w := by
  unfold maxLen at hn
  have ht : left - n < 0 := by omega
  go_enter Try.func61, Try.ntmps61
  go_wp2
  go_ret
  exact ⟨rfl, rfl⟩

set_option maxHeartbeats 400000 in
theorem szWS_nil (ao : Option Addr) (cap : Nat) (left : Int) (w : World) (h0 : 0 ≤ left) (h1 : left ≤ 1048576) :
    Calls Try.prog 61 #[.slice ao 0 cap, .int .i64 left] w fun e w' => e = .returned (.int .i64 left) ∧ w' = w := by
  have ht : ¬ left < 0 := by omega
  go_enter Try.func61, Try.ntmps61
  go_wp2
  refine wp_loop_rounds 1 ?_
  rw [rounds_succ]
  go_wp2
  go_ret
  exact ⟨rfl, rfl⟩

set_option maxRecDepth 100000 in
set_option maxHeartbeats 800000 in
theorem szWS_seg (s : Bool) (b off cap : Nat) (ts : List Wb) (left0 : Int) (w : World) (hs : WbSeg s w b off ts) (hb : b < w.heap.size) (hn : (ts.length : Int) ≤ left0) (hl0 : left0 ≤ 1048576) (hat : ∀ i, (wnth ts i).1.length ≤ maxLen ∧ (∀ j, (mat (wnth ts i).1 j).length ≤ maxLen) ∧ (wnth ts i).2.length ≤ maxLen ∧ ∀ j, (cn (wnth ts i).2 j).length ≤ maxLen) :
    Calls Try.prog 61 #[.slice (some ⟨b, off, none⟩) ts.length cap, .int .i64 left0] w fun e w' => ∃ r, e = .returned (.int .i64 r) ∧ r ≤ left0 ∧ (r < 0 ∨ (WbSmall ts ∧ (ttot ts : Int) + r = left0)) ∧ Below w.heap.size w w' := by
  have ht : ¬ left0 - ts.length < 0 := by omega
  have HAT := hidP hat
  have HSG := hidP hs
  clear hat hs
  go_enter Try.func61, Try.ntmps61
  go_wp2
  go_loopw [1, 5] (fun l i wr => ∃ (k : Nat) (left : Int), k ≤ ts.length ∧ i = .int .i64 k ∧ l = .int .i64 left ∧ 0 ≤ left ∧ left + (tot (fun j => wtot (wnth ts j)) k : Nat) = left0 - ts.length ∧ (∀ j, j < k → MSmall (wnth ts j).1 ∧ CSmall (wnth ts j).2) ∧ Below w.heap.size w wr) (fun _ i _ => ts.length - (intOf i).toNat)
  case atStart => exact ⟨0, left0 - ts.length, Nat.zero_le _, rfl, rfl, by omega, by simp [tot], fun j hj => by omega, Below.refl _ _⟩
  case round =>
    obtain ⟨k, left, hk, rfl, rfl, h0, h1', hall, L⟩ := hrel
    have HT := hidP h1'
    have h1 : left ≤ 1048576 := by omega
    have hle0 : left ≤ left0 := by omega
    clear h1'
    have HA := hidP hall
    have HL := hidP L
    clear hall
    by_cases hlt : k < ts.length
    · obtain ⟨am, cm, al, cl, c0, c1, hm, hc, -⟩ := (HSG.out.next hb L).at hlt
      have HTS : Hid (tot (fun j => wtot (wnth ts j)) (k + 1) = tot (fun j => wtot (wnth ts j)) k + wtot (wnth ts k)) := rfl
      obtain ⟨t1, t2, t3, t4⟩ := HAT.out k
      have HC := hidP (szWg am al cm cl (wnth ts k).1 (wnth ts k).2 left wr hm hc h0 h1 t1 t2 t3 t4)
      have hz := L.size
      have HWT : Hid (wtot ((wnth ts k).1, (wnth ts k).2) = wtot (wnth ts k)) := rfl
      clear hm hc t2 t4 L
      generalize hg1 : (wnth ts k).1 = gm at *
      generalize hg2 : (wnth ts k).2 = gl at *
      have HG := hidP (And.intro hg1 hg2)
      clear hg1 hg2
      go_wp2_with fail
      refine HC.out.mono ?_
      rintro e w1 ⟨r, rfl, hr1, hr2, L1⟩
      by_cases hneg : r < 0
      · go_wp2_with fail
        go_ret
        exact ⟨-1, rfl, by omega, Or.inl (by omega), HL.out.trans (L1.mono hz)⟩
      · have HR : Hid (MSmall gm ∧ CSmall gl ∧ (wtot (gm, gl) : Int) + r = left) := by rcases hr2 with h | h; exact absurd h hneg; exact h
        clear hr2
        go_wp2_with fail
        go_roundw
        case rel => exact ⟨k + 1, r, by omega, by go_num, rfl, by omega, by have := HR.out.2.2; have := HT.out; have := HTS.out; have := HWT.out; omega, fun j hj => by
          rcases Nat.lt_or_ge j k with h | h
          · exact HA.out j h
          · rw [show j = k by omega, HG.out.1, HG.out.2]; exact ⟨HR.out.1, HR.out.2.1⟩, HL.out.trans (L1.mono hz)⟩
        case measure => simp [intOf]; omega
    · go_wp2
      go_ret
      obtain rfl : k = ts.length := by omega
      refine ⟨_, rfl, hle0, Or.inr ⟨⟨by omega, fun i => ?_⟩, by have := HT.out; unfold ttot; omega⟩, L⟩
      rcases Nat.lt_or_ge i ts.length with h | h
      · exact HA.out i h
      · simp [wnth, List.getD, h, MSmall, CSmall, mat, cn]

theorem szWS (s : Bool) (ao : Option Addr) (cap : Nat) (ts : List Wb) (left0 : Int) (w : World) (hv : WbView s w ao ts) (h0 : 0 ≤ left0) (hl0 : left0 ≤ 1048576) (hn : ts.length ≤ maxLen) (hat : ∀ i, (wnth ts i).1.length ≤ maxLen ∧ (∀ j, (mat (wnth ts i).1 j).length ≤ maxLen) ∧ (wnth ts i).2.length ≤ maxLen ∧ ∀ j, (cn (wnth ts i).2 j).length ≤ maxLen) :
    Calls Try.prog 61 #[.slice ao ts.length cap, .int .i64 left0] w fun e w' => ∃ r, e = .returned (.int .i64 r) ∧ r ≤ left0 ∧ (r < 0 ∨ (WbSmall ts ∧ (ttot ts : Int) + r = left0)) ∧ Below w.heap.size w w' := by
  rcases Int.lt_or_le left0 ts.length with h | h
  · refine (szWS_long ao ts.length cap left0 w hn h0 h).mono ?_
    rintro e w' ⟨rfl, rfl⟩
    exact ⟨_, rfl, by omega, Or.inl (by omega), Below.refl _ _⟩
  · rcases hv with rfl | ⟨b, off, rfl, hb, hs⟩
    · refine (szWS_nil ao cap left0 w h0 hl0).mono ?_
      rintro e w' ⟨rfl, rfl⟩
      exact ⟨_, rfl, by omega, Or.inr ⟨⟨by simp, fun i => by simp [wnth, MSmall, CSmall, mat, cn]⟩, by simp [ttot, tot]⟩, Below.refl _ _⟩
    · exact szWS_seg s b off cap ts left0 w hs hb h hl0 hat

set_option maxRecDepth 100000 in
set_option maxHeartbeats 1000000 in
theorem szTw (s : Bool) (ao : Option Addr) (cap : Nat) (d : Int) (ts : List Wb) (left0 : Int) (w : World) (hv : WbView s w ao ts) (h0 : 0 ≤ left0) (hl0 : left0 ≤ 1048576) (hn : ts.length ≤ maxLen) (hat : ∀ i, (wnth ts i).1.length ≤ maxLen ∧ (∀ j, (mat (wnth ts i).1 j).length ≤ maxLen) ∧ (wnth ts i).2.length ≤ maxLen ∧ ∀ j, (cn (wnth ts i).2 j).length ≤ maxLen) :
    Calls Try.prog 29 #[.agg #[.int .i64 d, .slice ao ts.length cap], .int .i64 left0] w fun e w' => ∃ r, e = .returned (.int .i64 r) ∧ r ≤ left0 ∧ (r < 0 ∨ (WbSmall ts ∧ (ttot ts : Int) + r = left0)) ∧ Below w.heap.size w w' := by
  obtain ⟨W, hW⟩ : ∃ W, w.alloc (.cells #[.int .i64 d, .slice ao ts.length cap] 25) = W := ⟨_, rfl⟩
  have hB : Below w.heap.size w W := by rw [← hW]; exact (Below.refl _ _).alloc (Nat.le_refl _) _
  have HB := hidP hB
  have HW := hidP hW
  have k1 : W.cell? ⟨w.heap.size, 1, none⟩ = some (.slice ao ts.length cap) := by rw [← hW]; simp
  have HS := hidP (szWS s ao cap ts left0 W (hv.next hB) h0 hl0 hn hat)
  clear hv hB hat hW
  go_enter Try.func29, Try.ntmps29
  go_wp2_with fail
  rw [HW.out]
  refine HS.out.mono ?_
  rintro e w1 ⟨r, rfl, hr1, hr, L1⟩
  have HR := hidP hr
  have HL1 := hidP (chain HB.out L1)
  clear hr L1 HW
  by_cases hneg : r < 0
  · go_wp2_with fail
    go_ret
    exact ⟨-1, rfl, by omega, Or.inl (by omega), HL1.out⟩
  · go_wp2_with fail
    go_ret
    exact ⟨r, rfl, by omega, HR.out, HL1.out⟩

set_option maxRecDepth 100000 in
set_option maxHeartbeats 800000 in
theorem toWS_seg (s : Bool) (b off cap : Nat) (ts : List Wb) (w : World) (hs : WbSeg s w b off ts) (hb : b < w.heap.size) (hsm : WbSmall ts) :
    Calls Try.prog 69 #[.slice (some ⟨b, off, none⟩) ts.length cap] w fun e w' => e = .returned (.slice (some ⟨w.heap.size, 0, none⟩) ts.length ts.length) ∧ (∃ lo, WbPart w' w.heap.size ts.length ts.length ts lo) ∧ Below w.heap.size w w' := by
  obtain ⟨hn, hat⟩ := hsm
  have HAT := hidP hat
  have HSG := hidP hs
  clear hat hs
  have hmk := run_make_rows (P := Try.prog) 30 105 (.agg #[.slice none 0 0, .slice none 0 0]) 2 48 Try.underlying30 Try.info105 .i64 .i64 ts.length (by omega) (by omega)
  go_enter Try.func69, Try.ntmps69
  go_wp2
  clear hmk
  go_loopw [4] (fun i wr => ∃ (k : Nat) (lo : Nat → Nat), k ≤ ts.length ∧ i = .int .i64 k ∧ WbPart wr w.heap.size k ts.length ts lo ∧ Below w.heap.size w wr) (fun i _ => ts.length - (intOf i).toNat)
  case atStart => exact ⟨0, _, Nat.zero_le _, rfl, WbPart.start w _ _ _, (Below.refl _ _).alloc (Nat.le_refl _) _⟩
  case round =>
    obtain ⟨k, lo, hk, rfl, hp, L⟩ := hrel
    by_cases hlt : k < ts.length
    · obtain ⟨am, cm, al, cl, c0, c1, hm, hc, -⟩ := (HSG.out.next hb L).at hlt
      have HC := hidP (toW am al cm cl (wnth ts k).1 (wnth ts k).2 wr hm hc (HAT.out k).1 (HAT.out k).2)
      have hz := L.size
      have hp1 := hp.lt
      have HP := hidP hp
      have HL := hidP L
      have HTY : Hid (wnth ts k = ((wnth ts k).1, (wnth ts k).2)) := rfl
      clear hm hc hp L
      go_wp2_with fail
      refine HC.out.mono ?_
      rintro e w1 ⟨bm, bl, rfl, ho, L1⟩
      have HST := hidP (HP.out.step hlt L1 ho)
      have hN := HP.out.next L1
      obtain ⟨v0, e0⟩ := hN.room (k * 2) (by omega)
      obtain ⟨v1, e1⟩ := hN.room (k * 2 + 1) (by omega)
      have f0 := hN.frozen (k * 2)
      have f1 := hN.frozen (k * 2 + 1)
      have HL2 := hidP (HL.out.trans (L1.mono hz))
      clear ho L1 hN HC
      go_wp2_with fail
      go_roundw
      case rel => exact ⟨k + 1, _, by omega, by go_num, HST.out, (HL2.out.setCell (by simp) _).setCell (by simp) _⟩
      case measure => simp [intOf]; omega
    · go_wp2
      go_ret
      obtain rfl : k = ts.length := by omega
      exact ⟨rfl, ⟨lo, hp⟩, L⟩

set_option maxHeartbeats 400000 in
theorem toWS_nil (ao : Option Addr) (cap : Nat) (w : World) :
    Calls Try.prog 69 #[.slice ao 0 cap] w fun e w' => e = .returned (.slice (some ⟨w.heap.size, 0, none⟩) 0 0) ∧ w' = w.alloc (.cells #[] 105) := by
  have hmk : ∀ w, (Instr.makeSlice 30 (.int .i64 0) (.int .i64 0)).run Try.prog w = .ok (.slice (some ⟨w.heap.size, 0, none⟩) 0 0) (w.alloc (.cells #[] 105)) := fun _ => by kernel_rfl
  go_enter Try.func69, Try.ntmps69
  go_wp2
  clear hmk
  refine wp_loop_rounds 1 ?_
  rw [rounds_succ]
  go_wp2
  go_ret
  exact ⟨rfl, rfl⟩

theorem toWS (s : Bool) (ao : Option Addr) (cap : Nat) (ts : List Wb) (w : World) (hv : WbView s w ao ts) (hsm : WbSmall ts) :
    Calls Try.prog 69 #[.slice ao ts.length cap] w fun e w' => ∃ b lo, e = .returned (.slice (some ⟨b, 0, none⟩) ts.length ts.length) ∧ WbPart w' b ts.length ts.length ts lo ∧ w.heap.size ≤ b ∧ Below w.heap.size w w' := by
  rcases hv with rfl | ⟨b, off, rfl, hb, hs⟩
  · refine (toWS_nil ao cap w).mono ?_
    rintro e w' ⟨rfl, rfl⟩
    exact ⟨_, fun _ => w.heap.size + 1, rfl, ⟨by simp, by simp, by simp, fun i hi => by simp at hi, fun i hi => by simp at hi, fun j hj => by simp at hj, fun j => World.frozen?_alloc_at _ _ _ _ rfl⟩, Nat.le_refl _, (Below.refl _ _).alloc (Nat.le_refl _) _⟩
  · refine (toWS_seg s b off cap ts w hs hb hsm).mono ?_
    rintro e w' ⟨rfl, ⟨lo, hp⟩, L⟩
    exact ⟨_, lo, rfl, hp, Nat.le_refl _, L⟩

set_option maxRecDepth 100000 in
set_option maxHeartbeats 1000000 in
theorem toTw (s : Bool) (ao : Option Addr) (cap : Nat) (d : Int) (ts : List Wb) (w : World) (hv : WbView s w ao ts) (hsm : WbSmall ts) :
    Calls Try.prog 34 #[.agg #[.int .i64 d, .slice ao ts.length cap]] w fun e w' => ∃ b lo, e = .returned (.agg #[.int .i64 d, .slice (some ⟨b, 0, none⟩) ts.length ts.length]) ∧ WbPart w' b ts.length ts.length ts lo ∧ w.heap.size ≤ b ∧ Below w.heap.size w w' := by
  obtain ⟨W1, hW1⟩ : ∃ W, w.alloc (.cells #[.int .i64 d, .slice ao ts.length cap] 25) = W := ⟨_, rfl⟩
  obtain ⟨W2, hW2⟩ : ∃ W, W1.alloc (.cells #[.int .i64 0, .slice none 0 0] 32) = W := ⟨_, rfl⟩
  obtain ⟨W, hW⟩ : ∃ W, W2.alloc (.cells #[.int .i64 d, .slice none 0 0] 32) = W := ⟨_, rfl⟩
  have s1 : W1.heap.size = w.heap.size + 1 := by rw [← hW1]; simp
  have s2 : W2.heap.size = w.heap.size + 1 + 1 := by rw [← hW2]; simp [s1]
  have hsz : W.heap.size = w.heap.size + 1 + 1 + 1 := by rw [← hW]; simp [s2]
  have b1 : Below w.heap.size w W1 := by rw [← hW1]; exact (Below.refl _ _).alloc (Nat.le_refl _) _
  have b2 : Below W1.heap.size W1 W2 := by rw [← hW2]; exact (Below.refl _ _).alloc (Nat.le_refl _) _
  have b3 : Below W2.heap.size W2 W := by rw [← hW]; exact (Below.refl _ _).alloc (Nat.le_refl _) _
  have hB : Below w.heap.size w W := chain (chain b1 b2) b3
  have t0 : W.heap[w.heap.size]? = some (.cells #[.int .i64 d, .slice ao ts.length cap] 25) := (b3.block _ (by omega)).trans ((b2.block _ (by omega)).trans (by rw [← hW1]; exact heap_alloc_new w _))
  have t1 : W.heap[w.heap.size + 1]? = some (.cells #[.int .i64 0, .slice none 0 0] 32) := (b3.block _ (by omega)).trans (by rw [← hW2, ← s1]; exact heap_alloc_new W1 _)
  have t2 : W.heap[w.heap.size + 1 + 1]? = some (.cells #[.int .i64 d, .slice none 0 0] 32) := by rw [← hW, ← s2]; exact heap_alloc_new W2 _
  obtain ⟨z0, z1, -, -⟩ := two_cells t0
  have HS := hidP (toWS s ao cap ts W (hv.next hB) hsm)
  have HB := hidP hB
  have HT := hidP (And.intro t1 t2)
  have HWW : Hid (((w.alloc (.cells #[.int .i64 d, .slice ao ts.length cap] 25)).alloc (.cells #[.int .i64 0, .slice none 0 0] 32)).alloc (.cells #[.int .i64 d, .slice none 0 0] 32) = W) := by show _ = _; rw [hW1, hW2, hW]
  clear hB hv b1 b2 b3 t0 t1 t2 hW1 hW2 hW z0 z1
  go_enter Try.func34, Try.ntmps34
  go_wp2_with fail
  rw [HWW.out]
  refine HS.out.mono ?_
  rintro e w2 ⟨b, lo, rfl, hp, hb, L1⟩
  obtain ⟨t1, t2⟩ := HT.out
  have u1 := (L1.block _ (by omega)).trans t1
  have u2 := (L1.block _ (by omega)).trans t2
  obtain ⟨e1, e1', f1, -⟩ := two_cells u1
  obtain ⟨e2, e2', f2, -⟩ := two_cells u2
  have f10 := f1 0
  have f11 := f1 1
  have f21 := f2 1
  have HF := hidP (And.intro hp (chain HB.out L1))
  clear hp L1 HT t1 t2 u1 u2 f1 f2 HS HWW
  go_wp2_with fail
  refine bodyPost_ret (v := .agg #[.int .i64 d, .slice (some ⟨b, 0, none⟩) ts.length ts.length]) (by simp [results, Try.results34, go_sem, e1, e1']) rfl ?_
  obtain ⟨w5, hw5⟩ : ∃ w5, ((w2.setCell ⟨w.heap.size + 1 + 1, 1, none⟩ (.slice (some ⟨b, 0, none⟩) ts.length ts.length)).setCell ⟨w.heap.size + 1, 0, none⟩ (.int .i64 d)).setCell ⟨w.heap.size + 1, 1, none⟩ (.slice (some ⟨b, 0, none⟩) ts.length ts.length) = w5 := ⟨_, rfl⟩
  obtain ⟨q1, q4⟩ := HF.out
  have far5 : ∀ i, b ≤ i → w5.heap[i]? = w2.heap[i]? := fun i hi => by
    rw [← hw5, Below.heap_setCell _ ⟨w.heap.size + 1, 1, none⟩ _ i (fun e => by have : i = w.heap.size + 1 := e; omega), Below.heap_setCell _ ⟨w.heap.size + 1, 0, none⟩ _ i (fun e => by have : i = w.heap.size + 1 := e; omega), Below.heap_setCell _ ⟨w.heap.size + 1 + 1, 1, none⟩ _ i (fun e => by have : i = w.heap.size + 1 + 1 := e; omega)]
  have z5 : w5.heap.size = w2.heap.size := by rw [← hw5]; simp [World.setCell]
  have L5 : Below w.heap.size w w5 := by rw [← hw5]; exact ((q4.setCell (by show w.heap.size ≤ w.heap.size + 1 + 1; omega) _).setCell (by show w.heap.size ≤ w.heap.size + 1; omega) _).setCell (by show w.heap.size ≤ w.heap.size + 1; omega) _
  rw [hw5]
  exact ⟨b, lo, rfl, q1.far (by omega) (fun i h1 _ => far5 i h1), by omega, L5⟩

set_option maxHeartbeats 400000 in
theorem eqWS_nil (ao ao' : Option Addr) (cap cap' : Nat) (w : World) :
    Calls Try.prog 78 #[.slice ao 0 cap, .slice ao' 0 cap'] w fun e w' => e = .returned (.bool true) ∧ w' = w := by
  go_enter Try.func78, Try.ntmps78
  go_wp2
  refine wp_loop_rounds 1 ?_
  rw [rounds_succ]
  go_wp2
  go_ret
  exact ⟨rfl, rfl⟩

set_option maxRecDepth 100000 in
set_option maxHeartbeats 1000000 in
theorem eqWS_seg (s s' : Bool) (b off cap b' off' cap' : Nat) (ts : List Wb) (w : World) (hs : WbSeg s w b off ts) (hs' : WbSeg s' w b' off' ts) (hb : b < w.heap.size) (hb' : b' < w.heap.size) (hsm : WbSmall ts) :
    Calls Try.prog 78 #[.slice (some ⟨b, off, none⟩) ts.length cap, .slice (some ⟨b', off', none⟩) ts.length cap'] w fun e w' => e = .returned (.bool true) ∧ Below w.heap.size w w' := by
  obtain ⟨hn, hat⟩ := hsm
  have HAT := hidP hat
  have HSG := hidP hs
  have HSG' := hidP hs'
  clear hat hs hs'
  go_enter Try.func78, Try.ntmps78
  go_wp2
  go_loopw [5] (fun i wr => ∃ k : Nat, k ≤ ts.length ∧ i = .int .i64 k ∧ Below w.heap.size w wr) (fun i _ => ts.length - (intOf i).toNat)
  case atStart => exact ⟨0, Nat.zero_le _, rfl, Below.refl _ _⟩
  case round =>
    obtain ⟨k, hk, rfl, L⟩ := hrel
    by_cases hlt : k < ts.length
    · obtain ⟨am, cm, al, cl, hc0, hc1, hm, hc, -⟩ := (HSG.out.next hb L).at hlt
      obtain ⟨am', cm', al', cl', hd0, hd1, hm', hc', -⟩ := (HSG'.out.next hb' L).at hlt
      have hi0 : (0 : Int) ≤ (k : Int) := Int.natCast_nonneg _
      have hi1 : (k : Int) < (ts.length : Int) := by omega
      have hz := L.size
      have hbw : b < wr.heap.size := by omega
      have hbw' : b' < wr.heap.size := by omega
      have HC := hidP (eqW am al am' al' cm cl cm' cl' (wnth ts k).1 (wnth ts k).2 wr.drew hm hc hm' hc' (HAT.out k).1 (HAT.out k).2)
      have HLL := hidP L
      clear L hm hc hm' hc'
      generalize (wnth ts k).1.length = ml at *
      generalize (wnth ts k).2.length = ll at *
      go_wp2
      go_region_held3 (fun w' => w'.cell? ⟨b, off + k * 2, none⟩ = some (.slice am ml cm) ∧ w'.cell? ⟨b, off + k * 2 + 1, none⟩ = some (.slice al ll cl) ∧ w'.cell? ⟨b', off' + k * 2, none⟩ = some (.slice am' ml cm') ∧ w'.cell? ⟨b', off' + k * 2 + 1, none⟩ = some (.slice al' ll cl'))
        (first
          | go_keep
          | (refine ⟨(L1.cell (p := ⟨b, off + k * 2, none⟩) hbw).trans hc0, (L1.cell (p := ⟨b, off + k * 2 + 1, none⟩) hbw).trans hc1, (L1.cell (p := ⟨b', off' + k * 2, none⟩) hbw').trans hd0, (L1.cell (p := ⟨b', off' + k * 2 + 1, none⟩) hbw').trans hd1⟩))
        (first
          | (go_at_call 104; refine HC.out.mono ?_; rintro e w1 ⟨rfl, L1⟩))
      have LF := hidP (HLL.out.drew.trans (L1.mono hz))
      clear L1
      go_wp2
      go_roundw
      case rel => exact ⟨k + 1, by omega, by go_num, LF.out⟩
      case measure => simp [intOf]; omega
    · go_wp2
      go_ret
      exact ⟨rfl, L⟩

theorem eqWS (s s' : Bool) (ao ao' : Option Addr) (cap cap' : Nat) (ts : List Wb) (w : World) (hv : WbView s w ao ts) (hv' : WbView s' w ao' ts) (hsm : WbSmall ts) :
    Calls Try.prog 78 #[.slice ao ts.length cap, .slice ao' ts.length cap'] w fun e w' => e = .returned (.bool true) ∧ Below w.heap.size w w' := by
  rcases hv with rfl | ⟨b, off, rfl, hb, hs⟩
  · refine (eqWS_nil ao ao' cap cap' w).mono ?_
    rintro e w' ⟨rfl, rfl⟩
    exact ⟨rfl, Below.refl _ _⟩
  · rcases hv' with rfl | ⟨b', off', rfl, hb', hs'⟩
    · refine (eqWS_nil _ ao' cap cap' w).mono ?_
      rintro e w' ⟨rfl, rfl⟩
      exact ⟨rfl, Below.refl _ _⟩
    · exact eqWS_seg s s' b off cap b' off' cap' ts w hs hs' hb hb' hsm

set_option maxRecDepth 100000 in
set_option maxHeartbeats 1000000 in
theorem eqTw (s s' : Bool) (ao ao' : Option Addr) (cap cap' : Nat) (d : Int) (ts : List Wb) (w : World) (hv : WbView s w ao ts) (hv' : WbView s' w ao' ts) (hsm : WbSmall ts) :
    Calls Try.prog 40 #[.agg #[.int .i64 d, .slice ao ts.length cap], .agg #[.int .i64 d, .slice ao' ts.length cap']] w fun e w' => e = .returned (.bool true) ∧ Below w.heap.size w w' := by
  obtain ⟨W, hW⟩ : ∃ W, (w.alloc (.cells #[.int .i64 d, .slice ao ts.length cap] 32)).alloc (.cells #[.int .i64 d, .slice ao' ts.length cap'] 32) = W := ⟨_, rfl⟩
  have hB : Below w.heap.size w W := by rw [← hW]; exact ((Below.refl w.heap.size w).alloc (Nat.le_refl _) _).alloc (by simp) _
  have k0 : W.cell? ⟨w.heap.size, 0, none⟩ = some (.int .i64 d) := by rw [← hW]; simp
  have k1 : W.cell? ⟨w.heap.size, 1, none⟩ = some (.slice ao ts.length cap) := by rw [← hW]; simp
  have k2 : W.cell? ⟨w.heap.size + 1, 0, none⟩ = some (.int .i64 d) := by rw [← hW]; simp
  have k3 : W.cell? ⟨w.heap.size + 1, 1, none⟩ = some (.slice ao' ts.length cap') := by rw [← hW]; simp
  have hd : (d != d) = false := by simp
  have HS := hidP (eqWS s s' ao ao' cap cap' ts W (hv.next hB) (hv'.next hB) hsm)
  have HB := hidP hB
  clear hB hv hv' hsm
  go_enter Try.func40, Try.ntmps40
  go_wp2_with fail
  refine HS.out.mono ?_
  rintro e w2 ⟨rfl, L2⟩
  have HL := hidP (chain HB.out L2)
  clear L2 hW
  go_wp2_with fail
  go_ret
  exact ⟨rfl, HL.out⟩
end Go.Proofs.Ytbmljcpeonopmaa
namespace Go.Proofs.Ytbmljcpeonopmaa
open Go Go.RowKit

theorem gin_trans {l1 h1 l2 h2 l h : Nat} {w w1 w2 : World} (a : GIn l1 h1 w w1) (b : GIn l2 h2 w1 w2) (e1 : l ≤ l1) (e2 : l ≤ l2) (e3 : h1 ≤ h) (e4 : h2 ≤ h) : GIn l h w w2 :=
  ⟨b.1.trans a.1, b.2.1.trans a.2.1, b.2.2.1.trans a.2.2.1, Nat.le_trans a.2.2.2.1 b.2.2.2.1, fun i hi hc => (b.2.2.2.2 i (Nat.lt_of_lt_of_le hi a.2.2.2.1) (by omega)).trans (a.2.2.2.2 i hi (by omega))⟩

set_option maxHeartbeats 1000000 in
theorem markMg (b hi cap : Nat) (k0 : Int) (ms : List Mk) (w : World) (hm : MOver w b hi ms) (hsm : MSmall ms) (h0 : 1 ≤ k0) (h1 : k0 ≤ 10000000000) :
    Calls Try.prog 41 #[.slice (some ⟨b, 0, none⟩) ms.length cap, .int .i64 k0] w fun e w' => e = .returned (.int .i64 (k0 + mtot ms)) ∧ GIn b hi w w' := by
  obtain ⟨hn, hat⟩ := hsm
  have HKE : Hid (∀ k : Nat, tot (fun j => (mat ms j).length) (k + 1) = tot (fun j => (mat ms j).length) k + (mat ms k).length) := fun k => rfl
  have HMT : Hid (mtot ms = ms.length + tot (fun j => (mat ms j).length) ms.length) := rfl
  go_enter Try.func41, Try.ntmps41
  go_wp2
  go_loopw [1, 5] (fun kk i wr => ∃ (k : Nat) (k1 : Int), k ≤ ms.length ∧ i = .int .i64 k ∧ kk = .int .i64 k1 ∧ 1 ≤ k1 ∧ k1 ≤ 10000000000 + 1048577 * (k : Int) ∧ k1 = k0 + k + (tot (fun j => (mat ms j).length) k : Nat) ∧ MOver wr b hi ms ∧ GIn b hi w wr) (fun _ i _ => ms.length - (intOf i).toNat)
  case atStart => exact ⟨0, k0, Nat.zero_le _, rfl, rfl, h0, by omega, by simp [tot], hm, GIn.refl _ _ _⟩
  case round =>
    obtain ⟨k, k1, hk, rfl, rfl, hk0, hk1, hke, ho, hg⟩ := hrel
    have HE := hidP hke
    clear hke
    by_cases hlt : k < ms.length
    · have ho2 := ho.setId k (.int .i64 k1)
      obtain ⟨⟨v, c0⟩, -⟩ := ho.2.2.2 k hlt
      have f0 := ho.2.2.1 (k * 2)
      obtain ⟨-, g, xs, hbg, hgh, c1, hl, hown⟩ := ho2.2.2.2 k hlt
      have HG := hidP ((hg.grown (grown_setCell wr b (k * 2) (.int .i64 k1)) (Nat.le_refl _) ho.2.1))
      have HO := hidP ho2
      have HM := hidP (mark_big g (k1 + 1) xs _ hown (by rw [hl]; exact hat k) (by omega) (by omega))
      have HL := hidP hl
      have HOW := hidP hown
      rw [hl] at HM
      have hatk := hat k
      clear ho ho2 hg hown hl
      go_wp2_with fail
      refine HM.out.mono ?_
      rintro e w1 ⟨rfl, ho1, hg1⟩
      have HO2 := hidP (HO.out.marked hbg HOW.out hg1 ho1 (by rw [tabL_length]; exact HL.out.symm))
      have HG2 := hidP (HG.out.grown hg1 (by omega) hgh)
      clear ho1 hg1 HO HG HM HOW
      go_wp2_with fail
      go_roundw
      case rel => exact ⟨k + 1, k1 + 1 + ((mat ms k).length : Int), by omega, by go_num, rfl, by omega, by omega, by have := HE.out; have := HKE.out k; omega, HO2.out, HG2.out⟩
      case measure => simp [intOf]; omega
    · go_wp2
      go_ret
      obtain rfl : k = ms.length := by omega
      exact ⟨ret_int (by have := HE.out; have := HMT.out; omega), hg⟩

set_option maxHeartbeats 1000000 in
theorem markCg (b hi cap : Nat) (k0 : Int) (ls : List (List Int)) (w : World) (hm : COver w b hi ls) (hsm : CSmall ls) (h0 : 1 ≤ k0) (h1 : k0 ≤ 10000000000) :
    Calls Try.prog 105 #[.slice (some ⟨b, 0, none⟩) ls.length cap, .int .i64 k0] w fun e w' => (∃ k1 : Int, k0 ≤ k1 ∧ k1 ≤ k0 + ctot ls ∧ e = .returned (.int .i64 k1)) ∧ GIn b hi w w' := by
  obtain ⟨hn, hat⟩ := hsm
  have HKE : Hid (∀ k : Nat, tot (fun j => (cn ls j).length) (k + 1) = tot (fun j => (cn ls j).length) k + (cn ls k).length) := fun k => rfl
  have HMT : Hid (ctot ls = ls.length + tot (fun j => (cn ls j).length) ls.length) := rfl
  go_enter Try.func105, Try.ntmps105
  go_wp2
  go_loopw [1, 5] (fun kk i wr => ∃ (k : Nat) (k1 : Int), k ≤ ls.length ∧ i = .int .i64 k ∧ kk = .int .i64 k1 ∧ 1 ≤ k1 ∧ k1 ≤ 10000000000 + 1048576 * (k : Int) ∧ k1 = k0 + (tot (fun j => (cn ls j).length) k : Nat) ∧ COver wr b hi ls ∧ GIn b hi w wr) (fun _ i _ => ls.length - (intOf i).toNat)
  case atStart => exact ⟨0, k0, Nat.zero_le _, rfl, rfl, h0, by omega, by simp [tot], hm, GIn.refl _ _ _⟩
  case round =>
    obtain ⟨k, k1, hk, rfl, rfl, hk0, hk1, hke, ho, hg⟩ := hrel
    have HE := hidP hke
    clear hke
    by_cases hlt : k < ls.length
    · obtain ⟨g, xs, hbg, hgh, c1, hl, hown⟩ := ho.2.2 k hlt
      have HG := hidP hg
      have HO := hidP ho
      have HM := hidP (mark_big g k1 xs _ hown (by rw [hl]; exact hat k) (by omega) (by omega))
      have HL := hidP hl
      have HOW := hidP hown
      rw [hl] at HM
      have hatk := hat k
      clear ho hg hown hl
      go_wp2_with fail
      refine HM.out.mono ?_
      rintro e w1 ⟨rfl, ho1, hg1⟩
      have HO2 := hidP (HO.out.marked hbg HOW.out hg1 ho1 (by rw [tabL_length]; exact HL.out.symm))
      have HG2 := hidP (HG.out.grown hg1 (by omega) hgh)
      clear ho1 hg1 HO HG HM HOW
      go_wp2_with fail
      go_roundw
      case rel => exact ⟨k + 1, k1 + ((cn ls k).length : Int), by omega, by go_num, rfl, by omega, by omega, by have := HE.out; have := HKE.out k; omega, HO2.out, HG2.out⟩
      case measure => simp [intOf]; omega
    · go_wp2
      go_ret
      obtain rfl : k = ls.length := by omega
      exact ⟨⟨k1, by have := HE.out; omega, by have := HE.out; have := HMT.out; omega, rfl⟩, hg⟩

set_option maxRecDepth 100000 in
set_option maxHeartbeats 1000000 in
theorem markWS (b cap : Nat) (ts : List Wb) (lo : Nat → Nat) (w : World) (hp : WbPart w b ts.length ts.length ts lo) (hsm : WbSmall ts) (htot : ttot ts ≤ 1048576) :
    Calls Try.prog 80 #[.slice (some ⟨b, 0, none⟩) ts.length cap, .int .i64 1] w fun e w' => (∃ k1 : Int, 1 ≤ k1 ∧ k1 ≤ 10000000 ∧ e = .returned (.int .i64 k1)) ∧ GIn (lo 0) (lo ts.length) w w' := by
  obtain ⟨hn, hat⟩ := hsm
  have HSM := hidP hat
  have HP := hidP hp
  have HKE : Hid (∀ k : Nat, tot (fun j => wtot (wnth ts j)) (k + 1) = tot (fun j => wtot (wnth ts j)) k + wtot (wnth ts k)) := fun k => rfl
  have HTM : Hid (∀ k, k ≤ ts.length → tot (fun j => wtot (wnth ts j)) k ≤ 1048576) := fun k hk => by
    have h1 : ∀ m, k ≤ m → tot (fun j => wtot (wnth ts j)) k ≤ tot (fun j => wtot (wnth ts j)) m := by
      intro m
      induction m with
      | zero => intro h; rw [show k = 0 by omega]; exact Nat.le_refl _
      | succ m ih =>
        intro h
        rcases Nat.lt_or_ge k (m + 1) with e | e
        · exact Nat.le_trans (ih (by omega)) (Nat.le_add_right _ _)
        · rw [show k = m + 1 by omega]; exact Nat.le_refl _
    have := h1 ts.length hk
    unfold ttot at htot
    omega
  clear hat hp htot
  go_enter Try.func80, Try.ntmps80
  go_wp2
  go_loopw [1, 5] (fun kk i wr => ∃ (k : Nat) (k1 : Int), k ≤ ts.length ∧ i = .int .i64 k ∧ kk = .int .i64 k1 ∧ 1 ≤ k1 ∧ k1 ≤ 1 + (tot (fun j => wtot (wnth ts j)) k : Nat) ∧ GIn (lo 0) (lo k) w wr) (fun _ i _ => ts.length - (intOf i).toNat)
  case atStart => exact ⟨0, 1, Nat.zero_le _, rfl, rfl, by omega, by simp [tot], GIn.refl _ _ _⟩
  case round =>
    obtain ⟨k, k1, hk, rfl, rfl, hk0, hk1, hg⟩ := hrel
    have HK1 := hidP hk1
    have hkb : k1 ≤ 1048577 := by have := HTM.out k hk; omega
    clear hk1
    have HG := hidP hg
    have hb := HP.out.lt
    have hf := HP.out.first
    by_cases hlt : k < ts.length
    · obtain ⟨bm, bl, c0, c1, hown⟩ := HP.out.at_ k hlt
      have h0k := HP.out.lo_le k (by omega)
      have hkl := HP.out.le_last (k + 1) (by omega)
      have hmo := HP.out.mono k hlt
      have hlast := HP.out.last
      have eb := hg.2.2.2.2 b hb (Or.inl hf)
      have hzr := hg.2.2.2.1
      have c0r := (World.cell?_of_block (a := ⟨b, k * 2, none⟩) eb).trans c0
      have c1r := (World.cell?_of_block (a := ⟨b, k * 2 + 1, none⟩) eb).trans c1
      have HOW := hidP (hown.far (w' := wr) hzr (fun j hj1 hj2 => hg.2.2.2.2 j (by omega) (Or.inr hj1)))
      have hlo := hown.lo
      have hblt := hown.lt
      have hbh : bl < lo (k + 1) := hown.co.2.1
      have hbmh : bm < wr.heap.size := by have := hown.hi; omega
      have HM := hidP (markMg bm bl (wnth ts k).1.length k1 (wnth ts k).1 wr HOW.out.mo (HSM.out k).1 hk0 (by omega))
      have HWT : Hid (wtot (wnth ts k) = mtot (wnth ts k).1 + ctot (wnth ts k).2) := rfl
      have hmt : (mtot (wnth ts k).1 : Int) ≤ 1048576 := by have := HTM.out (k + 1) (by omega); have := HKE.out k; have := HWT.out; omega
      clear hg hown c0 c1 eb
      generalize hml : (wnth ts k).1.length = ml at *
      generalize hll : (wnth ts k).2.length = ll at *
      go_wp2_with fail
      refine HM.out.mono ?_
      rintro e w2 ⟨rfl, g2⟩
      have eb2 := g2.2.2.2.2 b (by omega) (Or.inl (by omega))
      have c1s := (World.cell?_of_block (a := ⟨b, k * 2 + 1, none⟩) eb2).trans c1r
      have HC := hidP (markCg bl (lo (k + 1)) ll (k1 + mtot (wnth ts k).1) (wnth ts k).2 w2 (HOW.out.co.far g2.2.2.2.1 (fun i h1 h2 h3 => g2.2.2.2.2 i h3 (Or.inr h1))) (HSM.out k).2 (by omega) (by omega))
      rw [hll] at HC
      have HG2 := hidP (gin_trans (l := lo 0) (h := lo (k + 1)) HG.out g2 (Nat.le_refl _) (by omega) (by omega) (by omega))
      clear g2 c0r c1r eb2 HM HOW hll hml
      obtain ⟨mt, hmtE⟩ : ∃ mt : Int, (mtot (wnth ts k).1 : Int) = mt := ⟨_, rfl⟩
      rw [hmtE] at HC ⊢
      have HME := hidP hmtE
      have hmt0 : 0 ≤ mt := by omega
      clear hmtE hmt
      go_wp2_with fail
      refine HC.out.mono ?_
      rintro e w3 ⟨⟨k3, hk3, hk4, rfl⟩, g3⟩
      have HG3 := hidP (gin_trans (l := lo 0) (h := lo (k + 1)) HG2.out g3 (Nat.le_refl _) (by omega) (Nat.le_refl _) (Nat.le_refl _))
      clear g3 c1s HC
      go_wp2_with fail
      go_roundw
      case rel => exact ⟨k + 1, k3, by omega, by go_num, rfl, by omega, by have := HK1.out; have := HKE.out k; have := HWT.out; have := HME.out; omega, HG3.out⟩
      case measure => simp [intOf]; omega
    · go_wp2
      go_ret
      obtain rfl : k = ts.length := by omega
      exact ⟨⟨k1, hk0, by omega, rfl⟩, hg⟩

set_option maxRecDepth 100000 in
set_option maxHeartbeats 1000000 in
theorem markTw (b cap : Nat) (d : Int) (ts : List Wb) (lo : Nat → Nat) (w : World) (hp : WbPart w b ts.length ts.length ts lo) (hsm : WbSmall ts) (htot : ttot ts ≤ 1048576) :
    Calls Try.prog 42 #[.agg #[.int .i64 d, .slice (some ⟨b, 0, none⟩) ts.length cap], .int .i64 1] w fun e w' => (∃ k1 : Int, 1 ≤ k1 ∧ k1 ≤ 10000000 ∧ e = .returned (.int .i64 k1)) ∧ GIn (lo 0) (lo ts.length) w w' := by
  obtain ⟨W, hW⟩ : ∃ W, w.alloc (.cells #[.int .i64 d, .slice (some ⟨b, 0, none⟩) ts.length cap] 32) = W := ⟨_, rfl⟩
  have hB : Below w.heap.size w W := by rw [← hW]; exact (Below.refl _ _).alloc (Nat.le_refl _) _
  have k1 : W.cell? ⟨w.heap.size, 1, none⟩ = some (.slice (some ⟨b, 0, none⟩) ts.length cap) := by rw [← hW]; simp
  have HC := hidP (markWS b cap ts lo W (hp.next hB) hsm htot)
  have HB := hidP hB
  clear hp hB hsm htot
  go_enter Try.func42, Try.ntmps42
  go_wp2_with fail
  refine HC.out.mono ?_
  rintro e w1 ⟨⟨r, hr1, hr2, rfl⟩, g1⟩
  have HG := hidP g1
  clear g1 hW k1
  go_wp2_with fail
  go_ret
  refine ⟨⟨r, hr1, hr2, rfl⟩, HG.out.1.trans HB.out.os, HG.out.2.1.trans HB.out.tape, HG.out.2.2.1.trans HB.out.output, Nat.le_trans HB.out.size HG.out.2.2.2.1, fun i hi hc => ?_⟩
  exact (HG.out.2.2.2.2 i (by have := HB.out.size; omega) hc).trans (HB.out.block i hi)
end Go.Proofs.Ytbmljcpeonopmaa
