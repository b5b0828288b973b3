/-
  The program's look, plain part: what a search keeps, and how one world follows another.
  The program's look: it goes down the knots as the plain search does.
-/
import Derived.Test.YtodielfilhodeaaKGainZz
import Derived.Test.YtodielfilhodeaaKLeadZz
import Derived.Test.YtodielfilhodeaaKLookZz
import Derived.Test.YtodielfilhodeaaCopyZz
namespace Go.Proofs.Ytodielfilhodeaa
open Go Go.RowKit

theorem far_turn {a q : List Int} (h : twoB a q = true) : sumTo (sqF q a) q.length = farV a q := by
  have hl := (twoB_of h).2.2
  have e : sqF q a = sqF a q := by
    funext i
    simp only [sqF]
    have : nth q i - nth a i = -(nth a i - nth q i) := by omega
    rw [this, Int.neg_mul_neg]
  simp only [farV, h, if_true]
  rw [e, hl]

theorem seek_good (q : List Int) (k : Nat) (t : Tr) : ∀ s : List Ht × Int, SortedH s.1 → s.1.length ≤ k →
    SortedH (seekT q k t s).1 ∧ (seekT q k t s).1.length ≤ k ∧ (seekT q k t s).1.length ≤ s.1.length + t.size ∧ s.2 ≤ (seekT q k t s).2 ∧ (seekT q k t s).2 ≤ s.2 + t.size := by
  induction t with
  | leaf => intro s h1 h2; exact ⟨h1, h2, by simp [seekT, Tr.size], Int.le_refl _, by simp [seekT, Tr.size]⟩
  | node m ax l r ihl ihr =>
    intro s h1 h2
    have hs0 : SortedH ((putL s.1 (hitF q m)).take k) := (putL_sorted h1 _).sublist (List.take_sublist _ _)
    have hl0 : ((putL s.1 (hitF q m)).take k).length ≤ k := by simp; omega
    have hl1 : ((putL s.1 (hitF q m)).take k).length ≤ s.1.length + 1 := by rw [List.length_take, putL_length]; omega
    have hsz : (Tr.node m ax l r).size = l.size + r.size + 1 := rfl
    rw [hsz]
    simp only [seekT]
    generalize (putL s.1 (hitF q m)).take k = n1 at hs0 hl0 hl1
    have A := ihl (n1, s.2 + 1) hs0 hl0
    have B := ihr (n1, s.2 + 1) hs0 hl0
    simp only at A B
    have A2 := ihl _ B.1 B.2.1
    have B2 := ihr _ A.1 A.2.1
    split
    · split
      · exact ⟨A2.1, A2.2.1, by omega, by omega, by omega⟩
      · exact ⟨B.1, B.2.1, by omega, by omega, by omega⟩
    · split
      · exact ⟨B2.1, B2.2.1, by omega, by omega, by omega⟩
      · exact ⟨A.1, A.2.1, by omega, by omega, by omega⟩

/-- What a search leaves as it was: all but its own block, and the row's. -/
def Sk (w w' : World) (P : Nat) (v v' : Value) : Prop :=
  w.heap.size ≤ w'.heap.size ∧ (∀ g, v'.ownBlock = some g → v.ownBlock = some g ∨ w.heap.size ≤ g) ∧ ∀ b, b < w.heap.size → b ≠ P → v.ownBlock ≠ some b → w'.heap[b]? = w.heap[b]?
theorem Sk.trans {w w1 w2 : World} {P : Nat} {v v1 v2 : Value} (h : Sk w w1 P v v1) (k : Sk w1 w2 P v1 v2) : Sk w w2 P v v2 := by
  refine ⟨Nat.le_trans h.1 k.1, fun g hg => ?_, fun b hb hP hv => ?_⟩
  · rcases k.2.1 g hg with h1 | h1
    · exact h.2.1 g h1
    · exact Or.inr (Nat.le_trans h.1 h1)
  · refine (k.2.2 b (Nat.lt_of_lt_of_le hb h.1) hP (fun e => ?_)).trans (h.2.2 b hb hP hv)
    rcases h.2.1 b e with h1 | h1
    · exact hv h1
    · omega
theorem Sk.of_below {w w' : World} (P : Nat) (v : Value) (h : Below w.heap.size w w') : Sk w w' P v v := ⟨h.size, fun _ hg => Or.inl hg, fun b hb _ _ => h.block b hb⟩
theorem Sk.drewN {w w' : World} {P : Nat} {v v' : Value} (h : Sk w w' P v v') (n : Nat) : Sk w (w'.drewN n) P v v' := h
theorem Sk.of_grown {w w' : World} (P : Nat) (v : Value) (h : w.grownBy w' (some P)) : Sk w w' P v v := ⟨h.size, fun _ hg => Or.inl hg, fun b hb hP _ => h.block b hb (fun e => by injection e with e; exact hP e)⟩
theorem Five.sk {w w' : World} {p P : Nat} {a b c d e : Value} {t : TypeId} {v v' : Value} (h : Five w p a b c d e t) (hs : Sk w w' P v v') (hp : p ≠ P) (hv : v.ownBlock ≠ some p) : Five w' p a b c d e t := (hs.2.2 p h.lt hp hv).trans h
theorem Five.set4 {w : World} {p : Nat} {a b c d e : Value} {t : TypeId} (h : Five w p a b c d e t) (x : Value) : Five (w.setCell ⟨p, 4, none⟩ x) p a b c d x t := by
  unfold Five World.setCell at *
  simp only [Array.getElem?_modify, if_true, h]
  rfl

set_option maxHeartbeats 400000 in
theorem iLook0 (P : Nat) (w : World) :
    Calls Try.prog 135 #[.pointer (some ⟨P, 0, none⟩), .int .i64 (-1)] w fun e w' => e = .returned (.tuple #[]) ∧ w' = w := by
  go_enter Try.func135, Try.ntmps135
  go_wp2
  exact bodyPost_ret (v := .tuple #[]) (by simp [results, Try.results135, go_sem]) rfl ⟨rfl, rfl⟩

end Go.Proofs.Ytodielfilhodeaa
namespace Go.Proofs.Ytodielfilhodeaa
open Go Go.RowKit

theorem own_viewH {base c : Nat} {a : Option Addr} {w : World} {hs : List Ht} (h : w.ownsRow base 154 2 (.slice a hs.length c) hs.length (hCells hs)) : HView w a hs := by
  have h' := h
  obtain ⟨_, h2⟩ := h
  rcases h2 with ⟨e, e2⟩ | ⟨g', cp, cur, e, _⟩
  · exact Or.inl (List.length_eq_zero_iff.1 e2)
  · injection e with e1
    subst e1
    have hrow : HRow base w g' c hs := h'
    exact hrow.view

set_option maxRecDepth 100000 in
set_option maxHeartbeats 4000000 in
theorem iLook (bl off cap : Nat) (ks : List Kn) (qb qo qc : Nat) (q : List Int) (P base k : Nat) (W0 : World) (hbl : bl < W0.heap.size) (hs : KSeg W0 bl off ks) (hqb : qb < W0.heap.size) (hq : Seg W0 qb qo q) (hP : W0.heap.size ≤ P) (hPb : P < base) (hk1 : 1 ≤ k) (hk2 : k ≤ 1000) (t : Tr) :
    ∀ (p : Nat) (w : World) (near : List Ht) (n : Int) (a : Option Addr) (c : Nat), TAt ks t p → t.all (fun m x _ _ => x < q.length ∧ twoB m.2 q = true) → Below P W0 w → Five w P (.slice (some ⟨bl, off, none⟩) ks.length cap) (.slice (some ⟨qb, qo, none⟩) q.length qc) (.int .i64 k) (.slice a near.length c) (.int .i64 n) 98 → w.ownsRow base 154 2 (.slice a near.length c) near.length (hCells near) → SortedH near → near.length ≤ k → near.length + t.size ≤ 60 → 0 ≤ n → n + t.size ≤ 1048576 → base ≤ w.heap.size →
    Calls Try.prog 135 #[.pointer (some ⟨P, 0, none⟩), .int .i64 (t.place p)] w fun e w' => e = .returned (.tuple #[]) ∧ (∃ a' c', Five w' P (.slice (some ⟨bl, off, none⟩) ks.length cap) (.slice (some ⟨qb, qo, none⟩) q.length qc) (.int .i64 k) (.slice a' (seekT q k t (near, n)).1.length c') (.int .i64 (seekT q k t (near, n)).2) 98 ∧ w'.ownsRow base 154 2 (.slice a' (seekT q k t (near, n)).1.length c') (seekT q k t (near, n)).1.length (hCells (seekT q k t (near, n)).1) ∧ Sk w w' P (.slice a near.length c) (.slice a' (seekT q k t (near, n)).1.length c')) ∧ Below P w w' := by
  induction t with
  | leaf =>
    intro p w near n a c _ _ hw h5 hr _ _ _ _ _ _
    refine (iLook0 _ w).mono ?_
    rintro e w' ⟨rfl, rfl⟩
    exact ⟨rfl, ⟨a, c, h5, hr, Sk.of_below P _ (Below.refl _ _)⟩, Below.refl _ _⟩
  | node m ax l r ihl ihr =>
    intro p w near n a c ht hrad hw h5 hr hso hnk hsz0 hn0 hns hbw
    obtain ⟨hp, ⟨c0, ⟨ao, ca, c1, hv⟩, c2, c3, c4⟩, htl, htr⟩ := tat_at ht hs
    obtain ⟨⟨hax, htw⟩, hrl, hrr⟩ := hrad
    obtain ⟨hok1, hok2, hml⟩ := twoB_of htw
    have hvb := okB_at hok1 ax
    have hqv := okB_at hok2 ax
    simp only at c1 hv
    obtain ⟨mb, mo, rfl, hmb, hms⟩ := hv.seg (show 0 < m.2.length by omega)
    have hblP : bl < P := by omega
    have a0 := (hw.cell (p := ⟨bl, off + p * 5, none⟩) hblP).trans c0
    have a1 := (hw.cell (p := ⟨bl, off + p * 5 + 1, none⟩) hblP).trans c1
    have a2 := (hw.cell (p := ⟨bl, off + p * 5 + 2, none⟩) hblP).trans c2
    have a3 := (hw.cell (p := ⟨bl, off + p * 5 + 3, none⟩) hblP).trans c3
    have a4 := (hw.cell (p := ⟨bl, off + p * 5 + 4, none⟩) hblP).trans c4
    simp only at a0 a1 a2 a3 a4
    have hwz := hw.size
    have hPl := h5.lt
    have hpl : (0 : Int) ≤ (p : Int) := Int.natCast_nonneg _
    have hpi : (p : Int) < (ks.length : Int) := by omega
    have hax0 : (0 : Int) ≤ (ax : Int) := Int.natCast_nonneg _
    have hax1 : (ax : Int) < (q.length : Int) := by omega
    have hax2 : (ax : Int) < (m.2.length : Int) := by omega
    have hsz : (Tr.node m ax l r).size = l.size + r.size + 1 := rfl
    rw [hsz] at hns hsz0
    show Calls Try.prog 135 #[.pointer (some ⟨P, 0, none⟩), .int .i64 (p : Int)] w _
    have HTW := hidP htw
    have HW := hidP hw
    have HAX : Hid (ax < m.2.length) := by show ax < m.2.length; omega
    have HOB : Hid (∀ g0, (Value.slice a near.length c).ownBlock = some g0 → base ≤ g0 ∧ g0 < w.heap.size) := fun g0 h0 => World.ownsRow.lt hr g0 h0
    have hne : ¬ P = w.heap.size := by omega
    -- the second half: one child first, then perhaps the other
    have HREC : Hid (∀ (side : Bool) (w2 : World) (nr : List Ht) (n2 : Int) (a2 : Option Addr) (c2 : Nat), Below P W0 w2 → Five w2 P (.slice (some ⟨bl, off, none⟩) ks.length cap) (.slice (some ⟨qb, qo, none⟩) q.length qc) (.int .i64 k) (.slice a2 nr.length c2) (.int .i64 n2) 98 → w2.ownsRow base 154 2 (.slice a2 nr.length c2) nr.length (hCells nr) → SortedH nr → nr.length ≤ k → nr.length + (if side then r else l).size ≤ 60 → 0 ≤ n2 → n2 + (if side then r else l).size ≤ 1048576 → base ≤ w2.heap.size →
        Calls Try.prog 135 #[.pointer (some ⟨P, 0, none⟩), .int .i64 (if side then r.place (p + 1 + l.size) else l.place (p + 1))] w2 fun e w' => e = .returned (.tuple #[]) ∧ (∃ a' c', Five w' P (.slice (some ⟨bl, off, none⟩) ks.length cap) (.slice (some ⟨qb, qo, none⟩) q.length qc) (.int .i64 k) (.slice a' (seekT q k (if side then r else l) (nr, n2)).1.length c') (.int .i64 (seekT q k (if side then r else l) (nr, n2)).2) 98 ∧ w'.ownsRow base 154 2 (.slice a' (seekT q k (if side then r else l) (nr, n2)).1.length c') (seekT q k (if side then r else l) (nr, n2)).1.length (hCells (seekT q k (if side then r else l) (nr, n2)).1) ∧ Sk w2 w' P (.slice a2 nr.length c2) (.slice a' (seekT q k (if side then r else l) (nr, n2)).1.length c')) ∧ Below P w2 w') := by
      rintro (_ | _) w2 nr n2 a2 c2 h1 h2 h3 h4 h5 h6 h7 h8 h9
      · exact ihl (p + 1) w2 nr n2 a2 c2 htl hrl h1 h2 h3 h4 h5 h6 h7 h8 h9
      · exact ihr (p + 1 + l.size) w2 nr n2 a2 c2 htr hrr h1 h2 h3 h4 h5 h6 h7 h8 h9
    have HSEG : Hid (∀ w', Below P W0 w' → Seg w' qb qo q ∧ Seg w' mb mo m.2) := fun w' h =>
      ⟨fun i hi => (h.cell (p := ⟨qb, qo + i, none⟩) (by show qb < P; omega)).trans (hq i hi), fun i hi => (h.cell (p := ⟨mb, mo + i, none⟩) (by show mb < P; omega)).trans (hms i hi)⟩
    generalize hx : l.place (p + 1) = x at *
    generalize hy : r.place (p + 1 + l.size) = y at *
    obtain ⟨W1, hW1⟩ : ∃ W1, W1 = (w.setCell ⟨P, 4, none⟩ (.int .i64 (n + 1))).alloc (.cells #[.int .i64 m.1, .slice (some ⟨mb, mo, none⟩) m.2.length ca, .int .i64 ax, .int .i64 x, .int .i64 y] 45) := ⟨_, rfl⟩
    have hz1 : W1.heap.size = w.heap.size + 1 := by rw [hW1]; simp
    have G0 := grown_setCell w P 4 (.int .i64 (n + 1))
    have hz0 : (w.setCell ⟨P, 4, none⟩ (.int .i64 (n + 1))).heap.size = w.heap.size := setCell_size _ _ _
    have L0 : Below (w.setCell ⟨P, 4, none⟩ (.int .i64 (n + 1))).heap.size (w.setCell ⟨P, 4, none⟩ (.int .i64 (n + 1))) W1 := by rw [hW1]; exact alloc_below _ _
    have T1 : Five W1 P (.slice (some ⟨bl, off, none⟩) ks.length cap) (.slice (some ⟨qb, qo, none⟩) q.length qc) (.int .i64 k) (.slice a near.length c) (.int .i64 (n + 1)) 98 := (h5.set4 _).below L0
    have F1 : Five W1 w.heap.size (.int .i64 m.1) (.slice (some ⟨mb, mo, none⟩) m.2.length ca) (.int .i64 ax) (.int .i64 x) (.int .i64 y) 45 := by
      rw [hW1]
      have := Five.new (w.setCell ⟨P, 4, none⟩ (.int .i64 (n + 1))) (.int .i64 m.1) (.slice (some ⟨mb, mo, none⟩) m.2.length ca) (.int .i64 ax) (.int .i64 x) (.int .i64 y) 45
      rwa [setCell_size] at this
    have B1 : Below P W0 W1 := by rw [hW1]; exact (set_below hw (Nat.le_refl _) _).alloc (by simp; omega) _
    have BW1 : Below P w W1 := by rw [hW1]; exact (set_below (Below.refl P w) (Nat.le_refl _) _).alloc (by simp; omega) _
    have S1 : Sk w W1 P (.slice a near.length c) (.slice a near.length c) := (Sk.of_grown P _ G0).trans (Sk.of_below P _ L0)
    have R1 : W1.ownsRow base 154 2 (.slice a near.length c) near.length (hCells near) := by
      refine ⟨hr.1, ?_⟩
      rcases hr.2 with h2 | ⟨g, cp, cur, e1, hb1, hg, h6⟩
      · exact Or.inl h2
      · refine Or.inr ⟨g, cp, cur, e1, hb1, ?_, h6⟩
        have hgl := (Array.getElem?_eq_some_iff.1 hg).1
        exact (L0.block g (by omega)).trans ((G0.block g hgl (fun e => by injection e with e; omega)).trans hg)
    have HK1 : Hid (Five W1 P (.slice (some ⟨bl, off, none⟩) ks.length cap) (.slice (some ⟨qb, qo, none⟩) q.length qc) (.int .i64 k) (.slice a near.length c) (.int .i64 (n + 1)) 98 ∧ Five W1 w.heap.size (.int .i64 m.1) (.slice (some ⟨mb, mo, none⟩) m.2.length ca) (.int .i64 ax) (.int .i64 x) (.int .i64 y) 45 ∧ Below P W0 W1 ∧ Below P w W1 ∧ Sk w W1 P (.slice a near.length c) (.slice a near.length c) ∧ W1.ownsRow base 154 2 (.slice a near.length c) near.length (hCells near)) := ⟨T1, F1, B1, BW1, S1, R1⟩
    have hwrap : IntKind.i64.wrap (n + 1) = n + 1 := IntWalk.i64_in _ ⟨by omega, by omega⟩
    obtain ⟨p0, p1, p2, p3, p4⟩ := h5.cells
    have f4 := h5.frozen 4
    have HSO := hidP (And.intro hso (And.intro hnk (And.intro hsz0 hns)))
    have HXX := hidP (And.intro hx hy)
    clear ihl ihr ht hs hw h5 hr hv hq htl htr hrl hrr c0 c1 c2 c3 c4 T1 F1 B1 BW1 S1 R1 G0 L0 hz0 hms hml hok1 hok2 htw hso hnk hsz0 hns hx hy
    go_enter Try.func135, Try.ntmps135
    go_wp2_with fail
    rw [← hW1]
    clear hW1 a0 a1 a2 a3 a4 p0 p1 p2 p3 p4 f4
    have HFAR : Hid (Calls Try.prog 59 #[.slice (some ⟨qb, qo, none⟩) q.length qc, .slice (some ⟨mb, mo, none⟩) m.2.length ca] W1.drew fun e w' => e = .returned (.int .i64 (farV m.2 q)) ∧ Below W1.heap.size W1 w') := by
      obtain ⟨_, _, B1, _⟩ := HK1.out
      obtain ⟨s1, s2⟩ := HSEG.out W1.drew B1.drew
      have h := pFar qb qo qc mb mo ca q m.2 W1.drew s1 s2 (by show qb < W1.heap.size; omega) (by show mb < W1.heap.size; omega) (by rw [twoB_comm]; exact HTW.out)
      rw [far_turn HTW.out] at h
      exact h.mono fun e w' ⟨he, L⟩ => ⟨he, Below.trans ((Below.refl W1.heap.size W1).drew) L⟩
    have HKEEP : Hid (∀ w2, Below W1.heap.size W1 w2 → Calls Try.prog 174 #[.pointer (some ⟨P, 0, none⟩), .agg #[.int .i64 m.1, .int .i64 (farV m.2 q)]] w2 fun e w' => e = .returned (.tuple #[]) ∧ ∃ a3 c3, Five w' P (.slice (some ⟨bl, off, none⟩) ks.length cap) (.slice (some ⟨qb, qo, none⟩) q.length qc) (.int .i64 k) (.slice a3 ((putL near (hitF q m)).take k).length c3) (.int .i64 (n + 1)) 98 ∧ w'.ownsRow base 154 2 (.slice a3 ((putL near (hitF q m)).take k).length c3) ((putL near (hitF q m)).take k).length (hCells ((putL near (hitF q m)).take k)) ∧ Sk w w' P (.slice a near.length c) (.slice a3 ((putL near (hitF q m)).take k).length c3) ∧ Five w' w.heap.size (.int .i64 m.1) (.slice (some ⟨mb, mo, none⟩) m.2.length ca) (.int .i64 ax) (.int .i64 x) (.int .i64 y) 45 ∧ Below P w w' ∧ (Value.slice a3 ((putL near (hitF q m)).take k).length c3).ownBlock ≠ some w.heap.size) := fun w2 L2 => by
      obtain ⟨T1, F1, B1, BW1, S1, R1⟩ := HK1.out
      obtain ⟨hso, hnk, hsz0, hns⟩ := HSO.out
      have hl2 := L2.size
      refine (iKeep P P base c k a near (hitF q m) _ _ _ w2 (T1.below L2) (own_below R1 L2) hso (by omega) (Nat.le_refl _) hPb (by omega)).mono ?_
      rintro e w' ⟨he, ⟨g, c3, h5, hrow, hat⟩, B3, F3⟩
      have S2 : Sk w2 w' P (.slice a near.length c) (.slice (some ⟨g, 0, none⟩) ((putL near (hitF q m)).take k).length c3) := ⟨B3.size, fun g' hg' => by injection hg' with hg'; subst hg'; exact hat, F3⟩
      have S3 := (S1.trans (Sk.of_below P _ L2)).trans S2
      refine ⟨he, some ⟨g, 0, none⟩, c3, h5, hrow, S3, (F1.below L2).sk S2 (by omega) (fun e => by have := (HOB.out _ e).2; omega), Below.trans BW1 (Below.trans (L2.mono (by omega)) B3), fun e => ?_⟩
      injection e with e
      have e2 : g = w.heap.size := e
      rcases hat with h1 | h1
      · have := (HOB.out _ h1).2; omega
      · omega
    obtain ⟨T1, F1, _⟩ := HK1.out
    obtain ⟨g0, g1, _⟩ := F1.cells
    obtain ⟨_, p1, _⟩ := T1.cells
    have HS : Hid (∀ w', Below W1.heap.size W1 w' → w'.cell? ⟨P, 1, none⟩ = some (.slice (some ⟨qb, qo, none⟩) q.length qc) ∧ w'.cell? ⟨w.heap.size, 0, none⟩ = some (.int .i64 m.1) ∧ w'.cell? ⟨w.heap.size, 1, none⟩ = some (.slice (some ⟨mb, mo, none⟩) m.2.length ca)) := fun w' L =>
      ⟨(L.cell (p := ⟨P, 1, none⟩) T1.lt).trans p1, (L.cell (p := ⟨w.heap.size, 0, none⟩) F1.lt).trans g0, (L.cell (p := ⟨w.heap.size, 1, none⟩) F1.lt).trans g1⟩
    clear T1 F1 g0 g1 p1
    go_region_held3 (fun w' => w'.cell? ⟨P, 1, none⟩ = some (.slice (some ⟨qb, qo, none⟩) q.length qc) ∧ w'.cell? ⟨w.heap.size, 0, none⟩ = some (.int .i64 m.1) ∧ w'.cell? ⟨w.heap.size, 1, none⟩ = some (.slice (some ⟨mb, mo, none⟩) m.2.length ca))
      (first
        | (exact HS.out _ ((Below.refl _ _).drew))
        | (exact HS.out _ L2)
        | (exact ⟨T3.cells.2.1, F3.cells.1, F3.cells.2.1⟩)
        | go_keep)
      (first
        | (go_at_call 59; with_reducible refine HFAR.out.mono ?_; rintro e w2 ⟨rfl, L2⟩)
        | (go_at_call 174; with_reducible refine (HKEEP.out w2 L2).mono ?_; rintro e w3 ⟨rfl, a3, c3, T3, R3, S3, F3, B3, O3⟩))
    obtain ⟨N, hN⟩ : ∃ N, N = (putL near (hitF q m)).take k := ⟨_, rfl⟩
    obtain ⟨s, hs⟩ : ∃ s, s = (nth q ax - nth m.2 ax) * (nth q ax - nth m.2 ax) := ⟨_, rfl⟩
    have HVAL : Hid (seekT q k (.node m ax l r) (near, n) = if nth m.2 ax < nth q ax then (if gainB (seekT q k r (N, n + 1)).1 k s = true then seekT q k l (seekT q k r (N, n + 1)) else seekT q k r (N, n + 1)) else (if gainB (seekT q k l (N, n + 1)).1 k s = true then seekT q k r (seekT q k l (N, n + 1)) else seekT q k l (N, n + 1))) := by
      show seekT q k (.node m ax l r) (near, n) = _
      simp only [seekT]
      rw [← hN, ← hs]
    have HN : Hid (SortedH N ∧ N.length ≤ k ∧ N.length + (l.size + r.size) ≤ 60 ∧ n + 1 + (l.size + r.size : Nat) ≤ 1048576) := by
      obtain ⟨hso, hnk, hsz0, hns⟩ := HSO.out
      refine ⟨by rw [hN]; exact (putL_sorted hso _).sublist (List.take_sublist _ _), by rw [hN]; simp; omega, ?_, by omega⟩
      have : N.length ≤ near.length + 1 := by rw [hN, List.length_take, putL_length]; omega
      omega
    rw [← hN] at T3 R3 S3 O3
    have HS2 := hidP hs
    have H3 := hidP (And.intro T3 (And.intro R3 (And.intro S3 (And.intro F3 (And.intro B3 O3)))))
    obtain ⟨_, g1, g2, g3, g4⟩ := F3.cells
    obtain ⟨_, p1, _⟩ := T3.cells
    have cq := (HSEG.out w3 (Below.trans HW.out B3)).1 ax hax
    have cm := (HSEG.out w3 (Below.trans HW.out B3)).2 ax HAX.out
    clear hN hs T3 R3 S3 F3 B3 O3 L2 HFAR HKEEP HS HK1
    simp only [Exit.then]
    go_wp2_with fail
    go_quiet (fail)
    go_wp2_with fail
    go_quiet (fail)
    by_cases hlt : nth m.2 ax < nth q ax
    · have hod : decide (nth m.2 ax < nth q ax) = true := by simp [hlt]
      obtain ⟨u, hu⟩ : ∃ u : List Ht × Int, u = seekT q k r (N, n + 1) := ⟨_, rfl⟩
      obtain ⟨v, hv⟩ : ∃ v : List Ht × Int, v = seekT q k l u := ⟨_, rfl⟩
      have HV2 : Hid (seekT q k (.node m ax l r) (near, n) = if gainB u.1 k s = true then v else u) := by
        show seekT q k (.node m ax l r) (near, n) = _
        rw [HVAL.out, if_pos hlt, ← hu, ← hv]
      have HG := hidP (seek_good q k r (N, n + 1) HN.out.1 HN.out.2.1)
      have HR1 : Hid (∀ kk, Calls Try.prog 135 #[.pointer (some ⟨P, 0, none⟩), .int .i64 y] (w3.drewN kk) fun e w' => e = .returned (.tuple #[]) ∧ ∃ a4 c4, Five w' P (.slice (some ⟨bl, off, none⟩) ks.length cap) (.slice (some ⟨qb, qo, none⟩) q.length qc) (.int .i64 k) (.slice a4 u.1.length c4) (.int .i64 u.2) 98 ∧ w'.ownsRow base 154 2 (.slice a4 u.1.length c4) u.1.length (hCells u.1) ∧ Sk w w' P (.slice a near.length c) (.slice a4 u.1.length c4) ∧ Five w' w.heap.size (.int .i64 m.1) (.slice (some ⟨mb, mo, none⟩) m.2.length ca) (.int .i64 ax) (.int .i64 x) (.int .i64 y) 45 ∧ Below P w w') := fun kk => by
        obtain ⟨T3, R3, S3, F3, B3, _⟩ := H3.out
        obtain ⟨hn1, hn2, hn3, hn4⟩ := HN.out
        have hsz3 := B3.size
        refine (HREC.out true (w3.drewN kk) N (n + 1) a3 c3 (below_drewN (Below.trans HW.out B3) kk) T3 R3 hn1 hn2 (by simp only [if_true]; omega) (by omega) (by simp only [if_true]; omega) (by show base ≤ w3.heap.size; omega)).mono ?_
        rintro e w' ⟨he, ⟨a4, c4, T4, R4, S4⟩, B4⟩
        simp only [if_true] at T4 R4 S4
        rw [← hu] at T4 R4 S4
        have F3' : Five (w3.drewN kk) w.heap.size (.int .i64 m.1) (.slice (some ⟨mb, mo, none⟩) m.2.length ca) (.int .i64 ax) (.int .i64 x) (.int .i64 y) 45 := F3
        refine ⟨he, a4, c4, T4, R4, (S3.drewN kk).trans S4, F3'.sk S4 (fun e => hne e.symm) (fun e => ?_), Below.trans (below_drewN B3 kk) B4⟩
        have h1 := (World.ownsRow.lt R3 _ e).1
        rcases S3.2.1 _ e with h2 | h2
        · have := (HOB.out _ h2).2; omega
        · exact H3.out.2.2.2.2.2 e
      rw [← hu] at HG
      clear hu
      go_wp2_with fail
      refine (HR1.out _).mono ?_
      rintro e w4 ⟨rfl, a4, c4, T4, R4, S4, F4, B4⟩
      have H4 := hidP (And.intro T4 (And.intro R4 (And.intro S4 (And.intro F4 B4))))
      obtain ⟨_, g1, g2, g3, g4⟩ := F4.cells
      obtain ⟨p0, p1, p2, p3, p4⟩ := T4.cells
      have cm := (HSEG.out w4 (Below.trans HW.out B4)).2 ax HAX.out
      have HSQ : Hid (∀ kk, Calls Try.prog 123 #[.slice (some ⟨qb, qo, none⟩) q.length qc, .int .i64 ax, .int .i64 (nth m.2 ax)] (w4.drewN kk) fun e w' => e = .returned (.int .i64 s) ∧ ∃ m, w' = w4.drewN m) := fun kk => by
        have h := pSquare qb qo qc ax (nth m.2 ax) q (w4.drewN kk) (HSEG.out _ (below_drewN (Below.trans HW.out H4.out.2.2.2.2) kk)).1 hax hqv.1 hqv.2 hvb.1 hvb.2
        rw [← HS2.out] at h
        exact Calls.quiet_of h
      have HMG : Hid (∀ kk, Calls Try.prog 175 #[.pointer (some ⟨P, 0, none⟩), .int .i64 s] (w4.drewN kk) fun e w' => e = .returned (.bool (gainB u.1 k s)) ∧ ∃ m, w' = w4.drewN m) := fun kk =>
        Calls.quiet_of (iGain P c4 k a4 u.1 _ _ _ s (w4.drewN kk) H4.out.1 (own_viewH H4.out.2.1) hk1 hk2)
      clear T4 R4 S4 F4 B4 HR1
      go_wp2_with fail
      go_quiet (first | (go_at_call 123; exact HSQ.out _) | (go_at_call 175; exact HMG.out _))
      have HR2 : Hid (∀ kk, Calls Try.prog 135 #[.pointer (some ⟨P, 0, none⟩), .int .i64 x] (w4.drewN kk) fun e w' => e = .returned (.tuple #[]) ∧ (∃ a' c', Five w' P (.slice (some ⟨bl, off, none⟩) ks.length cap) (.slice (some ⟨qb, qo, none⟩) q.length qc) (.int .i64 k) (.slice a' v.1.length c') (.int .i64 v.2) 98 ∧ w'.ownsRow base 154 2 (.slice a' v.1.length c') v.1.length (hCells v.1) ∧ Sk w w' P (.slice a near.length c) (.slice a' v.1.length c')) ∧ Below P w w') := fun kk => by
        obtain ⟨T4, R4, S4, F4, B4⟩ := H4.out
        obtain ⟨hn1, hn2, hn3, hn4⟩ := HN.out
        obtain ⟨hg1, hg2, hg3, hg4, hg5⟩ := HG.out
        have hsz4 := B4.size
        refine (HREC.out false (w4.drewN kk) u.1 u.2 a4 c4 (below_drewN (Below.trans HW.out B4) kk) T4 R4 hg1 hg2 (by simp only [Bool.false_eq_true, if_false]; omega) (by omega) (by simp only [Bool.false_eq_true, if_false]; omega) (by show base ≤ w4.heap.size; omega)).mono ?_
        rintro e w' ⟨he, ⟨a5, c5, T5, R5, S5⟩, B5⟩
        simp only [Bool.false_eq_true, if_false] at T5 R5 S5
        rw [show ((u.1, u.2) : List Ht × Int) = u from rfl, ← hv] at T5 R5 S5
        exact ⟨he, ⟨a5, c5, T5, R5, (S4.drewN kk).trans S5⟩, Below.trans (below_drewN B4 kk) B5⟩
      clear hv
      by_cases hgn : gainB u.1 k s = true
      · rw [hgn]
        go_wp2_with fail
        refine (HR2.out _).mono ?_
        rintro e w5 ⟨rfl, H5⟩
        go_wp2_with fail
        go_end0
        rw [HV2.out, if_pos hgn]
        exact ⟨rfl, H5⟩
      · rw [Bool.not_eq_true] at hgn
        rw [hgn]
        go_wp2_with fail
        go_end0
        rw [HV2.out, if_neg (by simp [hgn])]
        exact ⟨rfl, ⟨a4, c4, H4.out.1, H4.out.2.1, H4.out.2.2.1.drewN _⟩, below_drewN H4.out.2.2.2.2 _⟩
    · have hod : decide (nth m.2 ax < nth q ax) = false := by simp [hlt]
      obtain ⟨u, hu⟩ : ∃ u : List Ht × Int, u = seekT q k l (N, n + 1) := ⟨_, rfl⟩
      obtain ⟨v, hv⟩ : ∃ v : List Ht × Int, v = seekT q k r u := ⟨_, rfl⟩
      have HV2 : Hid (seekT q k (.node m ax l r) (near, n) = if gainB u.1 k s = true then v else u) := by
        show seekT q k (.node m ax l r) (near, n) = _
        rw [HVAL.out, if_neg hlt, ← hu, ← hv]
      have HG := hidP (seek_good q k l (N, n + 1) HN.out.1 HN.out.2.1)
      have HR1 : Hid (∀ kk, Calls Try.prog 135 #[.pointer (some ⟨P, 0, none⟩), .int .i64 x] (w3.drewN kk) fun e w' => e = .returned (.tuple #[]) ∧ ∃ a4 c4, Five w' P (.slice (some ⟨bl, off, none⟩) ks.length cap) (.slice (some ⟨qb, qo, none⟩) q.length qc) (.int .i64 k) (.slice a4 u.1.length c4) (.int .i64 u.2) 98 ∧ w'.ownsRow base 154 2 (.slice a4 u.1.length c4) u.1.length (hCells u.1) ∧ Sk w w' P (.slice a near.length c) (.slice a4 u.1.length c4) ∧ Five w' w.heap.size (.int .i64 m.1) (.slice (some ⟨mb, mo, none⟩) m.2.length ca) (.int .i64 ax) (.int .i64 x) (.int .i64 y) 45 ∧ Below P w w') := fun kk => by
        obtain ⟨T3, R3, S3, F3, B3, _⟩ := H3.out
        obtain ⟨hn1, hn2, hn3, hn4⟩ := HN.out
        have hsz3 := B3.size
        refine (HREC.out false (w3.drewN kk) N (n + 1) a3 c3 (below_drewN (Below.trans HW.out B3) kk) T3 R3 hn1 hn2 (by simp only [Bool.false_eq_true, if_false]; omega) (by omega) (by simp only [Bool.false_eq_true, if_false]; omega) (by show base ≤ w3.heap.size; omega)).mono ?_
        rintro e w' ⟨he, ⟨a4, c4, T4, R4, S4⟩, B4⟩
        simp only [Bool.false_eq_true, if_false] at T4 R4 S4
        rw [← hu] at T4 R4 S4
        have F3' : Five (w3.drewN kk) w.heap.size (.int .i64 m.1) (.slice (some ⟨mb, mo, none⟩) m.2.length ca) (.int .i64 ax) (.int .i64 x) (.int .i64 y) 45 := F3
        refine ⟨he, a4, c4, T4, R4, (S3.drewN kk).trans S4, F3'.sk S4 (fun e => hne e.symm) (fun e => ?_), Below.trans (below_drewN B3 kk) B4⟩
        have h1 := (World.ownsRow.lt R3 _ e).1
        rcases S3.2.1 _ e with h2 | h2
        · have := (HOB.out _ h2).2; omega
        · exact H3.out.2.2.2.2.2 e
      rw [← hu] at HG
      clear hu
      go_wp2_with fail
      refine (HR1.out _).mono ?_
      rintro e w4 ⟨rfl, a4, c4, T4, R4, S4, F4, B4⟩
      have H4 := hidP (And.intro T4 (And.intro R4 (And.intro S4 (And.intro F4 B4))))
      obtain ⟨_, g1, g2, g3, g4⟩ := F4.cells
      obtain ⟨p0, p1, p2, p3, p4⟩ := T4.cells
      have cm := (HSEG.out w4 (Below.trans HW.out B4)).2 ax HAX.out
      have HSQ : Hid (∀ kk, Calls Try.prog 123 #[.slice (some ⟨qb, qo, none⟩) q.length qc, .int .i64 ax, .int .i64 (nth m.2 ax)] (w4.drewN kk) fun e w' => e = .returned (.int .i64 s) ∧ ∃ m, w' = w4.drewN m) := fun kk => by
        have h := pSquare qb qo qc ax (nth m.2 ax) q (w4.drewN kk) (HSEG.out _ (below_drewN (Below.trans HW.out H4.out.2.2.2.2) kk)).1 hax hqv.1 hqv.2 hvb.1 hvb.2
        rw [← HS2.out] at h
        exact Calls.quiet_of h
      have HMG : Hid (∀ kk, Calls Try.prog 175 #[.pointer (some ⟨P, 0, none⟩), .int .i64 s] (w4.drewN kk) fun e w' => e = .returned (.bool (gainB u.1 k s)) ∧ ∃ m, w' = w4.drewN m) := fun kk =>
        Calls.quiet_of (iGain P c4 k a4 u.1 _ _ _ s (w4.drewN kk) H4.out.1 (own_viewH H4.out.2.1) hk1 hk2)
      clear T4 R4 S4 F4 B4 HR1
      go_wp2_with fail
      go_quiet (first | (go_at_call 123; exact HSQ.out _) | (go_at_call 175; exact HMG.out _))
      have HR2 : Hid (∀ kk, Calls Try.prog 135 #[.pointer (some ⟨P, 0, none⟩), .int .i64 y] (w4.drewN kk) fun e w' => e = .returned (.tuple #[]) ∧ (∃ a' c', Five w' P (.slice (some ⟨bl, off, none⟩) ks.length cap) (.slice (some ⟨qb, qo, none⟩) q.length qc) (.int .i64 k) (.slice a' v.1.length c') (.int .i64 v.2) 98 ∧ w'.ownsRow base 154 2 (.slice a' v.1.length c') v.1.length (hCells v.1) ∧ Sk w w' P (.slice a near.length c) (.slice a' v.1.length c')) ∧ Below P w w') := fun kk => by
        obtain ⟨T4, R4, S4, F4, B4⟩ := H4.out
        obtain ⟨hn1, hn2, hn3, hn4⟩ := HN.out
        obtain ⟨hg1, hg2, hg3, hg4, hg5⟩ := HG.out
        have hsz4 := B4.size
        refine (HREC.out true (w4.drewN kk) u.1 u.2 a4 c4 (below_drewN (Below.trans HW.out B4) kk) T4 R4 hg1 hg2 (by simp only [if_true]; omega) (by omega) (by simp only [if_true]; omega) (by show base ≤ w4.heap.size; omega)).mono ?_
        rintro e w' ⟨he, ⟨a5, c5, T5, R5, S5⟩, B5⟩
        simp only [if_true] at T5 R5 S5
        rw [show ((u.1, u.2) : List Ht × Int) = u from rfl, ← hv] at T5 R5 S5
        exact ⟨he, ⟨a5, c5, T5, R5, (S4.drewN kk).trans S5⟩, Below.trans (below_drewN B4 kk) B5⟩
      clear hv
      by_cases hgn : gainB u.1 k s = true
      · rw [hgn]
        go_wp2_with fail
        refine (HR2.out _).mono ?_
        rintro e w5 ⟨rfl, H5⟩
        go_wp2_with fail
        go_end0
        rw [HV2.out, if_pos hgn]
        exact ⟨rfl, H5⟩
      · rw [Bool.not_eq_true] at hgn
        rw [hgn]
        go_wp2_with fail
        go_end0
        rw [HV2.out, if_neg (by simp [hgn])]
        exact ⟨rfl, ⟨a4, c4, H4.out.1, H4.out.2.1, H4.out.2.2.1.drewN _⟩, below_drewN H4.out.2.2.2.2 _⟩
end Go.Proofs.Ytodielfilhodeaa
