/-
  The draws of chapter 13: DrawCoded, DrawDecoded, DrawSum; point, with the row that it hands out.
-/
import Derived.Test.YthkaiienfkihmaaLvDraw
import Derived.Test.YthkaiienfkihmaaPickW
namespace Go.Proofs.Ythkaiienfkihmaa
open Go Go.RowKit

theorem Row.room {base : Nat} {w : World} {g c : Nat} {xs : List Int} (h : Row base w g c xs) : xs.length ≤ c := by
  obtain ⟨-, ⟨e, -⟩ | ⟨g', c', cur, e, -, -, h3, -⟩⟩ := h
  · cases e
  · cases e; exact h3
theorem LRow.room {base : Nat} {w : World} {g c : Nat} {rs : List Rw} (h : LRow base w g c rs) : rs.length ≤ c := by
  obtain ⟨-, ⟨e, -⟩ | ⟨g', c', cur, e, -, -, h3, -⟩⟩ := h
  · cases e
  · cases e; exact h3
/-- A drawn point, drawn levels. -/
def PtIn (w : World) (a : Option Addr) (c : Nat) (xs : List Int) : Prop := View w a xs ∧ xs.length ≤ 5 ∧ xs.length ≤ c
def LvIn (w : World) (a : Option Addr) (c : Nat) (ls : List (List Int)) : Prop := CView w a ls ∧ (ls.length ≤ 4 ∧ ∀ i, (cn ls i).length ≤ 5) ∧ ls.length ≤ c
theorem PtIn.next {w w' : World} {a : Option Addr} {c : Nat} {xs : List Int} (h : PtIn w a c xs) (L : Below w.heap.size w w') : PtIn w' a c xs := ⟨h.1.next L, h.2⟩
theorem LvIn.next {w w' : World} {a : Option Addr} {c : Nat} {ls : List (List Int)} (h : LvIn w a c ls) (L : Below w.heap.size w w') : LvIn w' a c ls := ⟨h.1.next L, h.2⟩
theorem LvIn.small {w : World} {a : Option Addr} {c : Nat} {ls : List (List Int)} (h : LvIn w a c ls) : CSmall ls := ⟨by have := h.2.1.1; omega, fun i => by have := h.2.1.2 i; omega⟩
theorem LMem.lvIn {base : Nat} {w : World} {g c : Nat} {rs : List Rw} (h : LMem base w g c rs) (hl : rs.length ≤ 4) (h5 : ∀ r ∈ rs, r.2.2.length ≤ 5) : LvIn w (some ⟨g, 0, none⟩) c (nums rs) := by
  refine ⟨h.view.cview, ⟨by rw [nums]; simp; exact hl, fun i => ?_⟩, by rw [nums]; simp; exact h.row.room⟩
  unfold cn
  rw [List.getD_eq_getElem?_getD]
  rcases hh : (nums rs)[i]? with _ | l
  · simp
  · have hl := List.mem_of_getElem? hh
    obtain ⟨r, hr, rfl⟩ := List.mem_map.1 hl
    exact h5 r hr
theorem nums_len (rs : List Rw) : (nums rs).length = rs.length := by simp [nums]
theorem cLvI (q : Nat) (ao : Option Addr) (n cap : Nat) (m : Int) (w : World) (hc : Cur w q ao n cap) (hv : CodeV w ao n) (hn : n ≤ 4096) (h0 : 0 ≤ m) (hm : m ≤ 4) :
    Calls Try.prog 37 #[.pointer (some ⟨q, 0, none⟩), .int .i64 m] w fun e w' => (∃ g c rs, e = .returned (.slice (some ⟨g, 0, none⟩) rs.length c) ∧ (rs.length : Int) = m ∧ (∀ r ∈ rs, r.2.2.length ≤ 5) ∧ LMem w.heap.size w' g c rs) ∧ Cur w' q ao n cap ∧ w.grownBy w' (some q) := by
  obtain ⟨k, rfl⟩ := Int.eq_ofNat_of_zero_le h0
  refine (cLv q ao n cap k w hc hv hn (by omega)).mono ?_
  rintro e w' ⟨⟨g, c, rs, rfl, hl, h5, hm⟩, h⟩
  exact ⟨⟨g, c, rs, rfl, by omega, h5, hm⟩, h⟩

set_option maxRecDepth 100000 in
set_option maxHeartbeats 1000000 in
theorem pointR (ao : Option Addr) (n cap m : Nat) (s : Int) (w : World) (hv : CodeV w ao n) (hn : n ≤ 4096) (hs0 : 0 ≤ s) (hs1 : s ≤ 900) (hm : m ≤ 5) :
    Calls Try.prog 25 #[.slice ao n cap, .int .i64 s, .int .i64 m] w fun e w' => ∃ g c xs, e = .returned (.slice (some ⟨g, 0, none⟩) xs.length c) ∧ xs.length = m ∧ (∀ x ∈ xs, -7 ≤ x ∧ x ≤ 7) ∧ Row w.heap.size w' g c xs ∧ Below w.heap.size w w' := by
  obtain ⟨i0, hi0, hz0, hz1, hz2⟩ := info_parts Try.info2
  go_enter Try.func25, Try.ntmps25
  go_wp2_with fail
  go_loopw [7, 8] (fun v i wr => ∃ (xs : List Int) (g c : Nat), xs.length ≤ m ∧ i = .int .i64 xs.length ∧ v = .slice (some ⟨g, 0, none⟩) xs.length c ∧ (∀ x ∈ xs, -7 ≤ x ∧ x ≤ 7) ∧ Row w.heap.size wr g c xs ∧ Below w.heap.size w wr) (fun _ i _ => m - (intOf i).toNat)
  case atStart =>
    exact ⟨[], w.heap.size, 0, Nat.zero_le _, rfl, rfl, by simp, World.ownsRow_lit w #[] 0 (Nat.le_refl _) (Nat.zero_le _) rfl, (Below.refl _ _).alloc (Nat.le_refl _) _⟩
  case round =>
    obtain ⟨xs, g, c, hk, rfl, rfl, hall, hrow, L⟩ := hrel
    have HA := hideP hall
    clear hall
    have hgl := hrow.lt g rfl
    have hz := L.size
    by_cases hlt : xs.length < m
    · go_wp2_with fail
      refine (pickW ao n cap (s + xs.length) 15 _ (hv.below (Nat.le_refl _) L) hn (by omega) (by omega) (by omega) (by omega)).mono ?_
      rintro e w1 ⟨⟨x, hx0, hx1, rfl⟩, hw1⟩
      subst hw1
      go_wp2_with (at_builtin; refine wpList_append_lies _ rfl (.tmp 15) (.tmp 22) 24 rfl w.heap.size 2 i0 _ 1 8 Try.underlying24 hi0 hz0 hz1 hz2 rfl (by omega) (.slice (some ⟨g, 0, none⟩) xs.length c) xs.length (xs.map (Value.int .i64)) rfl (World.ownsRow.alloc hrow _) ⟨w1.heap.size, 0, none⟩ 1 1 [.int .i64 (x - 7)] rfl rfl (World.news_of_block (cs := #[.int .i64 (x - 7)]) (t := 2) (fr := (0, 0)) (heap_alloc_new w1 _)) (by simp [Value.oneCell']) (by omega) (by unfold maxLen; omega) (by omega) (by simp; omega) (w1.heap.size + 1) (by simp) ?_; intro gg cc w2 hown2 hgrow hat hlt1)
      go_wp2
      go_roundw
      case rel =>
        refine ⟨xs ++ [x - 7], gg, cc, by simp; omega, ?_, ?_, ?_, ?_, ?_⟩
        · rw [List.length_append, List.length_singleton]; go_num
        · rw [List.length_append, List.length_singleton]
        · intro z hzm
          rcases List.mem_append.1 hzm with h | h
          · exact HA.out z h
          · simp at h; omega
        · unfold Row; rw [List.length_append, List.length_singleton, List.map_append]; exact hown2
        · exact (L.alloc hz _).grown hgrow (by simp; omega) (by intro k hk; simp [Value.ownBlock] at hk; omega)
      case measure => simp [intOf]; omega
    · have hml : xs.length = m := by omega
      have HM := hideP hml
      clear hml
      go_wp2_with fail
      go_ret
      exact ⟨g, c, xs, rfl, HM.out, HA.out, hrow, L⟩

set_option maxRecDepth 100000 in
set_option maxHeartbeats 1000000 in
theorem cDrawCod (ao : Option Addr) (n cap : Nat) (w : World) (hv : CodeV w ao n) (hn : n ≤ 4096) :
    Calls Try.prog 10 #[.slice ao n cap] w fun e w' => ∃ a c xs b d ls, e = .returned (.tuple #[.slice a xs.length c, .slice b ls.length d]) ∧ PtIn w' a c xs ∧ LvIn w' b d ls ∧ Below w.heap.size w w' := by
  go_enter Try.func10, Try.ntmps10
  go_wp2_with fail
  refine (cNew ao n cap _ hv hn).mono ?_
  rintro e w1 ⟨rfl, c1, L1⟩
  have hv1 := hv.below (Nat.le_refl _) L1
  have hq := c1.lt
  go_wp2_with fail
  refine (cBelow _ ao n cap 3 _ c1 hv1 hn (by omega) (by omega)).mono ?_
  rintro e w2 ⟨⟨y, y0, y1, rfl⟩, c2, g2⟩
  have L2 : Below w.heap.size w w2 := L1.grown g2 L1.size (by intro k hk; cases hk; exact Nat.le_refl _)
  have hv2 := hv1.grown c1 g2
  have hq2 := c2.lt
  have hyw : IntKind.i64.wrap (1 + y) = 1 + y := IntWalk.i64_in _ ⟨by omega, by omega⟩
  clear g2 L1 hv1 c1
  go_wp2_with fail
  refine (cAnyI _ ao n cap (1 + y) _ c2 hv2 hn (by omega) (by omega)).mono ?_
  rintro e w3 ⟨⟨g, c, xs, rfl, hx5, hrow⟩, c3, g3⟩
  have L3 : Below w.heap.size w w3 := L2.grown g3 L2.size (by intro k hk; cases hk; exact Nat.le_refl _)
  have hv3 := hv2.grown c2 g3
  have HR := hidP hrow
  clear g3 L2 hv2 c2 hrow
  go_wp2_with fail
  refine (cLvI _ ao n cap (1 + y) _ c3 hv3 hn (by omega) (by omega)).mono ?_
  rintro e w4 ⟨⟨gl, cl, rs, rfl, hl, h5, hm⟩, c4, g4⟩
  have hlr := HR.out.lt g rfl
  have HE : Hid (PtIn w4 (some ⟨g, 0, none⟩) c xs ∧ LvIn w4 (some ⟨gl, 0, none⟩) cl (nums rs) ∧ Below w.heap.size w w4) :=
    ⟨⟨Row.view (World.ownsRow.kept HR.out g4 (Or.inr (by simp [Value.ownBlock]; omega))), hx5, HR.out.room⟩, hm.lvIn (by omega) h5, L3.grown g4 L3.size (by intro k hk; cases hk; exact Nat.le_refl _)⟩
  clear hm h5 c4 g4 HR L3 hv3 c3 hyw
  go_wp2_with fail
  go_ret2
  exact ⟨some ⟨g, 0, none⟩, c, xs, some ⟨gl, 0, none⟩, cl, nums rs, by rw [nums_len]; rfl, HE.out⟩

set_option maxRecDepth 100000 in
set_option maxHeartbeats 4000000 in
theorem cDrawDecR (ao : Option Addr) (n cap : Nat) (w : World) (hv : CodeV w ao n) (hn : n ≤ 4096) :
    Calls Try.prog 12 #[.slice ao n cap] w fun e w' => ∃ g c xs gl cl rs, e = .returned (.tuple #[.slice (some ⟨g, 0, none⟩) xs.length c, .slice (some ⟨gl, 0, none⟩) rs.length cl]) ∧ (Row w.heap.size w' g c xs ∧ xs.length ≤ 5) ∧ (LMem w.heap.size w' gl cl rs ∧ rs.length ≤ 4 ∧ ∀ r ∈ rs, r.2.2.length ≤ 5) ∧ Below w.heap.size w w' := by
  obtain ⟨j0, hj0, hy0, hy1, hy2⟩ := info_parts Try.info2
  go_enter Try.func12, Try.ntmps12
  go_wp2_with fail
  refine (cNew ao n cap _ hv hn).mono ?_
  rintro e w1 ⟨rfl, c1, L1⟩
  have hv1 := hv.below (Nat.le_refl _) L1
  go_wp2_with fail
  refine (cBelow _ ao n cap 3 _ c1 hv1 hn (by omega) (by omega)).mono ?_
  rintro e w2 ⟨⟨y, y0, y1, rfl⟩, c2, g2⟩
  have L2 : Below w.heap.size w w2 := L1.grown g2 L1.size (by intro k hk; cases hk; exact Nat.le_refl _)
  have hv2 := hv1.grown c1 g2
  have hq := c2.lt
  have hyw : IntKind.i64.wrap (1 + y) = 1 + y := IntWalk.i64_in _ ⟨by omega, by omega⟩
  have HL2 := hidP L2
  have HV2 := hidP (And.intro hv2 c2)
  have HVC : Hid (∀ W g c rs, DrL w2 w.heap.size ao n cap W g c rs → CodeV W ao n) := fun W g c rs I => HV2.out.1.grown HV2.out.2 I.low
  clear g2 L1 hv1 c1 L2
  go_wp2_with fail
  refine (cLvI _ ao n cap (1 + y) _ c2 hv2 hn (by omega) (by omega)).mono ?_
  rintro e w3 ⟨⟨gl, cl, rs, rfl, hl, h5, hm⟩, c3, g3⟩
  have I3 : Hid (DrL w2 w.heap.size ao n cap w3 gl cl rs) := ⟨c3, hm, g3⟩
  have HE : Hid (∀ W, DrL w2 w.heap.size ao n cap W gl cl rs → (LMem w.heap.size W gl cl rs ∧ rs.length ≤ 4 ∧ ∀ r ∈ rs, r.2.2.length ≤ 5) ∧ Below w.heap.size w W) := fun W I => ⟨⟨I.mem.mono HL2.out.size, by omega, h5⟩, HL2.out.grown I.low HL2.out.size (by intro k hk; cases hk; exact Nat.le_refl _)⟩
  have hz3 := g3.size
  clear hm h5 c3 g3 hv2 c2
  have LA : Hid (Below w2.heap.size w3 (w3.alloc (.cells #[] 2))) := (Below.refl _ _).alloc hz3 _
  have I4 := hidP (I3.out.next hq LA.out (I3.out.mem.below (alloc_below w3 (.cells #[] 2))))
  have R4 := hidP (IRow.start w3 w2.heap.size hz3)
  have hgl := I3.out.mem.row.lt.2
  have HO : Hid (w3.heap.size ≠ gl ∧ ∀ x ∈ rs, x.1 ≠ w3.heap.size) := ⟨by omega, fun x hx => by have := (I3.out.mem.rows x hx).lt.2; omega⟩
  clear I3 LA hgl
  go_wp2_with fail
  go_loopw [7, 8] (fun v i wr => ∃ (xs : List Int) (g c : Nat), (xs.length : Int) ≤ 1 + y ∧ v = .slice (some ⟨g, 0, none⟩) xs.length c ∧ i = .int .i64 xs.length ∧ IRow w2.heap.size wr g c xs ∧ (g ≠ gl ∧ ∀ r ∈ rs, r.1 ≠ g) ∧ DrL w2 w.heap.size ao n cap wr gl cl rs) (fun _ i _ => (1 + y - intOf i).toNat)
  case atStart => exact ⟨[], _, 0, by simp; omega, rfl, rfl, R4.out, HO.out, I4.out⟩
  case round =>
    obtain ⟨xs, g, c, hxl, rfl, rfl, hrow, hoff, I⟩ := hrel
    clear I4 R4 HO
    have HI := hidP I
    have HR := hidP hrow
    have HO := hidP hoff
    clear I hrow hoff
    by_cases hlx : (xs.length : Int) < 1 + y
    · go_wp2_with fail
      refine (cFrom _ ao n cap (-1) 5 _ HI.out.cur (HVC.out _ _ _ _ HI.out) hn (by omega) (by omega) (by omega) (by omega)).mono ?_
      rintro e wa ⟨⟨x, hx0, hx1, rfl⟩, ca, ga⟩
      have Ia := hidP (HI.out.cursor hq ca ga)
      have Ra := hidP (row_cursor HR.out hq ga)
      clear HI HR ca ga
      have hza := Ia.out.low.size
      have hlr := Ra.out.lt
      have HOW : Hid ((wa.alloc (.cells #[.int .i64 x] 2)).ownsRow w2.heap.size 2 1 (.slice (some ⟨g, 0, none⟩) xs.length c) xs.length (xs.map (Value.int .i64))) := World.ownsRow.alloc Ra.out _
      have LA : Hid (Below w2.heap.size wa (wa.alloc (.cells #[.int .i64 x] 2))) := (Below.refl _ _).alloc hza _
      go_wp2_with (at_builtin; refine wpList_append_lies _ rfl (.tmp 23) (.tmp 26) 24 rfl w2.heap.size 2 j0 _ 1 8 Try.underlying24 hj0 hy0 hy1 hy2 rfl (by omega) (.slice (some ⟨g, 0, none⟩) xs.length c) xs.length (xs.map (Value.int .i64)) rfl HOW.out ⟨wa.heap.size, 0, none⟩ 1 1 [.int .i64 x] rfl rfl (World.news_of_block (cs := #[.int .i64 x]) (t := 2) (fr := (0, 0)) (heap_alloc_new wa _)) (by simp [Value.oneCell']) (by omega) (by unfold maxLen; omega) (by omega) (by simp; omega) (wa.heap.size + 1) (by simp) ?_; intro gg cc w5 hown5 hgrow hat hlt5)
      have R5 := hidP (IRow.of (xs := xs ++ [x]) hown5 (by simp) (by simp))
      have hgr : World.grownBy _ w5 (some g) := hgrow
      have L5 : Below w2.heap.size wa w5 := LA.out.grown hgr (by simp; omega) (by intro k hk; cases hk; exact hlr.1)
      have M5 : LMem w2.heap.size w5 gl cl rs := (Ia.out.mem.below (alloc_below wa (.cells #[.int .i64 x] 2))).kept hgr (fun e => by injection e with e; exact HO.out.1 e.symm) (fun r hr e => by injection e with e; exact HO.out.2 r hr e)
      have I5 := hidP (Ia.out.next hq L5 M5)
      have O5 : Hid (gg ≠ gl ∧ ∀ r ∈ rs, r.1 ≠ gg) := by
        rcases hat with h | h
        · have h' : g = gg := by simpa [Value.ownBlock] using h
          rw [← h']; exact HO.out
        · exact ⟨by have := Ia.out.mem.row.lt.2; omega, fun r hr => by have := (Ia.out.mem.rows r hr).lt.2; omega⟩
      clear hown5 hgrow hat hlt5 hgr L5 M5 Ia Ra HO HOW LA
      go_wp2_with fail
      refine (cOnce _ ao n cap 2 _ I5.out.cur (HVC.out _ _ _ _ I5.out) hn (by omega) (by omega)).mono ?_
      rintro e w6 ⟨⟨b, rfl⟩, c6, g6⟩
      have I6 := hidP (I5.out.cursor hq c6 g6)
      have R6 := hidP (row_cursor R5.out hq g6)
      clear I5 R5 c6 g6
      cases b with
      | false =>
        go_wp2_with fail
        go_roundw
        case rel => exact ⟨xs ++ [x], gg, cc, by simp; omega, by simp, by simp, R6.out, O5.out, I6.out⟩
        case measure => simp [intOf]; omega
      | true =>
        have hz6 := I6.out.low.size
        have hl6 := R6.out.lt
        have hln : xs.length < (xs ++ [x]).length := by simp
        have q0 := R6.out.seg xs.length hln
        have f0 := World.ownsRow.frozenAt R6.out xs.length
        rw [Nat.zero_add] at q0
        have hi0 : (0 : Int) ≤ (xs.length : Int) := Int.natCast_nonneg _
        have hi1 : (xs.length : Int) < (xs.length : Int) + 1 := by omega
        have R7 := hidP (R6.out.store xs.length 0)
        have L7 : Below w2.heap.size w6 (w6.setCell ⟨gg, xs.length, none⟩ (.int .i64 0)) := (Below.refl _ _).setCell (p := ⟨gg, xs.length, none⟩) hl6.1 _
        have hs : w6.grownBy (w6.setCell ⟨gg, xs.length, none⟩ (.int .i64 0)) (some gg) := (World.ownsRow.stored R6.out xs.length (.int .i64 0)).2
        have M7 : LMem w2.heap.size (w6.setCell ⟨gg, xs.length, none⟩ (.int .i64 0)) gl cl rs := I6.out.mem.kept hs (fun e => by injection e with e; exact O5.out.1 e.symm) (fun r hr e => by injection e with e; exact O5.out.2 r hr e)
        have I7 := hidP (I6.out.next hq L7 M7)
        clear L7 M7 hs R6 I6 hln
        go_wp2_with fail
        go_roundw
        case rel => exact ⟨(xs ++ [x]).set xs.length 0, gg, cc, by simp; omega, by simp, by simp, R7.out, O5.out, I7.out⟩
        case measure => simp [intOf]; omega
    · have HP : Hid (Row w.heap.size wr g c xs ∧ xs.length ≤ 5) := ⟨HR.out.mono HL2.out.size, by omega⟩
      have HD := hidP (HE.out _ HI.out)
      clear HR HI HE HO HVC HL2 HV2
      go_wp2_with fail
      go_ret2
      exact ⟨g, c, xs, gl, cl, rs, rfl, HP.out, ⟨HD.out.1.1, HD.out.1.2.1, fun a b l hm => HD.out.1.2.2 (a, b, l) hm⟩, HD.out.2⟩
theorem cDrawDec (ao : Option Addr) (n cap : Nat) (w : World) (hv : CodeV w ao n) (hn : n ≤ 4096) :
    Calls Try.prog 12 #[.slice ao n cap] w fun e w' => ∃ a c xs b d ls, e = .returned (.tuple #[.slice a xs.length c, .slice b ls.length d]) ∧ PtIn w' a c xs ∧ LvIn w' b d ls ∧ Below w.heap.size w w' := by
  refine (cDrawDecR ao n cap w hv hn).mono ?_
  rintro e w' ⟨g, c, xs, gl, cl, rs, rfl, hr, hm, L⟩
  exact ⟨some ⟨g, 0, none⟩, c, xs, some ⟨gl, 0, none⟩, cl, nums rs, by rw [nums_len], ⟨hr.1.view, hr.2, hr.1.room⟩, hm.1.lvIn hm.2.1 hm.2.2, L⟩

set_option maxRecDepth 100000 in
set_option maxHeartbeats 1000000 in
theorem cDrawSum (ao : Option Addr) (n cap : Nat) (w : World) (hv : CodeV w ao n) (hn : n ≤ 4096) :
    Calls Try.prog 13 #[.slice ao n cap] w fun e w' => ∃ f h ys a c xs b d ls, e = .returned (.tuple #[.slice f ys.length h, .slice a xs.length c, .slice b ls.length d]) ∧ PtIn w' f h ys ∧ PtIn w' a c xs ∧ LvIn w' b d ls ∧ Below w.heap.size w w' := by
  go_enter Try.func13, Try.ntmps13
  go_wp2_with fail
  refine (cNew ao n cap _ hv hn).mono ?_
  rintro e w1 ⟨rfl, c1, L1⟩
  have hv1 := hv.below (Nat.le_refl _) L1
  have hq := c1.lt
  go_wp2_with fail
  refine (cDrawDecR ao n cap _ hv1 hn).mono ?_
  rintro e w2 ⟨g, c, xs, gl, cl, rs, rfl, hr, hm, L2⟩
  have hv2 := hv1.below (Nat.le_refl _) L2
  have c2 : Cur w2 w.heap.size ao n cap := by
    obtain ⟨i, x, hi, hb⟩ := c1
    exact ⟨i, x, hi, (L2.block _ hq).trans hb⟩
  have L12 := chain L1 L2
  have hl4 := hm.2.1
  have HP := hidP (And.intro hr hm)
  clear hr hm L1 hv1 c1
  have hmx : (0 : Int) ≤ maxV 1 (rs.length : Int) ∧ maxV 1 (rs.length : Int) ≤ 4 := by unfold maxV; omega
  go_wp2_with fail
  refine (sMax 1 (rs.length : Int) _).mono ?_
  rintro e w3 ⟨rfl, hw3⟩
  subst hw3
  go_wp2_with fail
  refine (cAnyI _ ao n cap _ _ c2 hv2 hn hmx.1 hmx.2).mono ?_
  rintro e w4 ⟨⟨f, h, ys, rfl, hy5, hrow⟩, c4, g4⟩
  have HE : Hid (PtIn w4 (some ⟨f, 0, none⟩) h ys ∧ PtIn w4 (some ⟨g, 0, none⟩) c xs ∧ LvIn w4 (some ⟨gl, 0, none⟩) cl (nums rs) ∧ Below w.heap.size w w4) := by
    obtain ⟨⟨r1, r2⟩, m1, m2, m3⟩ := HP.out
    have hlr := r1.lt g rfl
    refine ⟨⟨hrow.view, hy5, hrow.room⟩, ⟨Row.view (World.ownsRow.kept r1 g4 (Or.inr (by simp [Value.ownBlock]; omega))), r2, r1.room⟩, (m1.kept g4 (fun e => ?_) (fun x hx e => ?_)).lvIn m2 m3, L12.grown g4 L12.size (by intro k hk; cases hk; exact Nat.le_refl _)⟩
    · injection e with e; have := m1.row.lt.1; omega
    · injection e with e; have := (m1.rows x hx).lt.1; omega
  clear hrow c4 g4 HP L12 hv2 c2 hmx L2
  go_wp2_with fail
  go_ret3
  exact ⟨some ⟨f, 0, none⟩, h, ys, some ⟨g, 0, none⟩, c, xs, some ⟨gl, 0, none⟩, cl, nums rs, by rw [nums_len]; rfl, HE.out⟩

end Go.Proofs.Ythkaiienfkihmaa
