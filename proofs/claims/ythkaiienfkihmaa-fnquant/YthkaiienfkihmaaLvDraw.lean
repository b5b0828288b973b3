/-
  The draws of chapter 13: l13Draw (lists of levels).
-/
import Derived.Test.YthkaiienfkihmaaBytes
import Derived.Test.YthkaiienfkihmaaJRw
import Derived.Test.YthkaiienfkihmaaAppend
import Derived.Test.YthkaiienfkihmaaLast2
namespace Go.Proofs.Ythkaiienfkihmaa
open Go Go.RowKit

/-- Two operations may come up, in either order. -/
theorem calm_two {P : Program} {md : Region.Mode} {Q : Exit → Act → World → Prop} {ops : Array Oper} {S : World → Prop} {fuel : Nat} {listed : Array Bool} {a : Act} {w : World} {o o2 : Oper} (i j : Nat) (hr : Region.ready md ops listed = [i, j]) (ho : ops[i]? = some o) (ho2 : ops[j]? = some o2)
    (h : ∀ K : Act → World → Prop, Shut (∀ a w, S w → (S w → wpAnyH P md ops Q S fuel (listed.setIfInBounds i true) a w) → K a w) → if Region.wanted o (yielded ops a.tmps) = true then Oper.wp P o a w K Q else K (a.put o.dst undef) w)
    (h2 : ∀ K : Act → World → Prop, Shut (∀ a w, S w → (S w → wpAnyH P md ops Q S fuel (listed.setIfInBounds j true) a w) → K a w) → if Region.wanted o2 (yielded ops a.tmps) = true then Oper.wp P o2 a w K Q else K (a.put o2.dst undef) w) : wpAnyH P md ops Q S (fuel + 1) listed a w :=
  wpAnyH_ready hr (by simp) (AllReadyH.cons ho h (AllReadyH.cons ho2 h2 AllReadyH.nil))

theorem one_src13 {w : World} {n : Nat} {x : Int} (hb : w.heap[n]? = some (.cells #[.int .i64 x] 2 (0, 0))) : SrcAt w 1 (some ⟨n, 0, none⟩) 1 [.int .i64 x] :=
  ⟨rfl, by simp [Value.oneCell'], Or.inr ⟨_, rfl, World.news_of_block (cs := #[.int .i64 x]) hb⟩⟩
theorem LMem.uniq {base : Nat} {w : World} {g c : Nat} {rs : List Rw} (h : LMem base w g c rs) {i j : Nat} (hi : i < rs.length) (hj : j < rs.length) (e : rs[i].1 = rs[j].1) : i = j := by
  have hp := List.pairwise_iff_getElem.1 h.apart
  rcases Nat.lt_trichotomy i j with h1 | h1 | h1
  · exact absurd (by rw [List.getElem_map, List.getElem_map]; exact e) (hp i j (by simpa using hi) (by simpa using hj) h1)
  · exact h1
  · exact absurd (by rw [List.getElem_map, List.getElem_map]; exact e.symm) (hp j i (by simpa using hj) (by simpa using hi) h1)
/-- One row of a row of rows is another now: grown in its place, or new. -/
theorem LMem.over {base : Nat} {w w8 : World} {g c : Nat} {rs : List Rw} (h : LMem base w g c rs) (k : Nat) (hk : k < rs.length) {gg cc : Nat} {ys : List Int} (hown : IRow base w8 gg cc ys) (hg : w.grownBy w8 (some rs[k].1)) (hat : rs[k].1 = gg ∨ w.heap.size ≤ gg) :
    LMem base (w8.setCell ⟨g, k, none⟩ (rwV (gg, cc, ys))) g c (rs.set k (gg, cc, ys)) := by
  have hk1 : rs[k].1 ≠ g := h.off _ (List.getElem_mem hk)
  have hall : ∀ x ∈ rs, base ≤ x.1 ∧ x.1 < w.heap.size := fun x hx => (h.rows x hx).lt
  have hgl := h.row.lt
  have hggg : gg ≠ g := by rcases hat with e | e <;> omega
  have hnew : ∀ j (hj : j < rs.length), j ≠ k → rs[j].1 ≠ gg := fun j hj hne e => by
    rcases hat with e' | e'
    · exact hne (h.uniq hj hk (by omega))
    · have := hall _ (List.getElem_mem hj)
      omega
  have r1 : LRow base w8 g c rs := h.row.kept hg (by simp; omega)
  have heap8 : ∀ i, i ≠ g → (w8.setCell ⟨g, k, none⟩ (rwV (gg, cc, ys))).heap[i]? = w8.heap[i]? := fun i hi => Below.heap_setCell w8 ⟨g, k, none⟩ _ i (fun e => hi e)
  refine ⟨?_, fun x hx => ?_, ?_, fun x hx => ?_⟩
  · have h1 := (World.ownsRow.stored r1 k (rwV (gg, cc, ys))).1
    unfold LRow
    rw [List.length_set, List.map_set]
    exact h1
  · obtain ⟨j, hj, e⟩ := List.getElem_of_mem hx
    rw [List.length_set] at hj
    rw [List.getElem_set] at e
    by_cases hjk : k = j
    · rw [if_pos hjk] at e
      rw [← e]
      exact hown.same (heap8 gg hggg)
    · rw [if_neg hjk] at e
      rw [← e]
      have hne : rs[j].1 ≠ rs[k].1 := fun e' => hjk (h.uniq hj hk e').symm
      have h2 := (h.rows _ (List.getElem_mem hj)).kept hg (by simp; omega)
      exact h2.same (heap8 _ (h.off _ (List.getElem_mem hj)))
  · refine List.pairwise_iff_getElem.2 (fun i j hi hj hij => ?_)
    have hi' : i < rs.length := by simpa using hi
    have hj' : j < rs.length := by simpa using hj
    simp only [List.getElem_map, List.getElem_set]
    by_cases h1 : k = i
    · rw [if_pos h1, if_neg (by omega)]
      exact fun e => hnew j hj' (by omega) e.symm
    · by_cases h2 : k = j
      · rw [if_neg h1, if_pos h2]
        exact fun e => hnew i hi' (by omega) e
      · rw [if_neg h1, if_neg h2]
        exact fun e => by have := h.uniq hi' hj' e; omega
  · obtain ⟨j, hj, e⟩ := List.getElem_of_mem hx
    rw [List.length_set] at hj
    rw [List.getElem_set] at e
    by_cases hjk : k = j
    · rw [if_pos hjk] at e
      rw [← e]
      exact hggg
    · rw [if_neg hjk] at e
      rw [← e]
      exact h.off _ (List.getElem_mem hj)

/-- The draw of levels, between two steps. -/
structure DrL (w : World) (q : Nat) (ao : Option Addr) (n cap : Nat) (wr : World) (g c : Nat) (rs : List Rw) : Prop where
  cur : Cur wr q ao n cap
  mem : LMem w.heap.size wr g c rs
  low : w.grownBy wr (some q)
theorem DrL.cursor {w : World} {q : Nat} {ao : Option Addr} {n cap : Nat} {wr wr' : World} {g c : Nat} {rs : List Rw} (h : DrL w q ao n cap wr g c rs) (hqw : q < w.heap.size) (cu : Cur wr' q ao n cap) (hg : wr.grownBy wr' (some q)) : DrL w q ao n cap wr' g c rs :=
  ⟨cu, h.mem.kept hg (fun e => by injection e with e; have := h.mem.row.lt.1; omega) (fun x hx e => by injection e with e; have := (h.mem.rows x hx).lt.1; omega), grown_trans h.low hg⟩
theorem DrL.next {w : World} {q : Nat} {ao : Option Addr} {n cap : Nat} {wr wr' : World} {g c g' c' : Nat} {rs rs' : List Rw} (h : DrL w q ao n cap wr g c rs) (hqw : q < w.heap.size) (L : Below w.heap.size wr wr') (hm : LMem w.heap.size wr' g' c' rs') : DrL w q ao n cap wr' g' c' rs' := by
  have gn : w.grownBy wr' (some q) := ⟨L.os.trans h.low.os, L.tape.trans h.low.tape, L.output.trans h.low.output, Nat.le_trans h.low.size L.size, fun i hi hne => (L.block i hi).trans (h.low.block i hi hne)⟩
  refine ⟨?_, hm, gn⟩
  obtain ⟨i, x, hi, hb⟩ := h.cur
  exact ⟨i, x, hi, (L.block q hqw).trans hb⟩
theorem row_cursor {base : Nat} {wr wr' : World} {q g c : Nat} {xs : List Int} (h : IRow base wr g c xs) (hq : q < base) (hg : wr.grownBy wr' (some q)) : IRow base wr' g c xs :=
  h.kept hg (fun e => by injection e with e; have := h.lt.1; omega)
theorem three_at (y : Nat) (h : y < 3) : ∃ v, (#[.int .i64 1000, .int .i64 1001, .int .i64 (-9)] : Array Value)[y]? = some (.int .i64 v) := by
  match y, h with
  | 0, _ => exact ⟨_, rfl⟩
  | 1, _ => exact ⟨_, rfl⟩
  | 2, _ => exact ⟨_, rfl⟩

set_option maxRecDepth 100000 in
set_option maxHeartbeats 4000000 in
theorem cLv (q : Nat) (ao : Option Addr) (n cap m : Nat) (w : World) (hc : Cur w q ao n cap) (hv : CodeV w ao n) (hn : n ≤ 4096) (hm : m ≤ 99) :
    Calls Try.prog 37 #[.pointer (some ⟨q, 0, none⟩), .int .i64 m] w fun e w' => (∃ g c rs, e = .returned (.slice (some ⟨g, 0, none⟩) rs.length c) ∧ rs.length = m ∧ (∀ r ∈ rs, r.2.2.length ≤ 5) ∧ LMem w.heap.size w' g c rs) ∧ Cur w' q ao n cap ∧ w.grownBy w' (some q) := by
  have hq := hc.lt
  obtain ⟨i0, hi0, hz0, hz1, hzz⟩ := info_parts Try.infoL
  obtain ⟨j0, hj0, hy0, hy1, hy2⟩ := info_parts Try.info2
  have HVC : Hid (∀ W g c rs, DrL w q ao n cap W g c rs → CodeV W ao n) := fun W g c rs I => hv.grown hc I.low
  clear hv
  go_enter Try.func37, Try.ntmps37
  go_wp2_with fail
  go_loopw [1, 5] (fun s v wr => ∃ (rs : List Rw) (g c : Nat), rs.length ≤ m ∧ s = .int .i64 ((m : Int) - rs.length) ∧ v = .slice (some ⟨g, 0, none⟩) rs.length c ∧ (∀ r ∈ rs, r.2.2.length ≤ 4) ∧ DrL w q ao n cap wr g c rs) (fun s _ _ => (intOf s).toNat)
  case atStart => exact ⟨[], w.heap.size, 0, Nat.zero_le _, by simp, rfl, by simp, hc.alloc _, LMem.start w _ (Nat.le_refl _), World.grownBy_alloc w _ _⟩
  case round =>
    obtain ⟨rs, g, c, hk, rfl, rfl, hr4, I⟩ := hrel
    have H4 := hidP hr4
    have HI := hidP I
    have hz := I.low.size
    clear hr4 I hc
    by_cases hlt : rs.length < m
    · have L1 : Hid (Below w.heap.size wr (wr.alloc (.cells #[] 2))) := (Below.refl _ _).alloc hz _
      have I1 := hidP (HI.out.next hq L1.out (HI.out.mem.below (alloc_below wr (.cells #[] 2))))
      have R1 := hidP (IRow.start wr w.heap.size hz)
      have hgl := HI.out.mem.row.lt.2
      have HO : Hid (wr.heap.size ≠ g ∧ ∀ x ∈ rs, x.1 ≠ wr.heap.size) := ⟨by omega, fun x hx => by have := (HI.out.mem.rows x hx).lt.2; omega⟩
      clear HI L1 hgl
      go_wp2_with fail
      refine (cFrom q ao n cap (-8) 5 _ I1.out.cur (HVC.out _ _ _ _ I1.out) hn (by omega) (by omega) (by omega) (by omega)).mono ?_
      rintro e w1 ⟨⟨a0, ha0, ha1, rfl⟩, c1, g1⟩
      have I2 := hidP (I1.out.cursor hq c1 g1)
      have R2 := hidP (row_cursor R1.out hq g1)
      clear I1 R1 c1 g1
      go_wp2_with fail
      refine (cBelow q ao n cap 4 _ I2.out.cur (HVC.out _ _ _ _ I2.out) hn (by omega) (by omega)).mono ?_
      rintro e w2 ⟨⟨y, y0, y1, rfl⟩, c2, g2⟩
      have I3 := hidP (I2.out.cursor hq c2 g2)
      have R3 := hidP (row_cursor R2.out hq g2)
      clear I2 R2 c2 g2
      have hyw : IntKind.i64.wrap (1 + y) = 1 + y := IntWalk.i64_in _ ⟨by omega, by omega⟩
      go_wp2_with fail
      go_loopw [6, 7, 8] (fun lv av kv wr => ∃ (xs : List Int) (gl cl : Nat) (x : Int), (xs.length : Int) ≤ 1 + y ∧ lv = .slice (some ⟨gl, 0, none⟩) xs.length cl ∧ av = .int .i64 x ∧ -8 ≤ x ∧ x ≤ 5 + 5 * (xs.length : Int) ∧ kv = .int .i64 (1 + y - xs.length) ∧ IRow w.heap.size wr gl cl xs ∧ (gl ≠ g ∧ ∀ r ∈ rs, r.1 ≠ gl) ∧ DrL w q ao n cap wr g c rs) (fun _ _ kv _ => (intOf kv).toNat)
      case atStart => exact ⟨[], _, 0, a0, by simp; omega, rfl, rfl, by omega, by simp; omega, by simp, R3.out, HO.out, I3.out⟩
      case round =>
        obtain ⟨xs, gl, cl, x, hxl, rfl, rfl, hx0, hx1, rfl, hrow, hoff, I⟩ := hrel
        clear I3 R3 HO
        have HI := hidP I
        have HR := hidP hrow
        have HO := hidP hoff
        have hz2 := I.low.size
        have hlr := hrow.lt
        clear I hrow hoff
        by_cases hlx : (xs.length : Int) < 1 + y
        · have HOW : Hid ((wr.alloc (.cells #[.int .i64 x] 2)).ownsRow w.heap.size 2 1 (.slice (some ⟨gl, 0, none⟩) xs.length cl) xs.length (xs.map (Value.int .i64))) := World.ownsRow.alloc HR.out _
          have LA : Hid (Below w.heap.size wr (wr.alloc (.cells #[.int .i64 x] 2))) := (Below.refl _ _).alloc hz2 _
          go_wp2_with (at_builtin; refine wpList_append_lies _ rfl (.tmp 24) (.tmp 26) 24 rfl w.heap.size 2 j0 _ 1 8 Try.underlying24 hj0 hy0 hy1 hy2 rfl (by omega) (.slice (some ⟨gl, 0, none⟩) xs.length cl) xs.length (xs.map (Value.int .i64)) rfl HOW.out ⟨wr.heap.size, 0, none⟩ 1 1 [.int .i64 x] rfl rfl (World.news_of_block (cs := #[.int .i64 x]) (t := 2) (fr := (0, 0)) (heap_alloc_new wr _)) (by simp [Value.oneCell']) (by omega) (by unfold maxLen; omega) (by omega) (by simp; omega) (wr.heap.size + 1) (by simp) ?_; intro gg cc w5 hown5 hgrow hat hlt5)
          have R5 := hidP (IRow.of (xs := xs ++ [x]) hown5 (by simp) (by simp))
          have hgr : World.grownBy _ w5 (some gl) := hgrow
          have L5 : Below w.heap.size wr w5 := LA.out.grown hgr (by simp; omega) (by intro k hk; cases hk; exact hlr.1)
          have M5 : LMem w.heap.size w5 g c rs := (HI.out.mem.below (alloc_below wr (.cells #[.int .i64 x] 2))).kept hgr (fun e => by injection e with e; exact HO.out.1 e.symm) (fun r hr e => by injection e with e; exact HO.out.2 r hr e)
          have I5 := hidP (HI.out.next hq L5 M5)
          have O5 : Hid (gg ≠ g ∧ ∀ r ∈ rs, r.1 ≠ gg) := by
            rcases hat with h | h
            · have h' : gl = gg := by simpa [Value.ownBlock] using h
              rw [← h']; exact HO.out
            · exact ⟨by have := HI.out.mem.row.lt.2; omega, fun r hr => by have := (HI.out.mem.rows r hr).lt.2; omega⟩
          clear hown5 hgrow hat hlt5 hgr L5 M5 HI HR HO HOW LA
          have hxw : IntKind.i64.wrap (x + 1) = x + 1 := IntWalk.i64_in _ ⟨by omega, by omega⟩
          go_wp2_with fail
          refine (cBelow q ao n cap 5 _ I5.out.cur (HVC.out _ _ _ _ I5.out) hn (by omega) (by omega)).mono ?_
          rintro e w6 ⟨⟨z, z0, z1, rfl⟩, c6, g6⟩
          have I6 := hidP (I5.out.cursor hq c6 g6)
          have R6 := hidP (row_cursor R5.out hq g6)
          clear I5 R5 c6 g6
          have hxw2 : IntKind.i64.wrap (x + 1 + z) = x + 1 + z := IntWalk.i64_in _ ⟨by omega, by omega⟩
          go_wp2_with fail
          go_roundw
          case rel => exact ⟨xs ++ [x], gg, cc, x + 1 + z, by simp; omega, by simp, rfl, by omega, by simp; omega, by simp; omega, R6.out, O5.out, I6.out⟩
          case measure => simp [intOf]; omega
        · have hx4 : xs.length ≤ 4 := by omega
          have A1 := alloc_below wr (.cells #[.slice (some ⟨gl, 0, none⟩) xs.length cl] 24)
          have M1 := hidP (HI.out.mem.below A1)
          have R1 := hidP (HR.out.below A1)
          have LA : Hid (Below w.heap.size wr (wr.alloc (.cells #[.slice (some ⟨gl, 0, none⟩) xs.length cl] 24))) := (Below.refl _ _).alloc hz2 _
          have HOW : Hid ((wr.alloc (.cells #[.slice (some ⟨gl, 0, none⟩) xs.length cl] 24)).ownsRow w.heap.size 24 1 (.slice (some ⟨g, 0, none⟩) rs.length c) rs.length (rs.map rwV)) := M1.out.row
          have hbl := HI.out.mem.row.lt
          clear A1
          go_wp2_with (at_builtin; refine wpList_append_lies _ rfl (.tmp 33) (.tmp 35) 25 rfl w.heap.size 24 i0 _ 1 24 Try.underlying25 hi0 hz0 hz1 hzz rfl (by omega) (.slice (some ⟨g, 0, none⟩) rs.length c) rs.length (rs.map rwV) rfl HOW.out ⟨wr.heap.size, 0, none⟩ 1 1 [.slice (some ⟨gl, 0, none⟩) xs.length cl] rfl rfl (World.news_of_block (cs := #[.slice (some ⟨gl, 0, none⟩) xs.length cl]) (t := 24) (fr := (0, 0)) (heap_alloc_new wr _)) (by simp [Value.oneCell']) (by omega) (by unfold maxLen; omega) (by omega) (by simp; omega) (wr.heap.size + 1) (by simp) ?_; intro gx cx wx hown hgrow hatx hltx)
          have hgr : World.grownBy _ wx (some g) := hgrow
          have HX : Hid (LMem w.heap.size wx gx cx (rs ++ [(gl, cl, xs)])) := M1.out.snoc hown hgr (by rcases hatx with h | h; exact Or.inl (by simpa [Value.ownBlock] using h); exact Or.inr (by rw [h]; simp)) R1.out HO.out.1 HO.out.2
          have IX := hidP (HI.out.next hq (LA.out.grown hgr (by simp; omega) (by intro k hk; cases hk; exact hbl.1)) HX.out)
          have H4' : Hid (∀ r ∈ rs ++ [(gl, cl, xs)], r.2.2.length ≤ 4) := fun r hr => by
            rcases List.mem_append.1 hr with h | h
            · exact H4.out r h
            · rw [List.mem_singleton.1 h]; exact hx4
          clear hown hgrow hatx hltx hgr HX M1 R1 LA HOW HI HR HO
          go_wp2_with fail
          go_roundw
          case rel => exact ⟨rs ++ [(gl, cl, xs)], gx, cx, by simp; omega, by simp; omega, by simp, H4'.out, IX.out⟩
          case measure => simp [intOf]; omega
    · have hml : rs.length = m := by omega
      have HM := hidP hml
      go_wp2_with fail
      refine (cOnce q ao n cap 14 _ HI.out.cur (HVC.out _ _ _ _ HI.out) hn (by omega) (by omega)).mono ?_
      rintro e wa ⟨⟨x, rfl⟩, ca, ga⟩
      have Ia := hidP (HI.out.cursor hq ca ga)
      have HE : Hid (∀ r ∈ rs, r.2.2.length ≤ 5) := fun r hr => by have := H4.out r hr; omega
      clear HI ca ga hml
      cases x with
      | false =>
        go_wp2_with fail
        go_ret
        exact ⟨⟨g, c, rs, rfl, HM.out, HE.out, Ia.out.mem⟩, Ia.out.cur, Ia.out.low⟩
      | true =>
        by_cases h0 : rs.length = 0
        · have h0b : ¬ ((0 : Int) < (rs.length : Int)) := by omega
          have H0 := hidP h0
          clear h0
          go_wp2_with fail
          go_ret
          exact ⟨⟨g, c, rs, rfl, HM.out, HE.out, Ia.out.mem⟩, Ia.out.cur, Ia.out.low⟩
        · have h0b : (0 : Int) < (rs.length : Int) := by omega
          have h0n : 0 < rs.length := by omega
          go_wp2_with fail
          refine (cBelow q ao n cap 3 _ Ia.out.cur (HVC.out _ _ _ _ Ia.out) hn (by omega) (by omega)).mono ?_
          rintro e wb ⟨⟨y, y0, y1, rfl⟩, cb, gb⟩
          have Ib := hidP (Ia.out.cursor hq cb gb)
          clear Ia cb gb
          have HSET : Hid (∀ (gg cc : Nat) (ys : List Int), ys.length ≤ 5 → ∀ r ∈ rs.set 0 (gg, cc, ys), r.2.2.length ≤ 5) := fun gg cc ys hl r hr => by
            rcases List.mem_or_eq_of_mem_set hr with h | h
            · exact HE.out r h
            · rw [h]; exact hl
          have hzb := Ib.out.low.size
          have hbl := Ib.out.mem.row.lt
          have HCELL := hidP (Ib.out.mem.row.cell 0 h0n)
          have HFZ := hidP (World.ownsRow.frozenAt Ib.out.mem.row 0)
          have hy3 : y = 0 ∨ y = 1 ∨ y = 2 := by omega
          rcases hy3 with rfl | rfl | rfl
          · have LA : Below w.heap.size wb (wb.alloc (.cells #[] 2)) := (Below.refl _ _).alloc hzb _
            have q0 : (wb.alloc (.cells #[] 2)).cell? ⟨g, 0, none⟩ = some (rwV rs[0]) := ((alloc_below wb (.cells #[] 2)).cell (p := ⟨g, 0, none⟩) hbl.2).trans HCELL.out
            have f0 : (wb.alloc (.cells #[] 2)).frozen? ⟨g, 0, none⟩ = false := ((alloc_below wb (.cells #[] 2)).frozen (p := ⟨g, 0, none⟩) hbl.2).trans HFZ.out
            have M9 := hidP (Ib.out.mem.over 0 h0n (IRow.start wb w.heap.size hzb) (World.grownBy_alloc wb _ _) (Or.inr (Nat.le_refl _)))
            have I9 := hidP (Ib.out.next hq (LA.setCell (p := ⟨g, 0, none⟩) hbl.1 _) M9.out)
            unfold rwV at I9 q0
            rw [World.setCell_alloc_past _ _ _ _ hbl.2] at I9
            have HLS : Hid (∀ r : Rw, (rs.set 0 r).length = rs.length) := fun r => List.length_set
            clear M9 LA HCELL HFZ Ib
            go_wp2_with fail
            go_ret
            exact ⟨⟨g, c, rs.set 0 (wb.heap.size, 0, []), by rw [HLS.out]; rfl, by rw [HLS.out]; exact HM.out, HSET.out _ _ _ (by simp), I9.out.mem⟩, I9.out.cur, I9.out.low⟩
          · have q0 := HCELL.out
            have hrw := hidP (Ib.out.mem.rows _ (List.getElem_mem h0n))
            have hrlen := H4.out _ (List.getElem_mem h0n)
            have hoff := Ib.out.mem.off _ (List.getElem_mem h0n)
            have HOVER := hidP (fun (W w9 : World) (gg cc : Nat) (ys : List Int) (I : DrL w q ao n cap W g c rs) => I.mem.over 0 h0n (w8 := w9) (gg := gg) (cc := cc) (ys := ys))
            have HROW := hidP (fun (W : World) (I : DrL w q ao n cap W g c rs) => And.intro (I.mem.rows _ (List.getElem_mem h0n)) (And.intro (I.mem.row.cell 0 h0n) (World.ownsRow.frozenAt I.mem.row 0)))
            obtain ⟨r, hr⟩ : ∃ r, r = rs[0] := ⟨_, rfl⟩
            rw [← hr] at q0 hrw hrlen hoff HOVER HROW
            have HLS : Hid (∀ r : Rw, (rs.set 0 r).length = rs.length) := fun r => List.length_set
            clear hr HCELL
            unfold rwV at q0 HROW
            have hrl := hrw.out.lt
            go_wp2_with fail
            have hS0 := q0
            refine wp_region_calm (S := fun w' => w'.cell? ⟨g, 0, none⟩ = some (.slice (some ⟨r.1, 0, none⟩) r.2.2.length r.2.1)) (fuel := 7)
              [0, 1, 2, 3, 5] _ rfl (by kernel_rfl) (by kernel_rfl) (by kernel_rfl) (by kernel_rfl) (by kernel_rfl) (by kernel_rfl) (by kernel_rfl) hS0 (fun hS => ?_)
            simp only [List.pop_toArray, List.dropLast]
            iterate 5
              refine ⟨_, rfl, ?_⟩
              apply Exists.intro
              refine ⟨Or.inl ⟨by rfl, fun w' hw' => ?_⟩, ?_⟩
              · first
                | (go_simp; done)
                | (go_simp; with_reducible rfl)
              simp only [Act.put, List.getElem_toArray, List.getElem_cons_succ, List.getElem_cons_zero, List.setIfInBounds_toArray, List.set_cons_zero, List.set_cons_succ]
            refine calm_two 4 6 (by kernel_rfl) rfl rfl (fun K hK => ?_) (fun K hK => ?_)
            · go_simp
              obtain ⟨wA, hwA⟩ : ∃ wA, wA = (wb.alloc (.cells #[.int .i64 1000, .int .i64 1001, .int .i64 (-9)] 2)).drew := ⟨_, rfl⟩
              first
                | rw [show (wb.alloc (.cells #[.int .i64 1000, .int .i64 1001, .int .i64 (-9)] 2)).drew = wA from hwA.symm]
                | rw [show wb.drew.alloc (.cells #[.int .i64 1000, .int .i64 1001, .int .i64 (-9)] 2) = wA by rw [hwA]; rfl]
              have LA : Below w.heap.size wb wA := by rw [hwA]; exact ((Below.refl _ _).alloc hzb _).drew
              have LA2 : Below wb.heap.size wb wA := by rw [hwA]; exact (alloc_below wb _).drew
              have IA := hidP (Ib.out.next hq LA (Ib.out.mem.below LA2))
              have hlit : ∀ j, wA.cell? ⟨wb.heap.size, j, none⟩ = (#[.int .i64 1000, .int .i64 1001, .int .i64 (-9)] : Array Value)[j]? := fun j => by rw [hwA]; exact cell_of (w := wb.alloc (.cells #[.int .i64 1000, .int .i64 1001, .int .i64 (-9)] 2)) (heap_alloc_new wb _) j
              have hzA : wA.heap.size = wb.heap.size + 1 := by rw [hwA]; simp
              have HLIT := hidP hlit
              clear LA LA2 hwA hlit
              refine hK.out _ _ (HROW.out _ IA.out).2.1 (fun _ => ?_)
              clear hK K
              refine calm_one 6 (by kernel_rfl) rfl (fun K hK => ?_)
              go_simp
              refine (cBelow q ao n cap 3 _ IA.out.cur (HVC.out _ _ _ _ IA.out) hn (by omega) (by omega)).mono ?_
              rintro e w2 ⟨⟨z, z0, z1, rfl⟩, c2, g2⟩
              obtain ⟨zn, rfl⟩ := Int.eq_ofNat_of_zero_le z0
              obtain ⟨v, hv3⟩ := three_at zn (by omega)
              have ht : w2.cell? ⟨wb.heap.size, zn, none⟩ = some (.int .i64 v) := (cell_grown (by omega) g2 (by simp; omega)).trans ((HLIT.out zn).trans hv3)
              have I2 := hidP (IA.out.cursor hq c2 g2)
              clear c2 g2 hv3
              refine hK.out _ _ (HROW.out _ I2.out).2.1 (fun _ => ?_)
              clear hK K IA
              have hT := HROW.out _ I2.out
              have hSW := hT.2.1
              have hz9 := I2.out.low.size
              have hbW := I2.out.mem.row.lt
              have hrlW := hT.1.lt
              have hzn0 : (0 : Int) ≤ (zn : Int) := Int.natCast_nonneg _
              have hzn3 : (zn : Int) < 3 := by omega
              refine calm_one 7 (by kernel_rfl) rfl (fun K hK => ?_)
              go_simp
              refine hK.out _ _ hSW (fun _ => ?_)
              clear hK K
              refine calm_one 8 (by kernel_rfl) rfl (fun K hK => ?_)
              go_simp
              refine hK.out _ _ hSW (fun _ => ?_)
              clear hK K
              refine calm_one 9 (by kernel_rfl) rfl (fun K hK => ?_)
              go_simp
              obtain ⟨wC, hwC⟩ : ∃ wC, wC = w2.alloc (.cells #[.int .i64 v] 2) := ⟨_, rfl⟩
              have LC : Below w2.heap.size w2 wC := by rw [hwC]; exact alloc_below w2 _
              have HOA : Hid (wC.ownsRow w.heap.size 2 1 (.slice (some ⟨r.1, 0, none⟩) r.2.2.length r.2.1) r.2.2.length (r.2.2.map (Value.int .i64))) := by rw [hwC]; exact World.ownsRow.alloc hT.1 _
              have hbC : wC.heap[w2.heap.size]? = some (.cells #[.int .i64 v] 2 (0, 0)) := by rw [hwC]; exact heap_alloc_new w2 _
              have hzC : wC.heap.size = w2.heap.size + 1 := by rw [hwC]; simp
              have hgC : w2.grownBy wC (some r.1) := by rw [hwC]; exact World.grownBy_alloc w2 _ _
              have hSC : wC.cell? ⟨g, 0, none⟩ = some (.slice (some ⟨r.1, 0, none⟩) r.2.2.length r.2.1) := (LC.cell (p := ⟨g, 0, none⟩) hbW.2).trans hSW
              have hfC : wC.frozen? ⟨g, 0, none⟩ = false := (LC.frozen (p := ⟨g, 0, none⟩) hbW.2).trans hT.2.2
              rw [← hwC]
              refine hK.out _ _ hSC (fun _ => ?_)
              clear hK K
              refine calm_one 10 (by kernel_rfl) rfl (fun K hK => ?_)
              refine step_append_at _ (by rfl) (.tmp 56) (.tmp 62) 24 (by rfl) w.heap.size 2 j0 _ 1 8 Try.underlying24 hj0 hy0 hy1 hy2 rfl (by omega) r.1 r.2.2.length r.2.1 (r.2.2.map (Value.int .i64)) (by rfl) HOA.out (some ⟨w2.heap.size, 0, none⟩) 1 1 [.int .i64 v] (by rfl) (one_src13 hbC) (by unfold maxLen; omega) (by omega) (by omega) (w2.heap.size + 1) hzC ?_
              intro gg cc w9 hown hgrow hat9 hlt9
              have hS9 : w9.cell? ⟨g, 0, none⟩ = some (.slice (some ⟨r.1, 0, none⟩) r.2.2.length r.2.1) := (cell_grown (by omega) hgrow (by simp; omega)).trans hSC
              have hf9 : w9.frozen? ⟨g, 0, none⟩ = false := (frozen_grown (by omega) hgrow (by simp; omega)).trans hfC
              have hgr9 : w2.grownBy w9 (some r.1) := grown_trans hgC hgrow
              have hI9 : IRow w.heap.size w9 gg cc (r.2.2 ++ [v]) := IRow.of hown (by simp) (by simp)
              have HM9 := hidP (HOVER.out w2 w9 gg cc (r.2.2 ++ [v]) I2.out hI9 hgr9 (hat9.imp id (fun h => by omega)))
              have L9 : Below w.heap.size w2 w9 := (Below.refl _ _).grown hgr9 hz9 (by intro k hk; cases hk; exact hrlW.1)
              have I9 := hidP (I2.out.next hq (L9.setCell (p := ⟨g, 0, none⟩) hbW.1 _) HM9.out)
              have HLN9 : Hid ((r.2.2 ++ [v]).length = r.2.2.length + 1) := by show _ = _; simp
              unfold rwV at I9
              rw [HLN9.out] at I9
              refine hK.out _ _ hS9 (fun _ => ?_)
              clear hK K
              refine calm_one 11 (by kernel_rfl) rfl (fun K hK => ?_)
              go_simp
              refine hK.out _ _ hS9 (fun _ => ?_)
              clear hK K hS hS0 hSC hSW hown hgrow hat9 hlt9 hgr9 hI9 HM9 L9 HOA hbC hwC hgC LC hfC HOVER hT
              refine wpAnyH_done (by kernel_rfl) ?_ _
              simp only [Exit.then]
              go_wp2_with fail
              refine NoPanic.normal ?_
              go_wp2_with fail
              go_ret
              exact ⟨⟨g, c, rs.set 0 (gg, cc, r.2.2 ++ [v]), by rw [HLS.out]; rfl, by rw [HLS.out]; exact HM.out, HSET.out _ _ _ (by rw [HLN9.out]; omega), I9.out.mem⟩, I9.out.cur, I9.out.low⟩
            · go_simp
              refine (cBelow q ao n cap 3 wb.drew Ib.out.cur (show CodeV wb.drew ao n from HVC.out wb _ _ _ Ib.out) hn (by omega) (by omega)).mono ?_
              rintro e w2 ⟨⟨z, z0, z1, rfl⟩, c2, g2⟩
              obtain ⟨zn, rfl⟩ := Int.eq_ofNat_of_zero_le z0
              obtain ⟨v, hv3⟩ := three_at zn (by omega)
              have g2b : wb.grownBy w2 (some q) := ⟨g2.os, g2.tape, g2.output, g2.size, g2.block⟩
              have I2 := hidP (Ib.out.cursor hq c2 g2b)
              clear c2 g2 g2b
              have hz2 := I2.out.low.size
              refine hK.out _ _ (HROW.out _ I2.out).2.1 (fun _ => ?_)
              clear hK K
              refine calm_one 4 (by kernel_rfl) rfl (fun K hK => ?_)
              go_simp
              obtain ⟨wA, hwA⟩ : ∃ wA, wA = w2.alloc (.cells #[.int .i64 1000, .int .i64 1001, .int .i64 (-9)] 2) := ⟨_, rfl⟩
              rw [← hwA]
              have LA : Below w.heap.size w2 wA := by rw [hwA]; exact (Below.refl _ _).alloc hz2 _
              have LA2 : Below w2.heap.size w2 wA := by rw [hwA]; exact alloc_below w2 _
              have IA := hidP (I2.out.next hq LA (I2.out.mem.below LA2))
              have ht : wA.cell? ⟨w2.heap.size, zn, none⟩ = some (.int .i64 v) := by rw [hwA]; exact (cell_of (w := w2.alloc (.cells #[.int .i64 1000, .int .i64 1001, .int .i64 (-9)] 2)) (heap_alloc_new w2 _) zn).trans hv3
              clear LA LA2 hwA hv3
              refine hK.out _ _ (HROW.out _ IA.out).2.1 (fun _ => ?_)
              clear hK K I2
              have hT := HROW.out _ IA.out
              have hSW := hT.2.1
              have hz9 := IA.out.low.size
              have hbW := IA.out.mem.row.lt
              have hrlW := hT.1.lt
              have hzn0 : (0 : Int) ≤ (zn : Int) := Int.natCast_nonneg _
              have hzn3 : (zn : Int) < 3 := by omega
              refine calm_one 7 (by kernel_rfl) rfl (fun K hK => ?_)
              go_simp
              refine hK.out _ _ hSW (fun _ => ?_)
              clear hK K
              refine calm_one 8 (by kernel_rfl) rfl (fun K hK => ?_)
              go_simp
              refine hK.out _ _ hSW (fun _ => ?_)
              clear hK K
              refine calm_one 9 (by kernel_rfl) rfl (fun K hK => ?_)
              go_simp
              obtain ⟨wC, hwC⟩ : ∃ wC, wC = wA.alloc (.cells #[.int .i64 v] 2) := ⟨_, rfl⟩
              have LC : Below wA.heap.size wA wC := by rw [hwC]; exact alloc_below wA _
              have HOA : Hid (wC.ownsRow w.heap.size 2 1 (.slice (some ⟨r.1, 0, none⟩) r.2.2.length r.2.1) r.2.2.length (r.2.2.map (Value.int .i64))) := by rw [hwC]; exact World.ownsRow.alloc hT.1 _
              have hbC : wC.heap[wA.heap.size]? = some (.cells #[.int .i64 v] 2 (0, 0)) := by rw [hwC]; exact heap_alloc_new wA _
              have hzC : wC.heap.size = wA.heap.size + 1 := by rw [hwC]; simp
              have hgC : wA.grownBy wC (some r.1) := by rw [hwC]; exact World.grownBy_alloc wA _ _
              have hSC : wC.cell? ⟨g, 0, none⟩ = some (.slice (some ⟨r.1, 0, none⟩) r.2.2.length r.2.1) := (LC.cell (p := ⟨g, 0, none⟩) hbW.2).trans hSW
              have hfC : wC.frozen? ⟨g, 0, none⟩ = false := (LC.frozen (p := ⟨g, 0, none⟩) hbW.2).trans hT.2.2
              rw [← hwC]
              refine hK.out _ _ hSC (fun _ => ?_)
              clear hK K
              refine calm_one 10 (by kernel_rfl) rfl (fun K hK => ?_)
              refine step_append_at _ (by rfl) (.tmp 56) (.tmp 62) 24 (by rfl) w.heap.size 2 j0 _ 1 8 Try.underlying24 hj0 hy0 hy1 hy2 rfl (by omega) r.1 r.2.2.length r.2.1 (r.2.2.map (Value.int .i64)) (by rfl) HOA.out (some ⟨wA.heap.size, 0, none⟩) 1 1 [.int .i64 v] (by rfl) (one_src13 hbC) (by unfold maxLen; omega) (by omega) (by omega) (wA.heap.size + 1) hzC ?_
              intro gg cc w9 hown hgrow hat9 hlt9
              have hS9 : w9.cell? ⟨g, 0, none⟩ = some (.slice (some ⟨r.1, 0, none⟩) r.2.2.length r.2.1) := (cell_grown (by omega) hgrow (by simp; omega)).trans hSC
              have hf9 : w9.frozen? ⟨g, 0, none⟩ = false := (frozen_grown (by omega) hgrow (by simp; omega)).trans hfC
              have hgr9 : wA.grownBy w9 (some r.1) := grown_trans hgC hgrow
              have hI9 : IRow w.heap.size w9 gg cc (r.2.2 ++ [v]) := IRow.of hown (by simp) (by simp)
              have HM9 := hidP (HOVER.out wA w9 gg cc (r.2.2 ++ [v]) IA.out hI9 hgr9 (hat9.imp id (fun h => by omega)))
              have L9 : Below w.heap.size wA w9 := (Below.refl _ _).grown hgr9 hz9 (by intro k hk; cases hk; exact hrlW.1)
              have I9 := hidP (IA.out.next hq (L9.setCell (p := ⟨g, 0, none⟩) hbW.1 _) HM9.out)
              have HLN9 : Hid ((r.2.2 ++ [v]).length = r.2.2.length + 1) := by show _ = _; simp
              unfold rwV at I9
              rw [HLN9.out] at I9
              refine hK.out _ _ hS9 (fun _ => ?_)
              clear hK K
              refine calm_one 11 (by kernel_rfl) rfl (fun K hK => ?_)
              go_simp
              refine hK.out _ _ hS9 (fun _ => ?_)
              clear hK K hS hS0 hSC hSW hown hgrow hat9 hlt9 hgr9 hI9 HM9 L9 HOA hbC hwC hgC LC hfC HOVER hT
              refine wpAnyH_done (by kernel_rfl) ?_ _
              simp only [Exit.then]
              go_wp2_with fail
              refine NoPanic.normal ?_
              go_wp2_with fail
              go_ret
              exact ⟨⟨g, c, rs.set 0 (gg, cc, r.2.2 ++ [v]), by rw [HLS.out]; rfl, by rw [HLS.out]; exact HM.out, HSET.out _ _ _ (by rw [HLN9.out]; omega), I9.out.mem⟩, I9.out.cur, I9.out.low⟩
          · go_wp2_with fail
            refine (cBelow q ao n cap 2 _ Ib.out.cur (HVC.out _ _ _ _ Ib.out) hn (by omega) (by omega)).mono ?_
            rintro e wd ⟨⟨z, z0, z1, rfl⟩, cd, gd⟩
            have Id := hidP (Ib.out.cursor hq cd gd)
            clear Ib cd gd HCELL HFZ
            have hzd := Id.out.low.size
            have hbd := Id.out.mem.row.lt
            have hzw : IntKind.i64.wrap (-1000 - z) = -1000 - z := IntWalk.i64_in _ ⟨by omega, by omega⟩
            have LA : Below w.heap.size wd (wd.alloc (.cells #[.int .i64 (-1000 - z), .int .i64 0] 2)) := (Below.refl _ _).alloc hzd _
            have q0 : (wd.alloc (.cells #[.int .i64 (-1000 - z), .int .i64 0] 2)).cell? ⟨g, 0, none⟩ = some (rwV rs[0]) := ((alloc_below wd (.cells #[.int .i64 (-1000 - z), .int .i64 0] 2)).cell (p := ⟨g, 0, none⟩) hbd.2).trans (Id.out.mem.row.cell 0 h0n)
            have f0 : (wd.alloc (.cells #[.int .i64 (-1000 - z), .int .i64 0] 2)).frozen? ⟨g, 0, none⟩ = false := ((alloc_below wd (.cells #[.int .i64 (-1000 - z), .int .i64 0] 2)).frozen (p := ⟨g, 0, none⟩) hbd.2).trans (World.ownsRow.frozenAt Id.out.mem.row 0)
            have RD : IRow w.heap.size (wd.alloc (.cells #[.int .i64 (-1000 - z), .int .i64 0] 2)) wd.heap.size 2 [-1000 - z, 0] := World.ownsRow_lit wd #[.int .i64 (-1000 - z), .int .i64 0] 2 hzd (by unfold maxLen; omega) rfl
            have M9 := hidP (Id.out.mem.over 0 h0n RD (World.grownBy_alloc wd _ _) (Or.inr (Nat.le_refl _)))
            have I9 := hidP (Id.out.next hq (LA.setCell (p := ⟨g, 0, none⟩) hbd.1 _) M9.out)
            unfold rwV at I9 q0
            rw [World.setCell_alloc_past _ _ _ _ hbd.2] at I9
            have HLS : Hid (∀ r : Rw, (rs.set 0 r).length = rs.length) := fun r => List.length_set
            clear M9 LA RD Id
            go_wp2_with fail
            go_ret
            exact ⟨⟨g, c, rs.set 0 (wd.heap.size, 2, [-1000 - z, 0]), by rw [HLS.out]; rfl, by rw [HLS.out]; exact HM.out, HSET.out _ _ _ (by simp), I9.out.mem⟩, I9.out.cur, I9.out.low⟩

end Go.Proofs.Ythkaiienfkihmaa
