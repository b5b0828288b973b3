/-
  The draws of chapter 12: DrawGap.
-/
import Derived.Test.YtfbindjacmaeoaaEDrawZz
import Derived.Test.YtfbindjacmaeoaaESpGZz
import Derived.Test.YtfbindjacmaeoaaJRwZz
namespace Go.Proofs.Ytfbindjacmaeoaa
open Go Go.RowKit

theorem one_srcI {w : World} {n : Nat} {x : Int} (hb : w.heap[n]? = some (.cells #[.int .i64 x] 2 (0, 0))) : SrcAt w 1 (some ⟨n, 0, none⟩) 1 [.int .i64 x] :=
  ⟨rfl, by simp [Value.oneCell'], Or.inr ⟨_, rfl, World.news_of_block (cs := #[.int .i64 x]) hb⟩⟩
/-- One row of a row of rows grew, and its new slice is written in its place. -/
theorem LMem.inj {base : Nat} {w : World} {g c : Nat} {rs : List Rw} (h : LMem base w g c rs) {i j : Nat} (hi : i < rs.length) (hj : j < rs.length) (e : rs[i].1 = rs[j].1) : i = j := by
  have hp := List.pairwise_iff_getElem.1 h.apart
  rcases Nat.lt_trichotomy i j with h1 | h1 | h1
  · exact absurd (by rw [List.getElem_map, List.getElem_map]; exact e) (hp i j (by simpa using hi) (by simpa using hj) h1)
  · exact h1
  · exact absurd (by rw [List.getElem_map, List.getElem_map]; exact e.symm) (hp j i (by simpa using hj) (by simpa using hi) h1)
theorem LMem.put {base : Nat} {w w8 : World} {g c : Nat} {rs : List Rw} (h : LMem base w g c rs) (k : Nat) (hk : k < rs.length) {gg cc : Nat} {ys : List Int} (o : Obj) (hown : IRow base w8 gg cc ys) (hg : (w.alloc o).grownBy w8 (some rs[k].1)) (hat : rs[k].1 = gg ∨ gg = w.heap.size + 1) :
    LMem base (w8.setCell ⟨g, k, none⟩ (rwV (gg, cc, ys))) g c (rs.set k (gg, cc, ys)) := by
  have hk1 : rs[k].1 ≠ g := h.off _ (List.getElem_mem hk)
  have hall : ∀ x ∈ rs, base ≤ x.1 ∧ x.1 < w.heap.size := fun x hx => (h.rows x hx).lt
  have hgl := h.row.lt
  have ha := World.grownBy_alloc w o none
  have hggg : gg ≠ g := by rcases hat with e | e <;> omega
  have hnew : ∀ j (hj : j < rs.length), j ≠ k → rs[j].1 ≠ gg := fun j hj hne e => by
    rcases hat with e' | e'
    · exact hne (h.inj hj hk (by omega))
    · have := hall _ (List.getElem_mem hj)
      omega
  have r1 : LRow base w8 g c rs := (h.row.kept ha (by simp)).kept hg (by simp; omega)
  have heap8 : ∀ i, i ≠ g → (w8.setCell ⟨g, k, none⟩ (rwV (gg, cc, ys))).heap[i]? = w8.heap[i]? := fun i hi => Below.heap_setCell w8 ⟨g, k, none⟩ _ i (fun e => hi e)
  refine ⟨?_, fun x hx => ?_, ?_, fun x hx => ?_⟩
  · have h1 := (World.ownsRow.stored r1 k (rwV (gg, cc, ys))).1
    unfold LRow
    rw [List.length_set, List.map_set]
    exact h1
  · obtain ⟨j, hj, e⟩ := List.getElem_of_mem hx
    rw [List.length_set] at hj
    rw [List.getElem_set] at e
    by_cases hjk : k = j
    · rw [if_pos hjk] at e
      rw [← e]
      exact hown.same (heap8 gg hggg)
    · rw [if_neg hjk] at e
      rw [← e]
      have hne : rs[j].1 ≠ rs[k].1 := fun e' => hjk (h.inj hj hk e').symm
      have h2 := ((h.rows _ (List.getElem_mem hj)).kept ha (by simp)).kept hg (by simp; omega)
      exact h2.same (heap8 _ (h.off _ (List.getElem_mem hj)))
  · refine List.pairwise_iff_getElem.2 (fun i j hi hj hij => ?_)
    have hi' : i < rs.length := by simpa using hi
    have hj' : j < rs.length := by simpa using hj
    simp only [List.getElem_map, List.getElem_set]
    by_cases h1 : k = i
    · rw [if_pos h1, if_neg (by omega)]
      exact fun e => hnew j hj' (by omega) e.symm
    · by_cases h2 : k = j
      · rw [if_neg h1, if_pos h2]
        exact fun e => hnew i hi' (by omega) e
      · rw [if_neg h1, if_neg h2]
        exact fun e => by have := h.inj hi' hj' e; omega
  · obtain ⟨j, hj, e⟩ := List.getElem_of_mem hx
    rw [List.length_set] at hj
    rw [List.getElem_set] at e
    by_cases hjk : k = j
    · rw [if_pos hjk] at e
      rw [← e]
      exact hggg
    · rw [if_neg hjk] at e
      rw [← e]
      exact h.off _ (List.getElem_mem hj)
/-- Two empty rows, in a row of their own. -/
theorem LMem.two (w : World) (base : Nat) (hb : base ≤ w.heap.size) : LMem base (((w.alloc (.cells #[] 2)).alloc (.cells #[] 2)).alloc (.cells #[.slice (some ⟨w.heap.size, 0, none⟩) 0 0, .slice (some ⟨w.heap.size + 1, 0, none⟩) 0 0] 36)) (w.heap.size + 2) 2 [(w.heap.size, 0, []), (w.heap.size + 1, 0, [])] := by
  have b1 := alloc_below w (.cells #[] 2)
  have b2 := alloc_below (w.alloc (.cells #[] 2)) (.cells #[] 2)
  have b3 := alloc_below ((w.alloc (.cells #[] 2)).alloc (.cells #[] 2)) (.cells #[.slice (some ⟨w.heap.size, 0, none⟩) 0 0, .slice (some ⟨w.heap.size + 1, 0, none⟩) 0 0] 36)
  have r0 := ((IRow.start w base hb).below b2).below b3
  have r1 := (IRow.start (w.alloc (.cells #[] 2)) base (by simp; omega)).below b3
  have h := World.ownsRow_lit (base := base) (e := 36) (size := 1) ((w.alloc (.cells #[] 2)).alloc (.cells #[] 2)) #[.slice (some ⟨w.heap.size, 0, none⟩) 0 0, .slice (some ⟨w.heap.size + 1, 0, none⟩) 0 0] 2 (by simp; omega) (by unfold maxLen; omega) rfl
  rw [show (w.alloc (.cells #[] 2)).heap.size = w.heap.size + 1 by simp] at r1
  rw [show ((w.alloc (.cells #[] 2)).alloc (.cells #[] 2)).heap.size = w.heap.size + 2 by simp] at h
  refine ⟨h, fun x hx => ?_, by simp, fun x hx => ?_⟩
  · simp only [List.mem_cons, List.not_mem_nil, or_false] at hx
    rcases hx with rfl | rfl
    · exact r0
    · exact r1
  · simp only [List.mem_cons, List.not_mem_nil, or_false] at hx
    rcases hx with rfl | rfl
    · simp
    · simp

/-- The draw of groups, between two steps. -/
structure DrG (w : World) (q : Nat) (ao : Option Addr) (n cap base : Nat) (wr : World) (g c : Nat) (rs : List Rw) : Prop where
  cur : Cur wr q ao n cap
  kin : Kin base w.heap.size w wr
  mem : LMem w.heap.size wr g c rs
  low : w.grownBy wr (some q)
theorem DrG.cursor {w : World} {q : Nat} {ao : Option Addr} {n cap base : Nat} {wr wr' : World} {g c : Nat} {rs : List Rw} (h : DrG w q ao n cap base wr g c rs) (hq : q < base) (hqw : q < w.heap.size) (cu : Cur wr' q ao n cap) (hg : wr.grownBy wr' (some q)) : DrG w q ao n cap base wr' g c rs :=
  ⟨cu, h.kin.grown (Nat.le_refl _) hg (fun k e => by cases e; exact Or.inl hq), h.mem.kept hg (fun e => by injection e with e; have := h.mem.row.lt.1; omega) (fun x hx e => by injection e with e; have := (h.mem.rows x hx).lt.1; omega), grown_trans h.low hg⟩
/-- A world that only grew. -/
theorem DrG.next {w : World} {q : Nat} {ao : Option Addr} {n cap base : Nat} {wr wr' : World} {g c g' c' : Nat} {rs rs' : List Rw} (h : DrG w q ao n cap base wr g c rs) (hqw : q < w.heap.size) (L : Below w.heap.size wr wr') (hm : LMem w.heap.size wr' g' c' rs') : DrG w q ao n cap base wr' g' c' rs' := by
  have gn : w.grownBy wr' (some q) := ⟨L.os.trans h.low.os, L.tape.trans h.low.tape, L.output.trans h.low.output, Nat.le_trans h.low.size L.size, fun i hi hne => (L.block i hi).trans (h.low.block i hi hne)⟩
  refine ⟨?_, ⟨Nat.le_trans h.kin.1 L.size, fun i h1 h2 => (L.block i h2).trans (h.kin.2 i h1 h2)⟩, hm, gn⟩
  obtain ⟨i, x, hi, hb⟩ := h.cur
  exact ⟨i, x, hi, (L.block q hqw).trans hb⟩

theorem grpL_small {ms : List Mk} (h7 : ms.length ≤ 7) (kd k : Int) : (grpL ms kd k).length ≤ 7 ∧ ∀ l ∈ grpL ms kd k, l.length ≤ 7 := by
  unfold grpL
  split
  · refine ⟨by rw [grpOf, List.length_map]; exact Nat.le_trans (List.length_filter_le _ _) (by simpa using h7), fun l hl => ?_⟩
    obtain ⟨i, -, rfl⟩ := List.mem_map.1 hl
    rw [grpAt, List.length_map]
    exact Nat.le_trans (List.length_filter_le _ _) (by simpa using h7)
  · exact ⟨by simp, by simp⟩
/-- How long rows of rows may be here. -/
def RsOk (rs : List Rw) (m : Nat) : Prop := rs.length ≤ 8 ∧ ∀ r ∈ rs, r.2.2.length ≤ m
theorem RsOk.csmall {rs : List Rw} {m : Nat} (h : RsOk rs m) (hm : m ≤ 1048576) : CSmall (nums rs) := by
  refine ⟨by rw [nums_length]; have := h.1; omega, fun i => ?_⟩
  unfold cn
  rw [List.getD_eq_getElem?_getD]
  rcases hh : (nums rs)[i]? with _ | l
  · simp
  · have hl := List.mem_of_getElem? hh
    obtain ⟨r, hr, rfl⟩ := List.mem_map.1 hl
    exact Nat.le_trans (h.2 r hr) hm

set_option maxRecDepth 100000 in
set_option maxHeartbeats 4000000 in
theorem cDrawGap (ao : Option Addr) (n cap : Nat) (w : World) (hv : CodeV w ao n) (hn : n ≤ 4096) :
    Calls Try.prog 25 #[.slice ao n cap] w fun e w' => ∃ g c ms kd gg cc gs, e = .returned (.tuple #[.slice (some ⟨g, 0, none⟩) ms.length c, .int .i64 kd, .slice (some ⟨gg, 0, none⟩) gs.length cc]) ∧ MView w' (some ⟨g, 0, none⟩) ms ∧ (MSmall ms ∧ ms.length ≤ c) ∧ CView w' (some ⟨gg, 0, none⟩) gs ∧ CSmall gs ∧ Below w.heap.size w w' := by
  obtain ⟨i0, hi0, hz0, hz1', hz2⟩ := info_parts Try.infoL
  obtain ⟨j0, hj0, hy0, hy1, hy2⟩ := info_parts Try.info2
  go_enter Try.func25, Try.ntmps25
  go_wp2_with fail
  refine (cNew ao n cap _ hv hn).mono ?_
  rintro e w1 ⟨rfl, c1, L1⟩
  have hv1 := hv.below (Nat.le_refl _) L1
  go_wp2_with fail
  refine (cMarksAny _ ao n cap 7 _ c1 hv1 hn (by omega) (by omega)).mono ?_
  rintro e w2 ⟨⟨g, c, ms, rfl, hnew⟩, c2, g2⟩
  have L2 : Below w.heap.size w w2 := L1.grown g2 L1.size (by intro k hk; cases hk; exact Nat.le_refl _)
  have hv2 := hv1.grown c1 g2
  have hq := c1.lt
  have HN2 := hidP hnew
  have hl7 := hnew.1
  clear hnew L1 hv1
  go_wp2_with fail
  refine (cKind _ ao n cap _ c2 hv2 hn).mono ?_
  rintro e w3 ⟨⟨kd, rfl⟩, c3, g3⟩
  have L3 : Below w.heap.size w w3 := L2.grown g3 L2.size (by intro k hk; cases hk; exact Nat.le_refl _)
  have hv3 := hv2.grown c2 g3
  have HN3 := hidP (HN2.out.kept g3 (by intro k hk; cases hk; exact hq))
  clear HN2 L2 g3 hv2 c2 g2 c1
  go_wp2_with fail
  refine (cBelow _ ao n cap 2 _ c3 hv3 hn (by omega) (by omega)).mono ?_
  rintro e w4 ⟨⟨y, y0, y1, rfl⟩, c4, g4⟩
  have L4 : Below w.heap.size w w4 := L3.grown g4 L3.size (by intro k hk; cases hk; exact Nat.le_refl _)
  have hv4 := hv3.grown c3 g4
  have HN4 := hidP (HN3.out.kept g4 (by intro k hk; cases hk; exact hq))
  have hq4 := c4.lt
  have HL4 := hidP L4
  have HV4 := hidP (And.intro hv4 c4)
  have hyw : IntKind.i64.wrap (2 + y) = 2 + y := IntWalk.i64_in _ ⟨by omega, by omega⟩
  have hsm : MSmall ms ∧ ms.length ≤ c := ⟨HN4.out.small (by omega), HN4.out.2.1⟩
  have HG := hidP (sGroups (some ⟨g, 0, none⟩) c ms kd (2 + y) w4 HN4.out.view hsm.1)
  have hsmall := grpL_small (ms := ms) (by omega) kd (2 + y)
  clear HN3 L3 g4 hv3 c3 L4 hv4
  go_wp2_with fail
  refine HG.out.mono ?_
  rintro e w5 ⟨gr, cr, rs, rfl, hnm, hmem, L5⟩
  have hrs : RsOk rs 7 := by
    refine ⟨by have := hsmall.1; rw [← hnm, nums_length] at this; omega, fun r hr => hsmall.2 _ (by rw [← hnm]; exact List.mem_map_of_mem hr)⟩
  have I5 : Hid (DrG w4 w.heap.size ao n cap w1.heap.size w5 gr cr rs) := by
    obtain ⟨i, x, hi, hb⟩ := c4
    exact ⟨⟨i, x, hi, (L5.block _ hq4).trans hb⟩, ⟨L5.size, fun i _ h2 => L5.block i h2⟩, hmem, ⟨L5.os, L5.tape, L5.output, L5.size, fun i hi _ => L5.block i hi⟩⟩
  have HRS := hidP hrs
  have hrl7 : rs.length ≤ 7 := by rw [← nums_length, hnm]; exact hsmall.1
  clear hrs HG hnm hmem L5 hsmall c4 hyw
  have HVC : Hid (∀ W g c rs, DrG w4 w.heap.size ao n cap w1.heap.size W g c rs → CodeV W ao n) := fun W g c rs I => HV4.out.1.grown HV4.out.2 I.low
  have HEND : Hid (∀ (W : World) (gr cr : Nat) (rs : List Rw) (m : Nat), DrG w4 w.heap.size ao n cap w1.heap.size W gr cr rs → RsOk rs m → m ≤ 1048576 → MView W (some ⟨g, 0, none⟩) ms ∧ (MSmall ms ∧ ms.length ≤ c) ∧ CView W (some ⟨gr, 0, none⟩) (nums rs) ∧ CSmall (nums rs) ∧ Below w.heap.size w W) := fun W gr cr rs m I hr hm =>
    ⟨(HN4.out.kin I.kin).view, hsm, I.mem.view.cview, hr.csmall hm, HL4.out.grown I.low HL4.out.size (by intro k hk; cases hk; exact Nat.le_refl _)⟩
  go_wp2_with fail
  refine (cOnce _ ao n cap 3 _ I5.out.cur (HVC.out _ _ _ _ I5.out) hn (by omega) (by omega)).mono ?_
  rintro e w6 ⟨⟨x, rfl⟩, c6, g6⟩
  have I6 := hidP (I5.out.cursor hq hq4 c6 g6)
  clear I5 c6 g6
  have hz46 := I6.out.low.size
  cases x with
  | false =>
    have HRL : Hid (rs.length ≤ 7) := hrl7
    go_wp2_with fail
    refine (cOnce _ ao n cap 10 _ I6.out.cur (HVC.out _ _ _ _ I6.out) hn (by omega) (by omega)).mono ?_
    rintro e wa ⟨⟨xa, rfl⟩, ca, ga⟩
    have Ia := hidP (I6.out.cursor hq hq4 ca ga)
    clear I6 ca ga
    cases xa with
    | false =>
      go_wp2_with fail
      go_ret3
      exact ⟨g, c, ms, kd, gr, cr, nums rs, by rw [nums_length]; rfl, HEND.out _ _ _ _ _ Ia.out HRS.out (by omega)⟩
    | true =>
      go_wp2_with fail
      refine (cBelow _ ao n cap 9 _ Ia.out.cur (HVC.out _ _ _ _ Ia.out) hn (by omega) (by omega)).mono ?_
      rintro e wb ⟨⟨v, v0, v1, rfl⟩, cb, gb'⟩
      have Ib := hidP (Ia.out.cursor hq hq4 cb gb')
      clear Ia cb gb'
      have A8 := alloc_below wb (.cells #[.int .i64 v] 2)
      have A9 := alloc_below (wb.alloc (.cells #[.int .i64 v] 2)) (.cells #[.slice (some ⟨wb.heap.size, 0, none⟩) 1 1] 36)
      have M9 := hidP ((Ib.out.mem.below A8).below A9)
      have hzb := Ib.out.low.size
      have R8 : IRow w4.heap.size (wb.alloc (.cells #[.int .i64 v] 2)) wb.heap.size 1 [v] := World.ownsRow_lit wb #[.int .i64 v] 1 hzb (by unfold maxLen; omega) rfl
      have R9 := hidP (R8.below A9)
      have L9 : Hid (Below w4.heap.size wb ((wb.alloc (.cells #[.int .i64 v] 2)).alloc (.cells #[.slice (some ⟨wb.heap.size, 0, none⟩) 1 1] 36))) := ((Below.refl _ _).alloc hzb _).alloc (by simp; omega) _
      have HOW : Hid (((wb.alloc (.cells #[.int .i64 v] 2)).alloc (.cells #[.slice (some ⟨wb.heap.size, 0, none⟩) 1 1] 36)).ownsRow w4.heap.size 36 1 (.slice (some ⟨gr, 0, none⟩) rs.length cr) rs.length (rs.map rwV)) := M9.out.row
      have hrl8 := HRS.out.1
      have hbl := Ib.out.mem.row.lt
      have hro : ∀ r ∈ rs, r.1 < wb.heap.size := fun r hr => (Ib.out.mem.rows r hr).lt.2
      have HRO := hidP hro
      clear A8 A9 R8 hro
      go_wp2_with (at_builtin; refine wpList_append_lies _ rfl (.tmp 52) (.tmp 56) 44 rfl w4.heap.size 36 i0 _ 1 24 Try.underlying44 hi0 hz0 hz1' hz2 rfl (by omega) (.slice (some ⟨gr, 0, none⟩) rs.length cr) rs.length (rs.map rwV) rfl HOW.out ⟨wb.heap.size + 1, 0, none⟩ 1 1 [.slice (some ⟨wb.heap.size, 0, none⟩) 1 1] rfl rfl (World.news_of_block (cs := #[.slice (some ⟨wb.heap.size, 0, none⟩) 1 1]) (t := 36) (fr := (0, 0)) (by rw [show wb.heap.size + 1 = (wb.alloc (.cells #[.int .i64 v] 2)).heap.size by simp]; exact heap_alloc_new _ _)) (by simp [Value.oneCell']) (by omega) (by unfold maxLen; omega) (by omega) (by simp; omega) (wb.heap.size + 1 + 1) (by simp) ?_; intro gx cx wx hown hgrow hatx hltx)
      have hgr : World.grownBy _ wx (some gr) := hgrow
      have HX : Hid (LMem w4.heap.size wx gx cx (rs ++ [(wb.heap.size, 1, [v])])) := M9.out.snoc hown hgr (by rcases hatx with h | h; exact Or.inl (by simpa [Value.ownBlock] using h); exact Or.inr (by rw [h]; simp)) R9.out (by show wb.heap.size ≠ gr; omega) (fun x hx => by have := HRO.out x hx; show x.1 ≠ wb.heap.size; omega)
      have Ix := hidP (Ib.out.next hq4 (L9.out.grown hgr (by simp; omega) (by intro q hq; cases hq; exact hbl.1)) HX.out)
      have HRX : Hid (RsOk (rs ++ [(wb.heap.size, 1, [v])]) 7) := by
        refine ⟨by rw [List.length_append]; have := HRL.out; simp; omega, fun r hr => ?_⟩
        rcases List.mem_append.1 hr with h | h
        · exact HRS.out.2 r h
        · rw [List.mem_singleton.1 h]; simp
      clear hown hgrow hatx hltx hgr HX M9 R9 L9 HOW
      go_wp2_with fail
      go_ret3
      exact ⟨g, c, ms, kd, gx, cx, nums (rs ++ [(wb.heap.size, 1, [v])]), by rw [nums_length, List.length_append]; rfl, HEND.out _ _ _ _ _ Ix.out HRX.out (by omega)⟩
  | true =>
    have M7 := hidP (LMem.two w6 w4.heap.size hz46)
    have L7 : Hid (Below w4.heap.size w6 (((w6.alloc (.cells #[] 2)).alloc (.cells #[] 2)).alloc (.cells #[.slice (some ⟨w6.heap.size, 0, none⟩) 0 0, .slice (some ⟨w6.heap.size + 1, 0, none⟩) 0 0] 36))) := (((Below.refl _ _).alloc hz46 _).alloc (by simp; omega) _).alloc (by simp; omega) _
    have I7 := hidP (I6.out.next hq4 L7.out M7.out)
    have HR7 : Hid (RsOk [(w6.heap.size, 0, []), (w6.heap.size + 1, 0, [])] 0) := ⟨by simp, by simp⟩
    clear M7 L7 I6
    go_wp2_with fail
    go_loopw [9] (fun i wr => ∃ (j : Nat) (rs : List Rw), j ≤ ms.length ∧ i = .int .i64 j ∧ rs.length = 2 ∧ RsOk rs j ∧ DrG w4 w.heap.size ao n cap w1.heap.size wr (w6.heap.size + 2) 2 rs) (fun i _ => ms.length - (intOf i).toNat)
    case atStart => exact ⟨0, _, Nat.zero_le _, rfl, rfl, HR7.out, I7.out⟩
    case round =>
      obtain ⟨j, rs', hj, rfl, hr2, hrk, I⟩ := hrel
      clear I7 HR7
      have HI := hidP I
      have HR := hidP hrk
      have HR2 := hidP hr2
      clear I hrk
      obtain ⟨gb, hgb⟩ : ∃ gb, gb = w6.heap.size + 2 := ⟨_, rfl⟩
      rw [← hgb] at HI ⊢
      have HGB := hidP hgb
      clear hgb
      by_cases hlt : j < ms.length
      · go_wp2_with fail
        refine (cBelow _ ao n cap 2 _ HI.out.cur (HVC.out _ _ _ _ HI.out) hn (by omega) (by omega)).mono ?_
        rintro e w8 ⟨⟨k, k0, k1, rfl⟩, c8, g8⟩
        obtain ⟨kn, rfl⟩ := Int.eq_ofNat_of_zero_le k0
        have hkn : kn < rs'.length := by omega
        have hkn2 : (kn : Int) < 2 := by omega
        have I8 := hidP (HI.out.cursor hq hq4 c8 g8)
        clear c8 g8 HI
        have p0 := ((HN4.out.kin I8.out.kin).2.2.1.2.2.1 j hlt).1
        have q0 := I8.out.mem.row.cell kn hkn
        unfold rwV at q0
        have hrw := I8.out.mem.rows _ (List.getElem_mem hkn)
        have hrlen := HR.out.2 _ (List.getElem_mem hkn)
        have hgl4 : g < w4.heap.size := HN4.out.2.2.1.2.1
        have hbl := I8.out.mem.row.lt
        have hoff := I8.out.mem.off _ (List.getElem_mem hkn)
        have HPUT := hidP (fun (w9 : World) (gg cc : Nat) (ys : List Int) (o : Obj) => I8.out.mem.put kn hkn (w8 := w9) (gg := gg) (cc := cc) (ys := ys) o)
        have HSET : Hid (∀ (r : Rw) (x : Int) (gg cc : Nat), r = rs'[kn] → RsOk (rs'.set kn (gg, cc, r.2.2 ++ [x])) (j + 1)) := fun r x gg cc e => by
          refine ⟨by rw [List.length_set]; exact HR.out.1, fun y hy => ?_⟩
          rcases List.mem_or_eq_of_mem_set hy with h | h
          · have := HR.out.2 y h; omega
          · rw [h, e]; simp; exact hrlen
        obtain ⟨r, hr⟩ : ∃ r, r = rs'[kn] := ⟨_, rfl⟩
        rw [← hr] at q0 hrw hrlen hoff HPUT
        have HSETr := hidP (fun x gg cc => HSET.out r x gg cc hr)
        clear HSET hr
        generalize hx : mid ms j = x at *
        have hjz : (0 : Int) ≤ (j : Int) := Int.natCast_nonneg _
        have hjl : (j : Int) < (ms.length : Int) := by omega
        have hrl := hrw.lt
        have hz8 := I8.out.low.size
        have HOW : Hid (w8.drew.ownsRow w4.heap.size 2 1 (.slice (some ⟨r.1, 0, none⟩) r.2.2.length r.2.1) r.2.2.length (r.2.2.map (Value.int .i64))) := hrw
        have HFZ := hidP (World.ownsRow.frozenAt I8.out.mem.row kn)
        clear hx hrw
        go_wp2_with fail
        have hS0 := And.intro q0 p0
        refine wp_region_calm (S := fun w' => w'.cell? ⟨gb, kn, none⟩ = some (.slice (some ⟨r.1, 0, none⟩) r.2.2.length r.2.1) ∧ w'.cell? ⟨g, j * 2, none⟩ = some (.int .i64 x)) (fuel := 3)
          [0, 1, 2, 3, 4, 5, 6, 7, 8, 9, 10] _ rfl (by kernel_rfl) (by kernel_rfl) (by kernel_rfl) (by kernel_rfl) (by kernel_rfl) (by kernel_rfl) (by kernel_rfl) hS0 (fun hS => ?_)
        simp only [List.pop_toArray, List.dropLast]
        iterate 11
          refine ⟨_, rfl, ?_⟩
          apply Exists.intro
          refine ⟨Or.inl ⟨by rfl, fun w' hw' => ?_⟩, ?_⟩
          · first
            | (go_simp; done)
            | (go_simp; with_reducible rfl)
          simp only [Act.put, List.getElem_toArray, List.getElem_cons_succ, List.getElem_cons_zero, List.setIfInBounds_toArray, List.set_cons_zero, List.set_cons_succ]
        refine calm_one 11 (by kernel_rfl) rfl (fun K hK => ?_)
        go_simp
        obtain ⟨wA, hwA⟩ : ∃ wA, wA = w8.alloc (.cells #[.int .i64 x] 2) := ⟨_, rfl⟩
        have HOA : Hid (wA.drew.ownsRow w4.heap.size 2 1 (.slice (some ⟨r.1, 0, none⟩) r.2.2.length r.2.1) r.2.2.length (r.2.2.map (Value.int .i64))) := by rw [hwA]; exact World.ownsRow.alloc HOW.out _
        have hbA : wA.drew.heap[w8.heap.size]? = some (.cells #[.int .i64 x] 2 (0, 0)) := by rw [hwA]; exact heap_alloc_new w8 _
        have hzA : wA.drew.heap.size = w8.heap.size + 1 := by rw [hwA]; simp
        have LA8 : Below w8.heap.size w8 wA := by rw [hwA]; exact (Below.refl _ _).alloc (Nat.le_refl _) _
        have hgA : (w8.alloc (.cells #[.int .i64 x] 2)).grownBy wA.drew none := by rw [hwA]; exact ⟨rfl, rfl, rfl, Nat.le_refl _, fun _ _ _ => rfl⟩
        have hg8 : g < w8.heap.size := by omega
        have hSA : wA.drew.cell? ⟨gb, kn, none⟩ = some (.slice (some ⟨r.1, 0, none⟩) r.2.2.length r.2.1) ∧ wA.drew.cell? ⟨g, j * 2, none⟩ = some (.int .i64 x) := ⟨(LA8.drew.cell (p := ⟨gb, kn, none⟩) hbl.2).trans q0, (LA8.drew.cell (p := ⟨g, j * 2, none⟩) hg8).trans p0⟩
        have hfA : wA.drew.frozen? ⟨gb, kn, none⟩ = false := (LA8.drew.frozen (p := ⟨gb, kn, none⟩) hbl.2).trans HFZ.out
        first
          | rw [show (w8.alloc (.cells #[.int .i64 x] 2)).drew = wA.drew by rw [hwA]]
          | rw [show w8.drew.alloc (.cells #[.int .i64 x] 2) = wA.drew by rw [hwA]; rfl]
        refine hK.out _ _ hSA (fun _ => ?_)
        clear hK K
        refine calm_one 12 (by kernel_rfl) rfl (fun K hK => ?_)
        refine step_append_at _ (by rfl) (.tmp 41) (.tmp 47) 36 (by rfl) w4.heap.size 2 j0 _ 1 8 Try.underlying36 hj0 hy0 hy1 hy2 rfl (by omega) r.1 r.2.2.length r.2.1 (r.2.2.map (Value.int .i64)) (by rfl) HOA.out (some ⟨w8.heap.size, 0, none⟩) 1 1 [.int .i64 x] (by rfl) (one_srcI hbA) (by unfold maxLen; omega) (by omega) (by omega) (w8.heap.size + 1) hzA ?_
        intro gg cc w9 hown hgrow hat9 hlt9
        have hzA' : w8.heap.size ≤ wA.drew.heap.size := by omega
        have hS9 : w9.cell? ⟨gb, kn, none⟩ = some (.slice (some ⟨r.1, 0, none⟩) r.2.2.length r.2.1) ∧ w9.cell? ⟨g, j * 2, none⟩ = some (.int .i64 x) := ⟨(cell_grown (by omega) hgrow (by simp; omega)).trans hSA.1, (cell_grown (by omega) hgrow (by simp; omega)).trans hSA.2⟩
        have hf9 : w9.frozen? ⟨gb, kn, none⟩ = false := (frozen_grown (by omega) hgrow (by simp; omega)).trans hfA
        have hgr9 : (w8.alloc (.cells #[.int .i64 x] 2)).grownBy w9 (some r.1) := ⟨hgrow.os.trans hgA.os, hgrow.tape.trans hgA.tape, hgrow.output.trans hgA.output, Nat.le_trans hgA.size hgrow.size, fun i hi hne => (hgrow.block i (Nat.lt_of_lt_of_le hi hgA.size) hne).trans (hgA.block i hi (by simp))⟩
        have hI9 : IRow w4.heap.size w9 gg cc (r.2.2 ++ [x]) := IRow.of hown (by simp) (by simp)
        have HM9 := hidP (HPUT.out w9 gg cc (r.2.2 ++ [x]) _ hI9 hgr9 hat9)
        have L89 : Below w4.heap.size w8 w9 := ((Below.refl _ _).alloc hz8 _).grown hgr9 (by simp; omega) (by intro q hq; cases hq; exact hrl.1)
        have I9 := hidP (I8.out.next hq4 (L89.setCell (p := ⟨gb, kn, none⟩) hbl.1 _) HM9.out)
        have HLN9 : Hid ((r.2.2 ++ [x]).length = r.2.2.length + 1) := by show _ = _; simp
        unfold rwV at I9
        rw [HLN9.out] at I9
        refine hK.out _ _ hS9 (fun _ => ?_)
        clear hK K
        refine calm_one 13 (by kernel_rfl) rfl (fun K hK => ?_)
        go_simp
        refine hK.out _ _ hS9 (fun _ => ?_)
        clear hK K hS hS0 hSA hown hgrow hat9 hlt9 hgr9 hI9 HM9 L89 HOA hbA hwA hgA LA8 hfA HPUT
        obtain ⟨q9, -⟩ := hS9
        refine wpAnyH_done (by kernel_rfl) ?_ _
        simp only [Exit.then]
        go_wp2_with fail
        refine NoPanic.normal ?_
        go_wp2_with fail
        go_roundw
        case rel => exact ⟨j + 1, rs'.set kn (gg, cc, r.2.2 ++ [x]), by omega, by go_num, by rw [List.length_set]; exact HR2.out, HSETr.out x gg cc, I9.out⟩
        case measure => simp [intOf]; omega
      · have HRL : Hid (rs'.length ≤ 7) := by show _ ≤ _; have := HR2.out; omega
        have hj7 : j ≤ 7 := by omega
        have HRJ : Hid (RsOk rs' 7) := ⟨HR.out.1, fun r hr => by have := HR.out.2 r hr; omega⟩
        clear hr2
        have I6 := HI
        obtain ⟨ra, rb, hab⟩ : ∃ ra rb, rs' = [ra, rb] := by
          have h2 := HR2.out
          match rs', h2 with
          | [ra, rb], _ => exact ⟨ra, rb, rfl⟩
        subst hab
        clear HI HR2
        go_wp2_with fail
        refine (cOnce _ ao n cap 10 _ I6.out.cur (HVC.out _ _ _ _ I6.out) hn (by omega) (by omega)).mono ?_
        rintro e wa ⟨⟨xa, rfl⟩, ca, ga⟩
        have Ia := hidP (I6.out.cursor hq hq4 ca ga)
        clear I6 ca ga
        cases xa with
        | false =>
          go_wp2_with fail
          go_ret3
          exact ⟨g, c, ms, kd, gb, 2, nums [ra, rb], by rw [nums_length]; rfl, HEND.out _ _ _ _ _ Ia.out HRJ.out (by omega)⟩
        | true =>
          go_wp2_with fail
          refine (cBelow _ ao n cap 9 _ Ia.out.cur (HVC.out _ _ _ _ Ia.out) hn (by omega) (by omega)).mono ?_
          rintro e wb ⟨⟨v, v0, v1, rfl⟩, cb, gb'⟩
          have Ib := hidP (Ia.out.cursor hq hq4 cb gb')
          clear Ia cb gb'
          have A8 := alloc_below wb (.cells #[.int .i64 v] 2)
          have A9 := alloc_below (wb.alloc (.cells #[.int .i64 v] 2)) (.cells #[.slice (some ⟨wb.heap.size, 0, none⟩) 1 1] 36)
          have M9 := hidP ((Ib.out.mem.below A8).below A9)
          have hzb := Ib.out.low.size
          have R8 : IRow w4.heap.size (wb.alloc (.cells #[.int .i64 v] 2)) wb.heap.size 1 [v] := World.ownsRow_lit wb #[.int .i64 v] 1 hzb (by unfold maxLen; omega) rfl
          have R9 := hidP (R8.below A9)
          have L9 : Hid (Below w4.heap.size wb ((wb.alloc (.cells #[.int .i64 v] 2)).alloc (.cells #[.slice (some ⟨wb.heap.size, 0, none⟩) 1 1] 36))) := ((Below.refl _ _).alloc hzb _).alloc (by simp; omega) _
          have HOW : Hid (((wb.alloc (.cells #[.int .i64 v] 2)).alloc (.cells #[.slice (some ⟨wb.heap.size, 0, none⟩) 1 1] 36)).ownsRow w4.heap.size 36 1 (.slice (some ⟨gb, 0, none⟩) [ra, rb].length 2) [ra, rb].length ([ra, rb].map rwV)) := M9.out.row
          have hrl8 := HRJ.out.1
          have hbl := Ib.out.mem.row.lt
          have hro : ∀ r ∈ [ra, rb], r.1 < wb.heap.size := fun r hr => (Ib.out.mem.rows r hr).lt.2
          have HRO := hidP hro
          clear A8 A9 R8 hro
          go_wp2_with (at_builtin; refine wpList_append_lies _ rfl (.tmp 52) (.tmp 56) 44 rfl w4.heap.size 36 i0 _ 1 24 Try.underlying44 hi0 hz0 hz1' hz2 rfl (by omega) (.slice (some ⟨gb, 0, none⟩) [ra, rb].length 2) [ra, rb].length ([ra, rb].map rwV) rfl HOW.out ⟨wb.heap.size + 1, 0, none⟩ 1 1 [.slice (some ⟨wb.heap.size, 0, none⟩) 1 1] rfl rfl (World.news_of_block (cs := #[.slice (some ⟨wb.heap.size, 0, none⟩) 1 1]) (t := 36) (fr := (0, 0)) (by rw [show wb.heap.size + 1 = (wb.alloc (.cells #[.int .i64 v] 2)).heap.size by simp]; exact heap_alloc_new _ _)) (by simp [Value.oneCell']) (by omega) (by unfold maxLen; omega) (by omega) (by simp; omega) (wb.heap.size + 1 + 1) (by simp) ?_; intro gx cx wx hown hgrow hatx hltx)
          have hgr : World.grownBy _ wx (some gb) := hgrow
          have HX : Hid (LMem w4.heap.size wx gx cx ([ra, rb] ++ [(wb.heap.size, 1, [v])])) := M9.out.snoc hown hgr (by rcases hatx with h | h; exact Or.inl (by simpa [Value.ownBlock] using h); exact Or.inr (by rw [h]; simp)) R9.out (by show wb.heap.size ≠ gb; omega) (fun x hx => by have := HRO.out x hx; show x.1 ≠ wb.heap.size; omega)
          have Ix := hidP (Ib.out.next hq4 (L9.out.grown hgr (by simp; omega) (by intro q hq; cases hq; exact hbl.1)) HX.out)
          have HRX : Hid (RsOk ([ra, rb] ++ [(wb.heap.size, 1, [v])]) 7) := by
            refine ⟨by rw [List.length_append]; simp, fun r hr => ?_⟩
            rcases List.mem_append.1 hr with h | h
            · exact HRJ.out.2 r h
            · rw [List.mem_singleton.1 h]; simp
          clear hown hgrow hatx hltx hgr HX M9 R9 L9 HOW
          go_wp2_with fail
          go_ret3
          exact ⟨g, c, ms, kd, gx, cx, nums ([ra, rb] ++ [(wb.heap.size, 1, [v])]), by rw [nums_length, List.length_append]; rfl, HEND.out _ _ _ _ _ Ix.out HRX.out (by omega)⟩

end Go.Proofs.Ytfbindjacmaeoaa
