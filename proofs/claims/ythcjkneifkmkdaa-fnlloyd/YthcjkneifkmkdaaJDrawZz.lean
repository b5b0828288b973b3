/-
  The draws of chapter 10: l10Draw.
-/
import Derived.Test.YthcjkneifkmkdaaJSpGZz
import Derived.Test.YthcjkneifkmkdaaMHighZz
import Derived.Test.YthcjkneifkmkdaaMAnyZz
namespace Go.Proofs.Ythcjkneifkmkdaa
open Go Go.RowKit

theorem widthV_le {ms : List Mk} (h : ∀ i, (mat ms i).length ≤ 5) : widthV ms ≤ 5 := by
  unfold widthV
  split
  · omega
  · exact h 0
theorem LMem.cap {base : Nat} {w : World} {g c : Nat} {rs : List Rw} (h : LMem base w g c rs) : rs.length ≤ c := by
  obtain ⟨_, ⟨e, _⟩ | ⟨g', c', cur, e, _, _, hle, _⟩⟩ := h.row
  · cases e
  · injection e with e1 e2 e3; omega
theorem nums_at {rs : List Rw} {k : Nat} (h : k < rs.length) : cn (nums rs) k = rs[k].2.2 := by simp [cn, nums, List.getD, h]
/-- Rows that are read, all in blocks from base on. -/
def CHi (base : Nat) (w : World) (ao : Option Addr) (ls : List (List Int)) : Prop := ls = [] ∨ ∃ b off, ao = some ⟨b, off, none⟩ ∧ base ≤ b ∧ b < w.heap.size ∧ ∀ i, i < ls.length → ∃ ba oa c, w.cell? ⟨b, off + i, none⟩ = some (.slice (some ⟨ba, oa, none⟩) (cn ls i).length c) ∧ base ≤ ba ∧ ba < w.heap.size ∧ Seg w ba oa (cn ls i)
theorem CHi.view {base : Nat} {w : World} {ao : Option Addr} {ls : List (List Int)} (h : CHi base w ao ls) : CView w ao ls :=
  h.imp id fun ⟨b, off, e, _, hb, hs⟩ => ⟨b, off, e, hb, fun i hi => by
    obtain ⟨ba, oa, c, h1, _, h3, h4⟩ := hs i hi
    exact ⟨_, c, h1, Or.inr ⟨ba, oa, rfl, h3, h4⟩⟩⟩
theorem CHi.kept {base : Nat} {w w' : World} {ao : Option Addr} {ls : List (List Int)} {r : Option Nat} (h : CHi base w ao ls) (hg : w.grownBy w' r) (hr : ∀ k, r = some k → k < base) : CHi base w' ao ls := by
  have hne : ∀ k, base ≤ k → some k ≠ r := fun k hk e => by have := hr k e.symm; omega
  refine h.imp id fun ⟨b, off, e, h1, hb, hs⟩ => ⟨b, off, e, h1, Nat.lt_of_lt_of_le hb hg.size, fun i hi => ?_⟩
  obtain ⟨ba, oa, c, q1, q2, q3, q4⟩ := hs i hi
  refine ⟨ba, oa, c, (cell_grown hb hg (hne b h1)).trans q1, q2, Nat.lt_of_lt_of_le q3 hg.size, fun j hj => ?_⟩
  exact (cell_grown q3 hg (hne ba q2)).trans (q4 j hj)
theorem CHi.mono {base base' : Nat} {w : World} {ao : Option Addr} {ls : List (List Int)} (h : CHi base w ao ls) (hb : base' ≤ base) : CHi base' w ao ls :=
  h.imp id fun ⟨b, off, e, h1, hl, hs⟩ => ⟨b, off, e, Nat.le_trans hb h1, hl, fun i hi => by
    obtain ⟨ba, oa, c, q1, q2, q3, q4⟩ := hs i hi
    exact ⟨ba, oa, c, q1, Nat.le_trans hb q2, q3, q4⟩⟩
theorem LMem.chi {base : Nat} {w : World} {g c : Nat} {rs : List Rw} (h : LMem base w g c rs) : CHi base w (some ⟨g, 0, none⟩) (nums rs) :=
  Or.inr ⟨g, 0, rfl, h.row.lt.1, h.row.lt.2, fun i hi => by
    rw [nums_length] at hi
    rw [nums_at hi, Nat.zero_add]
    have hr := h.rows _ (List.getElem_mem hi)
    exact ⟨_, 0, _, h.row.cell i hi, hr.lt.1, hr.lt.2, hr.seg⟩⟩
theorem small_of {ls : List (List Int)} (h1 : ls.length ≤ 9) (h2 : ∀ l ∈ ls, l.length ≤ 6) : CSmall ls := by
  refine ⟨by omega, fun i => ?_⟩
  rcases Nat.lt_or_ge i ls.length with hi | hi
  · rw [cn_at hi]
    have := h2 _ (List.getElem_mem hi)
    omega
  · simp [cn, List.getD, hi]
theorem nums_len {rs : List Rw} {m : Nat} (h : ∀ r ∈ rs, r.2.2.length ≤ m) : ∀ l ∈ nums rs, l.length ≤ m := fun l hl => by
  obtain ⟨r, hr, rfl⟩ := List.mem_map.1 hl
  exact h r hr

/-- All but the first. -/
theorem LMem.tail {base : Nat} {w : World} {g c : Nat} {rs : List Rw} (h : LMem base w g c rs) : CHi base w (some ⟨g, 1, none⟩) (nums rs.tail) := by
  refine Or.inr ⟨g, 1, rfl, h.row.lt.1, h.row.lt.2, fun i hi => ?_⟩
  rw [nums_length, List.length_tail] at hi
  have hi1 : i + 1 < rs.length := by omega
  have e : cn (nums rs.tail) i = rs[i + 1].2.2 := by rw [nums_at (by rw [List.length_tail]; omega)]; simp
  have hc := h.row.cell (i + 1) hi1
  rw [e, Nat.add_comm 1 i]
  have hr := h.rows _ (List.getElem_mem hi1)
  exact ⟨_, 0, _, hc, hr.lt.1, hr.lt.2, hr.seg⟩
/-- The first one grown by a number, and laid back. -/
theorem LMem.first {base : Nat} {w w8 : World} {g c gg cc : Nat} {r : Rw} {rs : List Rw} {xs : List Int} (h : LMem base w g c (r :: rs)) (hg : w.grownBy w8 (some r.1)) (hr : IRow base w8 gg cc xs) (hgg : gg = r.1 ∨ w.heap.size ≤ gg) :
    CHi base (w8.setCell ⟨g, 0, none⟩ (.slice (some ⟨gg, 0, none⟩) xs.length cc)) (some ⟨g, 0, none⟩) (xs :: nums rs) := by
  have hgl := h.row.lt
  have hoff := h.off
  have hne : gg ≠ g := by
    rcases hgg with e | e
    · rw [e]; exact hoff r (List.mem_cons_self ..)
    · omega
  have gs := grown_setCell w8 g 0 (.slice (some ⟨gg, 0, none⟩) xs.length cc)
  have hr0 : r.1 ≠ g := hoff r (List.mem_cons_self ..)
  have hcell : ∀ j, w8.cell? ⟨g, j, none⟩ = w.cell? ⟨g, j, none⟩ := fun j => cell_grown hgl.2 hg (fun e => by injection e with e; exact hr0 e.symm)
  refine Or.inr ⟨g, 0, rfl, hgl.1, by rw [setCell_size]; have := hg.size; omega, fun i hi => ?_⟩
  rw [Nat.zero_add]
  cases i with
  | zero =>
    have h0 := h.row.cell 0 (by simp)
    have hk := hr.kept gs (fun e => by injection e with e; exact hne e)
    exact ⟨gg, 0, cc, World.cell?_setCell_same _ _ _ (u := rwV r) ((hcell 0).trans h0), hk.lt.1, hk.lt.2, hk.seg⟩
  | succ i =>
    have hi2 : i < rs.length := by simpa [nums] using hi
    have h1 := h.row.cell (i + 1) (by simp; omega)
    have hm : rs[i] ∈ rs := List.getElem_mem hi2
    have hap : rs[i].1 ≠ r.1 := fun e => by
      have := h.apart
      simp only [List.map_cons, List.nodup_cons] at this
      exact this.1 (by rw [← e]; exact List.mem_map_of_mem hm)
    have e : cn (xs :: nums rs) (i + 1) = rs[i].2.2 := by
      have : cn (xs :: nums rs) (i + 1) = cn (nums rs) i := rfl
      rw [this, nums_at hi2]
    rw [e]
    have hk := ((h.rows _ (List.mem_cons_of_mem _ hm)).kept hg (fun e => by injection e with e; exact hap e)).kept gs (fun e => by injection e with e; exact hoff _ (List.mem_cons_of_mem _ hm) e)
    refine ⟨rs[i].1, 0, rs[i].2.1, ?_, hk.lt.1, hk.lt.2, hk.seg⟩
    rw [cell_setOther _ _ _ _ _ (by omega), hcell]
    exact h1
def lenV : Value → Nat
  | .slice _ n _ => n
  | _ => 0
/-- A row of slices that may share their rows: each is one of rs. -/
structure LSome (base : Nat) (w : World) (g c : Nat) (rs qs : List Rw) : Prop where
  row : LRow base w g c qs
  some' : ∀ x ∈ qs, x ∈ rs
  rows : ∀ r ∈ rs, IRow base w r.1 r.2.1 r.2.2
  off : ∀ r ∈ rs, r.1 ≠ g
theorem LSome.chi {base : Nat} {w : World} {g c : Nat} {rs qs : List Rw} (h : LSome base w g c rs qs) : CHi base w (some ⟨g, 0, none⟩) (nums qs) := by
  refine Or.inr ⟨g, 0, rfl, h.row.lt.1, h.row.lt.2, fun i hi => ?_⟩
  rw [nums_length] at hi
  rw [nums_at hi, Nat.zero_add]
  have hr := h.rows _ (h.some' _ (List.getElem_mem hi))
  exact ⟨_, 0, _, h.row.cell i hi, hr.lt.1, hr.lt.2, hr.seg⟩

set_option maxRecDepth 100000 in
set_option maxHeartbeats 4000000 in
theorem c10Draw (q : Nat) (ao : Option Addr) (n cap : Nat) (w : World) (hc : Cur w q ao n cap) (hv : CodeV w ao n) (hn : n ≤ 4096) :
    Calls Try.prog 39 #[.pointer (some ⟨q, 0, none⟩)] w fun e w' => (∃ g c ms b d ls, e = .returned (.tuple #[.slice (some ⟨g, 0, none⟩) ms.length c, .slice b ls.length d]) ∧ MNew w.heap.size w' g c ms 8 ∧ CHi w.heap.size w' b ls ∧ CSmall ls) ∧ Cur w' q ao n cap ∧ w.grownBy w' (some q) := by
  obtain ⟨j0, hj0, hy0, hy1, hy2⟩ := info_parts Try.infoL
  obtain ⟨i0, hi0, hz0, hz1, hz2⟩ := info_parts Try.info2
  have hq := hc.lt
  have HM := hidP (cMarksAny q ao n cap 8 w hc hv hn (by omega) (by omega))
  go_enter Try.func39, Try.ntmps39
  go_wp2_with fail
  refine HM.out.mono ?_
  rintro e w1 ⟨⟨gm, cm, ms, rfl, hnew⟩, c1, g1⟩
  obtain ⟨W1, hW1⟩ : ∃ W, W = w1.alloc (.cells #[] 29) := ⟨_, rfl⟩
  have ga := World.grownBy_alloc w1 (.cells #[] 29) (some q)
  have c2 := c1.alloc (.cells #[] 29)
  have m2 : LMem w1.heap.size (w1.alloc (.cells #[] 29)) w1.heap.size 0 [] := LMem.start w1 w1.heap.size (Nat.le_refl _)
  rw [← hW1] at ga c2 m2
  have G2 := grown_trans g1 ga
  have hwB := g1.size
  have K2 : Kin w.heap.size w1.heap.size w1 W1 := (Kin.refl _ _ _).grown (Nat.le_refl _) ga (fun k e => by cases e; exact Or.inl hq)
  have HB := hidP (cBelow q ao n cap 3 W1 c2 (hv.grown hc G2) hn (by omega) (by omega))
  have HNEW := hidP hnew
  have hm8 := hnew.1
  clear HM c1 ga g1 hnew
  go_upto_region 3 with fail
  rw [← hW1]
  clear hW1
  go_wp2_with fail
  refine HB.out.mono ?_
  rintro e w2 ⟨⟨y, y0, y1, rfl⟩, c3, g3⟩
  have P3 : Hid (LMem w1.heap.size w2 w1.heap.size 0 [] ∧ Cur w2 q ao n cap ∧ w.grownBy w2 (some q) ∧ Kin w.heap.size w1.heap.size w1 w2) :=
    ⟨m2.kept g3 (fun e => by injection e with e; omega) (by simp), c3, grown_trans G2 g3, K2.grown (Nat.le_refl _) g3 (fun k e => by cases e; exact Or.inl hq)⟩
  have hx : IntKind.i64.wrap (1 + y) = 1 + y := IntWalk.i64_in _ ⟨by omega, by omega⟩
  have HV := hidP (And.intro hv hc)
  clear HB m2 c2 G2 K2 c3 g3 hv hc
  generalize hB : w1.heap.size = B at *
  have HBB := hidP hB
  clear hB
  go_wp2_with fail
  go_loopw [5, 6] (fun v z wr => ∃ (k : Int) (g c : Nat) (rs : List Rw), 0 ≤ k ∧ (rs.length : Int) + k = 1 + y ∧ z = .int .i64 k ∧ v = .slice (some ⟨g, 0, none⟩) rs.length c ∧ LMem B wr g c rs ∧ (∀ r ∈ rs, r.2.2.length ≤ 5) ∧ Cur wr q ao n cap ∧ w.grownBy wr (some q) ∧ Kin w.heap.size B w1 wr) (fun _ z _ => (intOf z).toNat)
  case atStart => exact ⟨1 + y, B, 0, [], by omega, by simp, rfl, rfl, P3.out.1, by simp, P3.out.2.1, P3.out.2.2.1, P3.out.2.2.2⟩
  case round =>
    obtain ⟨k, g, c, rs, hk0, hks, rfl, rfl, hrow, hl5, hcur, G, K⟩ := hrel
    have hgl := hrow.row.lt
    by_cases hkp : k > 0
    · have hnewk := HNEW.out.kin (by rw [HBB.out]; exact K)
      have HW := hidP (sWidth (some ⟨gm, 0, none⟩) cm ms wr hnewk.view (fun i => by have := hnewk.2.2.2 i; omega))
      have hwv := widthV_le hnewk.2.2.2
      have HP := hidP (cPoint q ao n cap (widthV ms) wr hcur (HV.out.1.grown HV.out.2 G) hn (by omega))
      have HK := hidP (And.intro hrow (And.intro hl5 (And.intro G (And.intro K hks))))
      have hks3 : rs.length ≤ 3 := by omega
      have hk3 : k ≤ 3 := by omega
      clear hrow hl5 G K hnewk hcur hks
      generalize widthV ms = wd at *
      go_wp2_with fail
      refine HW.out.mono ?_
      rintro e w4 ⟨rfl, hw4⟩
      subst w4
      go_wp2_with fail
      refine HP.out.mono ?_
      rintro e w5 ⟨⟨gp, cp, xs, rfl, hxl, hxr⟩, c5, g5⟩
      have hx5 : xs.length ≤ 5 := by omega
      clear hxl
      obtain ⟨hrow, hl5, G, K, hks⟩ := HK.out
      have hrk := hrow.kept g5 (fun e => by injection e with e; omega) (fun x hx e => by injection e with e; have := (hrow.rows x hx).lt; omega)
      have hxI : IRow wr.heap.size w5 gp cp xs := hxr
      have hgp := hxI.lt
      have HRO : Hid (g < wr.heap.size ∧ ∀ r ∈ rs, r.1 < wr.heap.size) := ⟨hgl.2, fun r hr => (hrow.rows r hr).lt.2⟩
      have hz5 := g5.size
      have A8 := alloc_below w5 (.cells #[.slice (some ⟨gp, 0, none⟩) xs.length cp] 29)
      have G8 := hrk.below A8
      have R8 : IRow B (w5.alloc (.cells #[.slice (some ⟨gp, 0, none⟩) xs.length cp] 29)) gp cp xs := (hxI.below A8).mono (by omega)
      have HL8 : Hid ((w5.alloc (.cells #[.slice (some ⟨gp, 0, none⟩) xs.length cp] 29)).ownsRow B 29 1 (.slice (some ⟨g, 0, none⟩) rs.length c) rs.length (rs.map rwV)) := G8.row
      have gA := World.grownBy_alloc w5 (.cells #[.slice (some ⟨gp, 0, none⟩) xs.length cp] 29) (some q)
      have HS8 : Hid (LMem B (w5.alloc (.cells #[.slice (some ⟨gp, 0, none⟩) xs.length cp] 29)) g c rs ∧ IRow B (w5.alloc (.cells #[.slice (some ⟨gp, 0, none⟩) xs.length cp] 29)) gp cp xs ∧ Cur (w5.alloc (.cells #[.slice (some ⟨gp, 0, none⟩) xs.length cp] 29)) q ao n cap ∧ w.grownBy (w5.alloc (.cells #[.slice (some ⟨gp, 0, none⟩) xs.length cp] 29)) (some q) ∧ Kin w.heap.size B w1 (w5.alloc (.cells #[.slice (some ⟨gp, 0, none⟩) xs.length cp] 29))) :=
        ⟨G8, R8, c5.alloc _, grown_trans (grown_trans G g5) gA, (K.grown (by rw [HBB.out]; exact Nat.le_refl _) g5 (fun k e => by cases e; exact Or.inl hq)).grown (by rw [HBB.out]; exact Nat.le_refl _) gA (fun k e => by cases e; exact Or.inl hq)⟩
      have hke : ((rs.length + 1 : Nat) : Int) + (k - 1) = 1 + y := by omega
      have HKE := hidP hke
      clear hrow G K hrk hxI hxr A8 G8 R8 gA c5 g5 HP HW HK hks hke
      go_wp2_with (at_builtin; refine wpList_append_lies _ rfl (.tmp 17) (.tmp 22) 25 rfl B 29 j0 _ 1 24 Try.underlying25 hj0 hy0 hy1 hy2 rfl (by omega) (.slice (some ⟨g, 0, none⟩) rs.length c) rs.length (rs.map rwV) rfl HL8.out ⟨w5.heap.size, 0, none⟩ 1 1 [.slice (some ⟨gp, 0, none⟩) xs.length cp] rfl rfl (World.news_of_block (cs := #[.slice (some ⟨gp, 0, none⟩) xs.length cp]) (t := 29) (fr := (0, 0)) (heap_alloc_new w5 _)) (by simp [Value.oneCell']) (by omega) (by unfold maxLen; omega) (by omega) (by simp; omega) (w5.heap.size + 1) (by simp) ?_; intro gg cc w8 hown hgrow hat8 hlt8)
      have hgr : World.grownBy _ w8 (some g) := hgrow
      go_wp2_with fail
      go_roundw
      case rel =>
        obtain ⟨G8, R8, c8, g8, K8⟩ := HS8.out
        refine ⟨k - 1, gg, cc, rs ++ [(gp, cp, xs)], by omega, by rw [List.length_append, List.length_singleton]; exact HKE.out, by go_num, by simp, G8.snoc hown hgr (by rcases hat8 with h | h; exact Or.inl (by simpa [Value.ownBlock] using h); exact Or.inr (by rw [h]; simp)) R8 (by have := HRO.out.1; show gp ≠ g; omega) (fun x hx => by have := HRO.out.2 x hx; show x.1 ≠ gp; omega), ?_, c8.grown hgr (by simp; omega), grown_far g8 hgr (by intro k hk; cases hk; omega), K8.grown (by rw [HBB.out]; exact Nat.le_refl _) hgr (fun k e => by cases e; exact Or.inr hgl.1)⟩
        intro r hr
        rcases List.mem_append.1 hr with h | h
        · exact hl5 r h
        · rw [List.mem_singleton.1 h]; show xs.length ≤ 5; omega
      case measure => simp [intOf]; omega
    · have hk : k = 0 := by omega
      have hrs1 : 1 ≤ rs.length := by omega
      have hrs3 : rs.length ≤ 3 := by omega
      have HO := hidP (cOnce q ao n cap 14 wr hcur (HV.out.1.grown HV.out.2 G) hn (by omega) (by omega))
      have HK := hidP (And.intro hrow (And.intro hl5 (And.intro G K)))
      have HFIN : Hid (∀ wf, Kin w.heap.size B w1 wf → MNew w.heap.size wf gm cm ms 8) := fun wf Kf => HNEW.out.kin (by rw [HBB.out]; exact Kf)
      clear hrow hl5 G K hcur hks
      go_wp2_with fail
      refine HO.out.mono ?_
      rintro e w4 ⟨⟨x, rfl⟩, c4, g4⟩
      obtain ⟨hrow, hl5, G, K⟩ := HK.out
      have m4 := hrow.kept g4 (fun e => by injection e with e; omega) (fun x hx e => by injection e with e; have := (hrow.rows x hx).lt; omega)
      have G4 := grown_trans G g4
      have K4 := K.grown (by rw [HBB.out]; exact Nat.le_refl _) g4 (fun k e => by cases e; exact Or.inl hq)
      clear hrow G K g4 HK HO hgl
      have hBw : w.heap.size ≤ B := hwB
      cases x with
      | false =>
        have HE : Hid ((∃ g' c' ms' b d ls, Ending.returned (Value.tuple #[.slice (some ⟨gm, 0, none⟩) ms.length cm, .slice (some ⟨g, 0, none⟩) rs.length c]) = .returned (.tuple #[.slice (some ⟨g', 0, none⟩) ms'.length c', .slice b ls.length d]) ∧ MNew w.heap.size w4 g' c' ms' 8 ∧ CHi w.heap.size w4 b ls ∧ CSmall ls) ∧ Cur w4 q ao n cap ∧ w.grownBy w4 (some q)) := by
          exact ⟨⟨_, cm, ms, _, c, nums rs, by rw [nums_length], HFIN.out w4 K4, m4.chi.mono hBw, small_of (by rw [nums_length]; omega) (nums_len (fun r hr => by have := hl5 r hr; omega))⟩, c4, G4⟩
        clear m4 c4 G4 K4
        go_wp2_with fail
        go_ret2
        exact HE.out
      | true =>
        have HB3 := hidP (cBelow q ao n cap 3 w4 c4 (HV.out.1.grown HV.out.2 G4) hn (by omega) (by omega))
        have HK := hidP (And.intro m4 (And.intro G4 K4))
        clear m4 c4 G4 K4
        go_wp2_with fail
        refine HB3.out.mono ?_
        rintro e w6 ⟨⟨z, z0, z1, rfl⟩, c6, g6⟩
        obtain ⟨m4, G4, K4⟩ := HK.out
        have m6 := m4.kept g6 (fun e => by injection e with e; have := m4.row.lt; omega) (fun x hx e => by injection e with e; have := (m4.rows x hx).lt; omega)
        have G6 := grown_trans G4 g6
        have K6 := K4.grown (by rw [HBB.out]; exact Nat.le_refl _) g6 (fun k e => by cases e; exact Or.inl hq)
        clear m4 G4 K4 g6 HK HB3
        have h6c := m6.cap
        obtain h0 | h1 | h2 : z = 0 ∨ z = 1 ∨ z = 2 := by omega
        · subst h0
          have HK := hidP (And.intro m6 (And.intro c6 (And.intro G6 K6)))
          clear m6 c6 G6 K6
          have HE : Hid (MNew w.heap.size w6 gm cm ms 8 ∧ CHi w.heap.size w6 (some ⟨g, 1, none⟩) (nums rs.tail) ∧ CSmall (nums rs.tail) ∧ Cur w6 q ao n cap ∧ w.grownBy w6 (some q)) := by
            obtain ⟨m6, c6, G6, K6⟩ := HK.out
            exact ⟨HFIN.out w6 K6, m6.tail.mono hBw, small_of (by rw [nums_length, List.length_tail]; omega) (nums_len (fun r hr => by have := hl5 r (List.mem_of_mem_tail hr); omega)), c6, G6⟩
          have hlt : Hid ((nums rs.tail).length = rs.length - 1) := by show _ = _; rw [nums_length, List.length_tail]
          go_wp2_with fail
          · go_ret2
            have h1 : rs.length - 1 = 0 := by omega
            exact ⟨⟨_, cm, ms, some ⟨g, 0, none⟩, 0, [], by rw [h1]; rfl, HE.out.1, Or.inl rfl, small_of (by simp) (by simp)⟩, HE.out.2.2.2.1, HE.out.2.2.2.2⟩
          · go_ret2
            exact ⟨⟨_, cm, ms, some ⟨g, 1, none⟩, c - 1, nums rs.tail, by rw [hlt.out]; rfl, HE.out.1, HE.out.2.1, HE.out.2.2.1⟩, HE.out.2.2.2.1, HE.out.2.2.2.2⟩
        · subst h1
          obtain ⟨r, rt, hrr⟩ : ∃ r rt, rs = r :: rt := by
            cases rs with
            | nil => simp at hrs1
            | cons r rt => exact ⟨r, rt, rfl⟩
          have hl := hl5
          rw [hrr] at m6 hl
          have e0 := m6.row.cell 0 (by simp)
          have HRR := hidP hrr
          have hr0 := m6.rows r (List.mem_cons_self ..)
          have hr5 := hl r (List.mem_cons_self ..)
          have hg6 := m6.row.lt
          have HOW := hidP (show w6.ownsRow B 2 1 (.slice (some ⟨r.1, 0, none⟩) r.2.2.length r.2.1) r.2.2.length (r.2.2.map (Value.int .i64)) from hr0)
          have hrl := hr0.lt
          have hneg : r.1 ≠ g := m6.off r (List.mem_cons_self ..)
          have HK := hidP (And.intro m6 (And.intro c6 (And.intro G6 K6)))
          have HL := hidP hl
          have hlen1 : (0 : Int) < (rs.length : Int) := by omega
          have e0' : (w6.alloc (.cells #[.int .i64 1] 2)).cell? ⟨g, 0, none⟩ = some (.slice (some ⟨r.1, 0, none⟩) r.2.2.length r.2.1) := by
            rw [World.cell?_alloc_past _ _ _ hg6.2]; exact e0
          have e0w : w6.cell? ⟨g, 0, none⟩ = some (.slice (some ⟨r.1, 0, none⟩) r.2.2.length r.2.1) := e0
          have HFG : Hid (∀ w8, (w6.alloc (.cells #[.int .i64 1] 2)).grownBy w8 (some r.1) → w8.cell? ⟨g, 0, none⟩ = some (.slice (some ⟨r.1, 0, none⟩) r.2.2.length r.2.1) ∧ w8.frozen? ⟨g, 0, none⟩ = false) := fun w8 hg8 => by
            refine ⟨(cell_grown (by simp; omega) hg8 (fun e => by injection e with e; exact hneg e.symm)).trans e0', ?_⟩
            rw [frozen_grown (by simp; omega) hg8 (fun e => by injection e with e; exact hneg e.symm), World.frozen?_of_block (w := w6) (a := ⟨g, 0, none⟩) (Below.heap_alloc _ _ _ hg6.2)]
            exact World.ownsRow.frozenAt m6.row 0
          clear m6 c6 G6 K6 hr0 hl e0 hrr e0'
          go_wp2_with (at_builtin; refine wpList_append_lies _ rfl (.tmp 37) (.tmp 38) 29 rfl B 2 i0 _ 1 8 Try.underlying29 hi0 hz0 hz1 hz2 rfl (by omega) (.slice (some ⟨r.1, 0, none⟩) r.2.2.length r.2.1) r.2.2.length (r.2.2.map (Value.int .i64)) rfl (World.ownsRow.alloc HOW.out _) ⟨w6.heap.size, 0, none⟩ 1 1 [.int .i64 1] rfl rfl (World.news_of_block (cs := #[.int .i64 1]) (t := 2) (fr := (0, 0)) (heap_alloc_new w6 _)) (by simp [Value.oneCell']) (by omega) (by unfold maxLen; omega) (by omega) (by simp; omega) (w6.heap.size + 1) (by simp) ?_; intro gg cc w8 hown hgrow hat8 hlt8; obtain ⟨f0, f1⟩ := HFG.out w8 hgrow)
          obtain ⟨m6, c6, G6, K6⟩ := HK.out
          have hgr : World.grownBy _ w8 (some r.1) := hgrow
          have hrow8 : IRow B w8 gg cc (r.2.2 ++ [1]) := IRow.of hown (by simp) (by simp)
          have A8 := alloc_below w6 (.cells #[.int .i64 1] 2)
          have ga := World.grownBy_alloc w6 (.cells #[.int .i64 1] 2) (some q)
          have gset := grown_setCell w8 g 0 (.slice (some ⟨gg, 0, none⟩) (r.2.2.length + 1) cc)
          have hfirst := LMem.first (m6.below A8) hgr hrow8 (by rcases hat8 with h | h; exact Or.inl (by simp [Value.ownBlock] at h; omega); exact Or.inr (by simp; omega))
          have e1 : (r.2.2 ++ [(1 : Int)]).length = r.2.2.length + 1 := by simp
          rw [e1] at hfirst
          have Kf := ((K6.grown (by rw [HBB.out]; exact Nat.le_refl _) ga (fun k e => by cases e; exact Or.inl hq)).grown (by rw [HBB.out]; exact Nat.le_refl _) hgr (fun k e => by cases e; exact Or.inr hrl.1)).grown (by rw [HBB.out]; exact Nat.le_refl _) gset (fun k e => by cases e; exact Or.inr hg6.1)
          have v1 := HFIN.out _ Kf
          have HE : Hid (MNew w.heap.size (w8.setCell ⟨g, 0, none⟩ (.slice (some ⟨gg, 0, none⟩) (r.2.2.length + 1) cc)) gm cm ms 8 ∧ CHi w.heap.size (w8.setCell ⟨g, 0, none⟩ (.slice (some ⟨gg, 0, none⟩) (r.2.2.length + 1) cc)) (some ⟨g, 0, none⟩) ((r.2.2 ++ [1]) :: nums rt) ∧ CSmall ((r.2.2 ++ [1]) :: nums rt) ∧ Cur (w8.setCell ⟨g, 0, none⟩ (.slice (some ⟨gg, 0, none⟩) (r.2.2.length + 1) cc)) q ao n cap ∧ w.grownBy (w8.setCell ⟨g, 0, none⟩ (.slice (some ⟨gg, 0, none⟩) (r.2.2.length + 1) cc)) (some q)) := by
            refine ⟨v1, hfirst.mono hBw, small_of ?_ ?_, ((c6.alloc _).grown hgr (by simp; omega)).grown gset (by simp; omega), grown_far (grown_far (grown_trans G6 ga) hgr (by intro k hk; cases hk; omega)) gset (by intro k hk; cases hk; omega)⟩
            · have := HRR.out
              rw [this] at hrs3
              simp [nums] at hrs3 ⊢
              omega
            · intro l hl
              rcases List.mem_cons.1 hl with h | h
              · rw [h]; simp; omega
              · have := nums_len (fun r hr => HL.out r (List.mem_cons_of_mem _ hr)) l h
                omega
          have HLN : Hid (((r.2.2 ++ [1]) :: nums rt).length = rs.length) := by show _ = _; rw [HRR.out]; simp [nums]
          clear m6 c6 G6 K6 hgr hrow8 A8 ga gset hfirst Kf v1 hown hgrow
          go_wp2_with fail
          go_ret2
          exact ⟨⟨_, cm, ms, some ⟨g, 0, none⟩, c, (r.2.2 ++ [1]) :: nums rt, by rw [HLN.out]; rfl, HE.out.1, HE.out.2.1, HE.out.2.2.1⟩, HE.out.2.2.2.1, HE.out.2.2.2.2⟩
        · subst h2
          obtain ⟨r, rt, hrr⟩ : ∃ r rt, rs = r :: rt := by
            cases rs with
            | nil => simp at hrs1
            | cons r rt => exact ⟨r, rt, rfl⟩
          have HRR := hidP hrr
          have HK : Hid (LSome B w6 g c rs rs ∧ Cur w6 q ao n cap ∧ w.grownBy w6 (some q) ∧ Kin w.heap.size B w1 w6) := ⟨⟨m6.row, fun x hx => hx, m6.rows, m6.off⟩, c6, G6, K6⟩
          clear m6 c6 G6 K6 hrr
          go_wp2_with fail
          go_loopw [5] (fun v wz => ∃ (g c : Nat) (qs : List Rw), v = .slice (some ⟨g, 0, none⟩) qs.length c ∧ 1 ≤ qs.length ∧ qs.length ≤ 9 ∧ LSome B wz g c rs qs ∧ Cur wz q ao n cap ∧ w.grownBy wz (some q) ∧ Kin w.heap.size B w1 wz) (fun v _ => 9 - lenV v)
          case atStart => exact ⟨g, c, rs, rfl, hrs1, by omega, HK.out.1, HK.out.2.1, HK.out.2.2.1, HK.out.2.2.2⟩
          case round =>
            obtain ⟨g', c', qs, rfl, h1, h9, hS, hcu, GG, KK⟩ := hrel
            by_cases hlt : qs.length < 9
            · have e0 := hS.row.cell 0 (by omega)
              have hm0 : qs[0] ∈ qs := List.getElem_mem (by omega)
              have hgl := hS.row.lt
              have hlI : (qs.length : Int) < 9 := by omega
              have hlP : (0 : Int) < (qs.length : Int) := by omega
              have HP := hidP (And.intro hS (And.intro hcu (And.intro GG (And.intro KK hm0))))
              unfold rwV at e0
              clear hS hcu GG KK hm0
              generalize qs[0] = x at *
              obtain ⟨hS, hcu, GG, KK, hm0⟩ := HP.out
              have A8 := alloc_below wr (.cells #[.slice (some ⟨x.1, 0, none⟩) x.2.2.length x.2.1] 29)
              have HL8 : Hid ((wr.alloc (.cells #[.slice (some ⟨x.1, 0, none⟩) x.2.2.length x.2.1] 29)).ownsRow B 29 1 (.slice (some ⟨g', 0, none⟩) qs.length c') qs.length (qs.map rwV)) := hS.row.kept (r := none) ⟨A8.os, A8.tape, A8.output, A8.size, fun i hi _ => A8.block i hi⟩ (by simp)
              clear hS hcu GG KK hm0 A8
              go_wp2_with (at_builtin; refine wpList_append_lies _ rfl (.tmp 46) (.tmp 50) 25 rfl B 29 j0 _ 1 24 Try.underlying25 hj0 hy0 hy1 hy2 rfl (by omega) (.slice (some ⟨g', 0, none⟩) qs.length c') qs.length (qs.map rwV) rfl HL8.out ⟨wr.heap.size, 0, none⟩ 1 1 [.slice (some ⟨x.1, 0, none⟩) x.2.2.length x.2.1] rfl rfl (World.news_of_block (cs := #[.slice (some ⟨x.1, 0, none⟩) x.2.2.length x.2.1]) (t := 29) (fr := (0, 0)) (heap_alloc_new wr _)) (by simp [Value.oneCell']) (by omega) (by unfold maxLen; omega) (by omega) (by simp; omega) (wr.heap.size + 1) (by simp) ?_; intro gg cc w8 hown hgrow hat8 hlt8)
              go_wp2_with fail
              have hgr : World.grownBy _ w8 (some g') := hgrow
              go_roundw
              case rel =>
                obtain ⟨hS, hcu, GG, KK, hm0⟩ := HP.out
                have A8 := alloc_below wr (.cells #[.slice (some ⟨x.1, 0, none⟩) x.2.2.length x.2.1] 29)
                have ga := World.grownBy_alloc wr (.cells #[.slice (some ⟨x.1, 0, none⟩) x.2.2.length x.2.1] 29) (some q)
                have hgg : gg = g' ∨ wr.heap.size < gg := by
                  rcases hat8 with h | h
                  · simp [Value.ownBlock] at h; exact Or.inl h.symm
                  · exact Or.inr (by omega)
                refine ⟨gg, cc, qs ++ [x], by simp, by simp, by simp; omega, ⟨?_, fun z hz => ?_, fun r hr => ((hS.rows r hr).below A8).kept hgr (fun e => by injection e with e; exact hS.off r hr e), fun r hr => ?_⟩, (hcu.alloc _).grown hgr (by simp; omega), grown_far (grown_trans GG ga) hgr (by intro k hk; cases hk; omega), (KK.grown (by rw [HBB.out]; exact Nat.le_refl _) ga (fun k e => by cases e; exact Or.inl hq)).grown (by rw [HBB.out]; exact Nat.le_refl _) hgr (fun k e => by cases e; exact Or.inr hgl.1)⟩
                · unfold LRow
                  rw [List.length_append, List.length_singleton, List.map_append]
                  exact hown
                · rcases List.mem_append.1 hz with h | h
                  · exact hS.some' z h
                  · rw [List.mem_singleton.1 h]; exact hS.some' x hm0
                · rcases hgg with h | h
                  · rw [h]; exact hS.off r hr
                  · have := (hS.rows r hr).lt; omega
              case measure => simp [lenV]; omega
            · have hl9 : ¬ (qs.length : Int) < 9 := by omega
              have v1 := HFIN.out wr KK
              have HE : Hid (MNew w.heap.size wr gm cm ms 8 ∧ CHi w.heap.size wr (some ⟨g', 0, none⟩) (nums qs) ∧ CSmall (nums qs) ∧ Cur wr q ao n cap ∧ w.grownBy wr (some q)) :=
                ⟨v1, hS.chi.mono hBw, small_of (by rw [nums_length]; omega) (nums_len (fun r hr => by have := hl5 r (hS.some' r hr); omega)), hcu, GG⟩
              have HLN := hidP (nums_length qs)
              clear hS hcu GG KK v1
              go_wp2_with fail
              go_ret2
              exact ⟨⟨_, cm, ms, some ⟨g', 0, none⟩, c', nums qs, by rw [HLN.out]; rfl, HE.out.1, HE.out.2.1, HE.out.2.2.1⟩, HE.out.2.2.2.1, HE.out.2.2.2.2⟩

end Go.Proofs.Ythcjkneifkmkdaa
