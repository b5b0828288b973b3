/-
  The laws' draw of a web: l14Draw.
  The laws' draw of a web of whatever kind: l14DrawAny.
  The laws' draws of a walk and of a beam: DrawWalk, DrawBeam.
  The laws' draws of a web: DrawWebOk, DrawIslands, DrawLinked.
  The laws' draws of a web alone: DrawWebOk, DrawIslands.
-/
import Derived.Test.YtfbhohpbhjlihaaGreatFeLkZz
import Derived.Test.YtfbhohpbhjlihaaGreatMDrawZz
import Derived.Test.YtfbhohpbhjlihaaGreatMHighZz
import Derived.Test.YtfbhohpbhjlihaaGreatLastZz
import Derived.BigQuiet
import Derived.Test.YtfbhohpbhjlihaaGreatFeDfZz
import Derived.Test.YtfbhohpbhjlihaaGreatHDrawZz
import Derived.Deep.CutBlock
import Derived.Deep.DeepCutAuto
namespace Go.Proofs.YtfbhohpbhjlihaaGreat
open Go Go.RowKit

/-- A drawn web: nothing, or one in blocks of its own. -/
def WSt (base : Nat) (w : World) (am : Option Addr) (cm : Nat) (al : Option Addr) (cl : Nat) (ms : List Mk) (ls : List (List Int)) : Prop :=
  (am = none ∧ cm = 0 ∧ al = none ∧ cl = 0 ∧ ms = [] ∧ ls = []) ∨ ∃ gm gl, am = some ⟨gm, 0, none⟩ ∧ al = some ⟨gl, 0, none⟩ ∧ WebOut base w gm cm gl cl ms ls
theorem WSt.views {base : Nat} {w : World} {am al : Option Addr} {cm cl : Nat} {ms : List Mk} {ls : List (List Int)} (h : WSt base w am cm al cl ms ls) : MView w am ms ∧ CView w al ls := by
  rcases h with ⟨-, -, -, -, rfl, rfl⟩ | ⟨gm, gl, rfl, rfl, h⟩
  · exact ⟨Or.inl rfl, Or.inl rfl⟩
  · exact h.views
theorem WSt.same {base : Nat} {w w' : World} {am al : Option Addr} {cm cl : Nat} {ms : List Mk} {ls : List (List Int)} (h : WSt base w am cm al cl ms ls) (e : ∀ b, base ≤ b → b < w.heap.size → w'.heap[b]? = w.heap[b]?) : WSt base w' am cm al cl ms ls := by
  rcases h with h | ⟨gm, gl, e1, e2, h⟩
  · exact Or.inl h
  · refine Or.inr ⟨gm, gl, e1, e2, ?_⟩
    obtain ⟨B, ds, B', rs, hb, hb', h1, h2, h3, h4, h5⟩ := h
    refine ⟨B, ds, B', rs, hb, hb', ⟨owns_same14 h1.1 (e gm (by have := h1.lt; omega) h1.lt.2), fun d hd => ⟨(h1.2.1 d hd).1.same (e d.2.1 (by have := (h1.2.1 d hd).1.lt2; omega) (h1.2.1 d hd).1.lt2.2), (h1.2.1 d hd).2⟩, h1.2.2⟩, h2, h3.same (fun b hbb => e b (by have := h3.all b hbb; omega) (h3.all b hbb).2), h4, h5⟩
theorem WSt.mono {base base' : Nat} {w : World} {am al : Option Addr} {cm cl : Nat} {ms : List Mk} {ls : List (List Int)} (h : WSt base w am cm al cl ms ls) (hb : base' ≤ base) : WSt base' w am cm al cl ms ls := by
  rcases h with h | ⟨gm, gl, e1, e2, B, ds, B', rs, h1, h2, h3⟩
  · exact Or.inl h
  · exact Or.inr ⟨gm, gl, e1, e2, B, ds, B', rs, by omega, by omega, h3⟩
theorem below_grown14 {w w' : World} (h : Below w.heap.size w w') (r : Option Nat) : w.grownBy w' r := ⟨h.os, h.tape, h.output, h.size, fun k hk _ => h.block k hk⟩
theorem Cur.kept14 {w w' : World} {q : Nat} {ao : Option Addr} {n cap : Nat} (h : Cur w q ao n cap) (e : w'.heap[q]? = w.heap[q]?) : Cur w' q ao n cap := by
  obtain ⟨i, x, hi, hc⟩ := h
  exact ⟨i, x, hi, e.trans hc⟩
theorem grown_undrew14 {w w' : World} {r : Option Nat} (h : w.drew.grownBy w' r) : w.grownBy w' r := ⟨h.os, h.tape, h.output, h.size, h.block⟩

/-- What the loop keeps. -/
structure DrWeb (w wr : World) (q : Nat) (ao : Option Addr) (n cap B0 B1 g c : Nat) (ds : List Dm) (k : Nat) (am : Option Addr) (cm : Nat) (al : Option Addr) (cl : Nat) (ms : List Mk) (ls : List (List Int)) : Prop where
  cur : Cur wr q ao n cap
  gr : w.grownBy wr (some q)
  r0 : Two wr w.heap.size (.slice none 0 0) (.slice none 0 0) 27
  a0 : Two wr (w.heap.size + 1) (.slice am ms.length cm) (.slice al ls.length cl) 27
  dr : DRow B0 wr g c ds
  web : WSt B1 wr am cm al cl ms ls
  ok : webB ms ls = true
  len : ms.length ≤ k
  size : B1 ≤ wr.heap.size

set_option maxRecDepth 100000 in
set_option maxHeartbeats 8000000 in
theorem cWeb (q : Nat) (ao : Option Addr) (n cap : Nat) (w : World) (hc : Cur w q ao n cap) (hv : CodeV w ao n) (hn : n ≤ 4096) :
    Calls Tryz.prog 153 #[.pointer (some ⟨q, 0, none⟩)] w fun e w' => (∃ am cm al cl ms ls, e = .returned (.agg #[.slice am ms.length cm, .slice al ls.length cl]) ∧ WSt w.heap.size w' am cm al cl ms ls ∧ webB ms ls = true ∧ ms.length ≤ 9) ∧ Cur w' q ao n cap ∧ w.grownBy w' (some q) := by
  have hq := hc.lt
  obtain ⟨W, hW⟩ : ∃ W, (w.alloc (.cells #[.slice none 0 0, .slice none 0 0] 27)).alloc (.cells #[.slice none 0 0, .slice none 0 0] 27) = W := ⟨_, rfl⟩
  have hWs : W.heap.size = w.heap.size + 2 := by rw [← hW]; simp
  have gW : w.grownBy W (some q) := by rw [← hW]; exact grown_trans (World.grownBy_alloc w _ (some q)) (World.grownBy_alloc _ _ (some q))
  have cW : Cur W q ao n cap := hc.kept14 (by rw [← hW, Below.heap_alloc _ _ _ (by simp; omega), Below.heap_alloc _ _ _ hq])
  have vW : CodeV W ao n := hv.grown hc gW
  have tR : Two W w.heap.size (.slice none 0 0) (.slice none 0 0) 27 := by
    rw [← hW]
    exact (Below.heap_alloc _ _ _ (by simp)).trans (heap_alloc_new w _)
  have tA : Two W (w.heap.size + 1) (.slice none 0 0) (.slice none 0 0) 27 := by
    have h := heap_alloc_new (w.alloc (.cells #[.slice none 0 0, .slice none 0 0] 27)) (.cells #[.slice none 0 0, .slice none 0 0] 27)
    have e : (w.alloc (.cells #[.slice none 0 0, .slice none 0 0] 27)).heap.size = w.heap.size + 1 := by simp
    rw [e, hW] at h
    exact h
  have HMD := hidP (cMarks q ao n cap 9 W cW vW hn (by omega) (by omega))
  have HWW := hidP hW
  have HST := hidP (And.intro gW (And.intro tR tA))
  have HCw := hidP hc
  have HVw := hidP hv
  clear gW tR tA cW vW hW hc hv
  go_enter Tryz.func153, Tryz.ntmps153
  go_wp2_with fail
  rw [HWW.out]
  refine HMD.out.mono ?_
  rintro e w1 ⟨⟨g, c, ds, rfl, hnew⟩, c1, g1⟩
  have g01 := grown_trans HST.out.1 g1
  have hs1 := g1.size
  have HD0 : Hid (DrWeb w w1 q ao n cap (w.heap.size + 2) w1.heap.size g c ds 0 none 0 none 0 [] []) := by
    refine ⟨c1, g01, ?_, ?_, ?_, Or.inl ⟨rfl, rfl, rfl, rfl, rfl, rfl⟩, by simp [webB, marksB], Nat.le_refl _, Nat.le_refl _⟩
    · exact (g1.block _ (by omega) (by simp; omega)).trans HST.out.2.1
    · exact (g1.block _ (by omega) (by simp; omega)).trans HST.out.2.2
    · rw [← hWs]; exact hnew.2.1
  have hdl : ds.length ≤ 9 := by have := hnew.1; omega
  have HGD := hidP hnew.2.2
  have HV0 : Hid (∀ wr, w.grownBy wr (some q) → CodeV wr ao n) := fun wr hg => HVw.out.grown HCw.out hg
  clear hnew c1 g1 g01 HMD HWW HST
  go_wp2_with fail
  go_loopw [5] (fun i wr => ∃ (k : Nat) (am : Option Addr) (cm : Nat) (al : Option Addr) (cl : Nat) (ms : List Mk) (ls : List (List Int)), k ≤ ds.length ∧ i = .int .i64 k ∧ DrWeb w wr q ao n cap (w.heap.size + 2) w1.heap.size g c ds k am cm al cl ms ls) (fun i _ => ds.length - (intOf i).toNat)
  case atStart => exact ⟨0, none, 0, none, 0, [], [], Nat.zero_le _, rfl, HD0.out⟩
  case round =>
    obtain ⟨k, am, cm, al, cl, ms, ls, hk, rfl, hdw⟩ := hrel
    have hqr : q < wr.heap.size := by have := hdw.gr.size; omega
    by_cases hlt : k < ds.length
    · obtain ⟨d0, d1⟩ := hdw.dr.cells k hlt
      obtain ⟨hrow, hne⟩ := hdw.dr.2.1 _ (mdnth_mem ds k hlt)
      have hgl := hdw.dr.lt
      have a0 := hdw.a0.c0
      have a1 := hdw.a0.c1
      have hk0 : (0 : Int) ≤ (k : Int) := Int.natCast_nonneg _
      have hk1 : (k : Int) < (ds.length : Int) := by omega
      have HB := hidP (fun W' hc' hv' => cBelow q ao n cap 3 W' hc' hv' hn (by omega) (by omega))
      have HDW := hidP hdw
      have HVR : Hid (∀ W', wr.grownBy W' (some q) → CodeV W' ao n) := fun W' hg' => HV0.out W' (grown_trans HDW.out.gr hg')
      have HCR := hidP hdw.cur
      have hszr := hdw.size
      have hml : (mdnth ds k).2.2.2.length ≤ 1048576 := by
        obtain ⟨width, id, hw1, hw3, -, hgd⟩ := HGD.out
        have := (hgd.1 _ (mdnth_mem ds k hlt)).2.2.1
        omega
      have hAl : w.heap.size + 1 < wr.heap.size := hdw.a0.lt
      have HLK : Hid (∀ (W' : World) (most : Int), wr.grownBy W' (some q) → Calls Tryz.prog 93 #[.agg #[.slice am ms.length cm, .slice al ls.length cl], .agg #[.int .i64 (mdnth ds k).1, .slice (some ⟨(mdnth ds k).2.1, 0, none⟩) (mdnth ds k).2.2.2.length (mdnth ds k).2.2.1], .int .i64 most] W' fun e w' =>
          (e = .returned (.tuple #[.agg #[.slice none 0 0, .slice none 0 0], .bool false]) ∧ Below W'.heap.size W' w') ∨
          (∃ gm cm' gl cl' ms' ls', e = .returned (.tuple #[.agg #[.slice (some ⟨gm, 0, none⟩) ms'.length cm', .slice (some ⟨gl, 0, none⟩) ls'.length cl'], .bool true]) ∧ WebOut W'.heap.size w' gm cm' gl cl' ms' ls' ∧ webB ms' ls' = true ∧ ms'.length ≤ k + 1 ∧ Below W'.heap.size W' w')) := fun W' most hg' => by
        have hweb := HDW.out.web.same (w' := W') (fun b hb hb2 => hg'.block b hb2 (by simp; omega))
        have hvw : View W' (some ⟨(mdnth ds k).2.1, 0, none⟩) (mdnth ds k).2.2.2 := by
          have hl2 := hrow.lt2
          have h5 : Row (w.heap.size + 2) W' (mdnth ds k).2.1 (mdnth ds k).2.2.1 (mdnth ds k).2.2.2 := World.ownsRow.kept hrow hg' (Or.inr (by simp [Value.ownBlock]; omega))
          exact h5.view
        refine (sLinkG am al _ cm cl _ ms ls ((mdnth ds k).1, (mdnth ds k).2.2.2) most W' hweb.views.1 hweb.views.2 hvw hml HDW.out.ok).mono ?_
        rintro e w' (⟨-, he, hL⟩ | ⟨hmb, gm, cm', gl, cl', he, ho, hL⟩)
        · exact Or.inl ⟨he, hL⟩
        · have hln : (lnkL ms ls (nearI ms (mdnth ds k).2.2.2 most) (mdnth ds k).1).length = ls.length + 1 := by
            rw [lnkL_len, web_len HDW.out.ok]
          refine Or.inr ⟨gm, cm', gl, cl', ms ++ [((mdnth ds k).1, (mdnth ds k).2.2.2)], _, ?_, ho, linked_web HDW.out.ok hmb (nearI_find (web_marks HDW.out.ok)), by have := HDW.out.len; simp; omega, hL⟩
          rw [he, hln]
          simp
      have HS : Hid (∀ W' : World, wr.grownBy W' (some q) → W'.cell? ⟨w.heap.size + 1, 0, none⟩ = some (.slice am ms.length cm) ∧ W'.cell? ⟨w.heap.size + 1, 1, none⟩ = some (.slice al ls.length cl) ∧ W'.cell? ⟨g, k * 2, none⟩ = some (.int .i64 (mdnth ds k).1) ∧ W'.cell? ⟨g, k * 2 + 1, none⟩ = some (.slice (some ⟨(mdnth ds k).2.1, 0, none⟩) (mdnth ds k).2.2.2.length (mdnth ds k).2.2.1)) := fun W' hg' =>
        ⟨hg'.cell a0 (by simp; omega), hg'.cell a1 (by simp; omega), hg'.cell d0 (by simp; omega), hg'.cell d1 (by simp; omega)⟩
      -- the ends: behind the region, whatever the order
      have HEND : Hid (∀ (wz : World) (am' al' : Option Addr) (cm' cl' : Nat) (ms' : List Mk) (ls' : List (List Int)), wr.grownBy wz (some q) → Cur wz q ao n cap → WSt wr.heap.size wz am' cm' al' cl' ms' ls' → webB ms' ls' = true → ms'.length ≤ k + 1 → DrWeb w ((wz.setCell ⟨w.heap.size + 1, 0, none⟩ (.slice am' ms'.length cm')).setCell ⟨w.heap.size + 1, 1, none⟩ (.slice al' ls'.length cl')) q ao n cap (w.heap.size + 2) w1.heap.size g c ds (k + 1) am' cm' al' cl' ms' ls') := by
        intro wz am' al' cm' cl' ms' ls' hg' hcz hweb' hok' hlen'
        have hzs := hg'.size
        have hA : Two wz (w.heap.size + 1) (.slice am ms.length cm) (.slice al ls.length cl) 27 := (hg'.block _ hAl (by simp; omega)).trans HDW.out.a0
        obtain ⟨wy, hwy⟩ : ∃ wy, wy = (wz.setCell ⟨w.heap.size + 1, 0, none⟩ (.slice am' ms'.length cm')).setCell ⟨w.heap.size + 1, 1, none⟩ (.slice al' ls'.length cl') := ⟨_, rfl⟩
        have hoth : ∀ b, b ≠ w.heap.size + 1 → wy.heap[b]? = wz.heap[b]? := fun b hb => by
          rw [hwy, Below.heap_setCell _ ⟨w.heap.size + 1, 1, none⟩ _ b hb, Below.heap_setCell _ ⟨w.heap.size + 1, 0, none⟩ _ b hb]
        have hys : wy.heap.size = wz.heap.size := by rw [hwy, setCell_size, setCell_size]
        have hold : ∀ b, b < wr.heap.size → b ≠ q → b ≠ w.heap.size + 1 → wy.heap[b]? = wr.heap[b]? := fun b h1 h2 h3 => (hoth b h3).trans (hg'.block b h1 (by simp; exact h2))
        have hgz := grown_trans HDW.out.gr hg'
        rw [← hwy]
        refine ⟨hcz.kept14 (hoth q (by omega)), ⟨?_, ?_, ?_, by rw [hys]; exact hgz.size, fun b hb hbq => (hoth b (by omega)).trans (hgz.block b hb hbq)⟩, (hold _ (by omega) (by omega) (by omega)).trans HDW.out.r0, ?_, ?_, ?_, hok', hlen', by omega⟩
        · rw [hwy]; exact hgz.os
        · rw [hwy]; exact hgz.tape
        · rw [hwy]; exact hgz.output
        · rw [hwy]; exact (hA.set0 _).set1 _
        · have h1 := HDW.out.dr
          exact ⟨owns_same14 h1.1 (hold g h1.lt.2 (by omega) (by omega)), fun d hd => ⟨(h1.2.1 d hd).1.same (hold d.2.1 (h1.2.1 d hd).1.lt2.2 (by have := (h1.2.1 d hd).1.lt2; omega) (by have := (h1.2.1 d hd).1.lt2; omega)), (h1.2.1 d hd).2⟩, h1.2.2⟩
        · exact (hweb'.mono hszr).same (fun b hb _ => hoth b (by omega))
      have HOLD : Hid (∀ (wz : World), wr.grownBy wz (some q) → Cur wz q ao n cap → DrWeb w wz q ao n cap (w.heap.size + 2) w1.heap.size g c ds (k + 1) am cm al cl ms ls) := by
        intro wz hg' hcz
        have hzs := hg'.size
        have hold : ∀ b, b < wr.heap.size → b ≠ q → wz.heap[b]? = wr.heap[b]? := fun b h1 h2 => hg'.block b h1 (by simp; exact h2)
        refine ⟨hcz, grown_trans HDW.out.gr hg', (hold _ (by omega) (by omega)).trans HDW.out.r0, (hold _ (by omega) (by omega)).trans HDW.out.a0, ?_, HDW.out.web.same (fun b hb hb2 => hold b hb2 (by omega)), HDW.out.ok, by have := HDW.out.len; omega, by omega⟩
        have h1 := HDW.out.dr
        exact ⟨owns_same14 h1.1 (hold g h1.lt.2 (by omega)), fun d hd => ⟨(h1.2.1 d hd).1.same (hold d.2.1 (h1.2.1 d hd).1.lt2.2 (by have := (h1.2.1 d hd).1.lt2; omega)), (h1.2.1 d hd).2⟩, h1.2.2⟩
      have HAF : Hid (∀ (wz : World), wr.grownBy wz (some q) → wz.frozen? ⟨w.heap.size + 1, 0, none⟩ = false ∧ wz.frozen? ⟨w.heap.size + 1, 1, none⟩ = false) := fun wz hg' => by
        have hA : Two wz (w.heap.size + 1) (.slice am ms.length cm) (.slice al ls.length cl) 27 := (hg'.block _ hAl (by simp; omega)).trans HDW.out.a0
        exact ⟨hA.frozen 0, hA.frozen 1⟩
      clear hrow hne hdw
      generalize mdnth ds k = dk at *
      go_wp2_with fail
      refine wp_region_takes (S := fun w' => w'.cell? ⟨w.heap.size + 1, 0, none⟩ = some (.slice am ms.length cm) ∧ w'.cell? ⟨w.heap.size + 1, 1, none⟩ = some (.slice al ls.length cl) ∧ w'.cell? ⟨g, k * 2, none⟩ = some (.int .i64 dk.1) ∧ w'.cell? ⟨g, k * 2 + 1, none⟩ = some (.slice (some ⟨dk.2.1, 0, none⟩) dk.2.2.2.length dk.2.2.1)) (fuel := 9) [0, 1, 2, 3, 4, 5] (by kernel_rfl) (by kernel_rfl) (by kernel_rfl) (by kernel_rfl) ⟨a0, a1, d0, d1⟩ (fun _ => ?_)
      iterate 6
        refine ⟨_, rfl, ?_⟩
        apply Exists.intro
        refine ⟨Or.inl ⟨by rfl, fun w' hw' => ?_⟩, ?_⟩
        · obtain ⟨s1, s2, s3, s4⟩ := hw'
          first
          | (go_simp; done)
          | (go_simp; with_reducible rfl)
        simp only [Act.put, List.getElem_toArray, List.getElem_cons_succ, List.getElem_cons_zero, List.setIfInBounds_toArray, List.set_cons_zero, List.set_cons_succ]
      refine calm_two14 6 12 (by kernel_rfl) rfl rfl (fun K hK => ?_) (fun K hK => ?_)
      · go_simp
        refine (HB.out _ HCR.out.drew (HVR.out wr (grown_refl _ _))).mono ?_
        rintro e w2 ⟨⟨y, y0, y1, rfl⟩, c2, g2'⟩
        have g2 : wr.grownBy w2 (some q) := grown_undrew14 g2'
        have hx : IntKind.i64.wrap (1 + y) = 1 + y := by rw [IntWalk.i64_in _ ⟨by omega, by omega⟩]
        refine hK.out _ _ (HS.out w2 g2) (fun hS2 => ?_)
        clear hK K
        refine calm_more14 7 [7] (by kernel_rfl) (by kernel_rfl) (by kernel_rfl) hS2 ?_
        iterate 1
          refine ⟨_, rfl, ?_⟩
          apply Exists.intro
          refine ⟨Or.inl ⟨by rfl, fun w' hw' => ?_⟩, ?_⟩
          · first
            | (go_simp; done)
            | (go_simp; with_reducible rfl)
          simp only [Act.put, List.getElem_toArray, List.getElem_cons_succ, List.getElem_cons_zero, List.setIfInBounds_toArray, List.set_cons_zero, List.set_cons_succ]
        refine calm_two14 8 12 (by kernel_rfl) rfl rfl (fun K hK => ?_) (fun K hK => ?_)
        · go_simp
          refine (HLK.out w2 _ g2).mono ?_
          rintro e w3 (⟨rfl, L3⟩ | ⟨gm, cm', gl, cl', ms', ls', rfl, ho, hok', hlen', L3⟩)
          · have g3 : wr.grownBy w3 (some q) := grown_trans g2 (below_grown14 L3 _)
            have c3 : Cur w3 q ao n cap := c2.kept14 (L3.block q (by have := g2.size; omega))
            refine hK.out _ _ (HS.out w3 g3) (fun hS3 => ?_)
            clear hK K
            refine calm_more14 3 [9, 10, 11] (by kernel_rfl) (by kernel_rfl) (by kernel_rfl) hS3 ?_
            iterate 3
              refine ⟨_, rfl, ?_⟩
              apply Exists.intro
              refine ⟨Or.inl ⟨by rfl, fun w' hw' => ?_⟩, ?_⟩
              · first
                | (go_simp; done)
                | (go_simp; with_reducible rfl)
              simp only [Act.put, List.getElem_toArray, List.getElem_cons_succ, List.getElem_cons_zero, List.setIfInBounds_toArray, List.set_cons_zero, List.set_cons_succ]
            refine calm_one 12 (by kernel_rfl) rfl (fun K hK => ?_)
            go_simp
            refine hK.out _ _ (HS.out _ (grown_trans g3 (World.grownBy_alloc w3 _ (some q)))) (fun hS4 => ?_)
            clear hK K
            refine calm_one 13 (by kernel_rfl) rfl (fun K hK => ?_)
            go_simp
            have HGZ : Hid (wr.grownBy (w3.alloc (.cells #[.slice none 0 0, .slice none 0 0] 27)) (some q)) := grown_trans g3 (World.grownBy_alloc w3 _ (some q))
            have HCZ : Hid (Cur (w3.alloc (.cells #[.slice none 0 0, .slice none 0 0] 27)) q ao n cap) := c3.alloc _
            refine hK.out _ _ (HS.out _ HGZ.out) (fun hS5 => ?_)
            clear hK K
            refine calm_rest [14] rfl (by kernel_rfl) (by kernel_rfl) (by kernel_rfl) hS5 ?_
            iterate 1
              refine ⟨_, rfl, ?_⟩
              apply Exists.intro
              refine ⟨Or.inl ⟨by rfl, fun w' hw' => ?_⟩, ?_⟩
              · first
                | (go_simp; done)
                | (go_simp; with_reducible rfl)
              simp only [Act.put, List.getElem_toArray, List.getElem_cons_succ, List.getElem_cons_zero, List.setIfInBounds_toArray, List.set_cons_zero, List.set_cons_succ]
            refine NoPanic.normal (NoPanic.normal ?_)
            go_wp2_with fail
            go_roundw
            case rel => exact ⟨k + 1, am, cm, al, cl, ms, ls, by omega, by go_num, HOLD.out _ HGZ.out HCZ.out⟩
            case measure => simp [intOf]; omega
          · have g3 : wr.grownBy w3 (some q) := grown_trans g2 (below_grown14 L3 _)
            have c3 : Cur w3 q ao n cap := c2.kept14 (L3.block q (by have := g2.size; omega))
            refine hK.out _ _ (HS.out w3 g3) (fun hS3 => ?_)
            clear hK K
            have HOK' := hidP hok'
            have HLN' := hidP hlen'
            refine calm_more14 3 [9, 10, 11] (by kernel_rfl) (by kernel_rfl) (by kernel_rfl) hS3 ?_
            iterate 3
              refine ⟨_, rfl, ?_⟩
              apply Exists.intro
              refine ⟨Or.inl ⟨by rfl, fun w' hw' => ?_⟩, ?_⟩
              · first
                | (go_simp; done)
                | (go_simp; with_reducible rfl)
              simp only [Act.put, List.getElem_toArray, List.getElem_cons_succ, List.getElem_cons_zero, List.setIfInBounds_toArray, List.set_cons_zero, List.set_cons_succ]
            refine calm_one 12 (by kernel_rfl) rfl (fun K hK => ?_)
            go_simp
            refine hK.out _ _ (HS.out _ (grown_trans g3 (World.grownBy_alloc w3 _ (some q)))) (fun hS4 => ?_)
            clear hK K
            refine calm_one 13 (by kernel_rfl) rfl (fun K hK => ?_)
            go_simp
            have HGZ : Hid (wr.grownBy (w3.alloc (.cells #[.slice (some ⟨gm, 0, none⟩) ms'.length cm', .slice (some ⟨gl, 0, none⟩) ls'.length cl'] 27)) (some q)) := grown_trans g3 (World.grownBy_alloc w3 _ (some q))
            have HCZ : Hid (Cur (w3.alloc (.cells #[.slice (some ⟨gm, 0, none⟩) ms'.length cm', .slice (some ⟨gl, 0, none⟩) ls'.length cl'] 27)) q ao n cap) := c3.alloc _
            have HWO : Hid (WebOut wr.heap.size (w3.alloc (.cells #[.slice (some ⟨gm, 0, none⟩) ms'.length cm', .slice (some ⟨gl, 0, none⟩) ls'.length cl'] 27)) gm cm' gl cl' ms' ls') := by
              have h6 : WSt wr.heap.size w3 (some ⟨gm, 0, none⟩) cm' (some ⟨gl, 0, none⟩) cl' ms' ls' := WSt.mono (Or.inr ⟨gm, gl, rfl, rfl, ho⟩) g2.size
              have h7 := h6.same (w' := w3.alloc (.cells #[.slice (some ⟨gm, 0, none⟩) ms'.length cm', .slice (some ⟨gl, 0, none⟩) ls'.length cl'] 27)) (fun b hb hb2 => Below.heap_alloc _ _ _ hb2)
              rcases h7 with ⟨h7, -⟩ | ⟨gm2, gl2, e1, e2, h7⟩
              · cases h7
              · injection e1 with e1; injection e1 with e1; injection e2 with e2; injection e2 with e2
                subst e1 e2
                exact h7
            refine hK.out _ _ (HS.out _ HGZ.out) (fun hS5 => ?_)
            clear hK K
            refine calm_rest [14] rfl (by kernel_rfl) (by kernel_rfl) (by kernel_rfl) hS5 ?_
            iterate 1
              refine ⟨_, rfl, ?_⟩
              apply Exists.intro
              refine ⟨Or.inl ⟨by rfl, fun w' hw' => ?_⟩, ?_⟩
              · first
                | (go_simp; done)
                | (go_simp; with_reducible rfl)
              simp only [Act.put, List.getElem_toArray, List.getElem_cons_succ, List.getElem_cons_zero, List.setIfInBounds_toArray, List.set_cons_zero, List.set_cons_succ]
            refine NoPanic.normal (NoPanic.normal ?_)
            obtain ⟨t0, t1, -, -⟩ := HS.out _ HGZ.out
            obtain ⟨f0, f1⟩ := HAF.out _ HGZ.out
            go_wp2_with fail
            go_roundw
            case rel => exact ⟨k + 1, some ⟨gm, 0, none⟩, cm', some ⟨gl, 0, none⟩, cl', ms', ls', by omega, by go_num, HEND.out _ _ _ _ _ ms' ls' HGZ.out HCZ.out (Or.inr ⟨gm, gl, rfl, rfl, HWO.out⟩) HOK'.out HLN'.out⟩
            case measure => simp [intOf]; omega
        · go_simp
          obtain ⟨W2, hW2⟩ : ∃ W, w2.alloc (.cells #[.slice none 0 0, .slice none 0 0] 27) = W := ⟨_, rfl⟩
          have gW2 : wr.grownBy W2 (some q) := by rw [← hW2]; exact grown_trans g2 (World.grownBy_alloc w2 _ (some q))
          have cW2 : Cur W2 q ao n cap := by rw [← hW2]; exact c2.alloc _
          have hXt : Two W2 w2.heap.size (.slice none 0 0) (.slice none 0 0) 27 := by rw [← hW2]; exact Two.new w2 _ _ _
          have hXl : w2.heap.size < W2.heap.size := hXt.lt
          have hXr : wr.heap.size ≤ w2.heap.size := g2.size
          rw [hW2]
          clear hW2
          refine hK.out _ _ (HS.out _ gW2) (fun _ => ?_)
          clear hK K
          refine calm_one 8 (by kernel_rfl) rfl (fun K hK => ?_)
          go_simp
          refine (HLK.out W2 _ gW2).mono ?_
          rintro e w3 (⟨rfl, L3⟩ | ⟨gm, cm', gl, cl', ms', ls', rfl, ho, hok', hlen', L3⟩)
          · have g3 : wr.grownBy w3 (some q) := grown_trans gW2 (below_grown14 L3 _)
            have c3 : Cur w3 q ao n cap := cW2.kept14 (L3.block q (by have := gW2.size; omega))
            refine hK.out _ _ (HS.out w3 g3) (fun hS3 => ?_)
            clear hK K
            refine calm_more14 2 [9, 10, 11] (by kernel_rfl) (by kernel_rfl) (by kernel_rfl) hS3 ?_
            iterate 3
              refine ⟨_, rfl, ?_⟩
              apply Exists.intro
              refine ⟨Or.inl ⟨by rfl, fun w' hw' => ?_⟩, ?_⟩
              · first
                | (go_simp; done)
                | (go_simp; with_reducible rfl)
              simp only [Act.put, List.getElem_toArray, List.getElem_cons_succ, List.getElem_cons_zero, List.setIfInBounds_toArray, List.set_cons_zero, List.set_cons_succ]
            have x3 : Two w3 w2.heap.size (.slice none 0 0) (.slice none 0 0) 27 := (L3.block _ hXl).trans hXt
            have x0 := x3.c0
            have x1 := x3.c1
            have xf0 := x3.frozen 0
            have xf1 := x3.frozen 1
            refine calm_one 13 (by kernel_rfl) rfl (fun K hK => ?_)
            go_simp
            obtain ⟨wz, hwz⟩ : ∃ wz, (w3.setCell ⟨w2.heap.size, 0, none⟩ (.slice none 0 0)).setCell ⟨w2.heap.size, 1, none⟩ (.slice none 0 0) = wz := ⟨_, rfl⟩
            rw [hwz]
            have hzo : ∀ b, b ≠ w2.heap.size → wz.heap[b]? = w3.heap[b]? := fun b hb => by rw [← hwz, Below.heap_setCell _ ⟨w2.heap.size, 1, none⟩ _ b hb, Below.heap_setCell _ ⟨w2.heap.size, 0, none⟩ _ b hb]
            have HGZ : Hid (wr.grownBy wz (some q)) := ⟨by rw [← hwz]; exact g3.os, by rw [← hwz]; exact g3.tape, by rw [← hwz]; exact g3.output, by rw [← hwz, setCell_size, setCell_size]; exact g3.size, fun b hb hbq => (hzo b (by omega)).trans (g3.block b hb hbq)⟩
            have HCZ : Hid (Cur wz q ao n cap) := c3.kept14 (hzo q (by omega))
            have z3 : Two wz w2.heap.size (.slice none 0 0) (.slice none 0 0) 27 := by rw [← hwz]; exact (x3.set0 _).set1 _
            refine hK.out _ _ (HS.out _ HGZ.out) (fun hS5 => ?_)
            have zc0 := z3.c0
            have zc1 := z3.c1
            clear hK K hwz x0 x1 xf0 xf1 x3 z3
            refine calm_rest [14] rfl (by kernel_rfl) (by kernel_rfl) (by kernel_rfl) hS5 ?_
            iterate 1
              refine ⟨_, rfl, ?_⟩
              apply Exists.intro
              refine ⟨Or.inl ⟨by rfl, fun w' hw' => ?_⟩, ?_⟩
              · first
                | (go_simp; done)
                | (go_simp; with_reducible rfl)
              simp only [Act.put, List.getElem_toArray, List.getElem_cons_succ, List.getElem_cons_zero, List.setIfInBounds_toArray, List.set_cons_zero, List.set_cons_succ]
            refine NoPanic.normal (NoPanic.normal ?_)
            go_wp2_with fail
            go_roundw
            case rel => exact ⟨k + 1, am, cm, al, cl, ms, ls, by omega, by go_num, HOLD.out _ HGZ.out HCZ.out⟩
            case measure => simp [intOf]; omega
          · have g3 : wr.grownBy w3 (some q) := grown_trans gW2 (below_grown14 L3 _)
            have c3 : Cur w3 q ao n cap := cW2.kept14 (L3.block q (by have := gW2.size; omega))
            refine hK.out _ _ (HS.out w3 g3) (fun hS3 => ?_)
            clear hK K
            have HOK' := hidP hok'
            have HLN' := hidP hlen'
            refine calm_more14 2 [9, 10, 11] (by kernel_rfl) (by kernel_rfl) (by kernel_rfl) hS3 ?_
            iterate 3
              refine ⟨_, rfl, ?_⟩
              apply Exists.intro
              refine ⟨Or.inl ⟨by rfl, fun w' hw' => ?_⟩, ?_⟩
              · first
                | (go_simp; done)
                | (go_simp; with_reducible rfl)
              simp only [Act.put, List.getElem_toArray, List.getElem_cons_succ, List.getElem_cons_zero, List.setIfInBounds_toArray, List.set_cons_zero, List.set_cons_succ]
            have x3 : Two w3 w2.heap.size (.slice none 0 0) (.slice none 0 0) 27 := (L3.block _ hXl).trans hXt
            have x0 := x3.c0
            have x1 := x3.c1
            have xf0 := x3.frozen 0
            have xf1 := x3.frozen 1
            refine calm_one 13 (by kernel_rfl) rfl (fun K hK => ?_)
            go_simp
            obtain ⟨wz, hwz⟩ : ∃ wz, (w3.setCell ⟨w2.heap.size, 0, none⟩ (.slice (some ⟨gm, 0, none⟩) ms'.length cm')).setCell ⟨w2.heap.size, 1, none⟩ (.slice (some ⟨gl, 0, none⟩) ls'.length cl') = wz := ⟨_, rfl⟩
            rw [hwz]
            have hzo : ∀ b, b ≠ w2.heap.size → wz.heap[b]? = w3.heap[b]? := fun b hb => by rw [← hwz, Below.heap_setCell _ ⟨w2.heap.size, 1, none⟩ _ b hb, Below.heap_setCell _ ⟨w2.heap.size, 0, none⟩ _ b hb]
            have HGZ : Hid (wr.grownBy wz (some q)) := ⟨by rw [← hwz]; exact g3.os, by rw [← hwz]; exact g3.tape, by rw [← hwz]; exact g3.output, by rw [← hwz, setCell_size, setCell_size]; exact g3.size, fun b hb hbq => (hzo b (by omega)).trans (g3.block b hb hbq)⟩
            have HCZ : Hid (Cur wz q ao n cap) := c3.kept14 (hzo q (by omega))
            have z3 : Two wz w2.heap.size (.slice (some ⟨gm, 0, none⟩) ms'.length cm') (.slice (some ⟨gl, 0, none⟩) ls'.length cl') 27 := by rw [← hwz]; exact (x3.set0 _).set1 _
            have HWO : Hid (WebOut wr.heap.size wz gm cm' gl cl' ms' ls') := by
              have h6 : WSt W2.heap.size w3 (some ⟨gm, 0, none⟩) cm' (some ⟨gl, 0, none⟩) cl' ms' ls' := Or.inr ⟨gm, gl, rfl, rfl, ho⟩
              have h7 := (h6.same (w' := wz) (fun b hb hb2 => hzo b (by omega))).mono (show wr.heap.size ≤ W2.heap.size from gW2.size)
              rcases h7 with ⟨h7, -⟩ | ⟨gm2, gl2, e1, e2, h7⟩
              · cases h7
              · injection e1 with e1; injection e1 with e1; injection e2 with e2; injection e2 with e2
                subst e1 e2
                exact h7
            refine hK.out _ _ (HS.out _ HGZ.out) (fun hS5 => ?_)
            have zc0 := z3.c0
            have zc1 := z3.c1
            clear hK K hwz x0 x1 xf0 xf1 x3 z3
            refine calm_rest [14] rfl (by kernel_rfl) (by kernel_rfl) (by kernel_rfl) hS5 ?_
            iterate 1
              refine ⟨_, rfl, ?_⟩
              apply Exists.intro
              refine ⟨Or.inl ⟨by rfl, fun w' hw' => ?_⟩, ?_⟩
              · first
                | (go_simp; done)
                | (go_simp; with_reducible rfl)
              simp only [Act.put, List.getElem_toArray, List.getElem_cons_succ, List.getElem_cons_zero, List.setIfInBounds_toArray, List.set_cons_zero, List.set_cons_succ]
            refine NoPanic.normal (NoPanic.normal ?_)
            obtain ⟨t0, t1, -, -⟩ := HS.out _ HGZ.out
            obtain ⟨f0, f1⟩ := HAF.out _ HGZ.out
            go_wp2_with fail
            go_roundw
            case rel => exact ⟨k + 1, some ⟨gm, 0, none⟩, cm', some ⟨gl, 0, none⟩, cl', ms', ls', by omega, by go_num, HEND.out _ _ _ _ _ ms' ls' HGZ.out HCZ.out (Or.inr ⟨gm, gl, rfl, rfl, HWO.out⟩) HOK'.out HLN'.out⟩
            case measure => simp [intOf]; omega
      · go_simp
        obtain ⟨W1, hW1⟩ : ∃ W, (wr.alloc (.cells #[.slice none 0 0, .slice none 0 0] 27)).drew = W := ⟨_, rfl⟩
        have gW1 : wr.grownBy W1 (some q) := by rw [← hW1]; exact ⟨rfl, rfl, rfl, by simp, fun b hb _ => Below.heap_alloc _ _ _ hb⟩
        have cW1 : Cur W1 q ao n cap := by rw [← hW1]; exact (HCR.out.alloc _).drew
        have hXt1 : Two W1 wr.heap.size (.slice none 0 0) (.slice none 0 0) 27 := by rw [← hW1]; exact Two.new wr _ _ _
        have hXl1 : wr.heap.size < W1.heap.size := hXt1.lt
        have hXr : wr.heap.size ≤ wr.heap.size := Nat.le_refl _
        rw [hW1]
        clear hW1
        refine hK.out _ _ (HS.out _ gW1) (fun _ => ?_)
        clear hK K
        refine calm_one 6 (by kernel_rfl) rfl (fun K hK => ?_)
        go_simp
        refine (HB.out _ cW1 (HVR.out W1 gW1)).mono ?_
        rintro e w2 ⟨⟨y, y0, y1, rfl⟩, c2, g2'⟩
        have g2 : wr.grownBy w2 (some q) := grown_trans gW1 g2'
        have hx : IntKind.i64.wrap (1 + y) = 1 + y := by rw [IntWalk.i64_in _ ⟨by omega, by omega⟩]
        refine hK.out _ _ (HS.out w2 g2) (fun hS2 => ?_)
        clear hK K
        refine calm_more14 6 [7] (by kernel_rfl) (by kernel_rfl) (by kernel_rfl) hS2 ?_
        iterate 1
          refine ⟨_, rfl, ?_⟩
          apply Exists.intro
          refine ⟨Or.inl ⟨by rfl, fun w' hw' => ?_⟩, ?_⟩
          · first
            | (go_simp; done)
            | (go_simp; with_reducible rfl)
          simp only [Act.put, List.getElem_toArray, List.getElem_cons_succ, List.getElem_cons_zero, List.setIfInBounds_toArray, List.set_cons_zero, List.set_cons_succ]
        have hXt : Two w2 wr.heap.size (.slice none 0 0) (.slice none 0 0) 27 := (g2'.block _ hXl1 (by simp; omega)).trans hXt1
        have hXl : wr.heap.size < w2.heap.size := hXt.lt
        refine calm_one 8 (by kernel_rfl) rfl (fun K hK => ?_)
        go_simp
        refine (HLK.out w2 _ g2).mono ?_
        rintro e w3 (⟨rfl, L3⟩ | ⟨gm, cm', gl, cl', ms', ls', rfl, ho, hok', hlen', L3⟩)
        · have g3 : wr.grownBy w3 (some q) := grown_trans g2 (below_grown14 L3 _)
          have c3 : Cur w3 q ao n cap := c2.kept14 (L3.block q (by have := g2.size; omega))
          refine hK.out _ _ (HS.out w3 g3) (fun hS3 => ?_)
          clear hK K
          refine calm_more14 2 [9, 10, 11] (by kernel_rfl) (by kernel_rfl) (by kernel_rfl) hS3 ?_
          iterate 3
            refine ⟨_, rfl, ?_⟩
            apply Exists.intro
            refine ⟨Or.inl ⟨by rfl, fun w' hw' => ?_⟩, ?_⟩
            · first
              | (go_simp; done)
              | (go_simp; with_reducible rfl)
            simp only [Act.put, List.getElem_toArray, List.getElem_cons_succ, List.getElem_cons_zero, List.setIfInBounds_toArray, List.set_cons_zero, List.set_cons_succ]
          have x3 : Two w3 wr.heap.size (.slice none 0 0) (.slice none 0 0) 27 := (L3.block _ hXl).trans hXt
          have x0 := x3.c0
          have x1 := x3.c1
          have xf0 := x3.frozen 0
          have xf1 := x3.frozen 1
          refine calm_one 13 (by kernel_rfl) rfl (fun K hK => ?_)
          go_simp
          obtain ⟨wz, hwz⟩ : ∃ wz, (w3.setCell ⟨wr.heap.size, 0, none⟩ (.slice none 0 0)).setCell ⟨wr.heap.size, 1, none⟩ (.slice none 0 0) = wz := ⟨_, rfl⟩
          rw [hwz]
          have hzo : ∀ b, b ≠ wr.heap.size → wz.heap[b]? = w3.heap[b]? := fun b hb => by rw [← hwz, Below.heap_setCell _ ⟨wr.heap.size, 1, none⟩ _ b hb, Below.heap_setCell _ ⟨wr.heap.size, 0, none⟩ _ b hb]
          have HGZ : Hid (wr.grownBy wz (some q)) := ⟨by rw [← hwz]; exact g3.os, by rw [← hwz]; exact g3.tape, by rw [← hwz]; exact g3.output, by rw [← hwz, setCell_size, setCell_size]; exact g3.size, fun b hb hbq => (hzo b (by omega)).trans (g3.block b hb hbq)⟩
          have HCZ : Hid (Cur wz q ao n cap) := c3.kept14 (hzo q (by omega))
          have z3 : Two wz wr.heap.size (.slice none 0 0) (.slice none 0 0) 27 := by rw [← hwz]; exact (x3.set0 _).set1 _
          refine hK.out _ _ (HS.out _ HGZ.out) (fun hS5 => ?_)
          have zc0 := z3.c0
          have zc1 := z3.c1
          clear hK K hwz x0 x1 xf0 xf1 x3 z3
          refine calm_rest [14] rfl (by kernel_rfl) (by kernel_rfl) (by kernel_rfl) hS5 ?_
          iterate 1
            refine ⟨_, rfl, ?_⟩
            apply Exists.intro
            refine ⟨Or.inl ⟨by rfl, fun w' hw' => ?_⟩, ?_⟩
            · first
              | (go_simp; done)
              | (go_simp; with_reducible rfl)
            simp only [Act.put, List.getElem_toArray, List.getElem_cons_succ, List.getElem_cons_zero, List.setIfInBounds_toArray, List.set_cons_zero, List.set_cons_succ]
          refine NoPanic.normal (NoPanic.normal ?_)
          go_wp2_with fail
          go_roundw
          case rel => exact ⟨k + 1, am, cm, al, cl, ms, ls, by omega, by go_num, HOLD.out _ HGZ.out HCZ.out⟩
          case measure => simp [intOf]; omega
        · have g3 : wr.grownBy w3 (some q) := grown_trans g2 (below_grown14 L3 _)
          have c3 : Cur w3 q ao n cap := c2.kept14 (L3.block q (by have := g2.size; omega))
          refine hK.out _ _ (HS.out w3 g3) (fun hS3 => ?_)
          clear hK K
          have HOK' := hidP hok'
          have HLN' := hidP hlen'
          refine calm_more14 2 [9, 10, 11] (by kernel_rfl) (by kernel_rfl) (by kernel_rfl) hS3 ?_
          iterate 3
            refine ⟨_, rfl, ?_⟩
            apply Exists.intro
            refine ⟨Or.inl ⟨by rfl, fun w' hw' => ?_⟩, ?_⟩
            · first
              | (go_simp; done)
              | (go_simp; with_reducible rfl)
            simp only [Act.put, List.getElem_toArray, List.getElem_cons_succ, List.getElem_cons_zero, List.setIfInBounds_toArray, List.set_cons_zero, List.set_cons_succ]
          have x3 : Two w3 wr.heap.size (.slice none 0 0) (.slice none 0 0) 27 := (L3.block _ hXl).trans hXt
          have x0 := x3.c0
          have x1 := x3.c1
          have xf0 := x3.frozen 0
          have xf1 := x3.frozen 1
          refine calm_one 13 (by kernel_rfl) rfl (fun K hK => ?_)
          go_simp
          obtain ⟨wz, hwz⟩ : ∃ wz, (w3.setCell ⟨wr.heap.size, 0, none⟩ (.slice (some ⟨gm, 0, none⟩) ms'.length cm')).setCell ⟨wr.heap.size, 1, none⟩ (.slice (some ⟨gl, 0, none⟩) ls'.length cl') = wz := ⟨_, rfl⟩
          rw [hwz]
          have hzo : ∀ b, b ≠ wr.heap.size → wz.heap[b]? = w3.heap[b]? := fun b hb => by rw [← hwz, Below.heap_setCell _ ⟨wr.heap.size, 1, none⟩ _ b hb, Below.heap_setCell _ ⟨wr.heap.size, 0, none⟩ _ b hb]
          have HGZ : Hid (wr.grownBy wz (some q)) := ⟨by rw [← hwz]; exact g3.os, by rw [← hwz]; exact g3.tape, by rw [← hwz]; exact g3.output, by rw [← hwz, setCell_size, setCell_size]; exact g3.size, fun b hb hbq => (hzo b (by omega)).trans (g3.block b hb hbq)⟩
          have HCZ : Hid (Cur wz q ao n cap) := c3.kept14 (hzo q (by omega))
          have z3 : Two wz wr.heap.size (.slice (some ⟨gm, 0, none⟩) ms'.length cm') (.slice (some ⟨gl, 0, none⟩) ls'.length cl') 27 := by rw [← hwz]; exact (x3.set0 _).set1 _
          have HWO : Hid (WebOut wr.heap.size wz gm cm' gl cl' ms' ls') := by
            have h6 : WSt w2.heap.size w3 (some ⟨gm, 0, none⟩) cm' (some ⟨gl, 0, none⟩) cl' ms' ls' := Or.inr ⟨gm, gl, rfl, rfl, ho⟩
            have h7 := (h6.same (w' := wz) (fun b hb hb2 => hzo b (by omega))).mono (show wr.heap.size ≤ w2.heap.size from g2.size)
            rcases h7 with ⟨h7, -⟩ | ⟨gm2, gl2, e1, e2, h7⟩
            · cases h7
            · injection e1 with e1; injection e1 with e1; injection e2 with e2; injection e2 with e2
              subst e1 e2
              exact h7
          refine hK.out _ _ (HS.out _ HGZ.out) (fun hS5 => ?_)
          have zc0 := z3.c0
          have zc1 := z3.c1
          clear hK K hwz x0 x1 xf0 xf1 x3 z3
          refine calm_rest [14] rfl (by kernel_rfl) (by kernel_rfl) (by kernel_rfl) hS5 ?_
          iterate 1
            refine ⟨_, rfl, ?_⟩
            apply Exists.intro
            refine ⟨Or.inl ⟨by rfl, fun w' hw' => ?_⟩, ?_⟩
            · first
              | (go_simp; done)
              | (go_simp; with_reducible rfl)
            simp only [Act.put, List.getElem_toArray, List.getElem_cons_succ, List.getElem_cons_zero, List.setIfInBounds_toArray, List.set_cons_zero, List.set_cons_succ]
          refine NoPanic.normal (NoPanic.normal ?_)
          obtain ⟨t0, t1, -, -⟩ := HS.out _ HGZ.out
          obtain ⟨f0, f1⟩ := HAF.out _ HGZ.out
          go_wp2_with fail
          go_roundw
          case rel => exact ⟨k + 1, some ⟨gm, 0, none⟩, cm', some ⟨gl, 0, none⟩, cl', ms', ls', by omega, by go_num, HEND.out _ _ _ _ _ ms' ls' HGZ.out HCZ.out (Or.inr ⟨gm, gl, rfl, rfl, HWO.out⟩) HOK'.out HLN'.out⟩
          case measure => simp [intOf]; omega
    · obtain rfl : k = ds.length := by omega
      have a0 := hdw.a0.c0
      have a1 := hdw.a0.c1
      have r0 := hdw.r0.c0
      have r1 := hdw.r0.c1
      have f0 := hdw.r0.frozen 0
      have f1 := hdw.r0.frozen 1
      have HDW := hidP hdw
      clear hdw
      go_wp2_with fail
      obtain ⟨wy, hwy⟩ : ∃ wy, (wr.setCell ⟨w.heap.size, 0, none⟩ (.slice am ms.length cm)).setCell ⟨w.heap.size, 1, none⟩ (.slice al ls.length cl) = wy := ⟨_, rfl⟩
      rw [hwy]
      have hoth : ∀ b, b ≠ w.heap.size → wy.heap[b]? = wr.heap[b]? := fun b hb => by
        rw [← hwy, Below.heap_setCell _ ⟨w.heap.size, 1, none⟩ _ b hb, Below.heap_setCell _ ⟨w.heap.size, 0, none⟩ _ b hb]
      have hR : Two wy w.heap.size (.slice am ms.length cm) (.slice al ls.length cl) 27 := by rw [← hwy]; exact (HDW.out.r0.set0 _).set1 _
      have y0 := hR.c0
      have y1 := hR.c1
      have hgz := HDW.out.gr
      have HFIN : Hid (WSt w.heap.size wy am cm al cl ms ls ∧ webB ms ls = true ∧ ms.length ≤ 9 ∧ Cur wy q ao n cap ∧ w.grownBy wy (some q)) := by
        refine ⟨(HDW.out.web.same (fun b hb _ => hoth b (by omega))).mono (by omega), HDW.out.ok, by have := HDW.out.len; omega, HDW.out.cur.kept14 (hoth q (by omega)), ⟨by rw [← hwy]; exact hgz.os, by rw [← hwy]; exact hgz.tape, by rw [← hwy]; exact hgz.output, by rw [← hwy, setCell_size, setCell_size]; exact hgz.size, fun b hb hbq => (hoth b (by omega)).trans (hgz.block b hb hbq)⟩⟩
      clear hwy hoth hR hgz
      refine bodyPost_ret (v := .agg #[.slice am ms.length cm, .slice al ls.length cl]) (by simp [results, Tryz.results153, go_sem, y0, y1]) rfl ?_
      exact ⟨⟨am, cm, al, cl, ms, ls, rfl, HFIN.out.1, HFIN.out.2.1, HFIN.out.2.2.1⟩, HFIN.out.2.2.2⟩
end Go.Proofs.YtfbhohpbhjlihaaGreat
namespace Go.Proofs.YtfbhohpbhjlihaaGreat
open Go Go.RowKit

/-- A web of whatever kind, in blocks from base on. -/
structure WAny (base : Nat) (w : World) (gm cm gl cl : Nat) (ms : List Mk) (ls : List (List Int)) : Prop where
  mh : MHigh base w gm ms ms.length
  lm : ∃ rs, LMem base w gl cl rs ∧ nums rs = ls
  mc : ms.length ≤ cm
  lc : ls.length ≤ cl
  n9 : ms.length ≤ 9
  l9 : ls.length ≤ 9
  at5 : ∀ i, (mat ms i).length ≤ 5
  cn61 : ∀ i, (cn ls i).length ≤ 61
def WA (base : Nat) (w : World) (am : Option Addr) (cm : Nat) (al : Option Addr) (cl : Nat) (ms : List Mk) (ls : List (List Int)) : Prop :=
  (am = none ∧ cm = 0 ∧ al = none ∧ cl = 0 ∧ ms = [] ∧ ls = []) ∨ ∃ gm gl, am = some ⟨gm, 0, none⟩ ∧ al = some ⟨gl, 0, none⟩ ∧ WAny base w gm cm gl cl ms ls
theorem WAny.kept {base : Nat} {w w' : World} {gm cm gl cl : Nat} {ms : List Mk} {ls : List (List Int)} {r : Option Nat} (h : WAny base w gm cm gl cl ms ls) (hg : w.grownBy w' r) (hr : ∀ k, r = some k → k < base) : WAny base w' gm cm gl cl ms ls := by
  obtain ⟨rs, h1, h2⟩ := h.lm
  exact ⟨h.mh.kept hg hr, ⟨rs, h1.kept hg (fun e => by have := hr _ e.symm; have := h1.row.lt; omega) (fun x hx e => by have := hr _ e.symm; have := (h1.rows x hx).lt; omega), h2⟩, h.mc, h.lc, h.n9, h.l9, h.at5, h.cn61⟩
theorem WA.kept {base : Nat} {w w' : World} {am al : Option Addr} {cm cl : Nat} {ms : List Mk} {ls : List (List Int)} {r : Option Nat} (h : WA base w am cm al cl ms ls) (hg : w.grownBy w' r) (hr : ∀ k, r = some k → k < base) : WA base w' am cm al cl ms ls := by
  rcases h with h | ⟨gm, gl, e1, e2, h⟩
  · exact Or.inl h
  · exact Or.inr ⟨gm, gl, e1, e2, h.kept hg hr⟩
theorem WAny.mono {base base' : Nat} {w : World} {gm cm gl cl : Nat} {ms : List Mk} {ls : List (List Int)} (h : WAny base w gm cm gl cl ms ls) (hb : base' ≤ base) : WAny base' w gm cm gl cl ms ls := by
  obtain ⟨rs, h1, h2⟩ := h.lm
  obtain ⟨m1, m2, m3, m4⟩ := h.mh
  exact ⟨⟨Nat.le_trans hb m1, m2, m3, fun i hi hs => by
    obtain ⟨b, cap, e, q1, q2⟩ := m4 i hi hs
    exact ⟨b, cap, e, Nat.le_trans hb q1, q2⟩⟩, ⟨rs, h1.mono hb, h2⟩, h.mc, h.lc, h.n9, h.l9, h.at5, h.cn61⟩
theorem WA.mono {base base' : Nat} {w : World} {am al : Option Addr} {cm cl : Nat} {ms : List Mk} {ls : List (List Int)} (h : WA base w am cm al cl ms ls) (hb : base' ≤ base) : WA base' w am cm al cl ms ls := by
  rcases h with h | ⟨gm, gl, e1, e2, h⟩
  · exact Or.inl h
  · exact Or.inr ⟨gm, gl, e1, e2, h.mono hb⟩
theorem WA.views {base : Nat} {w : World} {am al : Option Addr} {cm cl : Nat} {ms : List Mk} {ls : List (List Int)} (h : WA base w am cm al cl ms ls) : MView w am ms ∧ CView w al ls := by
  rcases h with ⟨-, -, -, -, rfl, rfl⟩ | ⟨gm, gl, rfl, rfl, h⟩
  · exact ⟨Or.inl rfl, Or.inl rfl⟩
  · obtain ⟨rs, h1, rfl⟩ := h.lm
    exact ⟨h.mh.view (Nat.le_refl _), h1.view.cview⟩
theorem WA.small {base : Nat} {w : World} {am al : Option Addr} {cm cl : Nat} {ms : List Mk} {ls : List (List Int)} (h : WA base w am cm al cl ms ls) : MSmall ms ∧ CSmall ls ∧ ms.length ≤ cm ∧ ls.length ≤ cl ∧ ms.length ≤ 9 ∧ ls.length ≤ 9 ∧ (∀ i, (mat ms i).length ≤ 5) ∧ ∀ i, (cn ls i).length ≤ 61 := by
  rcases h with ⟨-, rfl, -, rfl, rfl, rfl⟩ | ⟨gm, gl, rfl, rfl, h⟩
  · refine ⟨⟨by simp, fun i => by simp [mat]⟩, ⟨by simp, fun i => by simp [cn]⟩, by simp, by simp, by simp, by simp, fun i => by simp [mat], fun i => by simp [cn]⟩
  · exact ⟨⟨by have := h.n9; omega, fun i => by have := h.at5 i; omega⟩, ⟨by have := h.l9; omega, fun i => by have := h.cn61 i; omega⟩, h.mc, h.lc, h.n9, h.l9, h.at5, h.cn61⟩
theorem mat_short {ms : List Mk} (h : marksB ms = true) (i : Nat) : (mat ms i).length ≤ 4 := by
  rcases Nat.lt_or_ge i ms.length with hi | hi
  · exact (okB_len ((mOkAt_iff _ _).1 (marksB_at h hi)).2.2.1).2
  · simp [mat, List.getD, hi]
theorem cn_short {ms : List Mk} {ls : List (List Int)} (h : webB ms ls = true) (i : Nat) : (cn ls i).length ≤ 60 := by
  have h60 := marksB_len (web_marks h)
  rcases Nat.lt_or_ge i ms.length with hi | hi
  · have := links_short h hi; omega
  · have := web_len h
    simp [cn, List.getD, this, hi]
/-- A drawn web is one of whatever kind. -/
theorem WebOut.any {base : Nat} {w : World} {gm cm gl cl : Nat} {ms : List Mk} {ls : List (List Int)} (h : WebOut base w gm cm gl cl ms ls) (hw : webB ms ls = true) (h9 : ms.length ≤ 9) : WAny base w gm cm gl cl ms ls := by
  obtain ⟨B, ds, B', rs, hb, hb', h1, h2, h3, h4, -⟩ := h
  have hcap := h1.cap
  have hlen : ds.length = ms.length := by rw [← h2, dMarks_length]
  have hrl : rs.length = ls.length := by rw [← h4, nums_length]
  obtain ⟨m1, m2, m3, m4⟩ := h1.high (dMarks ds).length
  refine ⟨?_, ⟨rs, h3.mono hb', h4⟩, by omega, ?_, h9, by have := web_len hw; omega, fun i => by have := mat_short (web_marks hw) i; omega, fun i => by have := cn_short hw i; omega⟩
  · rw [← h2]
    exact ⟨Nat.le_trans hb m1, m2, m3, fun i hi hs => by
      obtain ⟨b, cap, e, q1, q2⟩ := m4 i hi hs
      exact ⟨b, cap, e, Nat.le_trans hb q1, q2⟩⟩
  · rw [← hrl]
    obtain ⟨hx, h5⟩ := h3.row
    rcases h5 with ⟨e, _⟩ | ⟨g', cp, cur, e, _, _, hnc, _⟩
    · cases e
    · injection e with e1 e2 e3; omega
theorem nums_at14 {rs : List Rw} {i : Nat} (hi : i < rs.length) : cn (nums rs) i = rs[i].2.2 := by simp [cn, nums, List.getD, hi]
theorem own_type {base e size m n c g : Nat} {w : World} {xs : List Value} (h : w.ownsRow base e size (.slice (some ⟨g, 0, none⟩) m c) n xs) : ∃ cur, w.heap[g]? = some (.cells cur e (0, 0)) := by
  obtain ⟨-, h2⟩ := h
  rcases h2 with ⟨e1, -⟩ | ⟨g', cp, cur, e1, -, hg, -⟩
  · cases e1
  · injection e1 with e1; injection e1 with e1; injection e1 with e1
    subst e1
    exact ⟨cur, hg⟩
theorem two_ne {w : World} {A g t e : Nat} {u v : Value} (h : Two w A u v t) (hg : ∃ cur, w.heap[g]? = some (.cells cur e (0, 0))) (hne : e ≠ t) : A ≠ g := by
  intro e1
  subst e1
  obtain ⟨cur, hg⟩ := hg
  unfold Two at h
  rw [h] at hg
  injection hg with hg
  injection hg with _ hg
  exact hne hg.symm
theorem own_next14 {base e size n : Nat} {w w' : World} {v : Value} {xs : List Value} (h : w.ownsRow base e size v n xs) (hb : Below w.heap.size w w') : w'.ownsRow base e size v n xs := by
  obtain ⟨h1, h2⟩ := h
  refine ⟨h1, ?_⟩
  rcases h2 with h2 | ⟨g, cp, cur, e1, hb1, hg, h5⟩
  · exact Or.inl h2
  · exact Or.inr ⟨g, cp, cur, e1, hb1, (hb.block g (Array.getElem?_eq_some_iff.1 hg).1).trans hg, h5⟩
theorem ownsRow_mono14 {base base' e size n : Nat} {w : World} {v : Value} {xs : List Value} (h : w.ownsRow base e size v n xs) (hb : base' ≤ base) : w.ownsRow base' e size v n xs := by
  obtain ⟨h1, h2⟩ := h
  refine ⟨h1, ?_⟩
  rcases h2 with h2 | ⟨g, cp, cur, e1, hb1, h5⟩
  · exact Or.inl h2
  · exact Or.inr ⟨g, cp, cur, e1, Nat.le_trans hb hb1, h5⟩
/-- Marks stay where their own blocks do. -/
theorem MHigh.blocks {base : Nat} {w w' : World} {g skip : Nat} {ms : List Mk} (h : MHigh base w g ms skip) (hs : w.heap.size ≤ w'.heap.size) (e0 : w'.heap[g]? = w.heap[g]?) (e : ∀ i, i < ms.length → ∀ b cp, w.cell? ⟨g, i * 2 + 1, none⟩ = some (.slice (some ⟨b, 0, none⟩) (mat ms i).length cp) → base ≤ b → b < w.heap.size → w'.heap[b]? = w.heap[b]?) : MHigh base w' g ms skip := by
  obtain ⟨h1, h2, h3, h4⟩ := h
  have ec : ∀ o, w'.cell? ⟨g, o, none⟩ = w.cell? ⟨g, o, none⟩ := fun o => World.cell?_of_block e0
  refine ⟨h1, Nat.lt_of_lt_of_le h2 hs, fun i hi => ?_, fun i hi his => ?_⟩
  · rw [ec, ec]; exact h3 i hi
  · obtain ⟨b, cap, q1, q2, q3, q4, q5⟩ := h4 i hi his
    refine ⟨b, cap, by rw [ec]; exact q1, q2, Nat.lt_of_lt_of_le q3 hs, q4, fun j hj => ?_⟩
    exact (World.cell?_of_block (e i hi b cap q1 q2 q3)).trans (q5 j hj)
/-- What is handed back at the end. -/
theorem wa_end {w wf : World} {q n cap : Nat} {ao am al : Option Addr} {cm cl : Nat} {ms : List Mk} {ls : List (List Int)} (hq : q < w.heap.size) (hR : Two wf w.heap.size (.slice none 0 0) (.slice none 0 0) 27) (hc : Cur wf q ao n cap) (hg : w.grownBy wf (some q)) (hA : WA (w.heap.size + 1) wf am cm al cl ms ls) {wy : World} (hwy : wy = (wf.setCell ⟨w.heap.size, 0, none⟩ (.slice am ms.length cm)).setCell ⟨w.heap.size, 1, none⟩ (.slice al ls.length cl)) :
    WA w.heap.size wy am cm al cl ms ls ∧ Cur wy q ao n cap ∧ w.grownBy wy (some q) ∧ wy.cell? ⟨w.heap.size, 0, none⟩ = some (.slice am ms.length cm) ∧ wy.cell? ⟨w.heap.size, 1, none⟩ = some (.slice al ls.length cl) := by
  have hoth : ∀ b, b ≠ w.heap.size → wy.heap[b]? = wf.heap[b]? := fun b hb => by
    rw [hwy, Below.heap_setCell _ ⟨w.heap.size, 1, none⟩ _ b hb, Below.heap_setCell _ ⟨w.heap.size, 0, none⟩ _ b hb]
  have hT : Two wy w.heap.size (.slice am ms.length cm) (.slice al ls.length cl) 27 := by rw [hwy]; exact (hR.set0 _).set1 _
  have hg2 : wf.grownBy wy (some w.heap.size) := by rw [hwy]; exact grown_trans (grown_setCell wf w.heap.size 0 _) (grown_setCell _ w.heap.size 1 _)
  refine ⟨(hA.kept hg2 (fun k hk => by injection hk with hk; omega)).mono (by omega), hc.kept14 (hoth q (by omega)), ⟨by rw [hwy]; exact hg.os, by rw [hwy]; exact hg.tape, by rw [hwy]; exact hg.output, by rw [hwy, setCell_size, setCell_size]; exact hg.size, fun b hb hbq => (hoth b (by omega)).trans (hg.block b hb hbq)⟩, hT.c0, hT.c1⟩

set_option maxRecDepth 100000 in
set_option maxHeartbeats 8000000 in
theorem cWebAny (q : Nat) (ao : Option Addr) (n cap : Nat) (w : World) (hc : Cur w q ao n cap) (hv : CodeV w ao n) (hn : n ≤ 4096) :
    Calls Tryz.prog 79 #[.pointer (some ⟨q, 0, none⟩)] w fun e w' => (∃ am cm al cl ms ls, e = .returned (.agg #[.slice am ms.length cm, .slice al ls.length cl]) ∧ WA w.heap.size w' am cm al cl ms ls) ∧ Cur w' q ao n cap ∧ w.grownBy w' (some q) := by
  have hq := hc.lt
  obtain ⟨W, hW⟩ : ∃ W, w.alloc (.cells #[.slice none 0 0, .slice none 0 0] 27) = W := ⟨_, rfl⟩
  have hWs : W.heap.size = w.heap.size + 1 := by rw [← hW]; simp
  have gW : w.grownBy W (some q) := by rw [← hW]; exact World.grownBy_alloc w _ (some q)
  have cW : Cur W q ao n cap := by rw [← hW]; exact hc.alloc _
  have tR : Two W w.heap.size (.slice none 0 0) (.slice none 0 0) 27 := by rw [← hW]; exact Two.new w _ _ _
  have HCW := hidP (cWeb q ao n cap W cW (hv.grown hc gW) hn)
  have HV0 : Hid (∀ wr, w.grownBy wr (some q) → CodeV wr ao n) := fun wr hg => hv.grown hc hg
  have HWW := hidP hW
  have HST := hidP (And.intro gW tR)
  clear hW gW cW tR hv hc
  go_enter Tryz.func79, Tryz.ntmps79
  go_wp2_with fail
  rw [HWW.out]
  refine HCW.out.mono ?_
  rintro e w1 ⟨⟨am, cm, al, cl, ms, ls, rfl, hst, hok, h9⟩, c1, g1⟩
  have hs1 := g1.size
  obtain ⟨A, hA⟩ : ∃ A, A = w1.heap.size := ⟨_, rfl⟩
  obtain ⟨W2, hW2⟩ : ∃ W, w1.alloc (.cells #[.slice am ms.length cm, .slice al ls.length cl] 27) = W := ⟨_, rfl⟩
  have g12 : w1.grownBy W2 (some q) := by rw [← hW2]; exact World.grownBy_alloc w1 _ (some q)
  have g02 := grown_trans HST.out.1 (grown_trans g1 g12)
  have c2 : Cur W2 q ao n cap := by rw [← hW2]; exact c1.alloc _
  have tA : Two W2 A (.slice am ms.length cm) (.slice al ls.length cl) 27 := by rw [← hW2, hA]; exact Two.new w1 _ _ _
  have tR2 : Two W2 w.heap.size (.slice none 0 0) (.slice none 0 0) 27 := (g12.block _ (by omega) (by simp; omega)).trans ((g1.block _ (by omega) (by simp; omega)).trans HST.out.2)
  have hR1 : Two w1 w.heap.size (.slice none 0 0) (.slice none 0 0) 27 := (g1.block _ (by omega) (by simp; omega)).trans HST.out.2
  have hst2 : WSt (w.heap.size + 1) W2 am cm al cl ms ls := by rw [← hWs]; exact hst.same (fun b _ hb => by rw [← hW2]; exact Below.heap_alloc _ _ _ hb)
  have hAl : A < W2.heap.size := tA.lt
  have hAr : w.heap.size + 1 ≤ A := by omega
  have a0 := tA.c0
  have a1 := tA.c1
  have HFX : Hid (∀ wz, W2.grownBy wz (some q) → Two wz w.heap.size (.slice none 0 0) (.slice none 0 0) 27 ∧ w.grownBy wz (some q) ∧ CodeV wz ao n ∧ Two wz A (.slice am ms.length cm) (.slice al ls.length cl) 27 ∧ WSt (w.heap.size + 1) wz am cm al cl ms ls) := fun wz hg =>
    ⟨(hg.block _ (by have := g02.size; omega) (by simp; omega)).trans tR2, grown_trans g02 hg, HV0.out wz (grown_trans g02 hg), (hg.block _ hAl (by simp; omega)).trans tA, hst2.same (fun b hb hb2 => hg.block b hb2 (by simp; omega))⟩
  have HW2 := hidP hW2
  have HW1 : Hid (WSt (w.heap.size + 1) w1 am cm al cl ms ls ∧ Cur w1 q ao n cap ∧ w.grownBy w1 (some q)) := ⟨by rw [← hWs]; exact hst, c1, grown_trans HST.out.1 g1⟩
  have HOK := hidP hok
  have HC2 := hidP c2
  have HNL : Hid (ls.length = ms.length) := web_len hok
  have hl9 : ls.length ≤ 9 := by have := web_len hok; omega
  clear hst hok c1 g1 g12 g02 tA tR2 hst2 HCW HST HWW hW2 a0 a1 c2
  obtain ⟨hR2, -, -, hT2, hS2⟩ := HFX.out W2 (grown_refl _ _)
  have a0 := hT2.c0
  have a1 := hT2.c1
  by_cases hl0 : ls.length = 0
  · have hgt : ¬ ((ls.length : Int) > 0) := by omega
    obtain ⟨hst1, cc1, gg1⟩ := HW1.out
    have HWA : Hid (WA (w.heap.size + 1) w1 am cm al cl ms ls) := by
      rcases hst1 with h | ⟨gm, gl, e1, e2, h⟩
      · exact Or.inl h
      · exact Or.inr ⟨gm, gl, e1, e2, h.any HOK.out h9⟩
    have HC := hidP (And.intro cc1 gg1)
    have HR := hidP hR1
    have r0 := hR1.c0
    have r1 := hR1.c1
    have f0 := hR1.frozen 0
    have f1 := hR1.frozen 1
    have hRl := hR1.lt
    clear hS2 hT2 hl0 hR2 hR1 a0 a1 hst1 cc1 gg1
    go_wp2_with fail
    obtain ⟨wy, hwy⟩ : ∃ wy, wy = (w1.setCell ⟨w.heap.size, 0, none⟩ (.slice am ms.length cm)).setCell ⟨w.heap.size, 1, none⟩ (.slice al ls.length cl) := ⟨_, rfl⟩
    rw [← hwy]
    obtain ⟨u1, u2, u3, y0, y1⟩ := wa_end hq HR.out HC.out.1 HC.out.2 HWA.out hwy
    have hys : wy.heap.size = w1.heap.size := by rw [hwy, setCell_size, setCell_size]
    obtain ⟨wx, hwx⟩ : ∃ wx, wy.alloc (.cells #[.slice am ms.length cm, .slice al ls.length cl] 27) = wx := ⟨_, rfl⟩
    have LX : Below wy.heap.size wy wx := by rw [← hwx]; exact (Below.refl _ _).alloc (Nat.le_refl _) _
    rw [hwx]
    have z0 := (LX.cell (p := ⟨w.heap.size, 0, none⟩) (by show w.heap.size < _; omega)).trans y0
    have z1 := (LX.cell (p := ⟨w.heap.size, 1, none⟩) (by show w.heap.size < _; omega)).trans y1
    have HFIN := hidP (And.intro (u1.kept (below_grown14 LX none) (fun k hk => by cases hk)) (And.intro (u2.kept14 (LX.block q (by omega))) (grown_trans u3 (below_grown14 LX (some q)))))
    clear hwy u1 u2 u3 hwx LX y0 y1
    refine bodyPost_ret (v := .agg #[.slice am ms.length cm, .slice al ls.length cl]) (by simp [results, Tryz.results79, go_sem, z0, z1]) rfl ?_
    exact ⟨⟨_, _, _, _, ms, ls, rfl, HFIN.out.1⟩, HFIN.out.2⟩
  have hgt : (ls.length : Int) > 0 := by omega
  go_wp2_with fail
  rw [HW2.out, ← hA]
  clear hA HW2 hR1 HW1
  obtain ⟨gm, gl, rfl, rfl, hwo⟩ : ∃ gm gl, am = some ⟨gm, 0, none⟩ ∧ al = some ⟨gl, 0, none⟩ ∧ WebOut (w.heap.size + 1) W2 gm cm gl cl ms ls := by
    rcases hS2 with ⟨-, -, -, -, -, h⟩ | h
    · rw [h] at hl0; simp at hl0
    · exact h
  have HON := hidP (cOnce q ao n cap 6 W2 HC2.out (HFX.out W2 (grown_refl _ _)).2.2.1 hn (by omega) (by omega))
  clear hS2 hT2 hwo hR2
  refine HON.out.mono ?_
  rintro e w3 ⟨⟨b, rfl⟩, c3, g3⟩
  obtain ⟨hR2, -, hV3, hT3, hS3⟩ := HFX.out w3 g3
  clear a0 a1
  have a0 := hT3.c0
  have a1 := hT3.c1
  cases b with
  | false =>
    have HWA : Hid (WA (w.heap.size + 1) w3 (some ⟨gm, 0, none⟩) cm (some ⟨gl, 0, none⟩) cl ms ls) := by
      rcases hS3 with h | ⟨gm', gl', e1, e2, h⟩
      · exact Or.inl h
      · exact Or.inr ⟨gm', gl', e1, e2, h.any HOK.out h9⟩
    have HG := hidP (HFX.out _ g3).2.1
    have HC := hidP c3
    clear hS3 hT3 hV3
    have r0 := hR2.c0
    have r1 := hR2.c1
    have f0 := hR2.frozen 0
    have f1 := hR2.frozen 1
    have HR := hidP hR2
    clear hR2
    go_wp2_with fail
    obtain ⟨wy, hwy⟩ : ∃ wy, wy = (w3.setCell ⟨w.heap.size, 0, none⟩ (.slice (some ⟨gm, 0, none⟩) ms.length cm)).setCell ⟨w.heap.size, 1, none⟩ (.slice (some ⟨gl, 0, none⟩) ls.length cl) := ⟨_, rfl⟩
    rw [← hwy]
    obtain ⟨u1, u2, u3, y0, y1⟩ := wa_end hq HR.out HC.out HG.out HWA.out hwy
    have HFIN := hidP (And.intro u1 (And.intro u2 u3))
    clear hwy u1 u2 u3
    refine bodyPost_ret (v := .agg #[.slice (some ⟨gm, 0, none⟩) ms.length cm, .slice (some ⟨gl, 0, none⟩) ls.length cl]) (by simp [results, Tryz.results79, go_sem, y0, y1]) rfl ?_
    exact ⟨⟨_, _, _, _, ms, ls, rfl, HFIN.out.1⟩, HFIN.out.2⟩
  | true =>
    have HB1 := hidP (cBelow q ao n cap (ls.length : Int) w3 c3 hV3 hn (by omega) (by omega))
    clear hS3 hT3
    go_wp2_with fail
    refine HB1.out.mono ?_
    rintro e w4 ⟨⟨kx, k0, k1, rfl⟩, c4, g4'⟩
    obtain ⟨k, rfl⟩ := Int.eq_ofNat_of_zero_le k0
    have g4 := grown_trans g3 g4'
    have HB2 := hidP (cBelow q ao n cap 3 w4 c4 (HFX.out w4 g4).2.2.1 hn (by omega) (by omega))
    go_wp2_with fail
    refine HB2.out.mono ?_
    rintro e w5 ⟨⟨tg, t0, t1, rfl⟩, c5, g5'⟩
    have g5 := grown_trans g4 g5'
    obtain ⟨hR5, hG5, hV5, hT5, hS5⟩ := HFX.out w5 g5
    obtain ⟨gm2, gl2, e1, e2, hwo⟩ : ∃ gm' gl', some (⟨gm, 0, none⟩ : Addr) = some ⟨gm', 0, none⟩ ∧ some (⟨gl, 0, none⟩ : Addr) = some ⟨gl', 0, none⟩ ∧ WebOut (w.heap.size + 1) w5 gm' cm gl' cl ms ls := by
      rcases hS5 with ⟨h, -⟩ | h
      · cases h
      · exact h
    injection e1 with e1; injection e1 with e1; injection e2 with e2; injection e2 with e2
    subst e1 e2
    have hkl : k < ls.length := by omega
    clear a0 a1 HON HB1 HB2 g3 g4 g4' g5' hV3 c3 c4 hS5
    have a0 := hT5.c0
    have a1 := hT5.c1
    have HWO := hidP hwo
    have HA5 := hidP (hwo.any HOK.out h9)
    have HG5 := hidP g5
    clear hwo g5
    rcases (show tg = 0 ∨ tg = 1 ∨ tg = 2 by omega) with rfl | rfl | rfl
    · -- a mark that is linked to none
      obtain ⟨B, ds, B', rs, hb, hb', hD, hDm, hL, hNs, hAp⟩ := HWO.out
      have hrl : rs.length = ls.length := by rw [← hNs, nums_length]
      have hLm := hL.mono hb'
      have hgl := hLm.row.lt
      have hkm : k < ms.length := by have := HNL.out; omega
      have hMH := HA5.out.mh
      obtain ⟨hid, -⟩ := hMH.2.2.1 k hkm
      have hgm := hAp gm (Or.inl rfl)
      have hgml := hMH.2.1
      have hgmb := hMH.1
      have hAgl : A ≠ gl := two_ne hT5 (own_type hL.row) (by decide)
      have hAgm : A ≠ gm := two_ne hT5 (own_type hD.1) (by decide)
      have hAl5 := hT5.lt
      have HMB : Hid (∀ i, i < ms.length → ∀ b cp, w5.cell? ⟨gm, i * 2 + 1, none⟩ = some (.slice (some ⟨b, 0, none⟩) (mat ms i).length cp) → b ≠ gl) := fun i hi b cp hcl => by
        have hil : i < ds.length := by rw [← dMarks_length, hDm]; exact hi
        have h1 := (hD.cells i hil).2
        rw [h1] at hcl
        injection hcl with hcl
        injection hcl with hcl
        injection hcl with hcl
        injection hcl with hcl
        rw [← hcl]
        exact (hAp (mdnth ds i).2.1 (Or.inr ⟨_, mdnth_mem ds i hil, rfl⟩)).1
      have h60r : ∀ r ∈ rs, r.2.2.length ≤ 60 := fun r hr => by
        obtain ⟨j, hj, e⟩ := List.mem_iff_getElem.1 hr
        have h1 := cn_short HOK.out j
        have e2 : cn ls j = rs[j].2.2 := by rw [← hNs, nums_at14 hj]
        rw [e2, e] at h1
        exact h1
      have HT5 := hidP hT5
      have HR5 := hidP hR5
      have HGW5 := hidP hG5
      have HC5 := hidP c5
      have hgmgl := hgm.1
      have hk1' : (k : Int) < (ms.length : Int) := by omega
      have hk0' : (0 : Int) ≤ (k : Int) := Int.natCast_nonneg _
      obtain ⟨i0, hi0, hz0, hz1, hz2⟩ := info_parts Tryz.info2
      have HL0 := hidP (And.intro hLm (And.intro hrl h60r))
      have HMH := hidP hMH
      clear hb hb' hD hDm hL hNs hAp hT5 hR5 hG5 hV5 hgm hR2 hMH c5 hLm hrl h60r
      go_wp2_with fail
      go_loopw [6] (fun iv wr => ∃ (i : Nat) (rs' : List Rw), i ≤ ls.length ∧ iv = .int .i64 i ∧ w5.grownBy wr (some gl) ∧ LMem (w.heap.size + 1) wr gl cl rs' ∧ rs'.length = ls.length ∧ ∀ r ∈ rs', r.2.2.length ≤ 60) (fun iv _ => ls.length - (intOf iv).toNat)
      case atStart => exact ⟨0, rs, Nat.zero_le _, rfl, grown_refl _ _, HL0.out.1, HL0.out.2.1, HL0.out.2.2⟩
      case round =>
        obtain ⟨i, rs', hi, rfl, hgr, hlm, hrl, h60⟩ := hrel
        generalize hwo : wr = wo at *
        clear hwo wr
        have hsr := hgr.size
        have hTr : Two wo A (.slice (some ⟨gm, 0, none⟩) ms.length cm) (.slice (some ⟨gl, 0, none⟩) ls.length cl) 27 := (hgr.block A hAl5 (fun e => hAgl (by injection e))).trans HT5.out
        by_cases hlt : i < ls.length
        · have hir : i < rs'.length := by omega
          obtain ⟨ra, rc, rl, hre⟩ : ∃ a b l, rs'[i] = (a, b, l) := ⟨rs'[i].1, rs'[i].2.1, rs'[i].2.2, rfl⟩
          have hrow : IRow (w.heap.size + 1) wo ra rc rl := by
            have h := hlm.rows _ (List.getElem_mem hir)
            rw [hre] at h
            exact h
          have hrl60 : rl.length ≤ 60 := by
            have h := h60 _ (List.getElem_mem hir)
            rw [hre] at h
            exact h
          have hcl : wo.cell? ⟨gl, i, none⟩ = some (.slice (some ⟨ra, 0, none⟩) rl.length rc) := by
            have h := hlm.row.cell i hir
            rw [hre] at h
            exact h
          have hfri := World.ownsRow.frozenAt hlm.row i
          have hcm : wo.cell? ⟨gm, k * 2, none⟩ = some (.int .i64 (mid ms k)) := (World.cell?_of_block (hgr.block gm hgml (fun e => hgmgl (by injection e)))).trans hid
          have hgmr : gm < wo.heap.size := by omega
          have hglr := hlm.row.lt
          have hral := hrow.lt
          have hAr5 := hTr.lt
          have b1 := hTr.c1
          have b0 := hTr.c0
          have hseg := hrow.seg
          have HSR : Hid (∀ wi, Below wo.heap.size wo wi → wi.cell? ⟨A, 0, none⟩ = some (.slice (some ⟨gm, 0, none⟩) ms.length cm) ∧ wi.cell? ⟨A, 1, none⟩ = some (.slice (some ⟨gl, 0, none⟩) ls.length cl) ∧ wi.cell? ⟨gl, i, none⟩ = some (.slice (some ⟨ra, 0, none⟩) rl.length rc) ∧ wi.cell? ⟨gm, k * 2, none⟩ = some (.int .i64 (mid ms k)) ∧ ∀ j, j < rl.length → wi.cell? ⟨ra, j, none⟩ = some (.int .i64 (nth rl j))) := fun wi L =>
            ⟨(L.cell (p := ⟨A, 0, none⟩) hAr5).trans b0, (L.cell (p := ⟨A, 1, none⟩) hAr5).trans b1, (L.cell (p := ⟨gl, i, none⟩) hglr.2).trans hcl, (L.cell (p := ⟨gm, k * 2, none⟩) hgmr).trans hcm, fun j hj => by
              have h := hseg j hj
              rw [Nat.zero_add] at h
              exact (L.cell (p := ⟨ra, j, none⟩) hral.2).trans h⟩
          have hi0' : (0 : Int) ≤ (i : Int) := Int.natCast_nonneg _
          have hi1' : (i : Int) < (ls.length : Int) := by omega
          have HLMr := hidP (And.intro hlm (And.intro hrl (And.intro h60 hgr)))
          obtain ⟨wx, hwx⟩ : ∃ wx, wo.alloc (.cells #[] 2) = wx := ⟨_, rfl⟩
          have LX : Below wo.heap.size wo wx := by rw [← hwx]; exact (Below.refl _ _).alloc (Nat.le_refl _) _
          have HX0 : Hid (IRow wo.heap.size wx wo.heap.size 0 []) := by
            show IRow _ _ _ _ _
            rw [← hwx]
            exact World.ownsRow_lit wo #[] 0 (Nat.le_refl _) (Nat.zero_le _) rfl
          have HLX := hidP LX
          clear hseg hrow hlm h60 hgr LX hTr
          go_wp2_with fail
          clear hwx
          generalize hyy : mid ms k = yid at *
          clear hyy
          go_loopw [7, 8] (fun xv jv wi => ∃ (j gx cx : Nat) (xs : List Int), j ≤ rl.length ∧ jv = .int .i64 j ∧ xv = .slice (some ⟨gx, 0, none⟩) xs.length cx ∧ xs.length ≤ j ∧ IRow wo.heap.size wi gx cx xs ∧ Below wo.heap.size wo wi) (fun _ jv _ => rl.length - (intOf jv).toNat)
          case atStart => exact ⟨0, wo.heap.size, 0, [], Nat.zero_le _, rfl, rfl, Nat.le_refl _, HX0.out, HLX.out⟩
          case round =>
            obtain ⟨j, gx, cx, xs, hj, rfl, rfl, hxl, hxr, L⟩ := hrel
            obtain ⟨s0, s1, s2, s3, s4⟩ := HSR.out wr L
            by_cases hjl : j < rl.length
            · have s5 := s4 j hjl
              clear s4
              generalize hyn : nth rl j = yn at *
              clear hyn
              have hj0 : (0 : Int) ≤ (j : Int) := Int.natCast_nonneg _
              have hj1 : (j : Int) < (rl.length : Int) := by omega
              by_cases h1 : yn = yid
              · have hb1 : (yn != yid) = false := by simp [h1]
                clear h1
                have HX := hidP hxr
                have HLi := hidP L
                clear hxr L
                go_wp2_with fail
                refine wp_region_quiet_lit (by kernel_rfl) (by kernel_rfl) ?_
                try simp only [List.append_eq, List.cons_append, List.nil_append]
                repeat (go_big_quiet_step (fail))
                refine wpQuiet_nil ?_
                intro _ hw'
                obtain ⟨nq, hw''⟩ := hw'
                subst hw''
                go_wp2_with fail
                go_roundw
                case rel => exact ⟨j + 1, gx, cx, xs, by omega, by go_num, rfl, by omega, HX.out, below_drewN HLi.out _⟩
                case measure => simp [intOf]; omega
              · have hb1 : (yn != yid) = true := by simp [h1]
                clear h1
                by_cases h2 : (i : Int) = (k : Int)
                · have hb2 : ((i : Int) != (k : Int)) = false := by simp only [bne_eq_false_iff_eq]; exact h2
                  clear h2
                  have HX := hidP hxr
                  have HLi := hidP L
                  clear hxr L
                  go_wp2_with fail
                  refine wp_region_quiet_lit (by kernel_rfl) (by kernel_rfl) ?_
                  try simp only [List.append_eq, List.cons_append, List.nil_append]
                  repeat (go_big_quiet_step (fail))
                  refine wpQuiet_nil ?_
                  intro _ hw'
                  obtain ⟨nq, hw''⟩ := hw'
                  subst hw''
                  go_wp2_with fail
                  go_roundw
                  case rel => exact ⟨j + 1, gx, cx, xs, by omega, by go_num, rfl, by omega, HX.out, below_drewN HLi.out _⟩
                  case measure => simp [intOf]; omega
                · have hb2 : ((i : Int) != (k : Int)) = true := by simp only [bne_iff_ne, ne_eq]; exact h2
                  clear h2
                  have hwz := L.size
                  have HX := hidP hxr
                  have HLi := hidP L
                  have HS2 := hidP (And.intro s0 (And.intro s1 (And.intro s2 (And.intro s3 s5))))
                  clear hxr L
                  go_wp2_with fail
                  refine wp_region_quiet_lit (by kernel_rfl) (by kernel_rfl) ?_
                  try simp only [List.append_eq, List.cons_append, List.nil_append]
                  repeat (go_big_quiet_step (fail))
                  refine wpQuiet_nil ?_
                  intro _ hw'
                  obtain ⟨nq, hw''⟩ := hw'
                  subst hw''
                  obtain ⟨V, hV⟩ : ∃ V, (wr.drewN nq).alloc (.cells #[.int .i64 yn] 2) = V := ⟨_, rfl⟩
                  have LV : Below wr.heap.size wr V := by rw [← hV]; exact (below_drewN (Below.refl wr.heap.size wr) nq).alloc (Nat.le_refl _) _
                  have NV : V.heap[wr.heap.size]? = some (.cells #[.int .i64 yn] 2 (0, 0)) := by rw [← hV]; exact heap_alloc_new (wr.drewN nq) _
                  have hsV : V.heap.size = wr.heap.size + 1 := by rw [← hV]; simp
                  have HXV : Hid (IRow wo.heap.size V gx cx xs) := own_next14 HX.out LV
                  have HLV := hidP LV
                  have hgx := HX.out.lt
                  clear LV
                  go_wp2_with (at_builtin; refine wpList_append_lies _ rfl (.tmp 65) (.tmp 74) 28 rfl wo.heap.size 2 i0 _ 1 8 Tryz.underlying28 hi0 hz0 hz1 hz2 rfl (by omega) (.slice (some ⟨gx, 0, none⟩) xs.length cx) xs.length (xs.map (Value.int .i64)) rfl HXV.out ⟨wr.heap.size, 0, none⟩ 1 1 [.int .i64 yn] rfl rfl (World.news_of_block (cs := #[.int .i64 yn]) (t := 2) (fr := (0, 0)) NV) (by simp [Value.oneCell']) (by omega) (by unfold maxLen; omega) (by omega) (by omega) V.heap.size rfl ?_; intro gg cc w8 hown hgrow hat hlt8)
                  have HNX : Hid (IRow wo.heap.size w8 gg cc (xs ++ [yn]) ∧ Below wo.heap.size wo w8) := by
                    refine ⟨Row.snoc hown, ((HLi.out.trans (HLV.out.mono (by omega))).grown hgrow (by omega) (fun x hx => ?_))⟩
                    have e' : some gx = some x := hx
                    injection e' with e'
                    omega
                  have hxl2 : (xs ++ [yn]).length = xs.length + 1 := by simp
                  clear hown hgrow hat hV
                  go_roundw
                  case rel => exact ⟨j + 1, gg, cc, xs ++ [yn], by omega, by go_num, by rw [hxl2], by omega, HNX.out.1, HNX.out.2⟩
                  case measure => simp [intOf]; omega
            · have hjl2 : ¬ ((j : Int) < (rl.length : Int)) := by omega
              have hbr := World.frozen?_of_block (a := ⟨gl, i, none⟩) (L.block gl hglr.2)
              have f2 := hbr.trans hfri
              obtain ⟨wq, hwq⟩ : ∃ wq, wr.setCell ⟨gl, i, none⟩ (.slice (some ⟨gx, 0, none⟩) xs.length cx) = wq := ⟨_, rfl⟩
              have HNX : Hid (w5.grownBy wq (some gl) ∧ LMem (w.heap.size + 1) wq gl cl (rs'.set i (gx, cx, xs)) ∧ (rs'.set i (gx, cx, xs)).length = ls.length ∧ ∀ r ∈ rs'.set i (gx, cx, xs), r.2.2.length ≤ 60) := by
                obtain ⟨hlm, hrl', h60, hgr⟩ := HLMr.out
                refine ⟨?_, ?_, by rw [List.length_set]; exact hrl', fun r hr => ?_⟩
                · have h1 := grown_trans hgr (below_grown14 L (some gl))
                  rw [← hwq]
                  exact grown_trans h1 (grown_setCell wr gl i _)
                · rw [← hwq]
                  refine hlm.over14 i hir (ownsRow_mono14 hxr (by omega)) (below_grown14 L _) (Or.inr hxr.lt.1)
                · rcases List.mem_or_eq_of_mem_set hr with h | h
                  · exact h60 r h
                  · rw [h]; show xs.length ≤ 60; omega
              have HWQ := hidP hwq
              clear hxr L hwq
              go_wp2_with fail
              rw [HWQ.out]
              go_roundw
              case rel => exact ⟨i + 1, rs'.set i (gx, cx, xs), by omega, by go_num, HNX.out⟩
              case measure => simp [intOf]; omega
        · obtain rfl : i = ls.length := by omega
          have hoth : ∀ b, b < w5.heap.size → b ≠ gl → wo.heap[b]? = w5.heap[b]? := fun b h1 h2 => hgr.block b h1 (by simp; exact h2)
          have HWA : Hid (WA (w.heap.size + 1) wo (some ⟨gm, 0, none⟩) cm (some ⟨gl, 0, none⟩) cl ms (nums rs')) := by
            refine Or.inr ⟨gm, gl, rfl, rfl, HMH.out.blocks hsr (hoth gm hgml hgmgl) (fun x hx b cp hcl h1 h2 => hoth b h2 (HMB.out x hx b cp hcl)), ⟨rs', hlm, rfl⟩, HA5.out.mc, by rw [nums_length, hrl]; exact HA5.out.lc, HA5.out.n9, by rw [nums_length, hrl]; exact HA5.out.l9, HA5.out.at5, fun x => ?_⟩
            rcases Nat.lt_or_ge x rs'.length with hx | hx
            · rw [nums_at14 hx]
              have := h60 _ (List.getElem_mem hx)
              omega
            · simp [cn, nums, List.getD, hx]
          have hR2 : Two wo w.heap.size (.slice none 0 0) (.slice none 0 0) 27 := (hoth _ (by omega) (by omega)).trans HR5.out
          have HC : Hid (Cur wo q ao n cap) := HC5.out.kept14 (hoth q (by have := HGW5.out.size; omega) (by omega))
          have HG : Hid (w.grownBy wo (some q)) := by
            have h8 := HGW5.out
            exact ⟨hgr.os.trans h8.os, hgr.tape.trans h8.tape, hgr.output.trans h8.output, by have := h8.size; omega, fun b hb hbq => (hoth b (by have := h8.size; omega) (by omega)).trans (h8.block b hb hbq)⟩
          have a0 := hTr.c0
          have a1 := hTr.c1
          have HNN : Hid (ls.length = (nums rs').length) := by show _ = _; rw [nums_length, hrl]
          clear hgr hlm h60 hTr hoth hrl
          have r0 := hR2.c0
          have r1 := hR2.c1
          have f0 := hR2.frozen 0
          have f1 := hR2.frozen 1
          have HR := hidP hR2
          clear hR2
          go_wp2_with fail
          rw [HNN.out]
          obtain ⟨wy, hwy⟩ : ∃ wy, wy = (wo.setCell ⟨w.heap.size, 0, none⟩ (.slice (some ⟨gm, 0, none⟩) ms.length cm)).setCell ⟨w.heap.size, 1, none⟩ (.slice (some ⟨gl, 0, none⟩) (nums rs').length cl) := ⟨_, rfl⟩
          rw [← hwy]
          obtain ⟨u1, u2, u3, y0, y1⟩ := wa_end hq HR.out HC.out HG.out HWA.out hwy
          have HFIN := hidP (And.intro u1 (And.intro u2 u3))
          clear hwy u1 u2 u3
          refine bodyPost_ret (v := .agg #[.slice (some ⟨gm, 0, none⟩) ms.length cm, .slice (some ⟨gl, 0, none⟩) (nums rs').length cl]) (by simp [results, Tryz.results79, go_sem, y0, y1]) rfl ?_
          exact ⟨⟨_, _, _, _, ms, (nums rs'), rfl, HFIN.out.1⟩, HFIN.out.2⟩
    · -- a link more
      obtain ⟨B, ds, B', rs, hb, hb', hD, hDm, hL, hNs, hAp⟩ := HWO.out
      have hrl : rs.length = ls.length := by rw [← hNs, nums_length]
      have hkr : k < rs.length := by omega
      obtain ⟨r1x, rcx, rl⟩ : ∃ a b, rs[k] = (a, b, cn ls k) := ⟨rs[k].1, rs[k].2.1, by
        have e : cn ls k = rs[k].2.2 := by rw [← hNs, nums_at14 hkr]
        rw [e]⟩
      have hcell : w5.cell? ⟨gl, k, none⟩ = some (.slice (some ⟨r1x, 0, none⟩) (cn ls k).length rcx) := by
        have h := hL.row.cell k hkr
        rw [rl] at h
        exact h
      have hfr := World.ownsRow.frozenAt hL.row k
      have hLm := hL.mono hb'
      have hgl := hLm.row.lt
      have HIR : Hid (IRow (w.heap.size + 1) w5 r1x rcx (cn ls k)) := by
        have h := hLm.rows _ (List.getElem_mem hkr)
        rw [rl] at h
        exact h
      have hir := HIR.out.lt
      have hoff : r1x ≠ gl := by
        have h := hL.off _ (List.getElem_mem hkr)
        rw [rl] at h
        exact h
      have hc60 := cn_short HOK.out k
      have HLM := hidP (And.intro hLm (And.intro hrl (And.intro hNs rl)))
      have HDD : Hid (MHigh (w.heap.size + 1) w5 gm ms ms.length ∧ ∀ i, i < ms.length → ∀ b cp, w5.cell? ⟨gm, i * 2 + 1, none⟩ = some (.slice (some ⟨b, 0, none⟩) (mat ms i).length cp) → b ≠ r1x ∧ b ≠ gl) := by
        refine ⟨HA5.out.mh, fun i hi b cp hcl => ?_⟩
        have hil : i < ds.length := by rw [← dMarks_length, hDm]; exact hi
        have h1 := (hD.cells i hil).2
        rw [h1] at hcl
        injection hcl with hcl
        injection hcl with hcl
        injection hcl with hcl
        injection hcl with hcl
        have h2 := hAp (mdnth ds i).2.1 (Or.inr ⟨_, mdnth_mem ds i hil, rfl⟩)
        rw [← hcl]
        refine ⟨?_, h2.1⟩
        have h3 := h2.2 _ (List.getElem_mem hkr)
        rw [rl] at h3
        exact h3
      have hgm := hAp gm (Or.inl rfl)
      have hgmgl := hgm.1
      have hgmr : gm ≠ r1x := by
        have h3 := hgm.2 _ (List.getElem_mem hkr)
        rw [rl] at h3
        exact h3
      have hgml := HA5.out.mh.2.1
      have hk0' : (0 : Int) ≤ (k : Int) := Int.natCast_nonneg _
      have hk1' : (k : Int) < (ls.length : Int) := by omega
      obtain ⟨i0, hi0, hz0, hz1, hz2⟩ := info_parts Tryz.info2
      have HB3 := hidP (cBelow q ao n cap 20 w5.drew c5.drew (hV5 : CodeV w5 ao n) hn (by omega) (by omega))
      have hAl5 := hT5.lt
      have HT5 := hidP hT5
      have HR5 := hidP hR5
      have HGW5 := hidP hG5
      have HS : Hid (∀ W' : World, (∀ b, (b = A ∨ b = gl) → W'.heap[b]? = w5.heap[b]?) → W'.cell? ⟨A, 1, none⟩ = some (.slice (some ⟨gl, 0, none⟩) ls.length cl) ∧ W'.cell? ⟨gl, k, none⟩ = some (.slice (some ⟨r1x, 0, none⟩) (cn ls k).length rcx)) := fun W' h => ⟨(World.cell?_of_block (h A (Or.inl rfl))).trans a1, (World.cell?_of_block (h gl (Or.inr rfl))).trans hcell⟩
      have hA9 : A < w5.heap.size := hAl5
      have hAr1 : A ≠ r1x := two_ne hT5 (own_type HIR.out) (by decide)
      have hAgl : A ≠ gl := two_ne hT5 (own_type hL.row) (by decide)
      have hAgm : A ≠ gm := two_ne hT5 (own_type hD.1) (by decide)
      clear hb hb' hD hDm hL hNs hAp hLm hT5 hR5 hG5 hV5 hgm hR2
      go_wp2_with fail
      refine wp_region_calm2 (S := fun W' => W'.cell? ⟨A, 1, none⟩ = some (.slice (some ⟨gl, 0, none⟩) ls.length cl) ∧ W'.cell? ⟨gl, k, none⟩ = some (.slice (some ⟨r1x, 0, none⟩) (cn ls k).length rcx)) (fuel := 4)
        [0, 1, 2, 3, 4, 5, 6, 7, 8] _ rfl (by kernel_rfl) (by kernel_rfl) (by kernel_rfl) (by kernel_rfl) (by kernel_rfl) (by kernel_rfl) (by kernel_rfl) (HS.out _ (fun _ _ => rfl)) (fun _ => ?_)
      iterate 9
        refine ⟨_, rfl, ?_⟩
        apply Exists.intro
        refine ⟨Or.inl ⟨by rfl, fun w' hw' => ?_⟩, ?_⟩
        · obtain ⟨e1, e2⟩ := hw'
          first
          | (go_simp; done)
          | (go_simp; with_reducible rfl)
        simp only [Act.put, List.setIfInBounds_toArray]
      refine calm_one 9 (by kernel_rfl) rfl (fun K hK => ?_)
      go_simp
      refine HB3.out.mono ?_
      rintro e w6 ⟨⟨y, y0, y1, rfl⟩, c6, g6'⟩
      have g6 := grown_undrew14 g6'
      have hs6 := g6.size
      refine hK.out _ _ (HS.out _ (fun b hb => g6.block b (by rcases hb with rfl | rfl <;> omega) (by simp; rcases hb with rfl | rfl <;> omega))) (fun _ => ?_)
      clear hK K
      refine calm_one 10 (by kernel_rfl) rfl (fun K hK => ?_)
      go_simp
      obtain ⟨w7, hw7⟩ : ∃ w7, w6.alloc (.cells #[.int .i64 y] 2) = w7 := ⟨_, rfl⟩
      have L7 : Below w6.heap.size w6 w7 := by rw [← hw7]; exact (Below.refl _ _).alloc (Nat.le_refl _) _
      have N7 : w7.heap[w6.heap.size]? = some (.cells #[.int .i64 y] 2 (0, 0)) := by rw [← hw7]; exact heap_alloc_new w6 _
      have hs7 : w7.heap.size = w6.heap.size + 1 := by rw [← hw7]; simp
      have g57 := grown_trans g6 (below_grown14 L7 (some q))
      have c7 : Cur w7 q ao n cap := c6.kept14 (L7.block q (by omega))
      rw [hw7]
      clear hw7
      have hb7 : ∀ b, b < w5.heap.size → b ≠ q → w7.heap[b]? = w5.heap[b]? := fun b h1 h2 => g57.block b h1 (by simp; exact h2)
      refine hK.out _ _ (HS.out _ (fun b hb => hb7 b (by rcases hb with rfl | rfl <;> omega) (by rcases hb with rfl | rfl <;> omega))) (fun _ => ?_)
      clear hK K
      have HIR7 : Hid (IRow (w.heap.size + 1) w7 r1x rcx (cn ls k)) := World.ownsRow.kept HIR.out g57 (Or.inr (by simp [Value.ownBlock]; omega))
      refine calm_one 11 (by kernel_rfl) rfl (fun K hK => ?_)
      refine step_append_lies _ (by rfl) _ _ _ (by rfl) (w.heap.size + 1) 2 i0 _ 1 8 Tryz.underlying28 hi0 hz0 hz1 hz2 rfl (by omega) (.slice (some ⟨r1x, 0, none⟩) (cn ls k).length rcx) (cn ls k).length ((cn ls k).map (Value.int .i64)) (by rfl) HIR7.out ⟨w6.heap.size, 0, none⟩ 1 1 [.int .i64 y] (by rfl) (by rfl) (World.news_of_block (cs := #[.int .i64 y]) (t := 2) (fr := (0, 0)) N7) (by simp [Value.oneCell']) (by omega) (by unfold maxLen; omega) (by omega) (by omega) w7.heap.size rfl ?_
      intro gg cc w8 hown hgrow hat hlt8
      have hIe : IRow (w.heap.size + 1) w8 gg cc (cn ls k ++ [y]) := Row.snoc hown
      have hs8 := hgrow.size
      have hb8 : ∀ b, b < w5.heap.size → b ≠ q → b ≠ r1x → w8.heap[b]? = w5.heap[b]? := fun b h1 h2 h3 => (hgrow.block b (by omega) (fun e => by
        have e' : some b = some r1x := e
        injection e' with e'
        exact h3 e')).trans (hb7 b h1 h2)
      have hS8 := HS.out w8 (fun b hb => hb8 b (by rcases hb with rfl | rfl <;> omega) (by rcases hb with rfl | rfl <;> omega) (by rcases hb with rfl | rfl; exact hAr1; exact fun e => hoff e.symm))
      refine hK.out _ _ hS8 (fun _ => ?_)
      clear hK K
      refine calm_one 12 (by kernel_rfl) rfl (fun K hK => ?_)
      go_simp
      refine hK.out _ _ hS8 (fun _ => ?_)
      clear hK K
      refine wpAnyH_done (by kernel_rfl) ?_ _
      simp only [Exit.then]
      have f8 : w8.frozen? ⟨gl, k, none⟩ = false := (World.frozen?_of_block (hb8 gl (by omega) (by omega) (fun e => hoff e.symm))).trans hfr
      have s8 := hS8.2
      obtain ⟨w9, hw9⟩ : ∃ w9, w8.setCell ⟨gl, k, none⟩ (.slice (some ⟨gg, 0, none⟩) ((cn ls k).length + 1) cc) = w9 := ⟨_, rfl⟩
      have hrv : rwV (gg, cc, cn ls k ++ [y]) = .slice (some ⟨gg, 0, none⟩) ((cn ls k).length + 1) cc := by simp [rwV]
      obtain ⟨hLm, hrl, hNs, rl⟩ := HLM.out
      have hL9 : LMem (w.heap.size + 1) w9 gl cl (rs.set k (gg, cc, cn ls k ++ [y])) := by
        rw [← hw9, ← hrv]
        refine (hLm.kept g57 (by simp; omega) (fun x hx => by simp; have := (hLm.rows x hx).lt; omega)).over14 k hkr hIe (by rw [rl]; exact hgrow) ?_
        rw [rl]
        rcases hat with e | e
        · left
          have e' : some r1x = some gg := e
          injection e' with e'
        · right; omega
      have hls : nums (rs.set k (gg, cc, cn ls k ++ [y])) = ls.set k (cn ls k ++ [y]) := by rw [nums, List.map_set, ← nums, hNs]
      have hb9 : ∀ b, b < w5.heap.size → b ≠ q → b ≠ r1x → b ≠ gl → w9.heap[b]? = w5.heap[b]? := fun b h1 h2 h3 h4 => by
        rw [← hw9, Below.heap_setCell w8 ⟨gl, k, none⟩ _ b h4]
        exact hb8 b h1 h2 h3
      have hs9 : w9.heap.size = w8.heap.size := by rw [← hw9, setCell_size]
      have HWA : Hid (WA (w.heap.size + 1) w9 (some ⟨gm, 0, none⟩) cm (some ⟨gl, 0, none⟩) cl ms (ls.set k (cn ls k ++ [y]))) := by
        refine Or.inr ⟨gm, gl, rfl, rfl, HDD.out.1.blocks (by omega) (hb9 gm hgml (by have := HDD.out.1.1; omega) hgmr hgmgl) (fun i hi b cp hcl h1 h2 => ?_), ⟨_, hL9, hls⟩, HA5.out.mc, by rw [List.length_set]; exact HA5.out.lc, HA5.out.n9, by rw [List.length_set]; exact HA5.out.l9, HA5.out.at5, fun i => ?_⟩
        · obtain ⟨n1, n2⟩ := HDD.out.2 i hi b cp hcl
          exact hb9 b h2 (by omega) n1 n2
        · by_cases hik : i = k
          · rw [hik]
            simp [cn, List.getD, hkl]
            simp [cn, List.getD, hkl] at hc60
            omega
          · have e : cn (ls.set k (cn ls k ++ [y])) i = cn ls i := by simp [cn, List.getD, Ne.symm hik]
            rw [e]; exact HA5.out.cn61 i
      have hR2 : Two w9 w.heap.size (.slice none 0 0) (.slice none 0 0) 27 := (hb9 _ (by omega) (by omega) (by omega) (by omega)).trans HR5.out
      have hT9 := (hb9 A hA9 (by omega) hAr1 hAgl).trans HT5.out
      have HC : Hid (Cur w9 q ao n cap) := c7.kept14 (by
        rw [← hw9, Below.heap_setCell w8 ⟨gl, k, none⟩ _ q (by show q ≠ gl; omega)]
        exact hgrow.block q (by omega) (fun e => by
          have e' : some q = some r1x := e
          injection e' with e'
          omega))
      have HG : Hid (w.grownBy w9 (some q)) := by
        have h8 := grown_trans HGW5.out g57
        have hz := h8.size
        exact ⟨by rw [← hw9]; exact hgrow.os.trans h8.os, by rw [← hw9]; exact hgrow.tape.trans h8.tape, by rw [← hw9]; exact hgrow.output.trans h8.output, by omega, fun b hb hbq => (hb9 b (by have := HGW5.out.size; omega) (fun e => hbq (by rw [e])) (by omega) (by omega)).trans (HGW5.out.block b hb hbq)⟩
      have HW9 := hidP hw9
      have HT9 : Hid (Two w9 A (.slice (some ⟨gm, 0, none⟩) ms.length cm) (.slice (some ⟨gl, 0, none⟩) ls.length cl) 27) := hT9
      clear hS8 hb9 hb8 hb7 hgrow hat hown hIe hL9 hls hrv hT9 hw9 N7 L7 g57 g6 c6 c7 hLm hrl hNs rl a0 a1 hcell
      go_wp2_with fail
      rw [HW9.out]
      refine NoPanic.normal ?_
      try simp only [Exit.then]
      have a0 := HT9.out.c0
      have a1 := HT9.out.c1
      have r0 := hR2.c0
      have r1 := hR2.c1
      have f0 := hR2.frozen 0
      have f1 := hR2.frozen 1
      have HR := hidP hR2
      clear hR2
      go_wp2_with fail
      rw [show ls.length = (ls.set k (cn ls k ++ [y])).length by rw [List.length_set]]
      obtain ⟨wy, hwy⟩ : ∃ wy, wy = (w9.setCell ⟨w.heap.size, 0, none⟩ (.slice (some ⟨gm, 0, none⟩) ms.length cm)).setCell ⟨w.heap.size, 1, none⟩ (.slice (some ⟨gl, 0, none⟩) (ls.set k (cn ls k ++ [y])).length cl) := ⟨_, rfl⟩
      rw [← hwy]
      obtain ⟨u1, u2, u3, y0, y1⟩ := wa_end hq HR.out HC.out HG.out HWA.out hwy
      have HFIN := hidP (And.intro u1 (And.intro u2 u3))
      clear hwy u1 u2 u3
      refine bodyPost_ret (v := .agg #[.slice (some ⟨gm, 0, none⟩) ms.length cm, .slice (some ⟨gl, 0, none⟩) (ls.set k (cn ls k ++ [y])).length cl]) (by simp [results, Tryz.results79, go_sem, y0, y1]) rfl ?_
      exact ⟨⟨_, _, _, _, ms, (ls.set k (cn ls k ++ [y])), rfl, HFIN.out.1⟩, HFIN.out.2⟩
    · -- a number more
      obtain ⟨B, ds, B', rs, hb, hb', hD, hDm, hL, hNs, hAp⟩ := HWO.out
      have hkm : k < ms.length := by have := HNL.out; omega
      have hMH := HA5.out.mh
      obtain ⟨hid, -⟩ := hMH.2.2.1 k hkm
      have hidb := (mOkAt_iff _ _).1 (marksB_at (web_marks HOK.out) hkm)
      have hfr := World.ownsRow.frozenAt hD.1 (k * 2)
      have hgm := hAp gm (Or.inl rfl)
      have hgml := hMH.2.1
      have hgmb := hMH.1
      have hAgm : A ≠ gm := two_ne hT5 (own_type hD.1) (by decide)
      have hk0' : (0 : Int) ≤ (k : Int) := Int.natCast_nonneg _
      have hk1' : (k : Int) < (ms.length : Int) := by omega
      have hx : IntKind.i64.wrap (mid ms k + 1) = mid ms k + 1 := by rw [IntWalk.i64_in _ ⟨by omega, by omega⟩]
      have HT5 := hidP hT5
      have HR5 := hidP hR5
      have HGW5 := hidP hG5
      have HC5 := hidP c5
      have hAl5 := hT5.lt
      obtain ⟨ms', hms'⟩ : ∃ ms', ms' = ms.set k (mid ms k + 1, mat ms k) := ⟨_, rfl⟩
      have hml : ms.length = ms'.length := by rw [hms', List.length_set]
      obtain ⟨w6, hw6⟩ : ∃ w6, w5.drew.setCell ⟨gm, k * 2, none⟩ (.int .i64 (mid ms k + 1)) = w6 := ⟨_, rfl⟩
      have hoth : ∀ b, b ≠ gm → w6.heap[b]? = w5.heap[b]? := fun b hb => by
        rw [← hw6, Below.heap_setCell w5.drew ⟨gm, k * 2, none⟩ _ b hb]
        rfl
      have hs6 : w6.heap.size = w5.heap.size := by rw [← hw6, setCell_size]; rfl
      have HWA : Hid (WA (w.heap.size + 1) w6 (some ⟨gm, 0, none⟩) cm (some ⟨gl, 0, none⟩) cl ms' ls) := by
        have hmh : MHigh (w.heap.size + 1) w6 gm ms' ms'.length := by
          have h := (show MHigh (w.heap.size + 1) w5.drew gm ms ms.length from hMH).setId (y := k) hkm (mid ms k + 1)
          rw [hw6, ← hms', hml] at h
          exact h
        have hg6 : w5.grownBy w6 (some gm) := ⟨by rw [← hw6]; rfl, by rw [← hw6]; rfl, by rw [← hw6]; rfl, by omega, fun b hb hbq => hoth b (fun e => hbq (by rw [e]))⟩
        refine Or.inr ⟨gm, gl, rfl, rfl, hmh, ⟨rs, (hL.mono hb').kept hg6 (fun e => by injection e with e; exact hgm.1 e.symm) (fun x hx e => by injection e with e; exact hgm.2 x hx e.symm), hNs⟩, by rw [← hml]; exact HA5.out.mc, HA5.out.lc, by rw [← hml]; exact HA5.out.n9, HA5.out.l9, fun j => ?_, HA5.out.cn61⟩
        rcases Nat.lt_or_ge j ms.length with hj | hj
        · rw [hms', mat_set ms k j _ hj]
          split
          · exact HA5.out.at5 k
          · exact HA5.out.at5 j
        · rw [hms']
          simp [mat, List.getD, hj]
      have hR6 : Two w6 w.heap.size (.slice none 0 0) (.slice none 0 0) 27 := (hoth _ (by omega)).trans HR5.out
      have HT6 : Hid (Two w6 A (.slice (some ⟨gm, 0, none⟩) ms.length cm) (.slice (some ⟨gl, 0, none⟩) ls.length cl) 27) := (hoth A hAgm).trans HT5.out
      have HC : Hid (Cur w6 q ao n cap) := HC5.out.kept14 (hoth q (by omega))
      have HG : Hid (w.grownBy w6 (some q)) := by
        have h8 := HGW5.out
        exact ⟨by rw [← hw6]; exact h8.os, by rw [← hw6]; exact h8.tape, by rw [← hw6]; exact h8.output, by rw [hs6]; exact h8.size, fun b hb hbq => (hoth b (by omega)).trans (h8.block b hb hbq)⟩
      have HR6 := hidP hR6
      have HW6 : Hid ((w5.setCell ⟨gm, k * 2, none⟩ (.int .i64 (mid ms k + 1))).drew = w6) := hw6
      have hfd : w5.drew.frozen? ⟨gm, k * 2, none⟩ = false := hfr
      have hidd : w5.drew.cell? ⟨gm, k * 2, none⟩ = some (.int .i64 (mid ms k)) := hid
      have HML := hidP hml
      clear hb hb' hD hDm hL hNs hAp hT5 hR5 hG5 hV5 hgm hR2 hoth hs6 hR6 hw6 hms' hMH hidb c5 hml
      generalize mid ms k = yid at *
      go_wp2_with fail
      refine wp_region_calm2 (S := fun W' => W'.cell? ⟨A, 0, none⟩ = some (.slice (some ⟨gm, 0, none⟩) ms.length cm) ∧ W'.cell? ⟨gm, k * 2, none⟩ = some (.int .i64 yid)) (fuel := 2)
        [0, 1, 2, 3, 4, 5, 6, 7, 8, 9] _ rfl (by kernel_rfl) (by kernel_rfl) (by kernel_rfl) (by kernel_rfl) (by kernel_rfl) (by kernel_rfl) (by kernel_rfl) ⟨a0, hid⟩ (fun hS => ?_)
      iterate 10
        refine ⟨_, rfl, ?_⟩
        apply Exists.intro
        refine ⟨Or.inl ⟨by rfl, fun w' hw' => ?_⟩, ?_⟩
        · obtain ⟨e1, e2⟩ := hw'
          first
          | (go_simp; done)
          | (go_simp; with_reducible rfl)
        simp only [Act.put, List.setIfInBounds_toArray]
      refine calm_one 10 (by kernel_rfl) rfl (fun K hK => ?_)
      go_simp
      refine hK.out _ _ hS (fun _ => ?_)
      clear hK K
      refine calm_one 11 (by kernel_rfl) rfl (fun K hK => ?_)
      go_simp
      refine hK.out _ _ hS (fun _ => ?_)
      clear hK K
      refine wpAnyH_done (by kernel_rfl) ?_ _
      simp only [Exit.then]
      clear a0 a1 hS
      go_wp2_with fail
      rw [HW6.out]
      refine NoPanic.normal ?_
      try simp only [Exit.then]
      have a0 := HT6.out.c0
      have a1 := HT6.out.c1
      have hR2 := HR6.out
      have r0 := hR2.c0
      have r1 := hR2.c1
      have f0 := hR2.frozen 0
      have f1 := hR2.frozen 1
      have HR := hidP hR2
      clear hR2
      go_wp2_with fail
      rw [HML.out]
      obtain ⟨wy, hwy⟩ : ∃ wy, wy = (w6.setCell ⟨w.heap.size, 0, none⟩ (.slice (some ⟨gm, 0, none⟩) ms'.length cm)).setCell ⟨w.heap.size, 1, none⟩ (.slice (some ⟨gl, 0, none⟩) ls.length cl) := ⟨_, rfl⟩
      rw [← hwy]
      obtain ⟨u1, u2, u3, y0, y1⟩ := wa_end hq HR.out HC.out HG.out HWA.out hwy
      have HFIN := hidP (And.intro u1 (And.intro u2 u3))
      clear hwy u1 u2 u3
      refine bodyPost_ret (v := .agg #[.slice (some ⟨gm, 0, none⟩) ms'.length cm, .slice (some ⟨gl, 0, none⟩) ls.length cl]) (by simp [results, Tryz.results79, go_sem, y0, y1]) rfl ?_
      exact ⟨⟨_, _, _, _, ms', ls, rfl, HFIN.out.1⟩, HFIN.out.2⟩
end Go.Proofs.YtfbhohpbhjlihaaGreat
namespace Go.Proofs.YtfbhohpbhjlihaaGreat
open Go Go.RowKit

/-- A web, a place, ready for a call. -/
structure DGot (w : World) (am : Option Addr) (cm : Nat) (al : Option Addr) (cl : Nat) (ms : List Mk) (ls : List (List Int)) (aq : Option Addr) (cq : Nat) (q : List Int) : Prop where
  mv : MView w am ms
  cv : CView w al ls
  qv : View w aq q
  msm : MSmall ms
  csm : CSmall ls
  mc : ms.length ≤ cm
  lc : ls.length ≤ cl
  qc : q.length ≤ cq
  n9 : ms.length ≤ 9
  l9 : ls.length ≤ 9
  q6 : q.length ≤ 6
theorem row_cap {base : Nat} {w : World} {g c : Nat} {xs : List Int} (h : Row base w g c xs) : xs.length ≤ c := by
  obtain ⟨h1, h2⟩ := h
  rcases h2 with ⟨e, -⟩ | ⟨g', cp, cur, e, -, -, hnc, -⟩
  · cases e
  · injection e with e1 e2 e3; omega

end Go.Proofs.YtfbhohpbhjlihaaGreat
namespace Go.Proofs.YtfbhohpbhjlihaaGreat
open Go Go.RowKit

/-- A mark that the draw made, in a block of its own. -/
def DMark (W3 : World) (Q : Nat) (ao : Option Addr) (n cap : Nat) (v : Value) (wx : World) : Prop := ∃ M id g c xs, v = .pointer (some ⟨M, 0, none⟩) ∧ W3.grownBy wx (some Q) ∧ Cur wx Q ao n cap ∧ Two wx M (.int .i64 id) (.slice (some ⟨g, 0, none⟩) xs.length c) 30 ∧ W3.heap.size ≤ M ∧ g ≠ M ∧ W3.heap.size ≤ g ∧ xs.length ≤ 6 ∧ Row W3.heap.size wx g c xs
theorem grown_far16 {W3 w : World} {Q M i : Nat} {v : Value} (h : W3.grownBy w (some Q)) (hM : W3.heap.size ≤ M) : W3.grownBy (w.setCell ⟨M, i, none⟩ v) (some Q) :=
  ⟨h.os, h.tape, h.output, by have := h.size; simpa [World.setCell] using this, fun b hb hne => (Below.heap_setCell w ⟨M, i, none⟩ v b (fun e => by have : b = M := e; omega)).trans (h.block b hb hne)⟩
theorem Two.grown16 {w w' : World} {p : Nat} {u v : Value} {t : TypeId} {r : Option Nat} (h : Two w p u v t) (hg : w.grownBy w' r) (hr : some p ≠ r) : Two w' p u v t := (hg.block p h.lt hr).trans h
theorem row_mono16 {base base' : Nat} {w : World} {g c : Nat} {xs : List Int} (h : Row base w g c xs) (hb : base' ≤ base) : Row base' w g c xs :=
  ⟨h.1, h.2.imp id fun ⟨g, cap, cur, h1, h2, h3⟩ => ⟨g, cap, cur, h1, Nat.le_trans hb h2, h3⟩⟩
theorem dmk_late {W3 w7 : World} {Q : Nat} {ao : Option Addr} {n cap B gr cr : Nat} {xs : List Int} {id : Int} (g : W3.grownBy w7 (some Q)) (c : Cur w7 Q ao n cap) (hr : Row B w7 gr cr xs) (hB : W3.heap.size ≤ B) (hx : xs.length ≤ 6) :
    DMark W3 Q ao n cap (.pointer (some ⟨w7.heap.size, 0, none⟩)) (w7.alloc (.cells #[.int .i64 id, .slice (some ⟨gr, 0, none⟩) xs.length cr] 30)) := by
  have hl := World.ownsRow.lt hr gr rfl
  have ga := World.grownBy_alloc w7 (.cells #[.int .i64 id, .slice (some ⟨gr, 0, none⟩) xs.length cr] 30) (some Q)
  have gn := World.grownBy_alloc w7 (.cells #[.int .i64 id, .slice (some ⟨gr, 0, none⟩) xs.length cr] 30) none
  exact ⟨w7.heap.size, id, gr, cr, xs, rfl, grown_trans g ga, Cur.alloc c _, Two.new w7 _ _ _, g.size, by omega, by omega, hx, World.ownsRow.kept (row_mono16 hr hB) gn (Or.inr (by simp [Value.ownBlock]))⟩
theorem dmk_early {W3 w7 : World} {Q M : Nat} {ao : Option Addr} {n cap B gr cr : Nat} {xs : List Int} {id : Int} {u v : Value} (g : W3.grownBy w7 (some Q)) (c : Cur w7 Q ao n cap) (hr : Row B w7 gr cr xs) (hB : W3.heap.size ≤ B) (hx : xs.length ≤ 6) (hT : Two w7 M u v 30) (hM : W3.heap.size ≤ M) (hg : gr ≠ M) (hQ : Q ≠ M) :
    DMark W3 Q ao n cap (.pointer (some ⟨M, 0, none⟩)) ((w7.setCell ⟨M, 0, none⟩ (.int .i64 id)).setCell ⟨M, 1, none⟩ (.slice (some ⟨gr, 0, none⟩) xs.length cr)) := by
  have hl := World.ownsRow.lt hr gr rfl
  have gy : w7.grownBy ((w7.setCell ⟨M, 0, none⟩ (.int .i64 id)).setCell ⟨M, 1, none⟩ (.slice (some ⟨gr, 0, none⟩) xs.length cr)) (some M) := grown_trans (grown_setCell w7 M 0 _) (grown_setCell _ M 1 _)
  exact ⟨M, id, gr, cr, xs, rfl, grown_far16 (grown_far16 g hM) hM, Cur.grown c gy (by simpa using hQ), (hT.set0 _).set1 _, hM, hg, by omega, hx, World.ownsRow.kept (row_mono16 hr hB) gy (Or.inr (by simpa [Value.ownBlock] using hg))⟩

set_option maxRecDepth 100000 in
set_option maxHeartbeats 4000000 in
theorem cDrawLinked (ao : Option Addr) (n cap : Nat) (w : World) (hv : CodeV w ao n) (hn : n ≤ 4096) :
    Calls Tryz.prog 12 #[.slice ao n cap] w fun e w' => ∃ am cm al cl ms ls id aq cq q mo, e = .returned (.tuple #[.agg #[.slice am ms.length cm, .slice al ls.length cl], .agg #[.int .i64 id, .slice aq q.length cq], .int .i64 mo]) ∧ DGot w' am cm al cl ms ls aq cq q ∧ Below w.heap.size w w' := by
  obtain ⟨W0, hW0⟩ : ∃ W, w.alloc (.cells #[.slice none 0 0, .slice none 0 0] 27) = W := ⟨_, rfl⟩
  obtain ⟨W, hW⟩ : ∃ W, W0.alloc (.cells #[.int .i64 0, .slice none 0 0] 30) = W := ⟨_, rfl⟩
  have hs0 : W0.heap.size = w.heap.size + 1 := by rw [← hW0]; simp
  have hWs : W.heap.size = w.heap.size + 1 + 1 := by rw [← hW]; simp [hs0]
  have L00 : Below w.heap.size w W0 := by rw [← hW0]; exact (Below.refl _ _).alloc (Nat.le_refl _) _
  have L01 : Below W0.heap.size W0 W := by rw [← hW]; exact (Below.refl _ _).alloc (Nat.le_refl _) _
  have L0 := chain L00 L01
  have tR : Two W w.heap.size (.slice none 0 0) (.slice none 0 0) 27 := by
    have h : Two W0 w.heap.size (.slice none 0 0) (.slice none 0 0) 27 := by rw [← hW0]; exact Two.new w _ _ _
    exact h.below L01
  have tM : Two W (w.heap.size + 1) (.int .i64 0) (.slice none 0 0) 30 := by rw [← hW, ← hs0]; exact Two.new W0 _ _ _
  have hvW := hv.below (Nat.le_refl _) L0
  have HN := hidP (cNew ao n cap W hvW hn)
  have HWW : Hid ((w.alloc (.cells #[.slice none 0 0, .slice none 0 0] 27)).alloc (.cells #[.int .i64 0, .slice none 0 0] 30) = W) := by show _ = _; rw [hW0, hW]
  have HST := hidP (And.intro L0 (And.intro tR (And.intro tM hvW)))
  clear hW0 hW L00 L01 L0 tR tM hv hvW hs0
  go_enter Tryz.func12, Tryz.ntmps12
  go_wp2_with fail
  try rw [HWW.out]
  refine HN.out.mono ?_
  rintro e w1 ⟨rfl, c1, L1⟩
  have hv1 := HST.out.2.2.2.below (Nat.le_refl _) L1
  have hs1 := L1.size
  have hq1 := c1.lt
  have tR1 := HST.out.2.1.below L1
  have tM1 := HST.out.2.2.1.below L1
  have HDA := hidP (cWebAny W.heap.size ao n cap w1 c1 hv1 hn)
  have HL1 := hidP (chain HST.out.1 L1)
  have HV0 : Hid (∀ wr, w1.grownBy wr (some W.heap.size) → CodeV wr ao n) := fun wr hg => hv1.grown c1 hg
  clear HN HWW HST L1 hv1
  generalize hQ : W.heap.size = Q at *
  have hQw : w.heap.size + 1 < Q := by omega
  clear hQ hWs
  go_wp2_with fail
  refine HDA.out.mono ?_
  rintro e w2 ⟨⟨am, cm, al, cl, ms, ls, rfl, hwa⟩, c2, g2⟩
  have hs2 := g2.size
  obtain ⟨W3, hW3⟩ : ∃ W, w2.alloc (.cells #[.slice am ms.length cm, .slice al ls.length cl] 27) = W := ⟨_, rfl⟩
  obtain ⟨A, hA⟩ : ∃ A, A = w2.heap.size := ⟨_, rfl⟩
  have g23 : w2.grownBy W3 (some Q) := by rw [← hW3]; exact World.grownBy_alloc w2 _ (some Q)
  have g13 := grown_trans g2 g23
  have c3 : Cur W3 Q ao n cap := by rw [← hW3]; exact c2.alloc _
  have tA : Two W3 A (.slice am ms.length cm) (.slice al ls.length cl) 27 := by rw [← hW3, hA]; exact Two.new w2 _ _ _
  have hwa3 : WA w1.heap.size W3 am cm al cl ms ls := hwa.kept g23 (fun k hk => by injection hk with hk; omega)
  have hA3 := tA.lt
  have hAw : w1.heap.size ≤ A := by omega
  have HFX : Hid (∀ wz, W3.grownBy wz (some Q) → Two wz w.heap.size (.slice none 0 0) (.slice none 0 0) 27 ∧ Two wz (w.heap.size + 1) (.int .i64 0) (.slice none 0 0) 30 ∧ Two wz A (.slice am ms.length cm) (.slice al ls.length cl) 27 ∧ WA w1.heap.size wz am cm al cl ms ls ∧ CodeV wz ao n ∧ Below w.heap.size w wz) := fun wz hg => by
    have g1z := grown_trans g13 hg
    exact ⟨(g1z.block _ (by omega) (by simp; omega)).trans tR1, (g1z.block _ (by omega) (by simp; omega)).trans tM1, (hg.block A hA3 (by simp; omega)).trans tA, hwa3.kept hg (fun k hk => by injection hk with hk; omega), HV0.out wz g1z, HL1.out.grown g1z (by omega) (fun k hk => by injection hk with hk; omega)⟩
  have hsm := hwa3.small
  have HSM := hidP hsm
  have hw5 : widthV ms ≤ 5 := by have := hsm.2.2.2.2.2.2.1 0; unfold widthV; split <;> omega
  have HWI := hidP (fun W' hm' => sWidth am cm ms W' hm' (fun i => by have := HSM.out.2.2.2.2.2.2.1 i; omega))
  have gd : W3.grownBy W3.drew (some Q) := ⟨rfl, rfl, rfl, Nat.le_refl _, fun _ _ _ => rfl⟩
  have c3d : Cur W3.drew Q ao n cap := c3
  have a0 := tA.c0
  have hQ3 : Q < W3.heap.size := c3.lt
  have hs3 : w1.heap.size ≤ W3.heap.size := g13.size
  have HWE := hidP hW3
  clear hwa hwa3 hsm g2 g23 g13 c1 c2 tR1 tM1 HDA hW3 tA HL1 HV0
  go_upto_region 3 with fail
  rw [HWE.out, ← hA]
  clear hA HWE
  go_cut [7] from 12 to 20 (fun v wx => DMark W3 Q ao n cap v wx)
  case first =>
    refine wp_region_takes (S := fun w' => w'.cell? ⟨A, 0, none⟩ = some (.slice am ms.length cm)) (fuel := 7) [0, 3, 4, 5] (by kernel_rfl) (by kernel_rfl) (by kernel_rfl) (by kernel_rfl) a0 (fun _ => ?_)
    iterate 4
      refine ⟨_, rfl, ?_⟩
      apply Exists.intro
      refine ⟨Or.inl ⟨by rfl, fun w' hw' => ?_⟩, ?_⟩
      · skip
        first
        | (go_simp; done)
        | (go_simp; with_reducible rfl)
      simp only [Act.put, List.getElem_toArray, List.getElem_cons_succ, List.getElem_cons_zero, List.setIfInBounds_toArray, List.set_cons_zero, List.set_cons_succ]
    refine calm_two14 1 9 (by kernel_rfl) rfl rfl (fun K hK => ?_) (fun K hK => ?_)
    · go_simp
      refine (cBelow Q ao n cap 3 W3.drew c3d (HFX.out _ gd).2.2.2.2.1 hn (by omega) (by omega)).mono ?_
      rintro e wt1 ⟨⟨x, hx0, hx1, rfl⟩, ct1, gt1'⟩
      have gt1 := grown_trans gd gt1'
      have hadd : IntKind.i64.wrap (20 + x) = 20 + x := by rw [IntWalk.i64_in _ ⟨by omega, by omega⟩]
      have hS1 := (HFX.out wt1 gt1).2.2.1.c0
      refine hK.out _ _ hS1 (fun _ => ?_)
      clear hK K
      refine calm_more14 5 [2] (by kernel_rfl) (by kernel_rfl) (by kernel_rfl) hS1 ?_
      iterate 1
        refine ⟨_, rfl, ?_⟩
        apply Exists.intro
        refine ⟨Or.inl ⟨by rfl, fun w' hw' => ?_⟩, ?_⟩
        · skip
          first
          | (go_simp; done)
          | (go_simp; with_reducible rfl)
        simp only [Act.put, List.getElem_toArray, List.getElem_cons_succ, List.getElem_cons_zero, List.setIfInBounds_toArray, List.set_cons_zero, List.set_cons_succ]
      refine calm_two14 6 9 (by kernel_rfl) rfl rfl (fun K hK => ?_) (fun K hK => ?_)
      · go_simp
        refine (HWI.out _ (HFX.out _ gt1).2.2.2.1.views.1).mono ?_
        rintro e wt2 ⟨rfl, hwt2⟩
        have hwt2' := hwt2.symm
        subst hwt2'
        refine hK.out _ _ (HFX.out wt1 gt1).2.2.1.c0 (fun _ => ?_)
        clear hK K
        refine calm_two14 7 9 (by kernel_rfl) rfl rfl (fun K hK => ?_) (fun K hK => ?_)
        · go_simp
          refine (cAny Q ao n cap (widthV ms) wt1 ct1 (HFX.out _ gt1).2.2.2.2.1 hn (by omega)).mono ?_
          rintro e wt7 ⟨⟨gr, cr, xs, rfl, hxl, hrow⟩, ct7, gt7'⟩
          have gt7 := grown_trans gt1 gt7'
          have hgr := (World.ownsRow.lt hrow gr rfl).1
          have hsz7 := gt1.size
          have hS7 := (HFX.out wt7 gt7).2.2.1.c0
          refine hK.out _ _ hS7 (fun _ => ?_)
          clear hK K
          refine calm_more14 2 [8] (by kernel_rfl) (by kernel_rfl) (by kernel_rfl) hS7 ?_
          iterate 1
            refine ⟨_, rfl, ?_⟩
            apply Exists.intro
            refine ⟨Or.inl ⟨by rfl, fun w' hw' => ?_⟩, ?_⟩
            · skip
              first
              | (go_simp; done)
              | (go_simp; with_reducible rfl)
            simp only [Act.put, List.getElem_toArray, List.getElem_cons_succ, List.getElem_cons_zero, List.setIfInBounds_toArray, List.set_cons_zero, List.set_cons_succ]
          refine calm_one 9 (by kernel_rfl) rfl (fun K hK => ?_)
          go_simp
          have g8 := grown_trans gt7 (World.grownBy_alloc wt7 (.cells #[.int .i64 0, .slice none 0 0] 30) (some Q))
          refine hK.out _ _ (HFX.out _ g8).2.2.1.c0 (fun _ => ?_)
          clear hK K
          refine calm_one 10 (by kernel_rfl) rfl (fun K hK => ?_)
          go_simp
          have HD := hidP (dmk_late (id := 20 + x) gt7 ct7 hrow (by omega) (by omega))
          generalize wt7.alloc (.cells #[.int .i64 (20 + x), .slice (some ⟨gr, 0, none⟩) xs.length cr] 30) = wz at *
          have hSz : wz.cell? ⟨A, 0, none⟩ = some (.slice am ms.length cm) := by obtain ⟨-, -, -, -, -, -, hg, -⟩ := HD.out; exact (HFX.out wz hg).2.2.1.c0
          refine hK.out _ _ hSz (fun _ => ?_)
          clear hK K
          refine calm_rest [] rfl (by kernel_rfl) (by kernel_rfl) (by kernel_rfl) hSz ?_
          refine NoPanic.normal (NoPanic.normal ?_)
          go_wp2_with fail
          go_meet
          exact HD.out
        · go_simp
          obtain ⟨Wx, hWx⟩ : ∃ W', wt1.alloc (.cells #[.int .i64 0, .slice none 0 0] 30) = W' := ⟨_, rfl⟩
          have gx : W3.grownBy Wx (some Q) := by rw [← hWx]; exact grown_trans gt1 (World.grownBy_alloc wt1 _ (some Q))
          have cx : Cur Wx Q ao n cap := by rw [← hWx]; exact Cur.alloc ct1 _
          have hT0 : Two Wx wt1.heap.size (.int .i64 0) (.slice none 0 0) 30 := by rw [← hWx]; exact Two.new wt1 _ _ _
          have hMs := gt1.size
          have hMl := hT0.lt
          rw [hWx]
          refine hK.out _ _ (HFX.out Wx gx).2.2.1.c0 (fun _ => ?_)
          clear hK K hWx
          refine calm_one 7 (by kernel_rfl) rfl (fun K hK => ?_)
          go_simp
          refine (cAny Q ao n cap (widthV ms) Wx cx (HFX.out _ gx).2.2.2.2.1 hn (by omega)).mono ?_
          rintro e wt7 ⟨⟨gr, cr, xs, rfl, hxl, hrow⟩, ct7, gt7'⟩
          have gt7 := grown_trans gx gt7'
          have hgr := (World.ownsRow.lt hrow gr rfl).1
          have hsz7 := gx.size
          have hT7 := hT0.grown16 gt7' (by simp; omega)
          have hS7 := (HFX.out wt7 gt7).2.2.1.c0
          refine hK.out _ _ hS7 (fun _ => ?_)
          clear hK K
          refine calm_more14 1 [8] (by kernel_rfl) (by kernel_rfl) (by kernel_rfl) hS7 ?_
          iterate 1
            refine ⟨_, rfl, ?_⟩
            apply Exists.intro
            refine ⟨Or.inl ⟨by rfl, fun w' hw' => ?_⟩, ?_⟩
            · skip
              first
              | (go_simp; done)
              | (go_simp; with_reducible rfl)
            simp only [Act.put, List.getElem_toArray, List.getElem_cons_succ, List.getElem_cons_zero, List.setIfInBounds_toArray, List.set_cons_zero, List.set_cons_succ]
          have x0 := hT7.c0
          have x1 := hT7.c1
          have xf0 := hT7.frozen 0
          have xf1 := hT7.frozen 1
          refine calm_one 10 (by kernel_rfl) rfl (fun K hK => ?_)
          go_simp
          have HD := hidP (dmk_early (id := 20 + x) gt7 ct7 hrow (by omega) (by omega) hT7 (by omega) (by omega) (by omega))
          generalize (wt7.setCell ⟨wt1.heap.size, 0, none⟩ (.int .i64 (20 + x))).setCell ⟨wt1.heap.size, 1, none⟩ (.slice (some ⟨gr, 0, none⟩) xs.length cr) = wz at *
          have hSz : wz.cell? ⟨A, 0, none⟩ = some (.slice am ms.length cm) := by obtain ⟨-, -, -, -, -, -, hg, -⟩ := HD.out; exact (HFX.out wz hg).2.2.1.c0
          refine hK.out _ _ hSz (fun _ => ?_)
          clear hK K
          refine calm_rest [] rfl (by kernel_rfl) (by kernel_rfl) (by kernel_rfl) hSz ?_
          refine NoPanic.normal (NoPanic.normal ?_)
          go_wp2_with fail
          go_meet
          exact HD.out
      · go_simp
        obtain ⟨Wx, hWx⟩ : ∃ W', wt1.alloc (.cells #[.int .i64 0, .slice none 0 0] 30) = W' := ⟨_, rfl⟩
        have gx : W3.grownBy Wx (some Q) := by rw [← hWx]; exact grown_trans gt1 (World.grownBy_alloc wt1 _ (some Q))
        have cx : Cur Wx Q ao n cap := by rw [← hWx]; exact Cur.alloc ct1 _
        have hT0 : Two Wx wt1.heap.size (.int .i64 0) (.slice none 0 0) 30 := by rw [← hWx]; exact Two.new wt1 _ _ _
        have hMs := gt1.size
        have hMl := hT0.lt
        rw [hWx]
        refine hK.out _ _ (HFX.out Wx gx).2.2.1.c0 (fun _ => ?_)
        clear hK K hWx
        refine calm_one 6 (by kernel_rfl) rfl (fun K hK => ?_)
        go_simp
        refine (HWI.out _ (HFX.out _ gx).2.2.2.1.views.1).mono ?_
        rintro e wt2 ⟨rfl, hwt2⟩
        have hwt2' := hwt2.symm
        subst hwt2'
        refine hK.out _ _ (HFX.out Wx gx).2.2.1.c0 (fun _ => ?_)
        clear hK K
        refine calm_one 7 (by kernel_rfl) rfl (fun K hK => ?_)
        go_simp
        refine (cAny Q ao n cap (widthV ms) Wx cx (HFX.out _ gx).2.2.2.2.1 hn (by omega)).mono ?_
        rintro e wt7 ⟨⟨gr, cr, xs, rfl, hxl, hrow⟩, ct7, gt7'⟩
        have gt7 := grown_trans gx gt7'
        have hgr := (World.ownsRow.lt hrow gr rfl).1
        have hsz7 := gx.size
        have hT7 := hT0.grown16 gt7' (by simp; omega)
        have hS7 := (HFX.out wt7 gt7).2.2.1.c0
        refine hK.out _ _ hS7 (fun _ => ?_)
        clear hK K
        refine calm_more14 1 [8] (by kernel_rfl) (by kernel_rfl) (by kernel_rfl) hS7 ?_
        iterate 1
          refine ⟨_, rfl, ?_⟩
          apply Exists.intro
          refine ⟨Or.inl ⟨by rfl, fun w' hw' => ?_⟩, ?_⟩
          · skip
            first
            | (go_simp; done)
            | (go_simp; with_reducible rfl)
          simp only [Act.put, List.getElem_toArray, List.getElem_cons_succ, List.getElem_cons_zero, List.setIfInBounds_toArray, List.set_cons_zero, List.set_cons_succ]
        have x0 := hT7.c0
        have x1 := hT7.c1
        have xf0 := hT7.frozen 0
        have xf1 := hT7.frozen 1
        refine calm_one 10 (by kernel_rfl) rfl (fun K hK => ?_)
        go_simp
        have HD := hidP (dmk_early (id := 20 + x) gt7 ct7 hrow (by omega) (by omega) hT7 (by omega) (by omega) (by omega))
        generalize (wt7.setCell ⟨wt1.heap.size, 0, none⟩ (.int .i64 (20 + x))).setCell ⟨wt1.heap.size, 1, none⟩ (.slice (some ⟨gr, 0, none⟩) xs.length cr) = wz at *
        have hSz : wz.cell? ⟨A, 0, none⟩ = some (.slice am ms.length cm) := by obtain ⟨-, -, -, -, -, -, hg, -⟩ := HD.out; exact (HFX.out wz hg).2.2.1.c0
        refine hK.out _ _ hSz (fun _ => ?_)
        clear hK K
        refine calm_rest [] rfl (by kernel_rfl) (by kernel_rfl) (by kernel_rfl) hSz ?_
        refine NoPanic.normal (NoPanic.normal ?_)
        go_wp2_with fail
        go_meet
        exact HD.out
    · go_simp
      obtain ⟨Wx, hWx⟩ : ∃ W', (W3.alloc (.cells #[.int .i64 0, .slice none 0 0] 30)).drew = W' := ⟨_, rfl⟩
      have gx : W3.grownBy Wx (some Q) := by
        have ga := World.grownBy_alloc W3 (.cells #[.int .i64 0, .slice none 0 0] 30) (some Q)
        rw [← hWx]; exact ⟨ga.os, ga.tape, ga.output, ga.size, ga.block⟩
      have cx : Cur Wx Q ao n cap := by rw [← hWx]; exact Cur.alloc c3 _
      have hT0 : Two Wx W3.heap.size (.int .i64 0) (.slice none 0 0) 30 := by rw [← hWx]; exact Two.new W3 _ _ _
      have hMl := hT0.lt
      rw [hWx]
      refine hK.out _ _ (HFX.out Wx gx).2.2.1.c0 (fun _ => ?_)
      clear hK K hWx
      refine calm_one 1 (by kernel_rfl) rfl (fun K hK => ?_)
      go_simp
      refine (cBelow Q ao n cap 3 Wx cx (HFX.out _ gx).2.2.2.2.1 hn (by omega) (by omega)).mono ?_
      rintro e wt1 ⟨⟨x, hx0, hx1, rfl⟩, ct1, gt1'⟩
      have gt1 := grown_trans gx gt1'
      have hadd : IntKind.i64.wrap (20 + x) = 20 + x := by rw [IntWalk.i64_in _ ⟨by omega, by omega⟩]
      have hT1 := hT0.grown16 gt1' (by simp; omega)
      have hM1 := hT1.lt
      have hS1 := (HFX.out wt1 gt1).2.2.1.c0
      refine hK.out _ _ hS1 (fun _ => ?_)
      clear hK K
      refine calm_more14 4 [2] (by kernel_rfl) (by kernel_rfl) (by kernel_rfl) hS1 ?_
      iterate 1
        refine ⟨_, rfl, ?_⟩
        apply Exists.intro
        refine ⟨Or.inl ⟨by rfl, fun w' hw' => ?_⟩, ?_⟩
        · skip
          first
          | (go_simp; done)
          | (go_simp; with_reducible rfl)
        simp only [Act.put, List.getElem_toArray, List.getElem_cons_succ, List.getElem_cons_zero, List.setIfInBounds_toArray, List.set_cons_zero, List.set_cons_succ]
      refine calm_one 6 (by kernel_rfl) rfl (fun K hK => ?_)
      go_simp
      refine (HWI.out _ (HFX.out _ gt1).2.2.2.1.views.1).mono ?_
      rintro e wt2 ⟨rfl, hwt2⟩
      have hwt2' := hwt2.symm
      subst hwt2'
      refine hK.out _ _ (HFX.out wt1 gt1).2.2.1.c0 (fun _ => ?_)
      clear hK K
      refine calm_one 7 (by kernel_rfl) rfl (fun K hK => ?_)
      go_simp
      refine (cAny Q ao n cap (widthV ms) wt1 ct1 (HFX.out _ gt1).2.2.2.2.1 hn (by omega)).mono ?_
      rintro e wt7 ⟨⟨gr, cr, xs, rfl, hxl, hrow⟩, ct7, gt7'⟩
      have gt7 := grown_trans gt1 gt7'
      have hgr := (World.ownsRow.lt hrow gr rfl).1
      have hsz7 := gt1.size
      have hT7 := hT1.grown16 gt7' (by simp; omega)
      have hS7 := (HFX.out wt7 gt7).2.2.1.c0
      refine hK.out _ _ hS7 (fun _ => ?_)
      clear hK K
      refine calm_more14 1 [8] (by kernel_rfl) (by kernel_rfl) (by kernel_rfl) hS7 ?_
      iterate 1
        refine ⟨_, rfl, ?_⟩
        apply Exists.intro
        refine ⟨Or.inl ⟨by rfl, fun w' hw' => ?_⟩, ?_⟩
        · skip
          first
          | (go_simp; done)
          | (go_simp; with_reducible rfl)
        simp only [Act.put, List.getElem_toArray, List.getElem_cons_succ, List.getElem_cons_zero, List.setIfInBounds_toArray, List.set_cons_zero, List.set_cons_succ]
      have x0 := hT7.c0
      have x1 := hT7.c1
      have xf0 := hT7.frozen 0
      have xf1 := hT7.frozen 1
      refine calm_one 10 (by kernel_rfl) rfl (fun K hK => ?_)
      go_simp
      have HD := hidP (dmk_early (id := 20 + x) gt7 ct7 hrow (by omega) (by omega) hT7 (by omega) (by omega) (by omega))
      generalize (wt7.setCell ⟨W3.heap.size, 0, none⟩ (.int .i64 (20 + x))).setCell ⟨W3.heap.size, 1, none⟩ (.slice (some ⟨gr, 0, none⟩) xs.length cr) = wz at *
      have hSz : wz.cell? ⟨A, 0, none⟩ = some (.slice am ms.length cm) := by obtain ⟨-, -, -, -, -, -, hg, -⟩ := HD.out; exact (HFX.out wz hg).2.2.1.c0
      refine hK.out _ _ hSz (fun _ => ?_)
      clear hK K
      refine calm_rest [] rfl (by kernel_rfl) (by kernel_rfl) (by kernel_rfl) hSz ?_
      refine NoPanic.normal (NoPanic.normal ?_)
      go_wp2_with fail
      go_meet
      exact HD.out
  case rest =>
    obtain ⟨M, id0, gr, cr, xs, rfl, gc, cc, tc, hMc, hgM, hgr, hx6, rowc⟩ := hcut
    have HON := hidP (cOnce Q ao n cap 8 wc cc (HFX.out _ gc).2.2.2.2.1 hn (by omega) (by omega))
    clear c3 c3d gd a0 HWI
    go_wp2_with fail
    refine HON.out.mono ?_
    rintro e w5 ⟨⟨bb, rfl⟩, c5, g5'⟩
    have g5 := grown_trans gc g5'
    have t5 := tc.grown16 g5' (by simp; omega)
    have row5 : Row W3.heap.size w5 gr cr xs := World.ownsRow.kept rowc g5' (Or.inr (by simp [Value.ownBlock]; omega))
    clear HON cc gc tc rowc g5'
    cases bb with
    | false =>
      obtain ⟨wX, hwX⟩ : ∃ wX, w5 = wX := ⟨_, rfl⟩
      obtain ⟨idd, hidd⟩ : ∃ idd, id0 = idd := ⟨_, rfl⟩
      rw [hwX, hidd] at t5
      rw [hwX] at c5 g5 row5 ⊢
      clear hwX hidd
      have gX := g5
      have cX := c5
      have tX := t5
      have rowX := row5
      clear g5 c5 t5 row5
      have sA := (HFX.out _ gX).2.2.1
      have sA0 := sA.c0
      have sA1 := sA.c1
      have sM0 := tX.c0
      have sM1 := tX.c1
      clear sA
      go_wp2_with fail
      refine wp_region_takes (S := fun w' => w'.cell? ⟨A, 0, none⟩ = some (.slice am ms.length cm) ∧ w'.cell? ⟨A, 1, none⟩ = some (.slice al ls.length cl) ∧ w'.cell? ⟨M, 0, none⟩ = some (.int .i64 idd) ∧ w'.cell? ⟨M, 1, none⟩ = some (.slice (some ⟨gr, 0, none⟩) xs.length cr)) (fuel := 4) [0, 1, 2] (by kernel_rfl) (by kernel_rfl) (by kernel_rfl) (by kernel_rfl) ⟨sA0, sA1, sM0, sM1⟩ (fun _ => ?_)
      iterate 3
        refine ⟨_, rfl, ?_⟩
        apply Exists.intro
        refine ⟨Or.inl ⟨by rfl, fun w' hw' => ?_⟩, ?_⟩
        · obtain ⟨e1, e2, e3, e4⟩ := hw'
          first
          | (go_simp; done)
          | (go_simp; with_reducible rfl)
        simp only [Act.put, List.getElem_toArray, List.getElem_cons_succ, List.getElem_cons_zero, List.setIfInBounds_toArray, List.set_cons_zero, List.set_cons_succ]
      refine calm_one 3 (by kernel_rfl) rfl (fun K hK => ?_)
      go_simp
      refine (cFrom Q ao n cap 0 6 wX.drew cX.drew ((HFX.out _ gX).2.2.2.2.1 : CodeV wX ao n) hn (by omega) (by omega) (by omega) (by omega)).mono ?_
      rintro e w6 ⟨⟨mo, hm0, hm1, rfl⟩, c6, g6'⟩
      have g6w := grown_undrew14 g6'
      have g6 := grown_trans gX g6w
      obtain ⟨hRB, hMB, hAB, hwB, -, hLB⟩ := HFX.out w6 g6
      have tM6 := tX.grown16 g6w (by simp; omega)
      have row6 : Row W3.heap.size w6 gr cr xs := World.ownsRow.kept rowX g6w (Or.inr (by simp [Value.ownBlock]; omega))
      have hsz6 := g6.size
      have x0 := hRB.c0
      have x1 := hRB.c1
      have xf0 := hRB.frozen 0
      have xf1 := hRB.frozen 1
      have hS6 : w6.cell? ⟨A, 0, none⟩ = some (.slice am ms.length cm) ∧ w6.cell? ⟨A, 1, none⟩ = some (.slice al ls.length cl) ∧ w6.cell? ⟨M, 0, none⟩ = some (.int .i64 idd) ∧ w6.cell? ⟨M, 1, none⟩ = some (.slice (some ⟨gr, 0, none⟩) xs.length cr) := ⟨hAB.c0, hAB.c1, tM6.c0, tM6.c1⟩
      refine hK.out _ _ hS6 (fun _ => ?_)
      clear hK K
      refine calm_one 4 (by kernel_rfl) rfl (fun K hK => ?_)
      go_simp
      obtain ⟨wy, hwy⟩ : ∃ wy, (w6.setCell ⟨w.heap.size, 0, none⟩ (.slice am ms.length cm)).setCell ⟨w.heap.size, 1, none⟩ (.slice al ls.length cl) = wy := ⟨_, rfl⟩
      rw [hwy]
      have hothy : ∀ b, b ≠ w.heap.size → wy.heap[b]? = w6.heap[b]? := fun b hb => by
        rw [← hwy, Below.heap_setCell _ ⟨w.heap.size, 1, none⟩ _ b hb, Below.heap_setCell _ ⟨w.heap.size, 0, none⟩ _ b hb]
      have hRy : Two wy w.heap.size (.slice am ms.length cm) (.slice al ls.length cl) 27 := by rw [← hwy]; exact (hRB.set0 _).set1 _
      have hMy : Two wy (w.heap.size + 1) (.int .i64 0) (.slice none 0 0) 30 := (hothy _ (by omega)).trans hMB
      have hAy : Two wy A (.slice am ms.length cm) (.slice al ls.length cl) 27 := (hothy _ (by omega)).trans hAB
      have tMy : Two wy M (.int .i64 idd) (.slice (some ⟨gr, 0, none⟩) xs.length cr) 30 := (hothy _ (by omega)).trans tM6
      have hgy : w6.grownBy wy (some w.heap.size) := by rw [← hwy]; exact grown_trans (grown_setCell w6 w.heap.size 0 _) (grown_setCell _ w.heap.size 1 _)
      have hSy : wy.cell? ⟨A, 0, none⟩ = some (.slice am ms.length cm) ∧ wy.cell? ⟨A, 1, none⟩ = some (.slice al ls.length cl) ∧ wy.cell? ⟨M, 0, none⟩ = some (.int .i64 idd) ∧ wy.cell? ⟨M, 1, none⟩ = some (.slice (some ⟨gr, 0, none⟩) xs.length cr) := ⟨hAy.c0, hAy.c1, tMy.c0, tMy.c1⟩
      have y0 := hMy.c0
      have y1 := hMy.c1
      have yf0 := hMy.frozen 0
      have yf1 := hMy.frozen 1
      clear hwy
      refine hK.out _ _ hSy (fun _ => ?_)
      clear hK K
      refine calm_one 5 (by kernel_rfl) rfl (fun K hK => ?_)
      go_simp
      obtain ⟨wv, hwv⟩ : ∃ wv, (wy.setCell ⟨w.heap.size + 1, 0, none⟩ (.int .i64 idd)).setCell ⟨w.heap.size + 1, 1, none⟩ (.slice (some ⟨gr, 0, none⟩) xs.length cr) = wv := ⟨_, rfl⟩
      rw [hwv]
      have hothv : ∀ b, b ≠ w.heap.size + 1 → wv.heap[b]? = wy.heap[b]? := fun b hb => by
        rw [← hwv, Below.heap_setCell _ ⟨w.heap.size + 1, 1, none⟩ _ b hb, Below.heap_setCell _ ⟨w.heap.size + 1, 0, none⟩ _ b hb]
      have hMv : Two wv (w.heap.size + 1) (.int .i64 idd) (.slice (some ⟨gr, 0, none⟩) xs.length cr) 30 := by rw [← hwv]; exact (hMy.set0 _).set1 _
      have hRv : Two wv w.heap.size (.slice am ms.length cm) (.slice al ls.length cl) 27 := (hothv _ (by omega)).trans hRy
      have hAv : Two wv A (.slice am ms.length cm) (.slice al ls.length cl) 27 := (hothv _ (by omega)).trans hAy
      have tMv : Two wv M (.int .i64 idd) (.slice (some ⟨gr, 0, none⟩) xs.length cr) 30 := (hothv _ (by omega)).trans tMy
      have hgv : wy.grownBy wv (some (w.heap.size + 1)) := by rw [← hwv]; exact grown_trans (grown_setCell wy (w.heap.size + 1) 0 _) (grown_setCell _ (w.heap.size + 1) 1 _)
      have v0 := hRv.c0
      have v1 := hRv.c1
      have v2 := hMv.c0
      have v3 := hMv.c1
      have HFIN : Hid (DGot wv am cm al cl ms ls (some ⟨gr, 0, none⟩) cr xs ∧ Below w.heap.size w wv) := by
        have hwv2 := (hwB.kept hgy (fun k hk => by injection hk with hk; omega)).kept hgv (fun k hk => by injection hk with hk; omega)
        obtain ⟨s1, s2, s3, s4, s5, s6, -, -⟩ := HSM.out
        have hrw : Row W3.heap.size wv gr cr xs := World.ownsRow.kept (World.ownsRow.kept row6 hgy (Or.inr (by simp [Value.ownBlock]; omega))) hgv (Or.inr (by simp [Value.ownBlock]; omega))
        exact ⟨⟨hwv2.views.1, hwv2.views.2, hrw.view, s1, s2, s3, s4, row_cap hrw, s5, s6, hx6⟩, (hLB.grown hgy (by omega) (fun k hk => by injection hk with hk; omega)).grown hgv (by have := hgy.size; omega) (fun k hk => by injection hk with hk; omega)⟩
      have hSv : wv.cell? ⟨A, 0, none⟩ = some (.slice am ms.length cm) ∧ wv.cell? ⟨A, 1, none⟩ = some (.slice al ls.length cl) ∧ wv.cell? ⟨M, 0, none⟩ = some (.int .i64 idd) ∧ wv.cell? ⟨M, 1, none⟩ = some (.slice (some ⟨gr, 0, none⟩) xs.length cr) := ⟨hAv.c0, hAv.c1, tMv.c0, tMv.c1⟩
      clear hwv
      refine hK.out _ _ hSv (fun _ => ?_)
      clear hK K
      refine calm_rest [6] rfl (by kernel_rfl) (by kernel_rfl) (by kernel_rfl) hSv ?_
      iterate 1
        refine ⟨_, rfl, ?_⟩
        apply Exists.intro
        refine ⟨Or.inl ⟨by rfl, fun w' hw' => ?_⟩, ?_⟩
        · skip
          first
          | (go_simp; done)
          | (go_simp; with_reducible rfl)
        simp only [Act.put, List.getElem_toArray, List.getElem_cons_succ, List.getElem_cons_zero, List.setIfInBounds_toArray, List.set_cons_zero, List.set_cons_succ]
      refine NoPanic.normal (NoPanic.normal ?_)
      go_wp2_with fail
      refine bodyPost_ret (v := .tuple #[.agg #[.slice am ms.length cm, .slice al ls.length cl], .agg #[.int .i64 idd, .slice (some ⟨gr, 0, none⟩) xs.length cr], .int .i64 mo]) (by simp [results, Tryz.results12, go_sem, v0, v1, v2, v3]) rfl ?_
      exact ⟨am, cm, al, cl, ms, ls, idd, _, cr, xs, mo, rfl, HFIN.out.1, HFIN.out.2⟩
    | true =>
      have HBL := hidP (cBelow Q ao n cap 9 w5 c5 (HFX.out _ g5).2.2.2.2.1 hn (by omega) (by omega))
      go_wp2_with fail
      refine HBL.out.mono ?_
      rintro e w7 ⟨⟨idd, hi0, hi1, rfl⟩, c7, g7'⟩
      have g7 := grown_trans g5 g7'
      have t7 := t5.grown16 g7' (by simp; omega)
      have row7 : Row W3.heap.size w7 gr cr xs := World.ownsRow.kept row5 g7' (Or.inr (by simp [Value.ownBlock]; omega))
      have z0 := t7.c0
      have zf := t7.frozen 0
      obtain ⟨wX, hwX⟩ : ∃ wX, w7.setCell ⟨M, 0, none⟩ (.int .i64 idd) = wX := ⟨_, rfl⟩
      have gX : W3.grownBy wX (some Q) := by rw [← hwX]; exact grown_far16 g7 hMc
      have gM : w7.grownBy wX (some M) := by rw [← hwX]; exact grown_setCell w7 M 0 _
      have cX : Cur wX Q ao n cap := Cur.grown c7 gM (by simp; omega)
      have tX : Two wX M (.int .i64 idd) (.slice (some ⟨gr, 0, none⟩) xs.length cr) 30 := by rw [← hwX]; exact t7.set0 _
      have rowX : Row W3.heap.size wX gr cr xs := World.ownsRow.kept row7 gM (Or.inr (by simpa [Value.ownBlock] using hgM))
      clear g5 c5 t5 row5 HBL g7 g7' c7 t7 row7 gM
      go_wp2_with fail
      try rw [hwX]
      clear hwX z0 zf
      have sA := (HFX.out _ gX).2.2.1
      have sA0 := sA.c0
      have sA1 := sA.c1
      have sM0 := tX.c0
      have sM1 := tX.c1
      clear sA
      refine wp_region_takes (S := fun w' => w'.cell? ⟨A, 0, none⟩ = some (.slice am ms.length cm) ∧ w'.cell? ⟨A, 1, none⟩ = some (.slice al ls.length cl) ∧ w'.cell? ⟨M, 0, none⟩ = some (.int .i64 idd) ∧ w'.cell? ⟨M, 1, none⟩ = some (.slice (some ⟨gr, 0, none⟩) xs.length cr)) (fuel := 4) [0, 1, 2] (by kernel_rfl) (by kernel_rfl) (by kernel_rfl) (by kernel_rfl) ⟨sA0, sA1, sM0, sM1⟩ (fun _ => ?_)
      iterate 3
        refine ⟨_, rfl, ?_⟩
        apply Exists.intro
        refine ⟨Or.inl ⟨by rfl, fun w' hw' => ?_⟩, ?_⟩
        · obtain ⟨e1, e2, e3, e4⟩ := hw'
          first
          | (go_simp; done)
          | (go_simp; with_reducible rfl)
        simp only [Act.put, List.getElem_toArray, List.getElem_cons_succ, List.getElem_cons_zero, List.setIfInBounds_toArray, List.set_cons_zero, List.set_cons_succ]
      refine calm_one 3 (by kernel_rfl) rfl (fun K hK => ?_)
      go_simp
      refine (cFrom Q ao n cap 0 6 wX.drew cX.drew ((HFX.out _ gX).2.2.2.2.1 : CodeV wX ao n) hn (by omega) (by omega) (by omega) (by omega)).mono ?_
      rintro e w6 ⟨⟨mo, hm0, hm1, rfl⟩, c6, g6'⟩
      have g6w := grown_undrew14 g6'
      have g6 := grown_trans gX g6w
      obtain ⟨hRB, hMB, hAB, hwB, -, hLB⟩ := HFX.out w6 g6
      have tM6 := tX.grown16 g6w (by simp; omega)
      have row6 : Row W3.heap.size w6 gr cr xs := World.ownsRow.kept rowX g6w (Or.inr (by simp [Value.ownBlock]; omega))
      have hsz6 := g6.size
      have x0 := hRB.c0
      have x1 := hRB.c1
      have xf0 := hRB.frozen 0
      have xf1 := hRB.frozen 1
      have hS6 : w6.cell? ⟨A, 0, none⟩ = some (.slice am ms.length cm) ∧ w6.cell? ⟨A, 1, none⟩ = some (.slice al ls.length cl) ∧ w6.cell? ⟨M, 0, none⟩ = some (.int .i64 idd) ∧ w6.cell? ⟨M, 1, none⟩ = some (.slice (some ⟨gr, 0, none⟩) xs.length cr) := ⟨hAB.c0, hAB.c1, tM6.c0, tM6.c1⟩
      refine hK.out _ _ hS6 (fun _ => ?_)
      clear hK K
      refine calm_one 4 (by kernel_rfl) rfl (fun K hK => ?_)
      go_simp
      obtain ⟨wy, hwy⟩ : ∃ wy, (w6.setCell ⟨w.heap.size, 0, none⟩ (.slice am ms.length cm)).setCell ⟨w.heap.size, 1, none⟩ (.slice al ls.length cl) = wy := ⟨_, rfl⟩
      rw [hwy]
      have hothy : ∀ b, b ≠ w.heap.size → wy.heap[b]? = w6.heap[b]? := fun b hb => by
        rw [← hwy, Below.heap_setCell _ ⟨w.heap.size, 1, none⟩ _ b hb, Below.heap_setCell _ ⟨w.heap.size, 0, none⟩ _ b hb]
      have hRy : Two wy w.heap.size (.slice am ms.length cm) (.slice al ls.length cl) 27 := by rw [← hwy]; exact (hRB.set0 _).set1 _
      have hMy : Two wy (w.heap.size + 1) (.int .i64 0) (.slice none 0 0) 30 := (hothy _ (by omega)).trans hMB
      have hAy : Two wy A (.slice am ms.length cm) (.slice al ls.length cl) 27 := (hothy _ (by omega)).trans hAB
      have tMy : Two wy M (.int .i64 idd) (.slice (some ⟨gr, 0, none⟩) xs.length cr) 30 := (hothy _ (by omega)).trans tM6
      have hgy : w6.grownBy wy (some w.heap.size) := by rw [← hwy]; exact grown_trans (grown_setCell w6 w.heap.size 0 _) (grown_setCell _ w.heap.size 1 _)
      have hSy : wy.cell? ⟨A, 0, none⟩ = some (.slice am ms.length cm) ∧ wy.cell? ⟨A, 1, none⟩ = some (.slice al ls.length cl) ∧ wy.cell? ⟨M, 0, none⟩ = some (.int .i64 idd) ∧ wy.cell? ⟨M, 1, none⟩ = some (.slice (some ⟨gr, 0, none⟩) xs.length cr) := ⟨hAy.c0, hAy.c1, tMy.c0, tMy.c1⟩
      have y0 := hMy.c0
      have y1 := hMy.c1
      have yf0 := hMy.frozen 0
      have yf1 := hMy.frozen 1
      clear hwy
      refine hK.out _ _ hSy (fun _ => ?_)
      clear hK K
      refine calm_one 5 (by kernel_rfl) rfl (fun K hK => ?_)
      go_simp
      obtain ⟨wv, hwv⟩ : ∃ wv, (wy.setCell ⟨w.heap.size + 1, 0, none⟩ (.int .i64 idd)).setCell ⟨w.heap.size + 1, 1, none⟩ (.slice (some ⟨gr, 0, none⟩) xs.length cr) = wv := ⟨_, rfl⟩
      rw [hwv]
      have hothv : ∀ b, b ≠ w.heap.size + 1 → wv.heap[b]? = wy.heap[b]? := fun b hb => by
        rw [← hwv, Below.heap_setCell _ ⟨w.heap.size + 1, 1, none⟩ _ b hb, Below.heap_setCell _ ⟨w.heap.size + 1, 0, none⟩ _ b hb]
      have hMv : Two wv (w.heap.size + 1) (.int .i64 idd) (.slice (some ⟨gr, 0, none⟩) xs.length cr) 30 := by rw [← hwv]; exact (hMy.set0 _).set1 _
      have hRv : Two wv w.heap.size (.slice am ms.length cm) (.slice al ls.length cl) 27 := (hothv _ (by omega)).trans hRy
      have hAv : Two wv A (.slice am ms.length cm) (.slice al ls.length cl) 27 := (hothv _ (by omega)).trans hAy
      have tMv : Two wv M (.int .i64 idd) (.slice (some ⟨gr, 0, none⟩) xs.length cr) 30 := (hothv _ (by omega)).trans tMy
      have hgv : wy.grownBy wv (some (w.heap.size + 1)) := by rw [← hwv]; exact grown_trans (grown_setCell wy (w.heap.size + 1) 0 _) (grown_setCell _ (w.heap.size + 1) 1 _)
      have v0 := hRv.c0
      have v1 := hRv.c1
      have v2 := hMv.c0
      have v3 := hMv.c1
      have HFIN : Hid (DGot wv am cm al cl ms ls (some ⟨gr, 0, none⟩) cr xs ∧ Below w.heap.size w wv) := by
        have hwv2 := (hwB.kept hgy (fun k hk => by injection hk with hk; omega)).kept hgv (fun k hk => by injection hk with hk; omega)
        obtain ⟨s1, s2, s3, s4, s5, s6, -, -⟩ := HSM.out
        have hrw : Row W3.heap.size wv gr cr xs := World.ownsRow.kept (World.ownsRow.kept row6 hgy (Or.inr (by simp [Value.ownBlock]; omega))) hgv (Or.inr (by simp [Value.ownBlock]; omega))
        exact ⟨⟨hwv2.views.1, hwv2.views.2, hrw.view, s1, s2, s3, s4, row_cap hrw, s5, s6, hx6⟩, (hLB.grown hgy (by omega) (fun k hk => by injection hk with hk; omega)).grown hgv (by have := hgy.size; omega) (fun k hk => by injection hk with hk; omega)⟩
      have hSv : wv.cell? ⟨A, 0, none⟩ = some (.slice am ms.length cm) ∧ wv.cell? ⟨A, 1, none⟩ = some (.slice al ls.length cl) ∧ wv.cell? ⟨M, 0, none⟩ = some (.int .i64 idd) ∧ wv.cell? ⟨M, 1, none⟩ = some (.slice (some ⟨gr, 0, none⟩) xs.length cr) := ⟨hAv.c0, hAv.c1, tMv.c0, tMv.c1⟩
      clear hwv
      refine hK.out _ _ hSv (fun _ => ?_)
      clear hK K
      refine calm_rest [6] rfl (by kernel_rfl) (by kernel_rfl) (by kernel_rfl) hSv ?_
      iterate 1
        refine ⟨_, rfl, ?_⟩
        apply Exists.intro
        refine ⟨Or.inl ⟨by rfl, fun w' hw' => ?_⟩, ?_⟩
        · skip
          first
          | (go_simp; done)
          | (go_simp; with_reducible rfl)
        simp only [Act.put, List.getElem_toArray, List.getElem_cons_succ, List.getElem_cons_zero, List.setIfInBounds_toArray, List.set_cons_zero, List.set_cons_succ]
      refine NoPanic.normal (NoPanic.normal ?_)
      go_wp2_with fail
      refine bodyPost_ret (v := .tuple #[.agg #[.slice am ms.length cm, .slice al ls.length cl], .agg #[.int .i64 idd, .slice (some ⟨gr, 0, none⟩) xs.length cr], .int .i64 mo]) (by simp [results, Tryz.results12, go_sem, v0, v1, v2, v3]) rfl ?_
      exact ⟨am, cm, al, cl, ms, ls, idd, _, cr, xs, mo, rfl, HFIN.out.1, HFIN.out.2⟩
end Go.Proofs.YtfbhohpbhjlihaaGreat
namespace Go.Proofs.YtfbhohpbhjlihaaGreat
open Go Go.RowKit

theorem WA.got {base : Nat} {w : World} {am al : Option Addr} {cm cl : Nat} {ms : List Mk} {ls : List (List Int)} (h : WA base w am cm al cl ms ls) : DGot w am cm al cl ms ls none 0 [] := by
  obtain ⟨s1, s2, s3, s4, s5, s6, -, -⟩ := h.small
  exact ⟨h.views.1, h.views.2, Or.inl rfl, s1, s2, s3, s4, by simp, s5, s6, by simp⟩

set_option maxRecDepth 100000 in
set_option maxHeartbeats 2000000 in
theorem cDrawWebOk (ao : Option Addr) (n cap : Nat) (w : World) (hv : CodeV w ao n) (hn : n ≤ 4096) :
    Calls Tryz.prog 91 #[.slice ao n cap] w fun e w' => ∃ am cm al cl ms ls, e = .returned (.agg #[.slice am ms.length cm, .slice al ls.length cl]) ∧ WA w.heap.size w' am cm al cl ms ls ∧ Below w.heap.size w w' := by
  obtain ⟨W, hW⟩ : ∃ W, w.alloc (.cells #[.slice none 0 0, .slice none 0 0] 27) = W := ⟨_, rfl⟩
  have hWs : W.heap.size = w.heap.size + 1 := by rw [← hW]; simp
  have L0 : Below w.heap.size w W := by rw [← hW]; exact (Below.refl _ _).alloc (Nat.le_refl _) _
  have tR : Two W w.heap.size (.slice none 0 0) (.slice none 0 0) 27 := by rw [← hW]; exact Two.new w _ _ _
  have hvW := hv.below (Nat.le_refl _) L0
  have HN := hidP (cNew ao n cap W hvW hn)
  have HWW := hidP hW
  have HST := hidP (And.intro L0 (And.intro tR hvW))
  clear hW L0 tR hv hvW
  go_enter Tryz.func91, Tryz.ntmps91
  go_wp2_with fail
  rw [HWW.out]
  refine HN.out.mono ?_
  rintro e w1 ⟨rfl, c1, L1⟩
  have hv1 := HST.out.2.2.below (Nat.le_refl _) L1
  have hs1 := L1.size
  have hq1 := c1.lt
  have tR1 := HST.out.2.1.below L1
  have HDA := hidP (cWebAny W.heap.size ao n cap w1 c1 hv1 hn)
  have HL1 := hidP (chain HST.out.1 L1)
  clear HN HWW HST L1 hv1
  generalize hQ : W.heap.size = Q at *
  have hQw : w.heap.size < Q := by omega
  clear hQ hWs
  go_wp2_with fail
  refine HDA.out.mono ?_
  rintro e w2 ⟨⟨am, cm, al, cl, ms, ls, rfl, hwa⟩, c2, g2⟩
  have hs2 := g2.size
  have t2 : Two w2 w.heap.size (.slice none 0 0) (.slice none 0 0) 27 := (g2.block _ (by omega) (by simp; omega)).trans tR1
  have e0 := t2.c0
  have e1 := t2.c1
  have f0 := t2.frozen 0
  have f1 := t2.frozen 1
  have HF := hidP (And.intro hwa (And.intro t2 (HL1.out.grown g2 (by omega) (fun k hk => by injection hk with hk; omega))))
  clear hwa t2 g2 c2 c1 tR1 HDA
  go_wp2_with fail
  refine bodyPost_ret (v := .agg #[.slice am ms.length cm, .slice al ls.length cl]) (by simp [results, Tryz.results91, go_sem, e0, e1]) rfl ?_
  obtain ⟨hwa, t2, L2⟩ := HF.out
  obtain ⟨wy, hwy⟩ : ∃ wy, (w2.setCell ⟨w.heap.size, 0, none⟩ (.slice am ms.length cm)).setCell ⟨w.heap.size, 1, none⟩ (.slice al ls.length cl) = wy := ⟨_, rfl⟩
  rw [hwy]
  have hgy : w2.grownBy wy (some w.heap.size) := by rw [← hwy]; exact grown_trans (grown_setCell w2 w.heap.size 0 _) (grown_setCell _ w.heap.size 1 _)
  have hw2 := hwa.kept hgy (fun k hk => by injection hk with hk; omega)
  exact ⟨am, cm, al, cl, ms, ls, rfl, hw2.mono (by omega), L2.grown hgy (by omega) (fun k hk => by injection hk with hk; omega)⟩

theorem DGot.grown16 {w w' : World} {am : Option Addr} {cm : Nat} {al : Option Addr} {cl : Nat} {ms : List Mk} {ls : List (List Int)} {aq : Option Addr} {cq : Nat} {q : List Int} (h : DGot w am cm al cl ms ls aq cq q) (L : Below w.heap.size w w') : DGot w' am cm al cl ms ls aq cq q :=
  ⟨h.mv.next L, h.cv.next L, View.next h.qv L, h.msm, h.csm, h.mc, h.lc, h.qc, h.n9, h.l9, h.q6⟩

set_option maxRecDepth 100000 in
set_option maxHeartbeats 1000000 in
theorem cDrawIslands (ao : Option Addr) (n cap : Nat) (w : World) (hv : CodeV w ao n) (hn : n ≤ 4096) :
    Calls Tryz.prog 14 #[.slice ao n cap] w fun e w' => ∃ am cm al cl ms ls, e = .returned (.agg #[.slice am ms.length cm, .slice al ls.length cl]) ∧ DGot w' am cm al cl ms ls none 0 [] ∧ Below w.heap.size w w' := by
  obtain ⟨W, hW⟩ : ∃ W, w.alloc (.cells #[.slice none 0 0, .slice none 0 0] 27) = W := ⟨_, rfl⟩
  have hWs : W.heap.size = w.heap.size + 1 := by rw [← hW]; simp
  have L0 : Below w.heap.size w W := by rw [← hW]; exact (Below.refl _ _).alloc (Nat.le_refl _) _
  have tR : Two W w.heap.size (.slice none 0 0) (.slice none 0 0) 27 := by rw [← hW]; exact Two.new w _ _ _
  have HC := hidP (cDrawWebOk ao n cap W (hv.below (Nat.le_refl _) L0) hn)
  have HWW := hidP hW
  have HST := hidP (And.intro L0 tR)
  clear hW L0 tR hv
  go_enter Tryz.func14, Tryz.ntmps14
  go_wp2_with fail
  rw [HWW.out]
  refine HC.out.mono ?_
  rintro e w2 ⟨am, cm, al, cl, ms, ls, rfl, hd, L2⟩
  have t2 := HST.out.2.below L2
  have e0 := t2.c0
  have e1 := t2.c1
  have f0 := t2.frozen 0
  have f1 := t2.frozen 1
  have HF := hidP (And.intro hd (And.intro t2 (chain HST.out.1 L2)))
  clear hd t2 L2 HST HWW HC
  go_wp2_with fail
  refine bodyPost_ret (v := .agg #[.slice am ms.length cm, .slice al ls.length cl]) (by simp [results, Tryz.results14, go_sem, e0, e1]) rfl ?_
  obtain ⟨hd, t2, L2⟩ := HF.out
  obtain ⟨wy, hwy⟩ : ∃ wy, (w2.setCell ⟨w.heap.size, 0, none⟩ (.slice am ms.length cm)).setCell ⟨w.heap.size, 1, none⟩ (.slice al ls.length cl) = wy := ⟨_, rfl⟩
  rw [hwy]
  have hgy : w2.grownBy wy (some w.heap.size) := by rw [← hwy]; exact grown_trans (grown_setCell w2 w.heap.size 0 _) (grown_setCell _ w.heap.size 1 _)
  have hlt := t2.lt
  exact ⟨am, cm, al, cl, ms, ls, rfl, (hd.kept hgy (fun k hk => by injection hk with hk; omega)).got, L2.grown hgy (by omega) (fun k hk => by injection hk with hk; omega)⟩
end Go.Proofs.YtfbhohpbhjlihaaGreat
