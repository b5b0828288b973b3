/-
  The program's Linked.
  The laws' own markWeb and heldWeb over a web that Linked hands out.
  What Linked hands out, written over and held: the whole web.
  What Linked hands out, as the law uses it: how it reads, that it stays, that it may be written over and is held.
  What FnWebs wants of a web with one more mark: plain.
-/
import Derived.Test.YtfbhohpbhjlihaaGreatNCatZz
import Derived.Test.YtfbhohpbhjlihaaGreatHM9Zz
import Derived.Test.YtfbhohpbhjlihaaGreatFg0Zz
import Derived.Test.YtfbhohpbhjlihaaGreatMArgsZz
import Derived.Deep.LoopGhost
import Derived.Test.YtfbhohpbhjlihaaGreatFeHelpZz
import Derived.Test.YtfbhohpbhjlihaaGreatFeLkZz
import Derived.Test.YtfbhohpbhjlihaaGreatFgRowZz
import Derived.Test.YtfbhohpbhjlihaaGreatMathZz
namespace Go.Proofs.YtfbhohpbhjlihaaGreat
open Go Go.RowKit Go.Deep

theorem mview_sm {w : World} {am : Option Addr} {ms : List Mk} (h : MView w am ms) : ∃ ss : List Sm, SView w am ss ∧ smMarks ss = ms ∧ SLies w ss ∧ ss.length = ms.length := by
  rcases h with rfl | ⟨b, off, rfl, hb, hs⟩
  · exact ⟨[], Or.inl rfl, rfl, (fun x hx => by cases hx), rfl⟩
  · have each : ∀ i, i < ms.length → ∃ q : Sm, w.cell? ⟨b, off + i * 2, none⟩ = some (.int .i64 q.1) ∧ w.cell? ⟨b, off + i * 2 + 1, none⟩ = some (.slice q.2.1 q.2.2.2.length q.2.2.1) ∧ View w q.2.1 q.2.2.2 ∧ smMark q = mnth ms i := by
      intro i hi
      obtain ⟨c0, ao, ca, c1, hv⟩ := hs.at (i := i) hi
      exact ⟨(mid ms i, ao, ca, mat ms i), c0, c1, hv, rfl⟩
    obtain ⟨q, hq⟩ := choose_lt each
    have hl : ((List.range ms.length).map q).length = ms.length := by simp
    have hat : ∀ i, i < ms.length → snth ((List.range ms.length).map q) i = q i := fun i hi => by simp [snth, List.getD, hi]
    refine ⟨(List.range ms.length).map q, Or.inr ⟨b, off, rfl, hb, fun i hi => ?_⟩, ?_, ?_, hl⟩
    · rw [hl] at hi
      rw [hat i hi]
      exact ⟨(hq i hi).1, (hq i hi).2.1⟩
    · refine List.ext_getElem (by simp [smMarks]) (fun i h1 h2 => ?_)
      have := (hq i h2).2.2.2
      simp only [smMarks, List.getElem_map, List.getElem_range]
      rw [this]
      simp [mnth, List.getD, h2]
    · intro x hx
      obtain ⟨i, hi, rfl⟩ := List.mem_map.1 hx
      exact (hq i (List.mem_range.1 hi)).2.2.1

/-- What Linked hands out. -/
def LkdOut (base : Nat) (w : World) (v : Value) (ms : List Mk) (ls : List (List Int)) (m : Mk) (most : Int) : Prop :=
  (linkedB ms ls m most = false ∧ v = .agg #[.slice none 0 0, .slice none 0 0]) ∨ (linkedB ms ls m most = true ∧ ∃ g gl, v = .agg #[.slice (some ⟨g, 0, none⟩) (ms.length + 1) (ms.length + 1), .slice (some ⟨gl, 0, none⟩) (ms.length + 1) (ms.length + 1)] ∧ OwnWeb base w g gl (ms ++ [m]) (cn (lnkL ms ls (nearI ms m.2 most) m.1)) (ms.length + 1))

theorem cview_vals {w : World} {al : Option Addr} {ls : List (List Int)} (h : CView w al ls) : ∃ vs : List Value, vs.length = ls.length ∧ SrcAt w 1 al vs.length vs ∧ (∀ a, al = some a → vs ≠ [] → a.block < w.heap.size) ∧ ∀ i, i < ls.length → ∃ a c, vs[i]? = some (.slice a (cn ls i).length c) ∧ View w a (cn ls i) := by
  rcases h with rfl | ⟨b, off, rfl, hb, hs⟩
  · exact ⟨[], rfl, ⟨rfl, (fun u hu => by cases hu), Or.inl rfl⟩, (fun a _ h => absurd rfl h), fun i hi => by simp at hi⟩
  · have each : ∀ i, i < ls.length → ∃ v : Value, w.cell? ⟨b, off + i, none⟩ = some v ∧ v.oneCell' = true ∧ ∃ a c, v = .slice a (cn ls i).length c ∧ View w a (cn ls i) := by
      intro i hi
      obtain ⟨a, c, h1, h2⟩ := hs i hi
      exact ⟨_, h1, rfl, a, c, rfl, h2⟩
    obtain ⟨f, hf⟩ := choose_lt each
    refine ⟨(List.range ls.length).map f, by simp, ⟨by simp, fun u hu => ?_, Or.inr ⟨_, rfl, fun j u hu => ?_⟩⟩, fun a e _ => by injection e with e; rw [← e]; exact hb, fun i hi => ?_⟩
    · obtain ⟨i, hi, rfl⟩ := List.mem_map.1 hu
      exact (hf i (List.mem_range.1 hi)).2.1
    · rw [Go.WideShapes.add_plain]
      have hj : j < ls.length := by
        rcases Nat.lt_or_ge j ls.length with h1 | h1
        · exact h1
        · rw [List.getElem?_eq_none (by simp; exact h1)] at hu; cases hu
      rw [List.getElem?_map, List.getElem?_range hj] at hu
      injection hu with hu
      rw [← hu]
      exact (hf j hj).1
    · obtain ⟨h1, h2, a, c, h3, h4⟩ := hf i hi
      exact ⟨a, c, by rw [List.getElem?_map, List.getElem?_range hi]; show some (f i) = _; rw [h3], h4⟩
theorem vr_cview {base : Nat} {w : World} {g c : Nat} {vs : List Value} {ls : List (List Int)} (h : VR base w g c (vs ++ [.slice none 0 0])) (hl : vs.length = ls.length) (hv : ∀ i, i < ls.length → ∃ a c, vs[i]? = some (.slice a (cn ls i).length c) ∧ View w a (cn ls i)) : CView w (some ⟨g, 0, none⟩) (ls ++ [[]]) := by
  refine Or.inr ⟨g, 0, rfl, h.lt.2, fun i hi => ?_⟩
  have hi' : i < ls.length + 1 := by simpa using hi
  rw [Nat.zero_add, World.ownsRow.cellAt h i (by simp; omega)]
  rcases Nat.lt_or_ge i ls.length with e | e
  · obtain ⟨a, c, h1, h2⟩ := hv i e
    have ec : cn (ls ++ [[]]) i = cn ls i := by simp [cn, List.getD, List.getElem?_append_left e]
    rw [ec, List.getElem?_append_left (by omega)]
    exact ⟨a, c, h1, h2⟩
  · obtain rfl : i = ls.length := by omega
    have ec : cn (ls ++ [[]]) ls.length = [] := by simp [cn, List.getD]
    rw [ec, ← hl]
    exact ⟨none, 0, by simp, Or.inl rfl⟩
theorem LkChg.trans {gl n : Nat} {V V1 V2 : Nat → Value} {w w1 w2 : World} (h : LkChg gl n V V1 w w1) (k : LkChg gl n V1 V2 w1 w2) : LkChg gl n V V2 w w2 := by
  refine ⟨k.os.trans h.os, k.tape.trans h.tape, k.output.trans h.output, Nat.le_trans h.size k.size, fun b hb h1 h2 => ?_, fun i hi q hq => ?_⟩
  · refine (k.block b (Nat.lt_of_lt_of_le hb h.size) h1 (fun i hi e => ?_)).trans (h.block b hb h1 h2)
    rcases h.fresh i hi b e with ⟨j, hj, e2⟩ | e2
    · exact h2 j hj e2
    · omega
  · rcases k.fresh i hi q hq with ⟨j, hj, e2⟩ | e2
    · rcases h.fresh j hj q e2 with h3 | h3
      · exact Or.inl h3
      · exact Or.inr h3
    · exact Or.inr (Nat.le_trans h.size e2)
theorem LkChg.below {gl n : Nat} {V V1 : Nat → Value} {w w1 w2 : World} (h : LkChg gl n V V1 w w1) (L : Below w1.heap.size w1 w2) : LkChg gl n V V1 w w2 :=
  ⟨L.os.trans h.os, L.tape.trans h.tape, L.output.trans h.output, Nat.le_trans h.size L.size, fun b hb h1 h2 => (L.block b (Nat.lt_of_lt_of_le hb h.size)).trans (h.block b hb h1 h2), h.fresh⟩
theorem LkChg.refl (gl n : Nat) (V : Nat → Value) (w : World) : LkChg gl n V V w w := ⟨rfl, rfl, rfl, Nat.le_refl _, fun _ _ _ _ => rfl, fun i hi _ hq => Or.inl ⟨i, hi, hq⟩⟩
theorem OPart.chg {base : Nat} {w w' : World} {g gl n : Nat} {ms : List Mk} {G cc : Nat → Nat} {V V1 : Nat → Value} {lo hi : Nat} (h : OPart base w g ms.length ms G cc lo hi) (k : LkChg gl n V V1 w w') (hg : g ≠ gl) (hgl : gl < lo) (hV : ∀ i, i < n → ∀ q, (V i).ownBlock = some q → hi ≤ q) (hgh : g < hi) : OPart base w' g ms.length ms G cc lo hi :=
  ⟨h.blk.same (k.block g h.blk.lt hg (fun i hi' e => by have := hV i hi' g e; omega)), fun i hi' => by
    have hw := h.within i hi'
    have hr := h.rows i hi'
    have e := k.block (G i) hr.lt.2 (by omega) (fun j hj e => by have := hV j hj _ e; omega)
    obtain ⟨h1, h2 | ⟨g', c', cur, e1, h3, h4, h5⟩⟩ := hr
    · exact ⟨h1, Or.inl h2⟩
    · refine ⟨h1, Or.inr ⟨g', c', cur, e1, h3, ?_, h5⟩⟩
      injection e1 with e1 e2 e3
      injection e1 with e1
      injection e1 with e1
      rw [← e1, e, e1]
      exact h4, h.rise, h.within, Nat.le_trans h.top k.size, h.ge, h.out⟩
theorem OPart.low {base base' : Nat} {w : World} {g k : Nat} {ms : List Mk} {G cc : Nat → Nat} {lo hi : Nat} (h : OPart base w g k ms G cc lo hi) (hb : base' ≤ base) : OPart base' w g k ms G cc lo hi :=
  ⟨h.blk, fun i hi' => (h.rows i hi').mono hb, h.rise, h.within, h.top, Nat.le_trans hb h.ge, h.out⟩
theorem NM.low {base base' : Nat} {w : World} {g n : Nat} {V : Nat → Value} {X : Nat → List Int} {lo : Nat} (h : NM base w g n V X lo) (hb : base' ≤ base) : NM base' w g n V X lo :=
  ⟨h.blk, h.own, h.apart, Nat.le_trans hb h.ge, h.out, h.top⟩
/-- A block of two that no link reaches. -/
theorem two_chg {gl n b : Nat} {V V1 : Nat → Value} {w w' : World} {x y : Value} {t : TypeId} (h : Two w b x y t) (k : LkChg gl n V V1 w w') (h1 : b ≠ gl) (h2 : ∀ i, i < n → (V i).ownBlock ≠ some b) : Two w' b x y t := (k.block b h.lt h1 h2).trans h
theorem OwnWeb.next {base : Nat} {w w' : World} {g gl n : Nat} {ms : List Mk} {X : Nat → List Int} (h : OwnWeb base w g gl ms X n) (L : Below w.heap.size w w') : OwnWeb base w' g gl ms X n := by
  obtain ⟨G, cc, V, lo, hi, h1, h2, h3, h4⟩ := h
  exact ⟨G, cc, V, lo, hi, h1.next L, h2.next L, h3, h4⟩

set_option maxRecDepth 100000 in
set_option maxHeartbeats 20000000 in
theorem iLinked (am al ao : Option Addr) (cm cl ca : Nat) (ms : List Mk) (ls : List (List Int)) (m : Mk) (most : Int) (w : World) (hm : MView w am ms) (hl : CView w al ls) (hsm : MSmall ms) (hcs : CSmall ls) (hcm : ms.length ≤ cm) (hcl : ls.length ≤ cl) (hv : View w ao m.2) (hn : m.2.length ≤ 1048576) :
    Calls Tryz.prog 13 #[.agg #[.slice am ms.length cm, .slice al ls.length cl], .agg #[.int .i64 m.1, .slice ao m.2.length ca], .int .i64 most] w fun e w' => ∃ v, e = .returned (.tuple #[v, .bool (linkedB ms ls m most)]) ∧ LkdOut w.heap.size w' v ms ls m most ∧ Below w.heap.size w w' := by
  obtain ⟨W1, hW1⟩ : ∃ W, w.alloc (.cells #[.slice am ms.length cm, .slice al ls.length cl] 27) = W := ⟨_, rfl⟩
  obtain ⟨W2, hW2⟩ : ∃ W, W1.alloc (.cells #[.int .i64 m.1, .slice ao m.2.length ca] 30) = W := ⟨_, rfl⟩
  obtain ⟨W3, hW3⟩ : ∃ W, W2.alloc (.cells #[.slice none 0 0, .slice none 0 0] 27) = W := ⟨_, rfl⟩
  obtain ⟨W4, hW4⟩ : ∃ W, W3.alloc (.cells #[.int .i64 m.1, .slice ao m.2.length ca] 30) = W := ⟨_, rfl⟩
  have s1 : W1.heap.size = w.heap.size + 1 := by rw [← hW1]; simp
  have s2 : W2.heap.size = w.heap.size + 1 + 1 := by rw [← hW2]; simp [s1]
  have s3 : W3.heap.size = w.heap.size + 1 + 1 + 1 := by rw [← hW3]; simp [s2]
  have s4 : W4.heap.size = w.heap.size + 1 + 1 + 1 + 1 := by rw [← hW4]; simp [s3]
  obtain ⟨W, hW⟩ : ∃ W, W4.alloc (.cells #[.slice am ms.length cm, .slice (some ⟨w.heap.size + 1 + 1 + 1, 0, none⟩) 1 1] 24) = W := ⟨_, rfl⟩
  have b1 : Below w.heap.size w W1 := by rw [← hW1]; exact (Below.refl _ _).alloc (Nat.le_refl _) _
  have b2 : Below W1.heap.size W1 W2 := by rw [← hW2]; exact (Below.refl _ _).alloc (Nat.le_refl _) _
  have b3 : Below W2.heap.size W2 W3 := by rw [← hW3]; exact (Below.refl _ _).alloc (Nat.le_refl _) _
  have b4 : Below W3.heap.size W3 W4 := by rw [← hW4]; exact (Below.refl _ _).alloc (Nat.le_refl _) _
  have b5 : Below W4.heap.size W4 W := by rw [← hW]; exact (Below.refl _ _).alloc (Nat.le_refl _) _
  have hI : WebIn W w.heap.size am cm ms al cl ls := by
    have h1 : WebIn W1 w.heap.size am cm ms al cl ls := by rw [← hW1]; exact WebIn.box hm hl
    exact (((h1.below b2).below b3).below b4).below b5
  have TM : Two W (w.heap.size + 1) (.int .i64 m.1) (.slice ao m.2.length ca) 30 := by
    have h1 : Two W2 (w.heap.size + 1) (.int .i64 m.1) (.slice ao m.2.length ca) 30 := by rw [← hW2, ← s1]; exact Two.new W1 _ _ _
    exact ((h1.below b3).below b4).below b5
  have TR : Two W (w.heap.size + 1 + 1) (.slice none 0 0) (.slice none 0 0) 27 := by
    have h1 : Two W3 (w.heap.size + 1 + 1) (.slice none 0 0) (.slice none 0 0) 27 := by rw [← hW3, ← s2]; exact Two.new W2 _ _ _
    exact (h1.below b4).below b5
  have TA : Two W (w.heap.size + 1 + 1 + 1) (.int .i64 m.1) (.slice ao m.2.length ca) 30 := by
    have h1 : Two W4 (w.heap.size + 1 + 1 + 1) (.int .i64 m.1) (.slice ao m.2.length ca) 30 := by rw [← hW4, ← s3]; exact Two.new W3 _ _ _
    exact h1.below b5
  have TB : Two W (w.heap.size + 1 + 1 + 1 + 1) (.slice am ms.length cm) (.slice (some ⟨w.heap.size + 1 + 1 + 1, 0, none⟩) 1 1) 24 := by rw [← hW, ← s4]; exact Two.new W4 _ _ _
  have hB : Below w.heap.size w W := chain (chain (chain (chain b1 b2) b3) b4) b5
  have sW : w.heap.size + 1 + 1 + 1 + 1 < W.heap.size := TB.lt
  obtain ⟨ss, hss, hsmk, hsl, hslen⟩ := mview_sm hI.mv
  have HCT := hidP (iConcatB (w.heap.size + 1 + 1 + 1 + 1) 2 [(am, cm, ss), (some ⟨w.heap.size + 1 + 1 + 1, 0, none⟩, 1, [(m.1, ao, ca, m.2)])] W sW
    (fun i hi => by
      have hi2 : i < 2 := hi
      rcases (show i = 0 ∨ i = 1 by omega) with rfl | rfl
      · show W.cell? _ = some (.slice am ss.length cm); rw [hslen]; exact TB.c0
      · exact TB.c1)
    (fun i hi => by
      have hi2 : i < 2 := hi
      rcases (show i = 0 ∨ i = 1 by omega) with rfl | rfl
      · exact hss
      · exact Or.inr ⟨_, 0, rfl, TA.lt, fun k hk => by
          have hk1 : k = 0 := by simpa using hk
          subst hk1
          exact ⟨TA.c0, TA.c1⟩⟩)
    (by simp) (by have := hsm.1; simp [catR]; omega) (by simp [catR]))
  have hcat : catR [(am, cm, ss), (some ⟨w.heap.size + 1 + 1 + 1, 0, none⟩, 1, [(m.1, ao, ca, m.2)])] = ss ++ [(m.1, ao, ca, m.2)] := by simp [catR]
  rw [hcat] at HCT
  have HMK : Hid (smMarks (ss ++ [(m.1, ao, ca, m.2)]) = ms ++ [m]) := by show _ = _; rw [smMarks_snoc, hsmk]
  have HLI : Hid (SLies W (ss ++ [(m.1, ao, ca, m.2)])) := hsl.snoc (hv.next hB)
  have hlen2 : (ss ++ [(m.1, ao, ca, m.2)]).length = ms.length + 1 := by rw [List.length_append, hslen]; rfl
  rw [hlen2] at HCT
  have HWW : Hid (((((w.alloc (.cells #[.slice am ms.length cm, .slice al ls.length cl] 27)).alloc (.cells #[.int .i64 m.1, .slice ao m.2.length ca] 30)).alloc (.cells #[.slice none 0 0, .slice none 0 0] 27)).alloc (.cells #[.int .i64 m.1, .slice ao m.2.length ca] 30)).alloc (.cells #[.slice am ms.length cm, .slice (some ⟨w.heap.size + 1 + 1 + 1, 0, none⟩) 1 1] 24) = W) := by show _ = _; rw [hW1, hW2, hW3, hW4, hW]
  have HB := hidP hB
  have HI := hidP hI
  have HTM := hidP TM
  have HTR := hidP TR
  have HSW := hidP sW
  have HVM := hidP (hv.next hB)
  have HSM := hidP hsm
  have HCS := hidP hcs
  clear hm hl hv s1 s2 s3 s4 b1 b2 b3 b4 b5 hW1 hW2 hW3 hW4 hW hI TM TR TA TB hB sW hss hsmk hsl hcat hsm hcs
  go_enter Tryz.func13, Tryz.ntmps13
  go_wp2_with fail
  rw [HWW.out]
  refine HCT.out.mono ?_
  rintro e w1 ⟨g1, c1, rfl, hr1, L1⟩
  have hmv1 := hr1.view HLI.out L1
  rw [HMK.out] at hmv1
  have HMV1 := hidP hmv1
  have hI1 := HI.out.below L1
  have HTR1 := hidP (HTR.out.below L1)
  have HTM1 := hidP (HTM.out.below L1)
  have HVM1 := hidP (HVM.out.next L1)
  have HB1 := hidP (chain HB.out L1)
  have HI1 := hidP hI1
  have k0 := hI1.c0
  have k1 := hI1.c1
  have HWE := hidP (iWebOk14 am cm ms al cl ls w1 hI1.mv hI1.cv HSM.out HCS.out hcm hcl)
  have HSW1 : Hid (w.heap.size + 1 + 1 + 1 + 1 < w1.heap.size) := Nat.lt_of_lt_of_le HSW.out L1.size
  clear hr1 L1 hmv1 hI1 HCT HWW HI HTR HTM HVM HB HLI HMK hlen2 hslen HSW
  by_cases hm1 : most < 1
  · have HLB : Hid (linkedB ms ls m most = false) := by show _ = _; unfold linkedB mostB; rw [decide_eq_false (show ¬ 1 ≤ most by omega)]; simp
    have tR := HTR1.out
    have r0 := tR.c0
    have r1 := tR.c1
    have rf0 := tR.frozen 0
    have rf1 := tR.frozen 1
    have t3 := (tR.set0 (.slice none 0 0)).set1 (.slice none 0 0)
    have q0 := t3.c0
    have q1 := t3.c1
    have HBF : Hid (Below w.heap.size w ((w1.setCell ⟨w.heap.size + 1 + 1, 0, none⟩ (.slice none 0 0)).setCell ⟨w.heap.size + 1 + 1, 1, none⟩ (.slice none 0 0))) := ((HB1.out).setCell (by show w.heap.size ≤ w.heap.size + 1 + 1; omega) _).setCell (by show w.heap.size ≤ w.heap.size + 1 + 1; omega) _
    clear tR t3
    go_wp2_with fail
    refine bodyPost_ret (v := .tuple #[.agg #[.slice none 0 0, .slice none 0 0], .bool false]) (by simp [results, Tryz.results13, go_sem, q0, q1]) rfl ?_
    exact ⟨_, by rw [HLB.out], Or.inl ⟨HLB.out, rfl⟩, HBF.out⟩
  by_cases hm8 : most > 8
  · have HLB : Hid (linkedB ms ls m most = false) := by show _ = _; unfold linkedB mostB; rw [decide_eq_false (show ¬ most ≤ 8 by omega)]; simp
    have tR := HTR1.out
    have r0 := tR.c0
    have r1 := tR.c1
    have rf0 := tR.frozen 0
    have rf1 := tR.frozen 1
    have t3 := (tR.set0 (.slice none 0 0)).set1 (.slice none 0 0)
    have q0 := t3.c0
    have q1 := t3.c1
    have HBF : Hid (Below w.heap.size w ((w1.setCell ⟨w.heap.size + 1 + 1, 0, none⟩ (.slice none 0 0)).setCell ⟨w.heap.size + 1 + 1, 1, none⟩ (.slice none 0 0))) := ((HB1.out).setCell (by show w.heap.size ≤ w.heap.size + 1 + 1; omega) _).setCell (by show w.heap.size ≤ w.heap.size + 1 + 1; omega) _
    clear tR t3
    go_wp2_with fail
    refine bodyPost_ret (v := .tuple #[.agg #[.slice none 0 0, .slice none 0 0], .bool false]) (by simp [results, Tryz.results13, go_sem, q0, q1]) rfl ?_
    exact ⟨_, by rw [HLB.out], Or.inl ⟨HLB.out, rfl⟩, HBF.out⟩
  have HMO : Hid (mostB most = true) := by show _ = _; unfold mostB; rw [decide_eq_true (show 1 ≤ most by omega), decide_eq_true (show most ≤ 8 by omega)]; rfl
  rcases hwb : webB ms ls with _ | _
  · have HLB : Hid (linkedB ms ls m most = false) := by show _ = _; unfold linkedB; rw [hwb]; simp
    rw [hwb] at HWE
    clear hwb
    go_wp2_with fail
    refine HWE.out.mono ?_
    rintro e w2 ⟨rfl, L2⟩
    have tR := HTR1.out.below L2
    have r0 := tR.c0
    have r1 := tR.c1
    have rf0 := tR.frozen 0
    have rf1 := tR.frozen 1
    have t3 := (tR.set0 (.slice none 0 0)).set1 (.slice none 0 0)
    have q0 := t3.c0
    have q1 := t3.c1
    have HBF : Hid (Below w.heap.size w ((w2.setCell ⟨w.heap.size + 1 + 1, 0, none⟩ (.slice none 0 0)).setCell ⟨w.heap.size + 1 + 1, 1, none⟩ (.slice none 0 0))) := ((chain HB1.out L2).setCell (by show w.heap.size ≤ w.heap.size + 1 + 1; omega) _).setCell (by show w.heap.size ≤ w.heap.size + 1 + 1; omega) _
    clear tR t3
    clear L2
    go_wp2_with fail
    refine bodyPost_ret (v := .tuple #[.agg #[.slice none 0 0, .slice none 0 0], .bool false]) (by simp [results, Tryz.results13, go_sem, q0, q1]) rfl ?_
    exact ⟨_, by rw [HLB.out], Or.inl ⟨HLB.out, rfl⟩, HBF.out⟩
  rw [hwb] at HWE
  have HWB := hidP hwb
  have h60 := marksB_len (web_marks hwb)
  have HMS2 : Hid (MSmall (ms ++ [m])) := ⟨by simp; omega, fun i => by
    rcases Nat.lt_or_ge i ms.length with e | e
    · rw [mat_snoc e]; exact HSM.out.2 i
    · rcases Nat.lt_or_ge ms.length i with e2 | e2
      · simp [mat, List.getD, show ms.length + 1 ≤ i by omega]
      · rw [show i = ms.length by omega, mat_last]; exact hn⟩
  clear hwb
  go_wp2_with fail
  refine HWE.out.mono ?_
  rintro e w2 ⟨rfl, L2⟩
  have hmk2 := iMarks (some ⟨g1, 0, none⟩) c1 (ms ++ [m]) w2 (HMV1.out.next L2) HMS2.out
  rw [show (ms ++ [m]).length = ms.length + 1 by simp] at hmk2
  have HMK2 := hidP hmk2
  clear hmk2
  rcases hmb : marksB (ms ++ [m]) with _ | _
  · have HLB : Hid (linkedB ms ls m most = false) := by show _ = _; unfold linkedB; rw [hmb]; simp
    rw [hmb] at HMK2
    clear hmb
    have HL2 := hidP L2
    clear L2 k0 k1
    go_wp2_with fail
    refine HMK2.out.mono ?_
    rintro e w3 ⟨rfl, L3⟩
    have tR := (HTR1.out.below HL2.out).below L3
    have r0 := tR.c0
    have r1 := tR.c1
    have rf0 := tR.frozen 0
    have rf1 := tR.frozen 1
    have t3 := (tR.set0 (.slice none 0 0)).set1 (.slice none 0 0)
    have q0 := t3.c0
    have q1 := t3.c1
    have HBF : Hid (Below w.heap.size w ((w3.setCell ⟨w.heap.size + 1 + 1, 0, none⟩ (.slice none 0 0)).setCell ⟨w.heap.size + 1 + 1, 1, none⟩ (.slice none 0 0))) := ((chain (chain HB1.out HL2.out) L3).setCell (by show w.heap.size ≤ w.heap.size + 1 + 1; omega) _).setCell (by show w.heap.size ≤ w.heap.size + 1 + 1; omega) _
    clear tR t3
    clear L3
    go_wp2_with fail
    refine bodyPost_ret (v := .tuple #[.agg #[.slice none 0 0, .slice none 0 0], .bool false]) (by simp [results, Tryz.results13, go_sem, q0, q1]) rfl ?_
    exact ⟨_, by rw [HLB.out], Or.inl ⟨HLB.out, rfl⟩, HBF.out⟩
  rw [hmb] at HMK2
  have HMB := hidP hmb
  have HLB : Hid (linkedB ms ls m most = true) := by show _ = _; unfold linkedB; rw [HWB.out, HMO.out, hmb]; rfl
  have HL2 := hidP L2
  clear hmb L2 k0 k1 HWE
  go_wp2_with fail
  refine HMK2.out.mono ?_
  rintro e w3 ⟨rfl, L3⟩
  have L13 := chain HL2.out L3
  have hI3 := HI1.out.below L13
  have HI3 := hidP hI3
  have HTR3 := hidP (HTR1.out.below L13)
  have HTM3 := hidP (HTM1.out.below L13)
  have HVM3 := hidP (HVM1.out.next L13)
  have HMV3 := hidP (HMV1.out.next L13)
  have HB3 := hidP (chain HB1.out L13)
  have k0 := hI3.c0
  have k1 := hI3.c1
  have HSW3 : Hid (w.heap.size + 1 + 1 + 1 + 1 < w3.heap.size) := Nat.lt_of_lt_of_le HSW1.out L13.size
  clear L3 L13 hI3 HI1 HTR1 HTM1 HVM1 HMV1 HB1 HSW1 HMK2 HL2
  have hll := web_len HWB.out
  obtain ⟨vs, hvl, hsrc, hsb, hvv⟩ := cview_vals HI3.out.cv
  obtain ⟨V1, hV1⟩ : ∃ V1, w3.alloc (.cells #[.slice none 0 0] 28) = V1 := ⟨_, rfl⟩
  obtain ⟨V2, hV2⟩ : ∃ V2, V1.alloc (.cells #[.slice al ls.length cl, .slice (some ⟨w3.heap.size, 0, none⟩) 1 1] 25) = V2 := ⟨_, rfl⟩
  have sv1 : V1.heap.size = w3.heap.size + 1 := by rw [← hV1]; simp
  have LV1 : Below w3.heap.size w3 V1 := by rw [← hV1]; exact (Below.refl _ _).alloc (Nat.le_refl _) _
  have LV2 : Below V1.heap.size V1 V2 := by rw [← hV2]; exact (Below.refl _ _).alloc (Nat.le_refl _) _
  have LV := chain LV1 LV2
  have OA : One V2 w3.heap.size (.slice none 0 0) 28 := by
    have h1 : One V1 w3.heap.size (.slice none 0 0) 28 := by rw [← hV1]; exact One.new w3 _ _
    exact h1.below LV2
  have TB : Two V2 (w3.heap.size + 1) (.slice al ls.length cl) (.slice (some ⟨w3.heap.size, 0, none⟩) 1 1) 25 := by rw [← hV2, ← sv1]; exact Two.new V1 _ _ _
  have HCL := hidP (iConcatL (w3.heap.size + 1) 2 [(al, cl, vs), (some ⟨w3.heap.size, 0, none⟩, 1, [.slice none 0 0])] V2 TB.lt
    (fun i hi => by
      have hi2 : i < 2 := hi
      rcases (show i = 0 ∨ i = 1 by omega) with rfl | rfl
      · show V2.cell? _ = some (.slice al vs.length cl); rw [hvl]; exact TB.c0
      · exact TB.c1)
    (fun i hi => by
      have hi2 : i < 2 := hi
      rcases (show i = 0 ∨ i = 1 by omega) with rfl | rfl
      · exact ⟨srcV_next hsrc hsb LV, fun a e h => Nat.lt_of_lt_of_le (hsb a e h) LV.size⟩
      · refine ⟨⟨rfl, fun u hu => by simp at hu; subst hu; rfl, Or.inr ⟨_, rfl, World.news_of_block (cs := #[.slice none 0 0]) OA⟩⟩, fun a e _ => by injection e with e; rw [← e]; exact OA.lt⟩)
    (by simp) (by have := HCS.out.1; simp [catV]; omega) (by simp [catV]))
  have hcat : catV [(al, cl, vs), (some ⟨w3.heap.size, 0, none⟩, 1, [.slice none 0 0])] = vs ++ [.slice none 0 0] := by simp [catV]
  rw [hcat] at HCL
  rw [show (vs ++ [Value.slice none 0 0]).length = ms.length + 1 by simp; omega] at HCL
  have HLV := hidP LV
  have HVW : Hid ((w3.alloc (.cells #[.slice none 0 0] 28)).alloc (.cells #[.slice al ls.length cl, .slice (some ⟨w3.heap.size, 0, none⟩) 1 1] 25) = V2) := by show _ = _; rw [hV1, hV2]
  have HVV := hidP (And.intro hvl hvv)
  have HLLN := hidP hll
  clear hsrc hsb hvl hvv sv1 LV1 LV2 LV OA TB hcat hV1 hV2 hll
  go_wp2_with fail
  rw [HVW.out]
  refine HCL.out.mono ?_
  rintro e w4 ⟨g4, c4, rfl, hr4, L4⟩
  have L34 := chain HLV.out L4
  have hcv4 := vr_cview hr4 HVV.out.1 (fun i hi => by obtain ⟨a, c, h1, h2⟩ := HVV.out.2 i hi; exact ⟨a, c, h1, h2.next L34⟩)
  have HCS2 : Hid (CSmall (ls ++ [[]])) := ⟨by have := HLLN.out; simp; omega, fun i => by
    rcases Nat.lt_or_ge i ls.length with e | e
    · have ec : cn (ls ++ [[]]) i = cn ls i := by simp [cn, List.getD, List.getElem?_append_left e]
      rw [ec]; exact HCS.out.2 i
    · rcases Nat.lt_or_ge ls.length i with e2 | e2
      · simp [cn, List.getD, show ls.length + 1 ≤ i by omega]
      · rw [show i = ls.length by omega]; simp [cn, List.getD]⟩
  have how := iOwnWeb (some ⟨g1, 0, none⟩) (some ⟨g4, 0, none⟩) c1 c4 (ms ++ [m]) (ls ++ [[]]) w4 (HMV3.out.next L34) hcv4 HMB.out HMS2.out HCS2.out
  rw [show (ms ++ [m]).length = ms.length + 1 by simp, show (ls ++ ([[]] : List (List Int))).length = ms.length + 1 by have := HLLN.out; simp; omega] at how
  have HOW := hidP how
  have HL34 := hidP L34
  clear hr4 L4 L34 hcv4 how HCL HVW HVV HLV
  go_wp2_with fail
  refine HOW.out.mono ?_
  rintro e w5 ⟨g, gl, rfl, hown, L5⟩
  obtain ⟨G, cc, V, lo, hi, hop, hnm, hggl, hgllo⟩ := hown
  have HVlt : Hid (∀ i, i < ms.length + 1 → ∀ q, (V i).ownBlock = some q → hi ≤ q ∧ q < w5.heap.size) := fun i hi' q hq => own_lt15 (hnm.own i hi') hq
  have hge1 := hop.ge
  have hge2 := hnm.ge
  have hout1 := hop.out
  have hout2 := hnm.out
  have hw0 := hop.within 0 (by simp)
  have hgl5 := hnm.blk.lt
  obtain ⟨w6, hw6⟩ : ∃ w6, w5.alloc (.cells #[.slice (some ⟨g, 0, none⟩) (ms.length + 1) (ms.length + 1), .slice (some ⟨gl, 0, none⟩) (ms.length + 1) (ms.length + 1)] 27) = w6 := ⟨_, rfl⟩
  have L6 : Below w5.heap.size w5 w6 := by rw [← hw6]; exact (Below.refl _ _).alloc (Nat.le_refl _) _
  have TO : Two w6 w5.heap.size (.slice (some ⟨g, 0, none⟩) (ms.length + 1) (ms.length + 1)) (.slice (some ⟨gl, 0, none⟩) (ms.length + 1) (ms.length + 1)) 27 := by rw [← hw6]; exact Two.new w5 _ _ _
  have L36 := chain (chain HL34.out L5) L6
  have hI6 := HI3.out.below L36
  have HNE := hidP (iNear am ao cm ca ms m.2 most w6 hI6.mv (HVM3.out.next L36) HSM.out hn)
  have k6 := hI6.c0
  have tm := HTM3.out.below L36
  have t0 := tm.c0
  have t1 := tm.c1
  have HOP6 := hidP (hop.next L6)
  have HNM6 := hidP (hnm.next L6)
  have hO6 := TO.lt
  have HTO := hidP TO
  have HL36 := hidP L36
  have HL5 := hidP L5
  have HTM6 := hidP tm
  have HTR6 := hidP (HTR3.out.below L36)
  have HB6 := hidP (chain HB3.out L36)
  have hw4s : w.heap.size + 1 + 1 + 1 + 1 < w4.heap.size := Nat.lt_of_lt_of_le HSW3.out HL34.out.size
  have h45 := L5.size
  clear hop hnm L5 L6 L36 hI6 tm TO HOW HCS2 k0 k1
  go_wp2_with fail
  clear hw6
  refine HNE.out.mono ?_
  rintro e w7 ⟨v7, rfl, hh7, L7⟩
  obtain ⟨ah, ch, rfl, hhv⟩ := hh7.view
  have HHB : Hid (∀ b off, ah = some ⟨b, off, none⟩ → nearL ms m.2 most ≠ [] → w6.heap.size ≤ b) := fun b off e hne => by
    rcases hh7 with ⟨-, h0⟩ | ⟨g', c', e', hr⟩
    · exact absurd h0 hne
    · injection e' with e1
      rw [e] at e1
      injection e1 with e1
      injection e1 with e1
      rw [e1]
      exact hr.lt.1
  have HOP7 := hidP (HOP6.out.next L7)
  have HNM7 := hidP (HNM6.out.next L7)
  have HTO7 := hidP (HTO.out.below L7)
  have HTM7 := hidP (HTM6.out.below L7)
  have HTR7 := hidP (HTR6.out.below L7)
  have HB7 := hidP (chain HB6.out L7)
  have h67 := L7.size
  have hnear := near_len14 ms m.2 most
  obtain ⟨hs, hhs⟩ : ∃ hs, nearL ms m.2 most = hs := ⟨_, rfl⟩
  rw [hhs] at hhv hnear HHB ⊢
  obtain ⟨ids, hids⟩ : ∃ ids, nearI ms m.2 most = ids := ⟨_, rfl⟩
  have HIDL : Hid (ids.length = hs.length) := by show _ = _; rw [← hids, ← hhs]; simp [nearI]
  have HIDT : Hid (∀ t, t < hs.length → nth ids t = (hnth hs t).1) := fun t ht => by
    rw [← hids]; unfold nearI; rw [hhs]; simp [nth, hnth, List.getD, ht]
  have HNOD : Hid (ids.Nodup) := by show ids.Nodup; rw [← hids]; exact nearI_nodup (web_marks HWB.out) _ _
  have HFI : Hid (∀ y ∈ ids, 0 ≤ zFind ms y) := by show ∀ y ∈ ids, _; rw [← hids]; exact nearI_find (web_marks HWB.out)
  have HIDS := hidP hids
  have HHV := hidP hhv
  obtain ⟨O, hO⟩ : ∃ O, w5.heap.size = O := ⟨_, rfl⟩
  rw [hO] at HTO7 HVlt hgl5 h45 hO6 ⊢
  have hOw : w4.heap.size ≤ O := h45
  clear hids hhs hh7 L7 HOP6 HNM6 HTO HTM6 HTR6 HB6 k6 t0 t1 hhv HNE hO
  go_wp2_with fail
  go_loopw [50] (fun iv wr => ∃ (t : Nat) (V' : Nat → Value), t ≤ hs.length ∧ iv = .int .i64 t ∧ NM w4.heap.size wr gl (ms.length + 1) V' (lkX ms ls ids m.1 t) hi ∧ LkChg gl (ms.length + 1) V V' w7 wr) (fun iv _ => hs.length - (intOf iv).toNat)
  case atStart => exact ⟨0, V, Nat.zero_le _, rfl, HNM7.out.congr (fun i hi' => lkX_start HLLN.out ids m.1 hi'), LkChg.refl _ _ _ _⟩
  case round =>
    obtain ⟨t, V', ht, rfl, hnm, hk⟩ := hrel
    have HNMr := hidP hnm
    have HKr := hidP hk
    have hop := HOP7.out.chg hk hggl hgllo (fun i hi' q hq => (HVlt.out i hi' q hq).1) (by omega)
    have hto := two_chg HTO7.out hk (by omega) (fun i hi' e => by have := HVlt.out i hi' _ e; omega)
    have htm := two_chg HTM7.out hk (by omega) (fun i hi' e => by have := HVlt.out i hi' _ e; omega)
    have htr := two_chg HTR7.out hk (by omega) (fun i hi' e => by have := HVlt.out i hi' _ e; omega)
    have hszr := hk.size
    clear hnm hk
    by_cases htl : t < hs.length
    · obtain ⟨hb, ho, rfl, hbl, hsg⟩ : ∃ b off, ah = some ⟨b, off, none⟩ ∧ b < w7.heap.size ∧ HSeg w7 b off hs := by
        rcases HHV.out with h | h
        · rw [h] at htl; simp at htl
        · exact h
      have hb6 := HHB.out hb ho rfl (fun e => by rw [e] at htl; simp at htl)
      have eb := HKr.out.block hb hbl (by omega) (fun i hi' e => by have := HVlt.out i hi' _ e; omega)
      obtain ⟨j, hj, hij, hxj, hpw, hnm1, hl1, hpo, hno, hl2, hstep⟩ := lkX_step HWB.out HMB.out HNOD.out HFI.out (t := t) (by rw [HIDL.out]; exact htl)
      have c0 := (World.cell?_of_block (a := ⟨hb, ho + t * 2, none⟩) eb).trans (hsg t htl).1
      have c1 := (World.cell?_of_block (a := ⟨hb, ho + t * 2 + 1, none⟩) eb).trans (hsg t htl).2
      rw [← HIDT.out t htl] at c0
      obtain ⟨y, hy⟩ : ∃ y, nth ids t = y := ⟨_, rfl⟩
      obtain ⟨d, hd⟩ : ∃ d, (hnth hs t).2 = d := ⟨_, rfl⟩
      rw [hy] at c0 hij hno hstep
      rw [hd] at c1
      obtain ⟨V1, hV1⟩ : ∃ V1, wr.alloc (.cells #[.int .i64 y, .int .i64 d] 44) = V1 := ⟨_, rfl⟩
      have LZ : Below wr.heap.size wr V1 := by rw [← hV1]; exact (Below.refl _ _).alloc (Nat.le_refl _) _
      have tz : Two V1 wr.heap.size (.int .i64 y) (.int .i64 d) 44 := by rw [← hV1]; exact Two.new wr _ _ _
      have hto1 := hto.below LZ
      have htm1 := htm.below LZ
      have hop1 := hop.next LZ
      have hnm1' := HNMr.out.next LZ
      have o0 := hto1.c0
      have o1 := hto1.c1
      have m0 := htm1.c0
      have z0 := tz.c0
      have hfd := snoc_find HMB.out hj
      rw [← hij] at hfd
      have hmv : MView V1 (some ⟨g, 0, none⟩) (ms ++ [m]) := by have := (hop1.own (by simp [maxLen]; omega)).view; rw [dsOf_marks] at this; exact this
      have hlk1 := iLink w4.heap.size gl (ms.length + 1) (ms.length + 1) (ms.length + 1) hi (some ⟨g, 0, none⟩) (ms ++ [m]) V' (lkX ms ls ids m.1 t) y m.1 V1 hmv HMB.out hfd.1 hnm1' (by rw [hfd.2]; omega) (by rw [hfd.2, hxj]; exact hpw) (by rw [hfd.2, hxj]; exact hnm1) (by rw [hfd.2, hxj]; omega)
      rw [hfd.2, hxj, show (ms ++ [m]).length = ms.length + 1 by simp] at hlk1
      have HLK1 := hidP hlk1
      have HV'lt : Hid (∀ i, i < ms.length + 1 → ∀ q, (V' i).ownBlock = some q → hi ≤ q ∧ q < wr.heap.size) := fun i hi' q hq => own_lt15 (HNMr.out.own i hi') hq
      have HV'n : Hid (∀ b, b < w7.heap.size → (∀ i, i < ms.length + 1 → (V i).ownBlock ≠ some b) → ∀ i, i < ms.length + 1 → (V' i).ownBlock ≠ some b) := fun b hb' hv i hi' e => by
        rcases HKr.out.fresh i hi' b e with ⟨k, hk, e2⟩ | e2
        · exact hv k hk e2
        · omega
      have HTO1 := hidP hto1
      have HTM1 := hidP htm1
      have HOP1 := hidP hop1
      have HTZ := hidP tz
      have HK1 := hidP (HKr.out.below LZ)
      have HXJ := hidP (And.intro hxj hij)
      have HPO := hidP (And.intro hpo hno)
      have HSTP := hidP hstep
      have HYY := hidP hy
      have ht0 : (0 : Int) ≤ (t : Int) := Int.natCast_nonneg _
      have ht1 : (t : Int) < (hs.length : Int) := by omega
      clear hop hto htm htr hto1 htm1 hop1 hnm1' tz hmv hlk1 hsg eb hfd hxj hpw hnm1 hl1 hpo hno hstep hy hd hij
      go_wp2_with fail
      refine HLK1.out.mono ?_
      rintro e w8 ⟨rfl, V8, hnm8, hk8⟩
      have hto8 := two_chg HTO1.out hk8 (by omega) (HV'n.out O (by omega) (fun i hi' e => by have := HVlt.out i hi' _ e; omega))
      have htm8 := two_chg HTM1.out hk8 (by omega) (HV'n.out _ (by omega) (fun i hi' e => by have := HVlt.out i hi' _ e; omega))
      have htz8 := two_chg HTZ.out hk8 (by have := HNMr.out.blk.lt; omega) (fun i hi' e => by have := HV'lt.out i hi' _ e; omega)
      have hop8 := HOP1.out.chg hk8 hggl hgllo (fun i hi' q hq => (HV'lt.out i hi' q hq).1) (by omega)
      have o0 := hto8.c0
      have o1 := hto8.c1
      have m0 := htm8.c0
      have z0 := htz8.c0
      have hmv8 : MView w8 (some ⟨g, 0, none⟩) (ms ++ [m]) := by have := (hop8.own (by simp [maxLen]; omega)).view; rw [dsOf_marks] at this; exact this
      have hla := snoc_last HMB.out
      have hxn : updX (lkX ms ls ids m.1 t) j (insI (cn ls j) m.1) ms.length = ownI (ids.take t) := by unfold updX lkX; rw [if_neg (by omega), if_neg (by omega)]
      have hlk2 := iLink w4.heap.size gl (ms.length + 1) (ms.length + 1) (ms.length + 1) hi (some ⟨g, 0, none⟩) (ms ++ [m]) V8 (updX (lkX ms ls ids m.1 t) j (insI (cn ls j) m.1)) m.1 y w8 hmv8 HMB.out hla.1 hnm8 (by rw [hla.2]; omega) (by rw [hla.2, hxn]; exact HPO.out.1) (by rw [hla.2, hxn]; exact HPO.out.2) (by rw [hla.2, hxn]; omega)
      rw [hla.2, hxn, show (ms ++ [m]).length = ms.length + 1 by simp] at hlk2
      have HLK2 := hidP hlk2
      have HK8 := hidP (HK1.out.trans hk8)
      clear hto8 htm8 htz8 hop8 hmv8 hla hxn hlk2 hk8 hnm8 HLK1 HTO1 HTM1 HOP1 HTZ HK1 hV1
      go_wp2_with fail
      refine HLK2.out.mono ?_
      rintro e w9 ⟨rfl, V9, hnm9, hk9⟩
      have HN9 := hidP (hnm9.congr (Y := lkX ms ls ids m.1 (t + 1)) (fun i hi' => by
        rcases HSTP.out i with h | h
        · exact h
        · omega))
      have HK9 := hidP (HK8.out.trans hk9)
      clear hnm9 hk9 HLK2 HK8 o0 o1 m0 z0
      go_wp2_with fail
      go_roundw
      case rel => exact ⟨t + 1, V9, by omega, by go_num, HN9.out, HK9.out⟩
      case measure => simp [intOf]; omega
    · obtain rfl : t = hs.length := by omega
      have hti : ¬ ((hs.length : Int) < (hs.length : Int)) := by omega
      have o0 := hto.c0
      have o1 := hto.c1
      have r0 := htr.c0
      have r1 := htr.c1
      have rf0 := htr.frozen 0
      have rf1 := htr.frozen 1
      have t3 := (htr.set0 (.slice (some ⟨g, 0, none⟩) (ms.length + 1) (ms.length + 1))).set1 (.slice (some ⟨gl, 0, none⟩) (ms.length + 1) (ms.length + 1))
      have q0 := t3.c0
      have q1 := t3.c1
      have HNF := hidP (HNMr.out.congr (Y := cn (lnkL ms ls ids m.1)) (fun i hi' => by rw [← HIDL.out]; exact lkX_end ms ls ids m.1 hi'))
      have HBr : Hid (Below w.heap.size w wr) := by
        refine ⟨HKr.out.os.trans HB7.out.os, HKr.out.tape.trans HB7.out.tape, HKr.out.output.trans HB7.out.output, Nat.le_trans HB7.out.size hszr, fun b hb => (HKr.out.block b (by have := HB7.out.size; omega) (by omega) (fun i hi' e => by have := HVlt.out i hi' _ e; omega)).trans (HB7.out.block b hb)⟩
      have HE : Hid (OwnWeb w.heap.size ((wr.setCell ⟨w.heap.size + 1 + 1, 0, none⟩ (.slice (some ⟨g, 0, none⟩) (ms.length + 1) (ms.length + 1))).setCell ⟨w.heap.size + 1 + 1, 1, none⟩ (.slice (some ⟨gl, 0, none⟩) (ms.length + 1) (ms.length + 1))) g gl (ms ++ [m]) (cn (lnkL ms ls ids m.1)) (ms.length + 1) ∧ Below w.heap.size w ((wr.setCell ⟨w.heap.size + 1 + 1, 0, none⟩ (.slice (some ⟨g, 0, none⟩) (ms.length + 1) (ms.length + 1))).setCell ⟨w.heap.size + 1 + 1, 1, none⟩ (.slice (some ⟨gl, 0, none⟩) (ms.length + 1) (ms.length + 1)))) :=
        ⟨⟨G, cc, V', lo, hi, (((hop.far (by omega) (Or.inl (by omega)) _ _).far (by omega) (Or.inl (by omega)) _ _).low (by omega)), (((HNF.out.far (by omega) (by omega) _ _).far (by omega) (by omega) _ _).low (by omega)), hggl, hgllo⟩, ((HBr.out.setCell (by show w.heap.size ≤ w.heap.size + 1 + 1; omega) _).setCell (by show w.heap.size ≤ w.heap.size + 1 + 1; omega) _)⟩
      clear hop hto htm htr t3 HNF
      go_wp2_with fail
      refine bodyPost_ret (v := .tuple #[.agg #[.slice (some ⟨g, 0, none⟩) (ms.length + 1) (ms.length + 1), .slice (some ⟨gl, 0, none⟩) (ms.length + 1) (ms.length + 1)], .bool true]) (by simp [results, Tryz.results13, go_sem, q0, q1]) rfl ?_
      exact ⟨_, by rw [HLB.out], Or.inr ⟨HLB.out, g, gl, rfl, by rw [HIDS.out]; exact HE.out.1⟩, HE.out.2⟩
end Go.Proofs.YtfbhohpbhjlihaaGreat
namespace Go.Proofs.YtfbhohpbhjlihaaGreat
open Go Go.RowKit

/-- The lists, each number the next. -/
def mkX (k0 : Int) (X : Nat → List Int) (i : Nat) : List Int := tabL (fun t => k0 + (tot (fun j => (X j).length) i : Nat) + t) (X i).length
theorem mkX_len (k0 : Int) (X : Nat → List Int) (i : Nat) : (mkX k0 X i).length = (X i).length := by unfold mkX; rw [tabL_length]
theorem NM.over {base : Nat} {w w' : World} {g n : Nat} {V : Nat → Value} {X : Nat → List Int} {lo : Nat} (h : NM base w g n V X lo) {m : Nat} (hm : m < n) {xs : List Int} (ho : w'.ownsRow lo 2 1 (V m) xs.length (xs.map (Value.int .i64)))
    (hg : w.grownBy w' (V m).ownBlock) : NM base w' g n V (updX X m xs) lo := by
  have hgl := h.blk.lt
  have hout := h.out
  have hVm : ∀ q, (V m).ownBlock = some q → lo ≤ q ∧ q < w.heap.size := fun q e => own_lt15 (h.own m hm) e
  refine ⟨h.blk.same (hg.block g hgl (fun e => by have := hVm g e.symm; omega)), fun i hi => ?_, h.apart, h.ge, hout, Nat.le_trans h.top hg.size⟩
  unfold updX
  by_cases e : i = m
  · rw [if_pos e, e]; exact ho
  · rw [if_neg e]
    refine own_same15 (h.own i hi) (fun q eq => ?_)
    have hq := own_lt15 (h.own i hi) eq
    refine hg.block q hq.2 (fun e' => ?_)
    rcases h.apart i m hi hm e with h1 | h1
    · rw [h1] at eq; cases eq
    · exact h1 (eq.trans e')
theorem own_out15 {w : World} {b : Nat} {v : Value} {xs : List Int} (h : w.ownsRow b 2 1 v xs.length (xs.map (Value.int .i64))) : IOut b w v xs := by
  obtain ⟨h1, ⟨rfl, h2⟩ | ⟨g, cap, cur, rfl, h3⟩⟩ := h
  · exact Or.inl ⟨rfl, List.length_eq_zero_iff.1 h2⟩
  · exact Or.inr ⟨g, cap, rfl, ⟨h1, Or.inr ⟨g, cap, cur, rfl, h3⟩⟩⟩
theorem out_own15 {w : World} {b : Nat} {v : Value} {xs : List Int} (h : IOut b w v xs) : w.ownsRow b 2 1 v xs.length (xs.map (Value.int .i64)) := by
  rcases h with ⟨rfl, rfl⟩ | ⟨g, c, rfl, hr⟩
  · exact ⟨rfl, Or.inl ⟨rfl, rfl⟩⟩
  · exact hr

set_option maxRecDepth 100000 in
set_option maxHeartbeats 2000000 in
theorem markNM (base lo gl n cap : Nat) (V : Nat → Value) (X : Nat → List Int) (k0 : Int) (w : World) (h : NM base w gl n V X lo) (hn : n ≤ 61) (hx : ∀ i, i < n → (X i).length ≤ 1000) (h0 : 1 ≤ k0) (h1 : k0 ≤ 1000000) :
    Calls Tryz.prog 206 #[.slice (some ⟨gl, 0, none⟩) n cap, .int .i64 k0] w fun e w' => e = .returned (.int .i64 (k0 + (tot (fun j => (X j).length) n : Nat))) ∧ NM base w' gl n V (mkX k0 X) lo ∧ LkChg gl n V V w w' := by
  have HX := hidP hx
  have HNM := hidP h
  have HTB : Hid (∀ k, k ≤ n → tot (fun j => (X j).length) k ≤ 1000 * k) := fun k => by
    induction k with
    | zero => intro _; simp [tot]
    | succ k ih => intro hk; have := ih (by omega); have := hx k (by omega); simp only [tot]; omega
  clear h hx
  go_enter Tryz.func206, Tryz.ntmps206
  go_wp2
  go_loopw [1, 5] (fun kk i wr => ∃ k : Nat, k ≤ n ∧ i = .int .i64 k ∧ kk = .int .i64 (k0 + (tot (fun j => (X j).length) k : Nat)) ∧ NM base wr gl n V (fun i => if i < k then mkX k0 X i else X i) lo ∧ LkChg gl n V V w wr) (fun _ i _ => n - (intOf i).toNat)
  case atStart => exact ⟨0, Nat.zero_le _, rfl, by simp [tot], HNM.out.congr (fun i _ => by rw [if_neg (by omega)]), LkChg.refl _ _ _ _⟩
  case round =>
    obtain ⟨k, hk, rfl, rfl, hnm, hch⟩ := hrel
    have htb := HTB.out k hk
    obtain ⟨T, hT⟩ : ∃ T : Nat, tot (fun j => (X j).length) k = T := ⟨_, rfl⟩
    rw [hT] at htb ⊢
    have HTT := hidP hT
    clear hT
    by_cases hlt : k < n
    · have hxk := HX.out k hlt
      have hown := hnm.own k hlt
      rw [if_neg (by omega)] at hown
      obtain ⟨a, c, ev, -⟩ := own_form15 hown
      have cc := hnm.blk.cell hlt
      rw [ev] at cc
      have ho := own_out15 hown
      rw [ev] at ho
      have HM := hidP (markO lo c a (k0 + T) (X k) wr ho (by omega) (by omega) (by omega))
      have HN := hidP hnm
      have HC := hidP hch
      have HEV := hidP ev
      have hi0 : (0 : Int) ≤ (k : Int) := Int.natCast_nonneg _
      have hi1 : (k : Int) < (n : Int) := by omega
      clear hnm hch hown ho ev
      go_wp2_with fail
      refine HM.out.mono ?_
      rintro e w1 ⟨rfl, hio, hchv, -⟩
      have hio2 : w1.ownsRow lo 2 1 (V k) (mkX k0 X k).length ((mkX k0 X k).map (Value.int .i64)) := by
        have h2 := out_own15 hio
        rw [tabL_length, ← HEV.out] at h2
        have e2 : mkX k0 X k = tabL (fun i => k0 + T + i) (X k).length := by unfold mkX; rw [HTT.out]
        rw [e2, tabL_length]
        exact h2
      have hg1 : wr.grownBy w1 (V k).ownBlock := ⟨hchv.1, hchv.2.1, hchv.2.2.1, hchv.2.2.2.1, fun b hb hne => hchv.2.2.2.2 b hb (fun p n' c' e => by
        intro eb
        apply hne
        have h3 := (HN.out.own k hlt)
        rw [HEV.out]
        injection e with e1 e2 e3
        rcases h3 with ⟨-, ⟨e4, -⟩ | ⟨g4, c4, cur4, e4, -⟩⟩
        · rw [HEV.out] at e4
          injection e4 with e5
          rw [e5] at e1; cases e1
        · rw [HEV.out] at e4
          injection e4 with e5
          rw [e1] at e5
          injection e5 with e5
          rw [eb, e1, e5]
          rfl)⟩
      have HN2 := hidP ((HN.out.over hlt hio2 hg1).congr (Y := fun i => if i < k + 1 then mkX k0 X i else X i) (fun i hi' => by
        simp only [updX]
        by_cases e : i = k
        · rw [if_pos e, if_pos (by omega), e]
        · rw [if_neg e]
          by_cases e2 : i < k
          · rw [if_pos e2, if_pos (by omega)]
          · rw [if_neg e2, if_neg (by omega)]))
      have HC2 := hidP (HC.out.trans (⟨hg1.os, hg1.tape, hg1.output, hg1.size, fun b hb _ h2 => hg1.block b hb (fun e => h2 k hlt e.symm), fun i hi' q hq => Or.inl ⟨i, hi', hq⟩⟩ : LkChg gl n V V wr w1))
      have HTS : Hid (tot (fun j => (X j).length) (k + 1) = T + (X k).length) := by show tot (fun j => (X j).length) k + (X k).length = _; rw [HTT.out]
      clear hio hchv hio2 hg1 HM HN HC
      go_wp2_with fail
      go_roundw
      case rel => exact ⟨k + 1, by omega, by go_num, by rw [HTS.out]; congr 1; omega, HN2.out, HC2.out⟩
      case measure => simp [intOf]; omega
    · obtain rfl : k = n := by omega
      have HF := hidP (And.intro (hnm.congr (Y := mkX k0 X) (fun i hi' => by rw [if_pos hi'])) hch)
      clear hnm hch
      go_wp2
      go_ret
      exact ⟨ret_int (by rw [HTT.out]), HF.out.1, HF.out.2⟩

set_option maxRecDepth 100000 in
set_option maxHeartbeats 2000000 in
theorem heldNM (gl n cap : Nat) (X : Nat → List Int) (k0 : Int) (w : World) (h : ∀ i, i < n → ∃ a c, w.cell? ⟨gl, i, none⟩ = some (.slice a (X i).length c) ∧ View w a (mkX k0 X i)) (hn : n ≤ 61) (hx : ∀ i, i < n → (X i).length ≤ 1000) (h0 : 1 ≤ k0) (h1 : k0 ≤ 1000000) :
    Calls Tryz.prog 207 #[.slice (some ⟨gl, 0, none⟩) n cap, .int .i64 k0] w fun e w' => e = .returned (.int .i64 (k0 + (tot (fun j => (X j).length) n : Nat))) ∧ w' = w := by
  have HX := hidP hx
  have HH := hidP h
  have HTB : Hid (∀ k, k ≤ n → tot (fun j => (X j).length) k ≤ 1000 * k) := fun k => by
    induction k with
    | zero => intro _; simp [tot]
    | succ k ih => intro hk; have := ih (by omega); have := hx k (by omega); simp only [tot]; omega
  clear h hx
  go_enter Tryz.func207, Tryz.ntmps207
  go_wp2
  go_loopw [1, 5] (fun kk i wr => ∃ k : Nat, k ≤ n ∧ i = .int .i64 k ∧ kk = .int .i64 (k0 + (tot (fun j => (X j).length) k : Nat)) ∧ wr = w) (fun _ i _ => n - (intOf i).toNat)
  case atStart => exact ⟨0, Nat.zero_le _, rfl, by simp [tot], rfl⟩
  case round =>
    obtain ⟨k, hk, rfl, rfl, hwr⟩ := hrel
    subst hwr
    have htb := HTB.out k hk
    obtain ⟨T, hT⟩ : ∃ T : Nat, tot (fun j => (X j).length) k = T := ⟨_, rfl⟩
    rw [hT] at htb ⊢
    have HTT := hidP hT
    clear hT
    by_cases hlt : k < n
    · have hxk := HX.out k hlt
      obtain ⟨a, c, cc, hv⟩ := HH.out k hlt
      unfold mkX at hv
      rw [HTT.out] at hv
      have HM := hidP (heldI a c (X k).length (k0 + T) wr hv (by omega) (by omega) (by omega))
      have HTS : Hid (tot (fun j => (X j).length) (k + 1) = T + (X k).length) := by show tot (fun j => (X j).length) k + (X k).length = _; rw [HTT.out]
      have hi0 : (0 : Int) ≤ (k : Int) := Int.natCast_nonneg _
      have hi1 : (k : Int) < (n : Int) := by omega
      clear hv
      go_wp2_with fail
      refine HM.out.mono ?_
      rintro e w1 ⟨rfl, hw1⟩
      subst hw1
      go_wp2_with fail
      go_roundw
      case rel => exact ⟨k + 1, by omega, by go_num, by rw [HTS.out]; congr 1; omega, by first | trivial | rfl⟩
      case measure => simp [intOf]; omega
    · obtain rfl : k = n := by omega
      go_wp2
      go_ret
      exact ⟨ret_int (by rw [HTT.out]), rfl⟩
end Go.Proofs.YtfbhohpbhjlihaaGreat
namespace Go.Proofs.YtfbhohpbhjlihaaGreat
open Go Go.RowKit

theorem NM.same {base : Nat} {w w' : World} {g n : Nat} {V : Nat → Value} {X : Nat → List Int} {lo : Nat} (h : NM base w g n V X lo) (hs : w.heap.size ≤ w'.heap.size) (e0 : w'.heap[g]? = w.heap[g]?) (e : ∀ i, i < n → ∀ q, (V i).ownBlock = some q → w'.heap[q]? = w.heap[q]?) : NM base w' g n V X lo :=
  ⟨h.blk.same e0, fun i hi => own_same15 (h.own i hi) (fun q eq => e i hi q eq), h.apart, h.ge, h.out, Nat.le_trans h.top hs⟩
theorem irow_same15 {base : Nat} {w w' : World} {g c : Nat} {xs : List Int} (h : IRow base w g c xs) (e : w'.heap[g]? = w.heap[g]?) : IRow base w' g c xs := by
  obtain ⟨h1, h2 | ⟨g', c', cur, e1, h3, h4, h5⟩⟩ := h
  · exact ⟨h1, Or.inl h2⟩
  · refine ⟨h1, Or.inr ⟨g', c', cur, e1, h3, ?_, h5⟩⟩
    injection e1 with e1 e2 e3
    injection e1 with e1
    injection e1 with e1
    rw [← e1, e, e1]
    exact h4
theorem MOwn.same15 {base : Nat} {w w' : World} {g c : Nat} {ds : List Dm} (h : MOwn base w g c ds) (e0 : w'.heap[g]? = w.heap[g]?) (e : ∀ i, i < ds.length → w'.heap[(mdnth ds i).2.1]? = w.heap[(mdnth ds i).2.1]?) : MOwn base w' g c ds := by
  refine ⟨?_, fun i hi => irow_same15 (h.rows i hi) (e i hi), h.off, h.apart⟩
  obtain ⟨h1, h2 | ⟨g', c', cur, e1, h3, h4, h5⟩⟩ := h.row
  · exact ⟨h1, Or.inl h2⟩
  · refine ⟨h1, Or.inr ⟨g', c', cur, e1, h3, ?_, h5⟩⟩
    injection e1 with e1 e2 e3
    injection e1 with e1
    injection e1 with e1
    rw [← e1, e0, e1]
    exact h4

/-- As OwnWeb, and all its blocks lie below N. -/
def OwnWebN (base N : Nat) (w : World) (g gl : Nat) (ms : List Mk) (X : Nat → List Int) (n : Nat) : Prop := ∃ G cc V lo hi, OPart base w g ms.length ms G cc lo hi ∧ NM base w gl n V X hi ∧ g ≠ gl ∧ gl < lo ∧ lo ≤ hi ∧ hi ≤ N ∧ ∀ i, i < n → ∀ q, (V i).ownBlock = some q → q < N
theorem OwnWeb.upto {base : Nat} {w : World} {g gl : Nat} {ms : List Mk} {X : Nat → List Int} {n : Nat} (h : OwnWeb base w g gl ms X n) (h0 : 0 < ms.length) : OwnWebN base w.heap.size w g gl ms X n := by
  obtain ⟨G, cc, V, lo, hi, ho, hn, h1, h2⟩ := h
  have hw := ho.within 0 h0
  exact ⟨G, cc, V, lo, hi, ho, hn, h1, h2, by omega, ho.top, fun i hi' q e => (own_lt15 (hn.own i hi') e).2⟩

end Go.Proofs.YtfbhohpbhjlihaaGreat
namespace Go.Proofs.YtfbhohpbhjlihaaGreat
open Go Go.RowKit

theorem zMarkM (cap : Nat) (w : World) : Calls Tryz.prog 150 #[.slice none 0 cap, .int .i64 1] w fun e w' => e = .returned (.int .i64 1) ∧ w' = w := by
  go_enter Tryz.func150, Tryz.ntmps150
  go_wp2
  go_loopw [1, 5] (fun kk i wr => i = .int .i64 0 ∧ kk = .int .i64 1 ∧ wr = w) (fun _ i _ => 0)
  case atStart => exact ⟨rfl, rfl, rfl⟩
  case round =>
    obtain ⟨rfl, rfl, hwr⟩ := hrel
    subst hwr
    go_wp2
    go_ret
    exact ⟨rfl, rfl⟩
theorem zMarkL (cap : Nat) (w : World) : Calls Tryz.prog 206 #[.slice none 0 cap, .int .i64 1] w fun e w' => e = .returned (.int .i64 1) ∧ w' = w := by
  go_enter Tryz.func206, Tryz.ntmps206
  go_wp2
  go_loopw [1, 5] (fun kk i wr => i = .int .i64 0 ∧ kk = .int .i64 1 ∧ wr = w) (fun _ i _ => 0)
  case atStart => exact ⟨rfl, rfl, rfl⟩
  case round =>
    obtain ⟨rfl, rfl, hwr⟩ := hrel
    subst hwr
    go_wp2
    go_ret
    exact ⟨rfl, rfl⟩
theorem zHeldL (cap : Nat) (w : World) : Calls Tryz.prog 207 #[.slice none 0 cap, .int .i64 1] w fun e w' => e = .returned (.int .i64 1) ∧ w' = w := by
  go_enter Tryz.func207, Tryz.ntmps207
  go_wp2
  go_loopw [1, 5] (fun kk i wr => i = .int .i64 0 ∧ kk = .int .i64 1 ∧ wr = w) (fun _ i _ => 0)
  case atStart => exact ⟨rfl, rfl, rfl⟩
  case round =>
    obtain ⟨rfl, rfl, hwr⟩ := hrel
    subst hwr
    go_wp2
    go_ret
    exact ⟨rfl, rfl⟩
theorem linked_ok {ms : List Mk} {ls : List (List Int)} {m : Mk} {most : Int} (h : linkedB ms ls m most = true) : webB (ms ++ [m]) (lnkL ms ls (nearI ms m.2 most) m.1) = true := by
  unfold linkedB at h
  simp only [Bool.and_eq_true] at h
  exact linked_web h.1.1 h.2 (nearI_find (web_marks h.1.1))
theorem linked_small (ms : List Mk) (ls : List (List Int)) (m : Mk) (most : Int) : MSmall (linkedMs ms ls m most) ∧ CSmall (linkedLs ms ls m most) := by
  rcases h : linkedB ms ls m most with _ | _
  · obtain ⟨h1, h2⟩ := linked_no h
    rw [h1, h2]
    exact ⟨⟨by simp, fun i => by simp [mat]⟩, by simp, fun i => by simp [cn]⟩
  · obtain ⟨h1, h2⟩ := linked_yes h
    rw [h1, h2]
    obtain ⟨a, b, c, d⟩ := web_small (linked_ok h)
    exact ⟨⟨by omega, fun i => by have := b i; omega⟩, by omega, fun i => by have := d i; omega⟩
/-- As LkdOut, and all its blocks lie below N. -/
def LkdN (base N : Nat) (w : World) (v : Value) (ms : List Mk) (ls : List (List Int)) (m : Mk) (most : Int) : Prop :=
  (linkedB ms ls m most = false ∧ v = .agg #[.slice none 0 0, .slice none 0 0]) ∨ (linkedB ms ls m most = true ∧ ∃ g gl, v = .agg #[.slice (some ⟨g, 0, none⟩) (ms.length + 1) (ms.length + 1), .slice (some ⟨gl, 0, none⟩) (ms.length + 1) (ms.length + 1)] ∧ OwnWebN base N w g gl (ms ++ [m]) (cn (lnkL ms ls (nearI ms m.2 most) m.1)) (ms.length + 1))
theorem LkdOut.upto {base : Nat} {w : World} {v : Value} {ms : List Mk} {ls : List (List Int)} {m : Mk} {most : Int} (h : LkdOut base w v ms ls m most) : LkdN base w.heap.size w v ms ls m most := by
  rcases h with h | ⟨h, g, gl, rfl, ho⟩
  · exact Or.inl h
  · exact Or.inr ⟨h, g, gl, rfl, ho.upto (by simp)⟩
theorem LkdN.same {base N : Nat} {w w' : World} {v : Value} {ms : List Mk} {ls : List (List Int)} {m : Mk} {most : Int} (h : LkdN base N w v ms ls m most) (hs : w.heap.size ≤ w'.heap.size) (e : ∀ q, base ≤ q → q < w.heap.size → w'.heap[q]? = w.heap[q]?) : LkdN base N w' v ms ls m most := by
  rcases h with h | ⟨h, g, gl, rfl, G, cc, V, lo, hi, ho, hn, h1, h2, h8⟩
  · exact Or.inl h
  · have hg := ho.blk.lt
    have hgl := hn.blk.lt
    have h3 := ho.ge
    have h4 := ho.out
    have h5 := ho.top
    have h6 := hn.out
    have h7 := hn.ge
    refine Or.inr ⟨h, g, gl, rfl, G, cc, V, lo, hi, ⟨ho.blk.same (e g h3 hg), fun i hi' => irow_same15 (ho.rows i hi') (e _ (by have := ho.within i hi'; omega) (by have := ho.within i hi'; omega)), ho.rise, ho.within, Nat.le_trans ho.top hs, ho.ge, ho.out⟩, hn.same hs (e gl h7 hgl) (fun i hi' q eq => ?_), h1, h2, h8⟩
    have := own_lt15 (hn.own i hi') eq
    exact e q (by omega) this.2
theorem LkdN.next {base N : Nat} {w w' : World} {v : Value} {ms : List Mk} {ls : List (List Int)} {m : Mk} {most : Int} (h : LkdN base N w v ms ls m most) (L : Below w.heap.size w w') : LkdN base N w' v ms ls m most := h.same L.size (fun q _ hq => L.block q hq)
theorem LkdN.views {base N : Nat} {w : World} {v : Value} {ms : List Mk} {ls : List (List Int)} {m : Mk} {most : Int} (h : LkdN base N w v ms ls m most) :
    ∃ a1 c1 a2 c2, v = .agg #[.slice a1 (linkedMs ms ls m most).length c1, .slice a2 (linkedLs ms ls m most).length c2] ∧ MView w a1 (linkedMs ms ls m most) ∧ CView w a2 (linkedLs ms ls m most) := by
  rcases h with ⟨h, rfl⟩ | ⟨h, g, gl, rfl, G, cc, V, lo, hi, ho, hn, h1, h2, h8⟩
  · obtain ⟨h1, h2⟩ := linked_no h
    rw [h1, h2]
    exact ⟨none, 0, none, 0, rfl, Or.inl rfl, Or.inl rfl⟩
  · obtain ⟨e1, e2⟩ := linked_yes h
    obtain ⟨s1, s2, s3, s4⟩ := web_small (linked_ok h)
    rw [e1, e2, lnkL_len, List.length_append]
    refine ⟨some ⟨g, 0, none⟩, ms.length + 1, some ⟨gl, 0, none⟩, ms.length + 1, rfl, ?_, Or.inr ⟨gl, 0, rfl, hn.blk.lt, fun i hi' => ?_⟩⟩
    · have := (ho.own (by unfold maxLen; omega)).view
      rw [dsOf_marks] at this
      exact this
    · rw [lnkL_len] at hi'
      obtain ⟨a, c, ev, hv⟩ := own_form15 (hn.own i hi')
      have hc := hn.blk.cell hi'
      rw [ev] at hc
      exact ⟨a, c, by rw [Nat.zero_add]; exact hc, hv⟩
end Go.Proofs.YtfbhohpbhjlihaaGreat
namespace Go.Proofs.YtfbhohpbhjlihaaGreat
open Go Go.RowKit

theorem insI_new {l : List Int} {x : Int} (hx : x ∉ l) : (insI l x).length = l.length + 1 := by
  rw [insI_plc x hx]
  simp only [List.length_append, List.length_take, List.length_cons, List.length_drop]
  omega
theorem fold_new : ∀ (ids acc : List Int), ids.Nodup → (∀ x ∈ ids, x ∉ acc) → acc.Pairwise (fun a b => a < b) → (ids.foldl insI acc).length = acc.length + ids.length := by
  intro ids
  induction ids with
  | nil => intro acc _ _ _; simp
  | cons a l ih =>
    intro acc hd hn hp
    rw [List.foldl_cons, ih (insI acc a) (List.nodup_cons.1 hd).2 ?_ (insI_pairs hp a), insI_new (hn a (by simp)), List.length_cons]
    · omega
    · intro x hx hm
      have := ((ownI_fold [a] acc hp).2 x).1 hm
      rcases this with h | h
      · exact hn x (by simp [hx]) h
      · rw [List.mem_singleton] at h
        subst h
        exact (List.nodup_cons.1 hd).1 hx
theorem ownI_new {ids : List Int} (hd : ids.Nodup) : (ownI ids).length = ids.length := by
  have := fold_new ids [] hd (fun x _ h => by cases h) List.Pairwise.nil
  simpa [ownI] using this
/-- What the law asks of a web with one more mark. -/
structure WbOne (ms : List Mk) (ls : List (List Int)) (m : Mk) (mo : Int) : Prop where
  ok : webB (ms ++ [m]) (lnkL ms ls (nearI ms m.2 mo) m.1) = true
  old : webB ms ls = true
  id : mid (ms ++ [m]) ms.length = m.1
  at_ : mat (ms ++ [m]) ms.length = m.2
  last : (cn (lnkL ms ls (nearI ms m.2 mo) m.1) ms.length).length = (nearL ms m.2 mo).length
  has_ : ∀ k, k < (nearL ms m.2 mo).length → hasB (cn (lnkL ms ls (nearI ms m.2 mo) m.1) ms.length) (hnth (nearL ms m.2 mo) k).1 = true
  more : islV (ms ++ [m]) (lnkL ms ls (nearI ms m.2 mo) m.1) ≤ islV ms ls + (if (nearL ms m.2 mo).length = 0 then 1 else 0)
  pos : 1 ≤ islV (ms ++ [m]) (lnkL ms ls (nearI ms m.2 mo) m.1)
  up : 0 ≤ islV ms ls ∧ islV ms ls ≤ ms.length
theorem web_one {ms : List Mk} {ls : List (List Int)} {m : Mk} {mo : Int} (h : linkedB ms ls m mo = true) : WbOne ms ls m mo := by
  have hok := linked_ok h
  have hold : webB ms ls = true := by unfold linkedB at h; simp only [Bool.and_eq_true] at h; exact h.1.1
  have hfd := nearI_find (web_marks hold) (p := m.2) (most := mo)
  have hl : (nearI ms m.2 mo).length = (nearL ms m.2 mo).length := by simp [nearI]
  refine ⟨hok, hold, by simp [mid, List.getD], by simp [mat, List.getD], ?_, fun k hk => ?_, ?_, ?_, ?_⟩
  · rw [lnkL_last, ownI_new (nearI_nodup (web_marks hold) m.2 mo), hl]
  · rw [lnkL_last]
    have hm : (hnth (nearL ms m.2 mo) k).1 ∈ nearI ms m.2 mo := by
      refine List.mem_map.2 ⟨hnth (nearL ms m.2 mo) k, ?_, rfl⟩
      simp [hnth, List.getD, hk]
    have := (ownI_mem (nearI ms m.2 mo) _).2 hm
    simpa [hasB] using this
  · have := isl_more (ms := ms) (ls := ls) (m := m) hfd
    rw [islV, if_pos hok, islV, if_pos hold]
    by_cases hz : (nearL ms m.2 mo).length = 0
    · have hi : nearI ms m.2 mo = [] := List.eq_nil_of_length_eq_zero (by rw [hl]; exact hz)
      rw [if_pos hi] at this
      rw [if_pos hz]
      omega
    · have hi : nearI ms m.2 mo ≠ [] := fun e => hz (by rw [← hl, e]; rfl)
      rw [if_neg hi] at this
      rw [if_neg hz]
      omega
  · have := isl_pos (ms := ms ++ [m]) (ls := lnkL ms ls (nearI ms m.2 mo) m.1) (by simp)
    rw [islV, if_pos hok]
    omega
  · have := islN_le ms ls ms.length
    rw [islV, if_pos hold]
    omega
end Go.Proofs.YtfbhohpbhjlihaaGreat
