/-
  The draws of knots: l5DrawAny, l5DrawQuery, DrawLooked.
-/
import Derived.Test.YtodielfilhodeaaKKeepZz
import Derived.Test.YtodielfilhodeaaMDraw2Zz
namespace Go.Proofs.Ytodielfilhodeaa
open Go Go.RowKit

theorem KOuts.put {B : Nat} {w : World} {g : Nat} {pre rest : List Dk} {d d' : Dk} (h : KOuts B w g (pre ++ d :: rest)) (e : d'.1.2 = d.1.2) : KOuts B w g (pre ++ d' :: rest) := by
  refine ⟨fun x hx => ?_, ?_⟩
  · rcases List.mem_append.1 hx with h1 | h1
    · exact h.1 x (List.mem_append.2 (Or.inl h1))
    · rcases List.mem_cons.1 h1 with rfl | h2
      · obtain ⟨k, e1, r, n⟩ := h.1 d (by simp)
        exact ⟨k, by rw [e]; exact e1, by rw [e]; exact r, n⟩
      · exact h.1 x (by simp [h2])
  · have h2 := h.2
    rw [List.pairwise_append, List.pairwise_cons] at h2 ⊢
    refine ⟨h2.1, ⟨fun a ha => by rw [e]; exact h2.2.1.1 a ha, h2.2.1.2⟩, fun a ha b hb => ?_⟩
    rcases List.mem_cons.1 hb with rfl | h3
    · rw [e]; exact h2.2.2 a ha d (by simp)
    · exact h2.2.2 a ha b (by simp [h3])
theorem es_split {α : Type} {es : List α} {y : Nat} (h : y < es.length) : ∃ pre d rest, es = pre ++ d :: rest ∧ pre.length = y :=
  ⟨es.take y, es[y], es.drop (y + 1), by rw [← List.drop_eq_getElem_cons h, List.take_append_drop], by simp; omega⟩
theorem KGot.grownq {B q : Nat} {w w' : World} {v : Value} {ks : List Kn} (h : KGot B w v ks) (g : w.grownBy w' (some q)) (hq : q < B) : KGot B w' v ks :=
  h.gin (GIn.grown (GIn.refl q (q + 1) w) g (Nat.le_refl _) (by omega)) (by omega)

/-- What a draw of knots hands back. -/
def KDrawn (B : Nat) (w : World) (v : Value) : Prop := ∃ ks, KGot B w v ks ∧ ks.length ≤ 60 ∧ ∀ k ∈ ks, k.1.2.length ≤ 4
theorem int4 {y : Int} (h0 : 0 ≤ y) (h1 : y < 4) : y = 0 ∨ y = 1 ∨ y = 2 ∨ y = 3 := by omega

set_option maxRecDepth 100000 in
set_option maxHeartbeats 4000000 in
theorem cKnots (q : Nat) (ao : Option Addr) (n cap : Nat) (w : World) (hc : Cur w q ao n cap) (hv : CodeV w ao n) (hn : n ≤ 4096) :
    Calls Try.prog 75 #[.pointer (some ⟨q, 0, none⟩)] w fun e w' => (∃ v, e = .returned v ∧ KDrawn w.heap.size w' v) ∧ Cur w' q ao n cap ∧ w.grownBy w' (some q) := by
  have hq := hc.lt
  go_enter Try.func75, Try.ntmps75
  go_wp2_with fail
  refine (cMarksAny q ao n cap 9 _ hc hv hn (by omega) (by omega)).mono ?_
  rintro e w1 ⟨⟨g, c, ms, rfl, hnew⟩, c1, g1⟩
  have v1 := hv.grown hc g1
  go_wp2_with fail
  refine (sHalved (some ⟨g, 0, none⟩) c ms _ hnew.view (hnew.small (by omega))).mono ?_
  rintro e w2 ⟨v, rfl, hgot, L2⟩
  have g2 : w.grownBy w2 (some q) := grown_then g1 L2
  have c2 : Cur w2 q ao n cap := c1.grown (grown_below L2) (by simp)
  have v2 := hv.grown hc g2
  have hks : (halvedV ms).length ≤ 60 ∧ ∀ k ∈ halvedV ms, k.1.2.length ≤ 4 := ⟨halved_len ms, fun k hk => halved_at ms k hk⟩
  replace hgot : KGot w.heap.size w2 v (halvedV ms) := hgot.mono g1.size
  generalize halvedV ms = ks at *
  clear L2 c1 v1 g1 hnew
  have HEND : Hid (∀ w3, w2.grownBy w3 (some q) → KDrawn w.heap.size w3 v) := fun w3 g3 => ⟨ks, hgot.grownq g3 hq, hks⟩
  rcases hgot with ⟨rfl, rfl⟩ | ⟨g, c, es, rfl, he, hr, ho⟩
  · go_wp2_with fail
    refine (cOnce q ao n cap 12 _ c2 v2 hn (by omega) (by omega)).mono ?_
    rintro e w3 ⟨⟨x, rfl⟩, c3, g3⟩
    have g23 := grown_trans g2 g3
    have H3 := hidP (And.intro (HEND.out w3 g3) (And.intro c3 g23))
    cases x with
    | false =>
      go_wp2_with fail
      go_ret
      exact ⟨⟨_, rfl, H3.out.1⟩, H3.out.2⟩
    | true =>
      go_wp2_with fail
      go_ret
      exact ⟨⟨_, rfl, H3.out.1⟩, H3.out.2⟩
  · have hgl := hr.lt
    have hkl : ks.length = es.length := by rw [← he, List.length_map]
    have HES : Hid (es.length ≤ 60 ∧ ∀ d ∈ es, d.1.2.2.2.length ≤ 4) := ⟨by omega, fun d hd => hks.2 (dkKn d) (by rw [← he]; exact List.mem_map_of_mem hd)⟩
    rw [hkl]
    rw [hkl] at HEND
    have h60 := HES.out.1
    have HR2 := hidP (And.intro hr ho)
    clear hkl he hks hr ho
    go_wp2_with fail
    refine (cOnce q ao n cap 12 _ c2 v2 hn (by omega) (by omega)).mono ?_
    rintro e w3 ⟨⟨x, rfl⟩, c3, g3⟩
    have g23 := grown_trans g2 g3
    have v3 := hv.grown hc g23
    have H3 := hidP (And.intro (HEND.out w3 g3) (And.intro c3 g23))
    cases x with
    | false =>
      go_wp2_with fail
      go_ret
      exact ⟨⟨_, rfl, H3.out.1⟩, H3.out.2⟩
    | true =>
      by_cases h0 : es.length = 0
      · have h0b : ¬ ((0 : Int) < (es.length : Int)) := by omega
        have H0 := hidP h0
        clear h0
        go_wp2_with fail
        go_ret
        exact ⟨⟨_, rfl, H3.out.1⟩, H3.out.2⟩
      · have h0b : (0 : Int) < (es.length : Int) := by omega
        clear HEND
        go_wp2_with fail
        refine (cBelow q ao n cap es.length _ c3 v3 hn (by omega) (by omega)).mono ?_
        rintro e w4 ⟨⟨y, y0, y1, rfl⟩, c4, g4⟩
        obtain ⟨yn, rfl⟩ := Int.eq_ofNat_of_zero_le y0
        have hyn : yn < es.length := by omega
        have g24 := grown_trans g3 g4
        have v4 := hv.grown hc (grown_trans g2 g24)
        clear g3 g4 g23 c3 v3 H3
        go_wp2_with fail
        refine (cBelow q ao n cap 4 _ c4 v4 hn (by omega) (by omega)).mono ?_
        rintro e w5 ⟨⟨z, z0, z1, rfl⟩, c5, g5⟩
        have g25 := grown_trans g24 g5
        have v5 := hv.grown hc (grown_trans g2 g25)
        have HPUT : Hid (∀ (j : Nat) (u : Int) (w6 : World), j < 5 → j ≠ 1 → Cur w6 q ao n cap → w5.grownBy w6 (some q) → w6.frozen? ⟨g, yn * 5 + j, none⟩ = false ∧ (KDrawn w.heap.size (w6.setCell ⟨g, yn * 5 + j, none⟩ (.int .i64 u)) (.slice (some ⟨g, 0, none⟩) es.length c)) ∧ Cur (w6.setCell ⟨g, yn * 5 + j, none⟩ (.int .i64 u)) q ao n cap ∧ w.grownBy (w6.setCell ⟨g, yn * 5 + j, none⟩ (.int .i64 u)) (some q)) := fun j u w6 hj hj1 c6 g6 => by
          have g26 := grown_trans g25 g6
          obtain ⟨hr, ho⟩ := HR2.out
          obtain ⟨h60, h4⟩ := HES.out
          have hr6 : KRow w.heap.size w6 g c es := hr.kept g26 (fun e => by injection e with e; omega)
          have ho6 : KOuts w.heap.size w6 g es := by
            refine ⟨fun d hd => ?_, ho.2⟩
            obtain ⟨k, e, r, nn⟩ := ho.1 d hd
            exact ⟨k, e, r.kept g26 (fun x => by injection x with x; have := r.lt.1; omega), nn⟩
          have hfz := World.ownsRow.frozenAt hr6 (yn * 5 + j)
          obtain ⟨pre, d, rest, hes, hpre⟩ := es_split hyn
          subst hpre
          have gs := grown_setCell w6 g (pre.length * 5 + j) (.int .i64 u)
          have hfin : ∀ d' : Dk, d'.1.2 = d.1.2 → KRow w.heap.size (w6.setCell ⟨g, pre.length * 5 + j, none⟩ (.int .i64 u)) g c (pre ++ d' :: rest) → KDrawn w.heap.size (w6.setCell ⟨g, pre.length * 5 + j, none⟩ (.int .i64 u)) (.slice (some ⟨g, 0, none⟩) es.length c) := fun d' e' hrow => by
            rw [hes] at ho6 h4 h60
            refine ⟨(pre ++ d' :: rest).map dkKn, Or.inr ⟨g, c, pre ++ d' :: rest, by rw [hes]; simp, rfl, hrow, (ho6.put e').kept gs⟩, by simpa using h60, fun k hk => ?_⟩
            obtain ⟨x, hx, rfl⟩ := List.mem_map.1 hk
            rcases List.mem_append.1 hx with h1 | h1
            · exact h4 x (by simp [h1])
            · rcases List.mem_cons.1 h1 with rfl | h2
              · show x.1.2.2.2.length ≤ 4
                rw [e']; exact h4 d (by simp)
              · exact h4 x (by simp [h2])
          refine ⟨hfz, ?_, c6.grown gs (by simp; omega), grown_far (grown_trans g2 g26) gs (by intro k hk; cases hk; omega)⟩
          rw [hes] at hr6
          have hj5 : j = 0 ∨ j = 2 ∨ j = 3 ∨ j = 4 := by omega
          rcases hj5 with rfl | rfl | rfl | rfl
          · exact hfin ((u, d.1.2), d.2) rfl (hr6.ident u)
          · exact hfin (d.1, u, d.2.2) rfl (hr6.axis u)
          · exact hfin (d.1, d.2.1, u, d.2.2.2) rfl (hr6.less u)
          · exact hfin (d.1, d.2.1, d.2.2.1, u) rfl (hr6.more u)
        have HC5 := hidP (And.intro c5 v5)
        have HCELL : Hid (∀ (w6 : World), w5.grownBy w6 (some q) → ∀ j, j < 5 → ∃ x, w6.cell? ⟨g, yn * 5 + j, none⟩ = some x) := fun w6 g6 j hj => by
          have hr6 : KRow w.heap.size w6 g c es := HR2.out.1.kept (grown_trans g25 g6) (fun e => by injection e with e; omega)
          obtain ⟨k0, k1, k2, k3, k4⟩ := hr6.cell hyn
          have hj5 : j = 0 ∨ j = 1 ∨ j = 2 ∨ j = 3 ∨ j = 4 := by omega
          rcases hj5 with rfl | rfl | rfl | rfl | rfl
          · exact ⟨_, k0⟩
          · exact ⟨_, k1⟩
          · exact ⟨_, k2⟩
          · exact ⟨_, k3⟩
          · exact ⟨_, k4⟩
        clear g24 g5 g25 c4 v4 c5 v5
        rcases int4 z0 z1 with rfl | rfl | rfl | rfl
        · go_wp2_with fail
          refine (cFrom q ao n cap (-1) 4 _ HC5.out.1 HC5.out.2 hn (by omega) (by omega) (by omega) (by omega)).mono ?_
          rintro e w6 ⟨⟨u, _, _, rfl⟩, c6, g6⟩
          have HP := hidP (HPUT.out 2 u w6 (by omega) (by omega) c6 g6)
          have hfz := HP.out.1
          obtain ⟨x, hx⟩ := HCELL.out w6 g6 2 (by omega)
          clear c6 g6
          go_wp2_with fail
          go_ret
          exact ⟨⟨_, rfl, HP.out.2.1⟩, HP.out.2.2⟩
        · go_wp2_with fail
          refine (cFrom q ao n cap (-2) 9 _ HC5.out.1 HC5.out.2 hn (by omega) (by omega) (by omega) (by omega)).mono ?_
          rintro e w6 ⟨⟨u, _, _, rfl⟩, c6, g6⟩
          have HP := hidP (HPUT.out 3 u w6 (by omega) (by omega) c6 g6)
          have hfz := HP.out.1
          obtain ⟨x, hx⟩ := HCELL.out w6 g6 3 (by omega)
          clear c6 g6
          go_wp2_with fail
          go_ret
          exact ⟨⟨_, rfl, HP.out.2.1⟩, HP.out.2.2⟩
        · go_wp2_with fail
          refine (cFrom q ao n cap (-2) 9 _ HC5.out.1 HC5.out.2 hn (by omega) (by omega) (by omega) (by omega)).mono ?_
          rintro e w6 ⟨⟨u, _, _, rfl⟩, c6, g6⟩
          have HP := hidP (HPUT.out 4 u w6 (by omega) (by omega) c6 g6)
          have hfz := HP.out.1
          obtain ⟨x, hx⟩ := HCELL.out w6 g6 4 (by omega)
          clear c6 g6
          go_wp2_with fail
          go_ret
          exact ⟨⟨_, rfl, HP.out.2.1⟩, HP.out.2.2⟩
        · go_wp2_with fail
          refine (cBelow q ao n cap 5 _ HC5.out.1 HC5.out.2 hn (by omega) (by omega)).mono ?_
          rintro e w6 ⟨⟨u, _, _, rfl⟩, c6, g6⟩
          have HP0 := HPUT.out 0 u w6 (by omega) (by omega) c6 g6
          simp only [Nat.add_zero] at HP0
          have HP := hidP HP0
          have hfz := HP.out.1
          obtain ⟨x, hx⟩ := HCELL.out w6 g6 0 (by omega)
          simp only [Nat.add_zero] at hx
          clear HP0
          clear c6 g6
          go_wp2_with fail
          go_ret
          exact ⟨⟨_, rfl, HP.out.2.1⟩, HP.out.2.2⟩

set_option maxRecDepth 100000 in
set_option maxHeartbeats 1000000 in
theorem cQuery (B q : Nat) (ao : Option Addr) (n cap : Nat) (v : Value) (w : World) (hc : Cur w q ao n cap) (hv : CodeV w ao n) (hn : n ≤ 4096) (hd : KDrawn B w v) :
    Calls Try.prog 76 #[.pointer (some ⟨q, 0, none⟩), v] w fun e w' => (∃ g c xs, e = .returned (.slice (some ⟨g, 0, none⟩) xs.length c) ∧ xs.length ≤ 5 ∧ Row w.heap.size w' g c xs) ∧ Cur w' q ao n cap ∧ w.grownBy w' (some q) := by
  obtain ⟨ks, hgot, hlen, hat⟩ := hd
  have HN : Hid (∀ m : Int, 0 ≤ m → m ≤ 4 → Calls Try.prog 86 #[.pointer (some ⟨q, 0, none⟩), .int .i64 m] w fun e w' => (∃ g c xs, e = .returned (.slice (some ⟨g, 0, none⟩) xs.length c) ∧ xs.length ≤ 5 ∧ Row w.heap.size w' g c xs) ∧ Cur w' q ao n cap ∧ w.grownBy w' (some q)) := fun m h0 h1 => cAnyI q ao n cap m w hc hv hn h0 h1
  rcases hgot with ⟨rfl, rfl⟩ | ⟨g, c, es, rfl, he, hr, ho⟩
  · go_enter Try.func76, Try.ntmps76
    go_wp2_with fail
    refine (HN.out 2 (by omega) (by omega)).mono ?_
    rintro e w1 ⟨⟨g', c', xs, rfl, hx, hrow⟩, c1, g1⟩
    have H1 := hidP (And.intro hx (And.intro hrow (And.intro c1 g1)))
    clear hx hrow c1 g1
    go_wp2_with fail
    go_ret
    exact ⟨⟨g', c', xs, rfl, H1.out.1, H1.out.2.1⟩, H1.out.2.2⟩
  · have hkl : ks.length = es.length := by rw [← he, List.length_map]
    rw [hkl]
    by_cases h0 : es.length = 0
    · have h0b : ((es.length : Int) == 0) = true := by simp [h0]
      have H0 := hidP h0
      clear h0 hkl he hr ho
      go_enter Try.func76, Try.ntmps76
      go_wp2_with fail
      refine (HN.out 2 (by omega) (by omega)).mono ?_
      rintro e w1 ⟨⟨g', c', xs, rfl, hx, hrow⟩, c1, g1⟩
      have H1 := hidP (And.intro hx (And.intro hrow (And.intro c1 g1)))
      clear hx hrow c1 g1
      go_wp2_with fail
      go_ret
      exact ⟨⟨g', c', xs, rfl, H1.out.1, H1.out.2.1⟩, H1.out.2.2⟩
    · have h0b : ((es.length : Int) == 0) = false := beq_eq_false_iff_ne.2 (by omega)
      have h0c : (0 : Int) < (es.length : Int) := by omega
      have hm : dnth es 0 ∈ es := by simp [dnth, List.getD, show 0 < es.length by omega]
      have h4 := hat (dkKn (dnth es 0)) (by rw [← he]; exact List.mem_map_of_mem hm)
      have h4' : (dnth es 0).1.2.2.2.length ≤ 4 := h4
      have k1 := (hr.cell (show 0 < es.length by omega)).2.1
      simp only [Nat.zero_mul, Nat.zero_add] at k1
      obtain ⟨h, e, _, _⟩ := ho.1 _ hm
      rw [e] at k1
      obtain ⟨L, hL⟩ : ∃ L, L = (dnth es 0).1.2.2.2.length := ⟨_, rfl⟩
      obtain ⟨L2, hL2⟩ : ∃ L, L = (dnth es 0).1.2.2.1 := ⟨_, rfl⟩
      rw [← hL, ← hL2] at k1
      rw [← hL] at h4'
      have HM := hidP (HN.out L (by omega) (by omega))
      clear h0 hkl he hr ho hat h4 HN hL hL2
      go_enter Try.func76, Try.ntmps76
      go_wp2_with fail
      refine HM.out.mono ?_
      rintro e w1 ⟨⟨g', c', xs, rfl, hx, hrow⟩, c1, g1⟩
      have H1 := hidP (And.intro hx (And.intro hrow (And.intro c1 g1)))
      clear hx hrow c1 g1
      go_wp2_with fail
      go_ret
      exact ⟨⟨g', c', xs, rfl, H1.out.1, H1.out.2.1⟩, H1.out.2.2⟩

set_option maxRecDepth 100000 in
set_option maxHeartbeats 1000000 in
theorem cLooked (ao : Option Addr) (n cap : Nat) (w : World) (hv : CodeV w ao n) (hn : n ≤ 4096) :
    Calls Try.prog 24 #[.slice ao n cap] w fun e w' => ∃ a1 c1 ks g c xs, e = .returned (.tuple #[.slice a1 ks.length c1, .slice (some ⟨g, 0, none⟩) xs.length c]) ∧ KView w' a1 ks ∧ ks.length ≤ 60 ∧ (∀ k ∈ ks, k.1.2.length ≤ 4) ∧ View w' (some ⟨g, 0, none⟩) xs ∧ xs.length ≤ 5 ∧ Below w.heap.size w w' := by
  go_enter Try.func24, Try.ntmps24
  go_wp2_with fail
  refine (cNew ao n cap _ hv hn).mono ?_
  rintro e w1 ⟨rfl, c1, L1⟩
  have hv1 := hv.below (Nat.le_refl _) L1
  have hq := c1.lt
  go_wp2_with fail
  refine (cKnots _ ao n cap _ c1 hv1 hn).mono ?_
  rintro e w2 ⟨⟨v, rfl, hd⟩, c2, g2⟩
  have L2 : Below w.heap.size w w2 := L1.grown g2 L1.size (by intro k hk; cases hk; exact Nat.le_refl _)
  have hv2 := hv1.grown c1 g2
  go_wp2_with fail
  refine (cQuery _ _ ao n cap v _ c2 hv2 hn hd).mono ?_
  rintro e w3 ⟨⟨g, c, xs, rfl, hx, hrow⟩, c3, g3⟩
  have L3 : Below w.heap.size w w3 := L2.grown g3 L2.size (by intro k hk; cases hk; exact Nat.le_refl _)
  obtain ⟨ks, hgot, hlen, hat⟩ := hd
  obtain ⟨a1, cc, rfl, hkv⟩ := (hgot.grownq g3 hq).view
  have HE := hidP (And.intro hkv (And.intro hlen (And.intro hat (And.intro hrow.seg (And.intro hrow.lt2 (And.intro hx L3))))))
  clear hkv hlen hat hrow hx L3 hgot
  go_wp2_with fail
  go_ret2
  exact ⟨a1, cc, ks, g, c, xs, rfl, HE.out.1, HE.out.2.1, HE.out.2.2.1, Or.inr ⟨g, 0, rfl, HE.out.2.2.2.2.1.2, HE.out.2.2.2.1⟩, HE.out.2.2.2.2.2.1, HE.out.2.2.2.2.2.2⟩

end Go.Proofs.Ytodielfilhodeaa
