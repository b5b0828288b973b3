/-
  The program's see: one more is seen, or it was seen before.
-/
import Derived.Test.YtmembegdbceooaaGreatFg4Zz
import Derived.Test.YtmembegdbceooaaGreatLastZz
namespace Go.Proofs.YtmembegdbceooaaGreat
open Go Go.RowKit

theorem ins_nth {α : Type} (l : List α) (x d : α) (p k : Nat) (hp : p ≤ l.length) : (l.take p ++ x :: l.drop p).getD k d = if k < p then l.getD k d else if k = p then x else l.getD (k - 1) d := by
  have hl : (l.take p).length = p := by simp; omega
  rw [List.getD_eq_getElem?_getD, List.getElem?_append, hl]
  by_cases h1 : k < p
  · rw [if_pos h1, if_pos h1, List.getElem?_take, if_pos h1, List.getD_eq_getElem?_getD]
  · rw [if_neg h1, if_neg h1]
    by_cases h2 : k = p
    · rw [if_pos h2, h2]; simp
    · rw [if_neg h2]
      obtain ⟨j, hj⟩ : ∃ j, k - p = j + 1 := ⟨k - p - 1, by omega⟩
      rw [hj, List.getElem?_cons_succ, List.getElem?_drop, List.getD_eq_getElem?_getD]
      congr 2
      omega
theorem IsS.meth {sv : Value} {h : Ht} {a : Option Addr} {n c : Nat} (k : IsS sv h a n c) : ∃ t v, sv = .iface t v ∧ (∀ w, Sem.run Tryz.prog (method 364 t v "loop.example/g00273/impl.id") w = .ok (257, .agg #[.int .i64 h.1, .slice a n c]) w) ∧ ∀ w, Sem.run Tryz.prog (method 364 t v "loop.example/g00273/impl.links") w = .ok (258, .agg #[.int .i64 h.1, .slice a n c]) w := by
  rcases k with ⟨k, -⟩ | k
  · exact ⟨_, _, k, fun w => m_idS _ _ _ _ w, fun w => m_linksS _ _ _ _ w⟩
  · exact ⟨_, _, k, fun w => m_idT _ _ _ _ _ w, fun w => m_linksT _ _ _ _ _ w⟩
theorem Gz.one {W0 w : World} {G cm cl cq cs co : Nat} {am al aq as1 ao : Option Addr} {ms : List Mk} {ls : List (List Int)} {q op : List Int} {s : List Ht} {vs : List Value} (h : Gz W0 w G am cm ms al cl ls aq cq q s op as1 cs vs ao co) : ∀ v ∈ vs, v.oneCell' = true := by
  intro v hv
  obtain ⟨k, hk, e⟩ := List.mem_iff_getElem.1 hv
  obtain ⟨a, c, hIs, -⟩ := h.sees k (by rw [← h.vl]; exact hk)
  have e2 : vs.getD k .nilIface = v := by simp [List.getD, hk, e]
  rw [e2] at hIs
  exact hIs.one
/-- One more among what is seen. -/
theorem Gz.put {W0 w w5 w6 : World} {G cm cl cq cs co : Nat} {am al aq as1 ao : Option Addr} {ms : List Mk} {ls : List (List Int)} {q op : List Int} {s : List Ht} {vs : List Value} {x : Int} {r : Value} {g c5 p : Nat} (h : Gz W0 w G am cm ms al cl ls aq cq q s op as1 cs vs ao co) (hx : x ∉ idsH s) (hp : p = posA (x, ddQ ms q x) s) (hr : Sees W0 ms ls q x r) (hrow : VRowS W0.heap.size w5 g c5 (vs.take p ++ r :: vs.drop p)) (hgr : w.grownBy w5 (Value.slice as1 s.length cs).ownBlock) (hat : (Value.slice as1 s.length cs).ownBlock = some g ∨ g = w.heap.size) (h6 : w6 = w5.setCell ⟨G, 3, none⟩ (.slice (some ⟨g, 0, none⟩) (s.length + 1) c5)) :
    ∃ vs', Gz W0 w6 G am cm ms al cl ls aq cq q (seeD (ddQ ms q) s x) op (some ⟨g, 0, none⟩) c5 vs' ao co := by
  have hb : hasB (idsH s) x = false := (hasB_no _ _).2 hx
  have es : seeD (ddQ ms q) s x = s.take p ++ (x, ddQ ms q x) :: s.drop p := by
    unfold seeD
    rw [hb, if_neg (by simp), posA_put (ddQ ms q) hx, hp]
  have hpl : p ≤ s.length := by rw [hp]; exact posA_le _ _
  have hlen : (seeD (ddQ ms q) s x).length = s.length + 1 := by rw [es]; simp; omega
  have hvl : (vs.take p ++ r :: vs.drop p).length = s.length + 1 := by have := h.vl; simp; omega
  have hGl := h.five.lt
  have hob := World.ownsRow.lt h.opr
  have hgG : g ≠ G := by
    rcases hat with e | e
    · intro e2; rw [e2] at e; exact h.a1 e
    · omega
  have F5 : Fiv w5 G (.slice am ms.length cm) (.slice al ls.length cl) (.slice aq q.length cq) (.slice as1 s.length cs) (.slice ao op.length co) 107 := h.five.kept hgr (fun e => h.a1 e.symm)
  have hg6 : w5.grownBy w6 (some G) := by rw [h6]; exact grown_setCell w5 G 3 _
  have O5 : w5.ownsRow W0.heap.size 2 1 (.slice ao op.length co) op.length (numC op) := World.ownsRow.kept h.opr hgr (by
    cases he : (Value.slice ao op.length co).ownBlock with
    | none => exact Or.inl rfl
    | some b => exact Or.inr fun e => h.a3 b e.symm he)
  refine ⟨vs.take p ++ r :: vs.drop p, ?_, h.low, ?_, by rw [hvl, hlen], fun k hk => ?_, ?_, ?_, h.a2, fun g' e => ?_, ?_⟩
  · rw [hlen, h6]; exact F5.set3 _
  · have e1 : VRowS W0.heap.size w6 g c5 (vs.take p ++ r :: vs.drop p) := World.ownsRow.kept hrow hg6 (Or.inr fun e => by
      have e' : some g = some G := e
      injection e' with e'
      exact hgG e')
    have e2 : w6.ownsRow W0.heap.size 167 1 (.slice (some ⟨g, 0, none⟩) (vs.take p ++ r :: vs.drop p).length c5) (vs.take p ++ r :: vs.drop p).length (vs.take p ++ r :: vs.drop p) := e1
    rw [hvl] at e2
    rw [hlen]
    exact e2
  · rw [hlen] at hk
    rw [ins_nth vs r .nilIface p k (by rw [h.vl]; exact hpl)]
    have e : hnth (seeD (ddQ ms q) s x) k = if k < p then hnth s k else if k = p then (x, ddQ ms q x) else hnth s (k - 1) := by
      rw [es]
      exact ins_nth s (x, ddQ ms q x) (0, 0) p k hpl
    rw [e]
    by_cases h1 : k < p
    · rw [if_pos h1, if_pos h1]; exact h.sees k (by omega)
    · rw [if_neg h1, if_neg h1]
      by_cases h2 : k = p
      · rw [if_pos h2, if_pos h2]; exact hr
      · rw [if_neg h2, if_neg h2]; exact h.sees (k - 1) (by omega)
  · exact World.ownsRow.kept O5 hg6 (Or.inr h.a2)
  · intro e
    have e' : some g = some G := e
    injection e' with e'
    exact hgG e'
  · have e' : some g = some g' := e
    injection e' with e'
    subst e'
    rcases hat with e2 | e2
    · exact h.a3 g e2
    · intro e3
      have := (hob g e3).2
      omega
  · have hsb := World.ownsRow.lt h.sr
    exact (h.bel.grown hgr (by have := h.bel.size; omega) (fun k hk => (hsb k hk).1)).grown hg6 (by have := h.bel.size; have := hgr.size; omega) (fun k hk => by cases hk; exact h.low)

set_option maxRecDepth 100000 in
set_option maxHeartbeats 8000000 in
theorem iSee (W0 w : World) (G cm cl cq cs co : Nat) (am al aq as1 ao : Option Addr) (ms : List Mk) (ls : List (List Int)) (q op : List Int) (s : List Ht) (vs : List Value) (x : Int) (hg : Gz W0 w G am cm ms al cl ls aq cq q s op as1 cs vs ao co) (hI : LkIn W0 am ms al ls aq q) (hW : LkWeb ms ls q) (hd : LookD (ddQ ms q) s) (hx : 0 ≤ zFind ms x) (hn : s.length ≤ 60) :
    Calls Tryz.prog 81 #[.pointer (some ⟨G, 0, none⟩), .int .i64 x] w fun e w' => e = .returned (.bool (!hasB (idsH s) x)) ∧ ∃ as2 cs2 vs2, Gz W0 w' G am cm ms al cl ls aq cq q (seeD (ddQ ms q) s x) op as2 cs2 vs2 ao co := by
  obtain ⟨W1, hW1⟩ : ∃ W, w.alloc (.cells #[.pointer (some ⟨G, 0, none⟩)] 165) = W := ⟨_, rfl⟩
  obtain ⟨B, hBe⟩ : ∃ B, B = w.heap.size := ⟨_, rfl⟩
  have L1 : Below w.heap.size w W1 := by rw [← hW1]; exact (Below.refl _ _).alloc (Nat.le_refl _) _
  have hB1 : W1.cell? ⟨B, 0, none⟩ = some (.pointer (some ⟨G, 0, none⟩)) := by rw [← hW1, hBe]; simp
  have hB0 : W1.cell? ⟨w.heap.size, 0, none⟩ = some (.pointer (some ⟨G, 0, none⟩)) := by rw [← hW1]; simp
  have hBl : B < W1.heap.size := by rw [← hW1, hBe]; simp
  have hGB : G < B := by rw [hBe]; exact hg.five.lt
  have hobs : ∀ g, (Value.slice as1 s.length cs).ownBlock = some g → W0.heap.size ≤ g ∧ g < B := fun g e => by rw [hBe]; exact World.ownsRow.lt hg.sr g e
  have hg1 := hg.next L1
  have HSO := hidP (iSightOf G am al aq cm cl cq ms ls q _ _ x W0 W1 hg1.bel hg1.five hI hW hx)
  have HG1 := hidP hg1
  have HD := hidP hd
  have HOB := hidP hobs
  have HPH := hidP (posA_has hd x)
  have hpl := posA_le (x, ddQ ms q x) s
  clear hg L1 hg1 hI hW hd hx hobs
  go_enter Tryz.func81, Tryz.ntmps81
  go_wp2_with fail
  rw [← hBe]
  refine HSO.out.mono ?_
  rintro e w1 ⟨⟨r, rfl, hr⟩, L1⟩
  clear hW1 hBe hB0
  obtain ⟨la, lc, hIs, hlv⟩ := id hr
  obtain ⟨rt, rv, hre, -, -⟩ := hIs.meth
  subst hre
  have HR := hidP hr
  have HIS := hidP hIs
  have HHO := hidP (iHitOf _ (x, ddQ ms q x) la _ lc w1 hIs)
  have hg1 := HG1.out.next L1
  have hb1 := (L1.cell (p := ⟨B, 0, none⟩) hBl).trans hB1
  have hBl1 := Nat.lt_of_lt_of_le hBl L1.size
  have HG2 := hidP hg1
  clear HG1 HSO L1 hr hIs hlv hB1 hBl
  simp only at HHO
  go_wp2_with fail
  refine HHO.out.mono ?_
  rintro e w2 ⟨rfl, L2⟩
  have hg2 := HG2.out.next L2
  have hb2 := (L2.cell (p := ⟨B, 0, none⟩) hBl1).trans hb1
  have hBl2 := Nat.lt_of_lt_of_le hBl1 L2.size
  clear L2 HHO HG2 hb1 hg1 hBl1
  obtain ⟨W3, hW3⟩ : ∃ W, w2.alloc (.cells #[.int .i64 x, .int .i64 (ddQ ms q x)] 44) = W := ⟨_, rfl⟩
  have L3 : Below w2.heap.size w2 W3 := by rw [← hW3]; exact (Below.refl _ _).alloc (Nat.le_refl _) _
  have hH3 : Two W3 w2.heap.size (.int .i64 x) (.int .i64 (ddQ ms q x)) 44 := by rw [← hW3]; exact Two.new w2 _ _ _
  have hg3 := hg2.next L3
  have hb3 := (L3.cell (p := ⟨B, 0, none⟩) hBl2).trans hb2
  have hBl3 := Nat.lt_of_lt_of_le hBl2 L3.size
  have HSE := hidP (iSearchG B w2.heap.size W0 W3 G cm cl cq cs co am al aq as1 ao ms ls q op s vs (x, ddQ ms q x) hg3 HD.out hb3 hH3 hn)
  obtain ⟨-, -, -, g3, -⟩ := hg3.five.cells
  have HG3 := hidP hg3
  clear L3 hH3 hg3 hg2 hb2 hBl2
  obtain ⟨dx, hdx⟩ : ∃ dx, ddQ ms q x = dx := ⟨_, rfl⟩
  have HDX := hidP hdx
  rw [hdx] at HSE hW3 HPH hpl HIS ⊢
  clear hdx
  obtain ⟨p, hp⟩ : ∃ p, posA (x, dx) s = p := ⟨_, rfl⟩
  have HP := hidP hp
  rw [hp] at HSE HPH hpl
  clear hp
  go_wp2_with fail
  refine HSE.out.mono ?_
  rintro e w4 ⟨rfl, L4⟩
  have hg4 := HG3.out.next L4
  have hb4 := (L4.cell (p := ⟨B, 0, none⟩) hBl3).trans hb3
  have hBl4 := Nat.lt_of_lt_of_le hBl3 L4.size
  clear L4 HSE HG3 hb3 g3 hW3 hBl3
  obtain ⟨-, -, -, g3, -⟩ := hg4.five.cells
  have HG4 := hidP hg4
  by_cases hps : p < s.length
  · obtain ⟨sb, rfl, hsb, hsl, hsc⟩ := own_cell hg4.sr (by rw [hg4.vl]; omega)
    have c0 := hsc p (by rw [hg4.vl]; exact hps)
    obtain ⟨ta, tc, hIt, -⟩ := hg4.sees p hps
    obtain ⟨tt, tv, hsv, hm1, -⟩ := hIt.meth
    rw [hsv] at c0
    have HID := hidP (fun w' => pSpotId (hnth s p).1 ta (cn ls (zIdx ms (hnth s p).1)).length tc w')
    have hp0 : (0 : Int) ≤ (p : Int) := Int.natCast_nonneg _
    have hp1 : (p : Int) < (s.length : Int) := by omega
    clear hsc hIt hsv hg4
    simp only at hm1
    obtain ⟨y, hy⟩ : ∃ y, (hnth s p).1 = y := ⟨_, rfl⟩
    rw [hy] at HID hm1 HPH
    clear hy
    generalize (cn ls (zIdx ms y)).length = yn at *
    by_cases hyx : y = x
    · have hyb : (y == x) = true := by simp [hyx]
      have HV : Hid (hasB (idsH s) x = true) := by show _ = _; rw [HPH.out]; simp [hps, hyx]
      have HS : Hid (seeD (ddQ ms q) s x = s) := by show _ = _; unfold seeD; rw [HV.out]; rfl
      clear hyx HPH
      go_wp2_with fail
      refine (HID.out _).mono ?_
      rintro e w5 ⟨rfl, rfl⟩
      go_wp2_with fail
      go_ret
      exact ⟨ret_bool (by rw [HV.out]; rfl), _, _, _, by rw [HS.out]; exact HG4.out.next ((Below.refl _ _).alloc (Nat.le_refl _) _)⟩
    · have hyb : (y == x) = false := by simp [hyx]
      have HV : Hid (hasB (idsH s) x = false) := by show _ = _; rw [HPH.out]; simp [hyx]
      have HNX := hidP ((hasB_no _ _).1 HV.out)
      clear hyx HPH
      go_wp2_with fail
      refine (HID.out _).mono ?_
      rintro e w5 ⟨rfl, rfl⟩
      obtain ⟨W5, hW5⟩ : ∃ W, w4.alloc (.cells #[.int .i64 y, .slice ta yn tc] 195) = W := ⟨_, rfl⟩
      have L5 : Below w4.heap.size w4 W5 := by rw [← hW5]; exact (Below.refl _ _).alloc (Nat.le_refl _) _
      rw [hW5]
      clear hW5
      have hg5 := HG4.out.next L5
      have hb5 := (L5.cell (p := ⟨B, 0, none⟩) hBl4).trans hb4
      have hBl5 := Nat.lt_of_lt_of_le hBl4 L5.size
      clear L5
      obtain ⟨-, -, -, q3, -⟩ := hg5.five.cells
      have hGl := hg5.five.lt
      obtain ⟨W6, hW6⟩ : ∃ W, W = (W5.alloc (.cells #[.iface rt rv] 167)).drew := ⟨_, rfl⟩
      have L6 : Below W5.heap.size W5 W6 := by rw [hW6]; exact ((Below.refl W5.heap.size W5).alloc (Nat.le_refl _) _).drew
      have V6 : One W6 W5.heap.size (.iface rt rv) 167 := by rw [hW6]; exact (show One (W5.alloc (.cells #[.iface rt rv] 167)) W5.heap.size (.iface rt rv) 167 from One.new W5 _ _)
      have hz6 : W6.heap.size = W5.heap.size + 1 := by rw [hW6]; simp
      have hg6 := hg5.next L6
      have HINS : Hid (Calls Tryz.prog 145 #[.slice (some ⟨sb, 0, none⟩) s.length cs, .int .i64 p, .slice (some ⟨W5.heap.size, 0, none⟩) 1 1] W6 fun e w' => ∃ g G, e = .returned (.slice (some ⟨g, 0, none⟩) (s.length + 1) G) ∧ VRowS W0.heap.size w' g G (vs.take p ++ (Value.iface rt rv) :: vs.drop p) ∧ W6.grownBy w' (Value.slice (some ⟨sb, 0, none⟩) s.length cs).ownBlock ∧ ((Value.slice (some ⟨sb, 0, none⟩) s.length cs).ownBlock = some g ∨ g = W6.heap.size)) := by
        have hvl := hg6.vl
        have hsr := hg6.sr
        rw [← hvl] at hsr
        have h0 := iInsertS W0.heap.size cs p W5.heap.size (some ⟨sb, 0, none⟩) vs (.iface rt rv) W6 hg6.one HIS.out.one hsr V6 (fun e => by rw [hvl] at e; have := (HOB.out _ e).2; omega) (by rw [hvl]; exact hpl) (by rw [hvl]; omega) hg6.bel.size
        rw [hvl] at h0
        exact h0
      have b6 := (L6.cell (p := ⟨B, 0, none⟩) hBl5).trans hb5
      have s6 := (L6.cell (p := ⟨G, 3, none⟩) hGl).trans q3
      have HG6 := hidP hg6
      have hGl6 : G < W6.heap.size := by omega
      have hBl6 : B < W6.heap.size := by omega
      clear L6 V6 hg6 hg5 HG4 hb4 g3 c0
      go_wp2_with fail
      refine wp_region_calm2 (S := fun w' => w'.cell? ⟨B, 0, none⟩ = some (.pointer (some ⟨G, 0, none⟩)) ∧ w'.cell? ⟨G, 3, none⟩ = some (.slice (some ⟨sb, 0, none⟩) s.length cs)) (fuel := 4)
        [0, 1, 2, 3, 4, 5, 6] _ rfl (by kernel_rfl) (by kernel_rfl) (by kernel_rfl) (by kernel_rfl) (by kernel_rfl) (by kernel_rfl) (by kernel_rfl) ⟨hb5, q3⟩ (fun hS => ?_)
      iterate 7
        refine ⟨_, rfl, ?_⟩
        apply Exists.intro
        refine ⟨Or.inl ⟨by rfl, fun w' hw' => ?_⟩, ?_⟩
        · first
          | (go_simp; done)
          | (go_simp; with_reducible rfl)
        simp only [Act.put, List.setIfInBounds_toArray]
      refine calm_one 7 (by kernel_rfl) rfl (fun K hK => ?_)
      go_simp
      rw [← hW6]
      clear hW6
      refine hK.out _ _ ⟨b6, s6⟩ (fun _ => ?_)
      clear hK K
      refine calm_one 8 (by kernel_rfl) rfl (fun K hK => ?_)
      go_simp
      refine HINS.out.mono ?_
      rintro e w7 ⟨g, c7, rfl, hrow7, hgr7, hat7⟩
      have hkeep : ∀ b o, b < W6.heap.size → (∀ g0, (Value.slice (some ⟨sb, 0, none⟩) s.length cs).ownBlock = some g0 → b ≠ g0) → w7.cell? ⟨b, o, none⟩ = W6.cell? ⟨b, o, none⟩ := fun b o hb hne => by
        simp only [World.cell?, hgr7.block b hb (fun e => hne b e.symm rfl)]
      have hB7 := hkeep B 0 hBl6 (fun g0 h0 => by have := (HOB.out g0 h0).2; omega)
      have hG7 := hkeep G 3 hGl6 (fun g0 h0 e => HG6.out.a1 (by rw [e]; exact h0))
      have F7 := HG6.out.five.kept hgr7 (fun e => HG6.out.a1 e.symm)
      have HE := hidP (And.intro hrow7 (And.intro hgr7 hat7))
      refine hK.out _ _ ⟨hB7.trans b6, hG7.trans s6⟩ (fun hS7 => ?_)
      clear hK K hkeep hrow7 hgr7 hat7
      refine calm_one 9 (by kernel_rfl) rfl (fun K hK => ?_)
      go_simp
      refine hK.out _ _ hS7 (fun _ => ?_)
      clear hK K
      refine calm_one 10 (by kernel_rfl) rfl (fun K hK => ?_)
      go_simp
      refine hK.out _ _ hS7 (fun _ => ?_)
      clear hK K
      refine wpAnyH_done (by kernel_rfl) ?_ _
      simp only [Exit.then]
      have f7 := F7.frozen 3
      obtain ⟨-, -, -, r3, -⟩ := F7.cells
      go_wp2_with fail
      refine NoPanic.normal ?_
      obtain ⟨W8, hW8⟩ : ∃ W, W = w7.setCell ⟨G, 3, none⟩ (.slice (some ⟨g, 0, none⟩) (s.length + 1) c7) := ⟨_, rfl⟩
      rw [← hW8]
      have HEND : Hid (∃ vs', Gz W0 W8 G am cm ms al cl ls aq cq q (seeD (ddQ ms q) s x) op (some ⟨g, 0, none⟩) c7 vs' ao co) := HG6.out.put HNX.out (by rw [HDX.out]; exact HP.out.symm) HR.out HE.out.1 HE.out.2.1 HE.out.2.2 hW8
      clear hS7 hB7 hG7 F7 r3 f7 hW8
      simp only [Exit.then]
      go_wp2_with fail
      go_ret
      obtain ⟨vs', hfin⟩ := HEND.out
      exact ⟨ret_bool (by rw [HV.out]; rfl), _, _, vs', hfin⟩
  · have hp1 : ¬ ((p : Int) < (s.length : Int)) := by omega
    have HV : Hid (hasB (idsH s) x = false) := by show _ = _; rw [HPH.out]; simp [hps]
    have HNX := hidP ((hasB_no _ _).1 HV.out)
    obtain ⟨W5, hW5⟩ : ∃ W, W = w4 := ⟨_, rfl⟩
    have L5 : Below w4.heap.size w4 W5 := by rw [hW5]; exact Below.refl _ _
    clear HPH hg4
    rw [← hW5] at g3 ⊢
    clear hW5
    have hg5 := HG4.out.next L5
    have hb5 := (L5.cell (p := ⟨B, 0, none⟩) hBl4).trans hb4
    have hBl5 := Nat.lt_of_lt_of_le hBl4 L5.size
    clear L5
    obtain ⟨-, -, -, q3, -⟩ := hg5.five.cells
    have hGl := hg5.five.lt
    obtain ⟨W6, hW6⟩ : ∃ W, W = (W5.alloc (.cells #[.iface rt rv] 167)).drew := ⟨_, rfl⟩
    have L6 : Below W5.heap.size W5 W6 := by rw [hW6]; exact ((Below.refl W5.heap.size W5).alloc (Nat.le_refl _) _).drew
    have V6 : One W6 W5.heap.size (.iface rt rv) 167 := by rw [hW6]; exact (show One (W5.alloc (.cells #[.iface rt rv] 167)) W5.heap.size (.iface rt rv) 167 from One.new W5 _ _)
    have hz6 : W6.heap.size = W5.heap.size + 1 := by rw [hW6]; simp
    have hg6 := hg5.next L6
    have HINS : Hid (Calls Tryz.prog 145 #[.slice as1 s.length cs, .int .i64 p, .slice (some ⟨W5.heap.size, 0, none⟩) 1 1] W6 fun e w' => ∃ g G, e = .returned (.slice (some ⟨g, 0, none⟩) (s.length + 1) G) ∧ VRowS W0.heap.size w' g G (vs.take p ++ (Value.iface rt rv) :: vs.drop p) ∧ W6.grownBy w' (Value.slice as1 s.length cs).ownBlock ∧ ((Value.slice as1 s.length cs).ownBlock = some g ∨ g = W6.heap.size)) := by
      have hvl := hg6.vl
      have hsr := hg6.sr
      rw [← hvl] at hsr
      have h0 := iInsertS W0.heap.size cs p W5.heap.size as1 vs (.iface rt rv) W6 hg6.one HIS.out.one hsr V6 (fun e => by rw [hvl] at e; have := (HOB.out _ e).2; omega) (by rw [hvl]; exact hpl) (by rw [hvl]; omega) hg6.bel.size
      rw [hvl] at h0
      exact h0
    have b6 := (L6.cell (p := ⟨B, 0, none⟩) hBl5).trans hb5
    have s6 := (L6.cell (p := ⟨G, 3, none⟩) hGl).trans q3
    have HG6 := hidP hg6
    have hGl6 : G < W6.heap.size := by omega
    have hBl6 : B < W6.heap.size := by omega
    clear L6 V6 hg6 hg5 HG4 hb4 g3
    go_wp2_with fail
    refine wp_region_calm2 (S := fun w' => w'.cell? ⟨B, 0, none⟩ = some (.pointer (some ⟨G, 0, none⟩)) ∧ w'.cell? ⟨G, 3, none⟩ = some (.slice as1 s.length cs)) (fuel := 4)
      [0, 1, 2, 3, 4, 5, 6] _ rfl (by kernel_rfl) (by kernel_rfl) (by kernel_rfl) (by kernel_rfl) (by kernel_rfl) (by kernel_rfl) (by kernel_rfl) ⟨hb5, q3⟩ (fun hS => ?_)
    iterate 7
      refine ⟨_, rfl, ?_⟩
      apply Exists.intro
      refine ⟨Or.inl ⟨by rfl, fun w' hw' => ?_⟩, ?_⟩
      · first
        | (go_simp; done)
        | (go_simp; with_reducible rfl)
      simp only [Act.put, List.setIfInBounds_toArray]
    refine calm_one 7 (by kernel_rfl) rfl (fun K hK => ?_)
    go_simp
    rw [← hW6]
    clear hW6
    refine hK.out _ _ ⟨b6, s6⟩ (fun _ => ?_)
    clear hK K
    refine calm_one 8 (by kernel_rfl) rfl (fun K hK => ?_)
    go_simp
    refine HINS.out.mono ?_
    rintro e w7 ⟨g, c7, rfl, hrow7, hgr7, hat7⟩
    have hkeep : ∀ b o, b < W6.heap.size → (∀ g0, (Value.slice as1 s.length cs).ownBlock = some g0 → b ≠ g0) → w7.cell? ⟨b, o, none⟩ = W6.cell? ⟨b, o, none⟩ := fun b o hb hne => by
      simp only [World.cell?, hgr7.block b hb (fun e => hne b e.symm rfl)]
    have hB7 := hkeep B 0 hBl6 (fun g0 h0 => by have := (HOB.out g0 h0).2; omega)
    have hG7 := hkeep G 3 hGl6 (fun g0 h0 e => HG6.out.a1 (by rw [e]; exact h0))
    have F7 := HG6.out.five.kept hgr7 (fun e => HG6.out.a1 e.symm)
    have HE := hidP (And.intro hrow7 (And.intro hgr7 hat7))
    refine hK.out _ _ ⟨hB7.trans b6, hG7.trans s6⟩ (fun hS7 => ?_)
    clear hK K hkeep hrow7 hgr7 hat7
    refine calm_one 9 (by kernel_rfl) rfl (fun K hK => ?_)
    go_simp
    refine hK.out _ _ hS7 (fun _ => ?_)
    clear hK K
    refine calm_one 10 (by kernel_rfl) rfl (fun K hK => ?_)
    go_simp
    refine hK.out _ _ hS7 (fun _ => ?_)
    clear hK K
    refine wpAnyH_done (by kernel_rfl) ?_ _
    simp only [Exit.then]
    have f7 := F7.frozen 3
    obtain ⟨-, -, -, r3, -⟩ := F7.cells
    go_wp2_with fail
    refine NoPanic.normal ?_
    obtain ⟨W8, hW8⟩ : ∃ W, W = w7.setCell ⟨G, 3, none⟩ (.slice (some ⟨g, 0, none⟩) (s.length + 1) c7) := ⟨_, rfl⟩
    rw [← hW8]
    have HEND : Hid (∃ vs', Gz W0 W8 G am cm ms al cl ls aq cq q (seeD (ddQ ms q) s x) op (some ⟨g, 0, none⟩) c7 vs' ao co) := HG6.out.put HNX.out (by rw [HDX.out]; exact HP.out.symm) HR.out HE.out.1 HE.out.2.1 HE.out.2.2 hW8
    clear hS7 hB7 hG7 F7 r3 f7 hW8
    simp only [Exit.then]
    go_wp2_with fail
    go_ret
    obtain ⟨vs', hfin⟩ := HEND.out
    exact ⟨ret_bool (by rw [HV.out]; rfl), _, _, vs', hfin⟩
end Go.Proofs.YtmembegdbceooaaGreat
