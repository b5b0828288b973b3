/-
  A tower and a state that are handed out.
  The program's ownTower.
  A tower that is raised: plain; a web that is put into a row of webs; what both Linked hand out for it.
  The given l15Raised.
  The program's Raised.
  Both Raised at every tower: what they hand out, as the law uses it.
  The given l16Kept (written by gen_kg.py).
  The given Kept (written by gen_ks.py).
-/
import Derived.Test.YtaaagmgglolibaaGreatLkWebZz
import Derived.Test.YtaaagmgglolibaaGreatTwArgsZz
import Derived.Test.YtaaagmgglolibaaGreatTwOkZz
import Derived.Test.YtaaagmgglolibaaGreatFeHelpZz
import Derived.Test.YtaaagmgglolibaaGreatMathZz
import Derived.Test.YtaaagmgglolibaaGreatMCopyZz
import Derived.Test.YtaaagmgglolibaaGreatMMarkZz
namespace Go.Proofs.YtaaagmgglolibaaGreat
open Go Go.RowKit

/-- A row of webs that is handed out. -/
structure TsO (o : Bool) (S : Nat → Prop) (w : World) (v : Value) (ts : List Wb) : Prop where
  bnd : ∀ b, S b → b < w.heap.size
  ow : o = true → ∃ N, N ≤ 400000 ∧ Ow 165 166 S w v N
  view : ∃ a c, v = .slice a ts.length c ∧ ts.length ≤ c ∧ ∀ w', Sta S w w' → WbView true w' a ts
theorem TsO.sm {o : Bool} {S : Nat → Prop} {w w' : World} {v : Value} {ts : List Wb} (h : TsO o S w v ts) (k : Sta S w w') : TsO o S w' v ts := by
  obtain ⟨a, c, e, hc, hv⟩ := h.view
  exact ⟨fun b hb => Nat.lt_of_lt_of_le (h.bnd b hb) k.1, fun hq => by obtain ⟨N, hN, ho⟩ := h.ow hq; exact ⟨N, hN, ho.sm k⟩, ⟨a, c, e, hc, fun w2 k2 => hv w2 (k.trans k2)⟩⟩
theorem TsO.next {o : Bool} {S : Nat → Prop} {w w' : World} {v : Value} {ts : List Wb} (h : TsO o S w v ts) (L : Below w.heap.size w w') : TsO o S w' v ts := h.sm (Sta.below L h.bnd)
theorem TsO.mono {o : Bool} {S T : Nat → Prop} {w : World} {v : Value} {ts : List Wb} (h : TsO o S w v ts) (ht : ∀ b, T b → b < w.heap.size) (k : ∀ b, S b → T b) : TsO o T w v ts := by
  obtain ⟨a, c, e, hc, hv⟩ := h.view
  exact ⟨ht, fun hq => by obtain ⟨N, hN, ho⟩ := h.ow hq; exact ⟨N, hN, ho.mono ht k⟩, ⟨a, c, e, hc, fun w2 k2 => hv w2 (k2.mono k)⟩⟩
theorem TsO.zero (o : Bool) (w : World) : TsO o (fun _ => False) w (.slice none 0 0) [] :=
  ⟨fun _ h => h.elim, fun _ => ⟨0, by omega, ow_webs0 0 w⟩, ⟨none, 0, rfl, Nat.le_refl _, fun _ _ => Or.inl rfl⟩⟩
theorem OwTs.out {o : Bool} {g : Nat} {S : Nat → Nat → Prop} {w : World} {vm vl : Nat → Value} {ts : List Wb} (cap : Nat) (hc : ts.length ≤ cap) (h : OwTs o g ts.length S w vm vl (wnth ts)) : TsO o (FtW g ts.length S) w (.slice (some ⟨g, 0, none⟩) ts.length cap) ts := by
  refine ⟨h.bnd, fun ho => ?_, ⟨_, cap, rfl, hc, fun w' hs => ?_⟩⟩
  · subst ho
    refine ⟨_, ?_, ow_webs cap h⟩
    have := h.size ts.length (Nat.le_refl _)
    have := h.four
    omega
  · have h' := h.sm hs
    refine Or.inr ⟨g, 0, rfl, h'.lt, fun i hi => ?_⟩
    obtain ⟨am, cm, al, cl, e1, e2, l1, l2, hv⟩ := (h'.webs i hi).view
    have c0 := (h'.cells i hi).1
    have c1 := (h'.cells i hi).2
    obtain ⟨v1, v2⟩ := hv w' (Sta.refl _ _)
    rw [e1] at c0
    rw [e2] at c1
    rw [Nat.zero_add]
    exact ⟨am, cm, al, cl, c0, c1, v1, v2, fun _ => ⟨l1, l2⟩⟩

set_option maxRecDepth 100000 in
set_option maxHeartbeats 1000000 in
theorem ow_tower {S : Nat → Prop} {w : World} {v : Value} {N : Nat} (d : Int) (h : Ow 165 166 S w v N) : Ow 70 72 S w (.agg #[.int .i64 d, v]) N := by
  refine ⟨h.bnd, fun w' hs k0 h0 h1 => ?_⟩
  obtain ⟨W, hW⟩ : ∃ W, w'.alloc (.cells #[.int .i64 d, v] 26) = W := ⟨_, rfl⟩
  have hB : Below w'.heap.size w' W := by rw [← hW]; exact (Below.refl _ _).alloc (Nat.le_refl _) _
  have k1 : W.cell? ⟨w'.heap.size, 1, none⟩ = some v := by rw [← hW]; simp
  have hbn : ∀ b, S b → b < w'.heap.size := fun b hb => Nat.lt_of_lt_of_le (h.bnd b hb) hs.1
  have HC := hidP (h.act W (hs.trans (Sta.below hB hbn)) k0 h0 h1)
  have HB := hidP hB
  have HBN := hidP hbn
  clear hs hB hbn h
  go_enter Tryz.func70, Tryz.ntmps70
  go_wp2_with fail
  refine HC.out.mono ?_
  rintro e w1 ⟨rfl, c1, d1⟩
  have HD := hidP (And.intro c1 d1)
  clear c1 d1 hW k1
  go_wp2_with fail
  go_ret
  refine ⟨rfl, (Cgd.of HB.out).trans HD.out.1, fun W2 hW2 => ?_⟩
  obtain ⟨W3, hW3⟩ : ∃ W, W2.alloc (.cells #[.int .i64 d, v] 26) = W := ⟨_, rfl⟩
  have hB3 : Below W2.heap.size W2 W3 := by rw [← hW3]; exact (Below.refl _ _).alloc (Nat.le_refl _) _
  have k3 : W3.cell? ⟨W2.heap.size, 1, none⟩ = some v := by rw [← hW3]; simp
  have HE := hidP (HD.out.2 W3 (hW2.trans (Sta.below hB3 (fun b hb => by have := HBN.out b hb; have := HB.out.size; have := HD.out.1.2.2.2.1; have := hW2.1; omega))))
  have HB3 := hidP hB3
  clear HD HC hW2 hB3 HBN
  go_enter Tryz.func72, Tryz.ntmps72
  go_wp2_with fail
  refine HE.out.mono ?_
  rintro e w4 ⟨rfl, L4⟩
  have HL := hidP (chain HB3.out L4)
  clear L4 hW3 k3
  go_wp2_with fail
  go_ret
  exact ⟨rfl, HL.out⟩

/-- A state that is handed out. -/
structure StO (o : Bool) (S : Nat → Prop) (w : World) (v : Value) (wd : Int) (ms : List Mk) (d : Int) (ts : List Wb) (nx : Int) : Prop where
  bnd : ∀ b, S b → b < w.heap.size
  ow : o = true → ∃ N, N ≤ 500000 ∧ Ow 78 80 S w v N
  view : ∃ am cm aw cw, v = .agg #[.int .i64 wd, .slice am ms.length cm, .int .i64 d, .slice aw ts.length cw, .int .i64 nx] ∧ ms.length ≤ cm ∧ ts.length ≤ cw ∧ ∀ w', Sta S w w' → MView w' am ms ∧ WbView true w' aw ts
theorem StO.sm {o : Bool} {S : Nat → Prop} {w w' : World} {v : Value} {wd : Int} {ms : List Mk} {d : Int} {ts : List Wb} {nx : Int} (h : StO o S w v wd ms d ts nx) (k : Sta S w w') : StO o S w' v wd ms d ts nx := by
  obtain ⟨am, cm, aw, cw, e, c1, c2, hv⟩ := h.view
  exact ⟨fun b hb => Nat.lt_of_lt_of_le (h.bnd b hb) k.1, fun hq => by obtain ⟨N, hN, ho⟩ := h.ow hq; exact ⟨N, hN, ho.sm k⟩, ⟨am, cm, aw, cw, e, c1, c2, fun w2 k2 => hv w2 (k.trans k2)⟩⟩
theorem StO.next {o : Bool} {S : Nat → Prop} {w w' : World} {v : Value} {wd : Int} {ms : List Mk} {d : Int} {ts : List Wb} {nx : Int} (h : StO o S w v wd ms d ts nx) (L : Below w.heap.size w w') : StO o S w' v wd ms d ts nx := h.sm (Sta.below L h.bnd)
theorem StO.mono {o : Bool} {S T : Nat → Prop} {w : World} {v : Value} {wd : Int} {ms : List Mk} {d : Int} {ts : List Wb} {nx : Int} (h : StO o S w v wd ms d ts nx) (ht : ∀ b, T b → b < w.heap.size) (k : ∀ b, S b → T b) : StO o T w v wd ms d ts nx := by
  obtain ⟨am, cm, aw, cw, e, c1, c2, hv⟩ := h.view
  exact ⟨ht, fun hq => by obtain ⟨N, hN, ho⟩ := h.ow hq; exact ⟨N, hN, ho.mono ht k⟩, ⟨am, cm, aw, cw, e, c1, c2, fun w2 k2 => hv w2 (k2.mono k)⟩⟩

set_option maxRecDepth 100000 in
set_option maxHeartbeats 2000000 in
theorem ow_state {S F G : Nat → Prop} {w : World} {vm vt : Value} {N K : Nat} (wd d nx : Int) (hm : Ow 170 171 F w vm N) (ht : Ow 165 166 G w vt K) (hS : ∀ b, S b → b < w.heap.size) (hF : ∀ b, F b → S b) (hG : ∀ b, G b → S b) (hd : ∀ b, F b → ¬ G b) :
    Ow 78 80 S w (.agg #[.int .i64 wd, vm, .int .i64 d, vt, .int .i64 nx]) (N + K) := by
  refine ⟨hS, fun w' hs k0 h0 h1 => ?_⟩
  have ht2 := ow_tower d ht
  obtain ⟨W, hW⟩ : ∃ W, w'.alloc (.cells #[.int .i64 wd, vm, .int .i64 d, vt, .int .i64 nx] 52) = W := ⟨_, rfl⟩
  have hB : Below w'.heap.size w' W := by rw [← hW]; exact (Below.refl _ _).alloc (Nat.le_refl _) _
  have hlt : w'.heap.size < W.heap.size := by rw [← hW]; simp
  have k1 : W.cell? ⟨w'.heap.size, 1, none⟩ = some vm := by rw [← hW]; simp
  have k2 : W.cell? ⟨w'.heap.size, 2, none⟩ = some (.int .i64 d) := by rw [← hW]; simp
  have k3 : W.cell? ⟨w'.heap.size, 3, none⟩ = some vt := by rw [← hW]; simp
  have hbn : ∀ b, S b → b < w'.heap.size := fun b hb => Nat.lt_of_lt_of_le (hS b hb) hs.1
  have hsW := hs.trans (Sta.below hB hbn)
  have HM := hidP (hm.act W (hsW.mono hF) k0 h0 (by omega))
  have HT := hidP (ht2.sm (hsW.mono hG))
  have HB := hidP hB
  have HBN := hidP hbn
  have HK := hidP (And.intro k2 k3)
  have HFG := hidP (And.intro hF (And.intro hG hd))
  clear hs hsW hB hbn hm ht ht2 k2 k3 hF hG hd hS
  go_enter Tryz.func78, Tryz.ntmps78
  go_wp2_with fail
  refine HM.out.mono ?_
  rintro e w1 ⟨rfl, c1, d1⟩
  have hnS : ¬ F w'.heap.size := fun h => by have := HBN.out _ (HFG.out.1 _ h); omega
  have eb := c1.2.2.2.2 w'.heap.size hlt hnS
  have k2' := (World.cell?_of_block (a := ⟨w'.heap.size, 2, none⟩) eb).trans HK.out.1
  have k3' := (World.cell?_of_block (a := ⟨w'.heap.size, 3, none⟩) eb).trans HK.out.2
  have hG1 : Sta G W w1 := c1.sm (fun b hb => by have := HBN.out b (HFG.out.2.1 b hb); omega) (fun b hb hf => HFG.out.2.2 b hf hb)
  have HT1 := hidP (HT.out.act w1 hG1 (k0 + N) (by omega) (by omega))
  have HC := hidP (And.intro c1 d1)
  clear c1 d1 hnS eb hG1 HM HT hW k1
  go_wp2_with fail
  refine HT1.out.mono ?_
  rintro e w2 ⟨rfl, c2, d2⟩
  have HD := hidP (And.intro c2 d2)
  clear c2 d2 HT1 k2' k3'
  go_wp2_with fail
  go_ret
  have hs1 := HC.out.1.2.2.2.1
  have hs2 := HD.out.1.2.2.2.1
  refine ⟨ret_int (by omega), (Cgd.of HB.out).trans ((HC.out.1.mono HFG.out.1).trans (HD.out.1.mono HFG.out.2.1)), fun W2 hW2 => ?_⟩
  obtain ⟨W3, hW3⟩ : ∃ W, W2.alloc (.cells #[.int .i64 wd, vm, .int .i64 d, vt, .int .i64 nx] 52) = W := ⟨_, rfl⟩
  have hB3 : Below W2.heap.size W2 W3 := by rw [← hW3]; exact (Below.refl _ _).alloc (Nat.le_refl _) _
  have hlt3 : W2.heap.size < W3.heap.size := by rw [← hW3]; simp
  have k1 : W3.cell? ⟨W2.heap.size, 1, none⟩ = some vm := by rw [← hW3]; simp
  have k2 : W3.cell? ⟨W2.heap.size, 2, none⟩ = some (.int .i64 d) := by rw [← hW3]; simp
  have k3 : W3.cell? ⟨W2.heap.size, 3, none⟩ = some vt := by rw [← hW3]; simp
  have hw3 : Sta S w2 W3 := hW2.trans (Sta.below hB3 (fun b hb => by have := HBN.out b hb; have := hW2.1; omega))
  have hF3 : Sta F w1 W3 := (HD.out.1.sm (T := F) (fun b hb => by have := HBN.out b (HFG.out.1 b hb); omega) (fun b hb hg => HFG.out.2.2 b hb hg)).trans (hw3.mono HFG.out.1)
  have HE := hidP (HC.out.2 W3 hF3)
  have HE2 := hidP (fun W4 (L : Below W3.heap.size W3 W4) => HD.out.2 W4 ((hw3.mono HFG.out.2.1).trans (Sta.below L (fun b hb => by have := HBN.out b (HFG.out.2.1 b hb); have := hw3.1; omega))))
  have HB3 := hidP hB3
  have HK3 := hidP (And.intro k2 k3)
  clear HC HD hW2 hB3 HBN k2 k3 hw3 hF3 HFG HK hs1 hs2
  go_enter Tryz.func80, Tryz.ntmps80
  go_wp2_with fail
  refine HE.out.mono ?_
  rintro e w4 ⟨rfl, L4⟩
  have k2 := (L4.cell (p := ⟨W2.heap.size, 2, none⟩) hlt3).trans HK3.out.1
  have k3 := (L4.cell (p := ⟨W2.heap.size, 3, none⟩) hlt3).trans HK3.out.2
  have HE3 := hidP (HE2.out w4 L4)
  have HL := hidP (chain HB3.out L4)
  clear L4 hW3 k1 HE HE2 HK3
  go_wp2_with fail
  refine HE3.out.mono ?_
  rintro e w5 ⟨rfl, L5⟩
  have HL5 := hidP (chain HL.out L5)
  clear L5 k2 k3
  go_wp2_with fail
  go_ret
  exact ⟨ret_int (by omega), HL5.out⟩

theorem StO.of {o : Bool} {S F G : Nat → Prop} {w : World} {am : Option Addr} {cm : Nat} {vt : Value} {N : Nat} (wd : Int) {ms : List Mk} (d : Int) {ts : List Wb} (nx : Int) (hm : o = true → Ow 170 171 F w (.slice am ms.length cm) N) (hN : N ≤ 100000) (hc : ms.length ≤ cm) (hv : ∀ w', Sta F w w' → MView w' am ms) (ht : TsO o G w vt ts) (hS : ∀ b, S b → b < w.heap.size) (hF : ∀ b, F b → S b) (hG : ∀ b, G b → S b) (hd : ∀ b, F b → ¬ G b) :
    StO o S w (.agg #[.int .i64 wd, .slice am ms.length cm, .int .i64 d, vt, .int .i64 nx]) wd ms d ts nx := by
  obtain ⟨a, c, e, hcc, hw⟩ := ht.view
  have how := ht.ow
  rw [e] at how ⊢
  exact ⟨hS, fun hq => by obtain ⟨K, hK, ho⟩ := how hq; exact ⟨N + K, by omega, ow_state wd d nx (hm hq) ho hS hF hG hd⟩, ⟨am, cm, a, c, rfl, hc, hcc, fun w' hs => ⟨hv w' (hs.mono hF), hw w' (hs.mono hG)⟩⟩⟩
theorem StO.zero (o : Bool) (w : World) : StO o (fun _ => False) w (.agg #[.int .i64 0, .slice none 0 0, .int .i64 0, .slice none 0 0, .int .i64 0]) 0 [] 0 [] 0 :=
  StO.of (F := fun _ => False) (G := fun _ => False) 0 0 0 (fun _ => ow_marks0 0 w) (by omega) (Nat.le_refl _) (fun _ _ => Or.inl rfl) (TsO.zero o w) (fun _ h => h.elim) (fun _ h => h) (fun _ h => h) (fun _ h => h.elim)
end Go.Proofs.YtaaagmgglolibaaGreat
namespace Go.Proofs.YtaaagmgglolibaaGreat
open Go Go.RowKit

theorem OwTb.tsr {o : Bool} {base g : Nat} {S : Nat → Nat → Prop} {w : World} {vm vl : Nat → Value} {ts : List Wb} (h : OwTb o g ts.length S w vm vl (wnth ts)) (hg : base ≤ g) (hs : ∀ i b, S i b → base ≤ b) : TsR o base w (.slice (some ⟨g, 0, none⟩) ts.length ts.length) ts S vm vl :=
  ⟨h.blk.own hg (by have := h.four; unfold maxLen; omega), h.webs, fun i hi q e => by injection e with e; rw [← e]; exact h.off i hi, h.apart, h.four, fun i b _ hb => hs i b hb⟩
theorem TsR.out {o : Bool} {base : Nat} {w : World} {v : Value} {ts : List Wb} {S : Nat → Nat → Prop} {vm vl : Nat → Value} (h : TsR o base w v ts S vm vl) : TsO o (Btw base w.heap.size) w v ts := by
  have hbnd := h.bnd
  obtain ⟨h1, ⟨rfl, h2⟩ | ⟨g, cap, cur, rfl, hb', hg, hc, h3⟩⟩ := h.row
  · obtain rfl : ts = [] := List.length_eq_zero_iff.1 h2
    exact (TsO.zero o w).mono (fun b hq => hq.2) (fun b hq => hq.elim)
  · have hr := h.row
    have ot : OwTs o g ts.length S w vm vl (wnth ts) := ⟨(World.ownsRow.lt hr g rfl).2, fun i hi => by
      have c0 := World.ownsRow.cellAt hr (i * 2) (by omega)
      have c1 := World.ownsRow.cellAt hr (i * 2 + 1) (by omega)
      rw [webL_at (by omega)] at c0 c1
      have a0 : webC vm vl (i * 2) = vm i := by unfold webC; rw [if_pos (by omega), show i * 2 / 2 = i by omega]
      have a1 : webC vm vl (i * 2 + 1) = vl i := by unfold webC; rw [if_neg (by omega), show (i * 2 + 1) / 2 = i by omega]
      rw [a0] at c0
      rw [a1] at c1
      exact ⟨c0, c1⟩, h.webs, fun i hi => h.off i hi g rfl, h.apart, h.four⟩
    refine (ot.out cap hc).mono (fun b hq => hq.2) (fun b hq => hbnd b ?_)
    rcases hq with rfl | hq
    · exact Or.inl rfl
    · exact Or.inr hq

set_option maxRecDepth 100000 in
set_option maxHeartbeats 4000000 in
theorem iOwnTowerR (v : Bool) (aw : Option Addr) (cw : Nat) (d : Int) (ts : List Wb) (w : World) (hv : WbView v w aw ts) (hok : towB d ts = true) (hsm : WbSmall ts) :
    Calls Tryz.prog 101 #[.agg #[.int .i64 d, .slice aw ts.length cw]] w fun e w' => ∃ vt, e = .returned (.agg #[.int .i64 d, vt]) ∧ (∃ S vm vl, TsR true w.heap.size w' vt ts S vm vl) ∧ Below w.heap.size w w' := by
  obtain ⟨W1, hW1⟩ : ∃ W, w.alloc (.cells #[.int .i64 d, .slice aw ts.length cw] 26) = W := ⟨_, rfl⟩
  have hB1 : Below w.heap.size w W1 := by rw [← hW1]; exact (Below.refl _ _).alloc (Nat.le_refl _) _
  have hT1 : Two W1 w.heap.size (.int .i64 d) (.slice aw ts.length cw) 26 := by rw [← hW1]; exact Two.new w _ _ _
  obtain ⟨W, hW⟩ : ∃ W, W1.alloc (.cells #[.int .i64 0, .slice none 0 0] 26) = W := ⟨_, rfl⟩
  have hB2 : Below W1.heap.size W1 W := by rw [← hW]; exact (Below.refl _ _).alloc (Nat.le_refl _) _
  have s1 : W1.heap.size = w.heap.size + 1 := by rw [← hW1]; simp
  have s2 : W.heap.size = w.heap.size + 2 := by rw [← hW]; simp [s1]
  have TR : Two W (w.heap.size + 1) (.int .i64 0) (.slice none 0 0) 26 := by rw [← hW, ← s1]; exact Two.new W1 _ _ _
  have TA := hT1.below hB2
  have h4 := (tow_at hok).1
  have hmk : ∀ w0 : World, (Instr.makeSlice 24 (.int .i64 (ts.length : Int)) (.int .i64 (ts.length : Int))).run Tryz.prog w0 = .ok (.slice (some ⟨w0.heap.size, 0, none⟩) ts.length ts.length) (w0.alloc (.cells (madeCells #[.slice none 0 0, .slice none 0 0] (ts.length * 2)) 47)) := fun w0 => run_make_rows (P := Tryz.prog) 24 47 (.agg #[.slice none 0 0, .slice none 0 0]) 2 48 Tryz.underlying24 Tryz.info47 .i64 .i64 ts.length (by omega) (by omega) w0
  have HB := hidP (chain hB1 hB2)
  have HV := hidP (fun W' (L : Below w.heap.size w W') => hv.next L)
  have HOK := hidP (And.intro hok hsm)
  have HTA := hidP TA
  have HTR := hidP TR
  have HSZ := hidP (And.intro s1 s2)
  have HS : Hid (∀ W', Below W.heap.size W W' → W'.cell? ⟨w.heap.size, 0, none⟩ = some (.int .i64 d) ∧ W'.cell? ⟨w.heap.size, 1, none⟩ = some (.slice aw ts.length cw)) := fun W' L' => ⟨(TA.below L').c0, (TA.below L').c1⟩
  have BL := hidP ((Below.refl W.heap.size W).drew)
  have HWW : Hid ((w.alloc (.cells #[.int .i64 d, .slice aw ts.length cw] 26)).alloc (.cells #[.int .i64 0, .slice none 0 0] 26) = W) := by show _ = _; rw [hW1, hW]
  have H4 := hidP h4
  clear hv hB1 hT1 hB2 TR TA s1 s2 hW hW1 hok hsm h4
  go_enter Tryz.func101, Tryz.ntmps101
  go_upto_region 1 with fail
  rw [HWW.out]
  clear HWW
  go_cut [3] from 6 to 12 (fun v wx => ∃ o g, v = .pointer (some ⟨o, 0, none⟩) ∧ Two wx o (.int .i64 d) (.slice (some ⟨g, 0, none⟩) ts.length ts.length) 26 ∧ FB wx g (ts.length * 2) (webC (fun _ => .slice none 0 0) (fun _ => .slice none 0 0)) 47 ∧ W.heap.size ≤ o ∧ W.heap.size ≤ g ∧ o ≠ g ∧ Below W.heap.size W wx)
  case first =>
    refine wp_region_takes (S := fun W' => Below W.heap.size W W') (fuel := 4) [0, 1, 2, 3, 4] (by kernel_rfl) (by kernel_rfl) (by kernel_rfl) (by kernel_rfl) BL.out (fun _ => ?_)
    iterate 5
      refine ⟨_, rfl, ?_⟩
      apply Exists.intro
      refine ⟨Or.inl ⟨by rfl, fun w' hw' => ?_⟩, ?_⟩
      · obtain ⟨e1, e2⟩ := HS.out w' hw'
        first
        | (go_simp; done)
        | (go_simp; with_reducible rfl)
      simp only [Act.put, List.getElem_toArray, List.getElem_cons_succ, List.getElem_cons_zero, List.setIfInBounds_toArray, List.set_cons_zero, List.set_cons_succ]
    obtain ⟨wv0, hv0⟩ : ∃ w0, W.drew = w0 := ⟨_, rfl⟩
    have B0 : Below W.heap.size W wv0 := by rw [← hv0]; exact BL.out
    have s0 : W.heap.size ≤ wv0.heap.size := B0.size
    rw [hv0]
    clear hv0
    refine calm_two14 5 7 (by kernel_rfl) rfl rfl (fun K hK => ?_) (fun K hK => ?_)
    · go_simp
      obtain ⟨w1, hX⟩ : ∃ w0, wv0.alloc (.cells (madeCells #[.slice none 0 0, .slice none 0 0] (ts.length * 2)) 47) = w0 := ⟨_, rfl⟩
      have LX : Below wv0.heap.size wv0 w1 := by rw [← hX]; exact (Below.refl _ _).alloc (Nat.le_refl _) _
      have sX : wv0.heap.size < w1.heap.size := by rw [← hX]; simp
      have Fg : FB w1 wv0.heap.size (ts.length * 2) (webC (fun _ => .slice none 0 0) (fun _ => .slice none 0 0)) 47 := by rw [← hX]; exact FB.madeW wv0 _ _
      have B1 : Below W.heap.size W w1 := chain B0 LX
      obtain ⟨g, hg⟩ : ∃ q, wv0.heap.size = q := ⟨_, rfl⟩
      have hg1 : wv0.heap.size ≤ g := by omega
      have hg2 : g < w1.heap.size := by omega
      rw [hX]
      rw [hg] at Fg ⊢
      refine hK.out _ _ B1 (fun _ => ?_)
      clear hK K hX LX hg sX
      refine calm_more14 2 [6] (by kernel_rfl) (by kernel_rfl) (by kernel_rfl) B1 ?_
      iterate 1
        refine ⟨_, rfl, ?_⟩
        apply Exists.intro
        refine ⟨Or.inl ⟨by rfl, fun w' hw' => ?_⟩, ?_⟩
        · first
          | (go_simp; done)
          | (go_simp; with_reducible rfl)
        simp only [Act.put, List.getElem_toArray, List.getElem_cons_succ, List.getElem_cons_zero, List.setIfInBounds_toArray, List.set_cons_zero, List.set_cons_succ]
      refine calm_one 7 (by kernel_rfl) rfl (fun K hK => ?_)
      go_simp
      refine hK.out _ _ (B1.alloc B1.size _) (fun _ => ?_)
      clear hK K
      refine calm_one 8 (by kernel_rfl) rfl (fun K hK => ?_)
      go_simp
      obtain ⟨wz, hwz⟩ : ∃ wz, w1.alloc (.cells #[.int .i64 d, .slice (some ⟨g, 0, none⟩) ts.length ts.length] 26) = wz := ⟨_, rfl⟩
      have LZ : Below w1.heap.size w1 wz := by rw [← hwz]; exact (Below.refl _ _).alloc (Nat.le_refl _) _
      have TZ : Two wz w1.heap.size (.int .i64 d) (.slice (some ⟨g, 0, none⟩) ts.length ts.length) 26 := by rw [← hwz]; exact Two.new w1 _ _ _
      have hgl := Fg.lt
      rw [hwz]
      refine hK.out _ _ (chain B1 LZ) (fun _ => ?_)
      clear hK K hwz
      refine wpAnyH_done (by kernel_rfl) ?_ _
      refine NoPanic.normal ?_
      try simp only [Exit.then]
      go_wp2_with fail
      go_meet
      exact ⟨_, g, rfl, TZ, Fg.next LZ, by have := B1.size; omega, by omega, by omega, chain B1 LZ⟩
    · go_simp
      obtain ⟨w1, hX⟩ : ∃ w0, wv0.alloc (.cells #[.int .i64 0, .slice none 0 0] 26) = w0 := ⟨_, rfl⟩
      have LX : Below wv0.heap.size wv0 w1 := by rw [← hX]; exact (Below.refl _ _).alloc (Nat.le_refl _) _
      have sX : wv0.heap.size < w1.heap.size := by rw [← hX]; simp
      have Fo : Two w1 wv0.heap.size (.int .i64 0) (.slice none 0 0) 26 := by rw [← hX]; exact Two.new wv0 _ _ _
      have B1 : Below W.heap.size W w1 := chain B0 LX
      obtain ⟨o, ho⟩ : ∃ q, wv0.heap.size = q := ⟨_, rfl⟩
      have ho1 : wv0.heap.size ≤ o := by omega
      have ho2 : o < w1.heap.size := by omega
      rw [hX]
      rw [ho] at Fo ⊢
      refine hK.out _ _ B1 (fun _ => ?_)
      clear hK K hX LX ho sX
      refine calm_one 5 (by kernel_rfl) rfl (fun K hK => ?_)
      go_simp
      obtain ⟨w2, hX⟩ : ∃ w0, w1.alloc (.cells (madeCells #[.slice none 0 0, .slice none 0 0] (ts.length * 2)) 47) = w0 := ⟨_, rfl⟩
      have LX : Below w1.heap.size w1 w2 := by rw [← hX]; exact (Below.refl _ _).alloc (Nat.le_refl _) _
      have sX : w1.heap.size < w2.heap.size := by rw [← hX]; simp
      have Fg : FB w2 w1.heap.size (ts.length * 2) (webC (fun _ => .slice none 0 0) (fun _ => .slice none 0 0)) 47 := by rw [← hX]; exact FB.madeW w1 _ _
      replace Fo := Fo.below LX
      have B2 : Below W.heap.size W w2 := chain B1 LX
      obtain ⟨g, hg⟩ : ∃ q, w1.heap.size = q := ⟨_, rfl⟩
      have hg1 : w1.heap.size ≤ g := by omega
      have hg2 : g < w2.heap.size := by omega
      rw [hX]
      rw [hg] at Fg ⊢
      refine hK.out _ _ B2 (fun _ => ?_)
      clear hK K hX LX hg sX
      refine calm_more14 1 [6] (by kernel_rfl) (by kernel_rfl) (by kernel_rfl) B2 ?_
      iterate 1
        refine ⟨_, rfl, ?_⟩
        apply Exists.intro
        refine ⟨Or.inl ⟨by rfl, fun w' hw' => ?_⟩, ?_⟩
        · first
          | (go_simp; done)
          | (go_simp; with_reducible rfl)
        simp only [Act.put, List.getElem_toArray, List.getElem_cons_succ, List.getElem_cons_zero, List.setIfInBounds_toArray, List.set_cons_zero, List.set_cons_succ]
      have x0 := Fo.c0
      have x1 := Fo.c1
      have xf0 := Fo.frozen 0
      have xf1 := Fo.frozen 1
      have hgl1 := Fg.lt
      have hgl3 := Fo.lt
      refine calm_one 8 (by kernel_rfl) rfl (fun K hK => ?_)
      go_simp
      obtain ⟨wz, hwz⟩ : ∃ wz, (w2.setCell ⟨o, 0, none⟩ (.int .i64 d)).setCell ⟨o, 1, none⟩ (.slice (some ⟨g, 0, none⟩) ts.length ts.length) = wz := ⟨_, rfl⟩
      have TZ : Two wz o (.int .i64 d) (.slice (some ⟨g, 0, none⟩) ts.length ts.length) 26 := by rw [← hwz]; exact (Fo.set0 _).set1 _
      have Fg2 : FB wz g (ts.length * 2) (webC (fun _ => .slice none 0 0) (fun _ => .slice none 0 0)) 47 := by rw [← hwz]; exact (Fg.far (by omega) _ _).far (by omega) _ _
      have BZ : Below W.heap.size W wz := by rw [← hwz]; exact (B2.setCell (by show W.heap.size ≤ o; omega) _).setCell (by show W.heap.size ≤ o; omega) _
      rw [hwz]
      refine hK.out _ _ BZ (fun _ => ?_)
      clear hK K hwz x0 x1 xf0 xf1
      refine wpAnyH_done (by kernel_rfl) ?_ _
      refine NoPanic.normal ?_
      try simp only [Exit.then]
      go_wp2_with fail
      go_meet
      exact ⟨o, g, rfl, TZ, Fg2, by omega, by omega, by omega, BZ⟩
  case rest =>
    obtain ⟨o, g, rfl, hTo, hFg, ho, hg, hog, LW⟩ := hcut
    generalize hwc : wc = w1 at *
    clear hwc wc hmk BL HS
    have HLW := hidP LW
    have hk0 := (HTA.out.below LW).c0
    have k1 := (HTA.out.below LW).c1
    have h44 := H4.out
    have HOB := hidP (OwTb.start (o := true) hFg (by omega))
    have HTO := hidP hTo
    have hWs := HSZ.out.2
    clear hTo hFg LW hk0 h44
    go_wp2_with fail
    clear k1
    go_loopg [16] ts.length (fun gk iv wr => ∃ (k : Nat) (S : Nat → Nat → Prop) (vm vl : Nat → Value), k ≤ ts.length ∧ ts.length - k ≤ gk ∧ iv = .int .i64 k ∧ OwTb true g ts.length S wr vm vl (fun i => if i < k then wnth ts i else ([], [])) ∧ (∀ i b, S i b → W.heap.size ≤ b) ∧ Two wr o (.int .i64 d) (.slice (some ⟨g, 0, none⟩) ts.length ts.length) 26 ∧ Below W.heap.size W wr)
    case atStart => exact ⟨0, _, _, _, Nat.zero_le _, Nat.sub_le _ _, rfl, HOB.out.as (fun i _ => by rw [if_neg (by omega)]), fun _ _ h => h.elim, HTO.out, HLW.out⟩
    case round =>
      obtain ⟨k, S, vm, vl, hk, hgk, rfl, hp, hsb, hto, L⟩ := hrel
      have HP := hidP hp
      have HL := hidP L
      have HT := hidP hto
      have HSB := hidP hsb
      have hVr := HV.out wr (chain HB.out L)
      clear hp L hto hsb
      by_cases hlt : k < ts.length
      · obtain ⟨wb, wo, am, cm, al, cl, rfl, hwb, c0, c1, hmv, hcv, -⟩ := hVr.web hlt
        have hi0 : (0 : Int) ≤ (k : Int) := Int.natCast_nonneg _
        have hi1 : (k : Int) < (ts.length : Int) := by omega
        have hk3 : k < 4 := by have := H4.out; omega
        have hweb := tow_web HOK.out.1 (n := k) (by have := H4.out; omega)
        obtain ⟨V1, hV⟩ : ∃ V1, wr.alloc (.cells #[.slice am (wnth ts k).1.length cm, .slice al (wnth ts k).2.length cl] 47) = V1 := ⟨_, rfl⟩
        have LV : Below wr.heap.size wr V1 := by rw [← hV]; exact (Below.refl _ _).alloc (Nat.le_refl _) _
        have hYl : wr.heap.size < V1.heap.size := by rw [← hV]; simp
        have y0 : V1.cell? ⟨wr.heap.size, 0, none⟩ = some (.slice am (wnth ts k).1.length cm) := by rw [← hV]; simp
        have y1 : V1.cell? ⟨wr.heap.size, 1, none⟩ = some (.slice al (wnth ts k).2.length cl) := by rw [← hV]; simp
        have LVd : Below wr.heap.size wr V1.drew := LV.drew
        have hOV := (HT.out.below LVd).c1
        have HPD := hidP (HP.out.next LVd)
        have HTD := hidP (HT.out.below LVd)
        have HLD := hidP (chain HL.out LVd)
        have HC := hidP (iOwnWeb am al cm cl (wnth ts k).1 (wnth ts k).2 V1.drew (hmv.next LVd) (hcv.next LVd) (web_marks hweb) (HOK.out.2.2 k).1 (HOK.out.2.2 k).2)
        have HWB := hidP hweb
        have hol1 := HTD.out.lt
        have hwbs : W.heap.size ≤ V1.drew.heap.size := HLD.out.size
        clear hmv hcv hVr LV LVd hweb
        have HSS : Hid (∀ W', Below V1.drew.heap.size V1.drew W' → W'.cell? ⟨o, 1, none⟩ = some (.slice (some ⟨g, 0, none⟩) ts.length ts.length) ∧ W'.cell? ⟨wr.heap.size, 0, none⟩ = some (.slice am (wnth ts k).1.length cm) ∧ W'.cell? ⟨wr.heap.size, 1, none⟩ = some (.slice al (wnth ts k).2.length cl)) := fun W' L' => ⟨(L'.cell (p := ⟨o, 1, none⟩) hol1).trans hOV, (L'.cell (p := ⟨wr.heap.size, 0, none⟩) hYl).trans y0, (L'.cell (p := ⟨wr.heap.size, 1, none⟩) hYl).trans y1⟩
        obtain ⟨ml, hml⟩ : ∃ ml, (wnth ts k).1.length = ml := ⟨_, rfl⟩
        obtain ⟨ll, hll⟩ : ∃ ll, (wnth ts k).2.length = ll := ⟨_, rfl⟩
        have HID := hidP (And.intro hml hll)
        rw [hml, hll] at HC HSS hV
        rw [hml] at y0 c0
        rw [hll] at y1 c1
        clear hml hll hOV
        go_wp2_with fail
        clear hV c0 c1 y0 y1
        refine wp_region_calm (S := fun w' => w'.cell? ⟨o, 1, none⟩ = some (.slice (some ⟨g, 0, none⟩) ts.length ts.length) ∧ w'.cell? ⟨wr.heap.size, 0, none⟩ = some (.slice am ml cm) ∧ w'.cell? ⟨wr.heap.size, 1, none⟩ = some (.slice al ll cl)) (fuel := 2)
          [0, 1, 2, 3] _ rfl (by kernel_rfl) (by kernel_rfl) (by kernel_rfl) (by kernel_rfl) (by kernel_rfl) (by kernel_rfl) (by kernel_rfl) (HSS.out _ (Below.refl _ _)) (fun hS => ?_)
        iterate 4
          refine ⟨_, rfl, ?_⟩
          apply Exists.intro
          refine ⟨Or.inl ⟨by rfl, fun w' hw' => ?_⟩, ?_⟩
          · first
            | (go_simp; done)
            | (go_simp; with_reducible rfl)
          simp only [Act.put, List.setIfInBounds_toArray]
        refine calm_one 4 (by kernel_rfl) rfl (fun K hK => ?_)
        go_simp
        refine HC.out.mono ?_
        rintro e w3 ⟨g3, gl3, rfl, ho3, L3⟩
        refine hK.out _ _ (HSS.out _ L3) (fun _ => ?_)
        clear hK K
        refine calm_one 5 (by kernel_rfl) rfl (fun K hK => ?_)
        go_simp
        refine hK.out _ _ (HSS.out _ L3) (fun _ => ?_)
        clear hK K hS
        have hlen := web_len HWB.out
        obtain ⟨-, -, hl60, hx60⟩ := web_small HWB.out
        rw [← HID.out.2] at ho3
        have hl3 := ho3.ow (web_marks HWB.out) hlen.symm (by omega) (fun i => by have := hx60 i; omega)
        have HST := hidP (HPD.out.put L3 (k := k) hl3 (fun b hb => hb.1))
        have hN := HPD.out.next L3
        have f0 := hN.blk.frozen (k * 2)
        have f1 := hN.blk.frozen (k * 2 + 1)
        have e0 := (hN.cells k hlt).1
        have e1 := (hN.cells k hlt).2
        have hog' : g ≠ o := fun e => hog e.symm
        rw [HID.out.1, HID.out.2] at HST
        have HE : Hid (Two ((w3.setCell ⟨g, k * 2, none⟩ (.slice (some ⟨g3, 0, none⟩) ml ml)).setCell ⟨g, k * 2 + 1, none⟩ (.slice (some ⟨gl3, 0, none⟩) ll ll)) o (.int .i64 d) (.slice (some ⟨g, 0, none⟩) ts.length ts.length) 26 ∧ Below W.heap.size W ((w3.setCell ⟨g, k * 2, none⟩ (.slice (some ⟨g3, 0, none⟩) ml ml)).setCell ⟨g, k * 2 + 1, none⟩ (.slice (some ⟨gl3, 0, none⟩) ll ll))) :=
          ⟨((HTD.out.below L3).far hog' _).far hog' _, ((chain HLD.out L3).setCell (by show W.heap.size ≤ g; exact hg) _).setCell (by show W.heap.size ≤ g; exact hg) _⟩
        have HSN : Hid (∀ i b, updS S k (Btw V1.drew.heap.size w3.heap.size) i b → W.heap.size ≤ b) := fun i b hb => by
          unfold updS at hb
          by_cases e : i = k
          · rw [if_pos e] at hb; have := hb.1; omega
          · rw [if_neg e] at hb; exact HSB.out i b hb
        clear ho3 L3 hN hl3 hlen hl60 hx60 HPD HTD HLD HC HSS
        refine wpAnyH_done (by kernel_rfl) ?_ _
        simp only [Exit.then]
        go_wp2_with fail
        refine NoPanic.normal ?_
        go_wp2_with fail
        go_roundg (ts.length - (k + 1))
        case rel => exact ⟨k + 1, _, _, _, by omega, Nat.le_refl _, by go_num, HST.out.as (fun i _ => by
          unfold updW
          by_cases e : i = k
          · rw [if_pos e, if_pos (by omega), e]
          · rw [if_neg e]
            show (if i < k then wnth ts i else ([], [])) = _
            by_cases e2 : i < k
            · rw [if_pos e2, if_pos (by omega)]
            · rw [if_neg e2, if_neg (by omega)]), HSN.out, HE.out.1, HE.out.2⟩
        case measure => omega
      · obtain rfl : k = ts.length := by omega
        have hki : ¬ ((ts.length : Int) < (ts.length : Int)) := by omega
        have tR := HTR.out.below HL.out
        have r0 := tR.c0
        have r1 := tR.c1
        have rf0 := tR.frozen 0
        have rf1 := tR.frozen 1
        have o0 := HT.out.c0
        have o1 := HT.out.c1
        have t3 := (tR.set0 (.int .i64 d)).set1 (.slice (some ⟨g, 0, none⟩) ts.length ts.length)
        have q0 := t3.c0
        have q1 := t3.c1
        have HF := hidP (HP.out.as (U := wnth ts) (fun i hi' => by rw [if_pos hi']))
        have hz := HL.out.size
        have LE : Below w.heap.size w ((wr.setCell ⟨w.heap.size + 1, 0, none⟩ (.int .i64 d)).setCell ⟨w.heap.size + 1, 1, none⟩ (.slice (some ⟨g, 0, none⟩) ts.length ts.length)) := ((chain HB.out HL.out).setCell (by show w.heap.size ≤ w.heap.size + 1; omega) _).setCell (by show w.heap.size ≤ w.heap.size + 1; omega) _
        have hft : ∀ b, FtW g ts.length S b → W.heap.size ≤ b ∧ b < wr.heap.size := fun b hb => ⟨by rcases hb with rfl | ⟨i, _, hs⟩; exact hg; exact HSB.out i b hs, HF.out.ts.bnd b hb⟩
        have hsta : Sta (FtW g ts.length S) wr ((wr.setCell ⟨w.heap.size + 1, 0, none⟩ (.int .i64 d)).setCell ⟨w.heap.size + 1, 1, none⟩ (.slice (some ⟨g, 0, none⟩) ts.length ts.length)) :=
          ⟨by rw [setCell_size, setCell_size]; exact Nat.le_refl _, fun b hb => (Below.heap_setCell _ ⟨w.heap.size + 1, 1, none⟩ _ b (fun e => by have e' : b = w.heap.size + 1 := e; have := hft b hb; omega)).trans (Below.heap_setCell _ ⟨w.heap.size + 1, 0, none⟩ _ b (fun e => by have e' : b = w.heap.size + 1 := e; have := hft b hb; omega))⟩
        have hwz := HSZ.out.2
        have HE := hidP (And.intro ((HF.out.sm hsta).tsr (base := w.heap.size) (by omega) (fun i b hb => by have := HSB.out i b hb; omega)) LE)
        clear hVr tR t3 HF LE hft hsta HP HL HT HSB hz hwz
        go_wp2_with fail
        refine bodyPost_ret (v := .agg #[.int .i64 d, .slice (some ⟨g, 0, none⟩) ts.length ts.length]) (by simp [results, Tryz.results101, go_sem, q0, q1]) rfl ?_
        exact ⟨_, rfl, ⟨_, _, _, HE.out.1⟩, HE.out.2⟩
theorem iOwnTower (v : Bool) (aw : Option Addr) (cw : Nat) (d : Int) (ts : List Wb) (w : World) (hv : WbView v w aw ts) (hok : towB d ts = true) (hsm : WbSmall ts) :
    Calls Tryz.prog 101 #[.agg #[.int .i64 d, .slice aw ts.length cw]] w fun e w' => ∃ vt, e = .returned (.agg #[.int .i64 d, vt]) ∧ TsO true (Btw w.heap.size w'.heap.size) w' vt ts ∧ Below w.heap.size w w' :=
  (iOwnTowerR v aw cw d ts w hv hok hsm).mono (fun _ _ ⟨vt, e, ⟨_, _, _, h⟩, L⟩ => ⟨vt, e, h.out, L⟩)
end Go.Proofs.YtaaagmgglolibaaGreat
namespace Go.Proofs.YtaaagmgglolibaaGreat
open Go Go.RowKit

/-- A web with one more mark, linked by three. -/
def raiW (m : Mk) (x : Wb) : Wb := (x.1 ++ [m], lnkL x.1 x.2 (nearI x.1 m.2 3) m.1)
def raiT (m : Mk) (ts : List Wb) : Nat → List Wb
  | 0 => ts
  | k + 1 => (raiT m ts k).set k (raiW m (wnth ts k))
def raiB (m : Mk) (ts : List Wb) : Nat → Bool
  | 0 => true
  | k + 1 => raiB m ts k && marksB ((wnth ts k).1 ++ [m])
theorem raiT_len (m : Mk) (ts : List Wb) : ∀ k, (raiT m ts k).length = ts.length
  | 0 => rfl
  | k + 1 => by rw [raiT, List.length_set, raiT_len m ts k]
theorem raiB_no {m : Mk} {ts : List Wb} {k n : Nat} (h : marksB ((wnth ts k).1 ++ [m]) = false) (hk : k < n) : raiB m ts n = false := by
  induction n with
  | zero => omega
  | succ n ih =>
    unfold raiB
    rcases Nat.lt_or_ge k n with h1 | h1
    · rw [ih h1]; rfl
    · obtain rfl : k = n := by omega
      rw [h]; simp
theorem raiB_yes {m : Mk} {ts : List Wb} {k : Nat} (h1 : raiB m ts k = true) (h : marksB ((wnth ts k).1 ++ [m]) = true) : raiB m ts (k + 1) = true := by
  unfold raiB; rw [h1, h]; rfl
theorem wnth_set {ts : List Wb} {k : Nat} (x : Wb) (hk : k < ts.length) (i : Nat) : wnth (ts.set k x) i = if i = k then x else wnth ts i := by
  unfold wnth
  rw [List.getD_eq_getElem?_getD, List.getD_eq_getElem?_getD, List.getElem?_set]
  by_cases e : i = k
  · subst e; simp [hk]
  · rw [if_neg (fun h => e h.symm), if_neg e]
theorem raiT_at (m : Mk) (ts : List Wb) : ∀ k, k ≤ ts.length → ∀ i, wnth (raiT m ts k) i = if i < k then raiW m (wnth ts i) else wnth ts i
  | 0, _, i => by rw [raiT, if_neg (by omega)]
  | k + 1, hk, i => by
    rw [raiT, wnth_set _ (by rw [raiT_len]; omega), raiT_at m ts k (by omega) i]
    by_cases e : i = k
    · rw [if_pos e, if_pos (by omega), e]
    · rw [if_neg e]
      by_cases e2 : i < k
      · rw [if_pos e2, if_pos (by omega)]
      · rw [if_neg e2, if_neg (by omega)]

theorem webL_set (vm vl : Nat → Value) (n k : Nat) (xm xl : Value) : ((webL vm vl n).set (k * 2) xm).set (k * 2 + 1) xl = webL (updV vm k xm) (updV vl k xl) n := by
  refine List.ext_getElem (by simp [webL]) (fun j h1 h2 => ?_)
  have e1 : (webL (updV vm k xm) (updV vl k xl) n)[j] = webC (updV vm k xm) (updV vl k xl) j := by simp [webL]
  rw [e1, List.getElem_set, List.getElem_set]
  have e2 : ∀ h, (webL vm vl n)[j]'h = webC vm vl j := fun h => by simp [webL]
  unfold webC updV
  by_cases a : k * 2 + 1 = j
  · rw [if_pos a, if_neg (by omega), if_pos (by omega)]
  · rw [if_neg a]
    by_cases b : k * 2 = j
    · rw [if_pos b, if_pos (by omega), if_pos (by omega)]
    · rw [if_neg b, e2]
      unfold webC
      by_cases c : j % 2 = 0
      · rw [if_pos c, if_pos c, if_neg (by omega)]
      · rw [if_neg c, if_neg c, if_neg (by omega)]
theorem TsR.lowm {o : Bool} {base base' : Nat} {w : World} {v : Value} {ts : List Wb} {S : Nat → Nat → Prop} {vm vl : Nat → Value} (h : TsR o base w v ts S vm vl) (hb : base' ≤ base) : TsR o base' w v ts S vm vl :=
  ⟨⟨h.row.1, h.row.2.imp id fun ⟨g, cap, cur, h1, h2, h3⟩ => ⟨g, cap, cur, h1, Nat.le_trans hb h2, h3⟩⟩, h.webs, h.off, h.apart, h.four, fun i b hi hs => Nat.le_trans hb (h.low i b hi hs)⟩
theorem TsR.nonil {o : Bool} {base : Nat} {w : World} {v : Value} {ts : List Wb} {S : Nat → Nat → Prop} {vm vl : Nat → Value} (h : TsR o base w v ts S vm vl) (hn : 0 < ts.length) : ∃ g c, v = .slice (some ⟨g, 0, none⟩) ts.length c ∧ base ≤ g ∧ g < w.heap.size ∧ ts.length ≤ c ∧ ∀ i, i < ts.length → w.cell? ⟨g, i * 2, none⟩ = some (vm i) ∧ w.cell? ⟨g, i * 2 + 1, none⟩ = some (vl i) ∧ (∀ j, w.frozen? ⟨g, j, none⟩ = false) := by
  obtain ⟨h1, ⟨rfl, h2⟩ | ⟨g, cap, cur, rfl, hb', hg, hc, h3⟩⟩ := h.row
  · omega
  · have hr := h.row
    refine ⟨g, cap, rfl, hb', (World.ownsRow.lt hr g rfl).2, hc, fun i hi => ?_⟩
    have c0 := World.ownsRow.cellAt hr (i * 2) (by omega)
    have c1 := World.ownsRow.cellAt hr (i * 2 + 1) (by omega)
    rw [webL_at (by omega)] at c0 c1
    have a0 : webC vm vl (i * 2) = vm i := by unfold webC; rw [if_pos (by omega), show i * 2 / 2 = i by omega]
    have a1 : webC vm vl (i * 2 + 1) = vl i := by unfold webC; rw [if_neg (by omega), show (i * 2 + 1) / 2 = i by omega]
    rw [a0] at c0
    rw [a1] at c1
    exact ⟨c0, c1, fun j => by simp [World.frozen?, hg]⟩
/-- A web is put in place of another one. -/
theorem TsR.put {o : Bool} {base g c : Nat} {w w' : World} {ts : List Wb} {S : Nat → Nat → Prop} {vm vl : Nat → Value} (h : TsR o base w (.slice (some ⟨g, 0, none⟩) ts.length c) ts S vm vl) (L : Below w.heap.size w w') {k : Nat} (hk : k < ts.length) {F : Nat → Prop} {xm xl : Value} {t : Wb} (hw : OwW o F w' xm xl t.1 t.2) (hF : ∀ b, F b → w.heap.size ≤ b) (hbs : base ≤ w.heap.size) :
    TsR o base ((w'.setCell ⟨g, k * 2, none⟩ xm).setCell ⟨g, k * 2 + 1, none⟩ xl) (.slice (some ⟨g, 0, none⟩) ts.length c) (ts.set k t) (updS S k F) (updV vm k xm) (updV vl k xl) := by
  have hg := (h.bnd g (Or.inl rfl)).2
  have h' := h.next L
  have far : ∀ b, b ≠ g → ((w'.setCell ⟨g, k * 2, none⟩ xm).setCell ⟨g, k * 2 + 1, none⟩ xl).heap[b]? = w'.heap[b]? := fun b hb => (Below.heap_setCell _ ⟨g, k * 2 + 1, none⟩ xl b (fun e => hb e)).trans (Below.heap_setCell _ ⟨g, k * 2, none⟩ xm b (fun e => hb e))
  have sz : w'.heap.size ≤ ((w'.setCell ⟨g, k * 2, none⟩ xm).setCell ⟨g, k * 2 + 1, none⟩ xl).heap.size := by rw [setCell_size, setCell_size]; exact Nat.le_refl _
  have hl : (ts.set k t).length = ts.length := List.length_set ..
  refine ⟨?_, fun i hi => ?_, fun i hi q e => ?_, fun i j hi hj hne b => ?_, by rw [hl]; exact h.four, fun i b hi hs => ?_⟩
  · have r1 := (World.ownsRow.stored h'.row (k * 2) xm).1
    have r2 := (World.ownsRow.stored r1 (k * 2 + 1) xl).1
    rw [webL_set] at r2
    rw [hl]
    exact r2
  · rw [hl] at hi
    rw [wnth_set t hk]
    unfold updS updV
    by_cases e : i = k
    · rw [if_pos e, if_pos e, if_pos e, if_pos e]
      exact hw.sm ⟨sz, fun b hb => far b (fun eq => by have := hF b hb; omega)⟩
    · rw [if_neg e, if_neg e, if_neg e, if_neg e]
      exact (h'.webs i hi).sm ⟨sz, fun b hb => far b (fun eq => h.off i hi g rfl (eq ▸ hb))⟩
  · rw [hl] at hi
    injection e with e
    subst e
    unfold updS
    by_cases e : i = k
    · rw [if_pos e]
      exact fun hb => by have hx : w.heap.size ≤ g := hF _ hb; omega
    · rw [if_neg e]
      exact h.off i hi _ rfl
  · rw [hl] at hi hj
    unfold updS
    by_cases e : i = k
    · rw [if_pos e, if_neg (by omega)]
      exact fun hb hb' => by have := hF b hb; have := (h.webs j hj).bnd b hb'; omega
    · rw [if_neg e]
      by_cases e' : j = k
      · rw [if_pos e']
        exact fun hb hb' => by have := hF b hb'; have := (h.webs i hi).bnd b hb; omega
      · rw [if_neg e']
        exact h.apart i j hi hj hne b
  · rw [hl] at hi
    unfold updS at hs
    by_cases e : i = k
    · rw [if_pos e] at hs; have := hF b hs; omega
    · rw [if_neg e] at hs; exact h.low i b hi hs

theorem drow_mono18 {base base' : Nat} {w : World} {g c : Nat} {ds : List Dm} (h : DRow base w g c ds) (hb : base' ≤ base) : DRow base' w g c ds :=
  have ow : ∀ {e : TypeId} {size n : Nat} {v : Value} {xs : List Value}, w.ownsRow base e size v n xs → w.ownsRow base' e size v n xs := fun h => ⟨h.1, h.2.imp id fun ⟨g, cap, cur, h1, h2, h3⟩ => ⟨g, cap, cur, h1, Nat.le_trans hb h2, h3⟩⟩
  ⟨ow h.1, fun d hd => ⟨ow (h.2.1 d hd).1, (h.2.1 d hd).2⟩, h.2.2⟩
/-- What a Linked by three hands out. -/
def LnkC (o : Bool) (f : Nat) : Prop := ∀ (am al at' : Option Addr) (cm cl ct : Nat) (x : Wb) (m : Mk) (w : World), MView w am x.1 → CView w al x.2 → View w at' m.2 → m.2.length ≤ 1048576 → x.1.length ≤ cm → x.2.length ≤ cl → MSmall x.1 → CSmall x.2 → webB x.1 x.2 = true →
    Calls Tryz.prog f #[.agg #[.slice am x.1.length cm, .slice al x.2.length cl], .agg #[.int .i64 m.1, .slice at' m.2.length ct], .int .i64 3] w fun e w' => ∃ (a1 : Option Addr) (l1 c1 : Nat) (a2 : Option Addr) (l2 c2 : Nat) (F : Nat → Prop), e = .returned (.tuple #[.agg #[.slice a1 l1 c1, .slice a2 l2 c2], .bool (marksB (x.1 ++ [m]))]) ∧ (marksB (x.1 ++ [m]) = true → OwW o F w' (.slice a1 l1 c1) (.slice a2 l2 c2) (raiW m x).1 (raiW m x).2) ∧ (∀ b, F b → w.heap.size ≤ b ∧ b < w'.heap.size) ∧ Below w.heap.size w w'

theorem sLnkC : LnkC false 197 := by
  intro am al at' cm cl ct x m w hm hl ha hal _ _ _ _ hw
  refine (sLinkG am al at' cm cl ct x.1 x.2 m 3 w hm hl ha hal hw).mono ?_
  rintro e w' (⟨hb, rfl, L⟩ | ⟨hb, gm, cm', gl, cl', rfl, ho, L⟩)
  · rw [hb]
    exact ⟨_, _, _, _, _, _, fun _ => False, rfl, (by intro h; cases h), (fun b h => h.elim), L⟩
  · rw [hb]
    refine ⟨_, _, _, _, _, _, Btw w.heap.size w'.heap.size, rfl, fun _ => ?_, fun b h => h, L⟩
    obtain ⟨B, ds, B', rs, h1, h2, hd, hdm, hlm, hnr, -⟩ := ho
    have hrl : rs.length = x.2.length + 1 := by
      have h1 : (nums rs).length = rs.length := nums_length rs
      rw [hnr, lnkL_len] at h1
      rw [web_len hw]; exact h1.symm
    have hr := copy_ow (base := w.heap.size) (drow_mono18 hd h1) hdm (Or.inr ⟨gl, cl', rfl, hlm⟩) hnr h2
    rw [hrl] at hr
    rw [List.length_append, List.length_singleton] at hr
    exact hr

theorem iLnkC : LnkC true 104 := by
  intro am al at' cm cl ct x m w hm hl ha hal hcm hcl hsm hcs hw
  refine (iLinked am al at' cm cl ct x.1 x.2 m 3 w hm hl hsm hcs hcm hcl ha hal).mono ?_
  rintro e w' ⟨v, rfl, ho, L⟩
  have hlb : linkedB x.1 x.2 m 3 = marksB (x.1 ++ [m]) := by unfold linkedB; rw [hw]; simp [mostB]
  rw [hlb]
  rcases ho with ⟨hb, rfl⟩ | ⟨hb, g, gl, rfl, ho⟩
  · rw [hlb] at hb
    rw [hb]
    exact ⟨_, _, _, _, _, _, fun _ => False, rfl, (by intro h; cases h), (fun b h => h.elim), L⟩
  · refine ⟨_, _, _, _, _, _, Btw w.heap.size w'.heap.size, rfl, fun hmb => ?_, fun b h => h, L⟩
    rw [hlb] at hb
    have hll : (lnkL x.1 x.2 (nearI x.1 m.2 3) m.1).length = x.1.length + 1 := lnkL_len ..
    have hwb : webB (x.1 ++ [m]) (lnkL x.1 x.2 (nearI x.1 m.2 3) m.1) = true := linked_web hw hb (nearI_find (web_marks hw))
    obtain ⟨-, -, h60, hx60⟩ := web_small hwb
    have hr := OwnWeb.ow (ls := lnkL x.1 x.2 (nearI x.1 m.2 3) m.1) (by rw [hll]; exact ho) hb (by rw [hll, List.length_append, List.length_singleton]) (by omega) (fun i => by have := hx60 i; omega)
    rw [hll, List.length_append, List.length_singleton] at hr
    exact hr
end Go.Proofs.YtaaagmgglolibaaGreat
namespace Go.Proofs.YtaaagmgglolibaaGreat
open Go Go.RowKit

/-- How many webs a mark is put into. -/
def raiN (d : Int) : Nat := (levV (rolV d)).toNat + 1
def raiR (m : Mk) (ts : List Wb) (d : Int) : Bool := raiB m ts (raiN d)
def raiD (m : Mk) (ts : List Wb) (d : Int) : Int := if raiR m ts d = true then rolV d else d
def raiS (m : Mk) (ts : List Wb) (d : Int) : List Wb := if raiR m ts d = true then raiT m ts (raiN d) else ts
theorem rai_lev {d : Int} (h : inR d 0 1000002 = true) : levV (rolV d) = ((raiN d : Nat) : Int) - 1 ∧ 1 ≤ raiN d ∧ raiN d ≤ 4 := by
  have hr : inR (rolV d) 0 1000002 = true := by have := rolV_lt h; simp [inR]; omega
  have h1 := levV_in hr
  have h3 := levF_le 3 (rolV d)
  unfold raiN
  rw [h1]
  omega
theorem tow_in {d : Int} {ts : List Wb} (h : towB d ts = true) : inR d 0 1000002 = true := by
  unfold towB at h; rw [Bool.and_eq_true] at h; exact h.1

set_option maxRecDepth 100000 in
set_option maxHeartbeats 8000000 in
theorem sRaisedG (aw at' : Option Addr) (cw ct : Nat) (d : Int) (ts : List Wb) (m : Mk) (w : World) (hv : WbView true w aw ts) (ha : View w at' m.2) (hal : m.2.length ≤ 1048576) (hok : towB d ts = true) (hsm : WbSmall ts) :
    Calls Tryz.prog 110 #[.agg #[.int .i64 d, .slice aw ts.length cw], .agg #[.int .i64 m.1, .slice at' m.2.length ct]] w fun e w' => ∃ vt, e = .returned (.tuple #[.agg #[.int .i64 (raiD m ts d), vt], .bool (raiR m ts d)]) ∧ CpyT w.heap.size w' vt (raiS m ts d) ∧ Below w.heap.size w w' := by
  obtain ⟨W1, hW1⟩ : ∃ W, w.alloc (.cells #[.int .i64 d, .slice aw ts.length cw] 26) = W := ⟨_, rfl⟩
  obtain ⟨W2, hW2⟩ : ∃ W, W1.alloc (.cells #[.int .i64 m.1, .slice at' m.2.length ct] 29) = W := ⟨_, rfl⟩
  obtain ⟨W, hW⟩ : ∃ W, W2.alloc (.cells #[.int .i64 0, .slice none 0 0] 26) = W := ⟨_, rfl⟩
  have s1 : W1.heap.size = w.heap.size + 1 := by rw [← hW1]; simp
  have s2 : W2.heap.size = w.heap.size + 1 + 1 := by rw [← hW2]; simp [s1]
  have s3 : W.heap.size = w.heap.size + 1 + 1 + 1 := by rw [← hW]; simp [s2]
  have b1 : Below w.heap.size w W1 := by rw [← hW1]; exact (Below.refl _ _).alloc (Nat.le_refl _) _
  have b2 : Below W1.heap.size W1 W2 := by rw [← hW2]; exact (Below.refl _ _).alloc (Nat.le_refl _) _
  have b3 : Below W2.heap.size W2 W := by rw [← hW]; exact (Below.refl _ _).alloc (Nat.le_refl _) _
  have t0 : Two W w.heap.size (.int .i64 d) (.slice aw ts.length cw) 26 := by
    have : Two W1 w.heap.size (.int .i64 d) (.slice aw ts.length cw) 26 := by rw [← hW1]; exact Two.new w _ _ _
    exact (this.below b2).below b3
  have t1 : Two W (w.heap.size + 1) (.int .i64 m.1) (.slice at' m.2.length ct) 29 := by
    have : Two W2 (w.heap.size + 1) (.int .i64 m.1) (.slice at' m.2.length ct) 29 := by rw [← hW2, ← s1]; exact Two.new W1 _ _ _
    exact this.below b3
  have t2 : Two W (w.heap.size + 1 + 1) (.int .i64 0) (.slice none 0 0) 26 := by rw [← hW, ← s2]; exact Two.new W2 _ _ _
  have hB := chain (chain b1 b2) b3
  have HB := hidP hB
  have HV := hidP (fun W' (L : Below W.heap.size W W') => hv.next (chain hB L))
  have HM := hidP (fun W' (L : Below W.heap.size W W') => (ha.below (Nat.le_refl _) hB).below (Nat.le_refl _) L)
  have HT0 := hidP t0
  have HT1 := hidP t1
  have HT2 := hidP t2
  have HSZ := hidP s3
  have HOK := hidP (And.intro hok (And.intro hsm hal))
  obtain ⟨hlv, hn1, hn4⟩ := rai_lev (tow_in hok)
  have H4 : Hid (ts.length = 4) := (tow_at hok).1
  have HLV := hidP hlv
  have HCY := hidP (fun W' (L : Below W.heap.size W W') => sCopyT true aw cw d ts W' (hv.next (chain hB L)) hok)
  have k0 := t0.c0
  have k1 := t0.c1
  have HWW : Hid (((w.alloc (.cells #[.int .i64 d, .slice aw ts.length cw] 26)).alloc (.cells #[.int .i64 m.1, .slice at' m.2.length ct] 29)).alloc (.cells #[.int .i64 0, .slice none 0 0] 26) = W) := by show _ = _; rw [hW1, hW2, hW]
  obtain ⟨N, hN⟩ : ∃ N, raiN d = N := ⟨_, rfl⟩
  have HN := hidP hN
  rw [hN] at hlv hn1 hn4 HLV
  clear hv ha hok hsm hal hB b1 b2 b3 t0 t1 t2 s1 s2 s3 hW hW1 hW2 hN hlv
  go_enter Tryz.func110, Tryz.ntmps110
  go_upto_region 1 with fail
  rw [HWW.out]
  clear HWW
  go_wp2_with fail
  refine (HCY.out W (Below.refl _ _)).mono ?_
  rintro e w1 ⟨vt, rfl, ⟨S0, vm0, vl0, ht⟩, L1⟩
  clear k0 k1
  obtain ⟨g, c, rfl, hg1, hg2, hgc, -⟩ := ht.nonil (by have := H4.out; omega)
  have hS0 : ∀ i b, i < ts.length → S0 i b → b < w1.heap.size := fun i b hi hb => (ht.webs i hi).bnd b hb
  obtain ⟨w2, hw2⟩ : ∃ w2, w1.alloc (.cells #[.int .i64 d, .slice (some ⟨g, 0, none⟩) ts.length c] 26) = w2 := ⟨_, rfl⟩
  have L2 : Below w1.heap.size w1 w2 := by rw [← hw2]; exact (Below.refl _ _).alloc (Nat.le_refl _) _
  have tO : Two w2 w1.heap.size (.int .i64 d) (.slice (some ⟨g, 0, none⟩) ts.length c) 26 := by rw [← hw2]; exact Two.new w1 _ _ _
  obtain ⟨O, hO⟩ : ∃ O, w1.heap.size = O := ⟨_, rfl⟩
  have hWO : W.heap.size ≤ O := by have := L1.size; omega
  have HL2 := hidP (chain L1 L2)
  have HTS := hidP (ht.next L2)
  have HQ2 := hidP hw2
  rw [hO] at tO hS0 hg2
  have HTO := hidP tO
  have HS0 : Hid ((∀ i b, i < ts.length → S0 i b → b ≠ O) ∧ g ≠ O) := ⟨fun i b hi hb => by have := hS0 i b hi hb; omega, by omega⟩
  have k0 := (HT0.out.below HL2.out).c0
  have o0 := tO.c0
  have of0 := tO.frozen 0
  have HRL := hidP (sRolled d w2)
  clear ht L1 L2 hw2 hS0 tO
  go_upto_region 2 with fail
  first | rw [HQ2.out] | skip
  first | rw [hO] | skip
  clear HQ2
  go_wp2_with fail
  refine HRL.out.mono ?_
  rintro e w3' ⟨rfl, hw3e⟩
  subst hw3e
  obtain ⟨w3, hw3⟩ : ∃ w3, w3'.setCell ⟨O, 0, none⟩ (.int .i64 (rolV d)) = w3 := ⟨_, rfl⟩
  have HTO3 : Hid (Two w3 O (.int .i64 (rolV d)) (.slice (some ⟨g, 0, none⟩) ts.length c) 26) := by show Two _ _ _ _ _; rw [← hw3]; exact HTO.out.set0 _
  have HL3 : Hid (Below W.heap.size W w3) := by show Below _ _ _; rw [← hw3]; exact HL2.out.setCell (by show W.heap.size ≤ O; exact hWO) _
  have HTS3 : Hid (TsR false W.heap.size w3 (.slice (some ⟨g, 0, none⟩) ts.length c) ts S0 vm0 vl0) := HTS.out.sm (by
    rw [← hw3]
    refine ⟨by rw [setCell_size]; exact Nat.le_refl _, fun b hb => Below.heap_setCell _ ⟨O, 0, none⟩ _ b (fun e => ?_)⟩
    have e' : b = O := e
    rcases hb with hb | ⟨i, hi, hb⟩
    · injection hb with hb; exact HS0.out.2 (hb.trans e')
    · exact HS0.out.1 i b hi hb e')
  clear k0 hO
  go_wp2_with fail
  first | rw [hw3] | skip
  clear hw3 HTO HL2 HTS HRL o0 of0
  clear w3'
  go_loopg [7] N (fun gk iv wr => ∃ (k : Nat) (S : Nat → Nat → Prop) (vm vl : Nat → Value), k ≤ N ∧ N - k ≤ gk ∧ iv = .int .i64 k ∧ raiB m ts k = true ∧ TsR false W.heap.size wr (.slice (some ⟨g, 0, none⟩) ts.length c) (raiT m ts k) S vm vl ∧ (∀ i b, i < ts.length → S i b → b ≠ O) ∧ Two wr O (.int .i64 (rolV d)) (.slice (some ⟨g, 0, none⟩) ts.length c) 26 ∧ Below W.heap.size W wr)
  case atStart => exact ⟨0, _, _, _, Nat.zero_le _, Nat.sub_le _ _, rfl, rfl, HTS3.out, HS0.out.1, HTO3.out, HL3.out⟩
  case round =>
    obtain ⟨k, S, vm, vl, hk, hgk, rfl, hrb, hp, hsb, hto, L⟩ := hrel
    have hx0 := hto.c0
    have HLE := hidP (sLevel (rolV d) wr)
    rw [HLV.out] at HLE
    have HP := hidP hp
    have HT := hidP hto
    have HL := hidP L
    have HSB := hidP hsb
    have HRB := hidP hrb
    clear hp hto L hsb hrb
    by_cases hlt : k < N
    · have hcond : ((k : Int) ≤ (N : Int) - 1) := by omega
      go_wp2_with fail
      refine HLE.out.mono ?_
      rintro e wo ⟨rfl, hwo⟩
      subst hwo
      have hVr := HV.out wo HL.out
      have hkt : k < ts.length := by have := H4.out; omega
      obtain ⟨wb, wof, am, cm, al, cl, rfl, hwb, c0, c1, hmv, hcv, hcap⟩ := hVr.web hkt
      have hweb := tow_web HOK.out.1 (n := k) (by omega)
      have BLo := hidP ((Below.refl wo.heap.size wo).drew)
      have HCo := hidP (fun W' (L' : Below wo.heap.size wo W') => sLnkC am al at' cm cl ct (wnth ts k) m W' (hmv.next L') (hcv.next L') (HM.out W' (chain HL.out L')) HOK.out.2.2 (hcap rfl).1 (hcap rfl).2 (HOK.out.2.1.2 k).1 (HOK.out.2.1.2 k).2 hweb)
      have hB0l := (HT0.out.below HL.out).lt
      have hB1l := (HT1.out.below HL.out).lt
      have HSo : Hid (∀ W', Below wo.heap.size wo W' → W'.cell? ⟨w.heap.size, 1, none⟩ = some (.slice (some ⟨wb, wof, none⟩) ts.length cw) ∧ W'.cell? ⟨wb, wof + k * 2, none⟩ = some (.slice am (wnth ts k).1.length cm) ∧ W'.cell? ⟨wb, wof + k * 2 + 1, none⟩ = some (.slice al (wnth ts k).2.length cl) ∧ W'.cell? ⟨w.heap.size + 1, 0, none⟩ = some (.int .i64 m.1) ∧ W'.cell? ⟨w.heap.size + 1, 1, none⟩ = some (.slice at' m.2.length ct) ∧ (0 : Int) ≤ (k : Int) ∧ (k : Int) < (ts.length : Int)) := fun W' L' => ⟨((HT0.out.below HL.out).below L').c1, (L'.cell (p := ⟨wb, wof + k * 2, none⟩) hwb).trans c0, (L'.cell (p := ⟨wb, wof + k * 2 + 1, none⟩) hwb).trans c1, ((HT1.out.below HL.out).below L').c0, ((HT1.out.below HL.out).below L').c1, Int.natCast_nonneg _, by omega⟩
      obtain ⟨ml, hml⟩ : ∃ ml, (wnth ts k).1.length = ml := ⟨_, rfl⟩
      obtain ⟨ll, hll⟩ : ∃ ll, (wnth ts k).2.length = ll := ⟨_, rfl⟩
      rw [hml, hll] at HCo HSo
      clear hVr hmv hcv c0 c1 hcap hweb hx0 hml hll hwb
      go_wp2_with fail
      go_cut [8, 9] from 16 to 41 (fun v b wx => ∃ X a1 l1 c1 a2 l2 c2 F, v = .pointer (some ⟨X, 0, none⟩) ∧ b = .bool (marksB ((wnth ts k).1 ++ [m])) ∧ Two wx X (.slice a1 l1 c1) (.slice a2 l2 c2) 47 ∧ (marksB ((wnth ts k).1 ++ [m]) = true → OwW false F wx (.slice a1 l1 c1) (.slice a2 l2 c2) (raiW m (wnth ts k)).1 (raiW m (wnth ts k)).2) ∧ (∀ b, F b → wo.heap.size ≤ b) ∧ wo.heap.size ≤ X ∧ Below wo.heap.size wo wx)
      case first =>
        refine wp_region_takes (S := fun W' => Below wo.heap.size wo W') (fuel := 7) [0, 1, 2, 3, 4, 5] (by kernel_rfl) (by kernel_rfl) (by kernel_rfl) (by kernel_rfl) BLo.out (fun _ => ?_)
        iterate 6
          refine ⟨_, rfl, ?_⟩
          apply Exists.intro
          refine ⟨Or.inl ⟨by rfl, fun w' hw' => ?_⟩, ?_⟩
          · obtain ⟨e1, e2, e3, e4, e5, e6⟩ := HSo.out w' hw'
            first
            | (go_simp; done)
            | (go_simp; with_reducible rfl)
          simp only [Act.put, List.getElem_toArray, List.getElem_cons_succ, List.getElem_cons_zero, List.setIfInBounds_toArray, List.set_cons_zero, List.set_cons_succ]
        obtain ⟨wv0, hv0⟩ : ∃ w0, wo.drew = w0 := ⟨_, rfl⟩
        have B0 : Below wo.heap.size wo wv0 := by rw [← hv0]; exact BLo.out
        have s0 : wo.heap.size ≤ wv0.heap.size := B0.size
        rw [hv0]
        clear hv0
        refine calm_two14 6 10 (by kernel_rfl) rfl rfl (fun K hK => ?_) (fun K hK => ?_)
        · go_simp
          refine (HCo.out wv0 B0).mono ?_
          rintro e w2 ⟨a1, l1, c1, a2, l2, c2, F, rfl, how, hF, L2⟩
          have LA := chain B0 L2
          refine hK.out _ _ LA (fun hS4 => ?_)
          clear hK K
          refine calm_more14 3 [7, 8, 9] (by kernel_rfl) (by kernel_rfl) (by kernel_rfl) hS4 ?_
          iterate 3
            refine ⟨_, rfl, ?_⟩
            apply Exists.intro
            refine ⟨Or.inl ⟨by rfl, fun w' hw' => ?_⟩, ?_⟩
            · skip
              first
              | (go_simp; done)
              | (go_simp; with_reducible rfl)
            simp only [Act.put, List.getElem_toArray, List.getElem_cons_succ, List.getElem_cons_zero, List.setIfInBounds_toArray, List.set_cons_zero, List.set_cons_succ]
          refine calm_one 10 (by kernel_rfl) rfl (fun K hK => ?_)
          go_simp
          refine hK.out _ _ (LA.alloc LA.size _) (fun _ => ?_)
          clear hK K
          refine calm_one 11 (by kernel_rfl) rfl (fun K hK => ?_)
          go_simp
          obtain ⟨wz, hwz⟩ : ∃ wz, w2.alloc (.cells #[(.slice a1 l1 c1), (.slice a2 l2 c2)] 47) = wz := ⟨_, rfl⟩
          have LZ : Below w2.heap.size w2 wz := by rw [← hwz]; exact (Below.refl _ _).alloc (Nat.le_refl _) _
          have HLZ := hidP (chain LA LZ)
          have HTZ : Hid (Two wz w2.heap.size (.slice a1 l1 c1) (.slice a2 l2 c2) 47) := by show Two _ _ _ _ _; rw [← hwz]; exact Two.new w2 _ _ _
          have HOZ := hidP (fun h => (how h).next LZ)
          have HFZ : Hid ((∀ b, F b → wo.heap.size ≤ b) ∧ wo.heap.size ≤ w2.heap.size) := ⟨fun b hb => by have := (hF b hb).1; omega, LA.size⟩
          rw [hwz]
          refine hK.out _ _ HLZ.out (fun hS9 => ?_)
          clear hK K hwz how hF LA L2 LZ
          refine calm_rest [12] rfl (by kernel_rfl) (by kernel_rfl) (by kernel_rfl) hS9 ?_
          iterate 1
            refine ⟨_, rfl, ?_⟩
            apply Exists.intro
            refine ⟨Or.inl ⟨by rfl, fun w' hw' => ?_⟩, ?_⟩
            · skip
              first
              | (go_simp; done)
              | (go_simp; with_reducible rfl)
            simp only [Act.put, List.getElem_toArray, List.getElem_cons_succ, List.getElem_cons_zero, List.setIfInBounds_toArray, List.set_cons_zero, List.set_cons_succ]
          refine NoPanic.normal (NoPanic.normal ?_)
          go_wp2_with fail
          go_meet
          exact ⟨_, a1, l1, c1, a2, l2, c2, F, rfl, rfl, HTZ.out, HOZ.out, HFZ.out.1, HFZ.out.2, HLZ.out⟩
        · go_simp
          obtain ⟨Wx, hWx⟩ : ∃ W', wv0.alloc (.cells #[.slice none 0 0, .slice none 0 0] 47) = W' := ⟨_, rfl⟩
          obtain ⟨Xb, hXb⟩ : ∃ q, wv0.heap.size = q := ⟨_, rfl⟩
          have LX : Below wo.heap.size wo Wx := by rw [← hWx]; exact B0.alloc s0 _
          have hTX : Two Wx Xb (.slice none 0 0) (.slice none 0 0) 47 := by rw [← hWx, ← hXb]; exact Two.new wv0 _ _ _
          have hXo : wo.heap.size ≤ Xb := by omega
          have hXl := hTX.lt
          first | rw [hWx] | skip
          first | rw [hXb] | skip
          refine hK.out _ _ LX (fun _ => ?_)
          clear hK K hWx
          refine calm_one 6 (by kernel_rfl) rfl (fun K hK => ?_)
          go_simp
          refine (HCo.out Wx LX).mono ?_
          rintro e w2 ⟨a1, l1, c1, a2, l2, c2, F, rfl, how, hF, L2⟩
          have LA := chain LX L2
          have hT4 := hTX.below L2
          refine hK.out _ _ LA (fun hS4 => ?_)
          clear hK K
          refine calm_more14 2 [7, 8, 9] (by kernel_rfl) (by kernel_rfl) (by kernel_rfl) hS4 ?_
          iterate 3
            refine ⟨_, rfl, ?_⟩
            apply Exists.intro
            refine ⟨Or.inl ⟨by rfl, fun w' hw' => ?_⟩, ?_⟩
            · skip
              first
              | (go_simp; done)
              | (go_simp; with_reducible rfl)
            simp only [Act.put, List.getElem_toArray, List.getElem_cons_succ, List.getElem_cons_zero, List.setIfInBounds_toArray, List.set_cons_zero, List.set_cons_succ]
          have x0 := hT4.c0
          have x1 := hT4.c1
          have xf0 := hT4.frozen 0
          have xf1 := hT4.frozen 1
          refine calm_one 11 (by kernel_rfl) rfl (fun K hK => ?_)
          go_simp
          have HLZ := hidP ((LA.setCell (by show wo.heap.size ≤ Xb; exact hXo) (.slice a1 l1 c1) : Below wo.heap.size wo (w2.setCell ⟨Xb, 0, none⟩ (.slice a1 l1 c1))).setCell (by show wo.heap.size ≤ Xb; exact hXo) (.slice a2 l2 c2) : Below wo.heap.size wo ((w2.setCell ⟨Xb, 0, none⟩ (.slice a1 l1 c1)).setCell ⟨Xb, 1, none⟩ (.slice a2 l2 c2)))
          have HTZ := hidP ((hT4.set0 (.slice a1 l1 c1)).set1 (.slice a2 l2 c2))
          have HOZ := hidP (fun h => (how h).sm (w' := (w2.setCell ⟨Xb, 0, none⟩ (.slice a1 l1 c1)).setCell ⟨Xb, 1, none⟩ (.slice a2 l2 c2)) ⟨by rw [setCell_size, setCell_size]; exact Nat.le_refl _, fun b hb => (Below.heap_setCell _ ⟨Xb, 1, none⟩ _ b (fun e => by have e' : b = Xb := e; have := (hF b hb).1; omega)).trans (Below.heap_setCell _ ⟨Xb, 0, none⟩ _ b (fun e => by have e' : b = Xb := e; have := (hF b hb).1; omega))⟩)
          have HFZ : Hid (∀ b, F b → wo.heap.size ≤ b) := fun b hb => by have := (hF b hb).1; omega
          clear how hF
          generalize (w2.setCell ⟨Xb, 0, none⟩ (.slice a1 l1 c1)).setCell ⟨Xb, 1, none⟩ (.slice a2 l2 c2) = wz at *
          refine hK.out _ _ HLZ.out (fun hS9 => ?_)
          clear hK K x0 x1 xf0 xf1 LA L2 hT4
          refine calm_rest [12] rfl (by kernel_rfl) (by kernel_rfl) (by kernel_rfl) hS9 ?_
          iterate 1
            refine ⟨_, rfl, ?_⟩
            apply Exists.intro
            refine ⟨Or.inl ⟨by rfl, fun w' hw' => ?_⟩, ?_⟩
            · skip
              first
              | (go_simp; done)
              | (go_simp; with_reducible rfl)
            simp only [Act.put, List.getElem_toArray, List.getElem_cons_succ, List.getElem_cons_zero, List.setIfInBounds_toArray, List.set_cons_zero, List.set_cons_succ]
          refine NoPanic.normal (NoPanic.normal ?_)
          go_wp2_with fail
          go_meet
          exact ⟨Xb, a1, l1, c1, a2, l2, c2, F, rfl, rfl, HTZ.out, HOZ.out, HFZ.out, hXo, HLZ.out⟩
      case rest =>
        obtain ⟨X, a1, l1, c1, a2, l2, c2, F, rfl, rfl, hTX, hOW, hFX, hXW, LW⟩ := hcut
        generalize hwc : wc = w5 at *
        clear hwc wc HCo HSo BLo HLE
        have HL5 := hidP (chain HL.out LW)
        have HP5 := hidP (HP.out.next LW)
        have HT5 := hidP (HT.out.below LW)
        rcases hmb : marksB ((wnth ts k).1 ++ [m]) with _ | _
        · have t05 := HT0.out.below HL5.out
          have k0 := t05.c0
          have k1 := t05.c1
          have HCY5 := hidP (HCY.out w5 HL5.out)
          have HNO : Hid (raiR m ts d = false) := raiB_no hmb (by rw [HN.out]; exact hlt)
          clear hOW hTX t05
          go_wp2_with fail
          refine HCY5.out.mono ?_
          rintro e w6 ⟨vt, rfl, hcp, L6⟩
          obtain ⟨va, vc, rfl⟩ : ∃ va vc, vt = .slice va ts.length vc := by obtain ⟨_, _, _, h⟩ := hcp; obtain ⟨a, c, e, -⟩ := h.form; exact ⟨a, c, e⟩
          have t26 := HT2.out.below (chain HL5.out L6)
          have r0 := t26.c0
          have r1 := t26.c1
          have rf0 := t26.frozen 0
          have rf1 := t26.frozen 1
          have t27 := (t26.set0 (.int .i64 d)).set1 (.slice va ts.length vc)
          have q0 := t27.c0
          have q1 := t27.c1
          obtain ⟨S1, vm1, vl1, hts1⟩ := hcp
          have hz5 := HL5.out.size
          have hsz := HSZ.out
          have HTF := hidP ((hts1.sm (w' := (w6.setCell ⟨w.heap.size + 1 + 1, 0, none⟩ (.int .i64 d)).setCell ⟨w.heap.size + 1 + 1, 1, none⟩ (.slice va ts.length vc)) ⟨by rw [setCell_size, setCell_size]; exact Nat.le_refl _, fun b hb => (Below.heap_setCell _ ⟨w.heap.size + 1 + 1, 1, none⟩ _ b (fun e => by have e' : b = w.heap.size + 1 + 1 := e; have := (hts1.bnd b hb).1; omega)).trans (Below.heap_setCell _ ⟨w.heap.size + 1 + 1, 0, none⟩ _ b (fun e => by have e' : b = w.heap.size + 1 + 1 := e; have := (hts1.bnd b hb).1; omega))⟩).lowm (base' := w.heap.size) (by omega))
          have HLF := hidP (((chain HB.out (chain HL5.out L6)).setCell (by show w.heap.size ≤ w.heap.size + 1 + 1; omega) (.int .i64 d)).setCell (by show w.heap.size ≤ w.heap.size + 1 + 1; omega) (.slice va ts.length vc) : Below w.heap.size w ((w6.setCell ⟨w.heap.size + 1 + 1, 0, none⟩ (.int .i64 d)).setCell ⟨w.heap.size + 1 + 1, 1, none⟩ (.slice va ts.length vc)))
          clear hts1 t26 t27 L6 k0 k1
          go_wp2_with fail
          refine bodyPost_ret (v := .tuple #[.agg #[.int .i64 d, (.slice va ts.length vc)], .bool false]) (by simp [results, Tryz.results110, go_sem, q0, q1]) rfl ?_
          refine ⟨(.slice va ts.length vc), ?_, ⟨S1, vm1, vl1, ?_⟩, HLF.out⟩
          · unfold raiD; rw [HNO.out]; rfl
          · unfold raiS; rw [HNO.out]; exact HTF.out
        · have HOW := hidP (hOW hmb)
          have HMB := hidP hmb
          have hRL := raiT_len m ts k
          have hPL := HP.out
          rw [← hRL] at hPL
          have HPU := hidP (hPL.put LW (k := k) (by rw [hRL]; exact hkt) HOW.out hFX HL.out.size)
          rw [hRL] at HPU
          have hcl : ∀ i, i < (raiT m ts k).length → w5.cell? ⟨g, i * 2, none⟩ = some (vm i) ∧ w5.cell? ⟨g, i * 2 + 1, none⟩ = some (vl i) ∧ ∀ j, w5.frozen? ⟨g, j, none⟩ = false := by
            obtain ⟨g', c', hge, -, -, -, hcl⟩ := (HP5.out).nonil (by rw [hRL]; omega)
            injection hge with h1 h2 h3
            injection h1 with h1
            injection h1 with h1
            subst h1
            exact hcl
          obtain ⟨e0, e1, ef⟩ := hcl k (by rw [hRL]; exact hkt)
          have f0 := ef (k * 2)
          have f1 := ef (k * 2 + 1)
          have o1 := HT5.out.c1
          have x0 := hTX.c0
          have x1 := hTX.c1
          have hi0 : (0 : Int) ≤ (k : Int) := Int.natCast_nonneg _
          have hi1 : (k : Int) < (ts.length : Int) := by omega
          have hgo : g ≠ O := HS0.out.2
          have HE : Hid (Two ((w5.setCell ⟨g, k * 2, none⟩ (.slice a1 l1 c1)).setCell ⟨g, k * 2 + 1, none⟩ (.slice a2 l2 c2)) O (.int .i64 (rolV d)) (.slice (some ⟨g, 0, none⟩) ts.length c) 26 ∧ Below W.heap.size W ((w5.setCell ⟨g, k * 2, none⟩ (.slice a1 l1 c1)).setCell ⟨g, k * 2 + 1, none⟩ (.slice a2 l2 c2))) :=
            ⟨(HT5.out.far hgo _).far hgo _, (HL5.out.setCell (by show W.heap.size ≤ g; exact hg1) _).setCell (by show W.heap.size ≤ g; exact hg1) _⟩
          have hOl := HT.out.lt
          have HSN : Hid (∀ i b, i < ts.length → updS S k F i b → b ≠ O) := fun i b hi hb => by
            unfold updS at hb
            by_cases e : i = k
            · rw [if_pos e] at hb; have := hFX b hb; omega
            · rw [if_neg e] at hb; exact HSB.out i b hi hb
          have HRN := hidP (raiB_yes HRB.out hmb)
          clear hPL hRL hcl ef hOW hTX HP HT HL HP5 HT5 HL5 LW
          go_wp2_with fail
          go_roundg (N - (k + 1))
          case rel => exact ⟨k + 1, _, _, _, by omega, Nat.le_refl _, by go_num, HRN.out, HPU.out, HSN.out, HE.out.1, HE.out.2⟩
          case measure => omega
    · obtain rfl : k = N := by omega
      have hcond : ¬ ((k : Int) ≤ (k : Int) - 1) := by omega
      have HYES : Hid (raiR m ts d = true) := by show raiB m ts (raiN d) = true; rw [HN.out]; exact HRB.out
      have t2 := HT2.out.below HL.out
      have r0 := t2.c0
      have r1 := t2.c1
      have rf0 := t2.frozen 0
      have rf1 := t2.frozen 1
      have x1 := HT.out.c1
      have t3 := (t2.set0 (.int .i64 (rolV d))).set1 (.slice (some ⟨g, 0, none⟩) ts.length c)
      have q0 := t3.c0
      have q1 := t3.c1
      have hz := HL.out.size
      have hsz := HSZ.out
      have HTF := hidP ((HP.out.sm (w' := (wr.setCell ⟨w.heap.size + 1 + 1, 0, none⟩ (.int .i64 (rolV d))).setCell ⟨w.heap.size + 1 + 1, 1, none⟩ (.slice (some ⟨g, 0, none⟩) ts.length c)) ⟨by rw [setCell_size, setCell_size]; exact Nat.le_refl _, fun b hb => (Below.heap_setCell _ ⟨w.heap.size + 1 + 1, 1, none⟩ _ b (fun e => by have e' : b = w.heap.size + 1 + 1 := e; have := (HP.out.bnd b hb).1; omega)).trans (Below.heap_setCell _ ⟨w.heap.size + 1 + 1, 0, none⟩ _ b (fun e => by have e' : b = w.heap.size + 1 + 1 := e; have := (HP.out.bnd b hb).1; omega))⟩).lowm (base' := w.heap.size) (by omega))
      have HLF := hidP (((chain HB.out HL.out).setCell (by show w.heap.size ≤ w.heap.size + 1 + 1; omega) (.int .i64 (rolV d))).setCell (by show w.heap.size ≤ w.heap.size + 1 + 1; omega) (.slice (some ⟨g, 0, none⟩) ts.length c) : Below w.heap.size w ((wr.setCell ⟨w.heap.size + 1 + 1, 0, none⟩ (.int .i64 (rolV d))).setCell ⟨w.heap.size + 1 + 1, 1, none⟩ (.slice (some ⟨g, 0, none⟩) ts.length c)))
      clear t2 t3
      go_wp2_with fail
      refine HLE.out.mono ?_
      rintro e wo ⟨rfl, hwo⟩
      subst hwo
      go_wp2_with fail
      refine bodyPost_ret (v := .tuple #[.agg #[.int .i64 (rolV d), .slice (some ⟨g, 0, none⟩) ts.length c], .bool true]) (by simp [results, Tryz.results110, go_sem, q0, q1]) rfl ?_
      refine ⟨.slice (some ⟨g, 0, none⟩) ts.length c, ?_, ⟨S, vm, vl, ?_⟩, HLF.out⟩
      · unfold raiD; rw [HYES.out]; rfl
      · unfold raiS; rw [HYES.out, HN.out]; exact HTF.out
end Go.Proofs.YtaaagmgglolibaaGreat
namespace Go.Proofs.YtaaagmgglolibaaGreat
open Go Go.RowKit

theorem calm_three18 {P : Program} {md : Region.Mode} {Q : Exit → Act → World → Prop} {ops : Array Oper} {S : World → Prop} {fuel : Nat} {listed : Array Bool} {a : Act} {w : World} {o o2 o3 : Oper} (i j l : Nat) (hr : Region.ready md ops listed = [i, j, l]) (ho : ops[i]? = some o) (ho2 : ops[j]? = some o2) (ho3 : ops[l]? = some o3)
    (h : ∀ K : Act → World → Prop, Shut (∀ a w, S w → (S w → wpAnyH P md ops Q S fuel (listed.setIfInBounds i true) a w) → K a w) → if Region.wanted o (yielded ops a.tmps) = true then Oper.wp P o a w K Q else K (a.put o.dst undef) w)
    (h2 : ∀ K : Act → World → Prop, Shut (∀ a w, S w → (S w → wpAnyH P md ops Q S fuel (listed.setIfInBounds j true) a w) → K a w) → if Region.wanted o2 (yielded ops a.tmps) = true then Oper.wp P o2 a w K Q else K (a.put o2.dst undef) w)
    (h3 : ∀ K : Act → World → Prop, Shut (∀ a w, S w → (S w → wpAnyH P md ops Q S fuel (listed.setIfInBounds l true) a w) → K a w) → if Region.wanted o3 (yielded ops a.tmps) = true then Oper.wp P o3 a w K Q else K (a.put o3.dst undef) w) : wpAnyH P md ops Q S (fuel + 1) listed a w :=
  wpAnyH_ready hr (by simp) (AllReadyH.cons ho h (AllReadyH.cons ho2 h2 (AllReadyH.cons ho3 h3 AllReadyH.nil)))

/-- A look at the throw. -/
theorem iRolledO (o : Bool) (b : Nat) (d : Int) (w : World) (ht : Thr w b o (if o then rolV d else d)) :
    Calls Tryz.prog 103 #[.pointer (some ⟨b, 0, none⟩)] w fun e w' => e = .returned (.int .i64 (rolV d)) ∧ Thr w' b true (rolV d) ∧ Cgd (fun i => i = b) w w' := by
  cases o
  · exact iRolled1 b d w ht
  · exact (iRolled2 b (rolV d) w ht).mono (fun _ _ ⟨e, L⟩ => ⟨e, Thr.sm ht (L.block b (Thr.lt ht)), Cgd.of L⟩)

set_option maxRecDepth 100000 in
set_option maxHeartbeats 16000000 in
theorem iRaisedG (aw at' : Option Addr) (cw ct : Nat) (d : Int) (ts : List Wb) (m : Mk) (w : World) (hv : WbView true w aw ts) (ha : View w at' m.2) (hal : m.2.length ≤ 1048576) (hok : towB d ts = true) (hsm : WbSmall ts) :
    Calls Tryz.prog 14 #[.agg #[.int .i64 d, .slice aw ts.length cw], .agg #[.int .i64 m.1, .slice at' m.2.length ct]] w fun e w' => ∃ vt, e = .returned (.tuple #[.agg #[.int .i64 (raiD m ts d), vt], .bool (raiR m ts d)]) ∧ (∃ S vm vl, TsR true w.heap.size w' vt (raiS m ts d) S vm vl) ∧ Below w.heap.size w w' := by
  obtain ⟨W1, hW1⟩ : ∃ W, w.alloc (.cells #[.int .i64 d, .slice aw ts.length cw] 26) = W := ⟨_, rfl⟩
  obtain ⟨W2, hW2⟩ : ∃ W, W1.alloc (.cells #[.int .i64 m.1, .slice at' m.2.length ct] 29) = W := ⟨_, rfl⟩
  obtain ⟨W, hW⟩ : ∃ W, W2.alloc (.cells #[.int .i64 0, .slice none 0 0] 26) = W := ⟨_, rfl⟩
  have s1 : W1.heap.size = w.heap.size + 1 := by rw [← hW1]; simp
  have s2 : W2.heap.size = w.heap.size + 1 + 1 := by rw [← hW2]; simp [s1]
  have s3 : W.heap.size = w.heap.size + 1 + 1 + 1 := by rw [← hW]; simp [s2]
  have b1 : Below w.heap.size w W1 := by rw [← hW1]; exact (Below.refl _ _).alloc (Nat.le_refl _) _
  have b2 : Below W1.heap.size W1 W2 := by rw [← hW2]; exact (Below.refl _ _).alloc (Nat.le_refl _) _
  have b3 : Below W2.heap.size W2 W := by rw [← hW]; exact (Below.refl _ _).alloc (Nat.le_refl _) _
  have t0 : Two W w.heap.size (.int .i64 d) (.slice aw ts.length cw) 26 := by
    have : Two W1 w.heap.size (.int .i64 d) (.slice aw ts.length cw) 26 := by rw [← hW1]; exact Two.new w _ _ _
    exact (this.below b2).below b3
  have t1 : Two W (w.heap.size + 1) (.int .i64 m.1) (.slice at' m.2.length ct) 29 := by
    have : Two W2 (w.heap.size + 1) (.int .i64 m.1) (.slice at' m.2.length ct) 29 := by rw [← hW2, ← s1]; exact Two.new W1 _ _ _
    exact this.below b3
  have t2 : Two W (w.heap.size + 1 + 1) (.int .i64 0) (.slice none 0 0) 26 := by rw [← hW, ← s2]; exact Two.new W2 _ _ _
  have hB := chain (chain b1 b2) b3
  have HB := hidP hB
  have HV := hidP (fun W' (L : Below W.heap.size W W') => hv.next (chain hB L))
  have HM := hidP (fun W' (L : Below W.heap.size W W') => (ha.below (Nat.le_refl _) hB).below (Nat.le_refl _) L)
  have HT0 := hidP t0
  have HT1 := hidP t1
  have HT2 := hidP t2
  have HSZ := hidP s3
  have HOK := hidP (And.intro hok (And.intro hsm hal))
  obtain ⟨hlv, hn1, hn4⟩ := rai_lev (tow_in hok)
  have H4 : Hid (ts.length = 4) := (tow_at hok).1
  have HLV := hidP hlv
  have HCT := hidP (fun W' (L : Below W.heap.size W W') => iOwnTowerR true aw cw d ts W' (hv.next (chain hB L)) hok hsm)
  have HOKT := hidP (iTowerOk aw cw d ts W (hv.next hB) hsm)
  rw [hok] at HOKT
  have k0 := t0.c0
  have k1 := t0.c1
  have HWW : Hid (((w.alloc (.cells #[.int .i64 d, .slice aw ts.length cw] 26)).alloc (.cells #[.int .i64 m.1, .slice at' m.2.length ct] 29)).alloc (.cells #[.int .i64 0, .slice none 0 0] 26) = W) := by show _ = _; rw [hW1, hW2, hW]
  obtain ⟨N, hN⟩ : ∃ N, raiN d = N := ⟨_, rfl⟩
  have HN := hidP hN
  rw [hN] at hlv hn1 hn4 HLV
  clear hv ha hok hsm hal hB b1 b2 b3 t0 t1 t2 s1 s2 s3 hW hW1 hW2 hN hlv
  go_enter Tryz.func14, Tryz.ntmps14
  go_upto_region 1 with fail
  rw [HWW.out]
  clear HWW
  go_wp2_with fail
  refine HOKT.out.mono ?_
  rintro e W0 ⟨rfl, L0⟩
  clear k0 k1 HOKT
  go_upto_region 3 with fail
  go_cut [6, 7] from 11 to 20 (fun v b wx => ∃ Rb Tb g c S0 vm0 vl0, v = .pointer (some ⟨Rb, 0, none⟩) ∧ b = .pointer (some ⟨Tb, 0, none⟩) ∧ Two wx Rb (.int .i64 d) (.slice (some ⟨g, 0, none⟩) ts.length c) 26 ∧ Thr wx Tb false d ∧ TsR true W.heap.size wx (.slice (some ⟨g, 0, none⟩) ts.length c) ts S0 vm0 vl0 ∧ (∀ b, FtR (.slice (some ⟨g, 0, none⟩) ts.length c) ts.length S0 b → b ≠ Rb ∧ b ≠ Tb) ∧ Rb ≠ Tb ∧ W.heap.size ≤ Rb ∧ W.heap.size ≤ Tb ∧ Tb < wx.heap.size ∧ Rb < wx.heap.size ∧ Below W.heap.size W wx)
  case first =>
    have BLo := hidP (L0.drew)
    have HSo : Hid (∀ W', Below W.heap.size W W' → W'.cell? ⟨w.heap.size, 0, none⟩ = some (.int .i64 d) ∧ W'.cell? ⟨w.heap.size, 1, none⟩ = some (.slice aw ts.length cw)) := fun W' L' => ⟨(HT0.out.below L').c0, (HT0.out.below L').c1⟩
    refine wp_region_takes (S := fun W' => Below W.heap.size W W') (fuel := 5) [0, 2, 3, 4] (by kernel_rfl) (by kernel_rfl) (by kernel_rfl) (by kernel_rfl) BLo.out (fun _ => ?_)
    iterate 4
      refine ⟨_, rfl, ?_⟩
      apply Exists.intro
      refine ⟨Or.inl ⟨by rfl, fun w' hw' => ?_⟩, ?_⟩
      · obtain ⟨e1, e2⟩ := HSo.out w' hw'
        first
        | (go_simp; done)
        | (go_simp; with_reducible rfl)
      simp only [Act.put, List.getElem_toArray, List.getElem_cons_succ, List.getElem_cons_zero, List.setIfInBounds_toArray, List.set_cons_zero, List.set_cons_succ]
    obtain ⟨wv0, hv0⟩ : ∃ w0, W0.drew = w0 := ⟨_, rfl⟩
    have Bwv0 : Below W.heap.size W wv0 := by rw [← hv0]; exact BLo.out
    have swv0 : W.heap.size ≤ wv0.heap.size := Bwv0.size
    rw [hv0]
    clear hv0
    refine calm_three18 1 5 6 (by kernel_rfl) rfl rfl rfl (fun K hK => ?_) (fun K hK => ?_) (fun K hK => ?_)
    · go_simp
      refine (HCT.out wv0 Bwv0).mono ?_
      rintro e u1 ⟨vt, rfl, ⟨S0, vm0, vl0, ht⟩, Lu1⟩
      obtain ⟨g, c, rfl, hg1, hg2, hgc, -⟩ := ht.nonil (by have := H4.out; omega)
      have hft : ∀ b, FtR (.slice (some ⟨g, 0, none⟩) ts.length c) ts.length S0 b → wv0.heap.size ≤ b ∧ b < u1.heap.size := fun b hb => ht.bnd b hb
      have su1 := Lu1.size
      have Bu1 := chain Bwv0 Lu1
      refine hK.out _ _ Bu1 (fun _ => ?_)
      clear hK K
      refine calm_two14 5 6 (by kernel_rfl) rfl rfl (fun K hK => ?_) (fun K hK => ?_)
      · go_simp
        obtain ⟨u2, hu2⟩ : ∃ w0, u1.alloc (.cells #[.int .u32 0, .int .i32 0, .int .u32 0, .int .i64 d] 151) = w0 := ⟨_, rfl⟩
        have Lu2 : Below u1.heap.size u1 u2 := by rw [← hu2]; exact (Below.refl _ _).alloc (Nat.le_refl _) _
        obtain ⟨Tb, hTb⟩ : ∃ q, u1.heap.size = q := ⟨_, rfl⟩
        have hT : Thr u2 Tb false d := by rw [← hu2, ← hTb]; exact heap_alloc_new u1 _
        have sT := hT.lt
        first | rw [hu2] | skip
        first | rw [hTb] | skip
        have su2 := Lu2.size
        replace ht := ht.next Lu2
        have Bu2 := chain Bu1 Lu2
        refine hK.out _ _ Bu2 (fun _ => ?_)
        clear hK K hu2
        refine calm_one 6 (by kernel_rfl) rfl (fun K hK => ?_)
        · go_simp
          obtain ⟨u3, hu3⟩ : ∃ w0, u2.alloc (.cells #[.int .i64 0, .slice none 0 0] 26) = w0 := ⟨_, rfl⟩
          have Lu3 : Below u2.heap.size u2 u3 := by rw [← hu3]; exact (Below.refl _ _).alloc (Nat.le_refl _) _
          obtain ⟨Rb, hRb⟩ : ∃ q, u2.heap.size = q := ⟨_, rfl⟩
          have hR : Two u3 Rb (.int .i64 0) (.slice none 0 0) 26 := by rw [← hu3, ← hRb]; exact Two.new u2 _ _ _
          have sR := hR.lt
          first | rw [hu3] | skip
          first | rw [hRb] | skip
          have su3 := Lu3.size
          replace ht := ht.next Lu3
          replace hT := hT.sm (Lu3.block _ hT.lt)
          have Bu3 := chain Bu2 Lu3
          refine hK.out _ _ Bu3 (fun _ => ?_)
          clear hK K hu3
          have x0 := hR.c0
          have x1 := hR.c1
          have xf0 := hR.frozen 0
          have xf1 := hR.frozen 1
          refine calm_one 7 (by kernel_rfl) rfl (fun K hK => ?_)
          · go_simp
            obtain ⟨u4, hu4⟩ : ∃ wz, (u3.setCell ⟨Rb, 0, none⟩ (.int .i64 d)).setCell ⟨Rb, 1, none⟩ (.slice (some ⟨g, 0, none⟩) ts.length c) = wz := ⟨_, rfl⟩
            have far : ∀ b, b ≠ Rb → u4.heap[b]? = u3.heap[b]? := fun b hb => by rw [← hu4]; exact (Below.heap_setCell _ ⟨Rb, 1, none⟩ _ b (fun e => hb e)).trans (Below.heap_setCell _ ⟨Rb, 0, none⟩ _ b (fun e => hb e))
            have su4 : u3.heap.size = u4.heap.size := by rw [← hu4, setCell_size, setCell_size]
            replace ht := ht.sm (w' := u4) ⟨by omega, fun b hb => far b (by have := hft b hb; omega)⟩
            have Bu4 : Below W.heap.size W u4 := by rw [← hu4]; exact (Bu3.setCell (by show W.heap.size ≤ Rb; omega) _).setCell (by show W.heap.size ≤ Rb; omega) _
            replace hR : Two u4 Rb (.int .i64 d) (.slice (some ⟨g, 0, none⟩) ts.length c) 26 := by rw [← hu4]; exact (hR.set0 _).set1 _
            first | rw [hu4] | skip
            replace hT := hT.sm (w' := u4) (far Tb (by omega))
            refine hK.out _ _ Bu4 (fun _ => ?_)
            clear hK K hu4 far x0 x1 xf0 xf1
            refine calm_rest [8] rfl (by kernel_rfl) (by kernel_rfl) (by kernel_rfl) Bu4 ?_
            iterate 1
              refine ⟨_, rfl, ?_⟩
              apply Exists.intro
              refine ⟨Or.inl ⟨by rfl, fun w' hw' => ?_⟩, ?_⟩
              · skip
                first
                | (go_simp; done)
                | (go_simp; with_reducible rfl)
              simp only [Act.put, List.getElem_toArray, List.getElem_cons_succ, List.getElem_cons_zero, List.setIfInBounds_toArray, List.set_cons_zero, List.set_cons_succ]
            refine NoPanic.normal (NoPanic.normal ?_)
            have hTl := hT.lt
            have hRl := hR.lt
            go_wp2_with fail
            go_meet
            exact ⟨Rb, Tb, g, c, S0, vm0, vl0, rfl, rfl, hR, hT, ht.lowm (by omega), fun b hb => by have := hft b hb; omega, by omega, by omega, by omega, by omega, by omega, Bu4⟩
      · go_simp
        obtain ⟨u2, hu2⟩ : ∃ w0, u1.alloc (.cells #[.int .i64 0, .slice none 0 0] 26) = w0 := ⟨_, rfl⟩
        have Lu2 : Below u1.heap.size u1 u2 := by rw [← hu2]; exact (Below.refl _ _).alloc (Nat.le_refl _) _
        obtain ⟨Rb, hRb⟩ : ∃ q, u1.heap.size = q := ⟨_, rfl⟩
        have hR : Two u2 Rb (.int .i64 0) (.slice none 0 0) 26 := by rw [← hu2, ← hRb]; exact Two.new u1 _ _ _
        have sR := hR.lt
        first | rw [hu2] | skip
        first | rw [hRb] | skip
        have su2 := Lu2.size
        replace ht := ht.next Lu2
        have Bu2 := chain Bu1 Lu2
        refine hK.out _ _ Bu2 (fun _ => ?_)
        clear hK K hu2
        have x0 := hR.c0
        have x1 := hR.c1
        have xf0 := hR.frozen 0
        have xf1 := hR.frozen 1
        refine calm_two14 5 7 (by kernel_rfl) rfl rfl (fun K hK => ?_) (fun K hK => ?_)
        · go_simp
          obtain ⟨u3, hu3⟩ : ∃ w0, u2.alloc (.cells #[.int .u32 0, .int .i32 0, .int .u32 0, .int .i64 d] 151) = w0 := ⟨_, rfl⟩
          have Lu3 : Below u2.heap.size u2 u3 := by rw [← hu3]; exact (Below.refl _ _).alloc (Nat.le_refl _) _
          obtain ⟨Tb, hTb⟩ : ∃ q, u2.heap.size = q := ⟨_, rfl⟩
          have hT : Thr u3 Tb false d := by rw [← hu3, ← hTb]; exact heap_alloc_new u2 _
          have sT := hT.lt
          first | rw [hu3] | skip
          first | rw [hTb] | skip
          have su3 := Lu3.size
          replace ht := ht.next Lu3
          replace hR := hR.below Lu3
          have Bu3 := chain Bu2 Lu3
          refine hK.out _ _ Bu3 (fun _ => ?_)
          clear hK K hu3 x0 x1 xf0 xf1
          have x0 := hR.c0
          have x1 := hR.c1
          have xf0 := hR.frozen 0
          have xf1 := hR.frozen 1
          refine calm_one 7 (by kernel_rfl) rfl (fun K hK => ?_)
          · go_simp
            obtain ⟨u4, hu4⟩ : ∃ wz, (u3.setCell ⟨Rb, 0, none⟩ (.int .i64 d)).setCell ⟨Rb, 1, none⟩ (.slice (some ⟨g, 0, none⟩) ts.length c) = wz := ⟨_, rfl⟩
            have far : ∀ b, b ≠ Rb → u4.heap[b]? = u3.heap[b]? := fun b hb => by rw [← hu4]; exact (Below.heap_setCell _ ⟨Rb, 1, none⟩ _ b (fun e => hb e)).trans (Below.heap_setCell _ ⟨Rb, 0, none⟩ _ b (fun e => hb e))
            have su4 : u3.heap.size = u4.heap.size := by rw [← hu4, setCell_size, setCell_size]
            replace ht := ht.sm (w' := u4) ⟨by omega, fun b hb => far b (by have := hft b hb; omega)⟩
            have Bu4 : Below W.heap.size W u4 := by rw [← hu4]; exact (Bu3.setCell (by show W.heap.size ≤ Rb; omega) _).setCell (by show W.heap.size ≤ Rb; omega) _
            replace hR : Two u4 Rb (.int .i64 d) (.slice (some ⟨g, 0, none⟩) ts.length c) 26 := by rw [← hu4]; exact (hR.set0 _).set1 _
            first | rw [hu4] | skip
            replace hT := hT.sm (w' := u4) (far Tb (by omega))
            refine hK.out _ _ Bu4 (fun _ => ?_)
            clear hK K hu4 far x0 x1 xf0 xf1
            refine calm_rest [8] rfl (by kernel_rfl) (by kernel_rfl) (by kernel_rfl) Bu4 ?_
            iterate 1
              refine ⟨_, rfl, ?_⟩
              apply Exists.intro
              refine ⟨Or.inl ⟨by rfl, fun w' hw' => ?_⟩, ?_⟩
              · skip
                first
                | (go_simp; done)
                | (go_simp; with_reducible rfl)
              simp only [Act.put, List.getElem_toArray, List.getElem_cons_succ, List.getElem_cons_zero, List.setIfInBounds_toArray, List.set_cons_zero, List.set_cons_succ]
            refine NoPanic.normal (NoPanic.normal ?_)
            have hTl := hT.lt
            have hRl := hR.lt
            go_wp2_with fail
            go_meet
            exact ⟨Rb, Tb, g, c, S0, vm0, vl0, rfl, rfl, hR, hT, ht.lowm (by omega), fun b hb => by have := hft b hb; omega, by omega, by omega, by omega, by omega, by omega, Bu4⟩
        · go_simp
          obtain ⟨u3, hu3⟩ : ∃ wz, (u2.setCell ⟨Rb, 0, none⟩ (.int .i64 d)).setCell ⟨Rb, 1, none⟩ (.slice (some ⟨g, 0, none⟩) ts.length c) = wz := ⟨_, rfl⟩
          have far : ∀ b, b ≠ Rb → u3.heap[b]? = u2.heap[b]? := fun b hb => by rw [← hu3]; exact (Below.heap_setCell _ ⟨Rb, 1, none⟩ _ b (fun e => hb e)).trans (Below.heap_setCell _ ⟨Rb, 0, none⟩ _ b (fun e => hb e))
          have su3 : u2.heap.size = u3.heap.size := by rw [← hu3, setCell_size, setCell_size]
          replace ht := ht.sm (w' := u3) ⟨by omega, fun b hb => far b (by have := hft b hb; omega)⟩
          have Bu3 : Below W.heap.size W u3 := by rw [← hu3]; exact (Bu2.setCell (by show W.heap.size ≤ Rb; omega) _).setCell (by show W.heap.size ≤ Rb; omega) _
          replace hR : Two u3 Rb (.int .i64 d) (.slice (some ⟨g, 0, none⟩) ts.length c) 26 := by rw [← hu3]; exact (hR.set0 _).set1 _
          first | rw [hu3] | skip
          refine hK.out _ _ Bu3 (fun _ => ?_)
          clear hK K hu3 far x0 x1 xf0 xf1
          refine calm_one 5 (by kernel_rfl) rfl (fun K hK => ?_)
          · go_simp
            obtain ⟨u4, hu4⟩ : ∃ w0, u3.alloc (.cells #[.int .u32 0, .int .i32 0, .int .u32 0, .int .i64 d] 151) = w0 := ⟨_, rfl⟩
            have Lu4 : Below u3.heap.size u3 u4 := by rw [← hu4]; exact (Below.refl _ _).alloc (Nat.le_refl _) _
            obtain ⟨Tb, hTb⟩ : ∃ q, u3.heap.size = q := ⟨_, rfl⟩
            have hT : Thr u4 Tb false d := by rw [← hu4, ← hTb]; exact heap_alloc_new u3 _
            have sT := hT.lt
            first | rw [hu4] | skip
            first | rw [hTb] | skip
            have su4 := Lu4.size
            replace ht := ht.next Lu4
            replace hR := hR.below Lu4
            have Bu4 := chain Bu3 Lu4
            refine hK.out _ _ Bu4 (fun _ => ?_)
            clear hK K hu4
            refine calm_rest [8] rfl (by kernel_rfl) (by kernel_rfl) (by kernel_rfl) Bu4 ?_
            iterate 1
              refine ⟨_, rfl, ?_⟩
              apply Exists.intro
              refine ⟨Or.inl ⟨by rfl, fun w' hw' => ?_⟩, ?_⟩
              · skip
                first
                | (go_simp; done)
                | (go_simp; with_reducible rfl)
              simp only [Act.put, List.getElem_toArray, List.getElem_cons_succ, List.getElem_cons_zero, List.setIfInBounds_toArray, List.set_cons_zero, List.set_cons_succ]
            refine NoPanic.normal (NoPanic.normal ?_)
            have hTl := hT.lt
            have hRl := hR.lt
            go_wp2_with fail
            go_meet
            exact ⟨Rb, Tb, g, c, S0, vm0, vl0, rfl, rfl, hR, hT, ht.lowm (by omega), fun b hb => by have := hft b hb; omega, by omega, by omega, by omega, by omega, by omega, Bu4⟩
    · go_simp
      obtain ⟨u1, hu1⟩ : ∃ w0, wv0.alloc (.cells #[.int .u32 0, .int .i32 0, .int .u32 0, .int .i64 d] 151) = w0 := ⟨_, rfl⟩
      have Lu1 : Below wv0.heap.size wv0 u1 := by rw [← hu1]; exact (Below.refl _ _).alloc (Nat.le_refl _) _
      obtain ⟨Tb, hTb⟩ : ∃ q, wv0.heap.size = q := ⟨_, rfl⟩
      have hT : Thr u1 Tb false d := by rw [← hu1, ← hTb]; exact heap_alloc_new wv0 _
      have sT := hT.lt
      first | rw [hu1] | skip
      first | rw [hTb] | skip
      have su1 := Lu1.size
      have Bu1 := chain Bwv0 Lu1
      refine hK.out _ _ Bu1 (fun _ => ?_)
      clear hK K hu1
      refine calm_two14 1 6 (by kernel_rfl) rfl rfl (fun K hK => ?_) (fun K hK => ?_)
      · go_simp
        refine (HCT.out u1 Bu1).mono ?_
        rintro e u2 ⟨vt, rfl, ⟨S0, vm0, vl0, ht⟩, Lu2⟩
        obtain ⟨g, c, rfl, hg1, hg2, hgc, -⟩ := ht.nonil (by have := H4.out; omega)
        have hft : ∀ b, FtR (.slice (some ⟨g, 0, none⟩) ts.length c) ts.length S0 b → u1.heap.size ≤ b ∧ b < u2.heap.size := fun b hb => ht.bnd b hb
        have su2 := Lu2.size
        replace hT := hT.sm (Lu2.block _ hT.lt)
        have Bu2 := chain Bu1 Lu2
        refine hK.out _ _ Bu2 (fun _ => ?_)
        clear hK K
        refine calm_one 6 (by kernel_rfl) rfl (fun K hK => ?_)
        · go_simp
          obtain ⟨u3, hu3⟩ : ∃ w0, u2.alloc (.cells #[.int .i64 0, .slice none 0 0] 26) = w0 := ⟨_, rfl⟩
          have Lu3 : Below u2.heap.size u2 u3 := by rw [← hu3]; exact (Below.refl _ _).alloc (Nat.le_refl _) _
          obtain ⟨Rb, hRb⟩ : ∃ q, u2.heap.size = q := ⟨_, rfl⟩
          have hR : Two u3 Rb (.int .i64 0) (.slice none 0 0) 26 := by rw [← hu3, ← hRb]; exact Two.new u2 _ _ _
          have sR := hR.lt
          first | rw [hu3] | skip
          first | rw [hRb] | skip
          have su3 := Lu3.size
          replace ht := ht.next Lu3
          replace hT := hT.sm (Lu3.block _ hT.lt)
          have Bu3 := chain Bu2 Lu3
          refine hK.out _ _ Bu3 (fun _ => ?_)
          clear hK K hu3
          have x0 := hR.c0
          have x1 := hR.c1
          have xf0 := hR.frozen 0
          have xf1 := hR.frozen 1
          refine calm_one 7 (by kernel_rfl) rfl (fun K hK => ?_)
          · go_simp
            obtain ⟨u4, hu4⟩ : ∃ wz, (u3.setCell ⟨Rb, 0, none⟩ (.int .i64 d)).setCell ⟨Rb, 1, none⟩ (.slice (some ⟨g, 0, none⟩) ts.length c) = wz := ⟨_, rfl⟩
            have far : ∀ b, b ≠ Rb → u4.heap[b]? = u3.heap[b]? := fun b hb => by rw [← hu4]; exact (Below.heap_setCell _ ⟨Rb, 1, none⟩ _ b (fun e => hb e)).trans (Below.heap_setCell _ ⟨Rb, 0, none⟩ _ b (fun e => hb e))
            have su4 : u3.heap.size = u4.heap.size := by rw [← hu4, setCell_size, setCell_size]
            replace ht := ht.sm (w' := u4) ⟨by omega, fun b hb => far b (by have := hft b hb; omega)⟩
            have Bu4 : Below W.heap.size W u4 := by rw [← hu4]; exact (Bu3.setCell (by show W.heap.size ≤ Rb; omega) _).setCell (by show W.heap.size ≤ Rb; omega) _
            replace hR : Two u4 Rb (.int .i64 d) (.slice (some ⟨g, 0, none⟩) ts.length c) 26 := by rw [← hu4]; exact (hR.set0 _).set1 _
            first | rw [hu4] | skip
            replace hT := hT.sm (w' := u4) (far Tb (by omega))
            refine hK.out _ _ Bu4 (fun _ => ?_)
            clear hK K hu4 far x0 x1 xf0 xf1
            refine calm_rest [8] rfl (by kernel_rfl) (by kernel_rfl) (by kernel_rfl) Bu4 ?_
            iterate 1
              refine ⟨_, rfl, ?_⟩
              apply Exists.intro
              refine ⟨Or.inl ⟨by rfl, fun w' hw' => ?_⟩, ?_⟩
              · skip
                first
                | (go_simp; done)
                | (go_simp; with_reducible rfl)
              simp only [Act.put, List.getElem_toArray, List.getElem_cons_succ, List.getElem_cons_zero, List.setIfInBounds_toArray, List.set_cons_zero, List.set_cons_succ]
            refine NoPanic.normal (NoPanic.normal ?_)
            have hTl := hT.lt
            have hRl := hR.lt
            go_wp2_with fail
            go_meet
            exact ⟨Rb, Tb, g, c, S0, vm0, vl0, rfl, rfl, hR, hT, ht.lowm (by omega), fun b hb => by have := hft b hb; omega, by omega, by omega, by omega, by omega, by omega, Bu4⟩
      · go_simp
        obtain ⟨u2, hu2⟩ : ∃ w0, u1.alloc (.cells #[.int .i64 0, .slice none 0 0] 26) = w0 := ⟨_, rfl⟩
        have Lu2 : Below u1.heap.size u1 u2 := by rw [← hu2]; exact (Below.refl _ _).alloc (Nat.le_refl _) _
        obtain ⟨Rb, hRb⟩ : ∃ q, u1.heap.size = q := ⟨_, rfl⟩
        have hR : Two u2 Rb (.int .i64 0) (.slice none 0 0) 26 := by rw [← hu2, ← hRb]; exact Two.new u1 _ _ _
        have sR := hR.lt
        first | rw [hu2] | skip
        first | rw [hRb] | skip
        have su2 := Lu2.size
        replace hT := hT.sm (Lu2.block _ hT.lt)
        have Bu2 := chain Bu1 Lu2
        refine hK.out _ _ Bu2 (fun _ => ?_)
        clear hK K hu2
        refine calm_one 1 (by kernel_rfl) rfl (fun K hK => ?_)
        · go_simp
          refine (HCT.out u2 Bu2).mono ?_
          rintro e u3 ⟨vt, rfl, ⟨S0, vm0, vl0, ht⟩, Lu3⟩
          obtain ⟨g, c, rfl, hg1, hg2, hgc, -⟩ := ht.nonil (by have := H4.out; omega)
          have hft : ∀ b, FtR (.slice (some ⟨g, 0, none⟩) ts.length c) ts.length S0 b → u2.heap.size ≤ b ∧ b < u3.heap.size := fun b hb => ht.bnd b hb
          have su3 := Lu3.size
          replace hT := hT.sm (Lu3.block _ hT.lt)
          replace hR := hR.below Lu3
          have Bu3 := chain Bu2 Lu3
          refine hK.out _ _ Bu3 (fun _ => ?_)
          clear hK K
          have x0 := hR.c0
          have x1 := hR.c1
          have xf0 := hR.frozen 0
          have xf1 := hR.frozen 1
          refine calm_one 7 (by kernel_rfl) rfl (fun K hK => ?_)
          · go_simp
            obtain ⟨u4, hu4⟩ : ∃ wz, (u3.setCell ⟨Rb, 0, none⟩ (.int .i64 d)).setCell ⟨Rb, 1, none⟩ (.slice (some ⟨g, 0, none⟩) ts.length c) = wz := ⟨_, rfl⟩
            have far : ∀ b, b ≠ Rb → u4.heap[b]? = u3.heap[b]? := fun b hb => by rw [← hu4]; exact (Below.heap_setCell _ ⟨Rb, 1, none⟩ _ b (fun e => hb e)).trans (Below.heap_setCell _ ⟨Rb, 0, none⟩ _ b (fun e => hb e))
            have su4 : u3.heap.size = u4.heap.size := by rw [← hu4, setCell_size, setCell_size]
            replace ht := ht.sm (w' := u4) ⟨by omega, fun b hb => far b (by have := hft b hb; omega)⟩
            have Bu4 : Below W.heap.size W u4 := by rw [← hu4]; exact (Bu3.setCell (by show W.heap.size ≤ Rb; omega) _).setCell (by show W.heap.size ≤ Rb; omega) _
            replace hR : Two u4 Rb (.int .i64 d) (.slice (some ⟨g, 0, none⟩) ts.length c) 26 := by rw [← hu4]; exact (hR.set0 _).set1 _
            first | rw [hu4] | skip
            replace hT := hT.sm (w' := u4) (far Tb (by omega))
            refine hK.out _ _ Bu4 (fun _ => ?_)
            clear hK K hu4 far x0 x1 xf0 xf1
            refine calm_rest [8] rfl (by kernel_rfl) (by kernel_rfl) (by kernel_rfl) Bu4 ?_
            iterate 1
              refine ⟨_, rfl, ?_⟩
              apply Exists.intro
              refine ⟨Or.inl ⟨by rfl, fun w' hw' => ?_⟩, ?_⟩
              · skip
                first
                | (go_simp; done)
                | (go_simp; with_reducible rfl)
              simp only [Act.put, List.getElem_toArray, List.getElem_cons_succ, List.getElem_cons_zero, List.setIfInBounds_toArray, List.set_cons_zero, List.set_cons_succ]
            refine NoPanic.normal (NoPanic.normal ?_)
            have hTl := hT.lt
            have hRl := hR.lt
            go_wp2_with fail
            go_meet
            exact ⟨Rb, Tb, g, c, S0, vm0, vl0, rfl, rfl, hR, hT, ht.lowm (by omega), fun b hb => by have := hft b hb; omega, by omega, by omega, by omega, by omega, by omega, Bu4⟩
    · go_simp
      obtain ⟨u1, hu1⟩ : ∃ w0, wv0.alloc (.cells #[.int .i64 0, .slice none 0 0] 26) = w0 := ⟨_, rfl⟩
      have Lu1 : Below wv0.heap.size wv0 u1 := by rw [← hu1]; exact (Below.refl _ _).alloc (Nat.le_refl _) _
      obtain ⟨Rb, hRb⟩ : ∃ q, wv0.heap.size = q := ⟨_, rfl⟩
      have hR : Two u1 Rb (.int .i64 0) (.slice none 0 0) 26 := by rw [← hu1, ← hRb]; exact Two.new wv0 _ _ _
      have sR := hR.lt
      first | rw [hu1] | skip
      first | rw [hRb] | skip
      have su1 := Lu1.size
      have Bu1 := chain Bwv0 Lu1
      refine hK.out _ _ Bu1 (fun _ => ?_)
      clear hK K hu1
      refine calm_two14 1 5 (by kernel_rfl) rfl rfl (fun K hK => ?_) (fun K hK => ?_)
      · go_simp
        refine (HCT.out u1 Bu1).mono ?_
        rintro e u2 ⟨vt, rfl, ⟨S0, vm0, vl0, ht⟩, Lu2⟩
        obtain ⟨g, c, rfl, hg1, hg2, hgc, -⟩ := ht.nonil (by have := H4.out; omega)
        have hft : ∀ b, FtR (.slice (some ⟨g, 0, none⟩) ts.length c) ts.length S0 b → u1.heap.size ≤ b ∧ b < u2.heap.size := fun b hb => ht.bnd b hb
        have su2 := Lu2.size
        replace hR := hR.below Lu2
        have Bu2 := chain Bu1 Lu2
        refine hK.out _ _ Bu2 (fun _ => ?_)
        clear hK K
        have x0 := hR.c0
        have x1 := hR.c1
        have xf0 := hR.frozen 0
        have xf1 := hR.frozen 1
        refine calm_two14 5 7 (by kernel_rfl) rfl rfl (fun K hK => ?_) (fun K hK => ?_)
        · go_simp
          obtain ⟨u3, hu3⟩ : ∃ w0, u2.alloc (.cells #[.int .u32 0, .int .i32 0, .int .u32 0, .int .i64 d] 151) = w0 := ⟨_, rfl⟩
          have Lu3 : Below u2.heap.size u2 u3 := by rw [← hu3]; exact (Below.refl _ _).alloc (Nat.le_refl _) _
          obtain ⟨Tb, hTb⟩ : ∃ q, u2.heap.size = q := ⟨_, rfl⟩
          have hT : Thr u3 Tb false d := by rw [← hu3, ← hTb]; exact heap_alloc_new u2 _
          have sT := hT.lt
          first | rw [hu3] | skip
          first | rw [hTb] | skip
          have su3 := Lu3.size
          replace ht := ht.next Lu3
          replace hR := hR.below Lu3
          have Bu3 := chain Bu2 Lu3
          refine hK.out _ _ Bu3 (fun _ => ?_)
          clear hK K hu3 x0 x1 xf0 xf1
          have x0 := hR.c0
          have x1 := hR.c1
          have xf0 := hR.frozen 0
          have xf1 := hR.frozen 1
          refine calm_one 7 (by kernel_rfl) rfl (fun K hK => ?_)
          · go_simp
            obtain ⟨u4, hu4⟩ : ∃ wz, (u3.setCell ⟨Rb, 0, none⟩ (.int .i64 d)).setCell ⟨Rb, 1, none⟩ (.slice (some ⟨g, 0, none⟩) ts.length c) = wz := ⟨_, rfl⟩
            have far : ∀ b, b ≠ Rb → u4.heap[b]? = u3.heap[b]? := fun b hb => by rw [← hu4]; exact (Below.heap_setCell _ ⟨Rb, 1, none⟩ _ b (fun e => hb e)).trans (Below.heap_setCell _ ⟨Rb, 0, none⟩ _ b (fun e => hb e))
            have su4 : u3.heap.size = u4.heap.size := by rw [← hu4, setCell_size, setCell_size]
            replace ht := ht.sm (w' := u4) ⟨by omega, fun b hb => far b (by have := hft b hb; omega)⟩
            have Bu4 : Below W.heap.size W u4 := by rw [← hu4]; exact (Bu3.setCell (by show W.heap.size ≤ Rb; omega) _).setCell (by show W.heap.size ≤ Rb; omega) _
            replace hR : Two u4 Rb (.int .i64 d) (.slice (some ⟨g, 0, none⟩) ts.length c) 26 := by rw [← hu4]; exact (hR.set0 _).set1 _
            first | rw [hu4] | skip
            replace hT := hT.sm (w' := u4) (far Tb (by omega))
            refine hK.out _ _ Bu4 (fun _ => ?_)
            clear hK K hu4 far x0 x1 xf0 xf1
            refine calm_rest [8] rfl (by kernel_rfl) (by kernel_rfl) (by kernel_rfl) Bu4 ?_
            iterate 1
              refine ⟨_, rfl, ?_⟩
              apply Exists.intro
              refine ⟨Or.inl ⟨by rfl, fun w' hw' => ?_⟩, ?_⟩
              · skip
                first
                | (go_simp; done)
                | (go_simp; with_reducible rfl)
              simp only [Act.put, List.getElem_toArray, List.getElem_cons_succ, List.getElem_cons_zero, List.setIfInBounds_toArray, List.set_cons_zero, List.set_cons_succ]
            refine NoPanic.normal (NoPanic.normal ?_)
            have hTl := hT.lt
            have hRl := hR.lt
            go_wp2_with fail
            go_meet
            exact ⟨Rb, Tb, g, c, S0, vm0, vl0, rfl, rfl, hR, hT, ht.lowm (by omega), fun b hb => by have := hft b hb; omega, by omega, by omega, by omega, by omega, by omega, Bu4⟩
        · go_simp
          obtain ⟨u3, hu3⟩ : ∃ wz, (u2.setCell ⟨Rb, 0, none⟩ (.int .i64 d)).setCell ⟨Rb, 1, none⟩ (.slice (some ⟨g, 0, none⟩) ts.length c) = wz := ⟨_, rfl⟩
          have far : ∀ b, b ≠ Rb → u3.heap[b]? = u2.heap[b]? := fun b hb => by rw [← hu3]; exact (Below.heap_setCell _ ⟨Rb, 1, none⟩ _ b (fun e => hb e)).trans (Below.heap_setCell _ ⟨Rb, 0, none⟩ _ b (fun e => hb e))
          have su3 : u2.heap.size = u3.heap.size := by rw [← hu3, setCell_size, setCell_size]
          replace ht := ht.sm (w' := u3) ⟨by omega, fun b hb => far b (by have := hft b hb; omega)⟩
          have Bu3 : Below W.heap.size W u3 := by rw [← hu3]; exact (Bu2.setCell (by show W.heap.size ≤ Rb; omega) _).setCell (by show W.heap.size ≤ Rb; omega) _
          replace hR : Two u3 Rb (.int .i64 d) (.slice (some ⟨g, 0, none⟩) ts.length c) 26 := by rw [← hu3]; exact (hR.set0 _).set1 _
          first | rw [hu3] | skip
          refine hK.out _ _ Bu3 (fun _ => ?_)
          clear hK K hu3 far x0 x1 xf0 xf1
          refine calm_one 5 (by kernel_rfl) rfl (fun K hK => ?_)
          · go_simp
            obtain ⟨u4, hu4⟩ : ∃ w0, u3.alloc (.cells #[.int .u32 0, .int .i32 0, .int .u32 0, .int .i64 d] 151) = w0 := ⟨_, rfl⟩
            have Lu4 : Below u3.heap.size u3 u4 := by rw [← hu4]; exact (Below.refl _ _).alloc (Nat.le_refl _) _
            obtain ⟨Tb, hTb⟩ : ∃ q, u3.heap.size = q := ⟨_, rfl⟩
            have hT : Thr u4 Tb false d := by rw [← hu4, ← hTb]; exact heap_alloc_new u3 _
            have sT := hT.lt
            first | rw [hu4] | skip
            first | rw [hTb] | skip
            have su4 := Lu4.size
            replace ht := ht.next Lu4
            replace hR := hR.below Lu4
            have Bu4 := chain Bu3 Lu4
            refine hK.out _ _ Bu4 (fun _ => ?_)
            clear hK K hu4
            refine calm_rest [8] rfl (by kernel_rfl) (by kernel_rfl) (by kernel_rfl) Bu4 ?_
            iterate 1
              refine ⟨_, rfl, ?_⟩
              apply Exists.intro
              refine ⟨Or.inl ⟨by rfl, fun w' hw' => ?_⟩, ?_⟩
              · skip
                first
                | (go_simp; done)
                | (go_simp; with_reducible rfl)
              simp only [Act.put, List.getElem_toArray, List.getElem_cons_succ, List.getElem_cons_zero, List.setIfInBounds_toArray, List.set_cons_zero, List.set_cons_succ]
            refine NoPanic.normal (NoPanic.normal ?_)
            have hTl := hT.lt
            have hRl := hR.lt
            go_wp2_with fail
            go_meet
            exact ⟨Rb, Tb, g, c, S0, vm0, vl0, rfl, rfl, hR, hT, ht.lowm (by omega), fun b hb => by have := hft b hb; omega, by omega, by omega, by omega, by omega, by omega, Bu4⟩
      · go_simp
        obtain ⟨u2, hu2⟩ : ∃ w0, u1.alloc (.cells #[.int .u32 0, .int .i32 0, .int .u32 0, .int .i64 d] 151) = w0 := ⟨_, rfl⟩
        have Lu2 : Below u1.heap.size u1 u2 := by rw [← hu2]; exact (Below.refl _ _).alloc (Nat.le_refl _) _
        obtain ⟨Tb, hTb⟩ : ∃ q, u1.heap.size = q := ⟨_, rfl⟩
        have hT : Thr u2 Tb false d := by rw [← hu2, ← hTb]; exact heap_alloc_new u1 _
        have sT := hT.lt
        first | rw [hu2] | skip
        first | rw [hTb] | skip
        have su2 := Lu2.size
        replace hR := hR.below Lu2
        have Bu2 := chain Bu1 Lu2
        refine hK.out _ _ Bu2 (fun _ => ?_)
        clear hK K hu2
        refine calm_one 1 (by kernel_rfl) rfl (fun K hK => ?_)
        · go_simp
          refine (HCT.out u2 Bu2).mono ?_
          rintro e u3 ⟨vt, rfl, ⟨S0, vm0, vl0, ht⟩, Lu3⟩
          obtain ⟨g, c, rfl, hg1, hg2, hgc, -⟩ := ht.nonil (by have := H4.out; omega)
          have hft : ∀ b, FtR (.slice (some ⟨g, 0, none⟩) ts.length c) ts.length S0 b → u2.heap.size ≤ b ∧ b < u3.heap.size := fun b hb => ht.bnd b hb
          have su3 := Lu3.size
          replace hT := hT.sm (Lu3.block _ hT.lt)
          replace hR := hR.below Lu3
          have Bu3 := chain Bu2 Lu3
          refine hK.out _ _ Bu3 (fun _ => ?_)
          clear hK K
          have x0 := hR.c0
          have x1 := hR.c1
          have xf0 := hR.frozen 0
          have xf1 := hR.frozen 1
          refine calm_one 7 (by kernel_rfl) rfl (fun K hK => ?_)
          · go_simp
            obtain ⟨u4, hu4⟩ : ∃ wz, (u3.setCell ⟨Rb, 0, none⟩ (.int .i64 d)).setCell ⟨Rb, 1, none⟩ (.slice (some ⟨g, 0, none⟩) ts.length c) = wz := ⟨_, rfl⟩
            have far : ∀ b, b ≠ Rb → u4.heap[b]? = u3.heap[b]? := fun b hb => by rw [← hu4]; exact (Below.heap_setCell _ ⟨Rb, 1, none⟩ _ b (fun e => hb e)).trans (Below.heap_setCell _ ⟨Rb, 0, none⟩ _ b (fun e => hb e))
            have su4 : u3.heap.size = u4.heap.size := by rw [← hu4, setCell_size, setCell_size]
            replace ht := ht.sm (w' := u4) ⟨by omega, fun b hb => far b (by have := hft b hb; omega)⟩
            have Bu4 : Below W.heap.size W u4 := by rw [← hu4]; exact (Bu3.setCell (by show W.heap.size ≤ Rb; omega) _).setCell (by show W.heap.size ≤ Rb; omega) _
            replace hR : Two u4 Rb (.int .i64 d) (.slice (some ⟨g, 0, none⟩) ts.length c) 26 := by rw [← hu4]; exact (hR.set0 _).set1 _
            first | rw [hu4] | skip
            replace hT := hT.sm (w' := u4) (far Tb (by omega))
            refine hK.out _ _ Bu4 (fun _ => ?_)
            clear hK K hu4 far x0 x1 xf0 xf1
            refine calm_rest [8] rfl (by kernel_rfl) (by kernel_rfl) (by kernel_rfl) Bu4 ?_
            iterate 1
              refine ⟨_, rfl, ?_⟩
              apply Exists.intro
              refine ⟨Or.inl ⟨by rfl, fun w' hw' => ?_⟩, ?_⟩
              · skip
                first
                | (go_simp; done)
                | (go_simp; with_reducible rfl)
              simp only [Act.put, List.getElem_toArray, List.getElem_cons_succ, List.getElem_cons_zero, List.setIfInBounds_toArray, List.set_cons_zero, List.set_cons_succ]
            refine NoPanic.normal (NoPanic.normal ?_)
            have hTl := hT.lt
            have hRl := hR.lt
            go_wp2_with fail
            go_meet
            exact ⟨Rb, Tb, g, c, S0, vm0, vl0, rfl, rfl, hR, hT, ht.lowm (by omega), fun b hb => by have := hft b hb; omega, by omega, by omega, by omega, by omega, by omega, Bu4⟩
  case rest =>
    obtain ⟨R, T, g, c, S0, vm0, vl0, rfl, rfl, hR, hT, hS, hft, hRT, hWR, hWT, -, -, LW⟩ := hcut
    generalize hwc : wc = w3 at *
    clear hwc wc L0
    obtain ⟨g0, c0, hgg, hg1, hg2, hgc, -⟩ := hS.nonil (by have := H4.out; omega)
    obtain rfl : g = g0 := by injection hgg with h1 h2 h3; injection h1 with h1; injection h1
    clear hgg hgc
    have HTS3 := hidP hS
    have HTO3 := hidP hR
    have HTH3 := hidP hT
    have HL3 := hidP LW
    have HRT := hidP hRT
    have HS0 : Hid ((∀ i b, i < ts.length → S0 i b → b ≠ R ∧ b ≠ T) ∧ g ≠ R ∧ g ≠ T) := ⟨fun i b hi hb => hft b (Or.inr ⟨i, hi, hb⟩), hft g (Or.inl rfl)⟩
    clear hS hR hT LW hft hRT
    go_wp2_with fail
    go_loopg [8] N (fun gk iv wr => ∃ (k : Nat) (S : Nat → Nat → Prop) (vm vl : Nat → Value) (o : Bool), k ≤ N ∧ N - k ≤ gk ∧ iv = .int .i64 k ∧ raiB m ts k = true ∧ TsR true W.heap.size wr (.slice (some ⟨g, 0, none⟩) ts.length c) (raiT m ts k) S vm vl ∧ (∀ i b, i < ts.length → S i b → b ≠ R ∧ b ≠ T) ∧ Two wr R (.int .i64 d) (.slice (some ⟨g, 0, none⟩) ts.length c) 26 ∧ Thr wr T o (if o then rolV d else d) ∧ Below W.heap.size W wr)
    case atStart => exact ⟨0, _, _, _, false, Nat.zero_le _, Nat.sub_le _ _, rfl, rfl, HTS3.out, HS0.out.1, HTO3.out, HTH3.out, HL3.out⟩
    case round =>
      obtain ⟨k, S, vm, vl, o, hk, hgk, rfl, hrb, hp, hsb, hto, hth, L⟩ := hrel
      have HRO := hidP (iRolledO o T d wr hth)
      have HP0 := hidP hp
      have HT00 := hidP hto
      have HL0 := hidP L
      have HSB := hidP hsb
      have HRB := hidP hrb
      clear hp hto L hsb hrb hth
      go_wp2_with fail
      refine HRO.out.mono ?_
      rintro e wp ⟨rfl, hth, hcg⟩
      have HTH := hidP hth
      have HL : Hid (Below W.heap.size W wp) := HL0.out.trans (hcg.below HL0.out.size (fun i e => by have e' : i = T := e; omega))
      have HP := hidP (HP0.out.sm (hcg.sm (fun b hb => (HP0.out.bnd b hb).2) (fun b hb e => by
        have e' : b = T := e
        rcases hb with hb | ⟨i, hi, hb⟩
        · injection hb with hb; exact HS0.out.2.2 (hb.trans e')
        · exact (HSB.out i b (by rw [raiT_len] at hi; exact hi) hb).2 e')))
      have HT : Hid (Two wp R (.int .i64 d) (.slice (some ⟨g, 0, none⟩) ts.length c) 26) := (hcg.2.2.2.2 R HT00.out.lt (fun e => HRT.out e)).trans HT00.out
      have HLE := hidP (iLevel (rolV d) wp)
      rw [HLV.out] at HLE
      clear hth hcg HRO HP0 HT00 HL0
      by_cases hlt : k < N
      · have hcond : ((k : Int) ≤ (N : Int) - 1) := by omega
        go_wp2_with fail
        refine HLE.out.mono ?_
        rintro e wo ⟨rfl, hwo⟩
        subst hwo
        have hVr := HV.out wo HL.out
        have hkt : k < ts.length := by have := H4.out; omega
        obtain ⟨wb, wof, am, cm, al, cl, rfl, hwb, c0, c1, hmv, hcv, hcap⟩ := hVr.web hkt
        have hweb := tow_web HOK.out.1 (n := k) (by omega)
        have BLo := hidP ((Below.refl wo.heap.size wo).drew)
        have HCo := hidP (fun W' (L' : Below wo.heap.size wo W') => iLnkC am al at' cm cl ct (wnth ts k) m W' (hmv.next L') (hcv.next L') (HM.out W' (chain HL.out L')) HOK.out.2.2 (hcap rfl).1 (hcap rfl).2 (HOK.out.2.1.2 k).1 (HOK.out.2.1.2 k).2 hweb)
        have hB0l := (HT0.out.below HL.out).lt
        have hB1l := (HT1.out.below HL.out).lt
        have HSo : Hid (∀ W', Below wo.heap.size wo W' → W'.cell? ⟨w.heap.size, 1, none⟩ = some (.slice (some ⟨wb, wof, none⟩) ts.length cw) ∧ W'.cell? ⟨wb, wof + k * 2, none⟩ = some (.slice am (wnth ts k).1.length cm) ∧ W'.cell? ⟨wb, wof + k * 2 + 1, none⟩ = some (.slice al (wnth ts k).2.length cl) ∧ W'.cell? ⟨w.heap.size + 1, 0, none⟩ = some (.int .i64 m.1) ∧ W'.cell? ⟨w.heap.size + 1, 1, none⟩ = some (.slice at' m.2.length ct) ∧ (0 : Int) ≤ (k : Int) ∧ (k : Int) < (ts.length : Int)) := fun W' L' => ⟨((HT0.out.below HL.out).below L').c1, (L'.cell (p := ⟨wb, wof + k * 2, none⟩) hwb).trans c0, (L'.cell (p := ⟨wb, wof + k * 2 + 1, none⟩) hwb).trans c1, ((HT1.out.below HL.out).below L').c0, ((HT1.out.below HL.out).below L').c1, Int.natCast_nonneg _, by omega⟩
        obtain ⟨ml, hml⟩ : ∃ ml, (wnth ts k).1.length = ml := ⟨_, rfl⟩
        obtain ⟨ll, hll⟩ : ∃ ll, (wnth ts k).2.length = ll := ⟨_, rfl⟩
        rw [hml, hll] at HCo HSo
        clear hVr hmv hcv c0 c1 hcap hweb hml hll hwb
        go_wp2_with fail
        go_cut [9, 10] from 21 to 46 (fun v b wx => ∃ X a1 l1 c1 a2 l2 c2 F, v = .pointer (some ⟨X, 0, none⟩) ∧ b = .bool (marksB ((wnth ts k).1 ++ [m])) ∧ Two wx X (.slice a1 l1 c1) (.slice a2 l2 c2) 47 ∧ (marksB ((wnth ts k).1 ++ [m]) = true → OwW true F wx (.slice a1 l1 c1) (.slice a2 l2 c2) (raiW m (wnth ts k)).1 (raiW m (wnth ts k)).2) ∧ (∀ b, F b → wo.heap.size ≤ b) ∧ wo.heap.size ≤ X ∧ Below wo.heap.size wo wx)
        case first =>
          refine wp_region_takes (S := fun W' => Below wo.heap.size wo W') (fuel := 7) [0, 1, 2, 3, 4, 5] (by kernel_rfl) (by kernel_rfl) (by kernel_rfl) (by kernel_rfl) BLo.out (fun _ => ?_)
          iterate 6
            refine ⟨_, rfl, ?_⟩
            apply Exists.intro
            refine ⟨Or.inl ⟨by rfl, fun w' hw' => ?_⟩, ?_⟩
            · obtain ⟨e1, e2, e3, e4, e5, e6⟩ := HSo.out w' hw'
              first
              | (go_simp; done)
              | (go_simp; with_reducible rfl)
            simp only [Act.put, List.getElem_toArray, List.getElem_cons_succ, List.getElem_cons_zero, List.setIfInBounds_toArray, List.set_cons_zero, List.set_cons_succ]
          obtain ⟨wv0, hv0⟩ : ∃ w0, wo.drew = w0 := ⟨_, rfl⟩
          have B0 : Below wo.heap.size wo wv0 := by rw [← hv0]; exact BLo.out
          have s0 : wo.heap.size ≤ wv0.heap.size := B0.size
          rw [hv0]
          clear hv0
          refine calm_two14 6 10 (by kernel_rfl) rfl rfl (fun K hK => ?_) (fun K hK => ?_)
          · go_simp
            refine (HCo.out wv0 B0).mono ?_
            rintro e w2 ⟨a1, l1, c1, a2, l2, c2, F, rfl, how, hF, L2⟩
            have LA := chain B0 L2
            refine hK.out _ _ LA (fun hS4 => ?_)
            clear hK K
            refine calm_more14 3 [7, 8, 9] (by kernel_rfl) (by kernel_rfl) (by kernel_rfl) hS4 ?_
            iterate 3
              refine ⟨_, rfl, ?_⟩
              apply Exists.intro
              refine ⟨Or.inl ⟨by rfl, fun w' hw' => ?_⟩, ?_⟩
              · skip
                first
                | (go_simp; done)
                | (go_simp; with_reducible rfl)
              simp only [Act.put, List.getElem_toArray, List.getElem_cons_succ, List.getElem_cons_zero, List.setIfInBounds_toArray, List.set_cons_zero, List.set_cons_succ]
            refine calm_one 10 (by kernel_rfl) rfl (fun K hK => ?_)
            go_simp
            refine hK.out _ _ (LA.alloc LA.size _) (fun _ => ?_)
            clear hK K
            refine calm_one 11 (by kernel_rfl) rfl (fun K hK => ?_)
            go_simp
            obtain ⟨wz, hwz⟩ : ∃ wz, w2.alloc (.cells #[(.slice a1 l1 c1), (.slice a2 l2 c2)] 47) = wz := ⟨_, rfl⟩
            have LZ : Below w2.heap.size w2 wz := by rw [← hwz]; exact (Below.refl _ _).alloc (Nat.le_refl _) _
            have HLZ := hidP (chain LA LZ)
            have HTZ : Hid (Two wz w2.heap.size (.slice a1 l1 c1) (.slice a2 l2 c2) 47) := by show Two _ _ _ _ _; rw [← hwz]; exact Two.new w2 _ _ _
            have HOZ := hidP (fun h => (how h).next LZ)
            have HFZ : Hid ((∀ b, F b → wo.heap.size ≤ b) ∧ wo.heap.size ≤ w2.heap.size) := ⟨fun b hb => by have := (hF b hb).1; omega, LA.size⟩
            rw [hwz]
            refine hK.out _ _ HLZ.out (fun hS9 => ?_)
            clear hK K hwz how hF LA L2 LZ
            refine calm_rest [12] rfl (by kernel_rfl) (by kernel_rfl) (by kernel_rfl) hS9 ?_
            iterate 1
              refine ⟨_, rfl, ?_⟩
              apply Exists.intro
              refine ⟨Or.inl ⟨by rfl, fun w' hw' => ?_⟩, ?_⟩
              · skip
                first
                | (go_simp; done)
                | (go_simp; with_reducible rfl)
              simp only [Act.put, List.getElem_toArray, List.getElem_cons_succ, List.getElem_cons_zero, List.setIfInBounds_toArray, List.set_cons_zero, List.set_cons_succ]
            refine NoPanic.normal (NoPanic.normal ?_)
            go_wp2_with fail
            go_meet
            exact ⟨_, a1, l1, c1, a2, l2, c2, F, rfl, rfl, HTZ.out, HOZ.out, HFZ.out.1, HFZ.out.2, HLZ.out⟩
          · go_simp
            obtain ⟨Wx, hWx⟩ : ∃ W', wv0.alloc (.cells #[.slice none 0 0, .slice none 0 0] 47) = W' := ⟨_, rfl⟩
            obtain ⟨Xb, hXb⟩ : ∃ q, wv0.heap.size = q := ⟨_, rfl⟩
            have LX : Below wo.heap.size wo Wx := by rw [← hWx]; exact B0.alloc s0 _
            have hTX : Two Wx Xb (.slice none 0 0) (.slice none 0 0) 47 := by rw [← hWx, ← hXb]; exact Two.new wv0 _ _ _
            have hXo : wo.heap.size ≤ Xb := by omega
            have hXl := hTX.lt
            first | rw [hWx] | skip
            first | rw [hXb] | skip
            refine hK.out _ _ LX (fun _ => ?_)
            clear hK K hWx
            refine calm_one 6 (by kernel_rfl) rfl (fun K hK => ?_)
            go_simp
            refine (HCo.out Wx LX).mono ?_
            rintro e w2 ⟨a1, l1, c1, a2, l2, c2, F, rfl, how, hF, L2⟩
            have LA := chain LX L2
            have hT4 := hTX.below L2
            refine hK.out _ _ LA (fun hS4 => ?_)
            clear hK K
            refine calm_more14 2 [7, 8, 9] (by kernel_rfl) (by kernel_rfl) (by kernel_rfl) hS4 ?_
            iterate 3
              refine ⟨_, rfl, ?_⟩
              apply Exists.intro
              refine ⟨Or.inl ⟨by rfl, fun w' hw' => ?_⟩, ?_⟩
              · skip
                first
                | (go_simp; done)
                | (go_simp; with_reducible rfl)
              simp only [Act.put, List.getElem_toArray, List.getElem_cons_succ, List.getElem_cons_zero, List.setIfInBounds_toArray, List.set_cons_zero, List.set_cons_succ]
            have x0 := hT4.c0
            have x1 := hT4.c1
            have xf0 := hT4.frozen 0
            have xf1 := hT4.frozen 1
            refine calm_one 11 (by kernel_rfl) rfl (fun K hK => ?_)
            go_simp
            have HLZ := hidP ((LA.setCell (by show wo.heap.size ≤ Xb; exact hXo) (.slice a1 l1 c1) : Below wo.heap.size wo (w2.setCell ⟨Xb, 0, none⟩ (.slice a1 l1 c1))).setCell (by show wo.heap.size ≤ Xb; exact hXo) (.slice a2 l2 c2) : Below wo.heap.size wo ((w2.setCell ⟨Xb, 0, none⟩ (.slice a1 l1 c1)).setCell ⟨Xb, 1, none⟩ (.slice a2 l2 c2)))
            have HTZ := hidP ((hT4.set0 (.slice a1 l1 c1)).set1 (.slice a2 l2 c2))
            have HOZ := hidP (fun h => (how h).sm (w' := (w2.setCell ⟨Xb, 0, none⟩ (.slice a1 l1 c1)).setCell ⟨Xb, 1, none⟩ (.slice a2 l2 c2)) ⟨by rw [setCell_size, setCell_size]; exact Nat.le_refl _, fun b hb => (Below.heap_setCell _ ⟨Xb, 1, none⟩ _ b (fun e => by have e' : b = Xb := e; have := (hF b hb).1; omega)).trans (Below.heap_setCell _ ⟨Xb, 0, none⟩ _ b (fun e => by have e' : b = Xb := e; have := (hF b hb).1; omega))⟩)
            have HFZ : Hid (∀ b, F b → wo.heap.size ≤ b) := fun b hb => by have := (hF b hb).1; omega
            clear how hF
            generalize (w2.setCell ⟨Xb, 0, none⟩ (.slice a1 l1 c1)).setCell ⟨Xb, 1, none⟩ (.slice a2 l2 c2) = wz at *
            refine hK.out _ _ HLZ.out (fun hS9 => ?_)
            clear hK K x0 x1 xf0 xf1 LA L2 hT4
            refine calm_rest [12] rfl (by kernel_rfl) (by kernel_rfl) (by kernel_rfl) hS9 ?_
            iterate 1
              refine ⟨_, rfl, ?_⟩
              apply Exists.intro
              refine ⟨Or.inl ⟨by rfl, fun w' hw' => ?_⟩, ?_⟩
              · skip
                first
                | (go_simp; done)
                | (go_simp; with_reducible rfl)
              simp only [Act.put, List.getElem_toArray, List.getElem_cons_succ, List.getElem_cons_zero, List.setIfInBounds_toArray, List.set_cons_zero, List.set_cons_succ]
            refine NoPanic.normal (NoPanic.normal ?_)
            go_wp2_with fail
            go_meet
            exact ⟨Xb, a1, l1, c1, a2, l2, c2, F, rfl, rfl, HTZ.out, HOZ.out, HFZ.out, hXo, HLZ.out⟩
        case rest =>
          obtain ⟨X, a1, l1, c1, a2, l2, c2, F, rfl, rfl, hTX, hOW, hFX, hXW, LW⟩ := hcut
          generalize hwc : wc = w5 at *
          clear hwc wc HCo HSo BLo HLE
          have HL5 := hidP (chain HL.out LW)
          have HP5 := hidP (HP.out.next LW)
          have HT5 := hidP (HT.out.below LW)
          have HTH5 := hidP (HTH.out.sm (LW.block T HTH.out.lt))
          rcases hmb : marksB ((wnth ts k).1 ++ [m]) with _ | _
          · have t05 := HT0.out.below HL5.out
            have k0 := t05.c0
            have k1 := t05.c1
            have HCY5 := hidP (HCT.out w5 HL5.out)
            have HNO : Hid (raiR m ts d = false) := raiB_no hmb (by rw [HN.out]; exact hlt)
            clear hOW hTX t05
            go_wp2_with fail
            refine HCY5.out.mono ?_
            rintro e w6 ⟨vt, rfl, hcp, L6⟩
            obtain ⟨va, vc, rfl⟩ : ∃ va vc, vt = .slice va ts.length vc := by obtain ⟨_, _, _, h⟩ := hcp; obtain ⟨a, c, e, -⟩ := h.form; exact ⟨a, c, e⟩
            have t26 := HT2.out.below (chain HL5.out L6)
            have r0 := t26.c0
            have r1 := t26.c1
            have rf0 := t26.frozen 0
            have rf1 := t26.frozen 1
            have t27 := (t26.set0 (.int .i64 d)).set1 (.slice va ts.length vc)
            have q0 := t27.c0
            have q1 := t27.c1
            obtain ⟨S1, vm1, vl1, hts1⟩ := hcp
            have hz5 := HL5.out.size
            have hsz := HSZ.out
            have HTF := hidP ((hts1.sm (w' := (w6.setCell ⟨w.heap.size + 1 + 1, 0, none⟩ (.int .i64 d)).setCell ⟨w.heap.size + 1 + 1, 1, none⟩ (.slice va ts.length vc)) ⟨by rw [setCell_size, setCell_size]; exact Nat.le_refl _, fun b hb => (Below.heap_setCell _ ⟨w.heap.size + 1 + 1, 1, none⟩ _ b (fun e => by have e' : b = w.heap.size + 1 + 1 := e; have := (hts1.bnd b hb).1; omega)).trans (Below.heap_setCell _ ⟨w.heap.size + 1 + 1, 0, none⟩ _ b (fun e => by have e' : b = w.heap.size + 1 + 1 := e; have := (hts1.bnd b hb).1; omega))⟩).lowm (base' := w.heap.size) (by omega))
            have HLF := hidP (((chain HB.out (chain HL5.out L6)).setCell (by show w.heap.size ≤ w.heap.size + 1 + 1; omega) (.int .i64 d)).setCell (by show w.heap.size ≤ w.heap.size + 1 + 1; omega) (.slice va ts.length vc) : Below w.heap.size w ((w6.setCell ⟨w.heap.size + 1 + 1, 0, none⟩ (.int .i64 d)).setCell ⟨w.heap.size + 1 + 1, 1, none⟩ (.slice va ts.length vc)))
            clear hts1 t26 t27 L6 k0 k1
            go_wp2_with fail
            refine bodyPost_ret (v := .tuple #[.agg #[.int .i64 d, (.slice va ts.length vc)], .bool false]) (by simp [results, Tryz.results14, go_sem, q0, q1]) rfl ?_
            refine ⟨(.slice va ts.length vc), ?_, ⟨S1, vm1, vl1, ?_⟩, HLF.out⟩
            · unfold raiD; rw [HNO.out]; rfl
            · unfold raiS; rw [HNO.out]; exact HTF.out
          · have HOW := hidP (hOW hmb)
            have HMB := hidP hmb
            have hRL := raiT_len m ts k
            have hPL := HP.out
            rw [← hRL] at hPL
            have HPU := hidP (hPL.put LW (k := k) (by rw [hRL]; exact hkt) HOW.out hFX HL.out.size)
            rw [hRL] at HPU
            have hcl : ∀ i, i < (raiT m ts k).length → w5.cell? ⟨g, i * 2, none⟩ = some (vm i) ∧ w5.cell? ⟨g, i * 2 + 1, none⟩ = some (vl i) ∧ ∀ j, w5.frozen? ⟨g, j, none⟩ = false := by
              obtain ⟨g', c', hge, -, -, -, hcl⟩ := (HP5.out).nonil (by rw [hRL]; omega)
              injection hge with h1 h2 h3
              injection h1 with h1
              injection h1 with h1
              subst h1
              exact hcl
            obtain ⟨e0, e1, ef⟩ := hcl k (by rw [hRL]; exact hkt)
            have f0 := ef (k * 2)
            have f1 := ef (k * 2 + 1)
            have o1 := HT5.out.c1
            have x0 := hTX.c0
            have x1 := hTX.c1
            have hi0 : (0 : Int) ≤ (k : Int) := Int.natCast_nonneg _
            have hi1 : (k : Int) < (ts.length : Int) := by omega
            have hgo : g ≠ R := HS0.out.2.1
            have hgT : g ≠ T := HS0.out.2.2
            have HTH6 : Hid (Thr ((w5.setCell ⟨g, k * 2, none⟩ (.slice a1 l1 c1)).setCell ⟨g, k * 2 + 1, none⟩ (.slice a2 l2 c2)) T true (rolV d)) := HTH5.out.sm ((Below.heap_setCell _ ⟨g, k * 2 + 1, none⟩ _ T (fun e => hgT e.symm)).trans (Below.heap_setCell _ ⟨g, k * 2, none⟩ _ T (fun e => hgT e.symm)))
            have HE : Hid (Two ((w5.setCell ⟨g, k * 2, none⟩ (.slice a1 l1 c1)).setCell ⟨g, k * 2 + 1, none⟩ (.slice a2 l2 c2)) R (.int .i64 d) (.slice (some ⟨g, 0, none⟩) ts.length c) 26 ∧ Below W.heap.size W ((w5.setCell ⟨g, k * 2, none⟩ (.slice a1 l1 c1)).setCell ⟨g, k * 2 + 1, none⟩ (.slice a2 l2 c2))) :=
              ⟨(HT5.out.far hgo _).far hgo _, (HL5.out.setCell (by show W.heap.size ≤ g; exact hg1) _).setCell (by show W.heap.size ≤ g; exact hg1) _⟩
            have hOl := HT.out.lt
            have hTl := HTH.out.lt
            have HSN : Hid (∀ i b, i < ts.length → updS S k F i b → b ≠ R ∧ b ≠ T) := fun i b hi hb => by
              unfold updS at hb
              by_cases e : i = k
              · rw [if_pos e] at hb; have := hFX b hb; omega
              · rw [if_neg e] at hb; exact HSB.out i b hi hb
            have HRN := hidP (raiB_yes HRB.out hmb)
            clear hPL hRL hcl ef hOW hTX HP HT HL HP5 HT5 HL5 LW
            go_wp2_with fail
            go_roundg (N - (k + 1))
            case rel => exact ⟨k + 1, _, _, _, true, by omega, Nat.le_refl _, by go_num, HRN.out, HPU.out, HSN.out, HE.out.1, HTH6.out, HE.out.2⟩
            case measure => omega
      · obtain rfl : k = N := by omega
        have hcond : ¬ ((k : Int) ≤ (k : Int) - 1) := by omega
        have HYES : Hid (raiR m ts d = true) := by show raiB m ts (raiN d) = true; rw [HN.out]; exact HRB.out
        have HRL := hidP (iRolledO true T d wp HTH.out)
        go_wp2_with fail
        refine HLE.out.mono ?_
        rintro e wo ⟨rfl, hwo⟩
        subst hwo
        clear HLE
        go_wp2_with fail
        refine HRL.out.mono ?_
        rintro e wq ⟨rfl, hth, hcg⟩
        have hLq : Below W.heap.size W wq := HL.out.trans (hcg.below HL.out.size (fun i e => by have e' : i = T := e; omega))
        have hPq := HP.out.sm (hcg.sm (fun b hb => (HP.out.bnd b hb).2) (fun b hb e => by
          have e' : b = T := e
          rcases hb with hb | ⟨i, hi, hb⟩
          · injection hb with hb; exact HS0.out.2.2 (hb.trans e')
          · exact (HSB.out i b (by rw [raiT_len] at hi; exact hi) hb).2 e'))
        have hTq : Two wq R (.int .i64 d) (.slice (some ⟨g, 0, none⟩) ts.length c) 26 := (hcg.2.2.2.2 R HT.out.lt (fun e => HRT.out e)).trans HT.out
        have y0 := hTq.c0
        have yf := hTq.frozen 0
        have t2 := HT2.out.below hLq
        obtain ⟨wr2, hwr2⟩ : ∃ wr2, wq.setCell ⟨R, 0, none⟩ (.int .i64 (rolV d)) = wr2 := ⟨_, rfl⟩
        have hz := hLq.size
        have hsz := HSZ.out
        have hR2 : Two wr2 R (.int .i64 (rolV d)) (.slice (some ⟨g, 0, none⟩) ts.length c) 26 := by rw [← hwr2]; exact hTq.set0 _
        have hL2 : Below W.heap.size W wr2 := by rw [← hwr2]; exact hLq.setCell (by show W.heap.size ≤ R; exact hWR) _
        have hP2 : TsR true W.heap.size wr2 (.slice (some ⟨g, 0, none⟩) ts.length c) (raiT m ts k) S vm vl := hPq.sm (by
          rw [← hwr2]
          refine ⟨by rw [setCell_size]; exact Nat.le_refl _, fun b hb => Below.heap_setCell _ ⟨R, 0, none⟩ _ b (fun e => ?_)⟩
          have e' : b = R := e
          rcases hb with hb | ⟨i, hi, hb⟩
          · injection hb with hb; exact HS0.out.2.1 (hb.trans e')
          · exact (HSB.out i b (by rw [raiT_len] at hi; exact hi) hb).1 e')
        have t2 := HT2.out.below hL2
        have r0 := t2.c0
        have r1 := t2.c1
        have rf0 := t2.frozen 0
        have rf1 := t2.frozen 1
        have x0 := hR2.c0
        have x1 := hR2.c1
        have t3 := (t2.set0 (.int .i64 (rolV d))).set1 (.slice (some ⟨g, 0, none⟩) ts.length c)
        have q0 := t3.c0
        have q1 := t3.c1
        have hz2 := hL2.size
        have HTF := hidP ((hP2.sm (w' := (wr2.setCell ⟨w.heap.size + 1 + 1, 0, none⟩ (.int .i64 (rolV d))).setCell ⟨w.heap.size + 1 + 1, 1, none⟩ (.slice (some ⟨g, 0, none⟩) ts.length c)) ⟨by rw [setCell_size, setCell_size]; exact Nat.le_refl _, fun b hb => (Below.heap_setCell _ ⟨w.heap.size + 1 + 1, 1, none⟩ _ b (fun e => by have e' : b = w.heap.size + 1 + 1 := e; have := (hP2.bnd b hb).1; omega)).trans (Below.heap_setCell _ ⟨w.heap.size + 1 + 1, 0, none⟩ _ b (fun e => by have e' : b = w.heap.size + 1 + 1 := e; have := (hP2.bnd b hb).1; omega))⟩).lowm (base' := w.heap.size) (by omega))
        have HLF := hidP (((chain HB.out hL2).setCell (by show w.heap.size ≤ w.heap.size + 1 + 1; omega) (.int .i64 (rolV d))).setCell (by show w.heap.size ≤ w.heap.size + 1 + 1; omega) (.slice (some ⟨g, 0, none⟩) ts.length c) : Below w.heap.size w ((wr2.setCell ⟨w.heap.size + 1 + 1, 0, none⟩ (.int .i64 (rolV d))).setCell ⟨w.heap.size + 1 + 1, 1, none⟩ (.slice (some ⟨g, 0, none⟩) ts.length c)))
        clear t2 t3 hth hcg hLq hPq hTq hR2 hL2 hP2 HP HT HL
        go_wp2_with fail
        try rw [hwr2]
        go_wp2_with fail
        refine bodyPost_ret (v := .tuple #[.agg #[.int .i64 (rolV d), .slice (some ⟨g, 0, none⟩) ts.length c], .bool true]) (by simp [results, Tryz.results14, go_sem, q0, q1]) rfl ?_
        refine ⟨.slice (some ⟨g, 0, none⟩) ts.length c, ?_, ⟨S, vm, vl, ?_⟩, HLF.out⟩
        · unfold raiD; rw [HYES.out]; rfl
        · unfold raiS; rw [HYES.out, HN.out]; exact HTF.out
  end Go.Proofs.YtaaagmgglolibaaGreat
namespace Go.Proofs.YtaaagmgglolibaaGreat
open Go Go.RowKit

def rT (m : Mk) (ts : List Wb) (d : Int) : List Wb := if towB d ts = true then raiS m ts d else []
theorem web_wee {x : Wb} (h : webB x.1 x.2 = true) : MSmall x.1 ∧ CSmall x.2 := by
  obtain ⟨h1, h2, h3, h4⟩ := web_small h
  exact ⟨⟨by omega, fun i => by have := h2 i; omega⟩, ⟨by omega, fun i => by have := h4 i; omega⟩⟩
theorem rai_at {m : Mk} {ts : List Wb} : ∀ {n : Nat}, raiB m ts n = true → ∀ k, k < n → marksB ((wnth ts k).1 ++ [m]) = true
  | 0, _, k, hk => by omega
  | n + 1, h, k, hk => by
    unfold raiB at h
    rw [Bool.and_eq_true] at h
    rcases Nat.lt_or_ge k n with h1 | h1
    · exact rai_at h.1 k h1
    · obtain rfl : k = n := by omega
      exact h.2
theorem rai_web {m : Mk} {ts : List Wb} {d : Int} (hok : towB d ts = true) (i : Nat) (hi : i < 4) : webB (wnth (raiS m ts d) i).1 (wnth (raiS m ts d) i).2 = true := by
  have hw := tow_web hok (n := i) hi
  unfold raiS
  by_cases h : raiR m ts d = true
  · rw [if_pos h]
    obtain ⟨-, -, hn⟩ := rai_lev (tow_in hok)
    rw [raiT_at m ts _ (by have := (tow_at hok).1; omega)]
    by_cases e : i < raiN d
    · rw [if_pos e]
      exact linked_web hw (rai_at h i e) (nearI_find (web_marks hw))
    · rw [if_neg e]; exact hw
  · rw [if_neg h]; exact hw
theorem rT_len (m : Mk) (ts : List Wb) (d : Int) : (rT m ts d).length ≤ 4 := by
  unfold rT
  by_cases h : towB d ts = true
  · rw [if_pos h]
    have := (tow_at h).1
    unfold raiS
    by_cases h2 : raiR m ts d = true
    · rw [if_pos h2, raiT_len]; omega
    · rw [if_neg h2]; omega
  · rw [if_neg h]; simp
theorem rT_wee (m : Mk) (ts : List Wb) (d : Int) : WbSmall (rT m ts d) := by
  refine ⟨by have := rT_len m ts d; omega, fun i => ?_⟩
  have hz : MSmall (([], []) : Wb).1 ∧ CSmall (([], []) : Wb).2 := ⟨⟨by simp, fun i => by simp [mat]⟩, ⟨by simp, fun i => by simp [cn]⟩⟩
  unfold rT
  by_cases h : towB d ts = true
  · rw [if_pos h]
    rcases Nat.lt_or_ge i 4 with h1 | h1
    · exact web_wee (rai_web h i h1)
    · have hl : (raiS m ts d).length ≤ i := by have := rT_len m ts d; unfold rT at this; rw [if_pos h] at this; omega
      have : wnth (raiS m ts d) i = ([], []) := by unfold wnth; rw [List.getD_eq_getElem?_getD, List.getElem?_eq_none hl]; rfl
      rw [this]; exact hz
  · rw [if_neg h]
    have : wnth [] i = ([], []) := by simp [wnth]
    rw [this]; exact hz

/-- A row of webs reads as told behind whatever leaves the blocks from base on. -/
def KeptT (base : Nat) (w : World) (a : Option Addr) (ts : List Wb) : Prop := ∀ w' : World, w.heap.size ≤ w'.heap.size → (∀ b, base ≤ b → b < w.heap.size → w'.heap[b]? = w.heap[b]?) → WbView true w' a ts
theorem TsR.kept {o : Bool} {base : Nat} {w : World} {a : Option Addr} {n c : Nat} {ts : List Wb} {S : Nat → Nat → Prop} {vm vl : Nat → Value} (h : TsR o base w (.slice a n c) ts S vm vl) : KeptT base w a ts := fun w' hs e => by
  obtain ⟨a', c', e', -, hv⟩ := (h.sm (w' := w') ⟨hs, fun b hb => e b (h.bnd b hb).1 (h.bnd b hb).2⟩).form
  injection e' with e1 e2 e3
  subst e1
  exact hv

end Go.Proofs.YtaaagmgglolibaaGreat
namespace Go.Proofs.YtaaagmgglolibaaGreat
open Go Go.RowKit

/-- Is it kept? -/
def kpB (wd nx d : Int) (p : List Int) (ts : List Wb) : Bool := okB p && decide ((p.length : Int) = wd) && !decide (nx = 1000000) && raiR (nx, p) ts d
theorem irow_stay18 {base : Nat} {w w' : World} {g c : Nat} {xs : List Int} (h : IRow base w g c xs) (e : w'.heap[g]? = w.heap[g]?) : IRow base w' g c xs := row_stay h (fun q hq => by injection hq with hq; rw [← hq]; exact e)
theorem KeptT.step {base : Nat} {w w2 : World} {a : Option Addr} {ts : List Wb} (h : KeptT base w a ts) (hs : w.heap.size ≤ w2.heap.size) (e : ∀ b, base ≤ b → b < w.heap.size → w2.heap[b]? = w.heap[b]?) : KeptT base w2 a ts :=
  fun w' h1 h2 => h w' (Nat.le_trans hs h1) (fun b hb1 hb2 => (h2 b hb1 (by omega)).trans (e b hb1 hb2))
theorem keptT_low {base base' : Nat} {w : World} {a : Option Addr} {ts : List Wb} (h : KeptT base w a ts) (hb : base' ≤ base) : KeptT base' w a ts :=
  fun w' h1 h2 => h w' h1 (fun b hb1 hb2 => h2 b (by omega) hb2)
theorem keptT_hop {base base' X : Nat} {w w2 : World} {a : Option Addr} {ts : List Wb} (h : KeptT base w a ts) (hX : X < base) (hb : base' ≤ base) (_ : base' ≤ X) (hs : w.heap.size ≤ w2.heap.size) (e : ∀ b, b ≠ X → w2.heap[b]? = w.heap[b]?) : KeptT base' w2 a ts :=
  keptT_low (h.step hs (fun b h1 _ => e b (by omega))) hb

theorem drow_off18 {base D : Nat} {w w' : World} {g c : Nat} {ds : List Dm} (h : DRow base w g c ds) (_ : w.heap.size ≤ w'.heap.size) (e : ∀ b, base ≤ b → b < w.heap.size → b ≠ D → w'.heap[b]? = w.heap[b]?) (hg : g ≠ D) (hp : ∀ x ∈ ds, x.2.1 ≠ D) : DRow base w' g c ds :=
  ⟨owns_same14 h.1 (e g h.lt.1 h.lt.2 hg), fun d hd => ⟨(h.2.1 d hd).1.same (e d.2.1 (h.2.1 d hd).1.lt2.1 (h.2.1 d hd).1.lt2.2 (hp d hd)), (h.2.1 d hd).2⟩, h.2.2⟩

set_option maxRecDepth 100000 in
set_option maxHeartbeats 16000000 in
theorem sKeptG (base D gm c : Nat) (ds : List Dm) (wd d nx : Int) (va0 : Option Addr) (vc0 : Nat) (ts : List Wb) (ap : Option Addr) (cp : Nat) (p : List Int) (w : World) (hD : w.heap[D]? = some (.cells #[.int .i64 wd, .slice (some ⟨gm, 0, none⟩) ds.length c, .int .i64 d, .slice va0 ts.length vc0, .int .i64 nx] 52)) (hr : DRow base w gm c ds) (hv : WbView true w va0 ts) (hp : View w ap p) (hpl : p.length ≤ 1048576) (hok : towB d ts = true) (hsm : WbSmall ts) (hn : ds.length ≤ 60) (hDp : ∀ x ∈ ds, x.2.1 ≠ D) (hnb : 0 ≤ nx ∧ nx ≤ 1000000) :
    Calls Tryz.prog 135 #[.pointer (some ⟨D, 0, none⟩), .slice ap p.length cp] w fun e w' => (kpB wd nx d p ts = false → e = .returned (.int .i64 (-1)) ∧ Below w.heap.size w w') ∧ (kpB wd nx d p ts = true → e = .returned (.int .i64 nx) ∧ ∃ g c2 va vc, w'.heap[D]? = some (.cells #[.int .i64 wd, .slice (some ⟨g, 0, none⟩) (ds.length + 1) c2, .int .i64 (raiD (nx, p) ts d), .slice va (raiS (nx, p) ts d).length vc, .int .i64 (nx + 1)] 52) ∧ (∀ W' : World, w'.heap.size ≤ W'.heap.size → (∀ b, base ≤ b → b < w'.heap.size → b ≠ D → W'.heap[b]? = w'.heap[b]?) → MView W' (some ⟨g, 0, none⟩) (dMarks ds ++ [(nx, p)])) ∧ KeptT w.heap.size w' va (raiS (nx, p) ts d) ∧ Cgd (fun b => b = D ∨ b = gm) w w') := by
  obtain ⟨i0, hi0, hx0, hx1, hx2⟩ := info_parts Tryz.info2
  obtain ⟨j0, hj0, hy0, hy1, hy2⟩ := info_parts Tryz.info29
  obtain ⟨e0, e1, e2, e3, e4, ef, hDl⟩ := five_cells hD
  have HOKP := hidP (sOk ap cp p w hp hpl)
  rcases hkp : okB p with _ | _
  · have HNO : Hid (kpB wd nx d p ts = false) := by show _ = _; unfold kpB; rw [hkp]; rfl
    rw [hkp] at HOKP
    go_enter Tryz.func135, Tryz.ntmps135
    go_wp2_with fail
    refine HOKP.out.mono ?_
    rintro e W1 ⟨rfl, hW1⟩
    subst hW1
    go_wp2_with fail
    go_ret
    exact ⟨fun _ => ⟨rfl, Below.refl _ _⟩, fun h => by rw [HNO.out] at h; cases h⟩
  rw [hkp] at HOKP
  by_cases hlw : ¬ (p.length : Int) = wd
  · have HNO : Hid (kpB wd nx d p ts = false) := by show _ = _; unfold kpB; rw [hkp, decide_eq_false hlw]; rfl
    have hne : ((p.length : Int) != wd) = true := by simp; exact hlw
    go_enter Tryz.func135, Tryz.ntmps135
    go_wp2_with fail
    refine HOKP.out.mono ?_
    rintro e W1 ⟨rfl, hW1⟩
    subst hW1
    go_wp2_with fail
    go_ret
    exact ⟨fun _ => ⟨rfl, Below.refl _ _⟩, fun h => by rw [HNO.out] at h; cases h⟩
  replace hlw : (p.length : Int) = wd := Classical.not_not.1 hlw
  have hnw : ((p.length : Int) != wd) = false := by simp; exact hlw
  by_cases hnx : nx = 1000000
  · have HNO : Hid (kpB wd nx d p ts = false) := by show _ = _; unfold kpB; rw [decide_eq_true hnx]; simp
    have hne : (nx == 1000000) = true := by simp; exact hnx
    clear hnx
    go_enter Tryz.func135, Tryz.ntmps135
    go_wp2_with fail
    refine HOKP.out.mono ?_
    rintro e W1 ⟨rfl, hW1⟩
    subst hW1
    go_wp2_with fail
    go_ret
    exact ⟨fun _ => ⟨rfl, Below.refl _ _⟩, fun h => by rw [HNO.out] at h; cases h⟩
  have hnn : (nx == 1000000) = false := by simp; exact hnx
  have HKB : Hid (kpB wd nx d p ts = raiR (nx, p) ts d) := by show _ = _; unfold kpB; rw [hkp, decide_eq_true hlw, decide_eq_false hnx]; rfl
  have hp1 := okB_len hkp
  have HPV := hidP hp
  have HV := hidP hv
  have HR := hidP hr
  have HD := hidP hD
  have HDP := hidP hDp
  have HNB := hidP hnb
  have HOK := hidP (And.intro hok hsm)
  have hbw : base ≤ w.heap.size := by have := hr.lt; omega
  have hgm := hr.lt.2
  have hDg : D ≠ gm := fun e => by
    have h1 := hr.1
    obtain ⟨-, ⟨h2, -⟩ | ⟨q, cap, cur, h2, -, h3, -⟩⟩ := h1
    · cases h2
    · injection h2 with h2; injection h2 with h2; injection h2 with h2
      rw [← h2, ← e, hD] at h3
      injection h3 with h3; injection h3 with _ h3; cases h3
  obtain ⟨W0, hW0⟩ : ∃ W0, W0 = w := ⟨w, rfl⟩
  clear hp hv hr hok hsm hDp hkp hlw hnx hnb
  go_enter Tryz.func135, Tryz.ntmps135
  go_wp2_with fail
  refine HOKP.out.mono ?_
  rintro e W1 ⟨rfl, hW1⟩
  subst hW1
  subst hW0
  clear HOKP
  go_upto_region 3 with fail
  go_cut [5] from 27 to 34 (fun v wx => ∃ Mb gp cq, v = .pointer (some ⟨Mb, 0, none⟩) ∧ Two wx Mb (.int .i64 nx) (.slice (some ⟨gp, 0, none⟩) p.length cq) 29 ∧ IRow W0.heap.size wx gp cq p ∧ W0.heap.size ≤ Mb ∧ Mb ≠ gp ∧ Below W0.heap.size W0 wx)
  case first =>
    have BL0 := hidP ((Below.refl W0.heap.size W0).drew)
    have HS0 : Hid (∀ W', Below W0.heap.size W0 W' → W'.cell? ⟨D, 4, none⟩ = some (.int .i64 nx)) := fun W' L' => (L'.cell (p := ⟨D, 4, none⟩) hDl).trans e4
    refine wp_region_takes (S := fun W' => Below W0.heap.size W0 W') (fuel := 5) [0, 1, 2, 3, 5] (by kernel_rfl) (by kernel_rfl) (by kernel_rfl) (by kernel_rfl) BL0.out (fun _ => ?_)
    iterate 5
      refine ⟨_, rfl, ?_⟩
      apply Exists.intro
      refine ⟨Or.inl ⟨by rfl, fun w' hw' => ?_⟩, ?_⟩
      · have e1 := HS0.out w' hw'
        first
        | (go_simp; done)
        | (go_simp; with_reducible rfl)
      simp only [Act.put, List.getElem_toArray, List.getElem_cons_succ, List.getElem_cons_zero, List.setIfInBounds_toArray, List.set_cons_zero, List.set_cons_succ]
    obtain ⟨wv0, hv0⟩ : ∃ w0, W0.drew = w0 := ⟨_, rfl⟩
    have Bwv0 : Below W0.heap.size W0 wv0 := by rw [← hv0]; exact BL0.out
    have swv0 : W0.heap.size ≤ wv0.heap.size := Bwv0.size
    rw [hv0]
    clear hv0
    refine calm_two14 4 8 (by kernel_rfl) rfl rfl (fun K hK => ?_) (fun K hK => ?_)
    · go_simp
      obtain ⟨u1, hu1⟩ : ∃ w0, wv0.alloc (.cells #[] 2) = w0 := ⟨_, rfl⟩
      have Lu1 : Below wv0.heap.size wv0 u1 := by rw [← hu1]; exact (Below.refl _ _).alloc (Nat.le_refl _) _
      obtain ⟨ge, hge⟩ : ∃ q, wv0.heap.size = q := ⟨_, rfl⟩
      have hE : IRow W0.heap.size u1 ge 0 [] := by rw [← hu1, ← hge]; exact IRow.start wv0 _ swv0
      first | rw [hu1] | skip
      first | rw [hge] | skip
      have su1 := Nat.le_trans swv0 Lu1.size
      have lu1 := Lu1.size
      have geV : ge < u1.heap.size := hE.lt.2
      have Bu1 := chain Bwv0 Lu1
      refine hK.out _ _ Bu1 (fun _ => ?_)
      clear hK K hu1
      refine calm_two14 6 8 (by kernel_rfl) rfl rfl (fun K hK => ?_) (fun K hK => ?_)
      · skip
        refine step_append_at u1 rfl (.tmp 31) (.tmp 32) 27 rfl W0.heap.size 2 i0 _ 1 8 Tryz.underlying27 hi0 hx0 hx1 hx2 rfl (by omega) ge 0 0 [] rfl hE ap p.length cp (p.map (Value.int .i64)) rfl (view_src14 (View.next HPV.out Bu1)) (by unfold maxLen; omega) (by omega) su1 u1.heap.size rfl ?_
        intro gp cq u2 hown hgrow hat hlt
        have hp : IRow W0.heap.size u2 gp cq p := IRow.of hown (by omega) (by simp)
        have lu2 := hgrow.size
        have su2 := Nat.le_trans su1 lu2
        have geW := hE.lt.1
        have Bu2 : Below W0.heap.size W0 u2 := Bu1.grown hgrow su1 (fun q e => by injection e with e; omega)
        rw [Nat.zero_add]
        refine hK.out _ _ Bu2 (fun _ => ?_)
        clear hK K hown hgrow
        refine calm_more14 2 [7] (by kernel_rfl) (by kernel_rfl) (by kernel_rfl) Bu2 ?_
        iterate 1
          refine ⟨_, rfl, ?_⟩
          apply Exists.intro
          refine ⟨Or.inl ⟨by rfl, fun w' hw' => ?_⟩, ?_⟩
          · skip
            first
            | (go_simp; done)
            | (go_simp; with_reducible rfl)
          simp only [Act.put, List.getElem_toArray, List.getElem_cons_succ, List.getElem_cons_zero, List.setIfInBounds_toArray, List.set_cons_zero, List.set_cons_succ]
        refine calm_one 8 (by kernel_rfl) rfl (fun K hK => ?_)
        · go_simp
          obtain ⟨u3, hu3⟩ : ∃ w0, u2.alloc (.cells #[.int .i64 0, .slice none 0 0] 29) = w0 := ⟨_, rfl⟩
          have Lu3 : Below u2.heap.size u2 u3 := by rw [← hu3]; exact (Below.refl _ _).alloc (Nat.le_refl _) _
          obtain ⟨Mb, hMb⟩ : ∃ q, u2.heap.size = q := ⟨_, rfl⟩
          have hM : Two u3 Mb (.int .i64 0) (.slice none 0 0) 29 := by rw [← hu3, ← hMb]; exact Two.new u2 _ _ _
          first | rw [hu3] | skip
          first | rw [hMb] | skip
          have su3 := Nat.le_trans su2 Lu3.size
          have lu3 := Lu3.size
          have MbV : Mb < u3.heap.size := hM.lt
          have gpU := hp.lt.2
          replace hp := hp.below Lu3
          have Bu3 := chain Bu2 Lu3
          refine hK.out _ _ Bu3 (fun _ => ?_)
          clear hK K hu3
          have x0 := hM.c0
          have x1 := hM.c1
          have xf0 := hM.frozen 0
          have xf1 := hM.frozen 1
          refine calm_one 9 (by kernel_rfl) rfl (fun K hK => ?_)
          go_simp
          obtain ⟨wz, hwz⟩ : ∃ wz, (u3.setCell ⟨Mb, 0, none⟩ (.int .i64 nx)).setCell ⟨Mb, 1, none⟩ (.slice (some ⟨gp, 0, none⟩) p.length cq) = wz := ⟨_, rfl⟩
          have far : ∀ b, b ≠ Mb → wz.heap[b]? = u3.heap[b]? := fun b hb => by rw [← hwz]; exact (Below.heap_setCell _ ⟨Mb, 1, none⟩ _ b (fun e => hb e)).trans (Below.heap_setCell _ ⟨Mb, 0, none⟩ _ b (fun e => hb e))
          have hzs : u3.heap.size = wz.heap.size := by rw [← hwz, setCell_size, setCell_size]
          have hpz : IRow W0.heap.size wz gp cq p := irow_stay18 hp (far gp (by omega))
          have hMz : Two wz Mb (.int .i64 nx) (.slice (some ⟨gp, 0, none⟩) p.length cq) 29 := by rw [← hwz]; exact (hM.set0 _).set1 _
          have BZ : Below W0.heap.size W0 wz := by rw [← hwz]; exact (Bu3.setCell (by show W0.heap.size ≤ Mb; omega) _).setCell (by show W0.heap.size ≤ Mb; omega) _
          first | rw [hwz] | skip
          refine hK.out _ _ BZ (fun _ => ?_)
          clear hK K hwz x0 x1 xf0 xf1
          refine wpAnyH_done (by kernel_rfl) ?_ _
          refine NoPanic.normal ?_
          try simp only [Exit.then]
          go_wp2_with fail
          go_meet
          exact ⟨Mb, gp, cq, rfl, hMz, hpz, by omega, by omega, BZ⟩
      · go_simp
        obtain ⟨u2, hu2⟩ : ∃ w0, u1.alloc (.cells #[.int .i64 0, .slice none 0 0] 29) = w0 := ⟨_, rfl⟩
        have Lu2 : Below u1.heap.size u1 u2 := by rw [← hu2]; exact (Below.refl _ _).alloc (Nat.le_refl _) _
        obtain ⟨Mb, hMb⟩ : ∃ q, u1.heap.size = q := ⟨_, rfl⟩
        have hM : Two u2 Mb (.int .i64 0) (.slice none 0 0) 29 := by rw [← hu2, ← hMb]; exact Two.new u1 _ _ _
        first | rw [hu2] | skip
        first | rw [hMb] | skip
        have su2 := Nat.le_trans su1 Lu2.size
        have lu2 := Lu2.size
        have MbV : Mb < u2.heap.size := hM.lt
        replace hE := hE.below Lu2
        have Bu2 := chain Bu1 Lu2
        refine hK.out _ _ Bu2 (fun _ => ?_)
        clear hK K hu2
        refine calm_one 6 (by kernel_rfl) rfl (fun K hK => ?_)
        · skip
          refine step_append_at u2 rfl (.tmp 31) (.tmp 32) 27 rfl W0.heap.size 2 i0 _ 1 8 Tryz.underlying27 hi0 hx0 hx1 hx2 rfl (by omega) ge 0 0 [] rfl hE ap p.length cp (p.map (Value.int .i64)) rfl (view_src14 (View.next HPV.out Bu2)) (by unfold maxLen; omega) (by omega) su2 u2.heap.size rfl ?_
          intro gp cq u3 hown hgrow hat hlt
          have hp : IRow W0.heap.size u3 gp cq p := IRow.of hown (by omega) (by simp)
          have lu3 := hgrow.size
          have su3 := Nat.le_trans su2 lu3
          have geW := hE.lt.1
          have Bu3 : Below W0.heap.size W0 u3 := Bu2.grown hgrow su2 (fun q e => by injection e with e; omega)
          replace hM : Two u3 Mb (.int .i64 0) (.slice none 0 0) 29 := (hgrow.block Mb hM.lt (fun e => by injection e with e; omega)).trans hM
          have hMl := hM.lt
          rw [Nat.zero_add]
          refine hK.out _ _ Bu3 (fun _ => ?_)
          clear hK K hown hgrow
          refine calm_more14 1 [7] (by kernel_rfl) (by kernel_rfl) (by kernel_rfl) Bu3 ?_
          iterate 1
            refine ⟨_, rfl, ?_⟩
            apply Exists.intro
            refine ⟨Or.inl ⟨by rfl, fun w' hw' => ?_⟩, ?_⟩
            · skip
              first
              | (go_simp; done)
              | (go_simp; with_reducible rfl)
            simp only [Act.put, List.getElem_toArray, List.getElem_cons_succ, List.getElem_cons_zero, List.setIfInBounds_toArray, List.set_cons_zero, List.set_cons_succ]
          have x0 := hM.c0
          have x1 := hM.c1
          have xf0 := hM.frozen 0
          have xf1 := hM.frozen 1
          refine calm_one 9 (by kernel_rfl) rfl (fun K hK => ?_)
          go_simp
          obtain ⟨wz, hwz⟩ : ∃ wz, (u3.setCell ⟨Mb, 0, none⟩ (.int .i64 nx)).setCell ⟨Mb, 1, none⟩ (.slice (some ⟨gp, 0, none⟩) p.length cq) = wz := ⟨_, rfl⟩
          have far : ∀ b, b ≠ Mb → wz.heap[b]? = u3.heap[b]? := fun b hb => by rw [← hwz]; exact (Below.heap_setCell _ ⟨Mb, 1, none⟩ _ b (fun e => hb e)).trans (Below.heap_setCell _ ⟨Mb, 0, none⟩ _ b (fun e => hb e))
          have hzs : u3.heap.size = wz.heap.size := by rw [← hwz, setCell_size, setCell_size]
          have hpz : IRow W0.heap.size wz gp cq p := irow_stay18 hp (far gp (by omega))
          have hMz : Two wz Mb (.int .i64 nx) (.slice (some ⟨gp, 0, none⟩) p.length cq) 29 := by rw [← hwz]; exact (hM.set0 _).set1 _
          have BZ : Below W0.heap.size W0 wz := by rw [← hwz]; exact (Bu3.setCell (by show W0.heap.size ≤ Mb; omega) _).setCell (by show W0.heap.size ≤ Mb; omega) _
          first | rw [hwz] | skip
          refine hK.out _ _ BZ (fun _ => ?_)
          clear hK K hwz x0 x1 xf0 xf1
          refine wpAnyH_done (by kernel_rfl) ?_ _
          refine NoPanic.normal ?_
          try simp only [Exit.then]
          go_wp2_with fail
          go_meet
          exact ⟨Mb, gp, cq, rfl, hMz, hpz, by omega, by omega, BZ⟩
    · go_simp
      obtain ⟨u1, hu1⟩ : ∃ w0, wv0.alloc (.cells #[.int .i64 0, .slice none 0 0] 29) = w0 := ⟨_, rfl⟩
      have Lu1 : Below wv0.heap.size wv0 u1 := by rw [← hu1]; exact (Below.refl _ _).alloc (Nat.le_refl _) _
      obtain ⟨Mb, hMb⟩ : ∃ q, wv0.heap.size = q := ⟨_, rfl⟩
      have hM : Two u1 Mb (.int .i64 0) (.slice none 0 0) 29 := by rw [← hu1, ← hMb]; exact Two.new wv0 _ _ _
      first | rw [hu1] | skip
      first | rw [hMb] | skip
      have su1 := Nat.le_trans swv0 Lu1.size
      have lu1 := Lu1.size
      have MbV : Mb < u1.heap.size := hM.lt
      have Bu1 := chain Bwv0 Lu1
      refine hK.out _ _ Bu1 (fun _ => ?_)
      clear hK K hu1
      refine calm_one 4 (by kernel_rfl) rfl (fun K hK => ?_)
      · go_simp
        obtain ⟨u2, hu2⟩ : ∃ w0, u1.alloc (.cells #[] 2) = w0 := ⟨_, rfl⟩
        have Lu2 : Below u1.heap.size u1 u2 := by rw [← hu2]; exact (Below.refl _ _).alloc (Nat.le_refl _) _
        obtain ⟨ge, hge⟩ : ∃ q, u1.heap.size = q := ⟨_, rfl⟩
        have hE : IRow W0.heap.size u2 ge 0 [] := by rw [← hu2, ← hge]; exact IRow.start u1 _ su1
        first | rw [hu2] | skip
        first | rw [hge] | skip
        have su2 := Nat.le_trans su1 Lu2.size
        have lu2 := Lu2.size
        have geV : ge < u2.heap.size := hE.lt.2
        replace hM := hM.below Lu2
        have Bu2 := chain Bu1 Lu2
        refine hK.out _ _ Bu2 (fun _ => ?_)
        clear hK K hu2
        refine calm_one 6 (by kernel_rfl) rfl (fun K hK => ?_)
        · skip
          refine step_append_at u2 rfl (.tmp 31) (.tmp 32) 27 rfl W0.heap.size 2 i0 _ 1 8 Tryz.underlying27 hi0 hx0 hx1 hx2 rfl (by omega) ge 0 0 [] rfl hE ap p.length cp (p.map (Value.int .i64)) rfl (view_src14 (View.next HPV.out Bu2)) (by unfold maxLen; omega) (by omega) su2 u2.heap.size rfl ?_
          intro gp cq u3 hown hgrow hat hlt
          have hp : IRow W0.heap.size u3 gp cq p := IRow.of hown (by omega) (by simp)
          have lu3 := hgrow.size
          have su3 := Nat.le_trans su2 lu3
          have geW := hE.lt.1
          have Bu3 : Below W0.heap.size W0 u3 := Bu2.grown hgrow su2 (fun q e => by injection e with e; omega)
          replace hM : Two u3 Mb (.int .i64 0) (.slice none 0 0) 29 := (hgrow.block Mb hM.lt (fun e => by injection e with e; omega)).trans hM
          have hMl := hM.lt
          rw [Nat.zero_add]
          refine hK.out _ _ Bu3 (fun _ => ?_)
          clear hK K hown hgrow
          refine calm_more14 1 [7] (by kernel_rfl) (by kernel_rfl) (by kernel_rfl) Bu3 ?_
          iterate 1
            refine ⟨_, rfl, ?_⟩
            apply Exists.intro
            refine ⟨Or.inl ⟨by rfl, fun w' hw' => ?_⟩, ?_⟩
            · skip
              first
              | (go_simp; done)
              | (go_simp; with_reducible rfl)
            simp only [Act.put, List.getElem_toArray, List.getElem_cons_succ, List.getElem_cons_zero, List.setIfInBounds_toArray, List.set_cons_zero, List.set_cons_succ]
          have x0 := hM.c0
          have x1 := hM.c1
          have xf0 := hM.frozen 0
          have xf1 := hM.frozen 1
          refine calm_one 9 (by kernel_rfl) rfl (fun K hK => ?_)
          go_simp
          obtain ⟨wz, hwz⟩ : ∃ wz, (u3.setCell ⟨Mb, 0, none⟩ (.int .i64 nx)).setCell ⟨Mb, 1, none⟩ (.slice (some ⟨gp, 0, none⟩) p.length cq) = wz := ⟨_, rfl⟩
          have far : ∀ b, b ≠ Mb → wz.heap[b]? = u3.heap[b]? := fun b hb => by rw [← hwz]; exact (Below.heap_setCell _ ⟨Mb, 1, none⟩ _ b (fun e => hb e)).trans (Below.heap_setCell _ ⟨Mb, 0, none⟩ _ b (fun e => hb e))
          have hzs : u3.heap.size = wz.heap.size := by rw [← hwz, setCell_size, setCell_size]
          have hpz : IRow W0.heap.size wz gp cq p := irow_stay18 hp (far gp (by omega))
          have hMz : Two wz Mb (.int .i64 nx) (.slice (some ⟨gp, 0, none⟩) p.length cq) 29 := by rw [← hwz]; exact (hM.set0 _).set1 _
          have BZ : Below W0.heap.size W0 wz := by rw [← hwz]; exact (Bu3.setCell (by show W0.heap.size ≤ Mb; omega) _).setCell (by show W0.heap.size ≤ Mb; omega) _
          first | rw [hwz] | skip
          refine hK.out _ _ BZ (fun _ => ?_)
          clear hK K hwz x0 x1 xf0 xf1
          refine wpAnyH_done (by kernel_rfl) ?_ _
          refine NoPanic.normal ?_
          try simp only [Exit.then]
          go_wp2_with fail
          go_meet
          exact ⟨Mb, gp, cq, rfl, hMz, hpz, by omega, by omega, BZ⟩
  case rest =>
    obtain ⟨Mb, gp, cq, rfl, hM, hpr, hMW, hMg, L1⟩ := hcut
    generalize hwc : wc = wo at *
    clear hwc wc
    have hgpW := hpr.lt
    have hDo : wo.heap[D]? = some (.cells #[.int .i64 wd, .slice (some ⟨gm, 0, none⟩) ds.length c, .int .i64 d, .slice va0 ts.length vc0, .int .i64 nx] 52) := (L1.block D hDl).trans hD
    have HDo := hidP hDo
    have HMo := hidP hM
    have HPR := hidP hpr
    have HL1 := hidP L1
    have hMl := hM.lt
    have hW1 := L1.size
    have BLo := hidP ((Below.refl wo.heap.size wo).drew)
    have HSo : Hid (∀ W', Below wo.heap.size wo W' → W'.cell? ⟨D, 2, none⟩ = some (.int .i64 d) ∧ W'.cell? ⟨D, 3, none⟩ = some (.slice va0 ts.length vc0) ∧ W'.cell? ⟨Mb, 0, none⟩ = some (.int .i64 nx) ∧ W'.cell? ⟨Mb, 1, none⟩ = some (.slice (some ⟨gp, 0, none⟩) p.length cq)) := fun W' L' => by
      obtain ⟨f0, f1, f2, f3, f4, -, -⟩ := five_cells ((L'.block D (by omega)).trans hDo)
      exact ⟨f2, f3, (hM.below L').c0, (hM.below L').c1⟩
    obtain ⟨LD, hLD⟩ : ∃ L, raiD (nx, p) ts d = L := ⟨_, rfl⟩
    obtain ⟨LT, hLT⟩ : ∃ L, raiS (nx, p) ts d = L := ⟨_, rfl⟩
    obtain ⟨rr, hrr⟩ : ∃ b, raiR (nx, p) ts d = b := ⟨_, rfl⟩
    have HCo : Hid (∀ W', Below wo.heap.size wo W' → Calls Tryz.prog 110 #[.agg #[.int .i64 d, .slice va0 ts.length vc0], .agg #[.int .i64 nx, .slice (some ⟨gp, 0, none⟩) p.length cq]] W' fun e w' => ∃ va vc, e = .returned (.tuple #[.agg #[.int .i64 LD, .slice va LT.length vc], .bool rr]) ∧ KeptT W'.heap.size w' va LT ∧ Below W'.heap.size W' w') := fun W' L' => by
      refine (sRaisedG va0 (some ⟨gp, 0, none⟩) vc0 cq d ts (nx, p) W' (HV.out.next (HL1.out.trans (Below.mono L' HL1.out.size))) (hpr.below L').view hpl HOK.out.1 HOK.out.2).mono ?_
      rintro e w' ⟨vt, rfl, ⟨S, vm, vl, ht⟩, L2⟩
      obtain ⟨a', c', rfl, -⟩ := ht.form
      rw [hLD, hrr]
      rw [hLT] at ht ⊢
      exact ⟨a', c', rfl, ht.kept, L2⟩
    have HLX := hidP (And.intro hLD (And.intro hLT hrr))
    clear hM hpr L1 hDo e0 e1 e2 e3 e4 ef hLD hLT hrr
    go_upto_region 4 with fail
    go_cut [6, 7] from 27 to 69 (fun v b wx => ∃ X va vc, v = .pointer (some ⟨X, 0, none⟩) ∧ b = .bool rr ∧ Two wx X (.int .i64 LD) (.slice va LT.length vc) 26 ∧ KeptT wo.heap.size wx va LT ∧ wo.heap.size ≤ X ∧ Below wo.heap.size wo wx)
    case first =>
      refine wp_region_takes (S := fun W' => Below wo.heap.size wo W') (fuel := 7) [0, 1, 2, 3, 4] (by kernel_rfl) (by kernel_rfl) (by kernel_rfl) (by kernel_rfl) BLo.out (fun _ => ?_)
      iterate 5
        refine ⟨_, rfl, ?_⟩
        apply Exists.intro
        refine ⟨Or.inl ⟨by rfl, fun w' hw' => ?_⟩, ?_⟩
        · obtain ⟨e1, e2, e3, e4⟩ := HSo.out w' hw'
          first
          | (go_simp; done)
          | (go_simp; with_reducible rfl)
        simp only [Act.put, List.getElem_toArray, List.getElem_cons_succ, List.getElem_cons_zero, List.setIfInBounds_toArray, List.set_cons_zero, List.set_cons_succ]
      obtain ⟨wv0, hv0⟩ : ∃ w0, wo.drew = w0 := ⟨_, rfl⟩
      have B0 : Below wo.heap.size wo wv0 := by rw [← hv0]; exact BLo.out
      have s0 : wo.heap.size ≤ wv0.heap.size := B0.size
      rw [hv0]
      clear hv0
      refine calm_two14 5 9 (by kernel_rfl) rfl rfl (fun K hK => ?_) (fun K hK => ?_)
      · go_simp
        refine (HCo.out wv0 B0).mono ?_
        rintro e w2 ⟨va, vc, rfl, how, L2⟩
        have LA := chain B0 L2
        refine hK.out _ _ LA (fun hS4 => ?_)
        clear hK K
        refine calm_more14 3 [6, 7, 8] (by kernel_rfl) (by kernel_rfl) (by kernel_rfl) hS4 ?_
        iterate 3
          refine ⟨_, rfl, ?_⟩
          apply Exists.intro
          refine ⟨Or.inl ⟨by rfl, fun w' hw' => ?_⟩, ?_⟩
          · skip
            first
            | (go_simp; done)
            | (go_simp; with_reducible rfl)
          simp only [Act.put, List.getElem_toArray, List.getElem_cons_succ, List.getElem_cons_zero, List.setIfInBounds_toArray, List.set_cons_zero, List.set_cons_succ]
        refine calm_one 9 (by kernel_rfl) rfl (fun K hK => ?_)
        go_simp
        refine hK.out _ _ (LA.alloc LA.size _) (fun _ => ?_)
        clear hK K
        refine calm_one 10 (by kernel_rfl) rfl (fun K hK => ?_)
        go_simp
        obtain ⟨wz, hwz⟩ : ∃ wz, w2.alloc (.cells #[.int .i64 LD, .slice va LT.length vc] 26) = wz := ⟨_, rfl⟩
        have LZ : Below w2.heap.size w2 wz := by rw [← hwz]; exact (Below.refl _ _).alloc (Nat.le_refl _) _
        have HLZ := hidP (chain LA LZ)
        have HTZ : Hid (Two wz w2.heap.size (.int .i64 LD) (.slice va LT.length vc) 26) := by show Two _ _ _ _ _; rw [← hwz]; exact Two.new w2 _ _ _
        have HOZ : Hid (KeptT wo.heap.size wz va LT) := (keptT_low how s0).step LZ.size (fun b _ h2 => LZ.block b h2)
        have HFZ : Hid (wo.heap.size ≤ w2.heap.size) := LA.size
        rw [hwz]
        refine hK.out _ _ HLZ.out (fun hS9 => ?_)
        clear hK K hwz how LA L2 LZ
        refine calm_rest [11] rfl (by kernel_rfl) (by kernel_rfl) (by kernel_rfl) hS9 ?_
        iterate 1
          refine ⟨_, rfl, ?_⟩
          apply Exists.intro
          refine ⟨Or.inl ⟨by rfl, fun w' hw' => ?_⟩, ?_⟩
          · skip
            first
            | (go_simp; done)
            | (go_simp; with_reducible rfl)
          simp only [Act.put, List.getElem_toArray, List.getElem_cons_succ, List.getElem_cons_zero, List.setIfInBounds_toArray, List.set_cons_zero, List.set_cons_succ]
        refine NoPanic.normal (NoPanic.normal ?_)
        go_wp2_with fail
        go_meet
        exact ⟨_, va, vc, rfl, rfl, HTZ.out, HOZ.out, HFZ.out, HLZ.out⟩
      · go_simp
        obtain ⟨Wx, hWx⟩ : ∃ W', wv0.alloc (.cells #[.int .i64 0, .slice none 0 0] 26) = W' := ⟨_, rfl⟩
        obtain ⟨Xb, hXb⟩ : ∃ q, wv0.heap.size = q := ⟨_, rfl⟩
        have LX : Below wo.heap.size wo Wx := by rw [← hWx]; exact B0.alloc s0 _
        have hTX : Two Wx Xb (.int .i64 0) (.slice none 0 0) 26 := by rw [← hWx, ← hXb]; exact Two.new wv0 _ _ _
        have hXo : wo.heap.size ≤ Xb := by omega
        have hXl := hTX.lt
        first | rw [hWx] | skip
        first | rw [hXb] | skip
        refine hK.out _ _ LX (fun _ => ?_)
        clear hK K hWx
        refine calm_one 5 (by kernel_rfl) rfl (fun K hK => ?_)
        go_simp
        refine (HCo.out Wx LX).mono ?_
        rintro e w2 ⟨va, vc, rfl, how, L2⟩
        have LA := chain LX L2
        have hT4 := hTX.below L2
        refine hK.out _ _ LA (fun hS4 => ?_)
        clear hK K
        refine calm_more14 2 [6, 7, 8] (by kernel_rfl) (by kernel_rfl) (by kernel_rfl) hS4 ?_
        iterate 3
          refine ⟨_, rfl, ?_⟩
          apply Exists.intro
          refine ⟨Or.inl ⟨by rfl, fun w' hw' => ?_⟩, ?_⟩
          · skip
            first
            | (go_simp; done)
            | (go_simp; with_reducible rfl)
          simp only [Act.put, List.getElem_toArray, List.getElem_cons_succ, List.getElem_cons_zero, List.setIfInBounds_toArray, List.set_cons_zero, List.set_cons_succ]
        have x0 := hT4.c0
        have x1 := hT4.c1
        have xf0 := hT4.frozen 0
        have xf1 := hT4.frozen 1
        refine calm_one 10 (by kernel_rfl) rfl (fun K hK => ?_)
        go_simp
        have HLZ := hidP ((LA.setCell (by show wo.heap.size ≤ Xb; exact hXo) (.int .i64 LD) : Below wo.heap.size wo (w2.setCell ⟨Xb, 0, none⟩ (.int .i64 LD))).setCell (by show wo.heap.size ≤ Xb; exact hXo) (.slice va LT.length vc) : Below wo.heap.size wo ((w2.setCell ⟨Xb, 0, none⟩ (.int .i64 LD)).setCell ⟨Xb, 1, none⟩ (.slice va LT.length vc)))
        have HTZ := hidP ((hT4.set0 (.int .i64 LD)).set1 (.slice va LT.length vc))
        have HOZ : Hid (KeptT wo.heap.size ((w2.setCell ⟨Xb, 0, none⟩ (.int .i64 LD)).setCell ⟨Xb, 1, none⟩ (.slice va LT.length vc)) va LT) := keptT_hop how hXl (by omega) hXo (by rw [setCell_size, setCell_size]; exact Nat.le_refl _) (fun b hb => (Below.heap_setCell _ ⟨Xb, 1, none⟩ _ b hb).trans (Below.heap_setCell _ ⟨Xb, 0, none⟩ _ b hb))
        clear how
        generalize (w2.setCell ⟨Xb, 0, none⟩ (.int .i64 LD)).setCell ⟨Xb, 1, none⟩ (.slice va LT.length vc) = wz at *
        refine hK.out _ _ HLZ.out (fun hS9 => ?_)
        clear hK K x0 x1 xf0 xf1 LA L2 hT4
        refine calm_rest [11] rfl (by kernel_rfl) (by kernel_rfl) (by kernel_rfl) hS9 ?_
        iterate 1
          refine ⟨_, rfl, ?_⟩
          apply Exists.intro
          refine ⟨Or.inl ⟨by rfl, fun w' hw' => ?_⟩, ?_⟩
          · skip
            first
            | (go_simp; done)
            | (go_simp; with_reducible rfl)
          simp only [Act.put, List.getElem_toArray, List.getElem_cons_succ, List.getElem_cons_zero, List.setIfInBounds_toArray, List.set_cons_zero, List.set_cons_succ]
        refine NoPanic.normal (NoPanic.normal ?_)
        go_wp2_with fail
        go_meet
        exact ⟨Xb, va, vc, rfl, rfl, HTZ.out, HOZ.out, hXo, HLZ.out⟩
    case rest =>
      obtain ⟨X, va, vc, rfl, rfl, hX, hKT, hXW, L5⟩ := hcut
      generalize hwc : wc = w5 at *
      clear hwc wc BLo HSo HCo
      have hD5 : w5.heap[D]? = some (.cells #[.int .i64 wd, .slice (some ⟨gm, 0, none⟩) ds.length c, .int .i64 d, .slice va0 ts.length vc0, .int .i64 nx] 52) := (L5.block D (by omega)).trans HDo.out
      have HL5 : Hid (Below W0.heap.size W0 w5) := HL1.out.trans (Below.mono L5 HL1.out.size)
      rcases hrb : rr with _ | _
      · subst hrb
        have HNO : Hid (kpB wd nx d p ts = false) := by show _ = _; rw [HKB.out]; exact HLX.out.2.2
        clear hX hKT L5 hD5
        go_wp2_with fail
        go_ret
        exact ⟨fun _ => ⟨rfl, HL5.out⟩, fun h => by rw [HNO.out] at h; cases h⟩
      · subst hrb
        have HYES : Hid (kpB wd nx d p ts = true) := by show _ = _; rw [HKB.out]; exact HLX.out.2.2
        obtain ⟨f0, f1, f2, f3, f4, ff, hDl5⟩ := five_cells hD5
        have ff2 := ff 2
        have ff3 := ff 3
        have x0 := hX.c0
        have x1 := hX.c1
        obtain ⟨w7, hw7⟩ : ∃ w7, (w5.setCell ⟨D, 2, none⟩ (.int .i64 LD)).setCell ⟨D, 3, none⟩ (.slice va LT.length vc) = w7 := ⟨_, rfl⟩
        have far7 : ∀ b, b ≠ D → w7.heap[b]? = w5.heap[b]? := fun b hb => by rw [← hw7]; exact (Below.heap_setCell _ ⟨D, 3, none⟩ _ b (fun e => hb e)).trans (Below.heap_setCell _ ⟨D, 2, none⟩ _ b (fun e => hb e))
        have hs7 : w5.heap.size = w7.heap.size := by rw [← hw7, setCell_size, setCell_size]
        have hD7 : w7.heap[D]? = some (.cells #[.int .i64 wd, .slice (some ⟨gm, 0, none⟩) ds.length c, .int .i64 LD, .slice va LT.length vc, .int .i64 nx] 52) := by
          rw [← hw7]
          exact heap_setCell_same _ D 3 _ _ _ (heap_setCell_same w5 D 2 _ _ _ hD5)
        have HC7 : Hid (Cgd (fun b => b = D ∨ b = gm) W0 w7) := ⟨by rw [← hw7]; exact HL5.out.os, by rw [← hw7]; exact HL5.out.tape, by rw [← hw7]; exact HL5.out.output, by have := HL5.out.size; omega, fun b hb hn => (far7 b (fun e => hn (Or.inl e))).trans (HL5.out.block b hb)⟩
        have HR7 : Hid (DRow base w7 gm c ds) := drow_off18 (D := D) (drow_stay HR.out (fun b _ h2 => HL5.out.block b h2)) (by omega) (fun b _ _ h3 => far7 b h3) (fun e => hDg e.symm) (fun x hx e => HDP.out x hx e)
        have hpr5 := HPR.out.below L5
        have HP7 : Hid (IRow base w7 gp cq p) := irow_stay18 (hpr5.mono (by omega)) (far7 gp (by omega))
        have hM5 := HMo.out.below L5
        have HM7 : Hid (Two w7 Mb (.int .i64 nx) (.slice (some ⟨gp, 0, none⟩) p.length cq) 29) := (far7 Mb (by omega)).trans hM5
        have HK7 : Hid (KeptT wo.heap.size w7 va LT) := hKT.step (by omega) (fun b h1 _ => far7 b (by omega))
        have hz5 := L5.size
        have HD7 := hidP hD7
        clear hX hKT L5 hD5 hpr5 hM5
        go_wp2_with fail
        first | rw [hw7] | skip
        clear f0 f1 f2 f3 f4 ff ff2 ff3 x0 x1 hw7 far7
        have hMl7 := HM7.out.lt
        have hgm7 := HR7.out.lt.2
        have hDl7 : D < w7.heap.size := by omega
        have hMgm : Mb ≠ gm := by omega
        have BS : Hid (∀ b, b < w7.heap.size → b ≠ gm → w7.drew.heap[b]? = w7.heap[b]?) := fun _ _ _ => rfl
        have HS7 : Hid (∀ X : World, (∀ b, b < w7.heap.size → b ≠ gm → X.heap[b]? = w7.heap[b]?) → X.cell? ⟨D, 1, none⟩ = some (.slice (some ⟨gm, 0, none⟩) ds.length c) ∧ X.cell? ⟨Mb, 0, none⟩ = some (.int .i64 nx) ∧ X.cell? ⟨Mb, 1, none⟩ = some (.slice (some ⟨gp, 0, none⟩) p.length cq)) := fun X hX => by
          have hd := (hX D hDl7 (fun e => hDg e)).trans hD7
          obtain ⟨_, f1, _, _, _, _, _⟩ := five_cells hd
          have hm : Two X Mb (.int .i64 nx) (.slice (some ⟨gp, 0, none⟩) p.length cq) 29 := (hX Mb hMl7 hMgm).trans HM7.out
          exact ⟨f1, hm.c0, hm.c1⟩
        clear hD7
        refine wp_region_calm2 (S := fun X => ∀ b, b < w7.heap.size → b ≠ gm → X.heap[b]? = w7.heap[b]?) (fuel := 4) [0, 1, 2, 3, 4, 5] _ rfl (by kernel_rfl) (by kernel_rfl) (by kernel_rfl) (by kernel_rfl) (by kernel_rfl) (by kernel_rfl) (by kernel_rfl) BS.out (fun hS => ?_)
        simp only [List.pop_toArray, List.dropLast]
        iterate 6
          refine ⟨_, rfl, ?_⟩
          apply Exists.intro
          refine ⟨Or.inl ⟨by rfl, fun w' hw' => ?_⟩, ?_⟩
          · obtain ⟨e1, e2, e3⟩ := HS7.out w' hw'
            first
            | (go_simp; done)
            | (go_simp; with_reducible rfl)
          simp only [Act.put, List.getElem_toArray, List.getElem_cons_succ, List.getElem_cons_zero, List.setIfInBounds_toArray, List.set_cons_zero, List.set_cons_succ]
        refine calm_one 6 (by kernel_rfl) rfl (fun K hK => ?_)
        go_simp
        obtain ⟨w8, hw8⟩ : ∃ w8, (w7.alloc (.cells #[.int .i64 nx, .slice (some ⟨gp, 0, none⟩) p.length cq] 29)).drew = w8 := ⟨_, rfl⟩
        have L8 : Below w7.heap.size w7 w8 := by rw [← hw8]; exact ((Below.refl _ _).alloc (Nat.le_refl _) _).drew
        have hN8 : w8.heap[w7.heap.size]? = some (.cells #[.int .i64 nx, .slice (some ⟨gp, 0, none⟩) p.length cq] 29 (0, 0)) := by rw [← hw8]; exact heap_alloc_new w7 _
        have hs8 : w8.heap.size = w7.heap.size + 1 := by rw [← hw8]; exact World.size_alloc w7 _
        have HR8 : Hid (DRow base w8 gm c ds) := drow_stay HR7.out (fun b _ h2 => L8.block b h2)
        have HP8 := hidP (HP7.out.below L8)
        have HN8 := hidP hN8
        have hS8 : ∀ b, b < w7.heap.size → b ≠ gm → w8.heap[b]? = w7.heap[b]? := fun b h1 _ => L8.block b h1
        first | rw [hw8] | skip
        refine hK.out _ _ hS8 (fun _ => ?_)
        clear hK K hw8 hN8
        refine calm_one 7 (by kernel_rfl) rfl (fun K hK => ?_)
        refine step_append_at w8 rfl (.tmp 54) (.tmp 56) 44 rfl base 29 j0 _ 2 32 Tryz.underlying44 hj0 hy0 hy1 hy2 rfl (by omega) gm ds.length c (dCells ds) rfl HR8.out.1 (some ⟨w7.heap.size, 0, none⟩) 1 1 [.int .i64 nx, .slice (some ⟨gp, 0, none⟩) p.length cq] rfl (dmark_src HN8.out) (by unfold maxLen; omega) (by omega) (by omega) w8.heap.size rfl ?_
        intro g9 c9 w9 hown hgrow hat hlt9
        have HR9 : Hid (DRow base w9 g9 c9 (ds ++ [(nx, gp, cq, p)])) := DRow.snoc HR8.out HP8.out (by omega) (fun x hx => by have := (HR.out.2.1 x hx).1.lt2; omega) hown hgrow (by rcases hat with e | e; exact Or.inl e.symm; exact Or.inr e)
        have hS9 : ∀ b, b < w7.heap.size → b ≠ gm → w9.heap[b]? = w7.heap[b]? := fun b h1 h2 => (hgrow.block b (by omega) (fun e => h2 (by injection e))).trans (L8.block b h1)
        have hs9 : w7.heap.size < w9.heap.size := by have := hgrow.size; omega
        have HC9 : Hid (Cgd (fun b => b = D ∨ b = gm) W0 w9) := HC7.out.trans ⟨hgrow.os.trans L8.os, hgrow.tape.trans L8.tape, hgrow.output.trans L8.output, by omega, fun b h1 h2 => hS9 b h1 (fun e => h2 (Or.inr e))⟩
        have HK9 : Hid (KeptT wo.heap.size w9 va LT) := HK7.out.step (by omega) (fun b h1 h2 => hS9 b h2 (by omega))
        have hg9 : g9 ≠ D := by rcases hat with e | e <;> omega
        refine hK.out _ _ hS9 (fun _ => ?_)
        clear hK K hown hgrow
        refine calm_one 8 (by kernel_rfl) rfl (fun K hK => ?_)
        go_simp
        refine hK.out _ _ hS9 (fun _ => ?_)
        clear hK K
        refine calm_one 9 (by kernel_rfl) rfl (fun K hK => ?_)
        go_simp
        refine hK.out _ _ hS9 (fun _ => ?_)
        clear hK K
        refine wpAnyH_done (by kernel_rfl) ?_ _
        simp only [Exit.then]
        have hD9 : w9.heap[D]? = some (.cells #[.int .i64 wd, .slice (some ⟨gm, 0, none⟩) ds.length c, .int .i64 LD, .slice va LT.length vc, .int .i64 nx] 52) := (hS9 D hDl7 hDg).trans HD7.out
        obtain ⟨f0, f1, f2, f3, f4, ff, hDl9⟩ := five_cells hD9
        have ff1 := ff 1
        have ff4 := ff 4
        have hm9 : Two w9 Mb (.int .i64 nx) (.slice (some ⟨gp, 0, none⟩) p.length cq) 29 := (hS9 Mb hMl7 hMgm).trans HM7.out
        have m0 := hm9.c0
        obtain ⟨wa, hwa⟩ : ∃ wa, w9.setCell ⟨D, 1, none⟩ (.slice (some ⟨g9, 0, none⟩) (ds.length + 1) c9) = wa := ⟨_, rfl⟩
        have hDa : wa.heap[D]? = some (.cells #[.int .i64 wd, .slice (some ⟨g9, 0, none⟩) (ds.length + 1) c9, .int .i64 LD, .slice va LT.length vc, .int .i64 nx] 52) := by rw [← hwa]; exact heap_setCell_same w9 D 1 _ _ _ hD9
        have fara : ∀ b, b ≠ D → wa.heap[b]? = w9.heap[b]? := fun b hb => by rw [← hwa]; exact Below.heap_setCell _ ⟨D, 1, none⟩ _ b (fun e => hb e)
        have hsa : w9.heap.size = wa.heap.size := by rw [← hwa, setCell_size]
        go_wp2_with fail
        refine NoPanic.normal ?_
        first | rw [hwa] | skip
        clear f0 f1 f2 f3 f4 ff ff1 ff4 m0
        obtain ⟨q0, q1, q2, q3, q4, qf, hDla⟩ := five_cells hDa
        have qf4 := qf 4
        have hma : Two wa Mb (.int .i64 nx) (.slice (some ⟨gp, 0, none⟩) p.length cq) 29 := (fara Mb (by omega)).trans hm9
        have m0 := hma.c0
        obtain ⟨wb, hwb⟩ : ∃ wb, wa.setCell ⟨D, 4, none⟩ (.int .i64 (nx + 1)) = wb := ⟨_, rfl⟩
        have hDb : wb.heap[D]? = some (.cells #[.int .i64 wd, .slice (some ⟨g9, 0, none⟩) (ds.length + 1) c9, .int .i64 LD, .slice va LT.length vc, .int .i64 (nx + 1)] 52) := by rw [← hwb]; exact heap_setCell_same wa D 4 _ _ _ hDa
        have farb : ∀ b, b ≠ D → wb.heap[b]? = w9.heap[b]? := fun b hb => by rw [← hwb]; exact (Below.heap_setCell _ ⟨D, 4, none⟩ _ b (fun e => hb e)).trans (fara b hb)
        have hsb : w9.heap.size = wb.heap.size := by rw [← hwb, setCell_size]; exact hsa
        have hmb : Two wb Mb (.int .i64 nx) (.slice (some ⟨gp, 0, none⟩) p.length cq) 29 := (farb Mb (by omega)).trans hm9
        have m1 := hmb.c0
        have HCb : Hid (Cgd (fun b => b = D ∨ b = gm) W0 wb) := HC9.out.trans ⟨by rw [← hwb, ← hwa]; rfl, by rw [← hwb, ← hwa]; rfl, by rw [← hwb, ← hwa]; rfl, by omega, fun b _ h2 => farb b (fun e => h2 (Or.inl e))⟩
        have HKb : Hid (KeptT wo.heap.size wb va LT) := HK9.out.step (by omega) (fun b h1 _ => farb b (by omega))
        have HRb : Hid (∀ W' : World, wb.heap.size ≤ W'.heap.size → (∀ b, base ≤ b → b < wb.heap.size → b ≠ D → W'.heap[b]? = wb.heap[b]?) → MView W' (some ⟨g9, 0, none⟩) (dMarks ds ++ [(nx, p)])) := fun W' h1 h2 => by
          have h3 := (drow_off18 (D := D) HR9.out (w' := W') (by omega) (fun b h4 h5 h6 => (h2 b h4 (by omega) h6).trans (farb b h6)) hg9 (fun x hx e => by
            rcases List.mem_append.1 hx with hx | hx
            · exact HDP.out x hx e
            · rw [List.mem_singleton.1 hx] at e
              have e' : gp = D := e
              omega)).view
          have h4 : dMarks (ds ++ [(nx, gp, cq, p)]) = dMarks ds ++ [(nx, p)] := by simp [dMarks]
          rw [h4] at h3
          exact h3
        have HDb := hidP hDb
        clear hDa hDb hma hmb hm9 hD9 fara farb
        have hwr : wrap64 (nx + 1) = nx + 1 := by have := HNB.out; unfold wrap64; omega
        go_wp2_with fail
        first | rw [hwr, hwb] | rw [hwb] | skip
        go_wp2_with fail
        go_ret
        refine ⟨(fun h => by rw [HYES.out] at h; cases h), fun _ => ⟨rfl, g9, c9, va, vc, ?_, HRb.out, ?_, HCb.out⟩⟩
        · rw [HLX.out.1, HLX.out.2.1]; exact HDb.out
        · rw [HLX.out.2.1]; exact keptT_low HKb.out (by omega)
end Go.Proofs.YtaaagmgglolibaaGreat
namespace Go.Proofs.YtaaagmgglolibaaGreat
open Go Go.RowKit

/-- A state's value that reads as told. -/
def StV (w : World) (v : Value) (wd : Int) (ms : List Mk) (d : Int) (ts : List Wb) (nx : Int) : Prop := ∃ am cm aw cw, v = .agg #[.int .i64 wd, .slice am ms.length cm, .int .i64 d, .slice aw ts.length cw, .int .i64 nx] ∧ MView w am ms ∧ WbView true w aw ts
theorem StV.next {w w' : World} {v : Value} {wd : Int} {ms : List Mk} {d : Int} {ts : List Wb} {nx : Int} (h : StV w v wd ms d ts nx) (L : Below w.heap.size w w') : StV w' v wd ms d ts nx := by
  obtain ⟨am, cm, aw, cw, e, h1, h2⟩ := h
  exact ⟨am, cm, aw, cw, e, h1.next L, h2.next L⟩

def kpMs (b : Bool) (ms : List Mk) (nx : Int) (p : List Int) : List Mk := if b = true then ms ++ [(nx, p)] else ms
def kpDd (b : Bool) (nx : Int) (p : List Int) (ts : List Wb) (d : Int) : Int := if b = true then raiD (nx, p) ts d else d
def kpTs (b : Bool) (nx : Int) (p : List Int) (ts : List Wb) (d : Int) : List Wb := if b = true then raiS (nx, p) ts d else ts
def kpNx (b : Bool) (nx : Int) : Int := if b = true then nx + 1 else nx
def kpRr (b : Bool) (nx : Int) : Int := if b = true then nx else -1
theorem stB_nx18 {wd : Int} {ms : List Mk} {d : Int} {ts : List Wb} {nx : Int} (h : stB wd ms d ts nx = true) : 0 ≤ nx ∧ nx ≤ 1000000 := by
  simp only [stB, inR, Bool.and_eq_true, decide_eq_true_eq] at h
  omega
theorem cgd_below18 {P : Nat → Prop} {w w' : World} (L : Below w.heap.size w w') : Cgd P w w' := ⟨by cases L; assumption, by cases L; assumption, by cases L; assumption, L.size, fun b hb _ => L.block b hb⟩

set_option maxRecDepth 100000 in
set_option maxHeartbeats 4000000 in
theorem sKept18 (v : Bool) (am aw : Option Addr) (cm cw : Nat) (wd : Int) (ms : List Mk) (d : Int) (ts : List Wb) (nx : Int) (ap : Option Addr) (cp : Nat) (p : List Int) (w : World) (hm : MView w am ms) (hv : WbView v w aw ts) (hp : View w ap p) (hpl : p.length ≤ 1048576) (hsm : StSmall ms ts) (hst : stB wd ms d ts nx = true) (hmb : marksB ms = true) (hok : towB d ts = true) :
    Calls Tryz.prog 37 #[.agg #[.int .i64 wd, .slice am ms.length cm, .int .i64 d, .slice aw ts.length cw, .int .i64 nx], .slice ap p.length cp] w fun e w' => ∃ x, e = .returned (.tuple #[x, .int .i64 (kpRr (kpB wd nx d p ts) nx)]) ∧ StV w' x wd (kpMs (kpB wd nx d p ts) ms nx p) (kpDd (kpB wd nx d p ts) nx p ts d) (kpTs (kpB wd nx d p ts) nx p ts d) (kpNx (kpB wd nx d p ts) nx) ∧ Below w.heap.size w w' := by
  obtain ⟨W1, hW1⟩ : ∃ W, w.alloc (.cells #[.int .i64 wd, .slice am ms.length cm, .int .i64 d, .slice aw ts.length cw, .int .i64 nx] 52) = W := ⟨_, rfl⟩
  have hB1 : Below w.heap.size w W1 := by rw [← hW1]; exact (Below.refl _ _).alloc (Nat.le_refl _) _
  have hI1 : StIn v W1 w.heap.size am aw cm cw wd ms d ts nx := by rw [← hW1]; exact StIn.box hm hv
  obtain ⟨W, hW⟩ : ∃ W, W1.alloc (.cells #[.int .i64 0, .slice none 0 0, .int .i64 0, .slice none 0 0, .int .i64 0] 52) = W := ⟨_, rfl⟩
  have hB2 : Below W1.heap.size W1 W := by rw [← hW]; exact (Below.refl _ _).alloc (Nat.le_refl _) _
  have s1 : W1.heap.size = w.heap.size + 1 := by rw [← hW1]; simp
  have s2 : W.heap.size = w.heap.size + 1 + 1 := by rw [← hW]; simp [s1]
  have TR : W.heap[w.heap.size + 1]? = some (.cells #[.int .i64 0, .slice none 0 0, .int .i64 0, .slice none 0 0, .int .i64 0] 52) := by rw [← hW, ← s1]; exact heap_alloc_new W1 _
  have hI := hI1.below hB2
  have HB := hidP (chain hB1 hB2)
  have HI := hidP hI
  have HTR := hidP TR
  have HSZ := hidP s2
  have HC := hidP (sStateOk v am aw cm cw wd ms d ts nx W hI.mv hI.wv hsm)
  rw [hst] at HC
  have HCP := hidP (fun (W' : World) (L : Below W.heap.size W W') => sCopyS v am aw cm cw wd ms d ts nx W' (hI.below L).mv (hI.below L).wv hmb hok)
  have H60 := hidP (marksB_len hmb)
  have HNB := hidP (stB_nx18 hst)
  have HP := hidP (And.intro hp hpl)
  have HOKS := hidP (And.intro hok hsm.2.1)
  have k0 := hI.c0
  have k1 := hI.c1
  have k2 := hI.c2
  have k3 := hI.c3
  have k4 := hI.c4
  have HWW : Hid ((w.alloc (.cells #[.int .i64 wd, .slice am ms.length cm, .int .i64 d, .slice aw ts.length cw, .int .i64 nx] 52)).alloc (.cells #[.int .i64 0, .slice none 0 0, .int .i64 0, .slice none 0 0, .int .i64 0] 52) = W) := by show _ = _; rw [hW1, hW]
  clear hp hpl hm hv hB1 hI1 hB2 TR hI s1 s2 hW hW1 hok hmb hsm hst
  go_enter Tryz.func37, Tryz.ntmps37
  go_upto_region 1 with fail
  rw [HWW.out]
  clear HWW
  go_wp2_with fail
  refine HC.out.mono ?_
  rintro e w1 ⟨rfl, L1⟩
  clear k0 k1 k2 k3 k4
  have hI1 := HI.out.below L1
  have k0 := hI1.c0
  have k1 := hI1.c1
  have k2 := hI1.c2
  have k3 := hI1.c3
  have k4 := hI1.c4
  have HCP1 := hidP (HCP.out w1 L1)
  have HL1 := hidP L1
  clear hI1 L1
  go_wp2_with fail
  refine HCP1.out.mono ?_
  rintro e w2 ⟨gm, c, vt, rfl, ⟨ds, hds, hcp⟩, L2⟩
  clear k0 k1 k2 k3 k4
  obtain ⟨B, hdr, hct, hgB, hdB, hbB⟩ := hcp
  obtain ⟨ta, tc, rfl, -, -⟩ := hct.form
  have hdl : ds.length = ms.length := by rw [← hds, dMarks_length]
  obtain ⟨w3, hw3⟩ : ∃ w3, w2.alloc (.cells #[.int .i64 wd, .slice (some ⟨gm, 0, none⟩) ms.length c, .int .i64 d, .slice ta ts.length tc, .int .i64 nx] 52) = w3 := ⟨_, rfl⟩
  have L3 : Below w2.heap.size w2 w3 := by rw [← hw3]; exact (Below.refl _ _).alloc (Nat.le_refl _) _
  have t3 : w3.heap[w2.heap.size]? = some (.cells #[.int .i64 wd, .slice (some ⟨gm, 0, none⟩) ms.length c, .int .i64 d, .slice ta ts.length tc, .int .i64 nx] 52) := by rw [← hw3]; exact heap_alloc_new w2 _
  have hsz1 := HL1.out.size
  have hs2 := HSZ.out
  have hdr3 : DRow (w1.heap.size + 1 + 1) w3 gm c ds := drow_stay hdr (fun b _ hb => L3.block b hb)
  have hct3 : ∃ S vm vl, TsR false B w3 (.slice ta ts.length tc) ts S vm vl ∧ ∀ b, FtR (.slice ta ts.length tc) ts.length S b → b < w2.heap.size := by
    obtain ⟨S, vm, vl, ht⟩ := hct
    exact ⟨S, vm, vl, ht.next L3, fun b hb => (ht.bnd b hb).2⟩
  have hgmlt := hdr.lt
  have hwv3 : WbView true w3 ta ts := by
    obtain ⟨S, vm, vl, ht, -⟩ := hct3
    obtain ⟨a', c', e', -, hv'⟩ := ht.form
    injection e' with e1 e2 e3
    rw [e1]; exact hv'
  have hkt3 : KeptT B w3 ta ts := by
    obtain ⟨S, vm, vl, ht, -⟩ := hct3
    exact ht.kept
  have hB3 : Below w.heap.size w w3 := (HB.out.trans (Below.mono HL1.out (by omega))).trans ((Below.mono L2 (by omega)).trans (Below.mono L3 (by have := L2.size; omega)))
  have hz23 := L2.size
  have HGG := hidP (sKeptG (w1.heap.size + 1 + 1) w2.heap.size gm c ds wd d nx ta tc ts ap cp p w3 (by rw [hdl]; exact t3) hdr3 hwv3 (HP.out.1.next hB3) HP.out.2 HOKS.out.1 HOKS.out.2 (by rw [hdl]; exact H60.out) (fun x hx => by have := (hdr.2.1 x hx).1.lt2.2; omega) HNB.out)
  have HKT := hidP hkt3
  have HSW : Hid (w.heap.size + 1 < B) := by show _ < _; have := HSZ.out; omega
  have HBW : Hid (Below W.heap.size W w3) := chain (chain HL1.out (Below.mono L2 (Nat.le_refl _))) L3
  have HCT := hidP (And.intro hct3 (And.intro hgmlt hbB))
  have HT3 := hidP t3
  have HDS := hidP (And.intro hds hdl)
  have HDR := hidP hdr3
  have HW3 := hidP hw3
  have HZ3 : Hid (w3.heap.size = w2.heap.size + 1) := by show _ = _; rw [← hw3]; simp
  have HDG : Hid (gm ≠ w2.heap.size ∧ ∀ x ∈ ds, x.2.1 ≠ w2.heap.size) := ⟨by omega, fun x hx => by have := (hdr.2.1 x hx).1.lt2.2; omega⟩
  clear hwv3 hkt3 hB3 hz23 hdr hct hds hgB hdB hdr3 hct3 L2 L3 t3 hw3 hgmlt hdl HCP1 HCP
  go_upto_region 4 with fail
  rw [HW3.out]
  go_wp2_with fail
  refine HGG.out.mono ?_
  rintro e w4 ⟨hno, hyes⟩
  have hX : ∃ r a n c2 dd va m3 c3 nn, e = .returned (.int .i64 r) ∧ r = kpRr (kpB wd nx d p ts) nx ∧ w4.heap[w2.heap.size]? = some (.cells #[.int .i64 wd, .slice a n c2, .int .i64 dd, .slice va m3 c3, .int .i64 nn] 52) ∧ n = (kpMs (kpB wd nx d p ts) ms nx p).length ∧ dd = kpDd (kpB wd nx d p ts) nx p ts d ∧ m3 = (kpTs (kpB wd nx d p ts) nx p ts d).length ∧ nn = kpNx (kpB wd nx d p ts) nx ∧ (∀ W' : World, w4.heap.size ≤ W'.heap.size → (∀ b, w1.heap.size + 1 + 1 ≤ b → b < w4.heap.size → b ≠ w2.heap.size → W'.heap[b]? = w4.heap[b]?) → MView W' a (kpMs (kpB wd nx d p ts) ms nx p)) ∧ KeptT (w.heap.size + 1 + 1) w4 va (kpTs (kpB wd nx d p ts) nx p ts d) ∧ Cgd (fun b => b = w2.heap.size ∨ b = gm) w3 w4 := by
    rcases hb : (kpB wd nx d p ts) with _ | _
    · obtain ⟨rfl, L⟩ := hno hb
      refine ⟨_, some ⟨gm, 0, none⟩, ms.length, c, d, ta, ts.length, tc, nx, rfl, rfl, (L.block _ (five_cells HT3.out).2.2.2.2.2.2).trans HT3.out, rfl, rfl, rfl, rfl, fun W' h1 h2 => ?_, keptT_low (HKT.out.step L.size (fun b _ hb2 => L.block b hb2)) (by have := HSW.out; omega), cgd_below18 L⟩
      have := (drow_off18 (D := w2.heap.size) (drow_stay HDR.out (fun b _ hb => L.block b hb)) (w' := W') h1 h2 HDG.out.1 HDG.out.2).view
      rw [HDS.out.1] at this
      exact this
    · obtain ⟨rfl, g, c2, va, vc, h1, h2, h3, h4⟩ := hyes hb
      rw [HDS.out.1] at h2
      rw [HDS.out.2] at h1
      exact ⟨_, _, _, c2, _, va, _, vc, _, rfl, rfl, h1, by simp [kpMs], rfl, rfl, rfl, h2, keptT_low h3 (by have := HBW.out.size; have := HSZ.out; omega), h4⟩
  clear hno hyes HGG
  obtain ⟨r, a, n, c2, dd, va, m3, c3, nn, rfl, hr4, t4, hn4, hd4, hm4, hx4, hview, hkt, hch⟩ := hX
  have hz4 := hch.2.2.2.1
  have hz3 := HBW.out.size
  have tr4 := (hch.2.2.2.2 (w.heap.size + 1) (by omega) (fun hq => by have := HCT.out.2.1; rcases hq with hq | hq <;> omega)).trans ((HBW.out.block (w.heap.size + 1) (by omega)).trans HTR.out)
  obtain ⟨e0, e1, e2, e3, e4, -, -⟩ := five_cells t4
  obtain ⟨r0, r1, r2, r3, r4, rf, hrl⟩ := five_cells tr4
  have rf0 := rf 0
  have rf1 := rf 1
  have rf2 := rf 2
  have rf3 := rf 3
  have rf4 := rf 4
  have t5 : _ = some (Obj.cells #[.int .i64 wd, .slice a n c2, .int .i64 dd, .slice va m3 c3, .int .i64 nn] 52) := five_allc tr4
  obtain ⟨q0, q1, q2, q3, q4, -, -⟩ := five_cells t5
  obtain ⟨wz, hwz⟩ : ∃ wz, ((((w4.setCell ⟨w.heap.size + 1, 0, none⟩ (.int .i64 wd)).setCell ⟨w.heap.size + 1, 1, none⟩ (.slice a n c2)).setCell ⟨w.heap.size + 1, 2, none⟩ (.int .i64 dd)).setCell ⟨w.heap.size + 1, 3, none⟩ (.slice va m3 c3)).setCell ⟨w.heap.size + 1, 4, none⟩ (.int .i64 nn) = wz := ⟨_, rfl⟩
  have far : ∀ b, b ≠ w.heap.size + 1 → wz.heap[b]? = w4.heap[b]? := fun b hb => by rw [← hwz]; exact five_farc hb
  have hsw : wz.heap.size = w4.heap.size := by rw [← hwz]; simp [World.setCell]
  have L4 : Below w.heap.size w w4 := (HB.out.trans (Below.mono HBW.out (by omega))).trans (hch.below (by omega) (fun b hb => by have := HCT.out.2.1; rcases hb with hb | hb <;> omega))
  have BZ : Below w.heap.size w wz := by
    have ho : w.heap.size ≤ w.heap.size + 1 := by omega
    rw [← hwz]; exact (((((L4.setCell (p := ⟨w.heap.size + 1, 0, none⟩) ho _).setCell (p := ⟨w.heap.size + 1, 1, none⟩) ho _).setCell (p := ⟨w.heap.size + 1, 2, none⟩) ho _).setCell (p := ⟨w.heap.size + 1, 3, none⟩) ho _).setCell (p := ⟨w.heap.size + 1, 4, none⟩) ho _)
  have hmvz : MView wz a (kpMs (kpB wd nx d p ts) ms nx p) := hview wz (by omega) (fun b hb _ _ => far b (by omega))
  have hwvz : WbView true wz va (kpTs (kpB wd nx d p ts) nx p ts d) := hkt wz (by omega) (fun b hb _ => far b (by omega))
  have HZ : Hid (MView wz a (kpMs (kpB wd nx d p ts) ms nx p) ∧ WbView true wz va (kpTs (kpB wd nx d p ts) nx p ts d) ∧ Below w.heap.size w wz) := ⟨hmvz, hwvz, BZ⟩
  have HWZ := hidP hwz
  have HEQ := hidP (And.intro hr4 (And.intro hn4 (And.intro hd4 (And.intro hm4 hx4))))
  clear hr4 hn4 hd4 hm4 hx4 hkt t4 tr4 rf t5 far hsw L4 BZ hmvz hwvz hwz hview hch HDR HT3 HCT HBW HTR HW3
  go_wp2_with fail
  refine bodyPost_ret (v := .tuple #[.agg #[.int .i64 wd, .slice a n c2, .int .i64 dd, .slice va m3 c3, .int .i64 nn], .int .i64 r]) (by simp [results, Tryz.results37, go_sem, q0, q1, q2, q3, q4]) rfl ?_
  rw [HWZ.out]
  obtain ⟨g1, g2, g3, g4, g5⟩ := HEQ.out
  rw [g1, g2, g3, g4, g5]
  exact ⟨_, rfl, ⟨_, _, _, _, rfl, HZ.out.1, HZ.out.2.1⟩, HZ.out.2.2⟩

set_option maxRecDepth 100000 in
set_option maxHeartbeats 2000000 in
theorem sKept18_no (v : Bool) (am aw : Option Addr) (cm cw : Nat) (wd : Int) (ms : List Mk) (d : Int) (ts : List Wb) (nx : Int) (ap : Option Addr) (cp : Nat) (p : List Int) (w : World) (hm : MView w am ms) (hv : WbView v w aw ts) (hsm : StSmall ms ts) (hst : stB wd ms d ts nx = false) :
    Calls Tryz.prog 37 #[.agg #[.int .i64 wd, .slice am ms.length cm, .int .i64 d, .slice aw ts.length cw, .int .i64 nx], .slice ap p.length cp] w fun e w' => e = .returned (.tuple #[.agg #[.int .i64 0, .slice none 0 0, .int .i64 0, .slice none 0 0, .int .i64 0], .int .i64 (-1)]) ∧ Below w.heap.size w w' := by
  obtain ⟨W1, hW1⟩ : ∃ W, w.alloc (.cells #[.int .i64 wd, .slice am ms.length cm, .int .i64 d, .slice aw ts.length cw, .int .i64 nx] 52) = W := ⟨_, rfl⟩
  have hB1 : Below w.heap.size w W1 := by rw [← hW1]; exact (Below.refl _ _).alloc (Nat.le_refl _) _
  have hI1 : StIn v W1 w.heap.size am aw cm cw wd ms d ts nx := by rw [← hW1]; exact StIn.box hm hv
  obtain ⟨W, hW⟩ : ∃ W, W1.alloc (.cells #[.int .i64 0, .slice none 0 0, .int .i64 0, .slice none 0 0, .int .i64 0] 52) = W := ⟨_, rfl⟩
  have hB2 : Below W1.heap.size W1 W := by rw [← hW]; exact (Below.refl _ _).alloc (Nat.le_refl _) _
  have s1 : W1.heap.size = w.heap.size + 1 := by rw [← hW1]; simp
  have TR : W.heap[w.heap.size + 1]? = some (.cells #[.int .i64 0, .slice none 0 0, .int .i64 0, .slice none 0 0, .int .i64 0] 52) := by rw [← hW, ← s1]; exact heap_alloc_new W1 _
  have hI := hI1.below hB2
  have HB := hidP (chain hB1 hB2)
  have HTR := hidP TR
  have HC := hidP (sStateOk v am aw cm cw wd ms d ts nx W hI.mv hI.wv hsm)
  rw [hst] at HC
  have k0 := hI.c0
  have k1 := hI.c1
  have k2 := hI.c2
  have k3 := hI.c3
  have k4 := hI.c4
  have HWW : Hid ((w.alloc (.cells #[.int .i64 wd, .slice am ms.length cm, .int .i64 d, .slice aw ts.length cw, .int .i64 nx] 52)).alloc (.cells #[.int .i64 0, .slice none 0 0, .int .i64 0, .slice none 0 0, .int .i64 0] 52) = W) := by show _ = _; rw [hW1, hW]
  clear hm hv hB1 hI1 hB2 TR hI s1 hW hW1 hsm hst
  go_enter Tryz.func37, Tryz.ntmps37
  go_upto_region 1 with fail
  rw [HWW.out]
  clear HWW
  go_wp2_with fail
  refine HC.out.mono ?_
  rintro e w1 ⟨rfl, L1⟩
  obtain ⟨r0, r1, r2, r3, r4, rf, hrl⟩ := five_cells ((L1.block _ (five_cells HTR.out).2.2.2.2.2.2).trans HTR.out)
  have rf0 := rf 0
  have rf1 := rf 1
  have rf2 := rf 2
  have rf3 := rf 3
  have rf4 := rf 4
  have HB1 := hidP (chain HB.out L1)
  clear L1 rf k0 k1 k2 k3 k4
  go_wp2_with fail
  refine bodyPost_ret (v := .tuple #[.agg #[.int .i64 0, .slice none 0 0, .int .i64 0, .slice none 0 0, .int .i64 0], .int .i64 (-1)]) (by simp [results, Tryz.results37, go_sem, r0, r1, r2, r3, r4]) rfl ?_
  have ho : w.heap.size ≤ w.heap.size + 1 := by omega
  exact ⟨rfl, (((((HB1.out.setCell (p := ⟨w.heap.size + 1, 0, none⟩) ho _).setCell (p := ⟨w.heap.size + 1, 1, none⟩) ho _).setCell (p := ⟨w.heap.size + 1, 2, none⟩) ho _).setCell (p := ⟨w.heap.size + 1, 3, none⟩) ho _).setCell (p := ⟨w.heap.size + 1, 4, none⟩) ho _)⟩
end Go.Proofs.YtaaagmgglolibaaGreat
