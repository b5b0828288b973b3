/-
  A new state: both NewState, and what the law does with it.
  The walk of FnExactNewState.
-/
import Derived.Test.YtfbhohpbhjlihaaStImpZz
import Derived.Test.YtfbhohpbhjlihaaStMemZz
import Derived.Test.YtfbhohpbhjlihaaFeHelpZz
namespace Go.Proofs.Ytfbhohpbhjlihaa
open Go Go.RowKit

theorem New4.set {w : World} {b q i : Nat} {v : Value} (h : New4 w b) (hq : q ≠ b) : New4 (w.setCell ⟨q, i, none⟩ v) b :=
  ⟨by simpa [World.setCell] using h.1, fun j hj => (cell_set_far (a := ⟨b, j, none⟩) (fun e => hq e.symm)).trans (h.2 j hj)⟩
/-- No webs, or four without anything. -/
def Em (w : World) (aw : Option Addr) (ts : List Wb) : Prop := (aw = none ∧ ts = []) ∨ ∃ b, aw = some ⟨b, 0, none⟩ ∧ ts = emp4 ∧ New4 w b
theorem Em.next {w w' : World} {aw : Option Addr} {ts : List Wb} (h : Em w aw ts) (L : Below w.heap.size w w') : Em w' aw ts := by
  rcases h with h | ⟨b, h1, h2, h3⟩
  · exact Or.inl h
  · exact Or.inr ⟨b, h1, h2, h3.next L⟩
theorem Em.view {w : World} {aw : Option Addr} {ts : List Wb} (h : Em w aw ts) : WbView true w aw ts := by
  rcases h with h | ⟨b, h1, h2, h3⟩
  · exact Or.inl h.2
  · rw [h1, h2]; exact h3.view
theorem Em.small {w : World} {aw : Option Addr} {ts : List Wb} (h : Em w aw ts) : StSmall [] ts := by
  refine ⟨⟨by simp, fun i => by simp [mat]⟩, ?_, ?_⟩
  · rcases h with h | ⟨b, h1, h2, h3⟩
    · rw [h.2]; exact ⟨by simp, fun i => by simp [wnth, MSmall, CSmall, mat, cn]⟩
    · rw [h2]; exact emp4_small
  · rcases h with h | ⟨b, h1, h2, h3⟩
    · rw [h.2]; decide
    · rw [h2]; decide

set_option maxHeartbeats 400000 in
theorem markWS_nil16 (w : World) :
    Calls Try.prog 63 #[.slice none 0 0, .int .i64 1] w fun e w' => e = .returned (.int .i64 1) ∧ w' = w := by
  go_enter Try.func63, Try.ntmps63
  go_wp2
  refine wp_loop_rounds 1 ?_
  rw [rounds_succ]
  go_wp2
  go_ret
  exact ⟨rfl, rfl⟩
set_option maxHeartbeats 400000 in
theorem heldWS_nil16 (w : World) :
    Calls Try.prog 65 #[.slice none 0 0, .int .i64 1] w fun e w' => e = .returned (.int .i64 1) ∧ w' = w := by
  go_enter Try.func65, Try.ntmps65
  go_wp2
  refine wp_loop_rounds 1 ?_
  rw [rounds_succ]
  go_wp2
  go_ret
  exact ⟨rfl, rfl⟩
theorem markWS_em {aw : Option Addr} {ts : List Wb} (w : World) (h : Em w aw ts) :
    Calls Try.prog 63 #[.slice aw ts.length ts.length, .int .i64 1] w fun e w' => e = .returned (.int .i64 1) ∧ w' = w := by
  rcases h with ⟨rfl, rfl⟩ | ⟨b, rfl, rfl, h3⟩
  · exact markWS_nil16 w
  · exact markWS_new b w h3
theorem heldWS_em {aw : Option Addr} {ts : List Wb} (w : World) (h : Em w aw ts) :
    Calls Try.prog 65 #[.slice aw ts.length ts.length, .int .i64 1] w fun e w' => e = .returned (.int .i64 1) ∧ w' = w := by
  rcases h with ⟨rfl, rfl⟩ | ⟨b, rfl, rfl, h3⟩
  · exact heldWS_nil16 w
  · exact heldWS_new b w h3

set_option maxRecDepth 100000 in
set_option maxHeartbeats 1000000 in
theorem markT_em (b : Int) {aw : Option Addr} {ts : List Wb} (w : World) (hv : Em w aw ts) :
    Calls Try.prog 36 #[.agg #[.int .i64 b, .slice aw ts.length ts.length], .int .i64 1] w fun e w' => e = .returned (.int .i64 1) ∧ Below w.heap.size w w' := by
  have hB : Below w.heap.size w (w.alloc (.cells #[.int .i64 b, .slice aw ts.length ts.length] 33)) := (Below.refl _ _).alloc (Nat.le_refl _) _
  have HC := hidP (markWS_em _ (hv.next hB))
  have HB := hidP hB
  clear hv hB
  go_enter Try.func36, Try.ntmps36
  go_wp2_with fail
  refine HC.out.mono ?_
  rintro e w1 ⟨rfl, hw1⟩
  subst hw1
  go_wp2_with fail
  go_ret
  exact ⟨rfl, HB.out⟩

set_option maxRecDepth 100000 in
set_option maxHeartbeats 1000000 in
theorem markS_em (a b c : Int) {aw : Option Addr} {ts : List Wb} (w : World) (hv : Em w aw ts) :
    Calls Try.prog 13 #[.agg #[.int .i64 a, .slice none 0 0, .int .i64 b, .slice aw ts.length ts.length, .int .i64 c], .int .i64 1] w fun e w' => e = .returned (.int .i64 1) ∧ Below w.heap.size w w' := by
  obtain ⟨W, hW⟩ : ∃ W, w.alloc (.cells #[.int .i64 a, .slice none 0 0, .int .i64 b, .slice aw ts.length ts.length, .int .i64 c] 35) = W := ⟨_, rfl⟩
  have hB : Below w.heap.size w W := by rw [← hW]; exact (Below.refl _ _).alloc (Nat.le_refl _) _
  have k1 : W.cell? ⟨w.heap.size, 1, none⟩ = some (.slice none 0 0) := by rw [← hW]; simp
  have k2 : W.cell? ⟨w.heap.size, 2, none⟩ = some (.int .i64 b) := by rw [← hW]; simp
  have k3 : W.cell? ⟨w.heap.size, 3, none⟩ = some (.slice aw ts.length ts.length) := by rw [← hW]; simp
  have HC := hidP (markT_em b W (hv.next hB))
  have HM := hidP (markM_nil15 none 0 W)
  have HB := hidP hB
  clear hv hB
  go_enter Try.func13, Try.ntmps13
  go_wp2_with fail
  refine HM.out.mono ?_
  rintro e w1 ⟨rfl, hw1⟩
  have hw2 := hw1.symm
  subst hw2
  clear hW
  go_wp2_with fail
  refine HC.out.mono ?_
  rintro e w2 ⟨rfl, L2⟩
  have HL := hidP (chain HB.out L2)
  clear L2
  go_wp2_with fail
  go_ret
  exact ⟨rfl, HL.out⟩

set_option maxRecDepth 100000 in
set_option maxHeartbeats 1000000 in
theorem heldT_em (b : Int) {aw : Option Addr} {ts : List Wb} (w : World) (hv : Em w aw ts) :
    Calls Try.prog 38 #[.agg #[.int .i64 b, .slice aw ts.length ts.length], .int .i64 1] w fun e w' => e = .returned (.int .i64 1) ∧ Below w.heap.size w w' := by
  have hB : Below w.heap.size w (w.alloc (.cells #[.int .i64 b, .slice aw ts.length ts.length] 33)) := (Below.refl _ _).alloc (Nat.le_refl _) _
  have HC := hidP (heldWS_em _ (hv.next hB))
  have HB := hidP hB
  clear hv hB
  go_enter Try.func38, Try.ntmps38
  go_wp2_with fail
  refine HC.out.mono ?_
  rintro e w1 ⟨rfl, hw1⟩
  subst hw1
  go_wp2_with fail
  go_ret
  exact ⟨rfl, HB.out⟩

set_option maxRecDepth 100000 in
set_option maxHeartbeats 1000000 in
theorem heldS_em (a b c : Int) {aw : Option Addr} {ts : List Wb} (w : World) (hv : Em w aw ts) :
    Calls Try.prog 14 #[.agg #[.int .i64 a, .slice none 0 0, .int .i64 b, .slice aw ts.length ts.length, .int .i64 c], .int .i64 1] w fun e w' => e = .returned (.int .i64 1) ∧ Below w.heap.size w w' := by
  obtain ⟨W, hW⟩ : ∃ W, w.alloc (.cells #[.int .i64 a, .slice none 0 0, .int .i64 b, .slice aw ts.length ts.length, .int .i64 c] 35) = W := ⟨_, rfl⟩
  have hB : Below w.heap.size w W := by rw [← hW]; exact (Below.refl _ _).alloc (Nat.le_refl _) _
  have k1 : W.cell? ⟨w.heap.size, 1, none⟩ = some (.slice none 0 0) := by rw [← hW]; simp
  have k2 : W.cell? ⟨w.heap.size, 2, none⟩ = some (.int .i64 b) := by rw [← hW]; simp
  have k3 : W.cell? ⟨w.heap.size, 3, none⟩ = some (.slice aw ts.length ts.length) := by rw [← hW]; simp
  have HC := hidP (heldT_em b W (hv.next hB))
  have HM := hidP (heldM_nil15 none 0 W)
  have HB := hidP hB
  clear hv hB
  go_enter Try.func14, Try.ntmps14
  go_wp2_with fail
  refine HM.out.mono ?_
  rintro e w1 ⟨rfl, hw1⟩
  have hw2 := hw1.symm
  subst hw2
  clear hW
  go_wp2_with fail
  refine HC.out.mono ?_
  rintro e w2 ⟨rfl, L2⟩
  have HL := hidP (chain HB.out L2)
  clear L2
  go_wp2_with fail
  go_ret
  exact ⟨rfl, HL.out⟩

set_option maxRecDepth 100000 in
set_option maxHeartbeats 2000000 in
theorem sNewState (wd : Int) (w : World) (h : inR wd 1 4 = true) :
    Calls Try.prog 11 #[.int .i64 wd] w fun e w' => ∃ aw, e = .returned (.tuple #[.agg #[.int .i64 wd, .slice none 0 0, .int .i64 1, .slice aw 4 4, .int .i64 1], .bool true]) ∧ Em w' aw emp4 ∧ Below w.heap.size w w' := by
  obtain ⟨W, hW⟩ : ∃ W, w.alloc (.cells #[.int .i64 0, .slice none 0 0, .int .i64 0, .slice none 0 0, .int .i64 0] 35) = W := ⟨_, rfl⟩
  have hB : Below w.heap.size w W := by rw [← hW]; exact (Below.refl _ _).alloc (Nat.le_refl _) _
  have t1 : W.heap[w.heap.size]? = some (.cells #[.int .i64 0, .slice none 0 0, .int .i64 0, .slice none 0 0, .int .i64 0] 35) := by rw [← hW]; exact heap_alloc_new w _
  have HB := hidP hB
  have HT := hidP t1
  have HIN := hidP (sIn wd 1 4)
  rw [h] at HIN
  have HN := hidP (sNewTower W)
  clear hB t1 h
  go_enter Try.func11, Try.ntmps11
  go_wp2_with fail
  refine (HIN.out _).mono ?_
  rintro e w1 ⟨rfl, hw1⟩
  have hw2 := hw1.symm
  subst hw2
  go_wp2_with fail
  refine HN.out.mono ?_
  rintro e w2 ⟨b, rfl, n2, L2⟩
  obtain ⟨e0, e1, e2, e3, e4, f2, hlt⟩ := five_cells ((L2.block _ (five_cells HT.out).2.2.2.2.2.2).trans HT.out)
  have f20 := f2 0
  have f21 := f2 1
  have f22 := f2 2
  have f23 := f2 3
  have f24 := f2 4
  have hne : w.heap.size ≠ b := by
    intro e
    have h0 := n2.2 0 (by omega)
    rw [← e, e0] at h0
    cases h0
  have HF := hidP (And.intro n2 (chain HB.out L2))
  clear n2 L2 hW f2 HT HN HB
  go_wp2_with fail
  refine bodyPost_ret (v := .tuple #[.agg #[.int .i64 wd, .slice none 0 0, .int .i64 1, .slice (some ⟨b, 0, none⟩) 4 4, .int .i64 1], .bool true]) (by simp [results, Try.results11, go_sem, e0, e1, e2, e3, e4]) rfl ?_
  obtain ⟨q1, q2⟩ := HF.out
  exact ⟨_, rfl, Or.inr ⟨b, rfl, rfl, ((((q1.set hne).set hne).set hne).set hne).set hne⟩, ((((q2.setCell (Nat.le_refl _) _).setCell (Nat.le_refl _) _).setCell (Nat.le_refl _) _).setCell (Nat.le_refl _) _).setCell (Nat.le_refl _) _⟩

set_option maxRecDepth 100000 in
set_option maxHeartbeats 2000000 in
theorem sNewState_no (wd : Int) (w : World) (h : inR wd 1 4 = false) :
    Calls Try.prog 11 #[.int .i64 wd] w fun e w' => ∃ aw, e = .returned (.tuple #[.agg #[.int .i64 0, .slice none 0 0, .int .i64 0, .slice aw 0 0, .int .i64 0], .bool false]) ∧ Em w' aw [] ∧ Below w.heap.size w w' := by
  obtain ⟨W, hW⟩ : ∃ W, w.alloc (.cells #[.int .i64 0, .slice none 0 0, .int .i64 0, .slice none 0 0, .int .i64 0] 35) = W := ⟨_, rfl⟩
  have hB : Below w.heap.size w W := by rw [← hW]; exact (Below.refl _ _).alloc (Nat.le_refl _) _
  have t1 : W.heap[w.heap.size]? = some (.cells #[.int .i64 0, .slice none 0 0, .int .i64 0, .slice none 0 0, .int .i64 0] 35) := by rw [← hW]; exact heap_alloc_new w _
  obtain ⟨e0, e1, e2, e3, e4, f2, hlt⟩ := five_cells t1
  have f20 := f2 0
  have f21 := f2 1
  have f22 := f2 2
  have f23 := f2 3
  have f24 := f2 4
  have HB := hidP hB
  have HIN := hidP (sIn wd 1 4)
  rw [h] at HIN
  clear hB t1 h f2
  go_enter Try.func11, Try.ntmps11
  go_wp2_with fail
  refine (HIN.out _).mono ?_
  rintro e w1 ⟨rfl, hw1⟩
  have hw2 := hw1.symm
  subst hw2
  clear hW
  go_wp2_with fail
  refine bodyPost_ret (v := .tuple #[.agg #[.int .i64 0, .slice none 0 0, .int .i64 0, .slice none 0 0, .int .i64 0], .bool false]) (by simp [results, Try.results11, go_sem, e0, e1, e2, e3, e4]) rfl ?_
  exact ⟨none, rfl, Or.inl ⟨rfl, rfl⟩, ((((HB.out.setCell (Nat.le_refl _) _).setCell (Nat.le_refl _) _).setCell (Nat.le_refl _) _).setCell (Nat.le_refl _) _).setCell (Nat.le_refl _) _⟩

theorem st_new (wd : Int) : stB wd [] 1 emp4 1 = inR wd 1 4 := by
  have h1 : marksB [] = true := by decide
  have h2 : towB 1 emp4 = true := by decide
  have h3 : inR 1 1 1000000 = true := by decide
  have h4 : grsB wd 1 (wnth emp4 0).1 = true := rfl
  have h5 : bearB (wnth emp4 0).1 [] = true := rfl
  rw [stB, h1, h2, h3, h4, h5]
  simp

set_option maxRecDepth 100000 in
set_option maxHeartbeats 2000000 in
theorem iNewState (wd : Int) (w : World) :
    Calls Try.prog 12 #[.int .i64 wd] w fun e w' => (inR wd 1 4 = true → ∃ aw, e = .returned (.tuple #[.agg #[.int .i64 wd, .slice none 0 0, .int .i64 1, .slice aw 4 4, .int .i64 1], .bool true]) ∧ Em w' aw emp4 ∧ Below w.heap.size w w') ∧ (inR wd 1 4 = false → ∃ aw, e = .returned (.tuple #[.agg #[.int .i64 0, .slice none 0 0, .int .i64 0, .slice aw 0 0, .int .i64 0], .bool false]) ∧ Em w' aw [] ∧ Below w.heap.size w w') := by
  obtain ⟨W, hW⟩ : ∃ W, w.alloc (.cells #[.int .i64 0, .slice none 0 0, .int .i64 0, .slice none 0 0, .int .i64 0] 35) = W := ⟨_, rfl⟩
  have hB : Below w.heap.size w W := by rw [← hW]; exact (Below.refl _ _).alloc (Nat.le_refl _) _
  have t1 : W.heap[w.heap.size]? = some (.cells #[.int .i64 0, .slice none 0 0, .int .i64 0, .slice none 0 0, .int .i64 0] 35) := by rw [← hW]; exact heap_alloc_new w _
  have HB := hidP hB
  have HT := hidP t1
  have HN := hidP (iNewTower W)
  obtain ⟨R, hR⟩ : ∃ R, inR wd 1 4 = R := ⟨_, rfl⟩
  have HR : Hid (stB wd [] 1 emp4 1 = R) := by show _ = _; rw [st_new, hR]
  rw [hR]
  clear hB t1 hR
  go_enter Try.func12, Try.ntmps12
  go_wp2_with fail
  refine HN.out.mono ?_
  rintro e w2 ⟨b, rfl, n2, L2⟩
  obtain ⟨V, hV⟩ : ∃ V, w2.alloc (.cells #[.int .i64 wd, .slice none 0 0, .int .i64 1, .slice (some ⟨b, 0, none⟩) 4 4, .int .i64 1] 35) = V := ⟨_, rfl⟩
  have LV : Below w2.heap.size w2 V := by rw [← hV]; exact (Below.refl _ _).alloc (Nat.le_refl _) _
  have u1 : V.heap[w2.heap.size]? = some (.cells #[.int .i64 wd, .slice none 0 0, .int .i64 1, .slice (some ⟨b, 0, none⟩) 4 4, .int .i64 1] 35) := by rw [← hV]; exact heap_alloc_new w2 _
  have tx := (L2.block _ (five_cells HT.out).2.2.2.2.2.2).trans HT.out
  have ty := (LV.block _ (five_cells tx).2.2.2.2.2.2).trans tx
  have hne : w.heap.size ≠ b := by
    intro e
    have h0 := n2.2 0 (by omega)
    rw [← e, (five_cells tx).1] at h0
    cases h0
  have nV := n2.next LV
  have HNV := hidP nV
  have HLV := hidP (chain (chain HB.out L2) LV)
  have HC := hidP (iStateOk none (some ⟨b, 0, none⟩) 0 4 wd [] 1 emp4 1 V (Or.inl rfl) nV.view (Em.small (Or.inr ⟨b, rfl, rfl, nV⟩)))
  rw [HR.out] at HC
  have HU := hidP (And.intro u1 ty)
  obtain ⟨d0, d1, d2, d3, d4, -, -⟩ := five_cells u1
  clear n2 L2 LV tx ty nV u1 HT HN HB hW
  go_wp2_with fail
  refine HC.out.mono ?_
  rintro e w3 ⟨rfl, L3⟩
  obtain ⟨u1, ty⟩ := HU.out
  obtain ⟨e0, e1, e2, e3, e4, f2, hlt⟩ := five_cells ((L3.block _ (five_cells ty).2.2.2.2.2.2).trans ty)
  obtain ⟨g0, g1, g2, g3, g4, -, -⟩ := five_cells ((L3.block _ (five_cells u1).2.2.2.2.2.2).trans u1)
  have f20 := f2 0
  have f21 := f2 1
  have f22 := f2 2
  have f23 := f2 3
  have f24 := f2 4
  have HF := hidP (And.intro (HNV.out.next L3) (chain HLV.out L3))
  clear L3 HU u1 ty hV d0 d1 d2 d3 d4 f2 HC HNV HLV HR
  cases R with
  | false =>
    clear g0 g1 g2 g3 g4
    go_wp2_with fail
    refine bodyPost_ret (v := .tuple #[.agg #[.int .i64 0, .slice none 0 0, .int .i64 0, .slice none 0 0, .int .i64 0], .bool false]) (by simp [results, Try.results12, go_sem, e0, e1, e2, e3, e4]) rfl ?_
    obtain ⟨q1, q2⟩ := HF.out
    exact ⟨none, rfl, Or.inl ⟨rfl, rfl⟩, ((((q2.setCell (Nat.le_refl _) _).setCell (Nat.le_refl _) _).setCell (Nat.le_refl _) _).setCell (Nat.le_refl _) _).setCell (Nat.le_refl _) _⟩
  | true =>
    go_wp2_with fail
    refine bodyPost_ret (v := .tuple #[.agg #[.int .i64 wd, .slice none 0 0, .int .i64 1, .slice (some ⟨b, 0, none⟩) 4 4, .int .i64 1], .bool true]) (by simp [results, Try.results12, go_sem, e0, e1, e2, e3, e4]) rfl ?_
    obtain ⟨q1, q2⟩ := HF.out
    exact ⟨_, rfl, Or.inr ⟨b, rfl, rfl, ((((q1.set hne).set hne).set hne).set hne).set hne⟩, ((((q2.setCell (Nat.le_refl _) _).setCell (Nat.le_refl _) _).setCell (Nat.le_refl _) _).setCell (Nat.le_refl _) _).setCell (Nat.le_refl _) _⟩

end Go.Proofs.Ytfbhohpbhjlihaa
namespace Go.Proofs.Ytfbhohpbhjlihaa
open Go Go.RowKit

def NwIn (w : World) (X : Nat) (a b c : Int) (aw : Option Addr) (ts : List Wb) : Prop := X < w.heap.size ∧ Em w aw ts ∧ w.cell? ⟨X, 0, none⟩ = some (.int .i64 a) ∧ w.cell? ⟨X, 1, none⟩ = some (.slice none 0 0) ∧ w.cell? ⟨X, 2, none⟩ = some (.int .i64 b) ∧ w.cell? ⟨X, 3, none⟩ = some (.slice aw ts.length ts.length) ∧ w.cell? ⟨X, 4, none⟩ = some (.int .i64 c)
theorem NwIn.box {w : World} {a b c : Int} {aw : Option Addr} {ts : List Wb} {t : TypeId} (h : Em w aw ts) : NwIn (w.alloc (.cells #[.int .i64 a, .slice none 0 0, .int .i64 b, .slice aw ts.length ts.length, .int .i64 c] t)) w.heap.size a b c aw ts :=
  ⟨by simp, h.next ((Below.refl _ _).alloc (Nat.le_refl _) _), by simp, by simp, by simp, by simp, by simp⟩
theorem NwIn.next {w w' : World} {X : Nat} {a b c : Int} {aw : Option Addr} {ts : List Wb} (h : NwIn w X a b c aw ts) (L : Below w.heap.size w w') : NwIn w' X a b c aw ts :=
  ⟨Nat.lt_of_lt_of_le h.1 L.size, h.2.1.next L, (L.cell (p := ⟨X, 0, none⟩) h.1).trans h.2.2.1, (L.cell (p := ⟨X, 1, none⟩) h.1).trans h.2.2.2.1, (L.cell (p := ⟨X, 2, none⟩) h.1).trans h.2.2.2.2.1, (L.cell (p := ⟨X, 3, none⟩) h.1).trans h.2.2.2.2.2.1, (L.cell (p := ⟨X, 4, none⟩) h.1).trans h.2.2.2.2.2.2⟩

set_option maxRecDepth 100000 in
set_option maxHeartbeats 4000000 in
theorem walkNewState_of (wd a b c : Int) (r : Bool) (ts : List Wb) (w : World)
    (hs : ∀ W, Calls Try.prog 11 #[.int .i64 wd] W fun e w' => ∃ aw, e = .returned (.tuple #[.agg #[.int .i64 a, .slice none 0 0, .int .i64 b, .slice aw ts.length ts.length, .int .i64 c], .bool r]) ∧ Em w' aw ts ∧ Below W.heap.size W w')
    (hi : ∀ W, Calls Try.prog 12 #[.int .i64 wd] W fun e w' => ∃ aw, e = .returned (.tuple #[.agg #[.int .i64 a, .slice none 0 0, .int .i64 b, .slice aw ts.length ts.length, .int .i64 c], .bool r]) ∧ Em w' aw ts ∧ Below W.heap.size W w') :
    Calls Try.prog 4 #[.int .i64 wd] w fun e w' => e = .returned (.bool true) ∧ Below w.heap.size w w' := by
  have HS := hidP hs
  have HI := hidP hi
  have hrr : (r != r) = false := by simp
  have HEQ : Hid (∀ (W : World) (a1 a2 : Option Addr), Em W a1 ts → Em W a2 ts → Calls Try.prog 10 #[.agg #[.int .i64 a, .slice none 0 0, .int .i64 b, .slice a1 ts.length ts.length, .int .i64 c], .agg #[.int .i64 a, .slice none 0 0, .int .i64 b, .slice a2 ts.length ts.length, .int .i64 c]] W fun e w' => e = .returned (.bool true) ∧ Below W.heap.size W w') := fun W a1 a2 h1 h2 =>
    eqSt true true none a1 0 ts.length a [] b ts c none a2 0 ts.length W (Or.inl rfl) h1.view (Or.inl rfl) h2.view h1.small
  clear hs hi
  go_enter Try.func4, Try.ntmps4
  go_wp2_with fail
  refine (HS.out _).mono ?_
  rintro e w1 ⟨a1, rfl, m1, L1⟩
  obtain ⟨w2, hw2⟩ : ∃ w2, w1.alloc (.cells #[.int .i64 a, .slice none 0 0, .int .i64 b, .slice a1 ts.length ts.length, .int .i64 c] 35) = w2 := ⟨_, rfl⟩
  have L2 : Below w1.heap.size w1 w2 := by rw [← hw2]; exact (Below.refl _ _).alloc (Nat.le_refl _) _
  have HX : Hid (NwIn w2 w1.heap.size a b c a1 ts) := by show NwIn _ _ _ _ _ _ _; rw [← hw2]; exact NwIn.box m1
  have HB := hidP (chain L1 L2)
  clear m1 L1 L2
  go_wp2_with fail
  clear hw2
  refine (HI.out _).mono ?_
  rintro e w3 ⟨a2, rfl, m3, L3⟩
  obtain ⟨w4, hw4⟩ : ∃ w4, w3.alloc (.cells #[.int .i64 a, .slice none 0 0, .int .i64 b, .slice a2 ts.length ts.length, .int .i64 c] 35) = w4 := ⟨_, rfl⟩
  have L4 : Below w3.heap.size w3 w4 := by rw [← hw4]; exact (Below.refl _ _).alloc (Nat.le_refl _) _
  have HY : Hid (NwIn w4 w3.heap.size a b c a2 ts) := by show NwIn _ _ _ _ _ _ _; rw [← hw4]; exact NwIn.box m3
  have HX4 := hidP (HX.out.next (chain L3 L4))
  have HB4 := hidP (chain HB.out (chain L3 L4))
  obtain ⟨-, -, x0, x1, x2, x3, x4⟩ := HX4.out
  obtain ⟨-, -, y0, y1, y2, y3, y4⟩ := HY.out
  clear m3 L3 L4 HX HB
  go_wp2_with fail
  clear hw4
  refine (HEQ.out _ a2 a1 HY.out.2.1 HX4.out.2.1).mono ?_
  rintro e w5 ⟨rfl, L5⟩
  have HX5 := hidP (HX4.out.next L5)
  have HY5 := hidP (HY.out.next L5)
  have HB5 := hidP (chain HB4.out L5)
  replace y0 := HY5.out.2.2.1
  replace y1 := HY5.out.2.2.2.1
  replace y2 := HY5.out.2.2.2.2.1
  replace y3 := HY5.out.2.2.2.2.2.1
  replace y4 := HY5.out.2.2.2.2.2.2
  clear L5 HX4 HY HB4 x0 x1 x2 x3 x4
  go_wp2_with fail
  refine (markS_em a b c _ HY5.out.2.1).mono ?_
  rintro e w6 ⟨rfl, L6⟩
  have HX6 := hidP (HX5.out.next L6)
  have HY6 := hidP (HY5.out.next L6)
  have HB6 := hidP (chain HB5.out L6)
  replace y0 := HY6.out.2.2.1
  replace y1 := HY6.out.2.2.2.1
  replace y2 := HY6.out.2.2.2.2.1
  replace y3 := HY6.out.2.2.2.2.2.1
  replace y4 := HY6.out.2.2.2.2.2.2
  clear L6 HX5 HY5 HB5
  go_wp2_with fail
  refine (heldS_em a b c _ HY6.out.2.1).mono ?_
  rintro e w7 ⟨rfl, L7⟩
  have HX7 := hidP (HX6.out.next L7)
  have HY7 := hidP (HY6.out.next L7)
  have HB7 := hidP (chain HB6.out L7)
  clear L7 HX6 HY6 HB6 y0 y1 y2 y3 y4
  go_wp2_with fail
  refine (HI.out _).mono ?_
  rintro e w8 ⟨a3, rfl, m8, L8⟩
  obtain ⟨w9, hw9⟩ : ∃ w9, w8.alloc (.cells #[.int .i64 a, .slice none 0 0, .int .i64 b, .slice a3 ts.length ts.length, .int .i64 c] 35) = w9 := ⟨_, rfl⟩
  have L9 : Below w8.heap.size w8 w9 := by rw [← hw9]; exact (Below.refl _ _).alloc (Nat.le_refl _) _
  have HZ : Hid (NwIn w9 w8.heap.size a b c a3 ts) := by show NwIn _ _ _ _ _ _ _; rw [← hw9]; exact NwIn.box m8
  have HX9 := hidP (HX7.out.next (chain L8 L9))
  have HY9 := hidP (HY7.out.next (chain L8 L9))
  have HB9 := hidP (chain HB7.out (chain L8 L9))
  obtain ⟨-, -, x0, x1, x2, x3, x4⟩ := HX9.out
  obtain ⟨-, -, z0, z1, z2, z3, z4⟩ := HZ.out
  clear m8 L8 L9 HX7 HY7 HB7
  go_wp2_with fail
  clear hw9
  refine (HEQ.out _ a3 a1 HZ.out.2.1 HX9.out.2.1).mono ?_
  rintro e w10 ⟨rfl, L10⟩
  have HY10 := hidP (HY9.out.next L10)
  have HB10 := hidP (chain HB9.out L10)
  obtain ⟨-, -, y0, y1, y2, y3, y4⟩ := HY10.out
  clear L10 HX9 HY9 HZ HB9 x0 x1 x2 x3 x4 z0 z1 z2 z3 z4
  go_wp2_with fail
  refine (heldS_em a b c _ HY10.out.2.1).mono ?_
  rintro e w11 ⟨rfl, L11⟩
  have HB11 := hidP (chain HB10.out L11)
  clear L11 y0 y1 y2 y3 y4
  go_wp2_with fail
  go_ret
  exact ⟨rfl, HB11.out⟩

theorem walkNewState (wd : Int) (w : World) :
    Calls Try.prog 4 #[.int .i64 wd] w fun e w' => e = .returned (.bool true) ∧ Below w.heap.size w w' := by
  rcases h : inR wd 1 4 with _ | _
  · exact walkNewState_of wd 0 0 0 false [] w (fun W => sNewState_no wd W h) (fun W => (iNewState wd W).mono (fun e w' k => k.2 h))
  · exact walkNewState_of wd wd 1 1 true emp4 w (fun W => sNewState wd W h) (fun W => (iNewState wd W).mono (fun e w' k => k.1 h))
end Go.Proofs.Ytfbhohpbhjlihaa
