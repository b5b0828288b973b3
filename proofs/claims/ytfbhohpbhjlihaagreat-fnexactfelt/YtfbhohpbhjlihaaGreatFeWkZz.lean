/-
  The walks of the exact laws of chapter 14, over what the program's own functions answer.
  The walks of FnExactWalk and FnExactBeam, over what the program's own functions answer.
-/
import Derived.Test.YtfbhohpbhjlihaaGreatFeHelpZz
import Derived.Test.YtfbhohpbhjlihaaGreatFeIsZz
import Derived.Test.YtfbhohpbhjlihaaGreatFeBmZz
import Derived.Test.YtfbhohpbhjlihaaGreatLastZz
import Derived.Test.YtfbhohpbhjlihaaGreatBMarkZz
import Derived.Test.YtfbhohpbhjlihaaGreatHOtZz
import Derived.Test.YtfbhohpbhjlihaaGreatGKeepZz
namespace Go.Proofs.YtfbhohpbhjlihaaGreat
open Go Go.RowKit

def IWebOk : Prop := ∀ (am : Option Addr) (cm : Nat) (ms : List Mk) (al : Option Addr) (cl : Nat) (ls : List (List Int)) (w : World), MView w am ms → CView w al ls → MSmall ms → CSmall ls → ms.length ≤ cm → ls.length ≤ cl → Calls Tryz.prog 17 #[.agg #[.slice am ms.length cm, .slice al ls.length cl]] w fun e w' => e = .returned (.bool (webB ms ls)) ∧ Below w.heap.size w w'
def IIslands : Prop := ∀ (am : Option Addr) (cm : Nat) (ms : List Mk) (al : Option Addr) (cl : Nat) (ls : List (List Int)) (w : World), MView w am ms → CView w al ls → MSmall ms → CSmall ls → ms.length ≤ cm → ls.length ≤ cl → Calls Tryz.prog 19 #[.agg #[.slice am ms.length cm, .slice al ls.length cl]] w fun e w' => e = .returned (.int .i64 (islV ms ls)) ∧ Below w.heap.size w w'

end Go.Proofs.YtfbhohpbhjlihaaGreat
namespace Go.Proofs.YtfbhohpbhjlihaaGreat
open Go Go.RowKit

def IWalk : Prop := ∀ (am : Option Addr) (cm : Nat) (ms : List Mk) (al : Option Addr) (cl : Nat) (ls : List (List Int)) (fr : Int) (aq : Option Addr) (cq : Nat) (q : List Int) (w : World), MView w am ms → CView w al ls → View w aq q → MSmall ms → CSmall ls → q.length ≤ 1048576 → ms.length ≤ cm → ls.length ≤ cl → q.length ≤ cq → Calls Tryz.prog 190 #[.agg #[.slice am ms.length cm, .slice al ls.length cl], .int .i64 fr, .slice aq q.length cq] w fun e w' => ∃ a c, e = .returned (.slice a (walkL ms ls fr q).length c) ∧ IOut w.heap.size w' (.slice a (walkL ms ls fr q).length c) (walkL ms ls fr q) ∧ Below w.heap.size w w'
def IBeam : Prop := ∀ (am : Option Addr) (cm : Nat) (ms : List Mk) (al : Option Addr) (cl : Nat) (ls : List (List Int)) (fr : Int) (aq : Option Addr) (cq : Nat) (q : List Int) (wide : Int) (w : World), MView w am ms → CView w al ls → View w aq q → MSmall ms → CSmall ls → q.length ≤ 1048576 → ms.length ≤ cm → ls.length ≤ cl → q.length ≤ cq → Calls Tryz.prog 114 #[.agg #[.slice am ms.length cm, .slice al ls.length cl], .int .i64 fr, .slice aq q.length cq, .int .i64 wide] w fun e w' => ∃ a c, e = .returned (.slice a (beamL ms ls fr q wide).length c) ∧ HOut w.heap.size w' (.slice a (beamL ms ls fr q wide).length c) (beamL ms ls fr q wide) ∧ Below w.heap.size w w'
theorem Walk_len14 (ms : List Mk) (ls : List (List Int)) (fr : Int) (q : List Int) : (walkL ms ls fr q).length ≤ 61 := by
  unfold walkL
  split
  · rename_i h
    have h1 := walkG_short (ms := ms) (ls := ls) (q := q) fr
    have h2 := marksB_len (web_marks ((toldW_iff _ _ _ _).1 h).1)
    omega
  · simp
theorem Beam_len14 (ms : List Mk) (ls : List (List Int)) (fr : Int) (q : List Int) (wide : Int) : (beamL ms ls fr q wide).length ≤ 61 := by
  unfold beamL
  split
  · rename_i h
    obtain ⟨h1, h2, h3⟩ := (toldW_iff _ _ _ _).1 h.1
    obtain ⟨s', ids', op', e, hb, -⟩ := beam_ends (q := q) h1 wide.toNat ms.length [hitOf ms q fr] [fr] [] (by simp) (beam_start (ls := ls) h3).1 (beam_start (q := q) h3).2
    rw [e, List.length_take]
    have := hb.len
    have := hb.short
    have := marksB_len (web_marks h1)
    omega
  · simp
theorem seg_same14 {w w' : World} {b off : Nat} {xs : List Int} (h : Seg w b off xs) (e : w'.heap[b]? = w.heap[b]?) : Seg w' b off xs := fun i hi => (World.cell?_of_block (w := w) (a := ⟨b, off + i, none⟩) e).trans (h i hi)
theorem hseg_same14 {w w' : World} {b off : Nat} {xs : List Ht} (h : HSeg w b off xs) (e : w'.heap[b]? = w.heap[b]?) : HSeg w' b off xs := fun i hi => ⟨(World.cell?_of_block (w := w) (a := ⟨b, off + i * 2, none⟩) e).trans (h i hi).1, (World.cell?_of_block (w := w) (a := ⟨b, off + i * 2 + 1, none⟩) e).trans (h i hi).2⟩
theorem below_gin14 {lo hi : Nat} {W w1 w2 : World} (h : Below W.heap.size W w1) (g : GIn lo hi w1 w2) (hl : W.heap.size ≤ lo) : Below W.heap.size W w2 := below_gin h g hl
theorem eqI14 (ao ao' : Option Addr) (cap cap' : Nat) (R : List Int) (w : World) (hv : View w ao R) (hv' : View w ao' R) (hn : R.length ≤ 1048576) :
    Calls Tryz.prog 71 #[.slice ao R.length cap, .slice ao' R.length cap'] w fun e w' => e = .returned (.bool true) ∧ Below w.heap.size w w' := by
  refine (eqS ao ao' cap cap' R R w hv hv' hn).mono ?_
  rintro e w' ⟨rfl, n, rfl⟩
  exact ⟨ret_bool (by simp), below_drewN (Below.refl _ _) n⟩
theorem eqH14 (ao ao' : Option Addr) (cap cap' : Nat) (R : List Ht) (w : World) (hv : HView w ao R) (hv' : HView w ao' R) (hn : R.length ≤ 1048576) :
    Calls Tryz.prog 75 #[.slice ao R.length cap, .slice ao' R.length cap'] w fun e w' => e = .returned (.bool true) ∧ Below w.heap.size w w' := by
  refine (eqHS ao ao' cap cap' R R w hv hv' (by omega)).mono ?_
  rintro e w' ⟨rfl, L⟩
  exact ⟨ret_bool (by simp), L⟩
theorem markI14 (b : Nat) (k0 : Int) (xs : List Int) (w : World) (ho : Own w b xs) (hn : xs.length ≤ 1048576) (h0 : 1 ≤ k0) (h1 : k0 ≤ 2305844108725321728) :
    Calls Tryz.prog 73 #[.slice (some ⟨b, 0, none⟩) xs.length xs.length, .int .i64 k0] w fun e w' => (∃ k1 : Int, 1 ≤ k1 ∧ e = .returned (.int .i64 k1)) ∧ w.grownBy w' (some b) := by
  refine (mark_big b k0 xs w ho hn h0 (by omega)).mono ?_
  rintro e w' ⟨rfl, -, hg⟩
  exact ⟨⟨k0 + xs.length, by omega, rfl⟩, hg⟩
theorem outMarkI (Z c : Nat) (ao : Option Addr) (R : List Int) (w : World) (h : IOut Z w (.slice ao R.length c) R) (hn : R.length ≤ 1048576) (hZ : Z ≤ w.heap.size) :
    Calls Tryz.prog 73 #[.slice ao R.length c, .int .i64 1] w fun e w' => e = .returned (.int .i64 (1 + (R.length : Int))) ∧ View w' ao (tabL (fun i => 1 + (i : Int)) R.length) ∧ Below Z w w' := by
  refine (markO Z c ao 1 R w h hn (by omega) (by omega)).mono ?_
  rintro e w' ⟨rfl, g, hc, hb⟩
  rw [tabL_length] at g
  refine ⟨rfl, g.slice, hc.1, hc.2.1, hc.2.2.1, hc.2.2.2.1, fun i hi => ?_⟩
  refine hc.2.2.2.2 i (by omega) (fun a n c e e' => ?_)
  injection e with e1
  have := hb a.block ⟨a, e1, rfl⟩
  omega
theorem outMarkH (Z c : Nat) (ao : Option Addr) (R : List Ht) (w : World) (h : HOut Z w (.slice ao R.length c) R) (hn : R.length ≤ 1048576) (hZ : Z ≤ w.heap.size) :
    Calls Tryz.prog 76 #[.slice ao R.length c, .int .i64 1] w fun e w' => e = .returned (.int .i64 (1 + 2 * (R.length : Int))) ∧ HView w' ao (seqH 1 R.length) ∧ Below Z w w' := by
  refine (markOut Z c ao R w h (by omega)).mono ?_
  rintro e w' ⟨rfl, hv, r, hg, hr⟩
  refine ⟨rfl, hv, hg.os, hg.tape, hg.output, hg.size, fun i hi => hg.block i (by omega) (fun e => ?_)⟩
  have := hr i e.symm
  omega

/-- What is kept in hand while Walk's law goes on. -/
structure WkWalk (W : World) (gw bm bl hi bx bq Z : Nat) (ms : List Mk) (ls : List (List Int)) (q : List Int) (R : List Int) (ag : Option Addr) (cg : Nat) (w : World) : Prop where
  low : Below W.heap.size W w
  row : Seg w gw 0 R
  web : WebOwn W.heap.size hi w bm bl ms ls
  box : WebIn w bx (some ⟨bm, 0, none⟩) ms.length ms (some ⟨bl, 0, none⟩) ls.length ls
  own : Own w bq q
  out : IOut Z w (.slice ag R.length cg) R
  hz : Z ≤ w.heap.size
  gl : gw < w.heap.size
theorem WkWalk.next {W w w' : World} {gw bm bl hi bx bq Z : Nat} {ms : List Mk} {ls : List (List Int)} {q : List Int} {R : List Int} {ag : Option Addr} {cg : Nat} (h : WkWalk W gw bm bl hi bx bq Z ms ls q R ag cg w) (L : Below w.heap.size w w') : WkWalk W gw bm bl hi bx bq Z ms ls q R ag cg w' :=
  ⟨chain h.low L, Seg.below h.row h.gl L, h.web.next L, h.box.below L, h.own.below h.own.lt L, h.out.below L, Nat.le_trans h.hz L.size, Nat.lt_of_lt_of_le h.gl L.size⟩

/-- What is kept in hand while Beam's law goes on. -/
structure WkBeam (W : World) (gw bm bl hi bx bq Z : Nat) (ms : List Mk) (ls : List (List Int)) (q : List Int) (R : List Ht) (ag : Option Addr) (cg : Nat) (w : World) : Prop where
  low : Below W.heap.size W w
  row : HSeg w gw 0 R
  web : WebOwn W.heap.size hi w bm bl ms ls
  box : WebIn w bx (some ⟨bm, 0, none⟩) ms.length ms (some ⟨bl, 0, none⟩) ls.length ls
  own : Own w bq q
  out : HOut Z w (.slice ag R.length cg) R
  hz : Z ≤ w.heap.size
  gl : gw < w.heap.size
theorem WkBeam.next {W w w' : World} {gw bm bl hi bx bq Z : Nat} {ms : List Mk} {ls : List (List Int)} {q : List Int} {R : List Ht} {ag : Option Addr} {cg : Nat} (h : WkBeam W gw bm bl hi bx bq Z ms ls q R ag cg w) (L : Below w.heap.size w w') : WkBeam W gw bm bl hi bx bq Z ms ls q R ag cg w' :=
  ⟨chain h.low L, HSeg.below h.row h.gl L, h.web.next L, h.box.below L, h.own.below h.own.lt L, h.out.below L, Nat.le_trans h.hz L.size, Nat.lt_of_lt_of_le h.gl L.size⟩

end Go.Proofs.YtfbhohpbhjlihaaGreat
