import Derived.Test.YtaaagmgglolibaaGreatMovedSZz
import Derived.Test.YtaaagmgglolibaaGreatMCellsZz
import Derived.Test.YtaaagmgglolibaaGreatBMarkZz
import Derived.Test.YtaaagmgglolibaaGreatAppendZz
namespace Go.Proofs.YtaaagmgglolibaaGreat
open Go Go.RowKit
abbrev Dm := Int × Nat × Nat × List Int
def ZK : List Dm -> List Value
 | [] => []
 | d :: ds => .int .i64 d.1 :: .slice (some ⟨d.2.1, 0, none⟩) d.2.2.2.length d.2.2.1 :: ZK ds
def Zs (ds : List Dm) : List Mk := ds.map fun d => (d.1, d.2.2.2)
def ZD (ds : List Dm) (i : Nat) : Dm := ds.getD i (0, 0, 0, [])
def Z8 (base : Nat) (w : World) (g c : Nat) (ds : List Dm) : Prop :=
 w.ownsRow base 29 2 (.slice (some ⟨g, 0, none⟩) ds.length c) ds.length (ZK ds) /\ (∀ d ∈ ds, Row base w d.2.1 d.2.2.1 d.2.2.2 /\ d.2.1 ≠ g) /\ ds.Pairwise (fun d e => d.2.1 < e.2.1)
def Zev (width id : Int) (ds : List Dm) : Prop := (∀ d ∈ ds, 1 <= d.1 /\ d.1 <= id /\ (d.2.2.2.length : Int) = width /\ ∀ x ∈ d.2.2.2, -6 <= x /\ x <= 13) /\ ds.Pairwise (fun d e => d.1 < e.1)
theorem Zdq (ds : List Dm) : (ZK ds).length = ds.length * 2 := by
 induction ds with
 | nil => rfl
 | cons d ds ih => simp [ZK, ih]; omega
theorem ZbB (ds es : List Dm) : ZK (ds ++ es) = ZK ds ++ ZK es := by
 induction ds with
 | nil => rfl
 | cons d ds ih => simp [ZK, ih]
theorem Zeb (ds : List Dm) (i : Nat) (h : i < ds.length) : (ZK ds)[i * 2]? = some (.int .i64 (ZD ds i).1) /\ (ZK ds)[i * 2 + 1]? = some (.slice (some ⟨(ZD ds i).2.1, 0, none⟩) (ZD ds i).2.2.2.length (ZD ds i).2.2.1) := by
 induction ds generalizing i with
 | nil => simp at h
 | cons d ds ih =>
   match i, h with
   | 0, _ => exact ⟨rfl, rfl⟩
   | k + 1, h =>
     have := ih k (by simpa using h)
     rw [show (k + 1) * 2 = k * 2 + 1 + 1 by omega]
     exact this
theorem ZaZ (ds : List Dm) (i : Nat) (h : i < ds.length) : ZD ds i ∈ ds := by
 simp [ZD, List.getD, h]
theorem ZL (ds : List Dm) : (Zs ds).length = ds.length := by simp [Zs]
theorem Zc6 (ds : List Dm) (i : Nat) (h : i < ds.length) : Zag (Zs ds) i = ((ZD ds i).1, (ZD ds i).2.2.2) := by
 simp [Zag, Zs, ZD, List.getD, h]
theorem Row.seg {base : Nat} {w : World} {g c : Nat} {xs : List Int} (h : Row base w g c xs) : Seg w g 0 xs := fun i hi => by
 rw [Nat.zero_add, World.ownsRow.cellAt h i (by omega)]
 simp [nth, List.getD, hi]
theorem Row.lt2 {base : Nat} {w : World} {g c : Nat} {xs : List Int} (h : Row base w g c xs) : base <= g /\ g < w.heap.size := World.ownsRow.lt h g rfl
theorem Z8.cells {base : Nat} {w : World} {g c : Nat} {ds : List Dm} (h : Z8 base w g c ds) (i : Nat) (hi : i < ds.length) :
 w.cell? ⟨g, i * 2, none⟩ = some (.int .i64 (ZD ds i).1) /\ w.cell? ⟨g, i * 2 + 1, none⟩ = some (.slice (some ⟨(ZD ds i).2.1, 0, none⟩) (ZD ds i).2.2.2.length (ZD ds i).2.2.1) := by
 have := Zeb ds i hi
 rw [World.ownsRow.cellAt h.1 _ (by omega), World.ownsRow.cellAt h.1 _ (by omega)]
 exact this
theorem Z8.lt {base : Nat} {w : World} {g c : Nat} {ds : List Dm} (h : Z8 base w g c ds) : base <= g /\ g < w.heap.size := World.ownsRow.lt h.1 g rfl
theorem Z8.cap {base : Nat} {w : World} {g c : Nat} {ds : List Dm} (h : Z8 base w g c ds) : ds.length <= c := by
 obtain ⟨_, ⟨h1, _⟩ | ⟨g', c', cur, h1, _, _, h2, _⟩⟩ := h.1
 · cases h1
 · injection h1 with e1 e2 e3
   omega
theorem Z8.view {base : Nat} {w : World} {g c : Nat} {ds : List Dm} (h : Z8 base w g c ds) : Zw w (some ⟨g, 0, none⟩) (Zs ds) :=
 Or.inr ⟨g, 0, rfl, h.lt.2, fun i hi => by
  rw [ZL] at hi
  rw [Nat.zero_add, Zc6 ds i hi]
  have := h.cells i hi
  exact ⟨this.1, _, _, this.2, (h.2.1 _ (ZaZ ds i hi)).1.view⟩⟩
theorem Z8.kept {base : Nat} {w w' : World} {g c : Nat} {r : Option Nat} {ds : List Dm} (h : Z8 base w g c ds) (hg : w.grownBy w' r) (hr : ∀ q, r = some q -> q < base) : Z8 base w' g c ds := by
 refine ⟨World.ownsRow.kept h.1 hg (Or.inr ?_), fun d hd => ⟨World.ownsRow.kept (h.2.1 d hd).1 hg (Or.inr ?_), (h.2.1 d hd).2⟩, h.2.2⟩
 · intro e
   have := hr g (by rw [<- e]; rfl)
   have := h.lt
   omega
 · intro e
   have := hr d.2.1 (by rw [<- e]; rfl)
   have := (h.2.1 d hd).1.lt2
   omega
theorem Z8.start (w : World) (base : Nat) (hb : base <= w.heap.size) : Z8 base (w.alloc (.cells #[] 29)) w.heap.size 0 [] :=
 ⟨World.ownsRow_lit w #[] 0 hb (Nat.zero_le _) rfl, fun d hd => (by cases hd), List.Pairwise.nil⟩
theorem Z8.snoc {base : Nat} {w w' : World} {g c gg cc b cp : Nat} {id : Int} {xs : List Int} {ds : List Dm} (h : Z8 base w g c ds)
 (hrow : Row base w b cp xs) (hbg : b ≠ g) (hlast : ∀ d ∈ ds, d.2.1 < b)
 (hown : w'.ownsRow base 29 2 (.slice (some ⟨gg, 0, none⟩) (ds.length + 1) cc) (ds.length + 1) (ZK ds ++ [.int .i64 id, .slice (some ⟨b, 0, none⟩) xs.length cp]))
 (hg : w.grownBy w' (some g)) (hgg : gg = g \/ gg = w.heap.size) : Z8 base w' gg cc (ds ++ [(id, b, cp, xs)]) := by
 have hnew : ∀ d : Dm, Row base w d.2.1 d.2.2.1 d.2.2.2 -> d.2.1 ≠ g -> Row base w' d.2.1 d.2.2.1 d.2.2.2 /\ d.2.1 ≠ gg := fun d hd hne =>
  ⟨World.ownsRow.kept hd hg (Or.inr (by intro e; injection e with e; exact hne e)), by
   have := hd.lt2
   rcases hgg with e | e
   · rw [e]; exact hne
   · rw [e]; omega⟩
 refine ⟨?_, fun d hd => ?_, ?_⟩
 · rw [ZbB, List.length_append]; exact hown
 · rcases List.mem_append.1 hd with hd | hd
   · exact hnew d (h.2.1 d hd).1 (h.2.1 d hd).2
   · rw [List.mem_singleton.1 hd]; exact hnew (id, b, cp, xs) hrow hbg
 · rw [List.pairwise_append]
   exact ⟨h.2.2, by simp, fun d hd e he => by rw [List.mem_singleton.1 he]; exact hlast d hd⟩
theorem Zev.snoc {width id id' : Int} {b cp : Nat} {xs : List Int} {ds : List Dm} (h : Zev width id ds) (h1 : id < id') (h0 : 1 <= id') (hl : (xs.length : Int) = width) (hx : ∀ x ∈ xs, -6 <= x /\ x <= 13) : Zev width id' (ds ++ [(id', b, cp, xs)]) := by
 refine ⟨fun d hd => ?_, ?_⟩
 · rcases List.mem_append.1 hd with hd | hd
   · have := h.1 d hd
     exact ⟨this.1, by omega, this.2.2⟩
   · rw [List.mem_singleton.1 hd]; exact ⟨h0, Int.le_refl _, hl, hx⟩
 · rw [List.pairwise_append]
   exact ⟨h.2, by simp, fun d hd e he => by rw [List.mem_singleton.1 he]; have := h.1 d hd; show d.1 < id'; omega⟩
theorem Zev.nil (width : Int) : Zev width 0 [] := ⟨fun d hd => (by cases hd), List.Pairwise.nil⟩
end Go.Proofs.YtaaagmgglolibaaGreat
