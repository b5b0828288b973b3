import Derived.Test.YtaaagmgglolibaaGreatMCellsZz
import Derived.Test.YtaaagmgglolibaaGreatMovedSZz
import Derived.Test.YtaaagmgglolibaaGreatMCopyZz
namespace Go.Proofs.YtaaagmgglolibaaGreat
open Go Go.RowKit
def Sta (S : Nat -> Prop) (w w' : World) : Prop := w.heap.size <= w'.heap.size /\ ∀ b, S b -> w'.heap[b]? = w.heap[b]?
def Cgd (S : Nat -> Prop) (w w' : World) : Prop := w'.os = w.os /\ w'.tape = w.tape /\ w'.output = w.output /\ w.heap.size <= w'.heap.size /\ ∀ b, b < w.heap.size -> ¬ S b -> w'.heap[b]? = w.heap[b]?
theorem Sta.refl (S : Nat -> Prop) (w : World) : Sta S w w := ⟨Nat.le_refl _, fun _ _ => rfl⟩
theorem Sta.trans {S : Nat -> Prop} {a b c : World} (h : Sta S a b) (k : Sta S b c) : Sta S a c := ⟨Nat.le_trans h.1 k.1, fun i hi => (k.2 i hi).trans (h.2 i hi)⟩
theorem Sta.mono {S T : Nat -> Prop} {a b : World} (h : Sta S a b) (k : ∀ i, T i -> S i) : Sta T a b := ⟨h.1, fun i hi => h.2 i (k i hi)⟩
theorem Sta.below {S : Nat -> Prop} {a b : World} (L : Below a.heap.size a b) (hb : ∀ i, S i -> i < a.heap.size) : Sta S a b := ⟨L.size, fun i hi => L.block i (hb i hi)⟩
theorem Sta.cell {S : Nat -> Prop} {a b : World} (h : Sta S a b) {g : Nat} (hg : S g) (i : Nat) : b.cell? ⟨g, i, none⟩ = a.cell? ⟨g, i, none⟩ := World.cell?_of_block (h.2 g hg)
theorem Cgd.refl (S : Nat -> Prop) (w : World) : Cgd S w w := ⟨rfl, rfl, rfl, Nat.le_refl _, fun _ _ _ => rfl⟩
theorem Cgd.trans {S : Nat -> Prop} {a b c : World} (h : Cgd S a b) (k : Cgd S b c) : Cgd S a c :=
 ⟨k.1.trans h.1, k.2.1.trans h.2.1, k.2.2.1.trans h.2.2.1, Nat.le_trans h.2.2.2.1 k.2.2.2.1, fun i hi hs => (k.2.2.2.2 i (Nat.lt_of_lt_of_le hi h.2.2.2.1) hs).trans (h.2.2.2.2 i hi hs)⟩
theorem Cgd.mono {S T : Nat -> Prop} {a b : World} (h : Cgd S a b) (k : ∀ i, S i -> T i) : Cgd T a b := ⟨h.1, h.2.1, h.2.2.1, h.2.2.2.1, fun i hi hs => h.2.2.2.2 i hi (fun e => hs (k i e))⟩
theorem Cgd.of {S : Nat -> Prop} {a b : World} (L : Below a.heap.size a b) : Cgd S a b := ⟨L.os, L.tape, L.output, L.size, fun i hi _ => L.block i hi⟩
theorem Cgd.below {S : Nat -> Prop} {a b : World} {base : Nat} (h : Cgd S a b) (hb : base <= a.heap.size) (hs : ∀ i, S i -> base <= i) : Below base a b :=
 ⟨h.1, h.2.1, h.2.2.1, h.2.2.2.1, fun i hi => h.2.2.2.2 i (Nat.lt_of_lt_of_le hi hb) (fun e => by have := hs i e; omega)⟩
theorem Cgd.sm {S T : Nat -> Prop} {a b : World} (h : Cgd S a b) (ht : ∀ i, T i -> i < a.heap.size) (hd : ∀ i, T i -> ¬ S i) : Sta T a b := ⟨h.2.2.2.1, fun i hi => h.2.2.2.2 i (ht i hi) (hd i hi)⟩
def Btw (lo hi : Nat) (b : Nat) : Prop := lo <= b /\ b < hi
structure Ow (fm fh : Nat) (S : Nat -> Prop) (w : World) (v : Value) (N : Nat) : Prop where
 bnd : ∀ b, S b -> b < w.heap.size
 act : ∀ w', Sta S w w' -> ∀ k0 : Int, 1 <= k0 -> k0 + N <= 1000000 -> Calls Tryz.prog fm #[v, .int .i64 k0] w' fun e w2 => e = .returned (.int .i64 (k0 + N)) /\ Cgd S w' w2 /\ ∀ W, Sta S w2 W -> Calls Tryz.prog fh #[v, .int .i64 k0] W fun e W' => e = .returned (.int .i64 (k0 + N)) /\ Below W.heap.size W W'
theorem Ow.sm {fm fh : Nat} {S : Nat -> Prop} {w w' : World} {v : Value} {N : Nat} (h : Ow fm fh S w v N) (k : Sta S w w') : Ow fm fh S w' v N :=
 ⟨fun b hb => Nat.lt_of_lt_of_le (h.bnd b hb) k.1, fun w2 k2 => h.act w2 (k.trans k2)⟩
theorem Ow.mono {fm fh : Nat} {S T : Nat -> Prop} {w : World} {v : Value} {N : Nat} (h : Ow fm fh S w v N) (ht : ∀ b, T b -> b < w.heap.size) (k : ∀ b, S b -> T b) : Ow fm fh T w v N :=
 ⟨ht, fun w' hs k0 h0 h1 => (h.act w' (hs.mono k) k0 h0 h1).mono (fun _ _ ⟨e, c, r⟩ => ⟨e, c.mono k, fun W hw => r W (hw.mono k)⟩)⟩
def Hd (fh : Nat) (S : Nat -> Prop) (w : World) (v : Value) (k0 k1 : Int) : Prop := ∀ W, Sta S w W -> Calls Tryz.prog fh #[v, .int .i64 k0] W fun e W' => e = .returned (.int .i64 k1) /\ Below W.heap.size W W'
theorem Hd.sm {fh : Nat} {S : Nat -> Prop} {w w' : World} {v : Value} {k0 k1 : Int} (h : Hd fh S w v k0 k1) (k : Sta S w w') : Hd fh S w' v k0 k1 := fun W hw => h W (k.trans hw)
end Go.Proofs.YtaaagmgglolibaaGreat
