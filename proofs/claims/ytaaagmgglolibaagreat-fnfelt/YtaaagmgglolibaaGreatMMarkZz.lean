import Derived.Test.YtaaagmgglolibaaGreatMCellsZz
import Derived.Test.YtaaagmgglolibaaGreatMovedSZz
import Derived.Test.YtaaagmgglolibaaGreatMCopyZz
namespace Go.Proofs.YtaaagmgglolibaaGreat
open Go Go.RowKit
def Sta (S : Nat -> Prop) (w w' : World) : Prop := w.heap.size <= w'.heap.size /\ ∀ b, S b -> w'.heap[b]? = w.heap[b]?
def Cgd (S : Nat -> Prop) (w w' : World) : Prop := w'.os = w.os /\ w'.tape = w.tape /\ w'.output = w.output /\ w.heap.size <= w'.heap.size /\ ∀ b, b < w.heap.size -> ¬ S b -> w'.heap[b]? = w.heap[b]?
theorem Sta.refl (S : Nat -> Prop) (w : World) : Sta S w w := ⟨Nat.le_refl _, fun _ _ => rfl⟩
theorem Sta.trans {S : Nat -> Prop} {a b c : World} (h : Sta S a b) (k : Sta S b c) : Sta S a c := ⟨Nat.le_trans h.1 k.1, fun i hi => (k.2 i hi).trans (h.2 i hi)⟩
theorem Sta.mono {S T : Nat -> Prop} {a b : World} (h : Sta S a b) (k : ∀ i, T i -> S i) : Sta T a b := ⟨h.1, fun i hi => h.2 i (k i hi)⟩
theorem Sta.below {S : Nat -> Prop} {a b : World} (L : Below a.heap.size a b) (hb : ∀ i, S i -> i < a.heap.size) : Sta S a b := ⟨L.size, fun i hi => L.block i (hb i hi)⟩
theorem Cgd.refl (S : Nat -> Prop) (w : World) : Cgd S w w := ⟨rfl, rfl, rfl, Nat.le_refl _, fun _ _ _ => rfl⟩
theorem Cgd.trans {S : Nat -> Prop} {a b c : World} (h : Cgd S a b) (k : Cgd S b c) : Cgd S a c :=
 ⟨k.1.trans h.1, k.2.1.trans h.2.1, k.2.2.1.trans h.2.2.1, Nat.le_trans h.2.2.2.1 k.2.2.2.1, fun i hi hs => (k.2.2.2.2 i (Nat.lt_of_lt_of_le hi h.2.2.2.1) hs).trans (h.2.2.2.2 i hi hs)⟩
theorem Cgd.below {S : Nat -> Prop} {a b : World} {base : Nat} (h : Cgd S a b) (hb : base <= a.heap.size) (hs : ∀ i, S i -> base <= i) : Below base a b :=
 ⟨h.1, h.2.1, h.2.2.1, h.2.2.2.1, fun i hi => h.2.2.2.2 i (Nat.lt_of_lt_of_le hi hb) (fun e => by have := hs i e; omega)⟩
def Btw (lo hi : Nat) (b : Nat) : Prop := lo <= b /\ b < hi
structure Ow (fm fh : Nat) (S : Nat -> Prop) (w : World) (v : Value) (N : Nat) : Prop where
 bnd : ∀ b, S b -> b < w.heap.size
 act : ∀ w', Sta S w w' -> ∀ k0 : Int, 1 <= k0 -> k0 + N <= 1000000 -> Calls Tryz.prog fm #[v, .int .i64 k0] w' fun e w2 => e = .returned (.int .i64 (k0 + N)) /\ Cgd S w' w2 /\ ∀ W, Sta S w2 W -> Calls Tryz.prog fh #[v, .int .i64 k0] W fun e W' => e = .returned (.int .i64 (k0 + N)) /\ Below W.heap.size W W'
theorem Ow.sm {fm fh : Nat} {S : Nat -> Prop} {w w' : World} {v : Value} {N : Nat} (h : Ow fm fh S w v N) (k : Sta S w w') : Ow fm fh S w' v N :=
 ⟨fun b hb => Nat.lt_of_lt_of_le (h.bnd b hb) k.1, fun w2 k2 => h.act w2 (k.trans k2)⟩
end Go.Proofs.YtaaagmgglolibaaGreat
