/-
  The laws' own helper markMarkS: marks are written over, in their own blocks alone.
  What a call hands out in blocks of its own: it can be written over there and nowhere else, and is held as it was written.
-/
import Derived.Test.YtbmljcpeonopmaaMCellsZz
import Derived.Test.YtbmljcpeonopmaaMovedSZz
import Derived.Test.YtbmljcpeonopmaaMCopyZz
namespace Go.Proofs.Ytbmljcpeonopmaa
open Go Go.RowKit

/-- Only blocks from lo on and ahead of hi have changed, of those that were there. -/
def GIn (lo hi : Nat) (w w' : World) : Prop := w'.os = w.os ∧ w'.tape = w.tape ∧ w'.output = w.output ∧ w.heap.size ≤ w'.heap.size ∧ ∀ i, i < w.heap.size → (i < lo ∨ hi ≤ i) → w'.heap[i]? = w.heap[i]?
theorem GIn.refl (lo hi : Nat) (w : World) : GIn lo hi w w := ⟨rfl, rfl, rfl, Nat.le_refl _, fun _ _ _ => rfl⟩
theorem GIn.grown {lo hi : Nat} {w w1 w2 : World} {g : Nat} (h : GIn lo hi w w1) (k : w1.grownBy w2 (some g)) (h1 : lo ≤ g) (h2 : g < hi) : GIn lo hi w w2 :=
  ⟨k.os.trans h.1, k.tape.trans h.2.1, k.output.trans h.2.2.1, Nat.le_trans h.2.2.2.1 k.size, fun i hi' hc => (k.block i (Nat.lt_of_lt_of_le hi' h.2.2.2.1) (fun e => by injection e with e; omega)).trans (h.2.2.2.2 i hi' hc)⟩
theorem GIn.below {lo hi : Nat} {w w' : World} (h : GIn lo hi w w') : Below lo w w' ∨ w.heap.size < lo := by
  rcases Nat.lt_or_ge w.heap.size lo with h1 | h1
  · exact Or.inr h1
  · exact Or.inl ⟨h.1, h.2.1, h.2.2.1, h.2.2.2.1, fun k hk => h.2.2.2.2 k (by omega) (Or.inl hk)⟩

set_option maxHeartbeats 400000 in
theorem mark_big (b : Nat) (k0 : Int) (xs : List Int) (w : World) (ho : Own w b xs) (hn : xs.length ≤ 1048576) (h0 : 1 ≤ k0) (h1 : k0 ≤ 4611686018427387904) :
    Calls Try.prog 79 #[.slice (some ⟨b, 0, none⟩) xs.length xs.length, .int .i64 k0] w fun e w' => e = .returned (.int .i64 (k0 + xs.length)) ∧ Own w' b (tabL (fun i => k0 + i) xs.length) ∧ w.grownBy w' (some b) := by
  go_enter Try.func79, Try.ntmps79
  go_wp2
  go_loopw [1, 5] (fun kk i wr => ∃ k : Nat, k ≤ xs.length ∧ i = .int .i64 k ∧ kk = .int .i64 (k0 + k) ∧ Own wr b (marked k0 xs k) ∧ w.grownBy wr (some b)) (fun _ i _ => xs.length - (intOf i).toNat)
  case atStart => exact ⟨0, Nat.zero_le _, rfl, by simp, by simpa [marked, tabL] using ho, ⟨rfl, rfl, rfl, Nat.le_refl _, fun _ _ _ => rfl⟩⟩
  case round =>
    obtain ⟨k, hk, rfl, rfl, hown, hg⟩ := hrel
    by_cases hlt : k < xs.length
    · have hc := hown.seg.at k (by rw [marked_length _ _ _ hk]; exact hlt)
      have hf := hown.frozen k
      have R1 := hown.set k (k0 + k)
      rw [marked_set k0 xs k hlt] at R1
      have R2 := grown_set (k := k) (v := .int .i64 (k0 + k)) hg
      have HR := hidP (And.intro R1 R2)
      clear R1 R2 hown hg
      go_wp2
      go_roundw
      case rel => exact ⟨k + 1, by omega, by go_num, by go_num, HR.out.1, HR.out.2⟩
      case measure => simp [intOf]; omega
    · go_wp2
      go_ret
      obtain rfl : k = xs.length := by omega
      exact ⟨rfl, by rw [← marked_all]; exact hown, hg⟩

/-- Marks of the call's own, of whatever numbers: what writing over them needs. -/
def MOver (w : World) (b hi : Nat) (ms : List Mk) : Prop := b < w.heap.size ∧ b < hi ∧ (∀ j, w.frozen? ⟨b, j, none⟩ = false) ∧
  ∀ j, j < ms.length → (∃ v, w.cell? ⟨b, j * 2, none⟩ = some v) ∧ ∃ g xs, b < g ∧ g < hi ∧ w.cell? ⟨b, j * 2 + 1, none⟩ = some (.slice (some ⟨g, 0, none⟩) (mat ms j).length (mat ms j).length) ∧ xs.length = (mat ms j).length ∧ Own w g xs
theorem MPart.over {w : World} {b : Nat} {ms : List Mk} (h : MPart w b ms.length ms.length ms) : MOver w b w.heap.size ms :=
  ⟨h.1, h.1, h.2.2.2, fun j hj => by
    obtain ⟨c0, g, hg, c1, o⟩ := h.2.1 j hj
    exact ⟨⟨_, c0⟩, g, mat ms j, hg, o.lt, c1, rfl, o⟩⟩
theorem MOver.setId {w : World} {b hi : Nat} {ms : List Mk} (h : MOver w b hi ms) (k : Nat) (v : Value) : MOver (w.setCell ⟨b, k * 2, none⟩ v) b hi ms := by
  obtain ⟨h1, h2, h3, h4⟩ := h
  refine ⟨by rw [setCell_size]; exact h1, h2, fun j => by rw [World.frozen?_setCell]; exact h3 j, fun j hj => ?_⟩
  obtain ⟨⟨u, c0⟩, g, xs, hg, hg2, c1, hl, o⟩ := h4 j hj
  refine ⟨?_, g, xs, hg, hg2, by rw [cell_setOther _ _ _ _ _ (by omega)]; exact c1, hl, o.setOther (by simp; omega) _⟩
  by_cases e : k = j
  · subst e; exact ⟨_, World.cell?_setCell_same _ _ _ c0⟩
  · exact ⟨u, by rw [cell_setOther _ _ _ _ _ (by omega)]; exact c0⟩
theorem MOver.marked {w w' : World} {b hi g : Nat} {ms : List Mk} {xs ys : List Int} (h : MOver w b hi ms) (hb : b < g) (ho : Own w g xs) (hg : w.grownBy w' (some g)) (ho' : Own w' g ys) (hl : ys.length = xs.length) : MOver w' b hi ms := by
  obtain ⟨h1, h2, h3, h4⟩ := h
  have hne : some b ≠ some g := fun e => by injection e with e; omega
  refine ⟨Nat.lt_of_lt_of_le h1 hg.size, h2, fun j => (frozen_grown h1 hg hne).trans (h3 j), fun j hj => ?_⟩
  obtain ⟨⟨u, c0⟩, g2, zs, hg1, hg2, c1, hl2, o⟩ := h4 j hj
  refine ⟨⟨u, (cell_grown h1 hg hne).trans c0⟩, g2, ?_⟩
  by_cases e : g2 = g
  · subst e
    have hx : xs.length = zs.length := by
      unfold Own at ho o
      rw [ho] at o
      injection o with o
      injection o with o
      have := congrArg Array.size o
      simpa [rowC] using this
    exact ⟨ys, hg1, hg2, (cell_grown h1 hg hne).trans c1, by omega, ho'⟩
  · exact ⟨zs, hg1, hg2, (cell_grown h1 hg hne).trans c1, hl2, o.grown hg e⟩

set_option maxHeartbeats 1000000 in
theorem markMS (b hi cap : Nat) (k0 : Int) (ms : List Mk) (w : World) (hm : MOver w b hi ms) (hsm : MSmall ms) (h0 : 1 ≤ k0) (h1 : k0 ≤ 10000000) :
    Calls Try.prog 41 #[.slice (some ⟨b, 0, none⟩) ms.length cap, .int .i64 k0] w fun e w' => (∃ k1 : Int, 1 ≤ k1 ∧ k1 ≤ 2305843009213693952 ∧ e = .returned (.int .i64 k1)) ∧ GIn b hi w w' := by
  obtain ⟨hn, hat⟩ := hsm
  go_enter Try.func41, Try.ntmps41
  go_wp2
  go_loopw [1, 5] (fun kk i wr => ∃ (k : Nat) (k1 : Int), k ≤ ms.length ∧ i = .int .i64 k ∧ kk = .int .i64 k1 ∧ 1 ≤ k1 ∧ k1 ≤ 10000000 + 1048577 * (k : Int) ∧ MOver wr b hi ms ∧ GIn b hi w wr) (fun _ i _ => ms.length - (intOf i).toNat)
  case atStart => exact ⟨0, k0, Nat.zero_le _, rfl, rfl, h0, by omega, hm, GIn.refl _ _ _⟩
  case round =>
    obtain ⟨k, k1, hk, rfl, rfl, hk0, hk1, ho, hg⟩ := hrel
    by_cases hlt : k < ms.length
    · have ho2 := ho.setId k (.int .i64 k1)
      obtain ⟨⟨v, c0⟩, -⟩ := ho.2.2.2 k hlt
      have f0 := ho.2.2.1 (k * 2)
      obtain ⟨-, g, xs, hbg, hgh, c1, hl, hown⟩ := ho2.2.2.2 k hlt
      have HG := hidP ((hg.grown (grown_setCell wr b (k * 2) (.int .i64 k1)) (Nat.le_refl _) ho.2.1))
      have HO := hidP ho2
      have HM := hidP (mark_big g (k1 + 1) xs _ hown (by rw [hl]; exact hat k) (by omega) (by omega))
      have HL := hidP hl
      have HOW := hidP hown
      rw [hl] at HM
      have hatk := hat k
      clear ho ho2 hg hown hl
      go_wp2_with fail
      refine HM.out.mono ?_
      rintro e w1 ⟨rfl, ho1, hg1⟩
      have HO2 := hidP (HO.out.marked hbg HOW.out hg1 ho1 (by rw [tabL_length]; exact HL.out.symm))
      have HG2 := hidP (HG.out.grown hg1 (by omega) hgh)
      clear ho1 hg1 HO HG HM HOW
      go_wp2_with fail
      go_roundw
      case rel => exact ⟨k + 1, k1 + 1 + ((mat ms k).length : Int), by omega, by go_num, rfl, by omega, by omega, HO2.out, HG2.out⟩
      case measure => simp [intOf]; omega
    · go_wp2
      go_ret
      exact ⟨⟨k1, hk0, by omega, rfl⟩, hg⟩

theorem MOver.below {w w' : World} {b hi : Nat} {ms : List Mk} (h : MOver w b hi ms) (hh : hi ≤ w.heap.size) (hb : Below w.heap.size w w') : MOver w' b hi ms := by
  obtain ⟨h1, h2, h3, h4⟩ := h
  have hg : w.grownBy w' none := ⟨hb.os, hb.tape, hb.output, hb.size, fun i hi _ => hb.block i hi⟩
  refine ⟨Nat.lt_of_lt_of_le h1 hb.size, h2, fun j => (frozen_grown h1 hg (by simp)).trans (h3 j), fun j hj => ?_⟩
  obtain ⟨⟨v, c0⟩, g, xs, hg1, hg2, c1, hl, o⟩ := h4 j hj
  exact ⟨⟨v, (hb.cell (p := ⟨b, j * 2, none⟩) h1).trans c0⟩, g, xs, hg1, hg2, (hb.cell (p := ⟨b, j * 2 + 1, none⟩) h1).trans c1, hl, o.below (Nat.lt_of_lt_of_le hg2 hh) hb⟩
theorem GIn.own {lo hi b : Nat} {w w' : World} {xs : List Int} (h : GIn lo hi w w') (ho : Own w b xs) (hb : b < lo ∨ hi ≤ b) : Own w' b xs := (h.2.2.2.2 b ho.lt hb).trans ho
theorem below_gin {lo hi : Nat} {w w1 w2 : World} (h : Below w.heap.size w w1) (g : GIn lo hi w1 w2) (hl : w.heap.size ≤ lo) : Below w.heap.size w w2 :=
  ⟨g.1.trans h.os, g.2.1.trans h.tape, g.2.2.1.trans h.output, Nat.le_trans h.size g.2.2.2.1, fun k hk => (g.2.2.2.2 k (Nat.lt_of_lt_of_le hk h.size) (Or.inl (Nat.lt_of_lt_of_le hk hl))).trans (h.block k hk)⟩

end Go.Proofs.Ytbmljcpeonopmaa
namespace Go.Proofs.Ytbmljcpeonopmaa
open Go Go.RowKit

/-- These blocks stand as they stood. -/
def Sta (S : Nat → Prop) (w w' : World) : Prop := w.heap.size ≤ w'.heap.size ∧ ∀ b, S b → w'.heap[b]? = w.heap[b]?
/-- Of the blocks that were there only these have changed. -/
def Cgd (S : Nat → Prop) (w w' : World) : Prop := w'.os = w.os ∧ w'.tape = w.tape ∧ w'.output = w.output ∧ w.heap.size ≤ w'.heap.size ∧ ∀ b, b < w.heap.size → ¬ S b → w'.heap[b]? = w.heap[b]?
theorem Sta.refl (S : Nat → Prop) (w : World) : Sta S w w := ⟨Nat.le_refl _, fun _ _ => rfl⟩
theorem Sta.trans {S : Nat → Prop} {a b c : World} (h : Sta S a b) (k : Sta S b c) : Sta S a c := ⟨Nat.le_trans h.1 k.1, fun i hi => (k.2 i hi).trans (h.2 i hi)⟩
theorem Sta.mono {S T : Nat → Prop} {a b : World} (h : Sta S a b) (k : ∀ i, T i → S i) : Sta T a b := ⟨h.1, fun i hi => h.2 i (k i hi)⟩
theorem Sta.below {S : Nat → Prop} {a b : World} (L : Below a.heap.size a b) (hb : ∀ i, S i → i < a.heap.size) : Sta S a b := ⟨L.size, fun i hi => L.block i (hb i hi)⟩
theorem Sta.cell {S : Nat → Prop} {a b : World} (h : Sta S a b) {g : Nat} (hg : S g) (i : Nat) : b.cell? ⟨g, i, none⟩ = a.cell? ⟨g, i, none⟩ := World.cell?_of_block (h.2 g hg)
theorem Cgd.refl (S : Nat → Prop) (w : World) : Cgd S w w := ⟨rfl, rfl, rfl, Nat.le_refl _, fun _ _ _ => rfl⟩
theorem Cgd.trans {S : Nat → Prop} {a b c : World} (h : Cgd S a b) (k : Cgd S b c) : Cgd S a c :=
  ⟨k.1.trans h.1, k.2.1.trans h.2.1, k.2.2.1.trans h.2.2.1, Nat.le_trans h.2.2.2.1 k.2.2.2.1, fun i hi hs => (k.2.2.2.2 i (Nat.lt_of_lt_of_le hi h.2.2.2.1) hs).trans (h.2.2.2.2 i hi hs)⟩
theorem Cgd.mono {S T : Nat → Prop} {a b : World} (h : Cgd S a b) (k : ∀ i, S i → T i) : Cgd T a b := ⟨h.1, h.2.1, h.2.2.1, h.2.2.2.1, fun i hi hs => h.2.2.2.2 i hi (fun e => hs (k i e))⟩
theorem Cgd.of {S : Nat → Prop} {a b : World} (L : Below a.heap.size a b) : Cgd S a b := ⟨L.os, L.tape, L.output, L.size, fun i hi _ => L.block i hi⟩
theorem Cgd.below {S : Nat → Prop} {a b : World} {base : Nat} (h : Cgd S a b) (hb : base ≤ a.heap.size) (hs : ∀ i, S i → base ≤ i) : Below base a b :=
  ⟨h.1, h.2.1, h.2.2.1, h.2.2.2.1, fun i hi => h.2.2.2.2 i (Nat.lt_of_lt_of_le hi hb) (fun e => by have := hs i e; omega)⟩
theorem Cgd.sm {S T : Nat → Prop} {a b : World} (h : Cgd S a b) (ht : ∀ i, T i → i < a.heap.size) (hd : ∀ i, T i → ¬ S i) : Sta T a b := ⟨h.2.2.2.1, fun i hi => h.2.2.2.2 i (ht i hi) (hd i hi)⟩

/-- The blocks from one on and ahead of another one. -/
def Btw (lo hi : Nat) (b : Nat) : Prop := lo ≤ b ∧ b < hi

/-- A thing in blocks of its own: fm writes it over, fh tells whether it is held. -/
structure Ow (fm fh : Nat) (S : Nat → Prop) (w : World) (v : Value) (N : Nat) : Prop where
  bnd : ∀ b, S b → b < w.heap.size
  act : ∀ w', Sta S w w' → ∀ k0 : Int, 1 ≤ k0 → k0 + N ≤ 1000000 → Calls Try.prog fm #[v, .int .i64 k0] w' fun e w2 => e = .returned (.int .i64 (k0 + N)) ∧ Cgd S w' w2 ∧ ∀ W, Sta S w2 W → Calls Try.prog fh #[v, .int .i64 k0] W fun e W' => e = .returned (.int .i64 (k0 + N)) ∧ Below W.heap.size W W'
theorem Ow.sm {fm fh : Nat} {S : Nat → Prop} {w w' : World} {v : Value} {N : Nat} (h : Ow fm fh S w v N) (k : Sta S w w') : Ow fm fh S w' v N :=
  ⟨fun b hb => Nat.lt_of_lt_of_le (h.bnd b hb) k.1, fun w2 k2 => h.act w2 (k.trans k2)⟩
theorem Ow.next {fm fh : Nat} {S : Nat → Prop} {w w' : World} {v : Value} {N : Nat} (h : Ow fm fh S w v N) (L : Below w.heap.size w w') : Ow fm fh S w' v N := h.sm (Sta.below L h.bnd)
theorem Ow.mono {fm fh : Nat} {S T : Nat → Prop} {w : World} {v : Value} {N : Nat} (h : Ow fm fh S w v N) (ht : ∀ b, T b → b < w.heap.size) (k : ∀ b, S b → T b) : Ow fm fh T w v N :=
  ⟨ht, fun w' hs k0 h0 h1 => (h.act w' (hs.mono k) k0 h0 h1).mono (fun _ _ ⟨e, c, r⟩ => ⟨e, c.mono k, fun W hw => r W (hw.mono k)⟩)⟩
/-- Held as it was written, behind whatever leaves its blocks. -/
def Hd (fh : Nat) (S : Nat → Prop) (w : World) (v : Value) (k0 k1 : Int) : Prop := ∀ W, Sta S w W → Calls Try.prog fh #[v, .int .i64 k0] W fun e W' => e = .returned (.int .i64 k1) ∧ Below W.heap.size W W'
theorem Hd.sm {fh : Nat} {S : Nat → Prop} {w w' : World} {v : Value} {k0 k1 : Int} (h : Hd fh S w v k0 k1) (k : Sta S w w') : Hd fh S w' v k0 k1 := fun W hw => h W (k.trans hw)
end Go.Proofs.Ytbmljcpeonopmaa
