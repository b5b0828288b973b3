import Derived.Test.YtaaagmgglolibaaGreatSCellsZz
import Derived.Test.YtaaagmgglolibaaGreatFeWalkZz
import Derived.Deep.CutRange
import Derived.Deep.CutBlock
import Derived.Deep.LoopGhost
import Derived.Test.YtaaagmgglolibaaGreatFgRowZz
import Derived.Test.YtaaagmgglolibaaGreatFg0Zz
import Derived.Test.YtaaagmgglolibaaGreatHM9Zz
import Derived.Test.YtaaagmgglolibaaGreatMArgsZz
import Derived.Test.YtaaagmgglolibaaGreatFeHelpZz
import Derived.Test.YtaaagmgglolibaaGreatMMarkZz
import Derived.Test.YtaaagmgglolibaaGreatTwArgsZz
import Derived.Test.YtaaagmgglolibaaGreatTwOkZz
set_option maxHeartbeats 400000
namespace Go.Proofs.YtaaagmgglolibaaGreat
open Go Go.RowKit
end Go.Proofs.YtaaagmgglolibaaGreat
namespace Go.Proofs.YtaaagmgglolibaaGreat
open Go Go.RowKit Go.Deep
end Go.Proofs.YtaaagmgglolibaaGreat
namespace Go.Proofs.YtaaagmgglolibaaGreat
open Go Go.RowKit
theorem Zmx (cap : Nat) (k : Int) (w : World) : Calls Tryz.prog 170 #[.slice none 0 cap, .int .i64 k] w fun e w' => e = .returned (.int .i64 k) /\ w' = w := by
 go_enter Tryz.func170, Tryz.ntmps170
 go_wp2
 refine wp_loop_rounds 1 ?_
 rw [rounds_succ]
 go_wp2
 go_ret
 exact ⟨rfl, rfl⟩
theorem Zmy (cap : Nat) (k : Int) (w : World) : Calls Tryz.prog 171 #[.slice none 0 cap, .int .i64 k] w fun e w' => e = .returned (.int .i64 k) /\ w' = w := by
 go_enter Tryz.func171, Tryz.ntmps171
 go_wp2
 refine wp_loop_rounds 1 ?_
 rw [rounds_succ]
 go_wp2
 go_ret
 exact ⟨rfl, rfl⟩
theorem Zkc (cap : Nat) (w : World) : Ow 170 171 (fun _ => False) w (.slice none 0 cap) 0 :=
 ⟨fun _ h => h.elim, fun w' _ k0 _ _ => (Zmx cap k0 w').mono (by
  rintro e w2 ⟨rfl, rfl⟩
  exact ⟨by simp, Cgd.refl _ _, fun W _ => (Zmy cap k0 W).mono (by rintro e W' ⟨rfl, rfl⟩; exact ⟨by simp, Below.refl _ _⟩)⟩)⟩
theorem Zmz (cap : Nat) (k : Int) (w : World) : Calls Tryz.prog 231 #[.slice none 0 cap, .int .i64 k] w fun e w' => e = .returned (.int .i64 k) /\ w' = w := by
 go_enter Tryz.func231, Tryz.ntmps231
 go_wp2
 refine wp_loop_rounds 1 ?_
 rw [rounds_succ]
 go_wp2
 go_ret
 exact ⟨rfl, rfl⟩
theorem ZmA (cap : Nat) (k : Int) (w : World) : Calls Tryz.prog 232 #[.slice none 0 cap, .int .i64 k] w fun e w' => e = .returned (.int .i64 k) /\ w' = w := by
 go_enter Tryz.func232, Tryz.ntmps232
 go_wp2
 refine wp_loop_rounds 1 ?_
 rw [rounds_succ]
 go_wp2
 go_ret
 exact ⟨rfl, rfl⟩
theorem Zkd (cap : Nat) (w : World) : Ow 231 232 (fun _ => False) w (.slice none 0 cap) 0 :=
 ⟨fun _ h => h.elim, fun w' _ k0 _ _ => (Zmz cap k0 w').mono (by
  rintro e w2 ⟨rfl, rfl⟩
  exact ⟨by simp, Cgd.refl _ _, fun W _ => (ZmA cap k0 W).mono (by rintro e W' ⟨rfl, rfl⟩; exact ⟨by simp, Below.refl _ _⟩)⟩)⟩
def totX (ls : List (List Int)) : Nat := tot (fun j => (cn ls j).length) ls.length
structure OwW (o : Bool) (S : Nat -> Prop) (w : World) (vm vl : Value) (ms : List Mk) (ls : List (List Int)) : Prop where
 bnd : ∀ b, S b -> b < w.heap.size
 rows : o = true -> ∃ (F G : Nat -> Prop), Ow 170 171 F w vm (totM ms) /\ Ow 231 232 G w vl (totX ls) /\ (∀ b, F b -> S b) /\ (∀ b, G b -> S b) /\ (∀ b, F b -> ¬ G b) /\ totM ms + totX ls <= 100000
 view : ∃ am cm al cl, vm = .slice am ms.length cm /\ vl = .slice al ls.length cl /\ ms.length <= cm /\ ls.length <= cl /\ ∀ w', Sta S w w' -> Zw w' am ms /\ Zaj w' al ls
theorem OwW.sm {o : Bool} {S : Nat -> Prop} {w w' : World} {vm vl : Value} {ms : List Mk} {ls : List (List Int)} (h : OwW o S w vm vl ms ls) (k : Sta S w w') : OwW o S w' vm vl ms ls := by
 obtain ⟨am, cm, al, cl, e1, e2, c1, c2, hv⟩ := h.view
 exact ⟨fun b hb => Nat.lt_of_lt_of_le (h.bnd b hb) k.1, fun ho => by obtain ⟨F, G, h1, h2, h3, h4, h5, h6⟩ := h.rows ho; exact ⟨F, G, h1.sm (k.mono h3), h2.sm (k.mono h4), h3, h4, h5, h6⟩, ⟨am, cm, al, cl, e1, e2, c1, c2, fun w2 k2 => hv w2 (k.trans k2)⟩⟩
theorem OwW.next {o : Bool} {S : Nat -> Prop} {w w' : World} {vm vl : Value} {ms : List Mk} {ls : List (List Int)} (h : OwW o S w vm vl ms ls) (L : Below w.heap.size w w') : OwW o S w' vm vl ms ls := h.sm (Sta.below L h.bnd)
theorem OwW.zero (o : Bool) (w : World) : OwW o (fun _ => False) w (.slice none 0 0) (.slice none 0 0) [] [] :=
 ⟨fun _ h => h.elim, fun _ => ⟨fun _ => False, fun _ => False, Zkc 0 w, Zkd 0 w, fun _ h => h, fun _ h => h, fun _ h => h.elim, by decide⟩, ⟨none, 0, none, 0, rfl, rfl, Nat.le_refl _, Nat.le_refl _, fun _ _ => ⟨Or.inl rfl, Or.inl rfl⟩⟩⟩
def ZcW (vm vl : Nat -> Value) (j : Nat) : Value := if j % 2 = 0 then vm (j / 2) else vl (j / 2)
def ZcP (f : Nat -> Nat -> Prop) (m : Nat) (v : Nat -> Prop) (i : Nat) : Nat -> Prop := if i = m then v else f i
def ZbJ (vm vl : Nat -> Value) (n : Nat) : List Value := (List.range (n * 2)).map (ZcW vm vl)
theorem Zjf {vm vl : Nat -> Value} {n j : Nat} (h : j < n * 2) : (ZbJ vm vl n)[j]? = some (ZcW vm vl j) := by simp [ZbJ, h]
theorem Zke (vm vl : Nat -> Value) (n : Nat) (xm xl : Value) : ZbJ (Zb2 vm n xm) (Zb2 vl n xl) (n + 1) = ZbJ vm vl n ++ [xm, xl] := by
 refine List.ext_getElem (by simp [ZbJ]; omega) (fun j h1 h2 => ?_)
 have hj : j < (n + 1) * 2 := by simpa [ZbJ] using h1
 have e1 : (ZbJ (Zb2 vm n xm) (Zb2 vl n xl) (n + 1))[j] = ZcW (Zb2 vm n xm) (Zb2 vl n xl) j := by simp [ZbJ]
 rw [e1]
 unfold ZcW Zb2
 by_cases hl : j < n * 2
 · rw [List.getElem_append_left (by simpa [ZbJ] using hl)]
   simp only [ZbJ, List.getElem_map, List.getElem_range, ZcW]
   have hne : ¬ (j / 2 = n) := by omega
   by_cases e : j % 2 = 0
   · rw [if_pos e, if_pos e]; simp [hne]
   · rw [if_neg e, if_neg e]; simp [hne]
 · rw [List.getElem_append_right (by simp [ZbJ]; omega)]
   have hlen : (ZbJ vm vl n).length = n * 2 := by simp [ZbJ]
   have hd : j / 2 = n := by omega
   by_cases e : j % 2 = 0
   · have : j - (ZbJ vm vl n).length = 0 := by omega
     rw [if_pos e]; simp [this, hd]
   · have : j - (ZbJ vm vl n).length = 1 := by omega
     rw [if_neg e]; simp [this, hd]
structure TsR (o : Bool) (base : Nat) (w : World) (v : Value) (ts : List Wb) (S : Nat -> Nat -> Prop) (vm vl : Nat -> Value) : Prop where
 row : w.ownsRow base 47 2 v ts.length (ZbJ vm vl ts.length)
 webs : ∀ i, i < ts.length -> OwW o (S i) w (vm i) (vl i) (Ze ts i).1 (Ze ts i).2
 off : ∀ i, i < ts.length -> ∀ g, v.ownBlock = some g -> ¬ S i g
 apart : ∀ i j, i < ts.length -> j < ts.length -> i ≠ j -> ∀ b, S i b -> ¬ S j b
 four : ts.length <= 4
 low : ∀ i b, i < ts.length -> S i b -> base <= b
theorem TsR.start (o : Bool) (base : Nat) (w : World) : TsR o base w (.slice none 0 0) [] (fun _ _ => False) (fun _ => .slice none 0 0) (fun _ => .slice none 0 0) :=
 ⟨⟨rfl, Or.inl ⟨rfl, rfl⟩⟩, fun i hi => absurd hi (by simp), fun i hi => absurd hi (by simp), fun i j hi => absurd hi (by simp), by simp, fun i b hi => absurd hi (by simp)⟩
def FtR (v : Value) (n : Nat) (S : Nat -> Nat -> Prop) (b : Nat) : Prop := v.ownBlock = some b \/ ∃ i, i < n /\ S i b
theorem Zb6 {base : Nat} {w w' : World} {e : TypeId} {size n : Nat} {v : Value} {xs : List Value} (h : w.ownsRow base e size v n xs) (k : ∀ g, v.ownBlock = some g -> w'.heap[g]? = w.heap[g]?) : w'.ownsRow base e size v n xs := by
 obtain ⟨h1, h2 | ⟨g, cap, cur, rfl, hb, hg, h3⟩⟩ := h
 · exact ⟨h1, Or.inl h2⟩
 · exact ⟨h1, Or.inr ⟨g, cap, cur, rfl, hb, (k g rfl).trans hg, h3⟩⟩
theorem TsR.sm {o : Bool} {base : Nat} {w w' : World} {v : Value} {ts : List Wb} {S : Nat -> Nat -> Prop} {vm vl : Nat -> Value} (h : TsR o base w v ts S vm vl) (k : Sta (FtR v ts.length S) w w') : TsR o base w' v ts S vm vl :=
 ⟨Zb6 h.row (fun g e => k.2 g (Or.inl e)), fun i hi => (h.webs i hi).sm (k.mono (fun _ hb => Or.inr ⟨i, hi, hb⟩)), h.off, h.apart, h.four, h.low⟩
theorem TsR.bnd {o : Bool} {base : Nat} {w : World} {v : Value} {ts : List Wb} {S : Nat -> Nat -> Prop} {vm vl : Nat -> Value} (h : TsR o base w v ts S vm vl) (b : Nat) (hb : FtR v ts.length S b) : base <= b /\ b < w.heap.size := by
 rcases hb with e | ⟨i, hi, hs⟩
 · exact World.ownsRow.lt h.row b e
 · exact ⟨h.low i b hi hs, (h.webs i hi).bnd b hs⟩
theorem TsR.next {o : Bool} {base : Nat} {w w' : World} {v : Value} {ts : List Wb} {S : Nat -> Nat -> Prop} {vm vl : Nat -> Value} (h : TsR o base w v ts S vm vl) (L : Below w.heap.size w w') : TsR o base w' v ts S vm vl := h.sm (Sta.below L (fun b hb => (h.bnd b hb).2))
theorem TsR.form {o : Bool} {base : Nat} {w : World} {v : Value} {ts : List Wb} {S : Nat -> Nat -> Prop} {vm vl : Nat -> Value} (h : TsR o base w v ts S vm vl) : ∃ a c, v = .slice a ts.length c /\ ts.length <= c /\ ZC true w a ts := by
 obtain ⟨h1, ⟨rfl, h2⟩ | ⟨g, cap, cur, rfl, hb, hg, hc, h3⟩⟩ := h.row
 · exact ⟨none, 0, by rw [h2], by omega, Or.inl (List.length_eq_zero_iff.1 h2)⟩
 · have hr := h.row
   refine ⟨some ⟨g, 0, none⟩, cap, rfl, hc, Or.inr ⟨g, 0, rfl, (World.ownsRow.lt hr g rfl).2, fun i hi => ?_⟩⟩
   obtain ⟨am, cm, al, cl, e1, e2, l1, l2, hv⟩ := (h.webs i hi).view
   have c0 := World.ownsRow.cellAt hr (i * 2) (by omega)
   have c1 := World.ownsRow.cellAt hr (i * 2 + 1) (by omega)
   rw [Zjf (by omega)] at c0 c1
   have a0 : ZcW vm vl (i * 2) = vm i := by unfold ZcW; rw [if_pos (by omega), show i * 2 / 2 = i by omega]
   have a1 : ZcW vm vl (i * 2 + 1) = vl i := by unfold ZcW; rw [if_neg (by omega), show (i * 2 + 1) / 2 = i by omega]
   rw [a0, e1] at c0
   rw [a1, e2] at c1
   obtain ⟨v1, v2⟩ := hv w (Sta.refl _ _)
   rw [Nat.zero_add]
   exact ⟨am, cm, al, cl, c0, c1, v1, v2, fun _ => ⟨l1, l2⟩⟩
theorem TsR.snoc {o : Bool} {base : Nat} {w w8 : World} {v : Value} {ts : List Wb} {S : Nat -> Nat -> Prop} {vm vl : Nat -> Value} (h : TsR o base w v ts S vm vl) {gg cc : Nat} {F : Nat -> Prop} {xm xl : Value} {t : Wb}
 (hown : w8.ownsRow base 47 2 (.slice (some ⟨gg, 0, none⟩) (ts.length + 1) cc) (ts.length + 1) (ZbJ vm vl ts.length ++ [xm, xl])) (hsz : w.heap.size <= w8.heap.size) (hsame : ∀ b, b < w.heap.size -> v.ownBlock ≠ some b -> w8.heap[b]? = w.heap[b]?)
 (hw : OwW o F w8 xm xl t.1 t.2) (hF : ∀ b, F b -> w.heap.size <= b /\ b ≠ gg) (hg : v.ownBlock = some gg \/ w.heap.size <= gg) (hb : base <= w.heap.size) (h4 : ts.length + 1 <= 4) :
 TsR o base w8 (.slice (some ⟨gg, 0, none⟩) (ts.length + 1) cc) (ts ++ [t]) (ZcP S ts.length F) (Zb2 vm ts.length xm) (Zb2 vl ts.length xl) := by
 have hlen : (ts ++ [t]).length = ts.length + 1 := by simp
 have hnew : Ze (ts ++ [t]) ts.length = t := by simp [Ze, List.getD]
 have hold : ∀ i, i < ts.length -> Ze (ts ++ [t]) i = Ze ts i := fun i hi => by simp [Ze, List.getD, List.getElem?_append_left hi]
 refine ⟨by rw [hlen, Zke]; exact hown, fun i hi => ?_, fun i hi g e => ?_, fun i j hi hj hne b => ?_, by rw [hlen]; exact h4, fun i b hi hs => ?_⟩
 · rw [hlen] at hi
   unfold ZcP Zb2
   by_cases e : i = ts.length
   · rw [if_pos e, if_pos e, if_pos e, e, hnew]; exact hw
   · rw [if_neg e, if_neg e, if_neg e, hold i (by omega)]
     exact (h.webs i (by omega)).sm ⟨hsz, fun b hb => hsame b ((h.webs i (by omega)).bnd b hb) (fun e' => h.off i (by omega) b e' hb)⟩
 · rw [hlen] at hi
   have e' : g = gg := by simpa [Value.ownBlock] using e.symm
   unfold ZcP
   by_cases e2 : i = ts.length
   · rw [if_pos e2]; exact fun hb => (hF g hb).2 e'
   · rw [if_neg e2]
     intro hb
     have hbb := (h.webs i (by omega)).bnd g hb
     rcases hg with h1 | h1
     · exact h.off i (by omega) g (by rw [e']; exact h1) hb
     · omega
 · rw [hlen] at hi hj
   unfold ZcP
   by_cases e : i = ts.length
   · rw [if_pos e, if_neg (by omega)]
     exact fun hb hb' => by have := hF b hb; have := (h.webs j (by omega)).bnd b hb'; omega
   · rw [if_neg e]
     by_cases e2 : j = ts.length
     · rw [if_pos e2]
       exact fun hb hb' => by have := hF b hb'; have := (h.webs i (by omega)).bnd b hb; omega
     · rw [if_neg e2]
       exact h.apart i j (by omega) (by omega) hne b
 · rw [hlen] at hi
   unfold ZcP at hs
   by_cases e : i = ts.length
   · rw [if_pos e] at hs; have := hF b hs; omega
   · rw [if_neg e] at hs; exact h.low i b (by omega) hs
end Go.Proofs.YtaaagmgglolibaaGreat
