import Derived.Test.YtaaagmgglolibaaGreatFeHelpZz
import Derived.Test.YtaaagmgglolibaaGreatMRowZz
import Derived.Test.YtaaagmgglolibaaGreatBMarkZz
set_option maxHeartbeats 2000000
namespace Go.Proofs.YtaaagmgglolibaaGreat
open Go Go.RowKit
theorem ZiP (ds : List Dm) (j : Nat) (h : j < ds.length) (id : Int) (xs : List Int) (hl : xs.length = (Zo ds j).2.2.2.length) :
 ZaG (ds.set j (id, (Zo ds j).2.1, (Zo ds j).2.2.1, xs)) = (ZaG ds).set (j * 2) (.int .i64 id) := by
 induction ds generalizing j with
 | nil => simp at h
 | cons d ds ih =>
   cases j with
   | zero =>
     have e : Zo (d :: ds) 0 = d := rfl
     rw [e] at hl ⊢
     simp [ZaG, hl]
   | succ j =>
     have h' : j < ds.length := by simpa using h
     have e := ih j h' hl
     rw [show (j + 1) * 2 = j * 2 + 1 + 1 by omega]
     show ZaG (d :: ds.set j _) = _
     simp only [ZaG, List.set_cons_succ]
     first
      | (rw [<- e]; rfl)
      | (simp only [List.cons_append, List.nil_append, List.set_cons_succ]; rw [<- e]; rfl)
theorem ZbK (ds : List Dm) (j : Nat) (h : j < ds.length) (d : Dm) (i : Nat) : Zo (ds.set j d) i = if i = j then d else Zo ds i := by
 by_cases e : i = j
 · subst e; simp [Zo, List.getD, h]
 · simp [Zo, List.getD, e, List.getElem?_set_ne (fun e' => e e'.symm)]
structure Zcz (base : Nat) (w : World) (g c : Nat) (ds : List Dm) : Prop where
 row : w.ownsRow base 29 2 (.slice (some ⟨g, 0, none⟩) ds.length c) ds.length (ZaG ds)
 rows : ∀ i, i < ds.length -> ZL base w (Zo ds i).2.1 (Zo ds i).2.2.1 (Zo ds i).2.2.2
 off : ∀ i, i < ds.length -> (Zo ds i).2.1 ≠ g
 apart : ∀ i j, i < ds.length -> j < ds.length -> i ≠ j -> (Zo ds i).2.1 ≠ (Zo ds j).2.1
theorem Zcz.lt {base : Nat} {w : World} {g c : Nat} {ds : List Dm} (h : Zcz base w g c ds) : base <= g /\ g < w.heap.size := World.ownsRow.lt h.row g rfl
theorem Zcz.cells {base : Nat} {w : World} {g c : Nat} {ds : List Dm} (h : Zcz base w g c ds) (i : Nat) (hi : i < ds.length) :
 w.cell? ⟨g, i * 2, none⟩ = some (.int .i64 (Zo ds i).1) /\ w.cell? ⟨g, i * 2 + 1, none⟩ = some (.slice (some ⟨(Zo ds i).2.1, 0, none⟩) (Zo ds i).2.2.2.length (Zo ds i).2.2.1) := by
 have := Zet ds i hi
 rw [World.ownsRow.cellAt h.row _ (by omega), World.ownsRow.cellAt h.row _ (by omega)]
 exact this
theorem Zcz.view {base : Nat} {w : World} {g c : Nat} {ds : List Dm} (h : Zcz base w g c ds) : ZA w (some ⟨g, 0, none⟩) (Zw ds) :=
 Or.inr ⟨g, 0, rfl, h.lt.2, fun i hi => by
  rw [ZF] at hi
  rw [Nat.zero_add, Zbo ds i hi]
  exact ⟨(h.cells i hi).1, _, _, (h.cells i hi).2, (h.rows i hi).view⟩⟩
theorem Zcz.over {base : Nat} {w w2 : World} {g c : Nat} {ds : List Dm} (h : Zcz base w g c ds) (j : Nat) (hj : j < ds.length) (id : Int) (xs : List Int) (hl : xs.length = (Zo ds j).2.2.2.length)
 (hg : (w.setCell ⟨g, j * 2, none⟩ (.int .i64 id)).grownBy w2 (some (Zo ds j).2.1)) (hr : ZL base w2 (Zo ds j).2.1 (Zo ds j).2.2.1 xs) : Zcz base w2 g c (ds.set j (id, (Zo ds j).2.1, (Zo ds j).2.2.1, xs)) := by
 have hoj := h.off j hj
 have r1 := (World.ownsRow.stored h.row (j * 2) (.int .i64 id)).1
 have hne : ∀ i, i < ds.length -> i ≠ j -> (w2.heap[(Zo ds i).2.1]? = w.heap[(Zo ds i).2.1]?) := fun i hi e => by
  have h1 := (h.rows i hi).lt
  refine (hg.block _ (by rw [Zc]; exact h1.2) (fun e' => ?_)).trans (Below.heap_setCell w ⟨g, j * 2, none⟩ _ _ (fun e' => h.off i hi e'))
  injection e' with e'
  exact h.apart i j hi hj e e'
 refine ⟨?_, fun i hi => ?_, fun i hi => ?_, fun i k hi hk e => ?_⟩
 · rw [List.length_set, ZiP ds j hj id xs hl]
   exact World.ownsRow.kept r1 hg (Or.inr (by simp [Value.ownBlock]; exact fun e => hoj e.symm))
 · rw [List.length_set] at hi
   rw [ZbK ds j hj]
   by_cases e : i = j
   · rw [if_pos e]; exact hr
   · rw [if_neg e]; exact (h.rows i hi).same (hne i hi e)
 · rw [List.length_set] at hi
   rw [ZbK ds j hj]
   by_cases e : i = j
   · rw [if_pos e]; exact hoj
   · rw [if_neg e]; exact h.off i hi
 · rw [List.length_set] at hi hk
   rw [ZbK ds j hj, ZbK ds j hj]
   by_cases e1 : i = j
   · rw [if_pos e1, if_neg (by omega)]; exact h.apart j k hj hk (by omega)
   · rw [if_neg e1]
     by_cases e2 : k = j
     · rw [if_pos e2]; exact h.apart i j hi hj e1
     · rw [if_neg e2]; exact h.apart i k hi hk e
structure ZhH (g : Nat) (ds : List Dm) (w w' : World) : Prop where
 os : w'.os = w.os
 tape : w'.tape = w.tape
 output : w'.output = w.output
 size : w.heap.size <= w'.heap.size
 block : ∀ b, b < w.heap.size -> b ≠ g -> (∀ i, i < ds.length -> b ≠ (Zo ds i).2.1) -> w'.heap[b]? = w.heap[b]?
theorem ZhH.refl (g : Nat) (ds : List Dm) (w : World) : ZhH g ds w w := ⟨rfl, rfl, rfl, Nat.le_refl _, fun _ _ _ _ => rfl⟩
theorem ZhH.step {g : Nat} {ds : List Dm} {w w1 w2 : World} (h : ZhH g ds w w1) (k j : Nat) (v : Value) (hj : j < ds.length) (hg : (w1.setCell ⟨g, k, none⟩ v).grownBy w2 (some (Zo ds j).2.1)) : ZhH g ds w w2 :=
 ⟨hg.os.trans h.os, hg.tape.trans h.tape, hg.output.trans h.output, Nat.le_trans h.size (by have := hg.size; rw [Zc] at this; exact this), fun b hb h1 h2 => by
  refine (hg.block b (by rw [Zc]; exact Nat.lt_of_lt_of_le hb h.size) (fun e => ?_)).trans ((Below.heap_setCell w1 ⟨g, k, none⟩ _ b (fun e => h1 e)).trans (h.block b hb h1 h2))
  injection e with e
  exact h2 j hj e⟩
structure MkTo (base g c : Nat) (ds : List Dm) (k0 : Int) (w wr : World) (j : Nat) (es : List Dm) : Prop where
 own : Zcz base wr g c es
 len : es.length = ds.length
 done : ∀ i, i < j -> ZS (Zw es) i = ZS (mkM k0 (Zw ds)) i
 rest : ∀ i, j <= i -> Zo es i = Zo ds i
 blk : ∀ i, i < ds.length -> (Zo es i).2.1 = (Zo ds i).2.1
 chg : ZhH g ds w wr
theorem ZlO {a b : List Mk} (hl : a.length = b.length) (h : ∀ i, i < a.length -> ZS a i = ZS b i) : a = b := by
 refine List.ext_getElem hl (fun i h1 h2 => ?_)
 have e := h i h1
 simpa [ZS, List.getD, h1, h2] using e
theorem Zov (base g c : Nat) (ds : List Dm) (k0 : Int) (w : World) (hm : Zcz base w g c ds) (hn : ds.length <= 60) (hat : ∀ x ∈ Zw ds, x.2.length <= 4) (h0 : 1 <= k0) (h1 : k0 <= 1000000) :
 Calls Tryz.prog 170 #[.slice (some ⟨g, 0, none⟩) ds.length c, .int .i64 k0] w fun e w' => e = .returned (.int .i64 (k0 + Zap (Zw ds))) /\ (∃ es, Zcz base w' g c es /\ es.length = ds.length /\ Zw es = mkM k0 (Zw ds) /\ ∀ i, i < ds.length -> (Zo es i).2.1 = (Zo ds i).2.1) /\ ZhH g ds w w' := by
 have HAT := Za hat
 have HM := Za hm
 clear hat hm
 go_enter Tryz.func170, Tryz.ntmps170
 go_wp2_with fail
 go_loopw [1, 5] (fun kk i wr => ∃ (j : Nat) (es : List Dm), j <= ds.length /\ i = .int .i64 j /\ kk = .int .i64 (k0 + Zap ((Zw ds).take j)) /\ MkTo base g c ds k0 w wr j es) (fun _ i _ => ds.length - (intOf i).toNat)
 case atStart => exact ⟨0, ds, Nat.zero_le _, rfl, by simp [Zap], ⟨HM.out, rfl, fun i hi => absurd hi (by omega), fun i _ => rfl, fun i _ => rfl, ZhH.refl _ _ _⟩⟩
 case round =>
  obtain ⟨j, es, hj, rfl, rfl, I⟩ := hrel
  by_cases hlt : j < ds.length
  · have hje : j < es.length := by rw [I.len]; exact hlt
    have hjm : j < (Zw ds).length := by rw [ZF]; exact hlt
    obtain ⟨c0, c1⟩ := I.own.cells j hje
    have f0 : wr.frozen? ⟨g, j * 2, none⟩ = false := World.ownsRow.frozenAt I.own.row (j * 2)
    have hd := I.rest j (Nat.le_refl _)
    have hl4 : (ZS (Zw ds) j).2.length <= 4 := by
     have : ZS (Zw ds) j = (Zw ds)[j] := by simp [ZS, List.getD, hjm]
     rw [this]; exact HAT.out _ (List.getElem_mem hjm)
    have ht1 := ZgZ ((Zw ds).take j) 60 4 (by rw [List.length_take, ZF]; omega) (fun x hx => HAT.out x (List.mem_of_mem_take hx))
    have HTK := Za (Zgp (Zw ds) j hjm)
    have HAJ := Za (ZlJ k0 (Zw ds) j hjm)
    have HDM := Za (Zbo ds j hlt)
    have HI := Za I
    have hlen : (Zo es j).2.2.2.length = (ZS (Zw ds) j).2.length := by rw [hd, Zbo ds j hlt]
    rw [hlen] at c1
    have HLN := Za hlen
    have HH : Hid (Calls Tryz.prog 79 #[.slice (some ⟨(Zo es j).2.1, 0, none⟩) (ZS (Zw ds) j).2.length (Zo es j).2.2.1, .int .i64 (k0 + Zap ((Zw ds).take j) + 1)] (wr.setCell ⟨g, j * 2, none⟩ (.int .i64 (k0 + Zap ((Zw ds).take j)))) fun e w' => e = .returned (.int .i64 (k0 + Zap ((Zw ds).take j) + 1 + (ZS (Zw ds) j).2.length)) /\ ZL base w' (Zo es j).2.1 (Zo es j).2.2.1 (ZaW (fun i => k0 + Zap ((Zw ds).take j) + 1 + i) (ZS (Zw ds) j).2.length) /\ (wr.setCell ⟨g, j * 2, none⟩ (.int .i64 (k0 + Zap ((Zw ds).take j)))).grownBy w' (some (Zo es j).2.1)) := by
     have := Zn4 base (Zo es j).2.1 (Zo es j).2.2.1 (k0 + Zap ((Zw ds).take j) + 1) (Zo es j).2.2.2 (wr.setCell ⟨g, j * 2, none⟩ (.int .i64 (k0 + Zap ((Zw ds).take j)))) ((I.own.rows j hje).same (Below.heap_setCell wr ⟨g, j * 2, none⟩ _ _ (fun e => I.own.off j hje e))) (by omega) (by omega) (by omega)
     rw [hlen] at this
     exact this
    have hi0 : (0 : Int) <= (j : Int) := Int.natCast_nonneg _
    have hi1 : (j : Int) < (ds.length : Int) := by omega
    clear hd hlen I
    generalize hM : (ZS (Zw ds) j).2.length = m at *
    generalize hT : Zap ((Zw ds).take j) = T at *
    generalize hG : (Zo es j).2.1 = gb at *
    generalize hC : (Zo es j).2.2.1 = cb at *
    have HE := Za (And.intro hM (And.intro hT (And.intro hG hC)))
    clear hM hT hG hC
    go_wp2_with fail
    refine HH.out.mono ?_
    rintro e w2 ⟨rfl, hr, hg⟩
    have HR := Za (And.intro hr hg)
    clear hr hg
    go_wp2_with fail
    go_roundw
    case rel =>
     obtain ⟨eM, eT, eG, eC⟩ := HE.out
     have I := HI.out
     have hr := HR.out.1
     have hg := HR.out.2
     rw [<- eG] at hr hg
     rw [<- eC] at hr
     have hxl : (ZaW (fun i => k0 + (T : Int) + 1 + i) m).length = (Zo es j).2.2.2.length := by rw [ZC, HLN.out]
     have hb := I.blk j hlt
     refine ⟨j + 1, es.set j (k0 + T, (Zo es j).2.1, (Zo es j).2.2.1, ZaW (fun i => k0 + (T : Int) + 1 + i) m), by omega, by go_num, by rw [HTK.out]; congr 1; omega, ?_⟩
     refine ⟨I.own.over j hje _ _ hxl hg hr, by rw [List.length_set]; exact I.len, fun i hi => ?_, fun i hi => ?_, fun i hi => ?_, I.chg.step _ j _ hlt (by rw [<- hb]; exact hg)⟩
     · rw [Zbo _ _ (by rw [List.length_set]; omega), ZbK es j hje]
       by_cases e : i = j
       · subst e
         rw [if_pos rfl, HAJ.out]
       · rw [if_neg e, <- Zbo _ _ (by omega)]
         exact I.done i (by omega)
     · rw [ZbK es j hje, if_neg (by omega)]
       exact I.rest i (by omega)
     · rw [ZbK es j hje]
       by_cases e : i = j
       · subst e; rw [if_pos rfl]; exact hb
       · rw [if_neg e]; exact I.blk i hi
    case measure => simp [intOf]; omega
  · obtain rfl : j = ds.length := by omega
    go_wp2_with fail
    go_ret
    refine ⟨ZH (by rw [<- ZF, List.take_length]), ⟨es, I.own, I.len, ZlO (by rw [ZF, ZdN, ZF]; exact I.len) (fun i hi => I.done i (by rw [ZF, I.len] at hi; exact hi)), I.blk⟩, I.chg⟩
end Go.Proofs.YtaaagmgglolibaaGreat
