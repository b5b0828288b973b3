import Derived.Test.YtaaagmgglolibaaGreatHCellsZz
import Derived.Test.YtaaagmgglolibaaGreatArgsZz
import Derived.Test.YtaaagmgglolibaaGreatBCopyZz
import Derived.Test.YtaaagmgglolibaaGreatAppendZz
import Derived.Shelf.Spec.SlicesInsert
import Derived.Laws.CopyOwn
import Derived.Lib.AppendZerosOnto
import Derived.Deep.RegionHeld3
import Derived.Test.YtaaagmgglolibaaGreatMathZz
import Derived.BigQuiet
import Derived.Test.YtaaagmgglolibaaGreatFg0Zz
import Derived.Test.YtaaagmgglolibaaGreatHSpecZz
import Derived.Test.YtaaagmgglolibaaGreatJRwZz
import Derived.Test.YtaaagmgglolibaaGreatCopyZz
import Derived.Test.YtaaagmgglolibaaGreatLastZz
import Derived.Test.YtaaagmgglolibaaGreatSCellsZz
import Derived.Test.YtaaagmgglolibaaGreatKSuitZz
import Derived.Test.YtaaagmgglolibaaGreatFeHelpZz
set_option maxRecDepth 100000
set_option maxHeartbeats 8000000
namespace Go.Proofs.YtaaagmgglolibaaGreat
open Go Go.RowKit
theorem ZbA {P : Program} (w : World) (dT sT ty elem : TypeId) (g o dLen dCap : Nat) (a : Addr) (sLen sCap size : Nat) (cur : List Value) (t : TypeId) (cs : List Value)
 (hu : P.underlying dT = some (.slice elem)) (hs : (P.info? elem).map (·.size) = some size)
 (hg : w.heap[g]? = some (.cells cur.toArray t (0, 0))) (hn : cs.length = Nat.min sLen dLen * size) (hfit : o + cs.length <= cur.length)
 (hsrc : ∀ j v, cs[j]? = some v -> w.cell? (a.add j) = some v) (h1 : ∀ v ∈ cs, v.oneCell' = true) :
 (Builtin.copy_ #[dT, sT] ty #[.slice (some ⟨g, o, none⟩) dLen dCap, .slice (some a) sLen sCap]).run P w = .ok (goInt (Nat.min sLen dLen)) (w.setRow g (splice cur o cs).toArray) := by
 have hl := run_loadCells_list (P := P) w a cs hsrc
 have hst := run_storeCells_at P g o t cs 0 cur.toArray w hg (by simpa using hfit) h1
 have e : (cur.toArray.toList.take (o + 0) ++ cs ++ cur.toArray.toList.drop (o + 0 + cs.length)).toArray = (splice cur o cs).toArray := by
  simp [splice]
 rw [e] at hst
 cases hq : P.info? elem with
 | none => simp [hq] at hs
 | some i =>
   have hi : i.size = size := by simpa [hq] using hs
   rw [hn] at hl
   simp [Builtin.copy_, run_underlying hu, Builtin.lenOf, Builtin.firstCells, sizeOf, typeInfo, hq, hi, hl, hst]
theorem Zid {A B S X : List Value} (hX : X.length = 1) (hS : 1 <= S.length) :
 splice (splice (A ++ (B ++ S)) (A.length + 1) B) A.length X = A ++ (X ++ (B ++ S.drop 1)) := by
 have e1 : splice (A ++ (B ++ S)) (A.length + 1) B = A ++ ((B ++ S).take 1 ++ (B ++ S.drop 1)) := by
  unfold splice
  rw [List.take_append, List.drop_append]
  rw [List.take_of_length_le (by omega : A.length <= A.length + 1), List.drop_of_length_le (by omega : A.length <= A.length + 1 + B.length)]
  rw [show A.length + 1 - A.length = 1 by omega, show A.length + 1 + B.length - A.length = B.length + 1 by omega]
  rw [List.drop_append, List.drop_of_length_le (by omega : B.length <= B.length + 1), show B.length + 1 - B.length = 1 by omega]
  simp
 have h2 : ((B ++ S).take 1).length = 1 := by simp; omega
 rw [e1]
 unfold splice
 rw [List.take_left', List.drop_append, hX]
 · rw [List.drop_of_length_le (by omega : A.length <= A.length + 1), show A.length + 1 - A.length = 1 by omega]
   rw [List.drop_left' h2]
   simp
 · rfl
theorem Zg4 {A B Z X : List Value} (hX : X.length = 1) :
 splice (splice (A ++ Z) A.length X) (A.length + 1) B = A ++ (X ++ (B ++ Z.drop (1 + B.length))) := by
 have e1 : splice (A ++ Z) A.length X = A ++ (X ++ Z.drop 1) := by
  unfold splice
  rw [List.take_left', List.drop_append, hX]
  · rw [List.drop_of_length_le (by omega : A.length <= A.length + 1), show A.length + 1 - A.length = 1 by omega]
    simp
  · rfl
 rw [e1]
 have e2 : A ++ (X ++ Z.drop 1) = (A ++ X) ++ Z.drop 1 := by simp
 have hl : (A ++ X).length = A.length + 1 := by simp [hX]
 rw [e2]
 unfold splice
 rw [List.take_left' hl, List.drop_append, hl]
 rw [List.drop_of_length_le (by omega : (A ++ X).length <= A.length + 1 + B.length), show A.length + 1 + B.length - (A.length + 1) = B.length by omega, List.drop_drop]
 simp [Nat.add_comm]
def Seg2 (w : World) (g : Nat) (cs : List Value) : Prop := ∀ j v, cs[j]? = some v -> w.cell? ⟨g, j, none⟩ = some v
def One (w : World) (p : Nat) (v : Value) (t : TypeId) : Prop := w.heap[p]? = some (.cells #[v] t (0, 0))
theorem One.lt {w : World} {p : Nat} {v : Value} {t : TypeId} (h : One w p v t) : p < w.heap.size := by
 unfold One at h
 rcases Nat.lt_or_ge p w.heap.size with h1 | h1
 · exact h1
 · rw [Array.getElem?_eq_none h1] at h; cases h
theorem One.c0 {w : World} {p : Nat} {v : Value} {t : TypeId} (h : One w p v t) : w.cell? ⟨p, 0, none⟩ = some v := by unfold One at h; simp [World.cell?, h]
theorem One.frozen {w : World} {p : Nat} {v : Value} {t : TypeId} (h : One w p v t) (j : Nat) : w.frozen? ⟨p, j, none⟩ = false := by unfold One at h; simp [World.frozen?, h]
theorem One.new (w : World) (v : Value) (t : TypeId) : One (w.alloc (.cells #[v] t)) w.heap.size v t := heap_alloc_new w _
theorem Zg5 : (Tryz.prog.info? 227).map (fun i => (i.zero, i.size, i.bytes)) = some (some (Value.nilIface), 1, 16) := by kernel_rfl
def Za2 (base : Nat) (w : World) (g c : Nat) (vs : List Value) : Prop := w.ownsRow base 227 1 (.slice (some ⟨g, 0, none⟩) vs.length c) vs.length vs
theorem Za2.lt {base : Nat} {w : World} {g c : Nat} {vs : List Value} (h : Za2 base w g c vs) : base <= g /\ g < w.heap.size := World.ownsRow.lt h g rfl
theorem Zer {base : Nat} {w : World} {g c : Nat} {vs : List Value} (h : Za2 base w g c vs) : ∃ S : List Value, w.heap[g]? = some (.cells (vs ++ S).toArray 227 (0, 0)) /\ S.length = c - vs.length /\ base <= g /\ vs.length <= c /\ c <= maxLen := by
 obtain ⟨h1, h2⟩ := h
 rcases h2 with ⟨e, _⟩ | ⟨g', cp, cur, e, hb, hg, hnc, hcm, hsz, htk⟩
 · cases e
 · injection e with e1 e2 e3
   injection e1 with e1
   injection e1 with e1
   subst e1 e3
   rw [Nat.mul_one] at htk hsz
   refine ⟨cur.toList.drop vs.length, ?_, ?_, hb, hnc, hcm⟩
   · have : (vs ++ cur.toList.drop vs.length).toArray = cur := by
      have e := List.take_append_drop vs.length cur.toList
      rw [htk] at e
      rw [e]
     rw [this]; exact hg
   · rw [List.length_drop, Array.length_toList, hsz]
theorem Zg6 {base : Nat} {w : World} {g c : Nat} {vs : List Value} {S : List Value} (hg : w.heap[g]? = some (.cells (vs ++ S).toArray 227 (0, 0))) (hS : S.length = c - vs.length) (hb : base <= g) (hnc : vs.length <= c) (hcm : c <= maxLen) : Za2 base w g c vs := by
 refine ⟨by simp, Or.inr ⟨g, c, _, rfl, hb, hg, hnc, hcm, ?_, ?_⟩⟩
 · simp [hS]; omega
 · have e : (vs ++ S).toArray.toList = vs ++ S := rfl
   rw [e, Nat.mul_one, List.take_left' rfl]
theorem Zie (base g c i vb : Nat) (hs : List Value) (h : Value) (w : World) (ho : ∀ v ∈ hs, v.oneCell' = true) (hho : h.oneCell' = true) (hr : Za2 base w g c hs) (hv : One w vb h 227) (hne : vb ≠ g) (hi : i < hs.length) (hroom : hs.length + 1 <= c) (hn : hs.length <= 1048576) :
 Calls Tryz.prog 281 #[.slice (some ⟨g, 0, none⟩) hs.length c, .int .i64 i, .slice (some ⟨vb, 0, none⟩) 1 1] w fun e w' => e = .returned (.slice (some ⟨g, 0, none⟩) (hs.length + 1) c) /\ Za2 base w' g c (hs.take i ++ h :: hs.drop i) /\ w.grownBy w' (some g) := by
 obtain ⟨S, hgS, hSl, hbg, hnc, hcm⟩ := Zer hr
 have hov : ∀ o lb cb, (callFunc 299 #[.slice (some ⟨vb, 0, none⟩) 1 1, .slice (some ⟨g, o, none⟩) lb cb]).run Tryz.prog w = .ok (.value (.bool false)) w := fun o lb cb => by
  rw [run_callFunc_extern Tryz.func299 (by kernel_rfl) (by kernel_rfl) (by kernel_rfl) (e := Extern.SlicesOverlaps.overlaps #[222, 222] #[4]) (by kernel_rfl),
   Lib.run_overlaps_apart w 222 4 227 Tryz.underlying222 1 (fun _ => by kernel_rfl) ⟨vb, 0, none⟩ ⟨g, o, none⟩ 1 1 lb cb hne 227 227 1 (hs ++ S).length (by unfold One at hv; simp [World.shape?, hv]) (by simp [World.shape?, hgS]) (by rw [List.length_append]; omega) (hv.frozen 0) (hv.frozen 1)]
  rfl
 have hsz2 : (Tryz.prog.info? 227).map (·.size) = some 1 := by kernel_rfl
 have ecur : hs ++ S = hs.take i ++ (hs.drop i ++ S) := by rw [<- List.append_assoc, List.take_append_drop]
 have hAl : (hs.take i).length = i := by simp; omega
 have hBl : (hs.drop i).length = hs.length - i := by simp
 obtain ⟨C1, hC1⟩ : ∃ C1, C1 = splice (hs ++ S) (i + 1) (hs.drop i) := ⟨_, rfl⟩
 have hC1l : C1.length = (hs ++ S).length := by rw [hC1]; exact length_splice _ _ _ (by rw [hBl, List.length_append, hSl]; omega)
 obtain ⟨C2, hC2⟩ : ∃ C2, C2 = splice C1 i [h] := ⟨_, rfl⟩
 have eC2 : C2 = (hs.take i ++ h :: hs.drop i) ++ S.drop 1 := by
  have h1 := Zid (A := hs.take i) (B := hs.drop i) (S := S) (X := [h]) rfl (by omega)
  rw [hAl] at h1
  rw [hC2, hC1, ecur, h1]
  simp
 have hsg : Seg2 w g hs := fun j v hj => by
  have hjl : j < hs.length := by
   rcases Nat.lt_or_ge j hs.length with h1 | h1
   · exact h1
   · rw [List.getElem?_eq_none h1] at hj; cases hj
  simp only [World.cell?, hgS]
  simp [List.getElem?_append_left hjl, hj]
 have hcp1 : ∀ ty dc sc, (Builtin.copy_ #[222, 222] ty #[.slice (some ⟨g, i + 1, none⟩) (hs.length - i) dc, .slice (some ⟨g, i, none⟩) (hs.length + 1 - i) sc]).run Tryz.prog w.drew = .ok (goInt (Nat.min (hs.length + 1 - i) (hs.length - i))) (w.drew.setRow g C1.toArray) := fun ty dc sc => by
  rw [hC1]
  exact ZbA w.drew _ _ ty 227 g (i + 1) (hs.length - i) dc ⟨g, i, none⟩ (hs.length + 1 - i) sc 1 (hs ++ S) 227 (hs.drop i) Tryz.underlying222 hsz2 hgS (by rw [hBl, Nat.mul_one]; simp only [Nat.min_def]; split <;> omega) (by rw [hBl, List.length_append, hSl]; omega)
   (fun j v hj => by
     rw [List.getElem?_drop] at hj
     rw [Addr.add_lit]
     exact hsg (i + j) v hj) (fun v hv => ho v (List.mem_of_mem_drop hv))
 obtain ⟨W1, hW1⟩ : ∃ W1, W1 = w.drew.setRow g C1.toArray := ⟨_, rfl⟩
 have hg1 : W1.heap[g]? = some (.cells C1.toArray 227 (0, 0)) := by rw [hW1]; exact setRow_heap w.drew g _ _ 227 _ hgS
 have hv1 : One W1 vb h 227 := by rw [hW1]; exact (setRow_other w.drew g vb C1.toArray hne).trans hv
 have hmin1 : Nat.min 1 (hs.length + 1 - i) = 1 := by simp only [Nat.min_def]; split <;> omega
 have hcp2 : ∀ ty dc, (Builtin.copy_ #[222, 222] ty #[.slice (some ⟨g, i, none⟩) (hs.length + 1 - i) dc, .slice (some ⟨vb, 0, none⟩) 1 1]).run Tryz.prog W1 = .ok (goInt (Nat.min 1 (hs.length + 1 - i))) (W1.setRow g C2.toArray) := fun ty dc => by
  rw [hC2]
  exact ZbA W1 _ _ ty 227 g i (hs.length + 1 - i) dc ⟨vb, 0, none⟩ 1 1 1 C1 227 [h] Tryz.underlying222 hsz2 hg1 (by rw [hmin1]; rfl) (by rw [hC1l, List.length_append]; simp; omega)
   (fun j v hj => by
     rw [Addr.add_lit]
     match j, hj with
     | 0, hj => simp at hj; rw [<- hj]; exact hv1.c0
     | j + 1, hj => simp at hj) (by intro v hv; simp at hv; rw [hv]; exact hho)
 rw [<- hW1] at hcp1
 have HEND : Hid (Za2 base (W1.setRow g C2.toArray) g c (hs.take i ++ h :: hs.drop i) /\ w.grownBy (W1.setRow g C2.toArray) (some g)) := by
  refine ⟨Zg6 (S := S.drop 1) ?_ ?_ hbg ?_ hcm, ?_⟩
  · rw [<- eC2]; exact setRow_heap W1 g _ _ 227 _ hg1
  · simp; omega
  · simp; omega
  · refine ⟨by rw [hW1]; rfl, by rw [hW1]; rfl, by rw [hW1]; rfl, by rw [hW1]; simp [World.setRow], fun k _ hk => ?_⟩
    have hkg : k ≠ g := fun e => hk (by rw [e])
    rw [setRow_other W1 g k C2.toArray hkg, hW1]
    exact setRow_other w.drew g k C1.toArray hkg
 clear hsg hv1 hg1 eC2 hC1l hC1 hC2 ecur hAl hBl hW1 ho hho
 have hz2 : ¬ ((i : Int) = (hs.length : Int)) := by omega
 have hw1 : IntKind.i64.wrap ((i : Int) + 1) = (i : Int) + 1 := by rw [IntKind.wrap_i64]; omega
 have hw2 : IntKind.i64.wrap ((hs.length : Int) + 1) = (hs.length : Int) + 1 := by rw [IntKind.wrap_i64]; omega
 have hcc : ¬ ((hs.length : Int) + 1 > (c : Int)) := by omega
 have hin : i <= hs.length := by omega
 have hin2 : (i : Int) <= (hs.length : Int) := by omega
 have hb1 : (0 : Int) <= (i : Int) + 1 := by omega
 have htn : ((i : Int) + 1).toNat = i + 1 := by omega
 have hb2 : ¬ (c = i + 1) := by omega
 have hb3 : (i : Int) <= (hs.length : Int) + 1 := by omega
 have hb4 : ¬ (c = i) := by omega
 have mixed : Tryz.prog.follows Departure.mixedOrders = true := by kernel_rfl
 have hb5 : (i : Int) + 1 <= (hs.length : Int) + 1 := by omega
 go_enter Tryz.func281, Tryz.ntmps281
 go_wp2_with (simp only [hov])
 go_region_law_o (refine step_copy_runI rfl _ _ 222 222 rfl _ _ (by simp [Act.eval, Act.put]) (by simp [Act.eval, Act.put]) (hcp1 _ _ _) ?_)
 go_wp2_with fail
 go_ret
 exact ⟨rfl, HEND.out.1, HEND.out.2⟩
theorem ZjM (base g c i vb : Nat) (hs : List Value) (h : Value) (w : World) (ho : ∀ v ∈ hs, v.oneCell' = true) (hho : h.oneCell' = true) (hr : Za2 base w g c hs) (hv : One w vb h 227) (hi : i < hs.length) (hroom : c < hs.length + 1) (hn : hs.length <= 1048576) (hbw : base <= w.heap.size) :
 Calls Tryz.prog 281 #[.slice (some ⟨g, 0, none⟩) hs.length c, .int .i64 i, .slice (some ⟨vb, 0, none⟩) 1 1] w fun e w' => ∃ G, e = .returned (.slice (some ⟨w.heap.size, 0, none⟩) (hs.length + 1) G) /\ Za2 base w' w.heap.size G (hs.take i ++ h :: hs.drop i) /\ Below w.heap.size w w' := by
 obtain ⟨S, hgS, hSl, hbg, hnc, hcm⟩ := Zer hr
 obtain ⟨j0, hj0, hy0, hy1, hy2⟩ := info_parts Zg5
 have hsz2 : (Tryz.prog.info? 227).map (·.size) = some 1 := by kernel_rfl
 have hgw : g < w.heap.size := hr.lt.2
 have hvw : vb < w.heap.size := hv.lt
 have hsg : Seg2 w g hs := fun j v hj => by
  have hjl : j < hs.length := by
   rcases Nat.lt_or_ge j hs.length with h1 | h1
   · exact h1
   · rw [List.getElem?_eq_none h1] at hj; cases hj
  simp only [World.cell?, hgS]
  simp [List.getElem?_append_left hjl, hj]
 have hAl : (hs.take i).length = i := by simp; omega
 have hBl : (hs.drop i).length = hs.length - i := by simp
 have hld : (loadCells ⟨g, 0, none⟩ i).run Tryz.prog w.drew = .ok (hs.take i).toArray w.drew := by
  have h1 := run_loadCells_list (P := Tryz.prog) w.drew ⟨g, 0, none⟩ (hs.take i) (fun j v hj => by
   rw [Addr.add_lit, Nat.zero_add]
   refine hsg j v ?_
   have hjl : j < (hs.take i).length := by
    rcases Nat.lt_or_ge j (hs.take i).length with h1 | h1
    · exact h1
    · rw [List.getElem?_eq_none h1] at hj; cases hj
   have e : hs = hs.take i ++ hs.drop i := by rw [List.take_append_drop]
   rw [e, List.getElem?_append_left hjl]; exact hj)
  rwa [hAl] at h1
 have hold : (Builtin.firstCells j0.size i (.slice (some ⟨g, 0, none⟩) i c)).run Tryz.prog w.drew = .ok (hs.take i).toArray w.drew := by
  rw [hy1]
  simp [Builtin.firstCells, hld]
 have hrz := fun ty => Lib.run_append_grow_zeros (P := Tryz.prog) w 222 3 ty 227 j0 _ .i64 .i64 Tryz.underlying222 Tryz.underlying3 hj0 hy0 (some ⟨g, 0, none⟩) i c (hs.take i) hold (hs.length + 1 - i) (by omega) (by omega) (by omega) (by omega) (by rw [hy2]; omega) (growslice_fits (by omega) (by rw [hy2]; omega))
 rw [show i + (hs.length + 1 - i) = hs.length + 1 by omega, show ((hs.length + 1 - i : Nat) : Int) = (hs.length : Int) + 1 - (i : Int) by omega] at hrz
 have hG1 := grownCap_ge w (hs.length + 1) c 227
 have hG2 := grownCap_le_maxLen w (hs.length + 1) c 227 (by unfold maxLen; omega)
 obtain ⟨G, hG⟩ : ∃ G, G = grownCap w (hs.length + 1) c 227 := ⟨_, rfl⟩
 rw [<- hG] at hrz hG1 hG2
 obtain ⟨Z, hZ⟩ : ∃ Z, Z = (Builtin.zeroCells (Value.nilIface).cells (hs.length + 1 - i)).toList ++ (Builtin.zeroCells (Value.nilIface).cells (G - (hs.length + 1))).toList := ⟨_, rfl⟩
 have hZl : Z.length = G - i := by
  have e : ∀ m, (Builtin.zeroCells (Value.nilIface).cells m).toList.length = m := fun m => by simp [Builtin.zeroCells, Value.cells]
  rw [hZ, List.length_append, e, e]
  omega
 have ecells : (hs.take i).toArray ++ Builtin.zeroCells (Value.nilIface).cells (hs.length + 1 - i) ++ Builtin.zeroCells (Value.nilIface).cells (G - (hs.length + 1)) = (hs.take i ++ Z).toArray := by
  apply Array.ext'
  rw [hZ]
  simp
 rw [ecells] at hrz
 obtain ⟨W1, hW1⟩ : ∃ W1, W1 = w.drew.alloc (.cells (hs.take i ++ Z).toArray 227) := ⟨_, rfl⟩
 rw [<- hW1] at hrz
 have hBW : Below w.heap.size w W1 := by rw [hW1]; exact ((Below.refl w.heap.size w).drew).alloc (Nat.le_refl _) _
 have hg1 : W1.heap[w.heap.size]? = some (.cells (hs.take i ++ Z).toArray 227 (0, 0)) := by rw [hW1]; exact heap_alloc_new w.drew _
 have hv1 : One W1 vb h 227 := (hBW.block vb hvw).trans hv
 have hsg1 : Seg2 W1 g hs := fun j v hj => (hBW.cell (p := ⟨g, j, none⟩) hgw).trans (hsg j v hj)
 obtain ⟨C1, hC1⟩ : ∃ C1, C1 = splice (hs.take i ++ Z) i [h] := ⟨_, rfl⟩
 have hC1l : C1.length = (hs.take i ++ Z).length := by rw [hC1]; exact length_splice _ _ _ (by rw [List.length_append, hAl, hZl]; simp; omega)
 obtain ⟨C2, hC2⟩ : ∃ C2, C2 = splice C1 (i + 1) (hs.drop i) := ⟨_, rfl⟩
 have eC2 : C2 = (hs.take i ++ h :: hs.drop i) ++ Z.drop (1 + (hs.drop i).length) := by
  have h1 := Zg4 (A := hs.take i) (B := hs.drop i) (Z := Z) (X := [h]) rfl
  rw [hAl] at h1
  rw [hC2, hC1, h1]
  simp
 have hmin1 : Nat.min 1 (hs.length + 1 - i) = 1 := by simp only [Nat.min_def]; split <;> omega
 have hcp1 : ∀ ty dc, (Builtin.copy_ #[222, 222] ty #[.slice (some ⟨w.heap.size, i, none⟩) (hs.length + 1 - i) dc, .slice (some ⟨vb, 0, none⟩) 1 1]).run Tryz.prog W1 = .ok (goInt (Nat.min 1 (hs.length + 1 - i))) (W1.setRow w.heap.size C1.toArray) := fun ty dc => by
  rw [hC1]
  exact ZbA W1 _ _ ty 227 w.heap.size i (hs.length + 1 - i) dc ⟨vb, 0, none⟩ 1 1 1 (hs.take i ++ Z) 227 [h] Tryz.underlying222 hsz2 hg1 (by rw [hmin1]; rfl) (by rw [List.length_append, hAl, hZl]; simp; omega)
   (fun j v hj => by
     rw [Addr.add_lit]
     match j, hj with
     | 0, hj => simp at hj; rw [<- hj]; exact hv1.c0
     | j + 1, hj => simp at hj) (by intro v hv; simp at hv; rw [hv]; exact hho)
 obtain ⟨W2, hW2⟩ : ∃ W2, W2 = W1.setRow w.heap.size C1.toArray := ⟨_, rfl⟩
 have hg2 : W2.heap[w.heap.size]? = some (.cells C1.toArray 227 (0, 0)) := by rw [hW2]; exact setRow_heap W1 w.heap.size _ _ 227 _ hg1
 have hB2 : Below w.heap.size w W2 := by rw [hW2]; exact below_setRow hBW (Nat.le_refl _) _
 have hcp2 : ∀ ty dc sc, (Builtin.copy_ #[222, 222] ty #[.slice (some ⟨w.heap.size, i + 1, none⟩) (hs.length - i) dc, .slice (some ⟨g, i, none⟩) (hs.length - i) sc]).run Tryz.prog W2.drew = .ok (goInt (Nat.min (hs.length - i) (hs.length - i))) (W2.drew.setRow w.heap.size C2.toArray) := fun ty dc sc => by
  rw [hC2]
  exact ZbA W2.drew _ _ ty 227 w.heap.size (i + 1) (hs.length - i) dc ⟨g, i, none⟩ (hs.length - i) sc 1 C1 227 (hs.drop i) Tryz.underlying222 hsz2 hg2 (by rw [hBl, Nat.mul_one]; simp only [Nat.min_def]; split <;> omega) (by rw [hC1l, List.length_append, hAl, hZl, hBl]; omega)
   (fun j v hj => by
     rw [List.getElem?_drop] at hj
     rw [Addr.add_lit]
     exact (hB2.cell (p := ⟨g, i + j, none⟩) hgw).trans (hsg (i + j) v hj)) (fun v hv => ho v (List.mem_of_mem_drop hv))
 rw [<- hW2] at hcp1
 have HEND : Hid (Za2 base (W2.drew.setRow w.heap.size C2.toArray) w.heap.size G (hs.take i ++ h :: hs.drop i) /\ Below w.heap.size w (W2.drew.setRow w.heap.size C2.toArray)) := by
  refine ⟨Zg6 (S := Z.drop (1 + (hs.drop i).length)) ?_ ?_ hbw ?_ hG2, below_setRow hB2.drew (Nat.le_refl _) _⟩
  · rw [<- eC2]; exact setRow_heap W2.drew w.heap.size _ _ 227 _ hg2
  · rw [List.length_drop, hBl, hZl]; simp; omega
  · simp; omega
 have hcc : (hs.length : Int) + 1 > (c : Int) := by omega
 have hz2 : ¬ ((i : Int) = (hs.length : Int)) := by omega
 have hw1 : IntKind.i64.wrap ((i : Int) + 1) = (i : Int) + 1 := by rw [IntKind.wrap_i64]; omega
 have hw2 : IntKind.i64.wrap ((hs.length : Int) + 1) = (hs.length : Int) + 1 := by rw [IntKind.wrap_i64]; omega
 have hw3 : IntKind.i64.wrap ((hs.length : Int) + 1 - (i : Int)) = (hs.length : Int) + 1 - (i : Int) := by rw [IntKind.wrap_i64]; omega
 have hin : i <= hs.length := by omega
 have hin2 : (i : Int) <= (hs.length : Int) := by omega
 have hic : (i : Int) <= (c : Int) := by omega
 have hb1 : (0 : Int) <= (i : Int) + 1 := by omega
 have htn : ((i : Int) + 1).toNat = i + 1 := by omega
 have hb2 : ¬ (G = i + 1) := by omega
 have hb3 : (i : Int) <= (hs.length : Int) + 1 := by omega
 have hb4 : ¬ (G = i) := by omega
 have hb6 : ¬ (c = i) := by omega
 have hb5 : (i : Int) + 1 <= (hs.length : Int) + 1 := by omega
 have mixed : Tryz.prog.follows Departure.mixedOrders = true := by kernel_rfl
 clear hsg hsg1 hv1 hg1 hg2 eC2 hC1l hC1 hC2 hAl hBl hW1 hW2 hB2 hBW hold hld hG hZ hZl ecells hr hgS hSl ho hho
 go_enter Tryz.func281, Tryz.ntmps281
 go_wp2_with (at_builtin; refine Lib.wpList_append_run _ rfl _ _ _ _ rfl _ _ rfl rfl _ _ (hrz _) ?_)
 go_region_law_o (refine step_copy_runI rfl _ _ 222 222 rfl _ _ (by simp [Act.eval, Act.put]) (by simp [Act.eval, Act.put]) (hcp2 _ _ _) ?_)
 go_wp2_with fail
 go_ret
 exact ⟨G, rfl, HEND.out.1, HEND.out.2⟩
theorem Za2.of {base : Nat} {w : World} {g c n : Nat} {vs xs : List Value} (h : w.ownsRow base 227 1 (.slice (some ⟨g, 0, none⟩) n c) n xs) (hn : n = vs.length) (hx : xs = vs) : Za2 base w g c vs := by
 subst hn hx; exact h
theorem Zk8 (base c vb : Nat) (a : Option Addr) (hs : List Value) (h : Value) (w : World) (hho : h.oneCell' = true) (hr : w.ownsRow base 227 1 (.slice a hs.length c) hs.length hs) (hv : One w vb h 227) (hn : hs.length <= 1048576) (hbw : base <= w.heap.size) :
 Calls Tryz.prog 281 #[.slice a hs.length c, .int .i64 hs.length, .slice (some ⟨vb, 0, none⟩) 1 1] w fun e w' => ∃ g G, e = .returned (.slice (some ⟨g, 0, none⟩) (hs.length + 1) G) /\ Za2 base w' g G (hs ++ [h]) /\ w.grownBy w' (Value.slice a hs.length c).ownBlock /\ ((Value.slice a hs.length c).ownBlock = some g \/ g = w.heap.size) := by
 obtain ⟨j0, hj0, hy0, hy1, hy2⟩ := info_parts Zg5
 have HR := Za hr
 have HV := Za hv
 have hin : (hs.length : Int) <= (hs.length : Int) := Int.le_refl _
 obtain ⟨hx1, h2⟩ := hr
 clear hx1
 rcases h2 with ⟨e, e2⟩ | ⟨g', cp, cur, e, hb, hg, hnc, hcm, hsz, htk⟩
 · injection e with e1 e3 e4
   subst e1 e4
   have hs0 : hs = [] := List.length_eq_zero_iff.1 e3
   subst hs0
   simp only [List.length_nil] at *
   go_enter Tryz.func281, Tryz.ntmps281
   go_wp2_with (at_builtin; refine wpList_append_lies _ rfl (.tmp 23) (.tmp 24) 222 rfl base 227 j0 _ 1 16 Tryz.underlying222 hj0 hy0 hy1 hy2 rfl (by omega) (.slice none 0 0) 0 [] rfl HR.out ⟨vb, 0, none⟩ 1 1 [h] rfl rfl (World.news_of_block (cs := #[h]) (t := 227) (fr := (0, 0)) HV.out) (by intro v hv; simp at hv; rw [hv]; exact hho) (by omega) (by unfold maxLen; omega) (by omega) hbw w.heap.size rfl ?_; intro gg cc w8 hown hgrow hat8 hlt8)
   go_ret
   exact ⟨gg, cc, rfl, Za2.of hown rfl rfl, hgrow, hat8⟩
 · injection e with e1 e3 e4
   subst e1 e4
   clear htk hsz hg e3
   by_cases hcn : c = hs.length
   · rw [hcn] at HR ⊢
     go_enter Tryz.func281, Tryz.ntmps281
     go_wp2_with (at_builtin; refine wpList_append_lies _ rfl (.tmp 23) (.tmp 24) 222 rfl base 227 j0 _ 1 16 Tryz.underlying222 hj0 hy0 hy1 hy2 rfl (by omega) (.slice (some ⟨g', 0, none⟩) hs.length hs.length) hs.length hs rfl HR.out ⟨vb, 0, none⟩ 1 1 [h] rfl rfl (World.news_of_block (cs := #[h]) (t := 227) (fr := (0, 0)) HV.out) (by intro v hv; simp at hv; rw [hv]; exact hho) (by omega) (by unfold maxLen; omega) (by omega) hbw w.heap.size rfl ?_; intro gg cc w8 hown hgrow hat8 hlt8)
     go_ret
     exact ⟨gg, cc, rfl, Za2.of hown (by simp) rfl, hgrow, hat8⟩
   · have hb4 : ¬ (c = hs.length) := hcn
     go_enter Tryz.func281, Tryz.ntmps281
     go_wp2_with (at_builtin; refine wpList_append_lies _ rfl (.tmp 23) (.tmp 24) 222 rfl base 227 j0 _ 1 16 Tryz.underlying222 hj0 hy0 hy1 hy2 rfl (by omega) (.slice (some ⟨g', 0, none⟩) hs.length c) hs.length hs rfl HR.out ⟨vb, 0, none⟩ 1 1 [h] rfl rfl (World.news_of_block (cs := #[h]) (t := 227) (fr := (0, 0)) HV.out) (by intro v hv; simp at hv; rw [hv]; exact hho) (by omega) (by unfold maxLen; omega) (by omega) hbw w.heap.size rfl ?_; intro gg cc w8 hown hgrow hat8 hlt8)
     go_ret
     exact ⟨gg, cc, rfl, Za2.of hown (by simp) rfl, hgrow, hat8⟩
theorem Zg7 (base c i vb : Nat) (a : Option Addr) (hs : List Value) (h : Value) (w : World) (ho : ∀ v ∈ hs, v.oneCell' = true) (hho : h.oneCell' = true) (hr : w.ownsRow base 227 1 (.slice a hs.length c) hs.length hs) (hv : One w vb h 227) (hne : (Value.slice a hs.length c).ownBlock ≠ some vb) (hi : i <= hs.length) (hn : hs.length <= 1048576) (hbw : base <= w.heap.size) :
 Calls Tryz.prog 281 #[.slice a hs.length c, .int .i64 i, .slice (some ⟨vb, 0, none⟩) 1 1] w fun e w' => ∃ g G, e = .returned (.slice (some ⟨g, 0, none⟩) (hs.length + 1) G) /\ Za2 base w' g G (hs.take i ++ h :: hs.drop i) /\ w.grownBy w' (Value.slice a hs.length c).ownBlock /\ ((Value.slice a hs.length c).ownBlock = some g \/ g = w.heap.size) := by
 rcases Nat.lt_or_ge i hs.length with hlt | hge
 · obtain ⟨g, rfl⟩ : ∃ g, a = some ⟨g, 0, none⟩ := by
    obtain ⟨_, h2⟩ := hr
    rcases h2 with ⟨e, e2⟩ | ⟨g', cp, cur, e, _⟩
    · omega
    · injection e with e1; exact ⟨g', e1⟩
   have hrow : Za2 base w g c hs := hr
   have hvg : vb ≠ g := fun e => hne (by simp [Value.ownBlock, e])
   rcases Nat.lt_or_ge c (hs.length + 1) with hc | hc
   · refine (ZjM base g c i vb hs h w ho hho hrow hv hlt hc hn hbw).mono ?_
     rintro e w' ⟨G, rfl, h1, h2⟩
     exact ⟨w.heap.size, G, rfl, h1, ⟨h2.os, h2.tape, h2.output, h2.size, fun k hk _ => h2.block k hk⟩, Or.inr rfl⟩
   · refine (Zie base g c i vb hs h w ho hho hrow hv hvg hlt hc hn).mono ?_
     rintro e w' ⟨rfl, h1, h2⟩
     exact ⟨g, c, rfl, h1, h2, Or.inl rfl⟩
 · have hin : i = hs.length := by omega
   subst hin
   refine (Zk8 base c vb a hs h w hho hr hv hn hbw).mono ?_
   rintro e w' ⟨g, G, rfl, h1, h2, h3⟩
   refine ⟨g, G, rfl, ?_, h2, h3⟩
   rw [List.take_length, List.drop_length]
   exact h1
theorem ZmZ (x : Int) (a : Option Addr) (n c : Nat) (w : World) : Sem.run Tryz.prog (method 465 317 (.agg #[.int .i64 x, .slice a n c]) "loop.example/g00273/impl.id") w = .ok (357, .agg #[.int .i64 x, .slice a n c]) w := by kernel_rfl
theorem Zk9 (x : Int) (a : Option Addr) (n c : Nat) (w : World) : Sem.run Tryz.prog (method 465 317 (.agg #[.int .i64 x, .slice a n c]) "loop.example/g00273/impl.links") w = .ok (358, .agg #[.int .i64 x, .slice a n c]) w := by kernel_rfl
theorem Zm0 (x d : Int) (a : Option Addr) (n c : Nat) (w : World) : Sem.run Tryz.prog (method 465 319 (.agg #[.int .i64 x, .slice a n c, .int .i64 d]) "loop.example/g00273/impl.id") w = .ok (357, .agg #[.int .i64 x, .slice a n c]) w := by kernel_rfl
theorem Zla (x d : Int) (a : Option Addr) (n c : Nat) (w : World) : Sem.run Tryz.prog (method 465 319 (.agg #[.int .i64 x, .slice a n c, .int .i64 d]) "loop.example/g00273/impl.links") w = .ok (358, .agg #[.int .i64 x, .slice a n c]) w := by kernel_rfl
theorem Znr (x d : Int) (a : Option Addr) (n c : Nat) (w : World) : Sem.run Tryz.prog (method 465 319 (.agg #[.int .i64 x, .slice a n c, .int .i64 d]) "loop.example/g00273/impl.far") w = .ok (359, .agg #[.int .i64 x, .slice a n c, .int .i64 d]) w := by kernel_rfl
theorem as_T (v : Value) (w : World) : Sem.run Tryz.prog (Instr.typeAssert (.iface 319 v) 227 276 true) w = .ok (.tuple #[.iface 319 v, .bool true]) w := by kernel_rfl
theorem Ze1 {l : List String} (h : l ≠ []) : ∃ m, Instr.least l = some m := by
 cases l with
 | nil => exact absurd rfl h
 | cons a l => exact ⟨_, rfl⟩
theorem ZjN (p : String -> Bool) (f : String -> String) {L : List String} (hm : L ≠ []) : ∃ m, (Instr.least (L.filter (not ∘ p)) <|> Instr.least ((L.filter p).map f)) = some m := by
 by_cases h2 : L.filter (not ∘ p) = []
 · have h3 : L.filter p ≠ [] := by
    intro e
    apply hm
    rw [List.filter_eq_nil_iff] at e h2
    cases L with
    | nil => rfl
    | cons a L =>
      have e1 := e a (by simp)
      have e2 := h2 a (by simp)
      simp only [Function.comp_apply] at e2
      rcases hp : p a with _ | _
      · rw [hp] at e2; simp at e2
      · exact absurd hp e1
   obtain ⟨m, hmm⟩ := Ze1 (l := (L.filter p).map f) (by simpa using h3)
   exact ⟨m, by rw [h2, hmm]; rfl⟩
 · obtain ⟨m, hmm⟩ := Ze1 h2
   exact ⟨m, by rw [hmm]; rfl⟩
theorem Zgp {want : Array (String × TypeId)} {got : Array Method} (h : (want.toList.filter fun (name, sig) => !got.any fun m => m.name == name && m.sig == sig) ≠ []) : ∃ m, Instr.missingMethod want got = some m := by
 unfold Instr.missingMethod
 simp only [List.partition_eq_filter_filter]
 exact ZjN _ _ (by simpa using h)
def Ze2 (P : Program) (t : TypeId) : Option (Array (String × TypeId)) := (P.underlying t).bind fun d => match d with | .interface w => some w | _ => none
def Zja (P : Program) (t u : TypeId) : Option Bool := (P.info? t).bind fun i => (Ze2 P u).map fun want => (want.toList.filter fun (name, sig) => !i.methods.any fun m => m.name == name && m.sig == sig).isEmpty
theorem as_S (v : Value) (w : World) : Sem.run Tryz.prog (Instr.typeAssert (.iface 317 v) 227 276 true) w = .ok (.tuple #[.nilIface, .bool false]) w := by
 obtain ⟨want, hu⟩ : ∃ want, Tryz.prog.underlying 276 = some (.interface want) := by
  cases h : Ze2 Tryz.prog 276 with
  | none => exact absurd h (by have : (Ze2 Tryz.prog 276).isSome = true := by kernel_rfl
                               intro e; rw [e] at this; cases this)
  | some a =>
    unfold Ze2 at h
    cases hu : Tryz.prog.underlying 276 with
    | none => rw [hu] at h; cases h
    | some d =>
      rw [hu] at h
      cases d <;> simp at h
      exact ⟨_, by rw [h]⟩
 obtain ⟨i, hi⟩ : ∃ i, Tryz.prog.info? 317 = some i := by
  cases h : Tryz.prog.info? 317 with
  | none => exact absurd h (by have : (Tryz.prog.info? 317).isSome = true := by kernel_rfl
                               intro e; rw [e] at this; cases this)
  | some i => exact ⟨i, rfl⟩
 have hl : Zja Tryz.prog 317 276 = some false := by kernel_rfl
 have hne : (want.toList.filter fun (name, sig) => !i.methods.any fun m => m.name == name && m.sig == sig) ≠ [] := by
  intro e
  simp only [Zja, Ze2, hi, hu, Option.bind_some, Option.map_some] at hl
  rw [e] at hl
  simp at hl
 obtain ⟨m, hm⟩ := Zgp hne
 have hz : (zeroValue 276).run Tryz.prog w = .ok .nilIface w := by kernel_rfl
 have ht : (typeInfo 317).run Tryz.prog w = .ok i w := by simp [typeInfo, hi]
 unfold Instr.typeAssert
 simp [run_underlying hu, ht, hm, hz]
def IsS (sv : Value) (h : Ht) (a : Option Addr) (n c : Nat) : Prop := (sv = .iface 317 (.agg #[.int .i64 h.1, .slice a n c]) /\ h.2 = 0) \/ sv = .iface 319 (.agg #[.int .i64 h.1, .slice a n c, .int .i64 h.2])
theorem IsS.one {sv : Value} {h : Ht} {a : Option Addr} {n c : Nat} (k : IsS sv h a n c) : sv.oneCell' = true := by
 rcases k with ⟨k, -⟩ | k <;> rw [k] <;> rfl
theorem ZdS (x : Int) (a : Option Addr) (n c : Nat) (w : World) : Calls Tryz.prog 357 #[.agg #[.int .i64 x, .slice a n c]] w fun e w' => e = .returned (.int .i64 x) /\ w' = w.alloc (.cells #[.int .i64 x, .slice a n c] 317) := by
 go_enter Tryz.func357, Tryz.ntmps357
 go_wp2_with fail
 go_ret
 exact ⟨rfl, rfl⟩
theorem Zif (x : Int) (a : Option Addr) (n c : Nat) (w : World) : Calls Tryz.prog 358 #[.agg #[.int .i64 x, .slice a n c]] w fun e w' => e = .returned (.slice a n c) /\ w' = w.alloc (.cells #[.int .i64 x, .slice a n c] 317) := by
 go_enter Tryz.func358, Tryz.ntmps358
 go_wp2_with fail
 go_ret
 exact ⟨rfl, rfl⟩
theorem Zig (x d : Int) (a : Option Addr) (n c : Nat) (w : World) : Calls Tryz.prog 359 #[.agg #[.int .i64 x, .slice a n c, .int .i64 d]] w fun e w' => e = .returned (.int .i64 d) /\ w' = w.alloc (.cells #[.int .i64 x, .slice a n c, .int .i64 d] 319) := by
 go_enter Tryz.func359, Tryz.ntmps359
 go_wp2_with fail
 go_ret
 exact ⟨rfl, rfl⟩
theorem Zih (sv : Value) (h : Ht) (a : Option Addr) (n c : Nat) (w : World) (hs : IsS sv h a n c) :
 Calls Tryz.prog 193 #[sv] w fun e w' => e = .returned (.agg #[.int .i64 h.1, .int .i64 h.2]) /\ Below w.heap.size w w' := by
 rcases hs with ⟨rfl, h0⟩ | rfl
 · have M1 := ZmZ h.1 a n c
   have HI := Za (fun w => ZdS h.1 a n c w)
   have A1 := as_S (.agg #[.int .i64 h.1, .slice a n c])
   rw [h0]
   clear h0
   go_enter Tryz.func193, Tryz.ntmps193
   go_wp2_with fail
   refine (HI.out _).mono ?_
   rintro e w1 ⟨rfl, rfl⟩
   go_wp2_with fail
   refine bodyPost_ret (v := .agg #[.int .i64 h.1, .int .i64 0]) (by simp [results, Tryz.results193, go_sem]) rfl ?_
   exact ⟨rfl, ((((Below.refl _ _).alloc (Nat.le_refl _) _).alloc (by simp) _).alloc (by simp; omega) _)⟩
 · have M1 := Zm0 h.1 h.2 a n c
   have M2 := Znr h.1 h.2 a n c
   have HI := Za (fun w => ZdS h.1 a n c w)
   have HF := Za (fun w => Zig h.1 h.2 a n c w)
   have A1 := as_T (.agg #[.int .i64 h.1, .slice a n c, .int .i64 h.2])
   go_enter Tryz.func193, Tryz.ntmps193
   go_wp2_with fail
   refine (HI.out _).mono ?_
   rintro e w1 ⟨rfl, rfl⟩
   go_wp2_with fail
   refine (HF.out _).mono ?_
   rintro e w1 ⟨rfl, rfl⟩
   go_wp2_with fail
   refine bodyPost_ret (v := .agg #[.int .i64 h.1, .int .i64 h.2]) (by simp [results, Tryz.results193, go_sem]) rfl ?_
   exact ⟨rfl, (((((Below.refl _ _).alloc (Nat.le_refl _) _).alloc (by simp) _).alloc (by simp; omega) _).alloc (by simp; omega) _)⟩
def Fiv (w : World) (p : Nat) (a b c d e : Value) (t : TypeId) : Prop := w.heap[p]? = some (.cells #[a, b, c, d, e] t (0, 0))
theorem Fiv.lt {w : World} {p : Nat} {a b c d e : Value} {t : TypeId} (h : Fiv w p a b c d e t) : p < w.heap.size := by
 rcases Nat.lt_or_ge p w.heap.size with h1 | h1
 · exact h1
 · unfold Fiv at h; rw [Array.getElem?_eq_none h1] at h; cases h
theorem Fiv.cells {w : World} {p : Nat} {a b c d e : Value} {t : TypeId} (h : Fiv w p a b c d e t) : w.cell? ⟨p, 0, none⟩ = some a /\ w.cell? ⟨p, 1, none⟩ = some b /\ w.cell? ⟨p, 2, none⟩ = some c /\ w.cell? ⟨p, 3, none⟩ = some d /\ w.cell? ⟨p, 4, none⟩ = some e := by unfold Fiv at h; simp [World.cell?, h]
theorem Fiv.frozen {w : World} {p : Nat} {a b c d e : Value} {t : TypeId} (h : Fiv w p a b c d e t) (j : Nat) : w.frozen? ⟨p, j, none⟩ = false := by unfold Fiv at h; simp [World.frozen?, h]
theorem Fiv.below {w w' : World} {p : Nat} {a b c d e : Value} {t : TypeId} (h : Fiv w p a b c d e t) (hb : Below w.heap.size w w') : Fiv w' p a b c d e t := (hb.block p h.lt).trans h
theorem Fiv.new (w : World) (a b c d e : Value) (t : TypeId) : Fiv (w.alloc (.cells #[a, b, c, d, e] t)) w.heap.size a b c d e t := heap_alloc_new w _
theorem Fiv.kept {w w' : World} {p : Nat} {a b c d e : Value} {t : TypeId} {r : Option Nat} (h : Fiv w p a b c d e t) (hg : w.grownBy w' r) (hr : some p ≠ r) : Fiv w' p a b c d e t := (hg.block p h.lt hr).trans h
theorem Fiv.set3 {w : World} {p : Nat} {a b c d e : Value} {t : TypeId} (h : Fiv w p a b c d e t) (x : Value) : Fiv (w.setCell ⟨p, 3, none⟩ x) p a b c x e t := by
 unfold Fiv World.setCell at *
 simp only [Array.getElem?_modify, if_true, h]
 rfl
theorem Fiv.set4 {w : World} {p : Nat} {a b c d e : Value} {t : TypeId} (h : Fiv w p a b c d e t) (x : Value) : Fiv (w.setCell ⟨p, 4, none⟩ x) p a b c d x t := by
 unfold Fiv World.setCell at *
 simp only [Array.getElem?_modify, if_true, h]
 rfl
def ddQ (ms : List Mk) (q : List Int) (x : Int) : Int := if q.length = 0 then 0 else ZN q (mat ms (Zn ms x))
structure Ze3 (w : World) (am : Option Addr) (ms : List Mk) (al : Option Addr) (ls : List (List Int)) (aq : Option Addr) (q : List Int) : Prop where
 mv : Zw w am ms
 cv : Zaj w al ls
 qv : Zp w aq q
theorem Ze3.below {w w' : World} {B : Nat} {am al aq : Option Addr} {ms : List Mk} {ls : List (List Int)} {q : List Int} (h : Ze3 w am ms al ls aq q) (hB : w.heap.size <= B) (L : Below B w w') : Ze3 w' am ms al ls aq q := ⟨h.mv.below hB L, h.cv.below hB L, h.qv.below hB L⟩
theorem Ze3.next {w w' : World} {am al aq : Option Addr} {ms : List Mk} {ls : List (List Int)} {q : List Int} (h : Ze3 w am ms al ls aq q) (L : Below w.heap.size w w') : Ze3 w' am ms al ls aq q := h.below (Nat.le_refl _) L
structure ZfP (ms : List Mk) (ls : List (List Int)) (q : List Int) : Prop where
 web : ZR ms ls = true
 two : q.length ≠ 0 -> ∀ i, i < ms.length -> Zbf q (mat ms i) = true
def Sees (w : World) (ms : List Mk) (ls : List (List Int)) (q : List Int) (x : Int) (sv : Value) : Prop := ∃ a c, IsS sv (x, ddQ ms q x) a (cn ls (Zn ms x)).length c /\ Zp w a (cn ls (Zn ms x))
theorem Zlb (G : Nat) (am al aq : Option Addr) (cm cl cq : Nat) (ms : List Mk) (ls : List (List Int)) (q : List Int) (sv ov : Value) (x : Int) (W0 w : World) (hL0 : Below W0.heap.size W0 w) (hG : Fiv w G (.slice am ms.length cm) (.slice al ls.length cl) (.slice aq q.length cq) sv ov 273) (hI : Ze3 W0 am ms al ls aq q) (hW : ZfP ms ls q) (hx : 0 <= Zk ms x) :
 Calls Tryz.prog 278 #[.pointer (some ⟨G, 0, none⟩), .int .i64 x] w fun e w' => (∃ r, e = .returned r /\ Sees W0 ms ls q x r) /\ Below w.heap.size w w' := by
 have hmb := Zz hW.web
 have hll := Zaq hW.web
 have HP := Za (Zgm am al cm ls.length cl ms x w (hI.mv.next hL0) hmb)
 rw [Zgl hmb hx, decide_eq_true hx] at HP
 obtain ⟨za, -, -⟩ := Zx hx
 have hjl : Zn ms x < ls.length := by omega
 have hm60 := ZT hmb
 obtain ⟨g0, g1, g2, -, -⟩ := hG.cells
 have HG := Za hG
 have HI := Za hI
 have HW := Za hW
 have HX : Hid (∀ sv' a c, IsS sv' (x, ddQ ms q x) a (cn ls (Zn ms x)).length c -> Zp W0 a (cn ls (Zn ms x)) -> Sees W0 ms ls q x sv') := fun sv' a c h1 h2 => ⟨a, c, h1, h2⟩
 have HL0 := Za hL0
 have HD : Hid (ddQ ms q x = if q.length = 0 then 0 else ZN q (mat ms (Zn ms x))) := rfl
 generalize ddQ ms q x = d at *
 clear hG hI hW hmb hll hx hL0
 generalize hj : Zn ms x = j at *
 clear hj
 go_enter Tryz.func278, Tryz.ntmps278
 go_wp2_with fail
 refine HP.out.mono ?_
 rintro e w1 ⟨rfl, L1⟩
 have hG1 := HG.out.below L1
 have hI1 := HI.out.next (Zd HL0.out L1)
 have HL1 := Za L1
 have hL01 := Zd HL0.out L1
 clear L1 g0 g1 g2
 obtain ⟨g0, g1, g2, -, -⟩ := hG1.cells
 obtain ⟨b, off, rfl, hbr0, hs⟩ := HI.out.cv.seg (by omega)
 obtain ⟨a, c, c10, hvw⟩ := hs j hjl
 have c1 := (hL01.cell (p := ⟨b, off + j, none⟩) hbr0).trans c10
 clear c10 hbr0 hL01
 have hj0 : (0 : Int) <= (j : Int) := Int.natCast_nonneg _
 have hj1 : (j : Int) < (ls.length : Int) := by omega
 have HVW := Za hvw
 have HI1 := Za hI1
 have HG1 := Za hG1
 have hGl := hG1.lt
 clear hs hvw hI1 hG1
 by_cases hq : q.length = 0
 · have hqb : ((q.length : Int) == 0) = true := by simp [hq]
   have hd : d = 0 := by rw [HD.out, if_pos hq]
   have HB : Hid (Below w1.heap.size w1 (w1.alloc (.cells #[.int .i64 x, .slice a (cn ls j).length c] 317))) := (Below.refl _ _).alloc (Nat.le_refl _) _
   clear HD hq
   subst hd
   go_wp2_with fail
   go_ret
   exact ⟨⟨_, rfl, HX.out _ a c (Or.inl ⟨rfl, rfl⟩) HVW.out⟩, Zd HL1.out HB.out⟩
 · have hqb : ((q.length : Int) == 0) = false := by rw [beq_eq_false_iff_ne]; omega
   have htw := HW.out.two hq j za
   have hd : d = ZN q (mat ms j) := by rw [HD.out, if_neg hq]
   obtain ⟨bm, om, rfl, hbm, hms⟩ := ZaW.seg HI1.out.mv (by omega)
   obtain ⟨-, am2, cm2, d1, hvm⟩ := hms.at (i := j) za
   have hj2 : (j : Int) < (ms.length : Int) := by omega
   obtain ⟨V, hV⟩ : ∃ V, w1.alloc (.cells #[.int .i64 x, .slice a (cn ls j).length c] 317) = V := ⟨_, rfl⟩
   have HB : Hid (Below w1.heap.size w1 V) := by show Below _ _ _; rw [<- hV]; exact (Below.refl _ _).alloc (Nat.le_refl _) _
   have hv0 : V.cell? ⟨w1.heap.size, 0, none⟩ = some (.int .i64 x) := by rw [<- hV]; simp
   have hv1 : V.cell? ⟨w1.heap.size, 1, none⟩ = some (.slice a (cn ls j).length c) := by rw [<- hV]; simp
   have hVl : w1.heap.size < V.heap.size := by rw [<- hV]; simp
   have hqv := HI1.out.qv
   have HC : Hid (∀ W', Below w1.heap.size w1 W' -> Calls Tryz.prog 287 #[.slice aq q.length cq, .slice am2 (mat ms j).length cm2] W' fun e w' => e = .returned (.int .i64 d) /\ Below W'.heap.size W' w') := fun W' L' => by
    rw [hd]
    obtain ⟨ta, tb, tl⟩ := ZbR htw
    have h4 := Zbz ta
    obtain ⟨b1, o1, rfl, hb1, hs1⟩ : ∃ b off, aq = some ⟨b, off, none⟩ /\ b < W'.heap.size /\ Seg W' b off q := by
     rcases hqv.next L' with h | h
     · rw [h] at h4; simp at h4
     · exact h
    obtain ⟨b2, o2, rfl, hb2, hs2⟩ : ∃ b off, am2 = some ⟨b, off, none⟩ /\ b < W'.heap.size /\ Seg W' b off (mat ms j) := by
     rcases hvm.next L' with h | h
     · rw [h] at tl; simp at tl; rw [tl] at h4; simp at h4
     · exact h
    have h := pFar b1 o1 cq b2 o2 cm2 q (mat ms j) W' hs1 hs2 hb1 hb2 htw
    rw [show ZN q (mat ms j) = ZB (sqF q (mat ms j)) q.length by rw [ZN, if_pos htw]]
    exact h
   obtain ⟨Y, hY⟩ : ∃ Y, Y = w1.heap.size := ⟨_, rfl⟩
   have HK : Hid (∀ w', Below V.heap.size V w' -> w'.cell? ⟨Y, 0, none⟩ = some (.int .i64 x) /\ w'.cell? ⟨Y, 1, none⟩ = some (.slice a (cn ls j).length c) /\ w'.cell? ⟨G, 2, none⟩ = some (.slice aq q.length cq) /\ w'.cell? ⟨G, 0, none⟩ = some (.slice (some ⟨bm, om, none⟩) ms.length cm) /\ w'.cell? ⟨bm, om + j * 2 + 1, none⟩ = some (.slice am2 (mat ms j).length cm2)) := fun w' L => by
    have L' := Zd HB.out L
    rw [hY]
    exact ⟨(L.cell (p := ⟨w1.heap.size, 0, none⟩) hVl).trans hv0, (L.cell (p := ⟨w1.heap.size, 1, none⟩) hVl).trans hv1, (L'.cell (p := ⟨G, 2, none⟩) hGl).trans g2, (L'.cell (p := ⟨G, 0, none⟩) hGl).trans g0, (L'.cell (p := ⟨bm, om + j * 2 + 1, none⟩) hbm).trans d1⟩
   clear hms hvm hqv htw hd HD HW hv0 hv1 hVl hq
   generalize (mat ms j).length = yl at *
   generalize (cn ls j).length = nl at *
   have v2 := (HK.out V (Below.refl _ _)).2.2.1
   go_wp2_with fail
   rw [<- hY]
   clear v2
   obtain ⟨z0, z1, z2, z3, z4⟩ := HK.out V (Below.refl _ _)
   clear hV g0 g1 g2 c1 d1 hY
   go_region_held3 (fun w' => w'.cell? ⟨Y, 0, none⟩ = some (.int .i64 x) /\ w'.cell? ⟨Y, 1, none⟩ = some (.slice a nl c) /\ w'.cell? ⟨G, 2, none⟩ = some (.slice aq q.length cq) /\ w'.cell? ⟨G, 0, none⟩ = some (.slice (some ⟨bm, om, none⟩) ms.length cm) /\ w'.cell? ⟨bm, om + j * 2 + 1, none⟩ = some (.slice am2 yl cm2))
    (first
      | go_keep
      | exact HK.out _ (Below.trans ((Below.refl V.heap.size V).drew) L2))
    (first | (go_at_call 287; refine (HC.out _ (Below.drew HB.out)).mono ?_; rintro e w2 ⟨rfl, L2⟩))
   have HL3 : Hid (Below w1.heap.size w1 w2) := Zd HB.out (Below.trans ((Below.refl V.heap.size V).drew) L2)
   clear L2 HC HK z0 z1 z2 z3 z4
   simp only [Exit.then]
   go_wp2_with fail
   go_ret
   exact ⟨⟨_, rfl, HX.out _ a c (Or.inr rfl) HVW.out⟩, Zd HL1.out HL3.out⟩
theorem Zg8 {base e size n : Nat} {w w' : World} {v : Value} {xs : List Value} (h : w.ownsRow base e size v n xs) (hb : Below w.heap.size w w') : w'.ownsRow base e size v n xs := by
 obtain ⟨h1, h2⟩ := h
 refine ⟨h1, ?_⟩
 rcases h2 with h2 | ⟨g, cp, cur, e1, hb1, hg, h5⟩
 · exact Or.inl h2
 · exact Or.inr ⟨g, cp, cur, e1, hb1, (hb.block g (Array.getElem?_eq_some_iff.1 hg).1).trans hg, h5⟩
def Ze4 (l : List Int) : List Value := l.map (fun x => Value.int .i64 x)
theorem Ze5 (l : List Int) : (Ze4 l).length = l.length := by simp [Ze4]
structure Gz (W0 w : World) (G : Nat) (am : Option Addr) (cm : Nat) (ms : List Mk) (al : Option Addr) (cl : Nat) (ls : List (List Int)) (aq : Option Addr) (cq : Nat) (q : List Int) (s : List Ht) (op : List Int) (as1 : Option Addr) (cs : Nat) (vs : List Value) (ao : Option Addr) (co : Nat) : Prop where
 five : Fiv w G (.slice am ms.length cm) (.slice al ls.length cl) (.slice aq q.length cq) (.slice as1 s.length cs) (.slice ao op.length co) 273
 low : W0.heap.size <= G
 sr : w.ownsRow W0.heap.size 227 1 (.slice as1 s.length cs) s.length vs
 vl : vs.length = s.length
 sees : ∀ k, k < s.length -> Sees W0 ms ls q (Zf s k).1 (vs.getD k .nilIface)
 opr : w.ownsRow W0.heap.size 2 1 (.slice ao op.length co) op.length (Ze4 op)
 a1 : (Value.slice as1 s.length cs).ownBlock ≠ some G
 a2 : (Value.slice ao op.length co).ownBlock ≠ some G
 a3 : ∀ g, (Value.slice as1 s.length cs).ownBlock = some g -> (Value.slice ao op.length co).ownBlock ≠ some g
 bel : Below W0.heap.size W0 w
theorem Gz.next {W0 w w' : World} {G cm cl cq cs co : Nat} {am al aq as1 ao : Option Addr} {ms : List Mk} {ls : List (List Int)} {q op : List Int} {s : List Ht} {vs : List Value} (h : Gz W0 w G am cm ms al cl ls aq cq q s op as1 cs vs ao co) (L : Below w.heap.size w w') : Gz W0 w' G am cm ms al cl ls aq cq q s op as1 cs vs ao co :=
 ⟨h.five.below L, h.low, Zg8 h.sr L, h.vl, h.sees, Zg8 h.opr L, h.a1, h.a2, h.a3, Zd h.bel L⟩
theorem ZbH {base e n : Nat} {w : World} {a : Option Addr} {m c : Nat} {xs : List Value} (h : w.ownsRow base e 1 (.slice a m c) n xs) (hx : 0 < xs.length) : ∃ g, a = some ⟨g, 0, none⟩ /\ base <= g /\ g < w.heap.size /\ ∀ k, k < xs.length -> w.cell? ⟨g, k, none⟩ = some (xs.getD k .nilIface) := by
 obtain ⟨h1, h2⟩ := h
 rcases h2 with ⟨e1, e2⟩ | ⟨g, cp, cur, e1, hb, hg, hnc, hcm, hsz, htk⟩
 · rw [e2] at h1; simp at h1; rw [h1] at hx; simp at hx
 · injection e1 with e1
   refine ⟨g, e1, hb, (Array.getElem?_eq_some_iff.1 hg).1, fun k hk => ?_⟩
   rw [Nat.mul_one] at htk h1
   have hk2 : k < cur.size := by
    have : (cur.toList.take n).length = xs.length := by rw [htk]
    rw [List.length_take, Array.length_toList] at this
    omega
   have e : xs[k]? = cur[k]? := by
    rw [<- htk, List.getElem?_take, if_pos (by omega)]
    simp
   simp only [World.cell?, hg]
   rw [List.getD_eq_getElem?_getD, e]
   simp [hk2]
theorem Zns (B H : Nat) (W0 w : World) (G cm cl cq cs co : Nat) (am al aq as1 ao : Option Addr) (ms : List Mk) (ls : List (List Int)) (q op : List Int) (s : List Ht) (vs : List Value) (h : Ht) (i : Nat) (hg : Gz W0 w G am cm ms al cl ls aq cq q s op as1 cs vs ao co) (hd : Zbp (ddQ ms q) s) (hB : w.cell? ⟨B, 0, none⟩ = some (.pointer (some ⟨G, 0, none⟩))) (hH : Two w H (.int .i64 h.1) (.int .i64 h.2) 66) (hi : i < s.length) :
 Calls Tryz.prog 280 #[.int .i64 i, .pointer (some ⟨B, 0, none⟩), .pointer (some ⟨H, 0, none⟩)] w fun e w' => e = .returned (.bool (!Zu (Zf s i) h)) /\ Below w.heap.size w w' := by
 obtain ⟨sb, rfl, hsb, hsl, hsc⟩ := ZbH hg.sr (by rw [hg.vl]; omega)
 have c0 := hsc i (by rw [hg.vl]; exact hi)
 obtain ⟨la, lc, hIs, -⟩ := hg.sees i hi
 have hfar := hd.far _ (ZbY hi)
 have hpair : ((Zf s i).1, ddQ ms q (Zf s i).1) = Zf s i := by rw [<- hfar]
 rw [hpair] at hIs
 obtain ⟨_, _, _, g3, _⟩ := hg.five.cells
 have hGl := hg.five.lt
 have hBl : B < w.heap.size := Zc5 hB
 have hHl := hH.lt
 have e0 := hH.c0
 have e1 := hH.c1
 have HHO := Za (fun w' => Zih _ _ la _ lc w' hIs)
 have HAH := Za (fun w' => Zii (Zf s i) h w')
 have hi0 : (0 : Int) <= (i : Int) := Int.natCast_nonneg _
 have hi1 : (i : Int) < (s.length : Int) := by omega
 clear hsc hfar hpair hIs hH hd hg
 generalize Zf s i = t at *
 generalize vs.getD i .nilIface = sv at *
 have HK : Hid (∀ w', Below w.heap.size w w' -> w'.cell? ⟨B, 0, none⟩ = some (.pointer (some ⟨G, 0, none⟩)) /\ w'.cell? ⟨G, 3, none⟩ = some (.slice (some ⟨sb, 0, none⟩) s.length cs) /\ w'.cell? ⟨sb, i, none⟩ = some sv /\ w'.cell? ⟨H, 0, none⟩ = some (.int .i64 h.1) /\ w'.cell? ⟨H, 1, none⟩ = some (.int .i64 h.2)) := fun w' L => ⟨(L.cell (p := ⟨B, 0, none⟩) hBl).trans hB, (L.cell (p := ⟨G, 3, none⟩) hGl).trans g3, (L.cell (p := ⟨sb, i, none⟩) hsl).trans c0, (L.cell (p := ⟨H, 0, none⟩) hHl).trans e0, (L.cell (p := ⟨H, 1, none⟩) hHl).trans e1⟩
 go_enter Tryz.func280, Tryz.ntmps280
 go_wp2_with fail
 go_region_held3 (fun w' => w'.cell? ⟨B, 0, none⟩ = some (.pointer (some ⟨G, 0, none⟩)) /\ w'.cell? ⟨G, 3, none⟩ = some (.slice (some ⟨sb, 0, none⟩) s.length cs) /\ w'.cell? ⟨sb, i, none⟩ = some sv /\ w'.cell? ⟨H, 0, none⟩ = some (.int .i64 h.1) /\ w'.cell? ⟨H, 1, none⟩ = some (.int .i64 h.2))
  (first
    | go_keep
    | exact HK.out _ (Zd (Below.trans ((Below.refl w.heap.size w).drew) L2) L3)
    | exact HK.out _ (Below.trans ((Below.refl w.heap.size w).drew) L2))
  (first
    | (go_at_call 193; refine (HHO.out _).mono ?_; rintro e w2 ⟨rfl, L2⟩)
    | (go_at_call 121; refine (HAH.out _).mono ?_; rintro e w3 ⟨rfl, L3⟩))
 have HL4 : Hid (Below w.heap.size w w3) := Zd (Below.trans ((Below.refl w.heap.size w).drew) L2) L3
 clear L2 L3 HHO HAH HK e0 e1 c0 g3 hB
 simp only [Exit.then]
 go_wp2_with fail
 go_ret
 exact ⟨rfl, HL4.out⟩
theorem Zlc (B H : Nat) (W0 w : World) (G cm cl cq cs co : Nat) (am al aq as1 ao : Option Addr) (ms : List Mk) (ls : List (List Int)) (q op : List Int) (s : List Ht) (vs : List Value) (h : Ht) (hg : Gz W0 w G am cm ms al cl ls aq cq q s op as1 cs vs ao co) (hd : Zbp (ddQ ms q) s) (hB : w.cell? ⟨B, 0, none⟩ = some (.pointer (some ⟨G, 0, none⟩))) (hH : Two w H (.int .i64 h.1) (.int .i64 h.2) 66) (hn : s.length <= 60) :
 Calls Tryz.prog 279 #[.int .i64 s.length, .func (Fn.func 280) #[] #[.pointer (some ⟨B, 0, none⟩), .pointer (some ⟨H, 0, none⟩)]] w fun e w' => e = .returned (.int .i64 (Zbv h s : Nat)) /\ Below w.heap.size w w' := by
 have hBl : B < w.heap.size := Zc5 hB
 have HF : Hid (∀ W i, Below w.heap.size w W -> i < s.length -> Calls Tryz.prog 280 #[.int .i64 (i : Nat), .pointer (some ⟨B, 0, none⟩), .pointer (some ⟨H, 0, none⟩)] W fun e w' => e = .returned (.bool (!Zu (Zf s i) h)) /\ Below W.heap.size W w') := fun W i L hi =>
  Zns B H W0 W G cm cl cq cs co am al aq as1 ao ms ls q op s vs h i (hg.next L) hd ((L.cell (p := ⟨B, 0, none⟩) hBl).trans hB) (hH.below L) hi
 have HLO := Za (Zg9 h s)
 have HHI := Za (ZfQ hd.so h)
 have hpl := Zgq h s
 clear hB hH hg hd
 generalize Zbv h s = p at *
 go_enter Tryz.func279, Tryz.ntmps279
 go_wp2_with fail
 go_loopw [5, 6] (fun i j wr => ∃ x y : Nat, x <= p /\ p <= y /\ y <= s.length /\ i = .int .i64 x /\ j = .int .i64 y /\ Below w.heap.size w wr) (fun i j _ => (intOf j).toNat - (intOf i).toNat)
 case atStart => exact ⟨0, s.length, Nat.zero_le _, hpl, Nat.le_refl _, rfl, rfl, Below.refl _ _⟩
 case round =>
  obtain ⟨x, y, hxp, hpy, hy, rfl, rfl, L⟩ := hrel
  by_cases hlt : x < y
  · have hu1 : IntKind.u64.wrap ((x : Int) + (y : Int)) = (x : Int) + (y : Int) := by rw [IntKind.wrap_u64]; omega
    obtain ⟨m, hm⟩ : ∃ m : Nat, m = (x + y) / 2 := ⟨_, rfl⟩
    have hmi : ((x : Int) + (y : Int)) / 2 = (m : Int) := by omega
    have HC := Za (HF.out wr m L (by omega))
    have HL := Za L
    have HMI := Za hmi
    have hm1 : x <= m /\ m < y := by omega
    have HM1 := Za hm1
    clear L hmi hm hm1
    rcases hv : Zu (Zf s m) h with _ | _
    · have hpm : p <= m := by
       rcases Nat.lt_or_ge m p with h1 | h1
       · have := HLO.out m h1; rw [hv] at this; cases this
       · exact h1
      rw [hv] at HC
      clear hv
      go_wp2_with fail
      rw [HMI.out]
      refine HC.out.mono ?_
      rintro e w2 ⟨rfl, L2⟩
      have HL2 := Za (Zd HL.out L2)
      clear L2
      go_wp2_with fail
      go_roundw
      case rel => exact ⟨x, m, hxp, hpm, by have := HM1.out; omega, rfl, rfl, HL2.out⟩
      case measure => have := HM1.out; simp [intOf]; omega
    · have hpm : m < p := by
       rcases Nat.lt_or_ge m p with h1 | h1
       · exact h1
       · have := HHI.out m h1 (by have := HM1.out; omega); rw [hv] at this; cases this
      rw [hv] at HC
      clear hv
      go_wp2_with fail
      rw [HMI.out]
      refine HC.out.mono ?_
      rintro e w2 ⟨rfl, L2⟩
      have HL2 := Za (Zd HL.out L2)
      clear L2
      go_wp2_with fail
      go_roundw
      case rel => exact ⟨m + 1, y, by omega, hpy, hy, by go_num, rfl, HL2.out⟩
      case measure => have := HM1.out; simp [intOf]; omega
  · obtain rfl : x = p := by omega
    go_wp2_with fail
    go_ret
    exact ⟨rfl, L⟩
theorem Zjb {α : Type} (l : List α) (x d : α) (p k : Nat) (hp : p <= l.length) : (l.take p ++ x :: l.drop p).getD k d = if k < p then l.getD k d else if k = p then x else l.getD (k - 1) d := by
 have hl : (l.take p).length = p := by simp; omega
 rw [List.getD_eq_getElem?_getD, List.getElem?_append, hl]
 by_cases h1 : k < p
 · rw [if_pos h1, if_pos h1, List.getElem?_take, if_pos h1, List.getD_eq_getElem?_getD]
 · rw [if_neg h1, if_neg h1]
   by_cases h2 : k = p
   · rw [if_pos h2, h2]; simp
   · rw [if_neg h2]
     obtain ⟨j, hj⟩ : ∃ j, k - p = j + 1 := ⟨k - p - 1, by omega⟩
     rw [hj, List.getElem?_cons_succ, List.getElem?_drop, List.getD_eq_getElem?_getD]
     congr 2
     omega
theorem IsS.meth {sv : Value} {h : Ht} {a : Option Addr} {n c : Nat} (k : IsS sv h a n c) : ∃ t v, sv = .iface t v /\ (∀ w, Sem.run Tryz.prog (method 465 t v "loop.example/g00273/impl.id") w = .ok (357, .agg #[.int .i64 h.1, .slice a n c]) w) /\ ∀ w, Sem.run Tryz.prog (method 465 t v "loop.example/g00273/impl.links") w = .ok (358, .agg #[.int .i64 h.1, .slice a n c]) w := by
 rcases k with ⟨k, -⟩ | k
 · exact ⟨_, _, k, fun w => ZmZ _ _ _ _ w, fun w => Zk9 _ _ _ _ w⟩
 · exact ⟨_, _, k, fun w => Zm0 _ _ _ _ _ w, fun w => Zla _ _ _ _ _ w⟩
theorem Gz.one {W0 w : World} {G cm cl cq cs co : Nat} {am al aq as1 ao : Option Addr} {ms : List Mk} {ls : List (List Int)} {q op : List Int} {s : List Ht} {vs : List Value} (h : Gz W0 w G am cm ms al cl ls aq cq q s op as1 cs vs ao co) : ∀ v ∈ vs, v.oneCell' = true := by
 intro v hv
 obtain ⟨k, hk, e⟩ := List.mem_iff_getElem.1 hv
 obtain ⟨a, c, hIs, -⟩ := h.sees k (by rw [<- h.vl]; exact hk)
 have e2 : vs.getD k .nilIface = v := by simp [List.getD, hk, e]
 rw [e2] at hIs
 exact hIs.one
theorem Gz.put {W0 w w5 w6 : World} {G cm cl cq cs co : Nat} {am al aq as1 ao : Option Addr} {ms : List Mk} {ls : List (List Int)} {q op : List Int} {s : List Ht} {vs : List Value} {x : Int} {r : Value} {g c5 p : Nat} (h : Gz W0 w G am cm ms al cl ls aq cq q s op as1 cs vs ao co) (hx : x ∉ Zav s) (hp : p = Zbv (x, ddQ ms q x) s) (hr : Sees W0 ms ls q x r) (hrow : Za2 W0.heap.size w5 g c5 (vs.take p ++ r :: vs.drop p)) (hgr : w.grownBy w5 (Value.slice as1 s.length cs).ownBlock) (hat : (Value.slice as1 s.length cs).ownBlock = some g \/ g = w.heap.size) (h6 : w6 = w5.setCell ⟨G, 3, none⟩ (.slice (some ⟨g, 0, none⟩) (s.length + 1) c5)) :
 ∃ vs', Gz W0 w6 G am cm ms al cl ls aq cq q (Zb9 (ddQ ms q) s x) op (some ⟨g, 0, none⟩) c5 vs' ao co := by
 have hb : ZY (Zav s) x = false := (Zbj _ _).2 hx
 have es : Zb9 (ddQ ms q) s x = s.take p ++ (x, ddQ ms q x) :: s.drop p := by
  unfold Zb9
  rw [hb, if_neg (by simp), Zld (ddQ ms q) hx, hp]
 have hpl : p <= s.length := by rw [hp]; exact Zgq _ _
 have hlen : (Zb9 (ddQ ms q) s x).length = s.length + 1 := by rw [es]; simp; omega
 have hvl : (vs.take p ++ r :: vs.drop p).length = s.length + 1 := by have := h.vl; simp; omega
 have hGl := h.five.lt
 have hob := World.ownsRow.lt h.opr
 have hgG : g ≠ G := by
  rcases hat with e | e
  · intro e2; rw [e2] at e; exact h.a1 e
  · omega
 have F5 : Fiv w5 G (.slice am ms.length cm) (.slice al ls.length cl) (.slice aq q.length cq) (.slice as1 s.length cs) (.slice ao op.length co) 273 := h.five.kept hgr (fun e => h.a1 e.symm)
 have hg6 : w5.grownBy w6 (some G) := by rw [h6]; exact Za6 w5 G 3 _
 have O5 : w5.ownsRow W0.heap.size 2 1 (.slice ao op.length co) op.length (Ze4 op) := World.ownsRow.kept h.opr hgr (by
  cases he : (Value.slice ao op.length co).ownBlock with
  | none => exact Or.inl rfl
  | some b => exact Or.inr fun e => h.a3 b e.symm he)
 refine ⟨vs.take p ++ r :: vs.drop p, ?_, h.low, ?_, by rw [hvl, hlen], fun k hk => ?_, ?_, ?_, h.a2, fun g' e => ?_, ?_⟩
 · rw [hlen, h6]; exact F5.set3 _
 · have e1 : Za2 W0.heap.size w6 g c5 (vs.take p ++ r :: vs.drop p) := World.ownsRow.kept hrow hg6 (Or.inr fun e => by
    have e' : some g = some G := e
    injection e' with e'
    exact hgG e')
   have e2 : w6.ownsRow W0.heap.size 227 1 (.slice (some ⟨g, 0, none⟩) (vs.take p ++ r :: vs.drop p).length c5) (vs.take p ++ r :: vs.drop p).length (vs.take p ++ r :: vs.drop p) := e1
   rw [hvl] at e2
   rw [hlen]
   exact e2
 · rw [hlen] at hk
   rw [Zjb vs r .nilIface p k (by rw [h.vl]; exact hpl)]
   have e : Zf (Zb9 (ddQ ms q) s x) k = if k < p then Zf s k else if k = p then (x, ddQ ms q x) else Zf s (k - 1) := by
    rw [es]
    exact Zjb s (x, ddQ ms q x) (0, 0) p k hpl
   rw [e]
   by_cases h1 : k < p
   · rw [if_pos h1, if_pos h1]; exact h.sees k (by omega)
   · rw [if_neg h1, if_neg h1]
     by_cases h2 : k = p
     · rw [if_pos h2, if_pos h2]; exact hr
     · rw [if_neg h2, if_neg h2]; exact h.sees (k - 1) (by omega)
 · exact World.ownsRow.kept O5 hg6 (Or.inr h.a2)
 · intro e
   have e' : some g = some G := e
   injection e' with e'
   exact hgG e'
 · have e' : some g = some g' := e
   injection e' with e'
   subst e'
   rcases hat with e2 | e2
   · exact h.a3 g e2
   · intro e3
     have := (hob g e3).2
     omega
 · have hsb := World.ownsRow.lt h.sr
   exact (h.bel.grown hgr (by have := h.bel.size; omega) (fun k hk => (hsb k hk).1)).grown hg6 (by have := h.bel.size; have := hgr.size; omega) (fun k hk => by cases hk; exact h.low)
theorem iSee (W0 w : World) (G cm cl cq cs co : Nat) (am al aq as1 ao : Option Addr) (ms : List Mk) (ls : List (List Int)) (q op : List Int) (s : List Ht) (vs : List Value) (x : Int) (hg : Gz W0 w G am cm ms al cl ls aq cq q s op as1 cs vs ao co) (hI : Ze3 W0 am ms al ls aq q) (hW : ZfP ms ls q) (hd : Zbp (ddQ ms q) s) (hx : 0 <= Zk ms x) (hn : s.length <= 60) :
 Calls Tryz.prog 243 #[.pointer (some ⟨G, 0, none⟩), .int .i64 x] w fun e w' => e = .returned (.bool (!ZY (Zav s) x)) /\ ∃ as2 cs2 vs2, Gz W0 w' G am cm ms al cl ls aq cq q (Zb9 (ddQ ms q) s x) op as2 cs2 vs2 ao co := by
 obtain ⟨W1, hW1⟩ : ∃ W, w.alloc (.cells #[.pointer (some ⟨G, 0, none⟩)] 223) = W := ⟨_, rfl⟩
 obtain ⟨B, hBe⟩ : ∃ B, B = w.heap.size := ⟨_, rfl⟩
 have L1 : Below w.heap.size w W1 := by rw [<- hW1]; exact (Below.refl _ _).alloc (Nat.le_refl _) _
 have hB1 : W1.cell? ⟨B, 0, none⟩ = some (.pointer (some ⟨G, 0, none⟩)) := by rw [<- hW1, hBe]; simp
 have hB0 : W1.cell? ⟨w.heap.size, 0, none⟩ = some (.pointer (some ⟨G, 0, none⟩)) := by rw [<- hW1]; simp
 have hBl : B < W1.heap.size := by rw [<- hW1, hBe]; simp
 have hGB : G < B := by rw [hBe]; exact hg.five.lt
 have hobs : ∀ g, (Value.slice as1 s.length cs).ownBlock = some g -> W0.heap.size <= g /\ g < B := fun g e => by rw [hBe]; exact World.ownsRow.lt hg.sr g e
 have hg1 := hg.next L1
 have HSO := Za (Zlb G am al aq cm cl cq ms ls q _ _ x W0 W1 hg1.bel hg1.five hI hW hx)
 have HG1 := Za hg1
 have HD := Za hd
 have HOB := Za hobs
 have HPH := Za (Zle hd x)
 have hpl := Zgq (x, ddQ ms q x) s
 clear hg L1 hg1 hI hW hd hx hobs
 go_enter Tryz.func243, Tryz.ntmps243
 go_wp2_with fail
 rw [<- hBe]
 refine HSO.out.mono ?_
 rintro e w1 ⟨⟨r, rfl, hr⟩, L1⟩
 clear hW1 hBe hB0
 obtain ⟨la, lc, hIs, hlv⟩ := id hr
 obtain ⟨rt, rv, hre, -, -⟩ := hIs.meth
 subst hre
 have HR := Za hr
 have HIS := Za hIs
 have HHO := Za (Zih _ (x, ddQ ms q x) la _ lc w1 hIs)
 have hg1 := HG1.out.next L1
 have hb1 := (L1.cell (p := ⟨B, 0, none⟩) hBl).trans hB1
 have hBl1 := Nat.lt_of_lt_of_le hBl L1.size
 have HG2 := Za hg1
 clear HG1 HSO L1 hr hIs hlv hB1 hBl
 simp only at HHO
 go_wp2_with fail
 refine HHO.out.mono ?_
 rintro e w2 ⟨rfl, L2⟩
 have hg2 := HG2.out.next L2
 have hb2 := (L2.cell (p := ⟨B, 0, none⟩) hBl1).trans hb1
 have hBl2 := Nat.lt_of_lt_of_le hBl1 L2.size
 clear L2 HHO HG2 hb1 hg1 hBl1
 obtain ⟨W3, hW3⟩ : ∃ W, w2.alloc (.cells #[.int .i64 x, .int .i64 (ddQ ms q x)] 66) = W := ⟨_, rfl⟩
 have L3 : Below w2.heap.size w2 W3 := by rw [<- hW3]; exact (Below.refl _ _).alloc (Nat.le_refl _) _
 have hH3 : Two W3 w2.heap.size (.int .i64 x) (.int .i64 (ddQ ms q x)) 66 := by rw [<- hW3]; exact Two.new w2 _ _ _
 have hg3 := hg2.next L3
 have hb3 := (L3.cell (p := ⟨B, 0, none⟩) hBl2).trans hb2
 have hBl3 := Nat.lt_of_lt_of_le hBl2 L3.size
 have HSE := Za (Zlc B w2.heap.size W0 W3 G cm cl cq cs co am al aq as1 ao ms ls q op s vs (x, ddQ ms q x) hg3 HD.out hb3 hH3 hn)
 obtain ⟨-, -, -, g3, -⟩ := hg3.five.cells
 have HG3 := Za hg3
 clear L3 hH3 hg3 hg2 hb2 hBl2
 obtain ⟨dx, hdx⟩ : ∃ dx, ddQ ms q x = dx := ⟨_, rfl⟩
 have HDX := Za hdx
 rw [hdx] at HSE hW3 HPH hpl HIS ⊢
 clear hdx
 obtain ⟨p, hp⟩ : ∃ p, Zbv (x, dx) s = p := ⟨_, rfl⟩
 have HP := Za hp
 rw [hp] at HSE HPH hpl
 clear hp
 go_wp2_with fail
 refine HSE.out.mono ?_
 rintro e w4 ⟨rfl, L4⟩
 have hg4 := HG3.out.next L4
 have hb4 := (L4.cell (p := ⟨B, 0, none⟩) hBl3).trans hb3
 have hBl4 := Nat.lt_of_lt_of_le hBl3 L4.size
 clear L4 HSE HG3 hb3 g3 hW3 hBl3
 obtain ⟨-, -, -, g3, -⟩ := hg4.five.cells
 have HG4 := Za hg4
 by_cases hps : p < s.length
 · obtain ⟨sb, rfl, hsb, hsl, hsc⟩ := ZbH hg4.sr (by rw [hg4.vl]; omega)
   have c0 := hsc p (by rw [hg4.vl]; exact hps)
   obtain ⟨ta, tc, hIt, -⟩ := hg4.sees p hps
   obtain ⟨tt, tv, hsv, hm1, -⟩ := hIt.meth
   rw [hsv] at c0
   have HID := Za (fun w' => ZdS (Zf s p).1 ta (cn ls (Zn ms (Zf s p).1)).length tc w')
   have hp0 : (0 : Int) <= (p : Int) := Int.natCast_nonneg _
   have hp1 : (p : Int) < (s.length : Int) := by omega
   clear hsc hIt hsv hg4
   simp only at hm1
   obtain ⟨y, hy⟩ : ∃ y, (Zf s p).1 = y := ⟨_, rfl⟩
   rw [hy] at HID hm1 HPH
   clear hy
   generalize (cn ls (Zn ms y)).length = yn at *
   by_cases hyx : y = x
   · have hyb : (y == x) = true := by simp [hyx]
     have HV : Hid (ZY (Zav s) x = true) := by show _ = _; rw [HPH.out]; simp [hps, hyx]
     have HS : Hid (Zb9 (ddQ ms q) s x = s) := by show _ = _; unfold Zb9; rw [HV.out]; rfl
     clear hyx HPH
     go_wp2_with fail
     refine (HID.out _).mono ?_
     rintro e w5 ⟨rfl, rfl⟩
     go_wp2_with fail
     go_ret
     exact ⟨Zb (by rw [HV.out]; rfl), _, _, _, by rw [HS.out]; exact HG4.out.next ((Below.refl _ _).alloc (Nat.le_refl _) _)⟩
   · have hyb : (y == x) = false := by simp [hyx]
     have HV : Hid (ZY (Zav s) x = false) := by show _ = _; rw [HPH.out]; simp [hyx]
     have HNX := Za ((Zbj _ _).1 HV.out)
     clear hyx HPH
     go_wp2_with fail
     refine (HID.out _).mono ?_
     rintro e w5 ⟨rfl, rfl⟩
     obtain ⟨W5, hW5⟩ : ∃ W, w4.alloc (.cells #[.int .i64 y, .slice ta yn tc] 317) = W := ⟨_, rfl⟩
     have L5 : Below w4.heap.size w4 W5 := by rw [<- hW5]; exact (Below.refl _ _).alloc (Nat.le_refl _) _
     rw [hW5]
     clear hW5
     have hg5 := HG4.out.next L5
     have hb5 := (L5.cell (p := ⟨B, 0, none⟩) hBl4).trans hb4
     have hBl5 := Nat.lt_of_lt_of_le hBl4 L5.size
     clear L5
     obtain ⟨-, -, -, q3, -⟩ := hg5.five.cells
     have hGl := hg5.five.lt
     obtain ⟨W6, hW6⟩ : ∃ W, W = (W5.alloc (.cells #[.iface rt rv] 227)).drew := ⟨_, rfl⟩
     have L6 : Below W5.heap.size W5 W6 := by rw [hW6]; exact ((Below.refl W5.heap.size W5).alloc (Nat.le_refl _) _).drew
     have V6 : One W6 W5.heap.size (.iface rt rv) 227 := by rw [hW6]; exact (show One (W5.alloc (.cells #[.iface rt rv] 227)) W5.heap.size (.iface rt rv) 227 from One.new W5 _ _)
     have hz6 : W6.heap.size = W5.heap.size + 1 := by rw [hW6]; simp
     have hg6 := hg5.next L6
     have HINS : Hid (Calls Tryz.prog 281 #[.slice (some ⟨sb, 0, none⟩) s.length cs, .int .i64 p, .slice (some ⟨W5.heap.size, 0, none⟩) 1 1] W6 fun e w' => ∃ g G, e = .returned (.slice (some ⟨g, 0, none⟩) (s.length + 1) G) /\ Za2 W0.heap.size w' g G (vs.take p ++ (Value.iface rt rv) :: vs.drop p) /\ W6.grownBy w' (Value.slice (some ⟨sb, 0, none⟩) s.length cs).ownBlock /\ ((Value.slice (some ⟨sb, 0, none⟩) s.length cs).ownBlock = some g \/ g = W6.heap.size)) := by
      have hvl := hg6.vl
      have hsr := hg6.sr
      rw [<- hvl] at hsr
      have h0 := Zg7 W0.heap.size cs p W5.heap.size (some ⟨sb, 0, none⟩) vs (.iface rt rv) W6 hg6.one HIS.out.one hsr V6 (fun e => by rw [hvl] at e; have := (HOB.out _ e).2; omega) (by rw [hvl]; exact hpl) (by rw [hvl]; omega) hg6.bel.size
      rw [hvl] at h0
      exact h0
     have b6 := (L6.cell (p := ⟨B, 0, none⟩) hBl5).trans hb5
     have s6 := (L6.cell (p := ⟨G, 3, none⟩) hGl).trans q3
     have HG6 := Za hg6
     have hGl6 : G < W6.heap.size := by omega
     have hBl6 : B < W6.heap.size := by omega
     clear L6 V6 hg6 hg5 HG4 hb4 g3 c0
     go_wp2_with fail
     refine Zab (S := fun w' => w'.cell? ⟨B, 0, none⟩ = some (.pointer (some ⟨G, 0, none⟩)) /\ w'.cell? ⟨G, 3, none⟩ = some (.slice (some ⟨sb, 0, none⟩) s.length cs)) (fuel := 4)
      [0, 1, 2, 3, 4, 5, 6] _ rfl (by kernel_rfl) (by kernel_rfl) (by kernel_rfl) (by kernel_rfl) (by kernel_rfl) (by kernel_rfl) (by kernel_rfl) ⟨hb5, q3⟩ (fun hS => ?_)
     iterate 7
      refine ⟨_, rfl, ?_⟩
      apply Exists.intro
      refine ⟨Or.inl ⟨by rfl, fun w' hw' => ?_⟩, ?_⟩
      · first
        | (go_simp; done)
        | (go_simp; with_reducible rfl)
      simp only [Act.put, List.setIfInBounds_toArray]
     refine Zg 7 (by kernel_rfl) rfl (fun K hK => ?_)
     go_simp
     rw [<- hW6]
     clear hW6
     refine hK.out _ _ ⟨b6, s6⟩ (fun _ => ?_)
     clear hK K
     refine Zg 8 (by kernel_rfl) rfl (fun K hK => ?_)
     go_simp
     refine HINS.out.mono ?_
     rintro e w7 ⟨g, c7, rfl, hrow7, hgr7, hat7⟩
     have hkeep : ∀ b o, b < W6.heap.size -> (∀ g0, (Value.slice (some ⟨sb, 0, none⟩) s.length cs).ownBlock = some g0 -> b ≠ g0) -> w7.cell? ⟨b, o, none⟩ = W6.cell? ⟨b, o, none⟩ := fun b o hb hne => by
      simp only [World.cell?, hgr7.block b hb (fun e => hne b e.symm rfl)]
     have hB7 := hkeep B 0 hBl6 (fun g0 h0 => by have := (HOB.out g0 h0).2; omega)
     have hG7 := hkeep G 3 hGl6 (fun g0 h0 e => HG6.out.a1 (by rw [e]; exact h0))
     have F7 := HG6.out.five.kept hgr7 (fun e => HG6.out.a1 e.symm)
     have HE := Za (And.intro hrow7 (And.intro hgr7 hat7))
     refine hK.out _ _ ⟨hB7.trans b6, hG7.trans s6⟩ (fun hS7 => ?_)
     clear hK K hkeep hrow7 hgr7 hat7
     refine Zg 9 (by kernel_rfl) rfl (fun K hK => ?_)
     go_simp
     refine hK.out _ _ hS7 (fun _ => ?_)
     clear hK K
     refine Zg 10 (by kernel_rfl) rfl (fun K hK => ?_)
     go_simp
     refine hK.out _ _ hS7 (fun _ => ?_)
     clear hK K
     refine wpAnyH_done (by kernel_rfl) ?_ _
     simp only [Exit.then]
     have f7 := F7.frozen 3
     obtain ⟨-, -, -, r3, -⟩ := F7.cells
     go_wp2_with fail
     refine NoPanic.normal ?_
     obtain ⟨W8, hW8⟩ : ∃ W, W = w7.setCell ⟨G, 3, none⟩ (.slice (some ⟨g, 0, none⟩) (s.length + 1) c7) := ⟨_, rfl⟩
     rw [<- hW8]
     have HEND : Hid (∃ vs', Gz W0 W8 G am cm ms al cl ls aq cq q (Zb9 (ddQ ms q) s x) op (some ⟨g, 0, none⟩) c7 vs' ao co) := HG6.out.put HNX.out (by rw [HDX.out]; exact HP.out.symm) HR.out HE.out.1 HE.out.2.1 HE.out.2.2 hW8
     clear hS7 hB7 hG7 F7 r3 f7 hW8
     simp only [Exit.then]
     go_wp2_with fail
     go_ret
     obtain ⟨vs', hfin⟩ := HEND.out
     exact ⟨Zb (by rw [HV.out]; rfl), _, _, vs', hfin⟩
 · have hp1 : ¬ ((p : Int) < (s.length : Int)) := by omega
   have HV : Hid (ZY (Zav s) x = false) := by show _ = _; rw [HPH.out]; simp [hps]
   have HNX := Za ((Zbj _ _).1 HV.out)
   obtain ⟨W5, hW5⟩ : ∃ W, W = w4 := ⟨_, rfl⟩
   have L5 : Below w4.heap.size w4 W5 := by rw [hW5]; exact Below.refl _ _
   clear HPH hg4
   rw [<- hW5] at g3 ⊢
   clear hW5
   have hg5 := HG4.out.next L5
   have hb5 := (L5.cell (p := ⟨B, 0, none⟩) hBl4).trans hb4
   have hBl5 := Nat.lt_of_lt_of_le hBl4 L5.size
   clear L5
   obtain ⟨-, -, -, q3, -⟩ := hg5.five.cells
   have hGl := hg5.five.lt
   obtain ⟨W6, hW6⟩ : ∃ W, W = (W5.alloc (.cells #[.iface rt rv] 227)).drew := ⟨_, rfl⟩
   have L6 : Below W5.heap.size W5 W6 := by rw [hW6]; exact ((Below.refl W5.heap.size W5).alloc (Nat.le_refl _) _).drew
   have V6 : One W6 W5.heap.size (.iface rt rv) 227 := by rw [hW6]; exact (show One (W5.alloc (.cells #[.iface rt rv] 227)) W5.heap.size (.iface rt rv) 227 from One.new W5 _ _)
   have hz6 : W6.heap.size = W5.heap.size + 1 := by rw [hW6]; simp
   have hg6 := hg5.next L6
   have HINS : Hid (Calls Tryz.prog 281 #[.slice as1 s.length cs, .int .i64 p, .slice (some ⟨W5.heap.size, 0, none⟩) 1 1] W6 fun e w' => ∃ g G, e = .returned (.slice (some ⟨g, 0, none⟩) (s.length + 1) G) /\ Za2 W0.heap.size w' g G (vs.take p ++ (Value.iface rt rv) :: vs.drop p) /\ W6.grownBy w' (Value.slice as1 s.length cs).ownBlock /\ ((Value.slice as1 s.length cs).ownBlock = some g \/ g = W6.heap.size)) := by
    have hvl := hg6.vl
    have hsr := hg6.sr
    rw [<- hvl] at hsr
    have h0 := Zg7 W0.heap.size cs p W5.heap.size as1 vs (.iface rt rv) W6 hg6.one HIS.out.one hsr V6 (fun e => by rw [hvl] at e; have := (HOB.out _ e).2; omega) (by rw [hvl]; exact hpl) (by rw [hvl]; omega) hg6.bel.size
    rw [hvl] at h0
    exact h0
   have b6 := (L6.cell (p := ⟨B, 0, none⟩) hBl5).trans hb5
   have s6 := (L6.cell (p := ⟨G, 3, none⟩) hGl).trans q3
   have HG6 := Za hg6
   have hGl6 : G < W6.heap.size := by omega
   have hBl6 : B < W6.heap.size := by omega
   clear L6 V6 hg6 hg5 HG4 hb4 g3
   go_wp2_with fail
   refine Zab (S := fun w' => w'.cell? ⟨B, 0, none⟩ = some (.pointer (some ⟨G, 0, none⟩)) /\ w'.cell? ⟨G, 3, none⟩ = some (.slice as1 s.length cs)) (fuel := 4)
    [0, 1, 2, 3, 4, 5, 6] _ rfl (by kernel_rfl) (by kernel_rfl) (by kernel_rfl) (by kernel_rfl) (by kernel_rfl) (by kernel_rfl) (by kernel_rfl) ⟨hb5, q3⟩ (fun hS => ?_)
   iterate 7
    refine ⟨_, rfl, ?_⟩
    apply Exists.intro
    refine ⟨Or.inl ⟨by rfl, fun w' hw' => ?_⟩, ?_⟩
    · first
      | (go_simp; done)
      | (go_simp; with_reducible rfl)
    simp only [Act.put, List.setIfInBounds_toArray]
   refine Zg 7 (by kernel_rfl) rfl (fun K hK => ?_)
   go_simp
   rw [<- hW6]
   clear hW6
   refine hK.out _ _ ⟨b6, s6⟩ (fun _ => ?_)
   clear hK K
   refine Zg 8 (by kernel_rfl) rfl (fun K hK => ?_)
   go_simp
   refine HINS.out.mono ?_
   rintro e w7 ⟨g, c7, rfl, hrow7, hgr7, hat7⟩
   have hkeep : ∀ b o, b < W6.heap.size -> (∀ g0, (Value.slice as1 s.length cs).ownBlock = some g0 -> b ≠ g0) -> w7.cell? ⟨b, o, none⟩ = W6.cell? ⟨b, o, none⟩ := fun b o hb hne => by
    simp only [World.cell?, hgr7.block b hb (fun e => hne b e.symm rfl)]
   have hB7 := hkeep B 0 hBl6 (fun g0 h0 => by have := (HOB.out g0 h0).2; omega)
   have hG7 := hkeep G 3 hGl6 (fun g0 h0 e => HG6.out.a1 (by rw [e]; exact h0))
   have F7 := HG6.out.five.kept hgr7 (fun e => HG6.out.a1 e.symm)
   have HE := Za (And.intro hrow7 (And.intro hgr7 hat7))
   refine hK.out _ _ ⟨hB7.trans b6, hG7.trans s6⟩ (fun hS7 => ?_)
   clear hK K hkeep hrow7 hgr7 hat7
   refine Zg 9 (by kernel_rfl) rfl (fun K hK => ?_)
   go_simp
   refine hK.out _ _ hS7 (fun _ => ?_)
   clear hK K
   refine Zg 10 (by kernel_rfl) rfl (fun K hK => ?_)
   go_simp
   refine hK.out _ _ hS7 (fun _ => ?_)
   clear hK K
   refine wpAnyH_done (by kernel_rfl) ?_ _
   simp only [Exit.then]
   have f7 := F7.frozen 3
   obtain ⟨-, -, -, r3, -⟩ := F7.cells
   go_wp2_with fail
   refine NoPanic.normal ?_
   obtain ⟨W8, hW8⟩ : ∃ W, W = w7.setCell ⟨G, 3, none⟩ (.slice (some ⟨g, 0, none⟩) (s.length + 1) c7) := ⟨_, rfl⟩
   rw [<- hW8]
   have HEND : Hid (∃ vs', Gz W0 W8 G am cm ms al cl ls aq cq q (Zb9 (ddQ ms q) s x) op (some ⟨g, 0, none⟩) c7 vs' ao co) := HG6.out.put HNX.out (by rw [HDX.out]; exact HP.out.symm) HR.out HE.out.1 HE.out.2.1 HE.out.2.2 hW8
   clear hS7 hB7 hG7 F7 r3 f7 hW8
   simp only [Exit.then]
   go_wp2_with fail
   go_ret
   obtain ⟨vs', hfin⟩ := HEND.out
   exact ⟨Zb (by rw [HV.out]; rfl), _, _, vs', hfin⟩
theorem ZjO {base : Nat} {w : World} {a : Option Addr} {m c : Nat} {l : List Int} (h : w.ownsRow base 2 1 (.slice a m c) l.length (Ze4 l)) : Zp w a l := by
 by_cases h0 : l.length = 0
 · exact Or.inl (List.length_eq_zero_iff.1 h0)
 · obtain ⟨g, e, hb, hl, hc⟩ := ZbH h (by rw [Ze5]; omega)
   refine Or.inr ⟨g, 0, e, hl, fun k hk => ?_⟩
   rw [Nat.zero_add, hc k (by rw [Ze5]; exact hk)]
   simp [Ze4, nth, List.getD, hk]
theorem Zmh {base e n : Nat} {w : World} {a : Option Addr} {m c : Nat} {xs : List Value} (h : w.ownsRow base e 1 (.slice a m c) n xs) : n <= c := by
 obtain ⟨h1, h2⟩ := h
 rcases h2 with ⟨e1, e2⟩ | ⟨g, cp, cur, e1, hb, hg, hnc, hcm, hsz, htk⟩
 · omega
 · injection e1 with e1 e2 e3
   omega
theorem Zjc (W0 w : World) (G cm cl cq cs co : Nat) (am al aq as1 ao : Option Addr) (ms : List Mk) (ls : List (List Int)) (q op : List Int) (s : List Ht) (vs : List Value) (wd : Nat) (hg : Gz W0 w G am cm ms al cl ls aq cq q s op as1 cs vs ao co) (h0 : 0 < s.length) :
 Calls Tryz.prog 192 #[.pointer (some ⟨G, 0, none⟩), .int .i64 wd] w fun e w' => e = .returned (.slice as1 (min s.length wd) cs) /\ Below w.heap.size w w' := by
 obtain ⟨-, -, -, g3, -⟩ := hg.five.cells
 have hcap := Zmh hg.sr
 obtain ⟨sb, rfl, -, -, -⟩ := ZbH hg.sr (by rw [hg.vl]; omega)
 obtain ⟨m, hm⟩ : ∃ m, min s.length wd = m := ⟨_, rfl⟩
 have hmi : min (wd : Int) (s.length : Int) = (m : Int) := by omega
 have hmc : m <= cs := by omega
 have hmc2 : (m : Int) <= (cs : Int) := by omega
 have hm0 : (0 : Int) <= (m : Int) := by omega
 rw [hm]
 clear hg hm
 go_enter Tryz.func192, Tryz.ntmps192
 go_wp2_with fail
 go_region_held3 (fun w' => w'.cell? ⟨G, 3, none⟩ = some (.slice (some ⟨sb, 0, none⟩) s.length cs)) (first | go_keep) (fail)
 simp only [Exit.then]
 go_wp2_with fail
 go_ret
 exact ⟨rfl, (Below.refl _ _).drew⟩
theorem ZjP (B : Nat) (W0 w : World) (G cm cl cq cs co : Nat) (am al aq as1 ao : Option Addr) (ms : List Mk) (ls : List (List Int)) (q op : List Int) (s : List Ht) (vs : List Value) (i : Nat) (hg : Gz W0 w G am cm ms al cl ls aq cq q s op as1 cs vs ao co) (hB : w.cell? ⟨B, 0, none⟩ = some (.pointer (some ⟨G, 0, none⟩))) (hi : i < s.length) (ho : op.length <= 60) :
 Calls Tryz.prog 302 #[vs.getD i .nilIface, .pointer (some ⟨B, 0, none⟩)] w fun e w' => e = .returned (.bool (!ZY op (Zf s i).1)) /\ Below w.heap.size w w' := by
 obtain ⟨ta, tc, hIt, -⟩ := hg.sees i hi
 obtain ⟨tt, tv, hsv, hm1, -⟩ := hIt.meth
 rw [hsv]
 simp only at hm1
 have HID := Za (fun w' => ZdS (Zf s i).1 ta (cn ls (Zn ms (Zf s i).1)).length tc w')
 have HHA : Hid (∀ w', Below w.heap.size w w' -> Calls Tryz.prog 285 #[.slice ao op.length co, .int .i64 (Zf s i).1] w' fun e w'' => e = .returned (.bool (ZY op (Zf s i).1)) /\ w'' = w') := fun w' L => pHas ao co op _ w' (ZjO (hg.next L).opr) (by omega)
 obtain ⟨-, -, -, -, g4⟩ := hg.five.cells
 have hGl := hg.five.lt
 have hBl : B < w.heap.size := Zc5 hB
 clear hIt hsv hg
 generalize (cn ls (Zn ms (Zf s i).1)).length = yn at *
 generalize (Zf s i).1 = y at *
 have HK : Hid (∀ w', Below w.heap.size w w' -> w'.cell? ⟨B, 0, none⟩ = some (.pointer (some ⟨G, 0, none⟩)) /\ w'.cell? ⟨G, 4, none⟩ = some (.slice ao op.length co)) := fun w' L => ⟨(L.cell (p := ⟨B, 0, none⟩) hBl).trans hB, (L.cell (p := ⟨G, 4, none⟩) hGl).trans g4⟩
 go_enter Tryz.func302, Tryz.ntmps302
 go_wp2_with fail
 go_region_held3 (fun w' => w'.cell? ⟨B, 0, none⟩ = some (.pointer (some ⟨G, 0, none⟩)) /\ w'.cell? ⟨G, 4, none⟩ = some (.slice ao op.length co))
  (first
    | go_keep
    | exact HK.out _ (((Below.refl w.heap.size w).drew).alloc (Nat.le_refl _) _))
  (first
    | (go_at_call 357; refine (HID.out _).mono ?_; rintro e w2 ⟨rfl, rfl⟩)
    | (go_at_call 285; refine (HHA.out _ (((Below.refl w.heap.size w).drew).alloc (Nat.le_refl _) _)).mono ?_; rintro e w3 ⟨rfl, rfl⟩))
 simp only [Exit.then]
 go_wp2_with fail
 go_ret
 exact ⟨rfl, ((Below.refl w.heap.size w).drew).alloc (Nat.le_refl _) _⟩
theorem Zmi (B : Nat) (W0 w : World) (G cm cl cq cs co : Nat) (am al aq as1 ao : Option Addr) (ms : List Mk) (ls : List (List Int)) (q op : List Int) (s : List Ht) (vs : List Value) (m : Nat) (hg : Gz W0 w G am cm ms al cl ls aq cq q s op as1 cs vs ao co) (hB : w.cell? ⟨B, 0, none⟩ = some (.pointer (some ⟨G, 0, none⟩))) (hm : m <= s.length) (hn : s.length <= 60) (ho : op.length <= 60) :
 Calls Tryz.prog 301 #[.slice as1 m cs, .func (Fn.func 302) #[] #[.pointer (some ⟨B, 0, none⟩)]] w fun e w' => e = .returned (.int .i64 (ZA s op m)) /\ Below w.heap.size w w' := by
 have hBl : B < w.heap.size := Zc5 hB
 have HF : Hid (∀ W i, Below w.heap.size w W -> i < s.length -> Calls Tryz.prog 302 #[vs.getD i .nilIface, .pointer (some ⟨B, 0, none⟩)] W fun e w' => e = .returned (.bool (!ZY op (Zf s i).1)) /\ Below W.heap.size W w') := fun W i L hi =>
  ZjP B W0 W G cm cl cq cs co am al aq as1 ao ms ls q op s vs i (hg.next L) ((L.cell (p := ⟨B, 0, none⟩) hBl).trans hB) hi ho
 have HC : Hid (0 < s.length -> ∃ sb, as1 = some ⟨sb, 0, none⟩ /\ sb < w.heap.size /\ ∀ k, k < s.length -> w.cell? ⟨sb, k, none⟩ = some (vs.getD k .nilIface)) := fun h0 => by
  obtain ⟨sb, e, -, h1, h2⟩ := ZbH hg.sr (by rw [hg.vl]; exact h0)
  exact ⟨sb, e, h1, fun k hk => h2 k (by rw [hg.vl]; exact hk)⟩
 clear hB hg
 go_enter Tryz.func301, Tryz.ntmps301
 go_wp2_with fail
 go_loopw [8] (fun i wr => ∃ k : Nat, k <= m /\ i = .int .i64 k /\ ZA s op k < 0 /\ Below w.heap.size w wr) (fun i _ => m - (intOf i).toNat)
 case atStart => exact ⟨0, Nat.zero_le _, rfl, by simp [ZA], Below.refl _ _⟩
 case round =>
  obtain ⟨k, hk, rfl, hout, L⟩ := hrel
  by_cases hlt : k < m
  · obtain ⟨sb, rfl, hsl, hsc⟩ := HC.out (by omega)
    have c0 := (L.cell (p := ⟨sb, k, none⟩) hsl).trans (hsc k (by omega))
    have HN := Za (HF.out wr k L (by omega))
    have HL := Za L
    have HO := Za hout
    have hk0 : (0 : Int) <= (k : Int) := Int.natCast_nonneg _
    have hk1 : (k : Int) < (m : Int) := by omega
    clear L hsc hout
    generalize vs.getD k .nilIface = sv at *
    rcases he : ZY op (Zf s k).1 with _ | _
    · have HX : Hid (ZA s op m = (k : Int)) := by
       show _ = _
       have h1 : ZA s op (k + 1) = (k : Int) := by
        have := HO.out
        simp only [ZA]
        rw [if_neg (by omega), if_neg (by rw [he]; simp)]
       rw [ZeT (n := k + 1) (m := m) (by omega) (by omega), h1]
      rw [he] at HN
      clear he
      go_wp2_with fail
      refine HN.out.mono ?_
      rintro e w2 ⟨rfl, L2⟩
      have HL2 := Za (Zd HL.out L2)
      clear L2
      go_wp2_with fail
      go_ret
      exact ⟨ZV HX.out.symm, HL2.out⟩
    · have HX : Hid (ZA s op (k + 1) < 0) := by
       show _ < _
       have := HO.out
       simp only [ZA]
       rw [if_neg (by omega), if_pos he]
       omega
      rw [he] at HN
      clear he
      go_wp2_with fail
      refine HN.out.mono ?_
      rintro e w2 ⟨rfl, L2⟩
      have HL2 := Za (Zd HL.out L2)
      clear L2
      go_wp2_with fail
      go_roundw
      case rel => exact ⟨k + 1, by omega, by go_num, HX.out, HL2.out⟩
      case measure => simp [intOf]; omega
  · obtain rfl : k = m := by omega
    have HX : Hid (ZA s op k = -1) := by
     show _ = _
     have := (ZdN s op k).1
     omega
    have HL := Za L
    clear L hout
    go_wp2_with fail
    go_ret
    exact ⟨ZV HX.out.symm, HL.out⟩
theorem Zjd (W0 w : World) (G cm cl cq cs co : Nat) (am al aq as1 ao : Option Addr) (ms : List Mk) (ls : List (List Int)) (q op : List Int) (s : List Ht) (vs : List Value) (wd : Nat) (hg : Gz W0 w G am cm ms al cl ls aq cq q s op as1 cs vs ao co) (h0 : 0 < s.length) (hn : s.length <= 60) (ho : op.length <= 60) :
 Calls Tryz.prog 282 #[.pointer (some ⟨G, 0, none⟩), .int .i64 wd] w fun e w' => e = .returned (.int .i64 (ZA s op (min s.length wd))) /\ Below w.heap.size w w' := by
 obtain ⟨W1, hW1⟩ : ∃ W, w.alloc (.cells #[.pointer (some ⟨G, 0, none⟩)] 223) = W := ⟨_, rfl⟩
 have L1 : Below w.heap.size w W1 := by rw [<- hW1]; exact (Below.refl _ _).alloc (Nat.le_refl _) _
 have hB0 : W1.cell? ⟨w.heap.size, 0, none⟩ = some (.pointer (some ⟨G, 0, none⟩)) := by rw [<- hW1]; simp
 have hBl : w.heap.size < W1.heap.size := by rw [<- hW1]; simp
 have HFI := Za (Zjc W0 W1 G cm cl cq cs co am al aq as1 ao ms ls q op s vs wd (hg.next L1) h0)
 have HG := Za (hg.next L1)
 have HL := Za L1
 clear hg L1
 go_enter Tryz.func282, Tryz.ntmps282
 go_wp2_with fail
 refine HFI.out.mono ?_
 rintro e w2 ⟨rfl, L2⟩
 have HIX := Za (Zmi w.heap.size W0 w2 G cm cl cq cs co am al aq as1 ao ms ls q op s vs (min s.length wd) (HG.out.next L2) ((L2.cell (p := ⟨w.heap.size, 0, none⟩) hBl).trans hB0) (by omega) hn ho)
 have HL2 := Za (Zd HL.out L2)
 clear L2 hB0 hW1
 go_wp2_with fail
 refine HIX.out.mono ?_
 rintro e w3 ⟨rfl, L3⟩
 have HL3 := Za (Zd HL2.out L3)
 clear L3
 go_wp2_with fail
 go_ret
 exact ⟨rfl, HL3.out⟩
theorem Zlf : (Tryz.prog.info? 2).map (fun i => (i.zero, i.size, i.bytes)) = some (some (.int .i64 0), 1, 8) := by kernel_rfl
theorem Gz.opens {W0 w w7 w8 : World} {G cm cl cq cs co : Nat} {am al aq as1 ao : Option Addr} {ms : List Mk} {ls : List (List Int)} {q op : List Int} {s : List Ht} {vs : List Value} {x : Int} {g c7 : Nat} (h : Gz W0 w G am cm ms al cl ls aq cq q s op as1 cs vs ao co) (hrow : w7.ownsRow W0.heap.size 2 1 (.slice (some ⟨g, 0, none⟩) (op.length + 1) c7) (op.length + 1) (Ze4 op ++ [.int .i64 x])) (hgr : w.grownBy w7 (Value.slice ao op.length co).ownBlock) (hat : (Value.slice ao op.length co).ownBlock = some g \/ g = w.heap.size) (h8 : w8 = w7.setCell ⟨G, 4, none⟩ (.slice (some ⟨g, 0, none⟩) (op.length + 1) c7)) :
 Gz W0 w8 G am cm ms al cl ls aq cq q s (op ++ [x]) as1 cs vs (some ⟨g, 0, none⟩) c7 := by
 have hlen : (op ++ [x]).length = op.length + 1 := by simp
 have hGl := h.five.lt
 have hsb := World.ownsRow.lt h.sr
 have hob := World.ownsRow.lt h.opr
 have hgG : g ≠ G := by
  rcases hat with e | e
  · intro e2; rw [e2] at e; exact h.a2 e
  · omega
 have F7 : Fiv w7 G (.slice am ms.length cm) (.slice al ls.length cl) (.slice aq q.length cq) (.slice as1 s.length cs) (.slice ao op.length co) 273 := h.five.kept hgr (fun e => h.a2 e.symm)
 have hg8 : w7.grownBy w8 (some G) := by rw [h8]; exact Za6 w7 G 4 _
 have S7 : w7.ownsRow W0.heap.size 227 1 (.slice as1 s.length cs) s.length vs := World.ownsRow.kept h.sr hgr (by
  cases he : (Value.slice as1 s.length cs).ownBlock with
  | none => exact Or.inl rfl
  | some b => exact Or.inr fun e => h.a3 b he e.symm)
 refine ⟨?_, h.low, World.ownsRow.kept S7 hg8 (Or.inr h.a1), h.vl, h.sees, ?_, h.a1, ?_, fun g' e => ?_, ?_⟩
 · rw [hlen, h8]; exact F7.set4 _
 · rw [hlen]
   have e1 := World.ownsRow.kept hrow hg8 (Or.inr fun e => by
    have e' : some g = some G := e
    injection e' with e'
    exact hgG e')
   rw [show Ze4 (op ++ [x]) = Ze4 op ++ [.int .i64 x] by simp [Ze4]]
   exact e1
 · intro e
   have e' : some g = some G := e
   injection e' with e'
   exact hgG e'
 · intro e2
   have e' : some g = some g' := e2
   injection e' with e'
   subst e'
   rcases hat with e3 | e3
   · exact h.a3 g e e3
   · have := (hsb g e).2
     omega
 · exact (h.bel.grown hgr (by have := h.bel.size; omega) (fun k hk => (hob k hk).1)).grown hg8 (by have := h.bel.size; have := hgr.size; omega) (fun k hk => by cases hk; exact h.low)
theorem iOpen (W0 w : World) (G cm cl cq cs co : Nat) (am al aq as1 ao : Option Addr) (ms : List Mk) (ls : List (List Int)) (q op : List Int) (s : List Ht) (vs : List Value) (i : Nat) (hg : Gz W0 w G am cm ms al cl ls aq cq q s op as1 cs vs ao co) (hI : Ze3 W0 am ms al ls aq q) (hW : ZfP ms ls q) (hd : Zbp (ddQ ms q) s) (hf : ∀ y ∈ Zav s, 0 <= Zk ms y) (hi : i < s.length) (ho : op.length <= 60) :
 Calls Tryz.prog 283 #[.pointer (some ⟨G, 0, none⟩), vs.getD i .nilIface] w fun e w' => e = .returned (.tuple #[]) /\ ∃ as2 cs2 vs2 ao2 co2, Gz W0 w' G am cm ms al cl ls aq cq q (Zbq (ddQ ms q) s (cn ls (Zn ms (Zf s i).1))) (op ++ [(Zf s i).1]) as2 cs2 vs2 ao2 co2 := by
 obtain ⟨ta, tc, hIt, htv⟩ := hg.sees i hi
 obtain ⟨tt, tv, hsv, hm1, hm2⟩ := hIt.meth
 rw [hsv]
 simp only at hm1 hm2
 have HID := Za (fun w' => ZdS (Zf s i).1 ta (cn ls (Zn ms (Zf s i).1)).length tc w')
 have HLI := Za (fun w' => Zif (Zf s i).1 ta (cn ls (Zn ms (Zf s i).1)).length tc w')
 have hx0 := hf _ (Zcn hi)
 have hxi := Zx hx0
 have hm60 := ZT (Zz hW.web)
 have hll := Zce hW.web hxi.1
 have HLF : Hid (∀ k, k < (cn ls (Zn ms (Zf s i).1)).length -> 0 <= Zk ms (nth (cn ls (Zn ms (Zf s i).1)) k)) := fun k hk => (ZaB hW.web hxi.1 ((ZI _ _).1 (Za5 hk))).1
 have HSN : Hid (∀ l : List Int, (∀ y ∈ l, y ∈ cn ls (Zn ms (Zf s i).1)) -> Zbp (ddQ ms q) (Zbq (ddQ ms q) s l) /\ (Zbq (ddQ ms q) s l).length <= 60) := fun l hl => by
  obtain ⟨h1, h2⟩ := ZcV hd l
  refine ⟨h1, ?_⟩
  have := Zbd (ms := ms) h1.nd (fun y hy => by
   rcases (h2 y).1 hy with e | e
   · exact (ZaB hW.web hxi.1 (hl y e)).1
   · exact hf y e)
  rw [Zha] at this
  omega
 have HTV := Za htv
 have HI := Za hI
 have HW := Za hW
 obtain ⟨-, -, -, -, g4⟩ := hg.five.cells
 have hGl := hg.five.lt
 have HG := Za hg
 have hobs : ∀ g, (Value.slice ao op.length co).ownBlock = some g -> W0.heap.size <= g /\ g < w.heap.size := World.ownsRow.lt hg.opr
 have HOB := Za hobs
 obtain ⟨i0, hi0, hz0, hz1, hz2⟩ := info_parts Zlf
 clear hIt hsv hg hI hW hd hf hx0 hxi htv hobs
 generalize hxx : (Zf s i).1 = x at *
 clear hxx
 generalize hlx : cn ls (Zn ms x) = l at *
 clear hlx
 obtain ⟨W1, hW1⟩ : ∃ W, (w.drew.alloc (.cells #[.int .i64 x, .slice ta l.length tc] 317)) = W := ⟨_, rfl⟩
 have L1 : Below w.heap.size w W1 := by rw [<- hW1]; exact ((Below.refl w.heap.size w).drew).alloc (Nat.le_refl _) _
 have hz1w : W1.heap.size = w.heap.size + 1 := by rw [<- hW1]; simp
 obtain ⟨W2, hW2⟩ : ∃ W, W1.alloc (.cells #[.int .i64 x] 2) = W := ⟨_, rfl⟩
 have L2 : Below W1.heap.size W1 W2 := by rw [<- hW2]; exact (Below.refl _ _).alloc (Nat.le_refl _) _
 have V2 : W2.heap[W1.heap.size]? = some (.cells #[.int .i64 x] 2 (0, 0)) := by rw [<- hW2]; exact heap_alloc_new W1 _
 have hz2w : W2.heap.size = W1.heap.size + 1 := by rw [<- hW2]; simp
 rw [hz1w] at V2
 have L12 := Zd L1 L2
 have hg2 := HG.out.next L12
 have HG2 := Za hg2
 have HO2 := Za hg2.opr
 have k1 := (L1.cell (p := ⟨G, 4, none⟩) hGl).trans g4
 have k2 := (L12.cell (p := ⟨G, 4, none⟩) hGl).trans g4
 have hGl2 : G < W2.heap.size := by omega
 have HB2 := Za hg2.bel.size
 clear L1 L2 L12 hg2
 go_enter Tryz.func283, Tryz.ntmps283
 go_wp2_with fail
 refine Zab (S := fun w' => w'.cell? ⟨G, 4, none⟩ = some (.slice ao op.length co)) (fuel := 5)
  [0, 1, 2, 3, 4, 5] _ rfl (by kernel_rfl) (by kernel_rfl) (by kernel_rfl) (by kernel_rfl) (by kernel_rfl) (by kernel_rfl) (by kernel_rfl) g4 (fun hS => ?_)
 iterate 6
  refine ⟨_, rfl, ?_⟩
  apply Exists.intro
  refine ⟨Or.inl ⟨by rfl, fun w' hw' => ?_⟩, ?_⟩
  · first
    | (go_simp; done)
    | (go_simp; with_reducible rfl)
  simp only [Act.put, List.setIfInBounds_toArray]
 refine Zg 6 (by kernel_rfl) rfl (fun K hK => ?_)
 go_simp
 refine (HID.out _).mono ?_
 rintro e w5 ⟨rfl, rfl⟩
 rw [hW1]
 clear hW1
 refine hK.out _ _ k1 (fun _ => ?_)
 clear hK K
 refine Zg 7 (by kernel_rfl) rfl (fun K hK => ?_)
 go_simp
 clear hW2
 refine hK.out _ _ k2 (fun _ => ?_)
 clear hK K
 refine Zg 8 (by kernel_rfl) rfl (fun K hK => ?_)
 refine step_append_lies _ (by rfl) _ _ _ (by rfl) W0.heap.size 2 i0 _ 1 8 Tryz.underlying27 hi0 hz0 hz1 hz2 rfl (by omega) (.slice ao op.length co) op.length (Ze4 op) (by rfl) HO2.out ⟨w.heap.size + 1, 0, none⟩ 1 1 [.int .i64 x] (by rfl) (by rfl) (World.news_of_block (cs := #[.int .i64 x]) (t := 2) (fr := (0, 0)) V2) (by simp [Value.oneCell']) (by omega) (by unfold maxLen; omega) (by omega) HB2.out W2.heap.size rfl ?_
 intro g c7 w7 hrow7 hgr7 hat7 hlt7
 have hG7 : w7.cell? ⟨G, 4, none⟩ = some (.slice ao op.length co) := by
  have := hgr7.block G hGl2 (fun e => HG2.out.a2 e.symm)
  simp only [World.cell?, this]
  exact k2
 have F7 := HG2.out.five.kept hgr7 (fun e => HG2.out.a2 e.symm)
 have HE := Za (And.intro hrow7 (And.intro hgr7 hat7))
 refine hK.out _ _ hG7 (fun hS7 => ?_)
 clear hK K hrow7 hgr7 hat7
 refine Zg 9 (by kernel_rfl) rfl (fun K hK => ?_)
 go_simp
 refine hK.out _ _ hS7 (fun _ => ?_)
 clear hK K
 refine Zg 10 (by kernel_rfl) rfl (fun K hK => ?_)
 go_simp
 refine hK.out _ _ hS7 (fun _ => ?_)
 clear hK K
 refine wpAnyH_done (by kernel_rfl) ?_ _
 simp only [Exit.then]
 have f7 := F7.frozen 4
 obtain ⟨-, -, -, -, r4⟩ := F7.cells
 clear hS7 hG7 k1 k2 g4 hS
 go_wp2_with fail
 refine NoPanic.normal ?_
 obtain ⟨W8, hW8⟩ : ∃ W, W = w7.setCell ⟨G, 4, none⟩ (.slice (some ⟨g, 0, none⟩) (op.length + 1) c7) := ⟨_, rfl⟩
 rw [<- hW8]
 have HG8 : Hid (Gz W0 W8 G am cm ms al cl ls aq cq q s (op ++ [x]) as1 cs vs (some ⟨g, 0, none⟩) c7) := HG2.out.opens HE.out.1 HE.out.2.1 HE.out.2.2 hW8
 clear F7 r4 f7 hW8 HE HG2 HG HO2
 simp only [Exit.then]
 go_wp2_with fail
 refine (HLI.out _).mono ?_
 rintro e w9 ⟨rfl, rfl⟩
 obtain ⟨W9, hW9⟩ : ∃ W, W8.alloc (.cells #[.int .i64 x, .slice ta l.length tc] 317) = W := ⟨_, rfl⟩
 have HG9 : Hid (Gz W0 W9 G am cm ms al cl ls aq cq q s (op ++ [x]) as1 cs vs (some ⟨g, 0, none⟩) c7) := HG8.out.next (by rw [<- hW9]; exact (Below.refl _ _).alloc (Nat.le_refl _) _)
 rw [hW9]
 clear hW9 HG8
 go_wp2_with fail
 go_loopw [20] (fun i wr => ∃ (k : Nat) (as2 : Option Addr) (cs2 : Nat) (vs2 : List Value), k <= l.length /\ i = .int .i64 k /\ Gz W0 wr G am cm ms al cl ls aq cq q (Zbq (ddQ ms q) s (l.take k)) (op ++ [x]) as2 cs2 vs2 (some ⟨g, 0, none⟩) c7) (fun i _ => l.length - (intOf i).toNat)
 case atStart => exact ⟨0, as1, cs, vs, Nat.zero_le _, rfl, HG9.out⟩
 case round =>
  obtain ⟨k, as2, cs2, vs2, hk, rfl, hgk⟩ := hrel
  by_cases hlt : k < l.length
  · have hvk := HTV.out.next hgk.bel
    obtain ⟨b, off, rfl, hb, hs⟩ : ∃ b off, ta = some ⟨b, off, none⟩ /\ b < wr.heap.size /\ Seg wr b off l := by
     rcases hvk with h | h
     · rw [h] at hlt; simp at hlt
     · exact h
    have hc := hs k hlt
    have hk0 : (0 : Int) <= (k : Int) := Int.natCast_nonneg _
    have hk1 : (k : Int) < (l.length : Int) := by omega
    obtain ⟨j1, j2⟩ := HSN.out (l.take k) (fun y hy => List.mem_of_mem_take hy)
    have HS := Za (iSee W0 wr G cm cl cq cs2 c7 am al aq as2 _ ms ls q (op ++ [x]) _ vs2 (nth l k) hgk HI.out HW.out j1 (HLF.out k hlt) j2)
    have HTK := Za (Ze6 (ddQ ms q) s l hlt)
    clear hs hvk hgk j1 j2
    generalize nth l k = y at *
    go_wp2_with fail
    refine HS.out.mono ?_
    rintro e w10 ⟨rfl, as3, cs3, vs3, hg3⟩
    rw [<- HTK.out] at hg3
    have HG3 := Za hg3
    clear hg3
    go_wp2_with fail
    go_roundw
    case rel => exact ⟨k + 1, as3, cs3, vs3, by omega, by go_num, HG3.out⟩
    case measure => simp [intOf]; omega
  · obtain rfl : k = l.length := by omega
    rw [List.take_length] at hgk
    have HGK := Za hgk
    clear hgk
    go_wp2_with fail
    exact bodyPost_end (v := .tuple #[]) (by simp [results, Tryz.results283, go_sem]) rfl ⟨rfl, as2, cs2, vs2, _, _, HGK.out⟩
theorem Zij (W0 w : World) (G cm cl cq cs co : Nat) (am al aq as1 ao : Option Addr) (ms : List Mk) (ls : List (List Int)) (q op : List Int) (s : List Ht) (vs : List Value) (wd : Nat) (hg : Gz W0 w G am cm ms al cl ls aq cq q s op as1 cs vs ao co) (hI : Ze3 W0 am ms al ls aq q) (hW : ZfP ms ls q) (hok : Zco ms ls (ddQ ms q) s op) (h0 : 0 < s.length) :
 Calls Tryz.prog 244 #[.pointer (some ⟨G, 0, none⟩), .int .i64 wd] w fun e w' => e = .returned (.tuple #[]) /\ ∃ s2 op2, LkTo ms ls (ddQ ms q) wd s op s2 op2 /\ ZA s2 op2 (min s2.length wd) < 0 /\ ∃ as2 cs2 vs2 ao2 co2, Gz W0 w' G am cm ms al cl ls aq cq q s2 op2 as2 cs2 vs2 ao2 co2 := by
 have hm60 := ZT (Zz hW.web)
 have HOK : Hid (∀ s1 op1, LkTo ms ls (ddQ ms q) wd s op s1 op1 -> Zco ms ls (ddQ ms q) s1 op1 /\ 0 < s1.length /\ s1.length <= 60 /\ op1.length <= 60) := fun s1 op1 ht => by
  have h1 := ht.ok hW.web hok
  have h2 := h1.short
  have h3 := h1.shortO
  refine ⟨h1, ?_, by omega, by omega⟩
  have key : ∀ s1 op1, LkTo ms ls (ddQ ms q) wd s op s1 op1 -> 0 < s1.length := by
   intro s1 op1 ht
   induction ht with
   | refl => exact h0
   | @step s op h1 h2 ih =>
     obtain ⟨-, hmem⟩ := ZcV (h1.ok hW.web hok).look (cn ls (Zn ms (ZbI s op wd)))
     have hin := (hmem (ZbI s op wd)).2 (Or.inr (ZdT h2).2.1)
     obtain ⟨k, hk, -⟩ := Zdf hin
     omega
  exact key s1 op1 ht
 have hlen0 := HOK.out s op LkTo.refl
 have HC0 := Za (Zjd W0 w G cm cl cq cs co am al aq as1 ao ms ls q op s vs wd hg h0 hlen0.2.2.1 hlen0.2.2.2)
 have HG := Za hg
 have HI := Za hI
 have HW := Za hW
 clear hg hI hW hok hlen0 h0
 go_enter Tryz.func244, Tryz.ntmps244
 go_wp2_with fail
 refine HC0.out.mono ?_
 rintro e w1 ⟨rfl, L1⟩
 have HG1 := Za (HG.out.next L1)
 clear L1 HG HC0
 go_wp2_with fail
 go_loopg [4] (ms.length - op.length) (fun gk t4 wr => ∃ (s1 : List Ht) (op1 : List Int) (as2 : Option Addr) (cs2 : Nat) (vs2 : List Value) (ao2 : Option Addr) (co2 : Nat), t4 = .int .i64 (ZA s1 op1 (min s1.length wd)) /\ ms.length - op1.length <= gk /\ LkTo ms ls (ddQ ms q) wd s op s1 op1 /\ Gz W0 wr G am cm ms al cl ls aq cq q s1 op1 as2 cs2 vs2 ao2 co2)
 case atStart => exact ⟨s, op, as1, cs, vs, ao, co, rfl, Nat.le_refl _, LkTo.refl, HG1.out⟩
 case round =>
  obtain ⟨s1, op1, as2, cs2, vs2, ao2, co2, rfl, hgk, hto, hg2⟩ := hrel
  obtain ⟨hok1, h01, hn1, ho1⟩ := HOK.out s1 op1 hto
  by_cases hlt : 0 <= ZA s1 op1 (min s1.length wd)
  · obtain ⟨n1, n2, n3⟩ := ZdT hlt
    have hroom := hok1.room n2 n3
    have HTO2 := Za (hto.step hlt)
    have HNX : Hid (ZbI s1 op1 wd = (Zf s1 (ZA s1 op1 (min s1.length wd)).toNat).1) := rfl
    obtain ⟨sb, rfl, -, hsl, hsc⟩ := ZbH hg2.sr (by rw [hg2.vl]; omega)
    obtain ⟨j, hj⟩ : ∃ j : Nat, ZA s1 op1 (min s1.length wd) = (j : Int) := ⟨(ZA s1 op1 (min s1.length wd)).toNat, by omega⟩
    rw [hj] at n1 HNX ⊢
    rw [Int.toNat_natCast] at n1 HNX
    have c0 := hsc j (by rw [hg2.vl]; exact n1)
    obtain ⟨-, -, -, g3, -⟩ := hg2.five.cells
    have HOP := Za (iOpen W0 wr G cm cl cq cs2 co2 am al aq _ ao2 ms ls q op1 s1 vs2 j hg2 HI.out HW.out hok1.look hok1.find n1 ho1)
    rw [<- HNX.out] at HOP
    have hj0 : (0 : Int) <= (j : Int) := Int.natCast_nonneg _
    have hj1 : (j : Int) < (s1.length : Int) := by omega
    have HGK : Hid (ms.length - (op1 ++ [ZbI s1 op1 wd]).length < gk /\ ms.length - (op1 ++ [ZbI s1 op1 wd]).length <= ms.length - (op1 ++ [ZbI s1 op1 wd]).length) := ⟨by simp; omega, Nat.le_refl _⟩
    clear hsc n1 n2 n3 hj hlt hok1 hto hg2 hroom HNX
    generalize ZbI s1 op1 wd = x at *
    generalize vs2.getD j .nilIface = sv at *
    go_wp2_with fail
    refine HOP.out.mono ?_
    rintro e w2 ⟨rfl, as3, cs3, vs3, ao3, co3, hg3⟩
    obtain ⟨-, h03, hn3, ho3⟩ := HOK.out _ _ HTO2.out
    have HC3 := Za (Zjd W0 w2 G cm cl cq cs3 co3 am al aq as3 ao3 ms ls q _ _ vs3 wd hg3 h03 hn3 ho3)
    have HG3 := Za hg3
    clear hg3 h03 hn3 ho3 c0 g3
    go_wp2_with fail
    refine HC3.out.mono ?_
    rintro e w3 ⟨rfl, L3⟩
    have HG4 := Za (HG3.out.next L3)
    clear L3
    go_wp2_with fail
    go_roundg (ms.length - (op1 ++ [x]).length)
    case rel => exact ⟨_, _, as3, cs3, vs3, ao3, co3, rfl, HGK.out.2, HTO2.out, HG4.out⟩
    case measure => exact HGK.out.1
  · have hnot : ¬ (ZA s1 op1 (min s1.length wd) ≥ 0) := hlt
    have HF := Za (And.intro hto (And.intro (Int.not_le.1 hlt) hg2))
    clear hto hg2 hok1 hlt
    obtain ⟨t, ht⟩ : ∃ t, ZA s1 op1 (min s1.length wd) = t := ⟨_, rfl⟩
    rw [ht] at hnot ⊢
    clear ht
    go_wp2_with fail
    exact bodyPost_end (v := .tuple #[]) (by simp [results, Tryz.results244, go_sem]) rfl ⟨rfl, s1, op1, HF.out.1, HF.out.2.1, as2, cs2, vs2, ao2, co2, HF.out.2.2⟩
theorem Zhb (am al aq : Option Addr) (cm cl cq : Nat) (ms : List Mk) (ls : List (List Int)) (fr : Int) (q : List Int) (w : World) (hm : Zw w am ms) (hl : Zaj w al ls) (hq : Zp w aq q) (hsm : ZP ms) (hcs : Za3 ls) (hql : q.length <= 1048576) (hcm : ms.length <= cm) (hcl : ls.length <= cl) :
 Calls Tryz.prog 190 #[.agg #[.slice am ms.length cm, .slice al ls.length cl], .int .i64 fr, .slice aq q.length cq] w fun e w' => e = .returned (.bool (ZaX ms ls fr q)) /\ Below w.heap.size w w' := by
 obtain ⟨W, hW⟩ : ∃ W, w.alloc (.cells #[.slice am ms.length cm, .slice al ls.length cl] 47) = W := ⟨_, rfl⟩
 have hB : Below w.heap.size w W := by rw [<- hW]; exact (Below.refl _ _).alloc (Nat.le_refl _) _
 have hI : Z5 W w.heap.size am cm ms al cl ls := by rw [<- hW]; exact Z5.box hm hl
 have HOK := Za (Zg3 am cm ms al cl ls W hI.mv hI.cv hsm hcs hcm hcl)
 have HB := Za hB
 have HI := Za hI
 have HQ := Za (hq.next hB)
 have HSM := Za hsm
 have k0 := hI.c0
 have k1 := hI.c1
 clear hm hl hq hB hI hsm hcs
 rcases hwb : ZR ms ls with _ | _
 · have HV : Hid (ZaX ms ls fr q = false) := by show _ = _; simp [ZaX, hwb]
   rw [hwb] at HOK
   rw [HV.out]
   clear hwb
   go_enter Tryz.func190, Tryz.ntmps190
   go_wp2_with fail
   refine HOK.out.mono ?_
   rintro e w1 ⟨rfl, L1⟩
   have HL1 := Za (Zd HB.out L1)
   clear L1
   go_wp2_with fail
   go_ret
   exact ⟨rfl, HL1.out⟩
 · rw [hwb] at HOK
   have HWB := Za hwb
   rcases htb : ZJ ms q with _ | _
   · have HV : Hid (ZaX ms ls fr q = false) := by show _ = _; simp [ZaX, htb]
     rw [HV.out]
     have HT := Za htb
     clear hwb htb
     go_enter Tryz.func190, Tryz.ntmps190
     go_wp2_with fail
     refine HOK.out.mono ?_
     rintro e w1 ⟨rfl, L1⟩
     have hI1 := HI.out.below L1
     have HL1 := Za (Zd HB.out L1)
     have HSU := Za (Zgr am aq cm cq ms q w1 hI1.mv (HQ.out.next L1) HSM.out hql)
     rw [HT.out] at HSU
     clear L1 k0 k1 hW
     have k0 := hI1.c0
     have k1 := hI1.c1
     clear hI1
     go_wp2_with fail
     refine HSU.out.mono ?_
     rintro e w2 ⟨rfl, L2⟩
     have HL2 := Za (Zd HL1.out L2)
     clear L2 k0 k1
     go_wp2_with fail
     go_ret
     exact ⟨rfl, HL2.out⟩
   · have HV : Hid (ZaX ms ls fr q = decide (0 <= Zk ms fr)) := by show _ = _; simp [ZaX, htb, hwb]
     rw [HV.out]
     have HT := Za htb
     clear hwb htb
     go_enter Tryz.func190, Tryz.ntmps190
     go_wp2_with fail
     refine HOK.out.mono ?_
     rintro e w1 ⟨rfl, L1⟩
     have hI1 := HI.out.below L1
     have HI1 := Za hI1
     have HL1 := Za (Zd HB.out L1)
     have HSU := Za (Zgr am aq cm cq ms q w1 hI1.mv (HQ.out.next L1) HSM.out hql)
     rw [HT.out] at HSU
     clear L1 k0 k1 hW
     have k0 := hI1.c0
     have k1 := hI1.c1
     clear hI1
     go_wp2_with fail
     refine HSU.out.mono ?_
     rintro e w2 ⟨rfl, L2⟩
     have hI2 := HI1.out.below L2
     have HL2 := Za (Zd HL1.out L2)
     have HPL := Za (Zgm am al cm ls.length cl ms fr w2 hI2.mv (Zz HWB.out))
     clear L2 k0 k1
     have k0 := hI2.c0
     have k1 := hI2.c1
     clear hI2
     obtain ⟨fb, hfb⟩ : ∃ fb, decide (0 <= Zk ms fr) = fb := ⟨_, rfl⟩
     have HFB := Za hfb
     rw [hfb] at HPL
     clear hfb
     generalize plc fr ms = pn at *
     go_wp2_with fail
     refine HPL.out.mono ?_
     rintro e w3 ⟨rfl, L3⟩
     have HL3 := Za (Zd HL2.out L3)
     clear L3 k0 k1
     go_wp2_with fail
     go_ret
     exact ⟨Zb HFB.out.symm, HL3.out⟩
theorem Zlg (w : World) (am al aq : Option Addr) (cm cl cq : Nat) (ms : List Mk) (ls : List (List Int)) (q : List Int) (W : World) (G : Nat) (hL : Below w.heap.size w W) (hF : Fiv W G (.slice am ms.length cm) (.slice al ls.length cl) (.slice aq q.length cq) (.slice none 0 0) (.slice none 0 0) 273) (hG : w.heap.size <= G) : Gz w W G am cm ms al cl ls aq cq q [] [] none 0 [] none 0 :=
 ⟨hF, hG, ⟨rfl, Or.inl ⟨rfl, rfl⟩⟩, rfl, fun k hk => absurd hk (Nat.not_lt_zero _), ⟨rfl, Or.inl ⟨rfl, rfl⟩⟩, (fun e => by cases e), (fun e => by cases e), (fun g e => by cases e), hL⟩
theorem ZfR (am al aq : Option Addr) (cm cl cq : Nat) (ms : List Mk) (ls : List (List Int)) (fr : Int) (q : List Int) (wd : Nat) (w : World) (hI : Ze3 w am ms al ls aq q) (hW : ZfP ms ls q) (hf : 0 <= Zk ms fr) :
 Calls Tryz.prog 191 #[.agg #[.slice am ms.length cm, .slice al ls.length cl], .int .i64 fr, .slice aq q.length cq, .int .i64 wd] w fun e w' => ∃ G, e = .returned (.pointer (some ⟨G, 0, none⟩)) /\ ∃ s2 op2, LkTo ms ls (ddQ ms q) wd [(fr, ddQ ms q fr)] [] s2 op2 /\ ZA s2 op2 (min s2.length wd) < 0 /\ ∃ as2 cs2 vs2 ao2 co2, Gz w w' G am cm ms al cl ls aq cq q s2 op2 as2 cs2 vs2 ao2 co2 := by
 obtain ⟨W1, hW1⟩ : ∃ W, w.alloc (.cells #[.slice am ms.length cm, .slice al ls.length cl] 47) = W := ⟨_, rfl⟩
 have L1 : Below w.heap.size w W1 := by rw [<- hW1]; exact (Below.refl _ _).alloc (Nat.le_refl _) _
 have c0 : W1.cell? ⟨w.heap.size, 0, none⟩ = some (.slice am ms.length cm) := by rw [<- hW1]; simp
 have c1 : W1.cell? ⟨w.heap.size, 1, none⟩ = some (.slice al ls.length cl) := by rw [<- hW1]; simp
 obtain ⟨W2, hW2⟩ : ∃ W, W1.alloc (.cells #[.slice am ms.length cm, .slice al ls.length cl, .slice aq q.length cq, .slice none 0 0, .slice none 0 0] 273) = W := ⟨_, rfl⟩
 have L2 : Below W1.heap.size W1 W2 := by rw [<- hW2]; exact (Below.refl _ _).alloc (Nat.le_refl _) _
 have hF : Fiv W2 W1.heap.size (.slice am ms.length cm) (.slice al ls.length cl) (.slice aq q.length cq) (.slice none 0 0) (.slice none 0 0) 273 := by rw [<- hW2]; exact Fiv.new W1 _ _ _ _ _ _
 have hgz := Zlg w am al aq cm cl cq ms ls q W2 W1.heap.size (Zd L1 L2) hF L1.size
 obtain ⟨hst, hok⟩ := ZcA (ls := ls) (dd := ddQ ms q) hf
 have HSE := Za (iSee w W2 W1.heap.size cm cl cq 0 0 am al aq none none ms ls q [] [] [] fr hgz hI hW (Zbp.nil _) hf (Nat.zero_le _))
 rw [hst] at HSE
 have HI := Za hI
 have HW := Za hW
 have HOK := Za hok
 clear L1 L2 hF hgz hst hok hI hW hf
 go_enter Tryz.func191, Tryz.ntmps191
 go_wp2_with fail
 refine HSE.out.mono ?_
 rintro e w1 ⟨rfl, as2, cs2, vs2, hg1⟩
 have HOF := Za (Zij w w1 W1.heap.size cm cl cq cs2 0 am al aq as2 none ms ls q [] _ vs2 wd hg1 HI.out HW.out HOK.out (by simp))
 clear hg1 HSE hW1 hW2 c0 c1
 go_wp2_with fail
 refine HOF.out.mono ?_
 rintro e w2 ⟨rfl, hrest⟩
 have HR := Za hrest
 clear hrest
 go_wp2_with fail
 go_ret
 exact ⟨W1.heap.size, rfl, HR.out⟩
theorem Zlh (ms : List Mk) (ls : List (List Int)) (q : List Int) (x : Int) : Zac ms ls q x ≠ [] := by
 unfold Zac
 cases rkW ms q x with
 | zero => simp [ZbO]
 | succ n => simp only [ZbO]; split <;> simp
theorem Znt {ms : List Mk} {q : List Int} (h : ZJ ms q = true) : ddQ ms q = ZcB ms q := by
 funext x
 have hq : okB q = true := by
  simp only [ZJ, Bool.and_eq_true] at h
  exact h.1.2
 have h4 := Zbz hq
 unfold ddQ ZcB
 rw [if_neg (by omega), ZjQ]
theorem Zhc {ms : List Mk} {ls : List (List Int)} {fr : Int} {q : List Int} (h : ZaX ms ls fr q = true) : ZfP ms ls q /\ 0 <= Zk ms fr /\ ddQ ms q = ZcB ms q := by
 obtain ⟨h1, h2, h3⟩ := (ZbZ _ _ _ _).1 h
 refine ⟨⟨h1, fun _ i hi => ?_⟩, h3, Znt h2⟩
 have hm := Zz h1
 simp only [ZJ, Bool.and_eq_true, Bool.or_eq_true, decide_eq_true_eq] at h2
 obtain ⟨⟨-, hq⟩, hl⟩ := h2
 have a := (ZZ ms i).1 (Zat hm hi)
 have hlen : q.length = (mat ms i).length := by
  rcases hl with e | e
  · omega
  · omega
 unfold Zbf
 simp [hq, a.2.2.1, hlen]
theorem Zmj : IWalk := by
 intro am cm ms al cl ls fr aq cq q w hm hl hqv hsm hcs hql hcm hcl hcq
 obtain ⟨W, hW⟩ : ∃ W, w.alloc (.cells #[.slice am ms.length cm, .slice al ls.length cl] 47) = W := ⟨_, rfl⟩
 have hB : Below w.heap.size w W := by rw [<- hW]; exact (Below.refl _ _).alloc (Nat.le_refl _) _
 have hI : Z5 W w.heap.size am cm ms al cl ls := by rw [<- hW]; exact Z5.box hm hl
 have HML := Za (Zhb am al aq cm cl cq ms ls fr q W hI.mv hI.cv (hqv.next hB) hsm hcs hql hcm hcl)
 have HB := Za hB
 have HI := Za hI
 have HQ := Za (hqv.next hB)
 have k0 := hI.c0
 have k1 := hI.c1
 clear hm hl hB hI hsm hcs hqv
 rcases ht : ZaX ms ls fr q with _ | _
 · have HV : Hid (ZaH ms ls fr q = []) := by show _ = _; simp [ZaH, ht]
   rw [ht] at HML
   rw [HV.out]
   clear ht
   go_enter Tryz.func195, Tryz.ntmps195
   go_wp2_with fail
   refine HML.out.mono ?_
   rintro e w1 ⟨rfl, L1⟩
   have HL1 := Za (Zd HB.out L1)
   clear L1
   go_wp2_with fail
   go_ret
   exact ⟨none, 0, rfl, Or.inl ⟨rfl, rfl⟩, HL1.out⟩
 · obtain ⟨hw, hf, hdd⟩ := Zhc ht
   have HV : Hid (ZaH ms ls fr q = Zac ms ls q fr) := by show _ = _; simp [ZaH, ht]
   rw [ht] at HML
   have HWF := Za (And.intro hw (And.intro hf hdd))
   clear ht hw hf hdd
   go_enter Tryz.func195, Tryz.ntmps195
   go_wp2_with fail
   refine HML.out.mono ?_
   rintro e w1 ⟨rfl, L1⟩
   have hI1 := HI.out.below L1
   have HL1 := Za (Zd HB.out L1)
   have HLO := Za (ZfR am al aq cm cl cq ms ls fr q 1 w1 ⟨hI1.mv, hI1.cv, HQ.out.next L1⟩ HWF.out.1 HWF.out.2.1)
   clear L1 k0 k1 hW
   have k0 := hI1.c0
   have k1 := hI1.c1
   clear hI1
   go_wp2_with fail
   refine HLO.out.mono ?_
   rintro e w2 ⟨G, rfl, s2, op2, hto, hend, as2, cs2, vs2, ao2, co2, hg⟩
   rw [HWF.out.2.2] at hto
   have HOP : Hid (ZaH ms ls fr q = op2) := by show _ = _; rw [HV.out]; exact ZjR HWF.out.1.web HWF.out.2.1 hto hend
   obtain ⟨-, -, -, -, g4⟩ := hg.five.cells
   have HG := Za hg
   clear hto hend hg k0 k1
   go_wp2_with fail
   go_ret
   have hL := HL1.out
   have hg := HG.out
   rw [HOP.out]
   refine ⟨ao2, co2, rfl, ?_, hL.trans (hg.bel.mono hL.size)⟩
   have hrow := hg.opr
   by_cases h0 : 0 < op2.length
   · obtain ⟨g, e, -, -, -⟩ := ZbH hrow (by rw [Ze5]; exact h0)
     subst e
     refine Or.inr ⟨g, co2, rfl, ?_⟩
     obtain ⟨h1, h2⟩ := hrow
     refine ⟨h1, ?_⟩
     rcases h2 with ⟨e1, e2⟩ | ⟨g', cp, cur, e1, hb, h5⟩
     · omega
     · exact Or.inr ⟨g', cp, cur, e1, Nat.le_trans hL.size hb, h5⟩
   · obtain rfl : op2 = [] := List.length_eq_zero_iff.1 (by omega)
     exact absurd HOP.out (by
      rw [HV.out]
      intro e
      have := Zlh ms ls q fr
      exact this e)
theorem Zik {s : List Ht} {k : Nat} (h : k < s.length) : s.take (k + 1) = s.take k ++ [Zf s k] := by
 rw [List.take_add_one, List.getElem?_eq_getElem h]
 simp [Zf, List.getD, h]
theorem Zmk : IBeam := by
 intro am cm ms al cl ls fr aq cq q wide w hm hl hqv hsm hcs hql hcm hcl hcq
 obtain ⟨W, hW⟩ : ∃ W, w.alloc (.cells #[.slice am ms.length cm, .slice al ls.length cl] 47) = W := ⟨_, rfl⟩
 have hB : Below w.heap.size w W := by rw [<- hW]; exact (Below.refl _ _).alloc (Nat.le_refl _) _
 have hI : Z5 W w.heap.size am cm ms al cl ls := by rw [<- hW]; exact Z5.box hm hl
 have HML := Za (Zhb am al aq cm cl cq ms ls fr q W hI.mv hI.cv (hqv.next hB) hsm hcs hql hcm hcl)
 have HCO := Za (Zgs wide W)
 have HB := Za hB
 have HI := Za hI
 have HQ := Za (hqv.next hB)
 have k0 := hI.c0
 have k1 := hI.c1
 have hsz : W.heap.size = w.heap.size + 1 := by rw [<- hW]; simp
 have HSZ := Za hsz
 clear hm hl hB hI hsm hcs hqv hsz
 rcases hc : ZE wide with _ | _
 · have HV : Hid (Zau ms ls fr q wide = []) := by show _ = _; simp [Zau, hc]
   rw [hc] at HCO
   rw [HV.out]
   clear hc
   go_enter Tryz.func108, Tryz.ntmps108
   go_wp2_with fail
   refine HCO.out.mono ?_
   rintro e w1 ⟨rfl, rfl⟩
   go_wp2_with fail
   go_ret
   exact ⟨none, 0, rfl, Or.inl ⟨rfl, rfl⟩, HB.out⟩
 rcases ht : ZaX ms ls fr q with _ | _
 · have HV : Hid (Zau ms ls fr q wide = []) := by show _ = _; simp [Zau, ht]
   rw [hc] at HCO
   rw [ht] at HML
   rw [HV.out]
   clear hc ht
   go_enter Tryz.func108, Tryz.ntmps108
   go_wp2_with fail
   refine HCO.out.mono ?_
   rintro e w1 ⟨rfl, rfl⟩
   go_wp2_with fail
   refine HML.out.mono ?_
   rintro e w2 ⟨rfl, L2⟩
   have HL2 := Za (Zd HB.out L2)
   clear L2
   go_wp2_with fail
   go_ret
   exact ⟨none, 0, rfl, Or.inl ⟨rfl, rfl⟩, HL2.out⟩
 · obtain ⟨hw, hf, hdd⟩ := Zhc ht
   have HV : Hid (Zau ms ls fr q wide = ZaS ms ls q wide.toNat [Zl ms q fr] [fr] []) := by show _ = _; simp [Zau, ht, hc]
   rw [hc] at HCO
   rw [ht] at HML
   have HWF := Za (And.intro hw (And.intro hf hdd))
   have hwd : 1 <= wide /\ wide <= 60 := by simpa [ZE] using hc
   obtain ⟨wd, rfl⟩ : ∃ wd : Nat, wide = (wd : Int) := ⟨wide.toNat, by omega⟩
   rw [Int.toNat_natCast] at HV
   have hwd1 : 1 <= wd /\ wd <= 60 := by omega
   have HM60 := Za (ZT (Zz hw.web))
   obtain ⟨j0, hj0, hy0, hy1, hy2⟩ := info_parts Tryz.info66
   clear ht hw hf hdd hc hwd
   go_enter Tryz.func108, Tryz.ntmps108
   go_wp2_with fail
   refine HCO.out.mono ?_
   rintro e w1 ⟨rfl, rfl⟩
   go_wp2_with fail
   refine HML.out.mono ?_
   rintro e w1 ⟨rfl, L1⟩
   have hI1 := HI.out.below L1
   have HL1 := Za (Zd HB.out L1)
   obtain ⟨V, hV⟩ : ∃ V, w1.alloc (.cells #[] 66) = V := ⟨_, rfl⟩
   have LV : Below w1.heap.size w1 V := by rw [<- hV]; exact (Below.refl _ _).alloc (Nat.le_refl _) _
   have hI2 := hI1.below LV
   have HROW : Hid (Zy w.heap.size V w1.heap.size 0 []) := by show Zy _ _ _ _ _; rw [<- hV]; exact Zy.start w1 w.heap.size HL1.out.size
   have hVs : V.heap.size = w1.heap.size + 1 := by rw [<- hV]; simp
   have HLV := Za (Zd HL1.out LV)
   have HLO := Za (ZfR am al aq cm cl cq ms ls fr q wd V ⟨hI2.mv, hI2.cv, (HQ.out.next L1).next LV⟩ HWF.out.1 HWF.out.2.1)
   clear L1 LV k0 k1 hW
   have k0 := hI2.c0
   have k1 := hI2.c1
   clear hI1 hI2
   go_wp2_with fail
   refine HLO.out.mono ?_
   rintro e w2 ⟨G, rfl, s2, op2, hto, hend, as2, cs2, vs2, ao2, co2, hg⟩
   have hok := hto.ok HWF.out.1.web (ZcA (ls := ls) (dd := ddQ ms q) HWF.out.2.1).2
   rw [HWF.out.2.2] at hto
   have HOP : Hid (Zau ms ls fr q (wd : Int) = s2.take wd) := by show _ = _; rw [HV.out]; exact ZjS HWF.out.1.web HWF.out.2.1 hto hend
   have hs0 : 0 < s2.length := by
    have hne : ∀ s1 op1, LkTo ms ls (ZcB ms q) wd [(fr, ZcB ms q fr)] [] s1 op1 -> 0 < s1.length := by
     intro s1 op1 h
     induction h with
     | refl => simp
     | @step s op h1 h2 ih =>
       have hk := h1.ok HWF.out.1.web (ZcA (ls := ls) (dd := ZcB ms q) HWF.out.2.1).2
       obtain ⟨-, hmem⟩ := ZcV hk.look (cn ls (Zn ms (ZbI s op wd)))
       obtain ⟨k, hk, -⟩ := Zdf ((hmem (ZbI s op wd)).2 (Or.inr (ZdT h2).2.1))
       omega
    exact hne s2 op2 hto
   have hs60 : s2.length <= 60 := by have := hok.short; have := HM60.out; omega
   have HFI := Za (Zjc V w2 G cm cl cq cs2 co2 am al aq as2 ao2 ms ls q op2 s2 vs2 wd hg hs0)
   have HG := Za hg
   have HLD := Za hok.look
   have HR2 := Za (HROW.out.below (Nat.le_refl _) hg.bel)
   clear hto hend hg k0 k1 hok hV
   go_wp2_with fail
   refine HFI.out.mono ?_
   rintro e w3 ⟨rfl, L3⟩
   have hg3 := HG.out.next L3
   obtain ⟨sb, rfl, hsb, hsl, hsc⟩ := ZbH hg3.sr (by rw [hg3.vl]; omega)
   have HCE : Hid (∀ k, k < s2.length -> w3.cell? ⟨sb, k, none⟩ = some (vs2.getD k .nilIface)) := fun k hk => hsc k (by rw [hg3.vl]; exact hk)
   have HSE : Hid (∀ k, k < s2.length -> ∃ a c, IsS (vs2.getD k .nilIface) (Zf s2 k) a (cn ls (Zn ms (Zf s2 k).1)).length c) := fun k hk => by
    obtain ⟨a, c, h1, -⟩ := hg3.sees k hk
    have hfar := HLD.out.far _ (ZbY hk)
    have hpair : ((Zf s2 k).1, ddQ ms q (Zf s2 k).1) = Zf s2 k := by rw [<- hfar]
    rw [hpair] at h1
    exact ⟨a, c, h1⟩
   have HR3 := Za (HR2.out.below (Nat.le_refl _) L3)
   have HL3 : Hid (Below w.heap.size w w3) := by
    have h1 := HLV.out
    exact h1.trans ((hg3.bel).mono h1.size)
   have hT : w1.heap.size < V.heap.size := by omega
   have hTs : w1.heap.size ≠ sb := by omega
   have hw1s := HL1.out.size
   obtain ⟨m, hm⟩ : ∃ m, min s2.length wd = m := ⟨_, rfl⟩
   have hm1 : m <= s2.length := by omega
   have HTM : Hid (s2.take wd = s2.take m) := by
    show _ = _
    rw [<- hm]
    rcases Nat.le_total s2.length wd with h | h
    · rw [Nat.min_eq_left h, List.take_of_length_le h, List.take_length]
    · rw [Nat.min_eq_right h]
   rw [hm]
   clear L3 hg3 hsc hm HG HFI HLO HML HCO HR2 HROW
   generalize w1.heap.size = T at *
   go_wp2_with fail
   go_loopw [31, 9] (fun i tv wr => ∃ (k g c : Nat), k <= m /\ i = .int .i64 k /\ tv = .slice (some ⟨g, 0, none⟩) k c /\ Zy w.heap.size wr g c (s2.take k) /\ g ≠ sb /\ sb < wr.heap.size /\ wr.heap[sb]? = w3.heap[sb]? /\ Below w.heap.size w wr) (fun i _ _ => m - (intOf i).toNat)
   case atStart => exact ⟨0, T, 0, Nat.zero_le _, rfl, rfl, HR3.out, hTs, hsl, rfl, HL3.out⟩
   case round =>
    obtain ⟨k, g, c, hk, rfl, rfl, hrow, hgs, hsr, hbk, L⟩ := hrel
    by_cases hlt : k < m
    · have c0 : wr.cell? ⟨sb, k, none⟩ = some (vs2.getD k .nilIface) := by
       simp only [World.cell?, hbk]
       exact HCE.out k (by omega)
      obtain ⟨ta, tc, hIt⟩ := HSE.out k (by omega)
      have HHO := Za (Zih _ (Zf s2 k) ta _ tc wr hIt)
      have HRW := Za hrow
      have HLK := Za L
      have HBK := Za hbk
      have HTK := Za (Zik (s := s2) (k := k) (by omega))
      have hk0 : (0 : Int) <= (k : Int) := Int.natCast_nonneg _
      have hk1 : (k : Int) < (m : Int) := by omega
      have hkl : (s2.take k).length = k := by simp; omega
      have HKL := Za hkl
      clear hrow L hbk hIt hkl
      generalize vs2.getD k .nilIface = sv at *
      generalize Zf s2 k = h at *
      go_wp2_with fail
      refine HHO.out.mono ?_
      rintro e w4 ⟨rfl, L4⟩
      have HR4 := Za (HRW.out.below (Nat.le_refl _) L4)
      have HL4 := Za (Zd HLK.out L4)
      have HB4 : Hid (w4.heap[sb]? = w3.heap[sb]?) := (L4.block sb hsr).trans HBK.out
      have hs4 := L4.size
      obtain ⟨V4, hV4⟩ : ∃ V, w4.alloc (.cells #[.int .i64 h.1, .int .i64 h.2] 66) = V := ⟨_, rfl⟩
      have LV4 : Below w4.heap.size w4 V4 := by rw [<- hV4]; exact (Below.refl _ _).alloc (Nat.le_refl _) _
      have hN4 : V4.heap[w4.heap.size]? = some (.cells #[.int .i64 h.1, .int .i64 h.2] 66 (0, 0)) := by rw [<- hV4]; exact heap_alloc_new w4 _
      have hz4 : V4.heap.size = w4.heap.size + 1 := by rw [<- hV4]; simp
      have HR5 : Hid (V4.ownsRow w.heap.size 66 2 (.slice (some ⟨g, 0, none⟩) k c) k (Zi (s2.take k))) := by
       have h5 : Zy w.heap.size V4 g c (s2.take k) := HR4.out.below (Nat.le_refl _) LV4
       unfold Zy at h5
       rw [HKL.out] at h5
       exact h5
      have HBV : Hid (V4.heap[sb]? = w3.heap[sb]?) := (LV4.block sb (by omega)).trans HB4.out
      have HLV4 := Za (Zd HL4.out LV4)
      have hgr := HR4.out.lt
      have hwB : w.heap.size <= V4.heap.size := by have := HLV4.out.size; omega
      clear L4 LV4 c0
      go_wp2_with (at_builtin; refine wpList_append_lies _ rfl (.tmp 35) (.tmp 38) 36 rfl w.heap.size 66 j0 _ 2 16 Tryz.underlying36 hj0 hy0 hy1 hy2 rfl (by omega) (.slice (some ⟨g, 0, none⟩) k c) k (Zi (s2.take k)) rfl HR5.out ⟨w4.heap.size, 0, none⟩ 1 1 [.int .i64 h.1, .int .i64 h.2] rfl rfl (World.news_of_block (cs := #[.int .i64 h.1, .int .i64 h.2]) (t := 66) (fr := (0, 0)) hN4) (by simp [Value.oneCell']) (by omega) (by unfold maxLen; omega) (by omega) hwB V4.heap.size rfl ?_; intro gg cc w5 hown hgrow hat hlt5)
      have HNEW : Hid (Zy w.heap.size w5 gg cc (s2.take (k + 1)) /\ gg ≠ sb /\ sb < w5.heap.size /\ w5.heap[sb]? = w3.heap[sb]? /\ Below w.heap.size w w5) := by
       have hb5 : w5.heap[sb]? = V4.heap[sb]? := hgrow.block sb (by omega) (fun e => by
        have e' : some sb = some g := e
        injection e' with e'
        exact hgs e'.symm)
       refine ⟨?_, ?_, by have := hgrow.size; omega, hb5.trans HBV.out, ?_⟩
       · refine Zy.of hown ?_ ?_
         · rw [HTK.out]; simp [HKL.out]
         · rw [HTK.out, Z7]; rfl
       · rcases hat with e | e
         · have e' : some g = some gg := e
           injection e' with e'
           rw [<- e']; exact hgs
         · omega
       · exact HLV4.out.grown hgrow hwB (fun x hx => by
          have e' : some g = some x := hx
          injection e' with e'
          rw [<- e']; exact hgr.1)
      clear hown hgrow hat
      go_roundw
      case rel => exact ⟨k + 1, gg, cc, by omega, by go_num, rfl, HNEW.out⟩
      case measure => simp [intOf]; omega
    · obtain rfl : k = m := by omega
      have HF := Za (And.intro hrow L)
      have hkl : (s2.take k).length = k := by simp; omega
      have HKL := Za hkl
      clear hrow L hbk hkl
      go_wp2_with fail
      go_ret
      rw [HOP.out, HTM.out]
      refine ⟨some ⟨g, 0, none⟩, c, by rw [HKL.out]; rfl, Or.inr ⟨g, c, by rw [HKL.out], HF.out.1⟩, HF.out.2⟩
end Go.Proofs.YtaaagmgglolibaaGreat
