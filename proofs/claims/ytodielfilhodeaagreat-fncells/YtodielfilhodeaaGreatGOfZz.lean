/-
  The program's cellsOf: the marks of a grid under the cell of each, in a map that the call makes.
-/
import Derived.Test.YtodielfilhodeaaGreatGKeyZz
import Derived.Test.YtodielfilhodeaaGreatSCellsZz
import Derived.Test.YtodielfilhodeaaGreatBSpecZz
namespace Go.Proofs.YtodielfilhodeaaGreat
open Go Go.RowKit

/-- A group in memory: its key, where its row lies, the row's room, its marks. -/
abbrev Gp := List Int × Nat × Nat × List Sm
def gpV (x : Gp) : Value × Value := (keyV x.1, .slice (some ⟨x.2.1, 0, none⟩) x.2.2.2.length x.2.2.1)
def gpG (x : Gp) : Grp Sm := (x.1, x.2.2.2)
def cellS (s : Int) (d : Sm) : List Int := cellV d.2.2.2 s
structure GMem (base : Nat) (w : World) (B : Nat) (gs : List Gp) : Prop where
  map : MapIs w B (gs.map gpV)
  rows : ∀ x ∈ gs, SRow base w x.2.1 x.2.2.1 x.2.2.2
  apart : (gs.map (·.2.1)).Nodup
theorem MapIs.kept {w w' : World} {B : Nat} {gs : List (Value × Value)} {r : Option Nat} (h : MapIs w B gs) (hg : w.grownBy w' r) (hr : some B ≠ r) : MapIs w' B gs := (hg.block B h.lt hr).trans h
theorem GMem.kept {base B : Nat} {w w' : World} {gs : List Gp} {r : Option Nat} (h : GMem base w B gs) (hg : w.grownBy w' r) (hB : some B ≠ r) (hr : ∀ x ∈ gs, some x.2.1 ≠ r) : GMem base w' B gs :=
  ⟨h.map.kept hg hB, fun x hx => (h.rows x hx).kept hg (hr x hx), h.apart⟩
theorem GMem.below {base B : Nat} {w w' : World} {gs : List Gp} (h : GMem base w B gs) (hb : Below w.heap.size w w') : GMem base w' B gs :=
  h.kept (r := none) ⟨hb.os, hb.tape, hb.output, hb.size, fun i hi _ => hb.block i hi⟩ (by simp) (by simp)
theorem gpV_fst (gs : List Gp) : (gs.map gpV).map (·.1) = gs.map (fun x => keyV x.1) := by simp [gpV, Function.comp_def]
/-- One more into a group that there is. -/
theorem GMem.old {base B j : Nat} {w w8 : World} {gs : List Gp} (h : GMem base w B gs) (hB : B < base) (hj : j < gs.length) {gg cc : Nat} {d : Sm}
    (hown : SRow base w8 gg cc (gs[j].2.2.2 ++ [d])) (hgrow : w.grownBy w8 (some gs[j].2.1)) (hat : gs[j].2.1 = gg ∨ gg = w.heap.size) :
    GMem base (setMap w8 B ((gs.map gpV).set j ((gpV gs[j]).1, .slice (some ⟨gg, 0, none⟩) (gs[j].2.2.2.length + 1) cc))) B (gs.set j (gs[j].1, gg, cc, gs[j].2.2.2 ++ [d])) := by
  have hlt : ∀ x ∈ gs, base ≤ x.2.1 ∧ x.2.1 < w.heap.size := fun x hx => (h.rows x hx).lt
  have hmj := hlt _ (List.getElem_mem hj)
  have m8 := h.map.kept hgrow (by simp; omega)
  have hg9 := setMap_grown w8 B ((gs.map gpV).set j ((gpV gs[j]).1, .slice (some ⟨gg, 0, none⟩) (gs[j].2.2.2.length + 1) cc))
  have hbg : base ≤ gg := by
    rcases hat with e | e
    · omega
    · have := hown.lt; omega
  have hother : ∀ i (hi : i < gs.length), i ≠ j → gs[i].2.1 ≠ gs[j].2.1 := fun i hi hne e => by
    have a1 : i < (gs.map (·.2.1)).length := by simpa using hi
    have a2 : j < (gs.map (·.2.1)).length := by simpa using hj
    exact hne ((List.getElem_inj h.apart).1 (by simpa using e : (gs.map (·.2.1))[i] = (gs.map (·.2.1))[j]))
  refine ⟨?_, fun x hx => ?_, ?_⟩
  · have e : (gs.set j (gs[j].1, gg, cc, gs[j].2.2.2 ++ [d])).map gpV = (gs.map gpV).set j ((gpV gs[j]).1, .slice (some ⟨gg, 0, none⟩) (gs[j].2.2.2.length + 1) cc) := by
      rw [List.map_set]
      simp [gpV]
    rw [e]
    exact m8.set _
  · obtain ⟨i, hi, rfl⟩ := List.getElem_of_mem hx
    simp only [List.length_set] at hi
    rw [List.getElem_set]
    split
    · exact hown.kept hg9 (by simp; omega)
    · rename_i hne
      have hx := h.rows gs[i] (List.getElem_mem hi)
      have := hlt _ (List.getElem_mem hi)
      exact (hx.kept hgrow (by simp; exact hother i hi (fun e => hne e.symm))).kept hg9 (by simp; omega)
  · rw [List.map_set]
    refine List.pairwise_iff_getElem.2 fun a b ha hb hab => ?_
    simp only [List.length_set, List.length_map] at ha hb
    rw [List.getElem_set, List.getElem_set]
    have hgg : ∀ i (hi : i < gs.length), i ≠ j → gs[i].2.1 ≠ gg := fun i hi hne e => by
      rcases hat with h1 | h1
      · exact hother i hi hne (by rw [e, h1])
      · have := hlt _ (List.getElem_mem hi); omega
    split
    · rename_i e
      subst e
      rw [if_neg (by omega)]
      simp only [List.getElem_map]
      exact fun e => hgg b hb (by omega) e.symm
    · split
      · rename_i h1 e
        subst e
        simp only [List.getElem_map]
        exact hgg a ha (fun e => h1 e.symm)
      · simp only [List.getElem_map]
        intro e
        have a1 : a < (gs.map (·.2.1)).length := by simpa using ha
        have a2 : b < (gs.map (·.2.1)).length := by simpa using hb
        have := (List.getElem_inj h.apart).1 (by simpa using e : (gs.map (·.2.1))[a] = (gs.map (·.2.1))[b])
        omega
/-- The first of a group. -/
theorem GMem.new {base B : Nat} {w w8 : World} {gs : List Gp} {key : List Int} (h : GMem base w B gs) (hB : B < base) {gg cc : Nat} {d : Sm}
    (hown : SRow base w8 gg cc [d]) (hgrow : (setMap w B (gs.map gpV ++ [(keyV key, Value.slice none 0 0)])).grownBy w8 none) (hat : gg = w.heap.size) :
    GMem base (setMap w8 B (gs.map gpV ++ [(keyV key, .slice (some ⟨gg, 0, none⟩) 1 cc)])) B (gs ++ [(key, gg, cc, [d])]) := by
  have hlt : ∀ x ∈ gs, base ≤ x.2.1 ∧ x.2.1 < w.heap.size := fun x hx => (h.rows x hx).lt
  have hg7 := setMap_grown w B (gs.map gpV ++ [(keyV key, Value.slice none 0 0)])
  have m8 := (h.map.set (gs.map gpV ++ [(keyV key, Value.slice none 0 0)])).kept hgrow (by simp)
  have hg9 := setMap_grown w8 B (gs.map gpV ++ [(keyV key, .slice (some ⟨gg, 0, none⟩) 1 cc)])
  have hbg := hown.lt.1
  refine ⟨?_, fun x hx => ?_, ?_⟩
  · have e : (gs ++ [(key, gg, cc, [d])]).map gpV = gs.map gpV ++ [(keyV key, .slice (some ⟨gg, 0, none⟩) 1 cc)] := by simp [gpV]
    rw [e]
    exact m8.set _
  · rcases List.mem_append.1 hx with hx | hx
    · have := hlt x hx
      exact (((h.rows x hx).kept hg7 (by simp; omega)).kept hgrow (by simp)).kept hg9 (by simp; omega)
    · rw [List.mem_singleton.1 hx]
      exact hown.kept hg9 (by simp; omega)
  · rw [List.map_append, List.nodup_append]
    refine ⟨h.apart, by simp, fun a ha b hb => ?_⟩
    obtain ⟨x, hx, rfl⟩ := List.mem_map.1 ha
    have := hlt x hx
    simp at hb
    omega

theorem nth_cellV (p : List Int) (s : Int) (i : Nat) : nth (cellV p s) i = if i < p.length then nth p i / s else 0 := by
  split
  · rename_i h
    exact tabL_getD _ _ _ h
  · rename_i h
    simp [nth, cellV, tabL, List.getD, h]
theorem cellV_i64 {p : List Int} {s : Int} (hok : okB p = true) (hs : 1 ≤ s) : I64s (cellV p s) := fun i => by
  rw [nth_cellV]
  split
  · have := floor_bd (n := nth p i) (s := s) (by omega) (okB_at hok i).1 (okB_at hok i).2
    exact WalkArith.wf_i64 (by omega)
  · decide
/-- What the keys of the groups of right marks are. -/
structure GKeys (s : Int) (dim : Nat) (gs : List Gp) (es : List Sm) : Prop where
  grp : gs.map gpG = grpG (cellS s) es
  ok : ∀ d ∈ es, okB d.2.2.2 = true ∧ d.2.2.2.length = dim
  side : 1 ≤ s
theorem GKeys.fst {s : Int} {dim : Nat} {gs : List Gp} {es : List Sm} (h : GKeys s dim gs es) : gs.map (·.1) = keysG (cellS s) es := by
  rw [← grpG_keys, ← h.grp]; simp [gpG, Function.comp_def]
theorem GKeys.key {s : Int} {dim : Nat} {gs : List Gp} {es : List Sm} (h : GKeys s dim gs es) : ∀ x ∈ gs, I64s x.1 ∧ x.1.length = dim := fun x hx => by
  have : x.1 ∈ keysG (cellS s) es := by rw [← h.fst]; exact List.mem_map_of_mem hx
  obtain ⟨d, hd, e⟩ := (keysG_mem _ _ _).1 this
  rw [← e]
  exact ⟨cellV_i64 (h.ok d hd).1 h.side, by show (cellV d.2.2.2 s).length = dim; rw [cellV_length, (h.ok d hd).2]⟩
theorem GKeys.keysOk {s : Int} {dim : Nat} {gs : List Gp} {es : List Sm} (h : GKeys s dim gs es) : KeysOk (gs.map gpV) := fun g hg => by
  obtain ⟨x, hx, rfl⟩ := List.mem_map.1 hg
  exact keyOf_keyV x.1 (h.key x hx).1
theorem GKeys.nodup {s : Int} {dim : Nat} {gs : List Gp} {es : List Sm} (h : GKeys s dim gs es) (h4 : dim ≤ 4) : ((gs.map gpV).map (·.1)).Nodup := by
  rw [gpV_fst]
  have hn : (gs.map (·.1)).Nodup := by rw [h.fst]; exact keysG_nodup _ _
  refine List.pairwise_iff_getElem.2 fun a b ha hb hab e => ?_
  simp only [List.length_map] at ha hb
  simp only [List.getElem_map] at e
  have k1 := h.key _ (List.getElem_mem ha)
  have k2 := h.key _ (List.getElem_mem hb)
  have e2 := keyV_inj (by omega) (by omega) e
  have a1 : a < (gs.map (·.1)).length := by simpa using ha
  have a2 : b < (gs.map (·.1)).length := by simpa using hb
  have := (List.getElem_inj hn).1 (by simpa using e2 : (gs.map (·.1))[a] = (gs.map (·.1))[b])
  omega
theorem GKeys.not {s : Int} {dim : Nat} {gs : List Gp} {es : List Sm} (h : GKeys s dim gs es) (h4 : dim ≤ 4) {key : List Int} (hl : key.length = dim) (ha : atG key (gs.map gpG) = gs.length) : ∀ g ∈ gs.map gpV, g.1 ≠ keyV key := fun g hg e => by
  obtain ⟨x, hx, rfl⟩ := List.mem_map.1 hg
  have k1 := h.key x hx
  have e2 := keyV_inj (by omega) (by omega) e
  exact atG_not key (gs.map gpG) (by simpa using ha) (gpG x) (List.mem_map_of_mem hx) e2
theorem GKeys.group {s : Int} {dim : Nat} {gs : List Gp} {es : List Sm} (h : GKeys s dim gs es) : ∀ x ∈ gs, x.2.2.2 = es.filter (fun y => decide (cellS s y = x.1)) := fun x hx => by
  obtain ⟨i, hi, rfl⟩ := List.getElem_of_mem hx
  have hn : ((gs.map gpG).map (·.1)).Nodup := by
    have e : (gs.map gpG).map (·.1) = gs.map (·.1) := by simp [gpG, Function.comp_def]
    rw [e, h.fst]; exact keysG_nodup _ _
  have hi2 : i < (gs.map gpG).length := by simpa using hi
  have h1 := lookG_at hn i hi2
  have e : (gs.map gpG)[i] = gpG gs[i] := by simp
  rw [e] at h1
  have h2 := lookG_grp (cellS s) gs[i].1 es
  rw [← h.grp] at h2
  exact h1.symm.trans h2
theorem GKeys.old {s : Int} {dim : Nat} {gs : List Gp} {es : List Sm} (h : GKeys s dim gs es) {d : Sm} (hd : okB d.2.2.2 = true ∧ d.2.2.2.length = dim) {j : Nat} (ha : atG (cellS s d) (gs.map gpG) = j) (hj : j < gs.length) (gg cc : Nat) :
    GKeys s dim (gs.set j (gs[j].1, gg, cc, gs[j].2.2.2 ++ [d])) (es ++ [d]) ∧ gs[j].1 = cellS s d := by
  subst ha
  have hk : gs[atG (cellS s d) (gs.map gpG)].1 = cellS s d := by
    have := atG_key (cellS s d) (gs.map gpG) (by simpa using hj)
    simpa [gpG] using this
  refine ⟨⟨?_, fun x hx => ?_, h.side⟩, hk⟩
  · rw [grpG_snoc, ← h.grp, addG_old _ _ _ (by simpa using hj), List.map_set]
    simp [gpG, hk]
  · rcases List.mem_append.1 hx with hx | hx
    · exact h.ok x hx
    · rw [List.mem_singleton.1 hx]; exact hd
theorem GKeys.new {s : Int} {dim : Nat} {gs : List Gp} {es : List Sm} (h : GKeys s dim gs es) {d : Sm} (hd : okB d.2.2.2 = true ∧ d.2.2.2.length = dim) (ha : atG (cellS s d) (gs.map gpG) = gs.length) (gg cc : Nat) :
    GKeys s dim (gs ++ [(cellS s d, gg, cc, [d])]) (es ++ [d]) := by
  refine ⟨?_, fun x hx => ?_, h.side⟩
  · rw [grpG_snoc, ← h.grp, addG_new _ _ _ (by simpa using ha), List.map_append]
    simp [gpG]
  · rcases List.mem_append.1 hx with hx | hx
    · exact h.ok x hx
    · rw [List.mem_singleton.1 hx]; exact hd

theorem ownsRow_none (w : World) (base e size : Nat) : w.ownsRow base e size (.slice none 0 0) 0 (smCells []) := ⟨by simp [smCells], Or.inl ⟨rfl, rfl⟩⟩

set_option maxRecDepth 100000 in
set_option maxHeartbeats 4000000 in
theorem iCellsOf (ao : Option Addr) (cap : Nat) (s : Int) (ds : List Sm) (dim : Nat) (w : World) (hv : SView w ao ds) (hl : SLies w ds) (hs1 : 1 ≤ s) (hs2 : s ≤ 1000) (hn : ds.length ≤ 60) (h4 : dim ≤ 4) (hok : ∀ d ∈ ds, okB d.2.2.2 = true ∧ d.2.2.2.length = dim) :
    Calls Tryz.prog 79 #[.agg #[.int .i64 s, .slice ao ds.length cap]] w fun e w' => ∃ gs, e = .returned (.map (some (w.heap.size + 1))) ∧ GMem (w.heap.size + 2) w' (w.heap.size + 1) gs ∧ GKeys s dim gs ds ∧ Below w.heap.size w w' := by
  have hmm := @run_makeMap Tryz.prog
  have HV := hidP hv
  have HSL := hidP hl
  have HOK := hidP hok
  obtain ⟨W1, hW1⟩ : ∃ W1, W1 = w.alloc (.cells #[.int .i64 s, .slice ao ds.length cap] 46) := ⟨_, rfl⟩
  have hz1 : W1.heap.size = w.heap.size + 1 := by rw [hW1]; simp
  have T1 : Two W1 w.heap.size (.int .i64 s) (.slice ao ds.length cap) 46 := by rw [hW1]; exact Two.new w _ _ _
  have L1 : Below w.heap.size w W1 := by rw [hW1]; exact alloc_below w _
  obtain ⟨W2, hW2⟩ : ∃ W2, W2 = W1.alloc (.map #[] 0) := ⟨_, rfl⟩
  have T2 : Two W2 w.heap.size (.int .i64 s) (.slice ao ds.length cap) 46 := by rw [hW2]; exact T1.below (alloc_below _ _)
  have L2 : Below w.heap.size w W2 := by rw [hW2]; exact L1.alloc L1.size _
  have hz2 : W2.heap.size = w.heap.size + 2 := by rw [hW2]; simp [hz1]
  have G2 : GMem (w.heap.size + 2) W2 (w.heap.size + 1) [] := ⟨by rw [hW2, ← hz1]; exact heap_alloc_new W1 _, by simp, by simp⟩
  have c0 := T2.c0
  have c1 := T2.c1
  have HS := hidP (And.intro G2 (And.intro T2 (And.intro L2 (Nat.le_of_eq hz2.symm))))
  have hk0 : GKeys s dim [] [] := ⟨rfl, by simp, hs1⟩
  have HK0 := hidP hk0
  obtain ⟨j0, hj0, hy0, hy1, hy2⟩ := info_parts Tryz.info40
  clear hv hl hok T1 L1 T2 L2 G2 hk0
  subst hW1
  subst hW2
  go_enter Tryz.func79, Tryz.ntmps79
  go_wp2_with fail
  clear hmm c0 c1
  go_loopw [11] (fun i wr => ∃ (k : Nat) (gs : List Gp), k ≤ ds.length ∧ i = .int .i64 k ∧ GKeys s dim gs (ds.take k) ∧ (GMem (w.heap.size + 2) wr (w.heap.size + 1) gs ∧ Two wr w.heap.size (.int .i64 s) (.slice ao ds.length cap) 46 ∧ Below w.heap.size w wr ∧ w.heap.size + 2 ≤ wr.heap.size)) (fun i _ => ds.length - (intOf i).toNat)
  case atStart => exact ⟨0, [], Nat.zero_le _, rfl, HK0.out, HS.out⟩
  case round =>
    obtain ⟨k, gs, hk, rfl, hgk, hst⟩ := hrel
    have HGK := hidP hgk
    have HST := hidP hst
    clear hgk hst HS HK0
    by_cases hlt : k < ds.length
    · obtain ⟨b, off, rfl, hb, hseg⟩ := HV.out.seg (by omega)
      obtain ⟨d0, d1⟩ := hseg k hlt
      have hdm : snth ds k ∈ ds := snth_mem hlt
      have hdok := HOK.out _ hdm
      have hdv := HSL.out _ hdm
      obtain ⟨GM, TT, LL, hsz⟩ := HST.out
      have c0 := (LL.cell (p := ⟨b, off + k * 2, none⟩) hb).trans d0
      have c1 := (LL.cell (p := ⟨b, off + k * 2 + 1, none⟩) hb).trans d1
      have t0 := TT.c0
      have htk : ds.take (k + 1) = ds.take k ++ [snth ds k] := by
        rw [List.take_add_one, List.getElem?_eq_getElem hlt]
        simp [snth, List.getD, hlt]
      have HTK := hidP htk
      generalize hd : snth ds k = d at *
      -- the mark's own block
      obtain ⟨W3, hW3⟩ : ∃ W3, W3 = wr.alloc (.cells #[.int .i64 d.1, .slice d.2.1 d.2.2.2.length d.2.2.1] 40) := ⟨_, rfl⟩
      have hz3 : W3.heap.size = wr.heap.size + 1 := by rw [hW3]; simp
      have A3 : Below wr.heap.size wr W3 := by rw [hW3]; exact alloc_below wr _
      have M3 : Two W3 wr.heap.size (.int .i64 d.1) (.slice d.2.1 d.2.2.2.length d.2.2.1) 40 := by rw [hW3]; exact Two.new wr _ _ _
      have T3 := TT.below A3
      have HC := hidP (iCellOf d.2.1 d.2.2.1 d.2.2.2 s W3 ((hdv.next LL).next A3) hdok.1 hs1 hs2)
      have m0 := M3.c0
      have m1 := M3.c1
      have t3 := T3.c0
      have HP3 := hidP (And.intro (GM.below A3) (And.intro M3 (And.intro T3 (And.intro (chain LL A3) hz3))))
      have hne : ¬ w.heap.size = wr.heap.size := by omega
      have hi0 : (0 : Int) ≤ (k : Int) := Int.natCast_nonneg _
      have hi1 : (k : Int) < (ds.length : Int) := by omega
      have HDK := hidP hdok
      clear GM TT LL A3 M3 T3 hseg hdv d0 d1 htk hdm hdok
      subst hW3
      go_wp2_with fail
      refine HC.out.mono ?_
      rintro e w4 ⟨g4, rfl, hg4, o4, L4⟩
      have HKO := hidP (iKeyOf (some ⟨g4, 0, none⟩) d.2.2.2.length (cellV d.2.2.2 s) w4 o4.view)
      rw [cellV_length] at HKO
      have HL4 := hidP L4
      clear o4 L4 HC hg4 c0 c1 t0 m0 m1 t3
      go_wp2_with fail
      refine HKO.out.mono ?_
      rintro e w5 ⟨rfl, L5⟩
      have L35 := chain HL4.out L5
      obtain ⟨GM3, M3, T3, LL3, hz3'⟩ := HP3.out
      have hz5 : wr.heap.size + 1 ≤ w5.heap.size := by have := L35.size; omega
      have GM5 := GM3.below L35
      have M5 := M3.below L35
      have T5 := T3.below L35
      have LL5 := chain LL3 L35
      have hkl : (cellS s d).length = dim := by show (cellV d.2.2.2 s).length = dim; rw [cellV_length]; exact HDK.out.2
      have hki : I64s (cellS s d) := cellV_i64 HDK.out.1 hs1
      have hkey := keyOf_keyV (cellS s d) hki
      have HDK2 := hidP hkl
      obtain ⟨W5, hW5⟩ : ∃ W5, W5 = w5.alloc (.cells #[.int .i64 (nth (cellV d.2.2.2 s) 0), .int .i64 (nth (cellV d.2.2.2 s) 1), .int .i64 (nth (cellV d.2.2.2 s) 2), .int .i64 (nth (cellV d.2.2.2 s) 3)] 106) := ⟨_, rfl⟩
      have hzW5 : W5.heap.size = w5.heap.size + 1 := by rw [hW5]; simp
      have A5 : Below w5.heap.size w5 W5 := by rw [hW5]; exact alloc_below w5 _
      have K5 : Four W5 w5.heap.size (.int .i64 (nth (cellV d.2.2.2 s) 0)) (.int .i64 (nth (cellV d.2.2.2 s) 1)) (.int .i64 (nth (cellV d.2.2.2 s) 2)) (.int .i64 (nth (cellV d.2.2.2 s) 3)) 106 := by rw [hW5]; exact Four.new w5 _ _ _ _ _
      have MW5 := M5.below A5
      obtain ⟨W6, hW6⟩ : ∃ W6, W6 = W5.alloc (.cells #[.int .i64 d.1, .slice d.2.1 d.2.2.2.length d.2.2.1] 40) := ⟨_, rfl⟩
      have hzW6 : W6.heap.size = w5.heap.size + 2 := by rw [hW6]; simp [hzW5]
      have A6 : Below w5.heap.size w5 W6 := by rw [hW6]; exact A5.alloc A5.size _
      have GM6 := GM5.below A6
      have LL6 := chain LL5 A6
      have T6 := T5.below A6
      obtain ⟨k0, k1, k2, k3⟩ := K5.cells
      have m0 := MW5.c0
      have m1 := MW5.c1
      have e0 := M5.c0
      have e1 := M5.c1
      have HK : Hid (keyV (cellS s d) = .agg #[.int .i64 (nth (cellV d.2.2.2 s) 0), .int .i64 (nth (cellV d.2.2.2 s) 1), .int .i64 (nth (cellV d.2.2.2 s) 2), .int .i64 (nth (cellV d.2.2.2 s) 3)]) := rfl
      have HP6 := hidP (And.intro GM6 (And.intro T6 (And.intro LL6 hzW6)))
      have hlgs : (gs.map gpV).length = gs.length := by simp
      have hKO := HGK.out.keysOk
      have hND := HGK.out.nodup h4
      have HNW := hidP (heap_alloc_new W5 (.cells #[.int .i64 d.1, .slice d.2.1 d.2.2.2.length d.2.2.1] 40))
      have hzz : w.heap.size + 2 ≤ w5.heap.size := by omega
      have hBB : w.heap.size + 1 < w.heap.size + 2 := by omega
      rcases Nat.lt_or_ge (atG (cellS s d) (gs.map gpG)) gs.length with hj | hj
      · -- a cell that has some
        obtain ⟨j, hja⟩ : ∃ j, j = atG (cellS s d) (gs.map gpG) := ⟨_, rfl⟩
        rw [← hja] at hj
        obtain ⟨x, hx⟩ : ∃ x, x = gs[j] := ⟨_, rfl⟩
        have hjv : j < (gs.map gpV).length := by omega
        have hxv : (gs.map gpV)[j] = (keyV (cellS s d), .slice (some ⟨x.2.1, 0, none⟩) x.2.2.2.length x.2.2.1) := by
          rw [List.getElem_map, ← hx]
          have := (HGK.out.old HDK.out hja.symm hj 0 0).2
          rw [← hx] at this
          simp [gpV, this]
        have hent := run_entry_old GM6.map hKO hND hjv hkey (by rw [hxv])
        rw [hxv, HK.out] at hent
        simp only at hent
        have hxl : x.2.2.2.length ≤ 60 := by
          have h1 := HGK.out.group x (by rw [hx]; exact List.getElem_mem hj)
          rw [h1]
          have := List.length_filter_le (fun y => decide (cellS s y = x.1)) (ds.take k)
          have h3 : (ds.take k).length ≤ ds.length := by simp; omega
          omega
        have HROW := hidP (GM6.rows x (by rw [hx]; exact List.getElem_mem hj))
        have HX := hidP (And.intro hx hja)
        have HMAP := hidP GM6.map
        clear hx hja hxv hND hKO hkey hki hkl GM3 M3 T3 LL3 GM5 M5 T5 LL5 K5 MW5 GM6 LL6 T6 A5 A6 hz3' L35 L5
        subst hW6
        subst hW5
        simp only [keyV]
        go_wp2_with (at_builtin; refine wpList_append_lies _ rfl (.tmp 23) (.tmp 25) 24 rfl (w.heap.size + 2) 40 j0 _ 2 32 Tryz.underlying24 hj0 hy0 hy1 hy2 rfl (by omega) (.slice (some ⟨x.2.1, 0, none⟩) x.2.2.2.length x.2.2.1) x.2.2.2.length (smCells x.2.2.2) rfl HROW.out ⟨w5.heap.size + 1, 0, none⟩ 1 1 [.int .i64 d.1, .slice d.2.1 d.2.2.2.length d.2.2.1] rfl rfl (World.news_of_block (cs := #[.int .i64 d.1, .slice d.2.1 d.2.2.2.length d.2.2.1]) (t := 40) (fr := (0, 0)) (by have h := HNW.out; simpa using h)) (by simp [Value.oneCell']) (by omega) (by unfold maxLen; omega) (by omega) (by simp; omega) (w5.heap.size + 2) (by simp) ?_; intro gg cc w8 hown hgrow hat hlt8; have hes := run_entry_store (HMAP.out.kept hgrow (by have h := HROW.out.lt.1; simp [Value.ownBlock]; omega)) (j := j) (by simpa using hj) (.slice (some ⟨gg, 0, none⟩) (x.2.2.2.length + 1) cc))
        obtain ⟨hxe, hja⟩ := HX.out
        subst hxe
        obtain ⟨G6, T6, L6, hz6⟩ := HP6.out
        have hr := HROW.out.lt
        have hgr : World.grownBy _ w8 (some gs[j].2.1) := hgrow
        have hg9 := setMap_grown w8 (w.heap.size + 1) ((gs.map gpV).set j ((gpV gs[j]).1, .slice (some ⟨gg, 0, none⟩) (gs[j].2.2.2.length + 1) cc))
        have hs9 := Nat.le_trans hgr.size hg9.size
        refine ⟨⟨k + 1, gs.set j (gs[j].1, gg, cc, gs[j].2.2.2 ++ [d]), by omega, by go_num, by rw [HTK.out]; exact (HGK.out.old HDK.out hja.symm hj gg cc).1, ?_, ?_, ?_, ?_⟩, by simp [intOf]; omega⟩
        · exact G6.old hBB hj (SRow.snoc hown) hgr (by rcases hat with h | h; exact Or.inl (by simpa [Value.ownBlock] using h); exact Or.inr (by rw [h]; exact hz6.symm))
        · exact (hg9.block _ (Nat.lt_of_lt_of_le T6.lt hgr.size) (by simp)).trans ((hgr.block _ T6.lt (by simp; omega)).trans T6)
        · exact (L6.grown hgr L6.size (by intro q hq; cases hq; omega)).grown hg9 (Nat.le_trans L6.size hgr.size) (by intro q hq; cases hq; omega)
        · omega
      · -- a cell that has none yet
        have hja : atG (cellS s d) (gs.map gpG) = gs.length := Nat.le_antisymm (by have := atG_le (cellS s d) (gs.map gpG); simpa using this) hj
        have hent := run_entry_new GM6.map hKO hkey (HGK.out.not h4 hkl hja)
        have hgl : (gs.map gpV).length = gs.length := by simp
        rw [HK.out] at hent
        obtain ⟨W7, hW7⟩ : ∃ W7, W7 = setMap W6 (w.heap.size + 1) (gs.map gpV ++ [(keyV (cellS s d), Value.slice none 0 0)]) := ⟨_, rfl⟩
        have hg7 : W6.grownBy W7 (some (w.heap.size + 1)) := by rw [hW7]; exact setMap_grown _ _ _
        have M7 : MapIs W7 (w.heap.size + 1) (gs.map gpV ++ [(keyV (cellS s d), Value.slice none 0 0)]) := by rw [hW7]; exact GM6.map.set _
        have hz7 : W7.heap.size = w5.heap.size + 2 := by rw [hW7]; simp [setMap, hzW6]
        have HNW7 : Hid (W7.heap[w5.heap.size + 1]? = some (.cells #[.int .i64 d.1, .slice d.2.1 d.2.2.2.length d.2.2.1] 40 (0, 0))) := by
          show W7.heap[w5.heap.size + 1]? = _
          rw [hg7.block (w5.heap.size + 1) (by omega) (by simp; omega), hW6, ← hzW5]
          exact HNW.out
        have hW7' : setMap W6 (w.heap.size + 1) (gs.map gpV ++ [(.agg #[.int .i64 (nth (cellV d.2.2.2 s) 0), .int .i64 (nth (cellV d.2.2.2 s) 1), .int .i64 (nth (cellV d.2.2.2 s) 2), .int .i64 (nth (cellV d.2.2.2 s) 3)], Value.slice none 0 0)]) = W7 := by rw [hW7, HK.out]
        rw [hW7', hgl] at hent
        have HMAP := hidP M7
        have HW7 := hidP (And.intro hW7 hja)
        clear hW7 hW7' hND hKO hkey hki hkl GM3 M3 T3 LL3 GM5 M5 T5 LL5 K5 MW5 GM6 LL6 T6 A5 A6 hz3' L35 L5 hg7 M7
        subst hW6
        subst hW5
        simp only [keyV]
        go_wp2_with (at_builtin; refine wpList_append_lies _ rfl (.tmp 23) (.tmp 25) 24 rfl (w.heap.size + 2) 40 j0 _ 2 32 Tryz.underlying24 hj0 hy0 hy1 hy2 rfl (by omega) (.slice none 0 0) 0 (smCells []) rfl (ownsRow_none W7 _ _ _) ⟨w5.heap.size + 1, 0, none⟩ 1 1 [.int .i64 d.1, .slice d.2.1 d.2.2.2.length d.2.2.1] rfl rfl (World.news_of_block (cs := #[.int .i64 d.1, .slice d.2.1 d.2.2.2.length d.2.2.1]) (t := 40) (fr := (0, 0)) HNW7.out) (by simp [Value.oneCell']) (by omega) (by unfold maxLen; omega) (by omega) (by omega) (w5.heap.size + 2) hz7 ?_; intro gg cc w8 hown hgrow hat hlt8; have hes := run_entry_store (HMAP.out.kept (r := none) hgrow (by simp)) (j := gs.length) (by simp) (.slice (some ⟨gg, 0, none⟩) 1 cc))
        obtain ⟨hW7, hja⟩ := HW7.out
        subst hW7
        obtain ⟨G6, T6, L6, hz6⟩ := HP6.out
        have hg7 := setMap_grown ((w5.alloc (.cells #[.int .i64 (nth (cellV d.2.2.2 s) 0), .int .i64 (nth (cellV d.2.2.2 s) 1), .int .i64 (nth (cellV d.2.2.2 s) 2), .int .i64 (nth (cellV d.2.2.2 s) 3)] 106)).alloc (.cells #[.int .i64 d.1, .slice d.2.1 d.2.2.2.length d.2.2.1] 40)) (w.heap.size + 1) (gs.map gpV ++ [(keyV (cellS s d), Value.slice none 0 0)])
        have hgr : World.grownBy _ w8 none := hgrow
        have hg9 := setMap_grown w8 (w.heap.size + 1) (gs.map gpV ++ [(keyV (cellS s d), .slice (some ⟨gg, 0, none⟩) 1 cc)])
        have hs78 := Nat.le_trans hg7.size hgr.size
        have hs9 := Nat.le_trans hs78 hg9.size
        have hgg : gg = w5.heap.size + 2 := by rcases hat with h | h; cases h; exact h
        refine ⟨⟨k + 1, gs ++ [(cellS s d, gg, cc, [d])], by omega, by go_num, by rw [HTK.out]; exact HGK.out.new HDK.out hja gg cc, ?_, ?_, ?_, ?_⟩, by simp [intOf]; omega⟩
        · exact G6.new hBB (SRow.snoc (ds := []) hown) hgr (by rw [hgg]; exact hz6.symm)
        · exact (hg9.block _ (Nat.lt_of_lt_of_le T6.lt hs78) (by simp)).trans ((hgr.block _ (Nat.lt_of_lt_of_le T6.lt hg7.size) (by simp)).trans ((hg7.block _ T6.lt (by simp)).trans T6))
        · exact ((L6.grown hg7 L6.size (by intro q hq; cases hq; omega)).grown hgr (Nat.le_trans L6.size hg7.size) (by intro q hq; cases hq)).grown hg9 (Nat.le_trans L6.size hs78) (by intro q hq; cases hq; omega)
        · omega
    · go_wp2_with fail
      go_ret
      obtain rfl : k = ds.length := by omega
      have h1 := HGK.out
      rw [List.take_length] at h1
      exact ⟨gs, rfl, HST.out.1, h1, HST.out.2.2.1⟩

end Go.Proofs.YtodielfilhodeaaGreat
