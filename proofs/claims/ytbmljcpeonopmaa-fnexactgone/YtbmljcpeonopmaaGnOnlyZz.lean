/-
  The program's table of marks, less one of them.
  Marks less one of them, as plain lists.
-/
import Derived.Test.YtbmljcpeonopmaaMRowZz
import Derived.Test.YtbmljcpeonopmaaBMarkZz
import Derived.Test.YtbmljcpeonopmaaAppendZz
import Derived.Test.YtbmljcpeonopmaaMathZz
namespace Go.Proofs.Ytbmljcpeonopmaa
open Go Go.RowKit

theorem src_two {w : World} {b : Nat} {u v : Value} {t : TypeId} (h : w.heap[b]? = some (.cells #[u, v] t)) (hu : u.oneCell' = true) (hv : v.oneCell' = true) : SrcAt w 2 (some ⟨b, 0, none⟩) 1 [u, v] :=
  ⟨by simp, fun x hx => by simp only [List.mem_cons, List.not_mem_nil, or_false] at hx; rcases hx with rfl | rfl; exact hu; exact hv, Or.inr ⟨_, rfl, fun j x hx => by
    rw [Go.WideShapes.add_plain, Nat.zero_add]
    match j, hx with
    | 0, hx => simp at hx; rw [← hx]; simp [World.cell?, h]
    | 1, hx => simp at hx; rw [← hx]; simp [World.cell?, h]⟩⟩
def notId (id : Int) (d : Dm) : Bool := d.1 != id
theorem dk_take {ds : List Dm} {i : Nat} (h : i < ds.length) : ds.take (i + 1) = ds.take i ++ [mdnth ds i] := by
  rw [List.take_succ_eq_append_getElem h]
  simp [mdnth, List.getD, h]
theorem dk_snoc {p : Dm → Bool} {ds : List Dm} {i : Nat} (hi : i < ds.length) : (ds.take (i + 1)).filter p = (ds.take i).filter p ++ (if p (mdnth ds i) = true then [mdnth ds i] else []) := by
  rw [dk_take hi, List.filter_append]
  congr 1
  rcases e : p (mdnth ds i) with _ | _ <;> simp [e]
theorem dk_len (p : Dm → Bool) (ds : List Dm) (i : Nat) : ((ds.take i).filter p).length ≤ i := Nat.le_trans (List.length_filter_le _ _) (by rw [List.length_take]; omega)
theorem m_idM17 (x : Int) (a : Option Addr) (n c : Nat) (w : World) : Sem.run Try.prog (method 271 76 (.agg #[.int .i64 x, .slice a n c]) "loop.example/g00273/impl.id") w = .ok (144, .agg #[.int .i64 x, .slice a n c]) w := by kernel_rfl
set_option maxRecDepth 100000 in
set_option maxHeartbeats 400000 in
theorem iIdM17 (x : Int) (a : Option Addr) (n c : Nat) (w : World) :
    Calls Try.prog 144 #[.agg #[.int .i64 x, .slice a n c]] w fun e w' => e = .returned (.int .i64 x) ∧ Below w.heap.size w w' := by
  have hB : Below w.heap.size w (w.alloc (.cells #[.int .i64 x, .slice a n c] 76)) := (Below.refl _ _).alloc (Nat.le_refl _) _
  have HB := hidP hB
  clear hB
  go_enter Try.func144, Try.ntmps144
  go_wp2_with fail
  go_ret
  exact ⟨rfl, HB.out⟩
set_option maxHeartbeats 400000 in
theorem iGone1 (x id : Int) (X : Nat) (w : World) (hX : w.cell? ⟨X, 0, none⟩ = some (.int .i64 id)) :
    Calls Try.prog 38 #[.int .i64 x, .pointer (some ⟨X, 0, none⟩)] w fun e w' => e = .returned (.bool (x != id)) ∧ w' = w := by
  go_enter Try.func38, Try.ntmps38
  go_wp2_with fail
  go_ret
  exact ⟨rfl, rfl⟩

set_option maxRecDepth 100000 in
set_option maxHeartbeats 4000000 in
theorem iOnlyM (gs cs X : Nat) (ds : List Dm) (id : Int) (w : World) (hg : gs < w.heap.size) (hs : ∀ i, i < ds.length → w.cell? ⟨gs, i * 2, none⟩ = some (.int .i64 (mdnth ds i).1) ∧ w.cell? ⟨gs, i * 2 + 1, none⟩ = some (.slice (some ⟨(mdnth ds i).2.1, 0, none⟩) (mdnth ds i).2.2.2.length (mdnth ds i).2.2.1)) (hl : ds.length ≤ 61) (hXl : X < w.heap.size) (hX : w.cell? ⟨X, 0, none⟩ = some (.int .i64 id)) :
    Calls Try.prog 37 #[.slice (some ⟨gs, 0, none⟩) ds.length cs, .func (.func 38) #[] #[.pointer (some ⟨X, 0, none⟩)]] w fun e w' => ∃ g c, e = .returned (.slice (some ⟨g, 0, none⟩) (ds.filter (notId id)).length c) ∧ w'.ownsRow w.heap.size 76 2 (.slice (some ⟨g, 0, none⟩) (ds.filter (notId id)).length c) (ds.filter (notId id)).length (dCells (ds.filter (notId id))) ∧ Below w.heap.size w w' := by
  have R0 : Hid ((w.alloc (.cells #[] 76)).ownsRow w.heap.size 76 2 (.slice (some ⟨w.heap.size, 0, none⟩) 0 0) 0 []) := World.ownsRow_lit w #[] 0 (Nat.le_refl _) (Nat.zero_le _) rfl
  have L0 : Below w.heap.size w (w.alloc (.cells #[] 76)) := (Below.refl _ _).alloc (Nat.le_refl _) _
  have HV := hidP hs
  have HX := hidP hX
  have HGX := hidP (And.intro hg hXl)
  have MI := m_idM17
  obtain ⟨j0, hj0, hy0, hy1, hy2⟩ := info_parts Try.info76
  clear hs hX
  go_enter Try.func37, Try.ntmps37
  go_wp2_with fail
  go_loopw [5, 11] (fun v iv wr => ∃ (i g c : Nat), i ≤ ds.length ∧ iv = .int .i64 i ∧ v = .slice (some ⟨g, 0, none⟩) ((ds.take i).filter (notId id)).length c ∧ wr.ownsRow w.heap.size 76 2 (.slice (some ⟨g, 0, none⟩) ((ds.take i).filter (notId id)).length c) ((ds.take i).filter (notId id)).length (dCells ((ds.take i).filter (notId id))) ∧ Below w.heap.size w wr) (fun _ iv _ => ds.length - (intOf iv).toNat)
  case atStart => exact ⟨0, w.heap.size, 0, Nat.zero_le _, rfl, rfl, R0.out, L0⟩
  case round =>
    obtain ⟨i, g, c, hi, rfl, rfl, hro, L⟩ := hrel
    have HRO := hidP hro
    have HLL := hidP L
    have hz := L.size
    have hgl := World.ownsRow.lt hro g rfl
    have hfl := dk_len (notId id) ds i
    clear hro L
    by_cases hlt : i < ds.length
    · have hlti : (i : Int) < (ds.length : Int) := by omega
      have hi0 : (0 : Int) ≤ (i : Int) := Int.natCast_nonneg _
      obtain ⟨hc0, hc1⟩ := HV.out i hlt
      replace hc0 := (HLL.out.cell (p := ⟨gs, i * 2, none⟩) HGX.out.1).trans hc0
      replace hc1 := (HLL.out.cell (p := ⟨gs, i * 2 + 1, none⟩) HGX.out.1).trans hc1
      have HFS := hidP (dk_snoc (p := notId id) hlt)
      have HHH : Hid (notId id (mdnth ds i) = ((mdnth ds i).1 != id)) := rfl
      have HXR : Hid (wr.cell? ⟨X, 0, none⟩ = some (.int .i64 id) ∧ X < wr.heap.size) := ⟨(HLL.out.cell (p := ⟨X, 0, none⟩) HGX.out.2).trans HX.out, by have := HGX.out.2; omega⟩
      have HDC : Hid (dCells [mdnth ds i] = [.int .i64 (mdnth ds i).1, .slice (some ⟨(mdnth ds i).2.1, 0, none⟩) (mdnth ds i).2.2.2.length (mdnth ds i).2.2.1]) := rfl
      obtain ⟨o, ho⟩ : ∃ o, (ds.take i).filter (notId id) = o := ⟨_, rfl⟩
      have HO := hidP ho
      rw [ho] at HRO HFS hfl ⊢
      clear ho
      obtain ⟨x, hx⟩ : ∃ x, mdnth ds i = x := ⟨_, rfl⟩
      rw [hx] at HFS HHH HDC hc0 hc1
      clear hx
      obtain ⟨xi, hxi⟩ : ∃ xi, x.1 = xi := ⟨_, rfl⟩
      obtain ⟨xs, hxs⟩ : ∃ xs : Value, .slice (some ⟨x.2.1, 0, none⟩) x.2.2.2.length x.2.2.1 = xs := ⟨_, rfl⟩
      have HXS : Hid (∃ a n k, xs = .slice a n k) := ⟨_, _, _, hxs.symm⟩
      rw [hxi, hxs] at HDC
      rw [hxi] at HHH hc0
      rw [hxs] at hc1
      clear hxi hxs
      obtain ⟨xa, xn, xk, rfl⟩ := HXS.out
      obtain ⟨V, hV⟩ : ∃ V, wr.alloc (.cells #[.int .i64 xi, .slice xa xn xk] 76) = V := ⟨_, rfl⟩
      have LV : Below wr.heap.size wr V := by rw [← hV]; exact (Below.refl _ _).alloc (Nat.le_refl _) _
      have y0 : V.cell? ⟨wr.heap.size, 0, none⟩ = some (.int .i64 xi) := by rw [← hV]; simp
      have y1 : V.cell? ⟨wr.heap.size, 1, none⟩ = some (.slice xa xn xk) := by rw [← hV]; simp
      have hyl : wr.heap.size < V.heap.size := by rw [← hV]; simp
      have HLV := hidP LV
      clear LV
      go_wp2_with fail
      clear hV
      refine (iIdM17 xi xa xn xk _).mono ?_
      rintro e w2 ⟨rfl, L2⟩
      have HL2 := hidP (chain HLV.out L2)
      have HC := hidP (iGone1 xi id X w2 ((HL2.out.cell (p := ⟨X, 0, none⟩) HXR.out.2).trans HXR.out.1))
      have z0 := (L2.cell (p := ⟨wr.heap.size, 0, none⟩) hyl).trans y0
      have z1 := (L2.cell (p := ⟨wr.heap.size, 1, none⟩) hyl).trans y1
      have hyl2 := Nat.lt_of_lt_of_le hyl L2.size
      clear L2 y0 y1
      go_wp2_with fail
      refine HC.out.mono ?_
      rintro e w3 ⟨rfl, hw3⟩
      have hw4 := hw3.symm
      subst hw4
      have hz3 := HL2.out.size
      rcases hh : (xi != id) with _ | _
      · rw [HHH.out, hh] at HFS
        have HRF := hidP (World.ownsRow.kept HRO.out (w' := w2) (row := none) ⟨HL2.out.os, HL2.out.tape, HL2.out.output, HL2.out.size, fun k hk _ => HL2.out.block k hk⟩ (Or.inr (by simp [Value.ownBlock])))
        have HLF := hidP (HLL.out.trans (HL2.out.mono hz))
        clear HHH z0 z1
        go_wp2_with fail
        go_roundw
        case rel =>
          have e : (ds.take (i + 1)).filter (notId id) = o := by rw [HFS.out]; simp
          exact ⟨i + 1, g, c, by omega, by go_num, by rw [e], by rw [e]; exact HRF.out, HLF.out⟩
        case measure => simp [intOf]; omega
      · rw [HHH.out, hh] at HFS
        have HRF := hidP (World.ownsRow.kept HRO.out (w' := w2) (row := none) ⟨HL2.out.os, HL2.out.tape, HL2.out.output, HL2.out.size, fun k hk _ => HL2.out.block k hk⟩ (Or.inr (by simp [Value.ownBlock])))
        have HLF := hidP (HLL.out.trans (HL2.out.mono hz))
        have HRA := hidP (World.ownsRow.alloc HRF.out (.cells #[.int .i64 xi, .slice xa xn xk] 76))
        have hz4 : w.heap.size ≤ w2.heap.size := by omega
        clear HHH
        go_wp2_with (at_builtin; refine wpList_append_at _ rfl (.tmp 20) (.tmp 22) 73 rfl w.heap.size 76 j0 _ 2 32 Try.underlying73 hj0 hy0 hy1 hy2 rfl (by omega) g o.length c (dCells o) rfl HRA.out (some ⟨w2.heap.size, 0, none⟩) 1 1 [.int .i64 xi, .slice xa xn xk] rfl (src_two (heap_alloc_new w2 _) rfl rfl) (by unfold maxLen; omega) (by omega) (by simp; omega) (w2.heap.size + 1) (by simp) ?_; intro gg cc w4 hown hgrow hat hltt)
        have HW4 : Hid (w4.ownsRow w.heap.size 76 2 (.slice (some ⟨gg, 0, none⟩) ((ds.take (i + 1)).filter (notId id)).length cc) ((ds.take (i + 1)).filter (notId id)).length (dCells ((ds.take (i + 1)).filter (notId id))) ∧ Below w.heap.size w w4 ∧ ((ds.take (i + 1)).filter (notId id)).length = o.length + 1) := by
          have e : (ds.take (i + 1)).filter (notId id) = o ++ [x] := by rw [HFS.out]; simp
          rw [e, List.length_append, List.length_singleton, dCells_append, HDC.out]
          exact ⟨hown, (HLF.out.alloc hz4 _).grown hgrow (by simp; omega) (by intro k hk; cases hk; omega), rfl⟩
        clear hown hgrow hat hltt
        go_wp2
        go_roundw
        case rel => exact ⟨i + 1, gg, cc, by omega, by go_num, by rw [HW4.out.2.2], HW4.out.1, HW4.out.2.1⟩
        case measure => simp [intOf]; omega
    · go_wp2_with fail
      go_ret
      obtain rfl : i = ds.length := by omega
      rw [List.take_length] at HRO ⊢
      exact ⟨g, c, rfl, HRO.out, HLL.out⟩
end Go.Proofs.Ytbmljcpeonopmaa
namespace Go.Proofs.Ytbmljcpeonopmaa
open Go Go.RowKit

def goneL (ms : List Mk) (id : Int) : List Mk := ms.filter (fun m => m.1 != id)
theorem dMarks_map (ds : List Dm) : dMarks ds = ds.map (fun d => (d.1, d.2.2.2)) := by
  induction ds with
  | nil => rfl
  | cons d ds ih => simp [dMarks]
theorem dMarks_gone (ds : List Dm) (id : Int) : dMarks (ds.filter (notId id)) = goneL (dMarks ds) id := by
  rw [dMarks_map, dMarks_map, goneL, List.filter_map]
  rfl
theorem dMarks_cut (ds : List Dm) (k : Nat) : dMarks (ds.take k ++ ds.drop (k + 1)) = (dMarks ds).take k ++ (dMarks ds).drop (k + 1) := by
  simp [dMarks_map, List.map_take, List.map_drop]
theorem mid_get {ms : List Mk} {i : Nat} (h : i < ms.length) : mid ms i = ms[i].1 := by simp [mid, List.getD, h]
theorem gone_no {ms : List Mk} {id : Int} (h : zFind ms id < 0) : goneL ms id = ms := by
  refine List.filter_eq_self.2 (fun m hm => ?_)
  obtain ⟨i, hi, rfl⟩ := List.getElem_of_mem hm
  have := zFindTo_no h i hi
  rw [mid_get hi] at this
  simpa using this
theorem gone_cut {ms : List Mk} {id : Int} (hm : marksB ms = true) (h : 0 ≤ zFind ms id) : ms.take (zIdx ms id) ++ ms.drop (zIdx ms id + 1) = goneL ms id := by
  obtain ⟨h1, -, h3⟩ := zIdx_lt h
  have hne : ∀ j, j < ms.length → j ≠ zIdx ms id → mid ms j ≠ id := fun j hj hne e => by
    have := (zFind_mid hm hj).2
    rw [e] at this
    exact hne this.symm
  have e1 : ms = ms.take (zIdx ms id) ++ ms[zIdx ms id] :: ms.drop (zIdx ms id + 1) := by
    rw [← List.drop_eq_getElem_cons h1, List.take_append_drop]
  have f1 : (ms.take (zIdx ms id)).filter (fun m => m.1 != id) = ms.take (zIdx ms id) := by
    refine List.filter_eq_self.2 (fun m hm' => ?_)
    obtain ⟨i, hi, rfl⟩ := List.getElem_of_mem hm'
    rw [List.length_take] at hi
    have := hne i (by omega) (by omega)
    rw [mid_get (by omega)] at this
    simpa using this
  have f2 : (ms.drop (zIdx ms id + 1)).filter (fun m => m.1 != id) = ms.drop (zIdx ms id + 1) := by
    refine List.filter_eq_self.2 (fun m hm' => ?_)
    obtain ⟨i, hi, rfl⟩ := List.getElem_of_mem hm'
    rw [List.length_drop] at hi
    have := hne (zIdx ms id + 1 + i) (by omega) (by omega)
    rw [mid_get (by omega)] at this
    simpa using this
  have e2 : (ms[zIdx ms id].1 != id) = false := by
    rw [mid_get h1] at h3
    simp [h3]
  unfold goneL
  conv => rhs; rw [e1]
  rw [List.filter_append, f1, List.filter_cons, if_neg (by rw [e2]; simp), f2]
theorem gone_len (ms : List Mk) (id : Int) : (goneL ms id).length ≤ ms.length := List.length_filter_le _ _
theorem gone_less (ms : List Mk) (id : Int) : decide ((goneL ms id).length < ms.length) = decide (0 ≤ zFind ms id) := by
  rcases Int.lt_or_le (zFind ms id) 0 with h | h
  · rw [gone_no h]; simp; omega
  · have h1 := zIdx_lt h
    have : (goneL ms id).length < ms.length := by
      rcases Nat.lt_or_ge (goneL ms id).length ms.length with e | e
      · exact e
      · exfalso
        have hs := (List.filter_sublist (p := fun m : Mk => m.1 != id) (l := ms)).eq_of_length_le e
        have hin : ms[zIdx ms id]'h1.1 ∈ goneL ms id := by
          have : ms[zIdx ms id]'h1.1 ∈ ms := List.getElem_mem _
          unfold goneL
          rw [hs]; exact this
        have hp := (List.mem_filter.1 hin).2
        have := h1.2.2
        rw [mid_get h1.1] at this
        simp [this] at hp
    simp [h, this]
theorem gone_small {ms : List Mk} {id : Int} (h : MSmall ms) : MSmall (goneL ms id) := by
  refine ⟨Nat.le_trans (gone_len ms id) h.1, fun i => ?_⟩
  rcases Nat.lt_or_ge i (goneL ms id).length with hi | hi
  · have hmem : (goneL ms id)[i] ∈ ms := (List.mem_filter.1 (List.getElem_mem hi)).1
    obtain ⟨j, hj, e⟩ := List.getElem_of_mem hmem
    have := h.2 j
    have e2 : mat (goneL ms id) i = mat ms j := by simp [mat, List.getD, hi, hj, e]
    rw [e2]; exact this
  · have : mat (goneL ms id) i = [] := by simp [mat, List.getD, hi]
    rw [this]; simp
end Go.Proofs.Ytbmljcpeonopmaa
