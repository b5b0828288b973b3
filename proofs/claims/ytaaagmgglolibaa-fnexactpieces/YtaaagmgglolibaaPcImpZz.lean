/-
  The program's Pieces.
  The walk of FnExactPieces.
-/
import Derived.Test.YtaaagmgglolibaaPcIterZz
import Derived.Lib.ConvBytes
import Derived.Lib.SlBytesRow
import Derived.Laws.AppendOwn
namespace Go.Proofs.Ytaaagmgglolibaa
open Go Go.RowKit Go.Shelf

attribute [local go_sem] Oper.semAt_some

def pcX (s : ByteArray) (z : Nat) (p : Fin (pcN s z)) : ByteArray := s.extract (p.1 * z) (min s.size ((p.1 + 1) * z))
theorem pcT_map (s : ByteArray) (z : Nat) : ∀ k, k ≤ pcN s z → pcT s z k = (pcsL (pcN s z) k).map (pcX s z)
  | 0, _ => by simp [pcT, pcsL]
  | k + 1, h => by rw [pcT, pcT_map s z k (by omega), pcsL_succ (by omega), List.map_append]; rfl
theorem pcW_end {s : ByteArray} {z : Nat} (hz : 0 < z) (p : Fin (pcN s z)) : p.1 * z + pcW s z p.1 = min s.size ((p.1 + 1) * z) := by
  have h := (pcN_iff hz).1 p.2
  unfold pcW
  rw [Nat.succ_mul]
  omega
/-- Between two rounds: the variable holds the pieces that have come. -/
def PcI (n0 : Nat) (w3 : World) (s : ByteArray) (z : Nat) (pre : List (Fin (pcN s z))) (V : World) : Prop :=
  ∃ g c, V.heap[n0 + 1]? = some (.cells #[.slice (some ⟨g, 0, none⟩) pre.length c] 24 (0, 0)) ∧ V.ownsRow n0 9 1 (.slice (some ⟨g, 0, none⟩) pre.length c) pre.length ((pre.map (pcX s z)).map Value.string) ∧ (g = n0 ∨ w3.heap.size ≤ g) ∧ (∀ b, b < w3.heap.size → b ≠ n0 → b ≠ n0 + 1 → V.heap[b]? = w3.heap[b]?) ∧ w3.heap.size ≤ V.heap.size ∧ Below n0 w3 V
theorem row_far18 {W : World} {base e size k : Nat} {v : Value} {xs : List Value} (h : W.ownsRow base e size v k xs) {r : Option Nat} (hr : ∀ j, r = some j → ∃ o : Obj, W.heap[j]? = some o ∧ o.isCells = false) : v.ownBlock = none ∨ v.ownBlock ≠ r := by
  rcases h.2 with ⟨rfl, _⟩ | ⟨g, cap, cur, rfl, _, hgb, _⟩
  · exact Or.inl rfl
  · refine Or.inr fun e2 => ?_
    obtain ⟨o, ho, hc⟩ := hr g e2.symm
    rw [hgb] at ho
    cases ho
    cases hc
theorem pcI_own {n0 B : Nat} (w3 : World) (s : ByteArray) (z : Nat) (hB : w3.heap.size ≤ B) (h0 : n0 + 1 < B) : OwnFrom B (PcI n0 w3 s z) := fun pre W W' row h hg hr => by
  obtain ⟨g, c, h1, h2, h3, h4, h5, L⟩ := h
  have hlt := (Array.getElem?_eq_some_iff.1 h1).1
  refine ⟨g, c, (hg.block _ hlt (fun e => by have := (hr _ e.symm).1; omega)).trans h1, World.ownsRow.kept h2 hg (row_far18 h2 fun j e => (hr j e).2), h3, fun b hb hb1 hb2 => (hg.block b (by omega) (fun e => by have := (hr b e.symm).1; omega)).trans (h4 b hb hb1 hb2), by have := hg.size; omega, L.grown hg (by omega) (fun k e => by have := (hr k e).1; omega)⟩

theorem Below.heap_putObj18 (W : World) (l : Nat) (o : Obj) (k : Nat) (h : k ≠ l) : (W.putObj l o).heap[k]? = W.heap[k]? := by
  have := (grownBy_putObj' W l o).block k
  rcases Nat.lt_or_ge k W.heap.size with h1 | h1
  · exact this h1 (fun e => h (by injection e))
  · rw [Array.getElem?_eq_none h1, Array.getElem?_eq_none (by simpa [World.putObj] using h1)]
theorem setCell_size18 (w : World) (a : Addr) (v : Value) : (w.setCell a v).heap.size = w.heap.size := by simp
theorem cell_one18 (w : World) (v : Value) (t : TypeId) : ∀ (j : Nat) (u : Value), ([v] : List Value)[j]? = some u → (w.alloc (.cells #[v] t)).cell? ((⟨w.heap.size, 0, none⟩ : Addr).add j) = some u := fun j u h => by
  cases j with
  | zero =>
    simp at h
    subst h
    simp [Addr.add]
  | succ j => simp at h

set_option maxRecDepth 100000 in
set_option maxHeartbeats 8000000 in
theorem iPieces (s : ByteArray) (n : Int) (w : World) (hs : s.size ≤ 1048576) :
    Calls Try.prog 8 #[.string s, .int .i64 n] w fun e w' => ∃ v, e = .returned v ∧ TxRow w.heap.size w' v (pcL s n) ∧ Below w.heap.size w w' := by
  obtain ⟨i0, hi0, hz0, hz1, hz2⟩ := info_parts Try.info9s
  by_cases hok : ¬ pcOk s n = true
  · have HP : Hid (pcL s n = []) := by show _ = _; unfold pcL; rw [if_neg hok]
    have hno : n < 1 ∨ 1000 < n ∨ 100000 < s.size := by
      unfold pcOk at hok
      simp at hok
      omega
    have hfin : ∀ K : Prop, True := fun _ => trivial
    by_cases h1 : n < 1
    · go_enter Try.func8, Try.ntmps8
      go_wp2
      go_ret
      exact ⟨_, rfl, by rw [HP.out]; exact ⟨rfl, Or.inl ⟨rfl, rfl⟩⟩, Below.refl _ _⟩
    by_cases h2 : 1000 < n
    · go_enter Try.func8, Try.ntmps8
      go_wp2
      go_ret
      exact ⟨_, rfl, by rw [HP.out]; exact ⟨rfl, Or.inl ⟨rfl, rfl⟩⟩, Below.refl _ _⟩
    · have h3 : 100000 < s.size := by omega
      go_enter Try.func8, Try.ntmps8
      go_wp2
      go_ret
      exact ⟨_, rfl, by rw [HP.out]; exact ⟨rfl, Or.inl ⟨rfl, rfl⟩⟩, Below.refl _ _⟩
  replace hok : pcOk s n = true := Classical.not_not.1 hok
  have hq : 1 ≤ n ∧ n ≤ 1000 ∧ s.size ≤ 100000 := by unfold pcOk at hok; simp at hok; omega
  obtain ⟨z, rfl⟩ : ∃ z : Nat, n = (z : Int) := ⟨n.toNat, by omega⟩
  have hz : 0 < z := by omega
  have hzz : z ≤ 1000 := by omega
  have hss := hq.2.2
  have HP : Hid (pcL s (z : Int) = (pcsL (pcN s z) (pcN s z)).map (pcX s z)) := by
    show _ = _
    unfold pcL
    rw [if_pos hok, ← pcT_map s z _ (Nat.le_refl _)]
    simp
  have hNN := pcN_le s z hz
  clear hok hq
  obtain ⟨W2, hW2⟩ : ∃ W2, (w.alloc (.cells #[] 9)).alloc (.cells #[.slice (some ⟨w.heap.size, 0, none⟩) 0 0] 24) = W2 := ⟨_, rfl⟩
  have s2 : W2.heap.size = w.heap.size + 2 := by rw [← hW2]; simp
  have hcv := Lib.run_convert_string_bytes (P := Try.prog) W2 9 34 5 s Try.underlying9 Try.underlying34 Try.underlying5
  rw [s2] at hcv
  obtain ⟨cb, hcb⟩ : ∃ cb, grownCap W2 s.size 0 5 = cb := ⟨_, rfl⟩
  have hcbs : s.size ≤ cb := by rw [← hcb]; exact grownCap_ge _ _ _ _
  rw [hcb] at hcv
  obtain ⟨W3, hW3⟩ : ∃ W3, Lib.bytesWorld W2 5 s = W3 := ⟨_, rfl⟩
  rw [hW3] at hcv
  have s3 : W3.heap.size = w.heap.size + 3 := by rw [← hW3, Lib.bytesWorld_size, s2]
  have HCH := hidS (iChunk (w.heap.size + 2) s.size cb (z : Int) W3 (by omega))
  have HW2 := hidS hW2
  have hz1' : ¬ ((z : Int) < 1) := by omega
  have hz2' : ¬ ((z : Int) > 1000) := by omega
  have hz3' : ¬ ((s.size : Int) > 100000) := by omega
  refine (callsIn_wide (n := 5)).1 ?_
  refine callsIn_of_wp_marks Try.func8 rfl trivial ?_ rfl
  simp only [Try.ntmps8, List.size_toArray, List.length_cons, List.length_nil, Nat.reduceAdd, Nat.reduceSub, Array.replicate_succ, Array.replicate_zero, List.push_toArray, List.append_toArray, List.nil_append, List.cons_append]
  gi_wp2_with (refine ⟨trivial, ?_⟩; gi_at_call 14; refine (callsIn_wide.2 HCH.out).mono ?_; rintro e w' ⟨rfl, rfl⟩)
  obtain ⟨w5, hw5⟩ : ∃ w5, (W3.alloc (.cells #[.slice (some ⟨w.heap.size + 2, 0, none⟩) s.size cb] 34)).alloc (.cells #[.int .i64 (z : Int)] 3) = w5 := ⟨_, rfl⟩
  have s5 : w5.heap.size = w.heap.size + 5 := by rw [← hw5]; simp [s3]
  have L2 : Below w.heap.size w W2 := by rw [← hW2]; exact ((Below.refl _ _).alloc (Nat.le_refl _) _).alloc (by simp) _
  have L3 : ∀ b, b < W2.heap.size → W3.heap[b]? = W2.heap[b]? := fun b hb => by rw [← hW3]; exact Lib.bytesWorld_at_old W2 5 s b hb
  have L5 : ∀ b, b < W3.heap.size → w5.heap[b]? = W3.heap[b]? := fun b hb => by rw [← hw5]; exact (Below.heap_alloc _ _ _ (by simp; omega)).trans (Below.heap_alloc _ _ _ hb)
  have LB : Below w.heap.size w w5 := by
    refine ⟨?_, ?_, ?_, by omega, fun b hb => (L5 b (by omega)).trans ((L3 b (by omega)).trans (L2.block b hb))⟩
    · rw [← hw5, ← hW3]; exact L2.os
    · rw [← hw5, ← hW3]; exact L2.tape
    · rw [← hw5, ← hW3]; exact L2.output
  have hb0 : w5.heap[w.heap.size + 1]? = some (.cells #[.slice (some ⟨w.heap.size, 0, none⟩) 0 0] 24 (0, 0)) := by
    rw [L5 _ (by omega), L3 _ (by omega), ← hW2]
    have := heap_alloc_new (w.alloc (.cells #[] 9)) (.cells #[.slice (some ⟨w.heap.size, 0, none⟩) 0 0] 24)
    rw [World.size_alloc] at this
    exact this
  have hr0 : w5.ownsRow w.heap.size 9 1 (.slice (some ⟨w.heap.size, 0, none⟩) 0 0) 0 [] := by
    have h := World.ownsRow_lit (base := w.heap.size) (e := 9) (size := 1) w #[] 0 (Nat.le_refl _) (Nat.zero_le _) rfl
    obtain ⟨h1, ⟨h2, _⟩ | ⟨g, cap, cur, e1, hb, hg, h3⟩⟩ := h
    · cases h2
    · refine ⟨rfl, Or.inr ⟨g, cap, cur, e1, hb, ?_, h3⟩⟩
      obtain rfl : g = w.heap.size := by injection e1 with e1; injection e1 with e1; injection e1 with e1; exact e1.symm
      rw [L5 _ (by omega), L3 _ (by omega), ← hW2]
      exact (Below.heap_alloc _ _ _ (by simp)).trans hg
  have hby : Lib.Bytes w5 (w.heap.size + 2) 0 s := fun i hi => by
    have h1 := Lib.bytesWorld_cell W2 5 s i hi
    rw [hW3, s2] at h1
    rw [Nat.zero_add]
    refine (World.cell?_of_block (w := W3) (a := ⟨w.heap.size + 2, i, none⟩) (L5 _ (by show w.heap.size + 2 < _; omega))).trans (h1.trans ?_)
    have h2 : i < s.data.toList.length := by simpa using hi
    rw [List.getD_eq_getElem?_getD, List.getElem?_eq_getElem h2]
    rfl
  have hb2 : ∃ C fr, w5.heap[w.heap.size + 2]? = some (.cells C 5 fr) := by
    have h := Lib.bytesWorld_at_new W2 5 s
    rw [hW3, s2] at h
    exact ⟨_, _, (L5 _ (by omega)).trans h⟩
  have hbs : w5.heap[w.heap.size + 3]? = some (.cells #[.slice (some ⟨w.heap.size + 2, 0, none⟩) s.size cb] 34) := by
    rw [← hw5]
    refine (Below.heap_alloc _ _ _ (by simp [s3])).trans ?_
    rw [← s3]
    exact heap_alloc_new W3 _
  have hbn : w5.heap[w.heap.size + 4]? = some (.cells #[.int .i64 (z : Int)] 3) := by
    rw [← hw5]
    have := heap_alloc_new (W3.alloc (.cells #[.slice (some ⟨w.heap.size + 2, 0, none⟩) s.size cb] 34)) (.cells #[.int .i64 (z : Int)] 3)
    rw [World.size_alloc, s3] at this
    exact this
  rw [hw5]
  clear hw5 L2 L3 L5 hW3 hW2 HW2 HCH hcv
  refine wpIn_rangeFunc_ownG rfl (by decide) (gf := 16) (lb := #[.pointer (some ⟨w.heap.size + 3, 0, none⟩), .pointer (some ⟨w.heap.size + 3 + 1, 0, none⟩)]) rfl trivial (enters_of Try.func16 (by kernel_rfl) rfl)
    (chunk_stops Fence.wide (5 - 1) trivial rfl (by decide) (w.heap.size + 3) (w.heap.size + 3 + 1) (w.heap.size + 2) cb z s hz hzz hss hcbs w5 hbs hbn) (fun h k => ⟨k.1.trans h.1, k.2.trans h.2⟩)
    (fun W l o o' hl h _ _ => ⟨Below.heap_putObj18 W l o' _ (by omega), Below.heap_putObj18 W l o' _ (by omega)⟩) (Below.refl _ _) (fun _ => rfl)
    (PcI w.heap.size w5 s z) (fun _ _ _ => False) (pcI_own w5 s z (Nat.le_refl _) (by omega)) (fun _ _ _ _ _ hs _ _ => hs) ⟨w.heap.size, 0, hb0, hr0, Or.inl rfl, fun _ _ _ _ => rfl, Nat.le_refl _, Below.refl _ _⟩
    (fun p => { tmps := #[.string s, .int .i64 (z : Int), undef, undef, .slice none 0 0, .pointer (some ⟨w.heap.size + 1, 0, none⟩), .slice (some ⟨w.heap.size + 2, p.1 * z, none⟩) (pcW s z p.1) (pcW s z p.1), .int .i64 (z : Int), .bool false, .bool false, .int .i64 (z : Int), .bool false, .bool false, .bool false, .string s, .int .i64 (s.size : Int), .bool false, .bool false, .slice (some ⟨w.heap.size, 0, none⟩) 0 0, .string s, .slice (some ⟨w.heap.size + 2, 0, none⟩) s.size cb, .int .i64 (z : Int), .func (.func 16) #[] #[.pointer (some ⟨w.heap.size + 3, 0, none⟩), .pointer (some ⟨w.heap.size + 3 + 1, 0, none⟩)], .slice (some ⟨w.heap.size + 2, p.1 * z, none⟩) (pcW s z p.1) (pcW s z p.1), undef, undef, undef, undef, undef, undef], defers := [] }) ?assign ?body ?done ?stop
  case assign =>
    intro l x V K hK
    dsimp only [encP]
    gi_wp2
    exact hK
  case body =>
    rintro l pre p V ⟨g, c, h1, h2, h3, h4, h5, L⟩ hlt
    have hc0 : V.cell? ⟨w.heap.size + 1, 0, none⟩ = some (.slice (some ⟨g, 0, none⟩) pre.length c) := by simp [World.cell?, h1]
    have hbV : Lib.Bytes V (w.heap.size + 2) 0 s := fun i hi => (World.cell?_of_block (w := w5) (a := ⟨w.heap.size + 2, 0 + i, none⟩) (h4 _ (by show w.heap.size + 2 < _; omega) (by show w.heap.size + 2 ≠ _; omega) (by show w.heap.size + 2 ≠ _; omega))).trans (hby i hi)
    have hpe := pcW_end hz p
    have hcv := Lib.run_convert_window (P := Try.prog) V 34 5 9 Try.underlying34 Try.underlying5 Try.underlying9 (w.heap.size + 2) 0 s hbV (p.1 * z) (pcW s z p.1) (pcW s z p.1) (by rw [hpe]; exact Nat.min_le_left _ _)
    rw [Nat.zero_add, hpe] at hcv
    have HX : Hid (pcX s z p = s.extract (p.1 * z) (min s.size ((p.1 + 1) * z))) := rfl
    obtain ⟨tx, htx⟩ : ∃ tx, s.extract (p.1 * z) (min s.size ((p.1 + 1) * z)) = tx := ⟨_, rfl⟩
    rw [htx] at hcv HX
    have HB := hidS (And.intro h1 (And.intro h2 (And.intro h3 (And.intro h4 (And.intro h5 L)))))
    have hgl := World.ownsRow.lt h2 g rfl
    have hbl := (Array.getElem?_eq_some_iff.1 h1).1
    have hgn : g ≠ w.heap.size + 1 := by omega
    clear h1 h2 h3 h4 L hbV hpe htx
    gi_wp2_with
      (gi_at_builtin
       refine wpListIn_append_own _ rfl _ _ 24 rfl w.heap.size 9 i0 (.string ⟨#[]⟩) 1 16 Try.underlying24 hi0 hz0 hz1 hz2 rfl (by decide) (.slice (some ⟨g, 0, none⟩) pre.length c) pre.length ((pre.map (pcX s z)).map Value.string) rfl (World.ownsRow.alloc HB.out.2.1 _) ⟨V.heap.size, 0, none⟩ 1 1 [.string tx] rfl rfl (cell_one18 _ _ _) (by intro u hu; simp at hu; rw [hu]; rfl) (by unfold maxLen; omega) (by omega) (by simp; omega) ?_
       intro v' w3 hown' hg3 hnil3
       have hbne : some (w.heap.size + 1) ≠ (Value.slice (some ⟨g, 0, none⟩) pre.length c).ownBlock := fun e => by injection e with e; exact hgn e.symm
       have hb3 : w3.heap[w.heap.size + 1]? = some (.cells #[.slice (some ⟨g, 0, none⟩) pre.length c] 24 (0, 0)) := (hg3.block _ (by simp; omega) hbne).trans ((Below.heap_alloc _ _ _ hbl).trans HB.out.1)
       have hc3 : w3.cell? ⟨w.heap.size + 1, 0, none⟩ = some (.slice (some ⟨g, 0, none⟩) pre.length c) := by simp [World.cell?, hb3]
       have hf3 : w3.frozen? ⟨w.heap.size + 1, 0, none⟩ = false := by simp [World.frozen?, hb3]
       obtain ⟨g', cap', cur', rfl, hr1, hbg⟩ : ∃ g' cap' cur', v' = .slice (some ⟨g', 0, none⟩) (pre.length + 1) cap' ∧ w3.heap[g']? = some (.cells cur' 9 (0, 0)) ∧ w.heap.size ≤ g' := by
         rcases hown'.2 with ⟨_, h0⟩ | ⟨g', cap', cur', e1, hbb, e2, _⟩
         · exact absurd h0 (by omega)
         · exact ⟨g', cap', cur', e1, e2, hbb⟩)
    have hg3' : (V.alloc (.cells #[.string tx] 9)).grownBy w3 (some g) := hg3
    have hVal := (Below.refl V.heap.size V).alloc (Nat.le_refl _) (.cells #[.string tx] 9)
    have hold : ∀ b, b ≠ g → b < V.heap.size → w3.heap[b]? = V.heap[b]? := fun b e1 e2 => (hg3'.block b (by simp; omega) (fun e => e1 (by injection e))).trans (hVal.block b e2)
    have hgr : g' = w.heap.size ∨ w5.heap.size ≤ g' := by
      rcases Nat.lt_or_ge g' w5.heap.size with h | h
      · left
        have hfix : ∀ b, b < w5.heap.size → b ≠ w.heap.size → b ≠ w.heap.size + 1 → w.heap.size ≤ b → w3.heap[b]? = w5.heap[b]? := fun b e1 e2 e3 e4 => (hold b (by rcases HB.out.2.2.1 with hq | hq <;> omega) (by omega)).trans (HB.out.2.2.2.1 b e1 e2 e3)
        rcases Nat.eq_or_lt_of_le hbg with e | e
        · exact e.symm
        · exfalso
          have h5' : g' = w.heap.size + 1 ∨ g' = w.heap.size + 2 ∨ g' = w.heap.size + 3 ∨ g' = w.heap.size + 4 := by omega
          rcases h5' with e | e | e | e
          · rw [e, hb3] at hr1; injection hr1 with hr1; injection hr1 with _ hr1; cases hr1
          · obtain ⟨C, fr, hb2'⟩ := hb2
            rw [e, hfix _ (by omega) (by omega) (by omega) (by omega), hb2'] at hr1; injection hr1 with hr1; injection hr1 with _ hr1; cases hr1
          · rw [e, hfix _ (by omega) (by omega) (by omega) (by omega), hbs] at hr1; injection hr1 with hr1; injection hr1 with _ hr1; cases hr1
          · rw [e, hfix _ (by omega) (by omega) (by omega) (by omega), hbn] at hr1; injection hr1 with hr1; injection hr1 with _ hr1; cases hr1
      · exact Or.inr h
    have hgl1 := (Array.getElem?_eq_some_iff.1 HB.out.1).1
    have hgc : ∀ (o : Obj), V.heap[g]? = some o → o.isCells = true := fun o ho => by
      rcases HB.out.2.1.2 with ⟨e, _⟩ | ⟨g2, c2, cur2, e, _, hg2, _⟩
      · cases e
      · injection e with e; injection e with e; injection e with e
        subst e
        rw [hg2] at ho; cases ho; rfl
    have hko : ∀ (k : Nat) (o : Obj), V.heap[k]? = some o → o.isCells = false → (w3.setCell ⟨w.heap.size + 1, 0, none⟩ (.slice (some ⟨g', 0, none⟩) (pre.length + 1) cap')).heap[k]? = some o := fun k o hk ho => by
      have hkl := (Array.getElem?_eq_some_iff.1 hk).1
      have hne1 : k ≠ g := fun e => by subst e; rw [hgc o hk] at ho; cases ho
      have hne2 : k ≠ w.heap.size + 1 := fun e => by subst e; rw [HB.out.1] at hk; cases hk; cases ho
      exact (Below.heap_setCell _ _ _ k hne2).trans ((hold k hne1 hkl).trans hk)
    have hs3 := hg3'.size
    have hsz3 : V.heap.size ≤ (w3.setCell ⟨w.heap.size + 1, 0, none⟩ (.slice (some ⟨g', 0, none⟩) (pre.length + 1) cap')).heap.size := by
      rw [setCell_size18]; have := hVal.size; omega
    have hVs := HB.out.2.2.2.2.1
    have hz3 : V.heap.size ≤ w3.heap.size := by have := hVal.size; omega
    have hgn2 : g ≠ w.heap.size + 2 ∧ g ≠ w.heap.size + 3 ∧ g ≠ w.heap.size + 4 := by rcases HB.out.2.2.1 with hq | hq <;> exact ⟨by omega, by omega, by omega⟩
    refine ⟨KeepsOthers.from ⟨hsz3, hko⟩ _, ⟨(Below.heap_setCell _ _ _ _ (by show w.heap.size + 3 ≠ w.heap.size + 1; omega)).trans (hold _ (by omega) (by omega)), (Below.heap_setCell _ _ _ _ (by show w.heap.size + 3 + 1 ≠ w.heap.size + 1; omega)).trans (hold _ (by omega) (by omega))⟩, ?_⟩
    have hgs : w3.grownBy (w3.setCell ⟨w.heap.size + 1, 0, none⟩ (.slice (some ⟨g', 0, none⟩) (pre.length + 1) cap')) (some (w.heap.size + 1)) := grownBy_setCell' w3 (w.heap.size + 1) _
    have hLV : Below w.heap.size w5 w3 := (HB.out.2.2.2.2.2.alloc (by omega) (.cells #[.string tx] 9)).grown hg3' (by simp; omega) (fun k e => by injection e with e; omega)
    refine ⟨g', cap', ?_, ?_, hgr, fun b e1 e2 e3 => (Below.heap_setCell _ _ _ _ (by show b ≠ w.heap.size + 1; exact e3)).trans ((hold b (by rcases HB.out.2.2.1 with hq | hq <;> omega) (by omega)).trans (HB.out.2.2.2.1 b e1 e2 e3)), by rw [setCell_size18]; have := hVal.size; omega, hLV.grown hgs (by omega) (fun k e => by cases e; omega)⟩
    · have h := heap_setCell_same w3 (w.heap.size + 1) 0 #[.slice (some ⟨g, 0, none⟩) pre.length c] 24 (.slice (some ⟨g', 0, none⟩) (pre.length + 1) cap') hb3
      rw [List.length_append]
      simpa using h
    · have h := World.ownsRow.kept hown' hgs (Or.inr (by simp [Value.ownBlock]; omega))
      rw [List.map_append, List.map_append, List.length_append, List.map_singleton, List.map_singleton, HX.out]
      exact h
  case done =>
    rintro D ys V hD' rfl ⟨g, c, h1, h2, h3, h4, h5, L⟩ hK
    have hc0 : V.cell? ⟨w.heap.size + 1, 0, none⟩ = some (.slice (some ⟨g, 0, none⟩) (pcsL (pcN s z) (pcN s z)).length c) := by simp [World.cell?, h1]
    gi_wp2
    refine ⟨by simp, .inl ⟨_, _, rfl, run_takeDeferred hK, ?_⟩⟩
    have hgp := grownBy_putObj' V D (.deferred none)
    refine ⟨_, results_tmp rfl _ _ _, .slice (some ⟨g, 0, none⟩) (pcsL (pcN s z) (pcN s z)).length c, rfl, ?_, LB.trans (L.grown hgp (by omega) (fun k e => by cases e; omega))⟩
    have hr := World.ownsRow.kept h2 hgp (row_far18 h2 fun j e => by cases e; exact ⟨_, hK, rfl⟩)
    rw [HP.out]
    unfold TxRow
    rw [List.length_map]
    exact hr
  case stop =>
    rintro D c pre W _ _ h _
    exact h.elim
end Go.Proofs.Ytaaagmgglolibaa
namespace Go.Proofs.Ytaaagmgglolibaa
open Go Go.RowKit

theorem pcL_len (s : ByteArray) (n : Int) : (pcL s n).length ≤ 100000 := by
  unfold pcL
  by_cases h : pcOk s n = true
  · rw [if_pos h, pcT_len]
    have hq : 1 ≤ n ∧ s.size ≤ 100000 := by unfold pcOk at h; simp at h; omega
    have := pcN_le s n.toNat (by omega)
    omega
  · rw [if_neg h]; simp

set_option maxRecDepth 100000 in
set_option maxHeartbeats 4000000 in
theorem walkPieces (s : ByteArray) (n : Int) (w : World) (_ : s.size ≤ maxLen) :
    Calls Try.prog 4 #[.string s, .int .i64 n] w fun e w' => e = .returned (.bool true) ∧ Below w.heap.size w w' := by
  by_cases hbig : 1048576 < s.size
  · go_enter Try.func4, Try.ntmps4
    go_wp2
    go_ret
    exact ⟨rfl, Below.refl _ _⟩
  have hn : s.size ≤ 1048576 := by omega
  have hlen := pcL_len s n
  obtain ⟨X, hX⟩ : ∃ X, pcL s n = X := ⟨_, rfl⟩
  have HS := hidS (fun W => sPieces s n W hn)
  have HI := hidS (fun W => iPieces s n W hn)
  rw [hX] at HS HI hlen
  have hq1 : ¬ ((1 : Int) + (X.length : Int) < 0) := by omega
  have hq2 : ((1 : Int) + (X.length : Int) != 1 + (X.length : Int)) = false := by simp
  clear hX
  go_enter Try.func4, Try.ntmps4
  go_wp2_with fail
  refine (HS.out _).mono ?_
  rintro e u1 ⟨v1, rfl, r1, L1⟩
  have HR1 := hidS r1
  have HL1 := hidS L1
  clear r1 L1
  go_wp2_with fail
  refine (HI.out _).mono ?_
  rintro e u2 ⟨v2, rfl, r2, L2⟩
  have HR2 := hidS r2
  have HL2 := hidS L2
  have HE2 := hidS (eqSS _ _ v2 v1 X u2 r2 (HR1.out.next L2) (by omega))
  clear r2 L2
  go_wp2_with fail
  refine HE2.out.mono ?_
  rintro e u3 ⟨rfl, n3, rfl⟩
  have L3 : Below u1.heap.size u1 (u2.drewN n3) := HL2.out.trans ⟨rfl, rfl, rfl, Nat.le_refl _, fun _ _ => rfl⟩
  have HM3 := hidS (markSS u1.heap.size v2 X 1 (u2.drewN n3) (HR2.out.next ⟨rfl, rfl, rfl, Nat.le_refl _, fun _ _ => rfl⟩) L3.size (by omega) (by omega) (by omega))
  have HL3 := hidS L3
  clear L3 HE2
  go_wp2_with fail
  refine HM3.out.mono ?_
  rintro e u4 ⟨rfl, r4, L4⟩
  have HR4 := hidS r4
  have HL4 := hidS (HL3.out.trans L4)
  have HH4 := hidS (heldSS u1.heap.size v2 X.length 1 u4 r4 (by omega) (by omega) (by omega))
  clear r4 L4 HM3
  go_wp2_with fail
  refine HH4.out.mono ?_
  rintro e u5 ⟨rfl, L5⟩
  have HL5 := hidS L5
  clear L5 HH4
  go_wp2_with fail
  refine (HI.out _).mono ?_
  rintro e u6 ⟨v6, rfl, r6, L6⟩
  have HL6 := hidS (chainS HL5.out L6)
  have HL16 := hidS (HL4.out.trans (Below.mono HL6.out HL4.out.size))
  have HE6 := hidS (eqSS _ _ v6 v1 X u6 r6 (HR1.out.next HL16.out) (by omega))
  clear r6 L6
  go_wp2_with fail
  refine HE6.out.mono ?_
  rintro e u7 ⟨rfl, n7, rfl⟩
  have L7 : Below u4.heap.size u4 (u6.drewN n7) := HL6.out.trans ⟨rfl, rfl, rfl, Nat.le_refl _, fun _ _ => rfl⟩
  have HH7 := hidS (heldSS u1.heap.size v2 X.length 1 (u6.drewN n7) (HR4.out.next L7) (by omega) (by omega) (by omega))
  have HL7 := hidS (HL4.out.trans (Below.mono L7 HL4.out.size))
  clear L7 HE6
  go_wp2_with fail
  refine HH7.out.mono ?_
  rintro e u8 ⟨rfl, L8⟩
  have HL8 := hidS (chainS HL1.out (HL7.out.trans (Below.mono L8 HL7.out.size)))
  clear L8
  go_wp2_with fail
  go_ret
  exact ⟨rfl, HL8.out⟩
end Go.Proofs.Ytaaagmgglolibaa
