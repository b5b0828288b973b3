/-
  The given l14Copy: a web copied, every list of its own.
-/
import Derived.Test.YtfbhohpbhjlihaaGreatFeWalkZz
import Derived.Test.YtfbhohpbhjlihaaGreatFeHelpZz
namespace Go.Proofs.YtfbhohpbhjlihaaGreat
open Go Go.RowKit

/-- Rows of rows of the call's own, or nothing yet. -/
def LMemV (base : Nat) (w : World) (v : Value) (rs : List Rw) : Prop := (v = .slice none 0 0 ∧ rs = []) ∨ ∃ g c, v = .slice (some ⟨g, 0, none⟩) rs.length c ∧ LMem base w g c rs
theorem LMemV.owns {base : Nat} {w : World} {v : Value} {rs : List Rw} (h : LMemV base w v rs) : w.ownsRow base 28 1 v rs.length (rs.map rwV) := by
  rcases h with ⟨rfl, rfl⟩ | ⟨g, c, rfl, h⟩
  · exact World.ownsRow_nil w base _ _
  · exact h.row
theorem LMemV.same {base : Nat} {w w' : World} {v : Value} {rs : List Rw} (h : LMemV base w v rs) (e : ∀ i, base ≤ i → i < w.heap.size → w'.heap[i]? = w.heap[i]?) : LMemV base w' v rs := by
  rcases h with h | ⟨g, c, rfl, h⟩
  · exact Or.inl h
  · exact Or.inr ⟨g, c, rfl, h.same (fun i hi => e i (h.all i hi).1 (h.all i hi).2)⟩
theorem LMemV.snoc {base : Nat} {w w8 : World} {v : Value} {gg cc : Nat} {rs : List Rw} {r : Rw} (h : LMemV base w v rs) (hown : w8.ownsRow base 28 1 (.slice (some ⟨gg, 0, none⟩) (rs.length + 1) cc) (rs.length + 1) (rs.map rwV ++ [rwV r]))
    (hgrow : w.grownBy w8 v.ownBlock) (hat : v.ownBlock = some gg ∨ gg = w.heap.size) (hr : IRow base w r.1 r.2.1 r.2.2) (hnew : ∀ i, base ≤ i → i < w.heap.size → (v.ownBlock = some i ∨ ∃ x ∈ rs, i = x.1) → i < r.1) : LMem base w8 gg cc (rs ++ [r]) := by
  have hrl := hr.lt
  rcases h with ⟨rfl, rfl⟩ | ⟨g, c, rfl, h⟩
  · have hgg : gg = w.heap.size := by
      rcases hat with e | e
      · cases e
      · exact e
    refine ⟨?_, fun x hx => ?_, by simp, fun x hx => ?_⟩
    · simpa [LRow] using hown
    · simp at hx; rw [hx]
      exact hr.kept hgrow (by simp [Value.ownBlock])
    · simp at hx; rw [hx]; omega
  · have hgl := h.row.lt
    refine h.snoc hown hgrow ?_ hr ?_ ?_
    · rcases hat with e | e
      · left; simpa [Value.ownBlock] using e
      · exact Or.inr e
    · have := hnew g hgl.1 hgl.2 (Or.inl rfl); omega
    · intro x hx
      have hx2 := (h.rows x hx).lt
      have := hnew x.1 hx2.1 hx2.2 (Or.inr ⟨x, hx, rfl⟩)
      omega
/-- Below B nothing has changed but one block. -/
structure KeptBut (B O : Nat) (w w' : World) : Prop where
  os : w'.os = w.os
  tape : w'.tape = w.tape
  output : w'.output = w.output
  size : w.heap.size ≤ w'.heap.size
  block : ∀ i, i < B → i ≠ O → w'.heap[i]? = w.heap[i]?
theorem KeptBut.refl (B O : Nat) (w : World) : KeptBut B O w w := ⟨rfl, rfl, rfl, Nat.le_refl _, fun _ _ _ => rfl⟩
theorem row_src_r {w : World} {n : Nat} {r : Rw} (hb : w.heap[n]? = some (.cells #[rwV r] 28 (0, 0))) : (∀ j u, [rwV r][j]? = some u → w.cell? ((⟨n, 0, none⟩ : Addr).add j) = some u) ∧ ∀ u ∈ [rwV r], u.oneCell' = true :=
  ⟨World.news_of_block (cs := #[rwV r]) hb, by simp [rwV, Value.oneCell']⟩

theorem owns_same14 {base : Nat} {w w' : World} {e : TypeId} {size g c n : Nat} {xs : List Value} (h : w.ownsRow base e size (.slice (some ⟨g, 0, none⟩) n c) n xs) (hh : w'.heap[g]? = w.heap[g]?) : w'.ownsRow base e size (.slice (some ⟨g, 0, none⟩) n c) n xs := by
  refine ⟨h.1, ?_⟩
  rcases h.2 with hn | ⟨g', cap, cur, e1, hb, hgg, rest⟩
  · exact .inl hn
  · refine .inr ⟨g', cap, cur, e1, hb, ?_, rest⟩
    injection e1 with e2 e3 e4
    injection e2 with e5
    injection e5 with e6
    rw [← e6, hh, e6]
    exact hgg
theorem owns_mono14 {base base' : Nat} {w : World} {e : TypeId} {size n : Nat} {v : Value} {xs : List Value} (h : w.ownsRow base e size v n xs) (hb : base' ≤ base) : w.ownsRow base' e size v n xs := ⟨h.1, h.2.imp id fun ⟨g', cap, cur, e, hg, r⟩ => ⟨g', cap, cur, e, Nat.le_trans hb hg, r⟩⟩

set_option maxRecDepth 100000 in
set_option maxHeartbeats 8000000 in
theorem sCopyW (am al : Option Addr) (cm cl : Nat) (ms : List Mk) (ls : List (List Int)) (w : World) (hm : MView w am ms) (hl : CView w al ls) (h60 : ms.length ≤ 60) (h4 : ∀ i, (mat ms i).length ≤ 4) (hl60 : ls.length ≤ 60) (hll : ∀ i, (cn ls i).length ≤ 60) :
    Calls Tryz.prog 166 #[.agg #[.slice am ms.length cm, .slice al ls.length cl]] w fun e w' => ∃ gm c ds v rs B1, e = .returned (.agg #[.slice (some ⟨gm, 0, none⟩) ms.length c, v]) ∧ DRow w.heap.size w' gm c ds ∧ dMarks ds = ms ∧ LMemV B1 w' v rs ∧ nums rs = ls ∧ gm < B1 ∧ (∀ d ∈ ds, d.2.1 < B1) ∧ w.heap.size ≤ B1 ∧ B1 ≤ w'.heap.size ∧ Below w.heap.size w w' := by
  obtain ⟨i0, hi0, hx0, hx1, hx2⟩ := info_parts Tryz.info2
  obtain ⟨j0, hj0, hy0, hy1, hy2⟩ := info_parts Tryz.infoL
  obtain ⟨W, hW⟩ : ∃ W, w.alloc (.cells #[.slice am ms.length cm, .slice al ls.length cl] 27) = W := ⟨_, rfl⟩
  obtain ⟨W2, hW2⟩ : ∃ W2, W.alloc (.cells #[.slice none 0 0, .slice none 0 0] 27) = W2 := ⟨_, rfl⟩
  have hB : Below w.heap.size w W := by rw [← hW]; exact (Below.refl _ _).alloc (Nat.le_refl _) _
  have hB2 : Below W.heap.size W W2 := by rw [← hW2]; exact (Below.refl _ _).alloc (Nat.le_refl _) _
  have s1 : W.heap.size = w.heap.size + 1 := by rw [← hW]; simp
  have s2 : W2.heap.size = w.heap.size + 1 + 1 := by rw [← hW2]; simp [s1]
  have hI0 : WebIn W w.heap.size am cm ms al cl ls := by rw [← hW]; exact WebIn.box hm hl
  have hI := hI0.below hB2
  have t1 : W2.heap[w.heap.size + 1]? = some (.cells #[.slice none 0 0, .slice none 0 0] 27) := by rw [← hW2, ← s1]; exact heap_alloc_new W _
  have HI := hidP hI
  have HB := hidP (chain hB hB2)
  have HT := hidP t1
  have k0 := hI.c0
  have HC := hidP (sCopyM am cm ms W2 hI.mv h60 h4)
  have HLL := hidP hll
  have HCV := hidP hl
  clear hm hl hB hB2 hI hI0 t1 h4 hll
  go_enter Tryz.func166, Tryz.ntmps166
  go_wp2_with fail
  refine HC.out.mono ?_
  rintro e w3 ⟨gm, c, ds, rfl, hrow, hdm, L3⟩
  obtain ⟨w4, hw4⟩ : ∃ w4, w3.alloc (.cells #[.slice (some ⟨gm, 0, none⟩) ms.length c, .slice none 0 0] 27) = w4 := ⟨_, rfl⟩
  have L4 : Below w3.heap.size w3 w4 := by rw [← hw4]; exact (Below.refl _ _).alloc (Nat.le_refl _) _
  have s4 : w4.heap.size = w3.heap.size + 1 := by rw [← hw4]; simp
  have z3 := L3.size
  have HO4 : Hid (w4.heap[w3.heap.size]? = some (.cells #[.slice (some ⟨gm, 0, none⟩) ms.length c, .slice none 0 0] 27)) := by show _ = _; rw [← hw4]; exact heap_alloc_new w3 _
  have HD4 := hidP (hrow.kept (r := none) ⟨L4.os, L4.tape, L4.output, L4.size, fun i hi _ => L4.block i hi⟩ (by simp))
  have HDB : Hid (gm < w3.heap.size ∧ ∀ d ∈ ds, d.2.1 < w3.heap.size) := ⟨hrow.lt.2, fun d hd => (hrow.2.1 d hd).1.lt2.2⟩
  have HDM := hidP hdm
  have HI4 := hidP (HI.out.below (chain L3 L4))
  have HT4 := hidP ((L4.block _ (by omega)).trans ((L3.block _ (by omega)).trans HT.out))
  have HB4 := hidP (chain (chain HB.out L3) L4)
  have c1 := HI4.out.c1
  have HW4 := hidP hw4
  clear hrow hdm L3 L4 HC HI HT hW hW2 k0 hw4
  go_wp2_with fail
  rw [HW4.out]
  obtain ⟨O, hO⟩ : ∃ O, w3.heap.size = O := ⟨_, rfl⟩
  rw [hO] at HO4 HDB s4 z3
  rw [hO]
  have HOO := hidP hO
  clear hO HW4
  have HLB : Hid (∀ wr, KeptBut (O + 1) O w4 wr → Below w.heap.size w wr) := fun wr K => ⟨K.os.trans HB4.out.os, K.tape.trans HB4.out.tape, K.output.trans HB4.out.output, Nat.le_trans HB4.out.size K.size, fun i hi => (K.block i (by omega) (by omega)).trans (HB4.out.block i hi)⟩
  go_loopw [4] (fun vi wr => ∃ (i : Nat) (v : Value) (rs : List Rw), i ≤ ls.length ∧ vi = .int .i64 i ∧ wr.heap[O]? = some (.cells #[.slice (some ⟨gm, 0, none⟩) ms.length c, v] 27) ∧ LMemV (O + 1) wr v rs ∧ rs.length = i ∧ nums rs = ls.take i ∧ KeptBut (O + 1) O w4 wr) (fun vi _ => ls.length - (intOf vi).toNat)
  case atStart => exact ⟨0, .slice none 0 0, [], Nat.zero_le _, rfl, HO4.out, Or.inl ⟨rfl, rfl⟩, rfl, rfl, KeptBut.refl _ _ _⟩
  case round =>
    clear HO4
    obtain ⟨i, v, rs, hi, rfl, hO', hlm, hrl, hnu, K⟩ := hrel
    obtain ⟨o0, o1, of, oO⟩ := two_cells hO'
    have LB := HLB.out wr K
    have hzk := K.size
    have c1 : wr.cell? ⟨w.heap.size, 1, none⟩ = some (.slice al ls.length cl) := (World.cell?_of_block (K.block w.heap.size (by omega) (by omega))).trans HI4.out.c1
    have HO5 := hidP hO'
    have HLM := hidP hlm
    have HNU := hidP hnu
    have HRL := hidP hrl
    have HK := hidP K
    have HLW := hidP LB
    by_cases hlt : i < ls.length
    · obtain ⟨bl, ol, rfl, hbl, hcs⟩ := (HCV.out.next LB).seg (by omega)
      have hblw : bl < w.heap.size := by
        obtain ⟨b', o', e', hb', -⟩ := HCV.out.seg (by omega)
        injection e' with e'
        injection e' with e1 e2
        omega
      obtain ⟨ai, ci, hci, hvi⟩ := hcs i hlt
      have hlci := HLL.out i
      have HVI := hidP hvi
      have hi0' : (0 : Int) ≤ (i : Int) := Int.natCast_nonneg _
      have hi1' : (i : Int) < (ls.length : Int) := by omega
      have HS0 : Hid (∀ W' : World, (∀ j, j < O + 1 → W'.heap[j]? = wr.heap[j]?) → W'.cell? ⟨O, 1, none⟩ = some v ∧ W'.cell? ⟨w.heap.size, 1, none⟩ = some (.slice (some ⟨bl, ol, none⟩) ls.length cl) ∧ W'.cell? ⟨bl, ol + i, none⟩ = some (.slice ai (cn ls i).length ci)) := fun W' h => ⟨(World.cell?_of_block (h O (by omega))).trans o1, (World.cell?_of_block (h w.heap.size (by omega))).trans c1, (World.cell?_of_block (h bl (by omega))).trans hci⟩
      have HTK : Hid (∀ g6 c6, nums (rs ++ [(g6, c6, cn ls i)]) = ls.take (i + 1)) := fun g6 c6 => by
        show _ = _
        rw [nums, List.map_append, ← nums, HNU.out, List.take_add_one]
        congr 1
        simp [cn, List.getD, hlt]
      clear hlm hnu hrl K LB hcs hvi hO'
      go_wp2_with fail
      refine wp_region_calm (S := fun W' => W'.cell? ⟨O, 1, none⟩ = some v ∧ W'.cell? ⟨w.heap.size, 1, none⟩ = some (.slice (some ⟨bl, ol, none⟩) ls.length cl) ∧ W'.cell? ⟨bl, ol + i, none⟩ = some (.slice ai (cn ls i).length ci)) (fuel := 5)
        [0, 1, 3, 4, 5, 6, 7] _ rfl (by kernel_rfl) (by kernel_rfl) (by kernel_rfl) (by kernel_rfl) (by kernel_rfl) (by kernel_rfl) (by kernel_rfl) (HS0.out _ (fun j _ => rfl)) (fun _ => ?_)
      iterate 7
        refine ⟨_, rfl, ?_⟩
        apply Exists.intro
        refine ⟨Or.inl ⟨by rfl, fun w' hw' => ?_⟩, ?_⟩
        · obtain ⟨e1, e2, e3⟩ := hw'
          first
          | (go_simp; done)
          | (go_simp; with_reducible rfl)
        simp only [Act.put, List.setIfInBounds_toArray]
      refine calm_one 2 (by kernel_rfl) rfl (fun K hK => ?_)
      go_simp
      obtain ⟨w5, hw5⟩ : ∃ w5, (wr.alloc (.cells #[] 2)).drew = w5 := ⟨_, rfl⟩
      have HL5 : Hid (Below wr.heap.size wr w5) := by show Below _ _ _; rw [← hw5]; exact ((Below.refl wr.heap.size wr).alloc (Nat.le_refl _) _).drew
      have HR5 : Hid (Row (O + 1) w5 wr.heap.size 0 []) := by show Row _ _ _ _ _; rw [← hw5]; exact Row.start wr (O + 1) (by omega)
      have hs5 : w5.heap.size = wr.heap.size + 1 := by rw [← hw5]; simp
      rw [hw5]
      clear hw5
      refine hK.out _ _ (HS0.out _ (fun j hj => HL5.out.block j (by omega))) (fun _ => ?_)
      clear hK K
      refine calm_one 8 (by kernel_rfl) rfl (fun K hK => ?_)
      refine step_append_at w5 rfl (.tmp 18) (.tmp 23) 28 rfl (O + 1) 2 i0 _ 1 8 Tryz.underlying28 hi0 hx0 hx1 hx2 rfl (by omega) wr.heap.size 0 0 [] rfl HR5.out ai (cn ls i).length ci ((cn ls i).map (Value.int .i64)) rfl (view_src14 (View.next HVI.out HL5.out)) (by unfold maxLen; omega) (by omega) (by omega) w5.heap.size rfl ?_
      intro g6 c6 w6 hown6 hgrow6 hat6 hlt6
      have HR6 : Hid (Row (O + 1) w6 g6 c6 (cn ls i)) := row_of14 hown6 rfl
      have hz6 := hgrow6.size
      have HL6 : Hid (Below wr.heap.size wr w6) := HL5.out.grown hgrow6 (by omega) (by intro q hq; cases hq; omega)
      have hg6b : wr.heap.size ≤ g6 := by rcases hat6 with e | e <;> omega
      clear hown6 hgrow6
      refine hK.out _ _ (HS0.out _ (fun j hj => HL6.out.block j (by omega))) (fun _ => ?_)
      clear hK K
      refine calm_one 9 (by kernel_rfl) rfl (fun K hK => ?_)
      go_simp
      obtain ⟨w7, hw7⟩ : ∃ w7, w6.alloc (.cells #[.slice (some ⟨g6, 0, none⟩) (cn ls i).length c6] 28) = w7 := ⟨_, rfl⟩
      have HN7 : Hid (w7.heap[w6.heap.size]? = some (.cells #[rwV (g6, c6, cn ls i)] 28 (0, 0))) := by show _ = _; rw [← hw7]; exact heap_alloc_new w6 _
      have L67 : Below w6.heap.size w6 w7 := by rw [← hw7]; exact (Below.refl _ _).alloc (Nat.le_refl _) _
      have hs7 : w7.heap.size = w6.heap.size + 1 := by rw [← hw7]; simp
      have HL7 := hidP (chain HL6.out L67)
      have HR7 := hidP (HR6.out.next L67 HR6.out.lt2.2)
      have HM7 := hidP (HLM.out.same (w' := w7) (fun j _ hj => HL7.out.block j hj))
      try rw [Nat.zero_add]
      try rw [hw7]
      clear hw7 L67
      refine hK.out _ _ (HS0.out _ (fun j hj => HL7.out.block j (by omega))) (fun _ => ?_)
      clear hK K
      refine calm_one 10 (by kernel_rfl) rfl (fun K hK => ?_)
      refine step_append_lies w7 rfl (.tmp 17) (.tmp 25) 25 rfl (O + 1) 28 j0 _ 1 24 Tryz.underlying25 hj0 hy0 hy1 hy2 rfl (by omega) v rs.length (rs.map rwV) rfl HM7.out.owns ⟨w6.heap.size, 0, none⟩ 1 1 [rwV (g6, c6, cn ls i)] rfl rfl (row_src_r HN7.out).1 (row_src_r HN7.out).2 (by omega) (by have := HRL.out; unfold maxLen; omega) (by have := HRL.out; omega) (by omega) w7.heap.size rfl ?_
      intro g8 c8 w8 hown8 hgrow8 hat8 hlt8
      have HM8 : Hid (LMem (O + 1) w8 g8 c8 (rs ++ [(g6, c6, cn ls i)])) := HM7.out.snoc hown8 hgrow8 hat8 HR7.out (fun j h1 h2 h3 => by
        have : j < wr.heap.size := by
          rcases HLM.out with ⟨hv0, hr0⟩ | ⟨g', c', hv0, hm0⟩
          · rcases h3 with e | ⟨x, hx, -⟩
            · rw [hv0] at e; cases e
            · rw [hr0] at hx; cases hx
          · rcases h3 with e | ⟨x, hx, rfl⟩
            · rw [hv0] at e
              have e' : g' = j := by simpa [Value.ownBlock] using e
              have := hm0.row.lt
              omega
            · exact (hm0.rows x hx).lt.2
        show j < g6
        omega)
      have HK8 : Hid (∀ j, j < O + 1 → w8.heap[j]? = wr.heap[j]?) := fun j hj => (hgrow8.block j (by omega) (fun e => by
        rcases HM7.out with ⟨hv0, hr0⟩ | ⟨g', c', hv0, hm0⟩
        · rw [hv0] at e; cases e
        · rw [hv0] at e
          have e' : j = g' := by simpa [Value.ownBlock] using e
          have := hm0.row.lt
          omega)).trans (HL7.out.block j (by omega))
      have hz8 := hgrow8.size
      have HKK : Hid (w8.os = wr.os ∧ w8.tape = wr.tape ∧ w8.output = wr.output) := ⟨hgrow8.os.trans HL7.out.os, hgrow8.tape.trans HL7.out.tape, hgrow8.output.trans HL7.out.output⟩
      clear hown8 hgrow8
      refine hK.out _ _ (HS0.out _ HK8.out) (fun _ => ?_)
      clear hK K
      refine calm_one 11 (by kernel_rfl) rfl (fun K hK => ?_)
      go_simp
      refine hK.out _ _ (HS0.out _ HK8.out) (fun _ => ?_)
      clear hK K
      refine wpAnyH_done (by kernel_rfl) ?_ _
      simp only [Exit.then]
      have t8 := (HK8.out O (by omega)).trans HO5.out
      obtain ⟨u0, u1, uf, uO⟩ := two_cells t8
      have uf1 := uf 1
      have HT9 := hidP (two_set (x := .slice (some ⟨g8, 0, none⟩) (rs.length + 1) c8) t8).2
      have HM9 : Hid (LMem (O + 1) (w8.setCell ⟨O, 1, none⟩ (.slice (some ⟨g8, 0, none⟩) (rs.length + 1) c8)) g8 c8 (rs ++ [(g6, c6, cn ls i)])) := HM8.out.same (fun j hj => Below.heap_setCell w8 ⟨O, 1, none⟩ _ j (fun e => by have h1 := (HM8.out.all j hj).1; have : j = O := e; omega))
      have HK9 : Hid (KeptBut (O + 1) O w4 (w8.setCell ⟨O, 1, none⟩ (.slice (some ⟨g8, 0, none⟩) (rs.length + 1) c8))) := ⟨HKK.out.1.trans HK.out.os, HKK.out.2.1.trans HK.out.tape, HKK.out.2.2.trans HK.out.output, by simp [World.setCell]; omega, fun j hj hne => (Below.heap_setCell w8 ⟨O, 1, none⟩ _ j (fun e => hne e)).trans ((HK8.out j hj).trans (HK.out.block j hj hne))⟩
      clear HS0 HL5 HR5 HL6 HR6 HL7 HR7 HM7 HN7 HM8 HK8 HKK t8 u0 uf
      go_wp2_with fail
      refine NoPanic.normal ?_
      go_wp2_with fail
      go_roundw
      case rel => exact ⟨i + 1, .slice (some ⟨g8, 0, none⟩) (rs.length + 1) c8, rs ++ [(g6, c6, cn ls i)], by omega, by go_num, HT9.out, Or.inr ⟨g8, c8, by simp, HM9.out⟩, by have := HRL.out; simp; omega, HTK.out g6 c6, HK9.out⟩
      case measure => simp [intOf]; omega
    · obtain rfl : i = ls.length := by omega
      have hnl : nums rs = ls := by rw [HNU.out, List.take_length]
      have p1 := (K.block (w.heap.size + 1) (by omega) (by omega)).trans HT4.out
      obtain ⟨q0, q1, qf, -⟩ := two_cells p1
      have qf0 := qf 0
      have qf1 := qf 1
      have HDW : Hid (DRow w.heap.size wr gm c ds) := by
        have h := HD4.out
        have hdb := HDB.out
        refine ⟨?_, fun d hd => ⟨?_, (h.2.1 d hd).2⟩, h.2.2⟩
        · exact owns_mono14 (owns_same14 h.1 (K.block gm (by omega) (by omega))) (by omega)
        · have h2 := (h.2.1 d hd).1
          have := hdb.2 d hd
          exact (h2.same (K.block d.2.1 (by omega) (by omega))).mono14 (by omega)
      have HF : Hid (∀ (u : Value) (w' : World), LMemV (O + 1) wr u rs → w' = (wr.setCell ⟨w.heap.size + 1, 0, none⟩ (.slice (some ⟨gm, 0, none⟩) ms.length c)).setCell ⟨w.heap.size + 1, 1, none⟩ u → ∃ gm' c' ds' v' rs' B1, Ending.returned (.agg #[.slice (some ⟨gm, 0, none⟩) ms.length c, u]) = Ending.returned (.agg #[.slice (some ⟨gm', 0, none⟩) ms.length c', v']) ∧ DRow w.heap.size w' gm' c' ds' ∧ dMarks ds' = ms ∧ LMemV B1 w' v' rs' ∧ nums rs' = ls ∧ gm' < B1 ∧ (∀ d ∈ ds', d.2.1 < B1) ∧ w.heap.size ≤ B1 ∧ B1 ≤ w'.heap.size ∧ Below w.heap.size w w') := fun u w' hu e => by
        have hfar : ∀ j, j ≠ w.heap.size + 1 → w'.heap[j]? = wr.heap[j]? := fun j hj => by
          rw [e, Below.heap_setCell _ ⟨w.heap.size + 1, 1, none⟩ _ j (fun e => hj e), Below.heap_setCell _ ⟨w.heap.size + 1, 0, none⟩ _ j (fun e => hj e)]
        have hsz : w'.heap.size = wr.heap.size := by rw [e]; simp [World.setCell]
        have hdb := HDB.out
        have hg2 := HD4.out.lt.1
        refine ⟨gm, c, ds, u, rs, O + 1, rfl, ?_, HDM.out, hu.same (fun j h1 _ => hfar j (by omega)), hnl, by omega, fun d hd => by have := hdb.2 d hd; omega, by omega, by omega, ?_⟩
        · refine ⟨owns_same14 HDW.out.1 (hfar gm (by omega)), fun d hd => ⟨?_, (HDW.out.2.1 d hd).2⟩, HDW.out.2.2⟩
          have h3 := (HD4.out.2.1 d hd).1.lt2.1
          exact (HDW.out.2.1 d hd).1.same (hfar d.2.1 (by omega))
        · rw [e]
          exact (HLW.out.setCell (by show w.heap.size ≤ w.heap.size + 1; omega) _).setCell (by show w.heap.size ≤ w.heap.size + 1; omega) _
      clear hlm hnu hrl LB hO' qf of K p1
      rcases HLM.out with ⟨hv0, hr0⟩ | ⟨gl, cl', hv0, hm0⟩
      · subst hv0
        have hq := HF.out (.slice none 0 0) _ (Or.inl ⟨rfl, hr0⟩) rfl
        have HQ := hidP hq
        clear hq HF
        go_wp2_with fail
        refine bodyPost_ret (v := .agg #[.slice (some ⟨gm, 0, none⟩) ms.length c, .slice none 0 0]) (by simp [results, Tryz.results166, go_sem, q0, q1]) rfl ?_
        exact HQ.out
      · subst hv0
        have hq := HF.out (.slice (some ⟨gl, 0, none⟩) rs.length cl') _ (Or.inr ⟨gl, cl', rfl, hm0⟩) rfl
        have HQ := hidP hq
        clear hq HF hm0
        go_wp2_with fail
        refine bodyPost_ret (v := .agg #[.slice (some ⟨gm, 0, none⟩) ms.length c, .slice (some ⟨gl, 0, none⟩) rs.length cl']) (by simp [results, Tryz.results166, go_sem, q0, q1]) rfl ?_
        exact HQ.out

end Go.Proofs.YtfbhohpbhjlihaaGreat
