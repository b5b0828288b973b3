/-
  The given l14Copy: a web copied, every list of its own.
  The given l15Copy.
  The given l16Copy.
  The given l16Gone.
  The given Gone.
  The walk of FnExactGone.
-/
import Derived.Test.YtbmljcpeonopmaaFeWalkZz
import Derived.Test.YtbmljcpeonopmaaFeHelpZz
import Derived.Test.YtbmljcpeonopmaaLkWebZz
import Derived.Test.YtbmljcpeonopmaaTwOkZz
import Derived.Test.YtbmljcpeonopmaaTwArgsZz
import Derived.Test.YtbmljcpeonopmaaGnOnlyZz
import Derived.Test.YtbmljcpeonopmaaLastZz
namespace Go.Proofs.Ytbmljcpeonopmaa
open Go Go.RowKit

/-- Rows of rows of the call's own, or nothing yet. -/
def LMemV (base : Nat) (w : World) (v : Value) (rs : List Rw) : Prop := (v = .slice none 0 0 ∧ rs = []) ∨ ∃ g c, v = .slice (some ⟨g, 0, none⟩) rs.length c ∧ LMem base w g c rs
theorem LMemV.owns {base : Nat} {w : World} {v : Value} {rs : List Rw} (h : LMemV base w v rs) : w.ownsRow base 41 1 v rs.length (rs.map rwV) := by
  rcases h with ⟨rfl, rfl⟩ | ⟨g, c, rfl, h⟩
  · exact World.ownsRow_nil w base _ _
  · exact h.row
theorem LMemV.same {base : Nat} {w w' : World} {v : Value} {rs : List Rw} (h : LMemV base w v rs) (e : ∀ i, base ≤ i → i < w.heap.size → w'.heap[i]? = w.heap[i]?) : LMemV base w' v rs := by
  rcases h with h | ⟨g, c, rfl, h⟩
  · exact Or.inl h
  · exact Or.inr ⟨g, c, rfl, h.same (fun i hi => e i (h.all i hi).1 (h.all i hi).2)⟩
theorem LMemV.snoc {base : Nat} {w w8 : World} {v : Value} {gg cc : Nat} {rs : List Rw} {r : Rw} (h : LMemV base w v rs) (hown : w8.ownsRow base 41 1 (.slice (some ⟨gg, 0, none⟩) (rs.length + 1) cc) (rs.length + 1) (rs.map rwV ++ [rwV r]))
    (hgrow : w.grownBy w8 v.ownBlock) (hat : v.ownBlock = some gg ∨ gg = w.heap.size) (hr : IRow base w r.1 r.2.1 r.2.2) (hnew : ∀ i, base ≤ i → i < w.heap.size → (v.ownBlock = some i ∨ ∃ x ∈ rs, i = x.1) → i < r.1) : LMem base w8 gg cc (rs ++ [r]) := by
  have hrl := hr.lt
  rcases h with ⟨rfl, rfl⟩ | ⟨g, c, rfl, h⟩
  · have hgg : gg = w.heap.size := by
      rcases hat with e | e
      · cases e
      · exact e
    refine ⟨?_, fun x hx => ?_, by simp, fun x hx => ?_⟩
    · simpa [LRow] using hown
    · simp at hx; rw [hx]
      exact hr.kept hgrow (by simp [Value.ownBlock])
    · simp at hx; rw [hx]; omega
  · have hgl := h.row.lt
    refine h.snoc hown hgrow ?_ hr ?_ ?_
    · rcases hat with e | e
      · left; simpa [Value.ownBlock] using e
      · exact Or.inr e
    · have := hnew g hgl.1 hgl.2 (Or.inl rfl); omega
    · intro x hx
      have hx2 := (h.rows x hx).lt
      have := hnew x.1 hx2.1 hx2.2 (Or.inr ⟨x, hx, rfl⟩)
      omega
/-- Below B nothing has changed but one block. -/
structure KeptBut (B O : Nat) (w w' : World) : Prop where
  os : w'.os = w.os
  tape : w'.tape = w.tape
  output : w'.output = w.output
  size : w.heap.size ≤ w'.heap.size
  block : ∀ i, i < B → i ≠ O → w'.heap[i]? = w.heap[i]?
theorem KeptBut.refl (B O : Nat) (w : World) : KeptBut B O w w := ⟨rfl, rfl, rfl, Nat.le_refl _, fun _ _ _ => rfl⟩
theorem row_src_r {w : World} {n : Nat} {r : Rw} (hb : w.heap[n]? = some (.cells #[rwV r] 41 (0, 0))) : (∀ j u, [rwV r][j]? = some u → w.cell? ((⟨n, 0, none⟩ : Addr).add j) = some u) ∧ ∀ u ∈ [rwV r], u.oneCell' = true :=
  ⟨World.news_of_block (cs := #[rwV r]) hb, by simp [rwV, Value.oneCell']⟩

theorem owns_same14 {base : Nat} {w w' : World} {e : TypeId} {size g c n : Nat} {xs : List Value} (h : w.ownsRow base e size (.slice (some ⟨g, 0, none⟩) n c) n xs) (hh : w'.heap[g]? = w.heap[g]?) : w'.ownsRow base e size (.slice (some ⟨g, 0, none⟩) n c) n xs := by
  refine ⟨h.1, ?_⟩
  rcases h.2 with hn | ⟨g', cap, cur, e1, hb, hgg, rest⟩
  · exact .inl hn
  · refine .inr ⟨g', cap, cur, e1, hb, ?_, rest⟩
    injection e1 with e2 e3 e4
    injection e2 with e5
    injection e5 with e6
    rw [← e6, hh, e6]
    exact hgg
theorem owns_mono14 {base base' : Nat} {w : World} {e : TypeId} {size n : Nat} {v : Value} {xs : List Value} (h : w.ownsRow base e size v n xs) (hb : base' ≤ base) : w.ownsRow base' e size v n xs := ⟨h.1, h.2.imp id fun ⟨g', cap, cur, e, hg, r⟩ => ⟨g', cap, cur, e, Nat.le_trans hb hg, r⟩⟩

set_option maxRecDepth 100000 in
set_option maxHeartbeats 8000000 in
theorem sCopyW (am al : Option Addr) (cm cl : Nat) (ms : List Mk) (ls : List (List Int)) (w : World) (hm : MView w am ms) (hl : CView w al ls) (h60 : ms.length ≤ 60) (h4 : ∀ i, (mat ms i).length ≤ 4) (hl60 : ls.length ≤ 60) (hll : ∀ i, (cn ls i).length ≤ 60) :
    Calls Try.prog 91 #[.agg #[.slice am ms.length cm, .slice al ls.length cl]] w fun e w' => ∃ gm c ds v rs B1, e = .returned (.agg #[.slice (some ⟨gm, 0, none⟩) ms.length c, v]) ∧ DRow w.heap.size w' gm c ds ∧ dMarks ds = ms ∧ LMemV B1 w' v rs ∧ nums rs = ls ∧ gm < B1 ∧ (∀ d ∈ ds, d.2.1 < B1) ∧ w.heap.size ≤ B1 ∧ B1 ≤ w'.heap.size ∧ Below w.heap.size w w' := by
  obtain ⟨i0, hi0, hx0, hx1, hx2⟩ := info_parts Try.info2
  obtain ⟨j0, hj0, hy0, hy1, hy2⟩ := info_parts Try.infoL
  obtain ⟨W, hW⟩ : ∃ W, w.alloc (.cells #[.slice am ms.length cm, .slice al ls.length cl] 105) = W := ⟨_, rfl⟩
  obtain ⟨W2, hW2⟩ : ∃ W2, W.alloc (.cells #[.slice none 0 0, .slice none 0 0] 105) = W2 := ⟨_, rfl⟩
  have hB : Below w.heap.size w W := by rw [← hW]; exact (Below.refl _ _).alloc (Nat.le_refl _) _
  have hB2 : Below W.heap.size W W2 := by rw [← hW2]; exact (Below.refl _ _).alloc (Nat.le_refl _) _
  have s1 : W.heap.size = w.heap.size + 1 := by rw [← hW]; simp
  have s2 : W2.heap.size = w.heap.size + 1 + 1 := by rw [← hW2]; simp [s1]
  have hI0 : WebIn W w.heap.size am cm ms al cl ls := by rw [← hW]; exact WebIn.box hm hl
  have hI := hI0.below hB2
  have t1 : W2.heap[w.heap.size + 1]? = some (.cells #[.slice none 0 0, .slice none 0 0] 105) := by rw [← hW2, ← s1]; exact heap_alloc_new W _
  have HI := hidP hI
  have HB := hidP (chain hB hB2)
  have HT := hidP t1
  have k0 := hI.c0
  have HC := hidP (sCopyM am cm ms W2 hI.mv h60 h4)
  have HLL := hidP hll
  have HCV := hidP hl
  clear hm hl hB hB2 hI hI0 t1 h4 hll
  go_enter Try.func91, Try.ntmps91
  go_wp2_with fail
  refine HC.out.mono ?_
  rintro e w3 ⟨gm, c, ds, rfl, hrow, hdm, L3⟩
  obtain ⟨w4, hw4⟩ : ∃ w4, w3.alloc (.cells #[.slice (some ⟨gm, 0, none⟩) ms.length c, .slice none 0 0] 105) = w4 := ⟨_, rfl⟩
  have L4 : Below w3.heap.size w3 w4 := by rw [← hw4]; exact (Below.refl _ _).alloc (Nat.le_refl _) _
  have s4 : w4.heap.size = w3.heap.size + 1 := by rw [← hw4]; simp
  have z3 := L3.size
  have HO4 : Hid (w4.heap[w3.heap.size]? = some (.cells #[.slice (some ⟨gm, 0, none⟩) ms.length c, .slice none 0 0] 105)) := by show _ = _; rw [← hw4]; exact heap_alloc_new w3 _
  have HD4 := hidP (hrow.kept (r := none) ⟨L4.os, L4.tape, L4.output, L4.size, fun i hi _ => L4.block i hi⟩ (by simp))
  have HDB : Hid (gm < w3.heap.size ∧ ∀ d ∈ ds, d.2.1 < w3.heap.size) := ⟨hrow.lt.2, fun d hd => (hrow.2.1 d hd).1.lt2.2⟩
  have HDM := hidP hdm
  have HI4 := hidP (HI.out.below (chain L3 L4))
  have HT4 := hidP ((L4.block _ (by omega)).trans ((L3.block _ (by omega)).trans HT.out))
  have HB4 := hidP (chain (chain HB.out L3) L4)
  have c1 := HI4.out.c1
  have HW4 := hidP hw4
  clear hrow hdm L3 L4 HC HI HT hW hW2 k0 hw4
  go_wp2_with fail
  rw [HW4.out]
  obtain ⟨O, hO⟩ : ∃ O, w3.heap.size = O := ⟨_, rfl⟩
  rw [hO] at HO4 HDB s4 z3
  rw [hO]
  have HOO := hidP hO
  clear hO HW4
  have HLB : Hid (∀ wr, KeptBut (O + 1) O w4 wr → Below w.heap.size w wr) := fun wr K => ⟨K.os.trans HB4.out.os, K.tape.trans HB4.out.tape, K.output.trans HB4.out.output, Nat.le_trans HB4.out.size K.size, fun i hi => (K.block i (by omega) (by omega)).trans (HB4.out.block i hi)⟩
  go_loopw [4] (fun vi wr => ∃ (i : Nat) (v : Value) (rs : List Rw), i ≤ ls.length ∧ vi = .int .i64 i ∧ wr.heap[O]? = some (.cells #[.slice (some ⟨gm, 0, none⟩) ms.length c, v] 105) ∧ LMemV (O + 1) wr v rs ∧ rs.length = i ∧ nums rs = ls.take i ∧ KeptBut (O + 1) O w4 wr) (fun vi _ => ls.length - (intOf vi).toNat)
  case atStart => exact ⟨0, .slice none 0 0, [], Nat.zero_le _, rfl, HO4.out, Or.inl ⟨rfl, rfl⟩, rfl, rfl, KeptBut.refl _ _ _⟩
  case round =>
    clear HO4
    obtain ⟨i, v, rs, hi, rfl, hO', hlm, hrl, hnu, K⟩ := hrel
    obtain ⟨o0, o1, of, oO⟩ := two_cells hO'
    have LB := HLB.out wr K
    have hzk := K.size
    have c1 : wr.cell? ⟨w.heap.size, 1, none⟩ = some (.slice al ls.length cl) := (World.cell?_of_block (K.block w.heap.size (by omega) (by omega))).trans HI4.out.c1
    have HO5 := hidP hO'
    have HLM := hidP hlm
    have HNU := hidP hnu
    have HRL := hidP hrl
    have HK := hidP K
    have HLW := hidP LB
    by_cases hlt : i < ls.length
    · obtain ⟨bl, ol, rfl, hbl, hcs⟩ := (HCV.out.next LB).seg (by omega)
      have hblw : bl < w.heap.size := by
        obtain ⟨b', o', e', hb', -⟩ := HCV.out.seg (by omega)
        injection e' with e'
        injection e' with e1 e2
        omega
      obtain ⟨ai, ci, hci, hvi⟩ := hcs i hlt
      have hlci := HLL.out i
      have HVI := hidP hvi
      have hi0' : (0 : Int) ≤ (i : Int) := Int.natCast_nonneg _
      have hi1' : (i : Int) < (ls.length : Int) := by omega
      have HS0 : Hid (∀ W' : World, (∀ j, j < O + 1 → W'.heap[j]? = wr.heap[j]?) → W'.cell? ⟨O, 1, none⟩ = some v ∧ W'.cell? ⟨w.heap.size, 1, none⟩ = some (.slice (some ⟨bl, ol, none⟩) ls.length cl) ∧ W'.cell? ⟨bl, ol + i, none⟩ = some (.slice ai (cn ls i).length ci)) := fun W' h => ⟨(World.cell?_of_block (h O (by omega))).trans o1, (World.cell?_of_block (h w.heap.size (by omega))).trans c1, (World.cell?_of_block (h bl (by omega))).trans hci⟩
      have HTK : Hid (∀ g6 c6, nums (rs ++ [(g6, c6, cn ls i)]) = ls.take (i + 1)) := fun g6 c6 => by
        show _ = _
        rw [nums, List.map_append, ← nums, HNU.out, List.take_add_one]
        congr 1
        simp [cn, List.getD, hlt]
      clear hlm hnu hrl K LB hcs hvi hO'
      go_wp2_with fail
      refine wp_region_calm (S := fun W' => W'.cell? ⟨O, 1, none⟩ = some v ∧ W'.cell? ⟨w.heap.size, 1, none⟩ = some (.slice (some ⟨bl, ol, none⟩) ls.length cl) ∧ W'.cell? ⟨bl, ol + i, none⟩ = some (.slice ai (cn ls i).length ci)) (fuel := 5)
        [0, 1, 3, 4, 5, 6, 7] _ rfl (by kernel_rfl) (by kernel_rfl) (by kernel_rfl) (by kernel_rfl) (by kernel_rfl) (by kernel_rfl) (by kernel_rfl) (HS0.out _ (fun j _ => rfl)) (fun _ => ?_)
      iterate 7
        refine ⟨_, rfl, ?_⟩
        apply Exists.intro
        refine ⟨Or.inl ⟨by rfl, fun w' hw' => ?_⟩, ?_⟩
        · obtain ⟨e1, e2, e3⟩ := hw'
          first
          | (go_simp; done)
          | (go_simp; with_reducible rfl)
        simp only [Act.put, List.setIfInBounds_toArray]
      refine calm_one 2 (by kernel_rfl) rfl (fun K hK => ?_)
      go_simp
      obtain ⟨w5, hw5⟩ : ∃ w5, (wr.alloc (.cells #[] 2)).drew = w5 := ⟨_, rfl⟩
      have HL5 : Hid (Below wr.heap.size wr w5) := by show Below _ _ _; rw [← hw5]; exact ((Below.refl wr.heap.size wr).alloc (Nat.le_refl _) _).drew
      have HR5 : Hid (Row (O + 1) w5 wr.heap.size 0 []) := by show Row _ _ _ _ _; rw [← hw5]; exact Row.start wr (O + 1) (by omega)
      have hs5 : w5.heap.size = wr.heap.size + 1 := by rw [← hw5]; simp
      rw [hw5]
      clear hw5
      refine hK.out _ _ (HS0.out _ (fun j hj => HL5.out.block j (by omega))) (fun _ => ?_)
      clear hK K
      refine calm_one 8 (by kernel_rfl) rfl (fun K hK => ?_)
      refine step_append_at w5 rfl (.tmp 18) (.tmp 23) 41 rfl (O + 1) 2 i0 _ 1 8 Try.underlying41 hi0 hx0 hx1 hx2 rfl (by omega) wr.heap.size 0 0 [] rfl HR5.out ai (cn ls i).length ci ((cn ls i).map (Value.int .i64)) rfl (view_src14 (View.next HVI.out HL5.out)) (by unfold maxLen; omega) (by omega) (by omega) w5.heap.size rfl ?_
      intro g6 c6 w6 hown6 hgrow6 hat6 hlt6
      have HR6 : Hid (Row (O + 1) w6 g6 c6 (cn ls i)) := row_of14 hown6 rfl
      have hz6 := hgrow6.size
      have HL6 : Hid (Below wr.heap.size wr w6) := HL5.out.grown hgrow6 (by omega) (by intro q hq; cases hq; omega)
      have hg6b : wr.heap.size ≤ g6 := by rcases hat6 with e | e <;> omega
      clear hown6 hgrow6
      refine hK.out _ _ (HS0.out _ (fun j hj => HL6.out.block j (by omega))) (fun _ => ?_)
      clear hK K
      refine calm_one 9 (by kernel_rfl) rfl (fun K hK => ?_)
      go_simp
      obtain ⟨w7, hw7⟩ : ∃ w7, w6.alloc (.cells #[.slice (some ⟨g6, 0, none⟩) (cn ls i).length c6] 41) = w7 := ⟨_, rfl⟩
      have HN7 : Hid (w7.heap[w6.heap.size]? = some (.cells #[rwV (g6, c6, cn ls i)] 41 (0, 0))) := by show _ = _; rw [← hw7]; exact heap_alloc_new w6 _
      have L67 : Below w6.heap.size w6 w7 := by rw [← hw7]; exact (Below.refl _ _).alloc (Nat.le_refl _) _
      have hs7 : w7.heap.size = w6.heap.size + 1 := by rw [← hw7]; simp
      have HL7 := hidP (chain HL6.out L67)
      have HR7 := hidP (HR6.out.next L67 HR6.out.lt2.2)
      have HM7 := hidP (HLM.out.same (w' := w7) (fun j _ hj => HL7.out.block j hj))
      try rw [Nat.zero_add]
      try rw [hw7]
      clear hw7 L67
      refine hK.out _ _ (HS0.out _ (fun j hj => HL7.out.block j (by omega))) (fun _ => ?_)
      clear hK K
      refine calm_one 10 (by kernel_rfl) rfl (fun K hK => ?_)
      refine step_append_lies w7 rfl (.tmp 17) (.tmp 25) 103 rfl (O + 1) 41 j0 _ 1 24 Try.underlying103 hj0 hy0 hy1 hy2 rfl (by omega) v rs.length (rs.map rwV) rfl HM7.out.owns ⟨w6.heap.size, 0, none⟩ 1 1 [rwV (g6, c6, cn ls i)] rfl rfl (row_src_r HN7.out).1 (row_src_r HN7.out).2 (by omega) (by have := HRL.out; unfold maxLen; omega) (by have := HRL.out; omega) (by omega) w7.heap.size rfl ?_
      intro g8 c8 w8 hown8 hgrow8 hat8 hlt8
      have HM8 : Hid (LMem (O + 1) w8 g8 c8 (rs ++ [(g6, c6, cn ls i)])) := HM7.out.snoc hown8 hgrow8 hat8 HR7.out (fun j h1 h2 h3 => by
        have : j < wr.heap.size := by
          rcases HLM.out with ⟨hv0, hr0⟩ | ⟨g', c', hv0, hm0⟩
          · rcases h3 with e | ⟨x, hx, -⟩
            · rw [hv0] at e; cases e
            · rw [hr0] at hx; cases hx
          · rcases h3 with e | ⟨x, hx, rfl⟩
            · rw [hv0] at e
              have e' : g' = j := by simpa [Value.ownBlock] using e
              have := hm0.row.lt
              omega
            · exact (hm0.rows x hx).lt.2
        show j < g6
        omega)
      have HK8 : Hid (∀ j, j < O + 1 → w8.heap[j]? = wr.heap[j]?) := fun j hj => (hgrow8.block j (by omega) (fun e => by
        rcases HM7.out with ⟨hv0, hr0⟩ | ⟨g', c', hv0, hm0⟩
        · rw [hv0] at e; cases e
        · rw [hv0] at e
          have e' : j = g' := by simpa [Value.ownBlock] using e
          have := hm0.row.lt
          omega)).trans (HL7.out.block j (by omega))
      have hz8 := hgrow8.size
      have HKK : Hid (w8.os = wr.os ∧ w8.tape = wr.tape ∧ w8.output = wr.output) := ⟨hgrow8.os.trans HL7.out.os, hgrow8.tape.trans HL7.out.tape, hgrow8.output.trans HL7.out.output⟩
      clear hown8 hgrow8
      refine hK.out _ _ (HS0.out _ HK8.out) (fun _ => ?_)
      clear hK K
      refine calm_one 11 (by kernel_rfl) rfl (fun K hK => ?_)
      go_simp
      refine hK.out _ _ (HS0.out _ HK8.out) (fun _ => ?_)
      clear hK K
      refine wpAnyH_done (by kernel_rfl) ?_ _
      simp only [Exit.then]
      have t8 := (HK8.out O (by omega)).trans HO5.out
      obtain ⟨u0, u1, uf, uO⟩ := two_cells t8
      have uf1 := uf 1
      have HT9 := hidP (two_set (x := .slice (some ⟨g8, 0, none⟩) (rs.length + 1) c8) t8).2
      have HM9 : Hid (LMem (O + 1) (w8.setCell ⟨O, 1, none⟩ (.slice (some ⟨g8, 0, none⟩) (rs.length + 1) c8)) g8 c8 (rs ++ [(g6, c6, cn ls i)])) := HM8.out.same (fun j hj => Below.heap_setCell w8 ⟨O, 1, none⟩ _ j (fun e => by have h1 := (HM8.out.all j hj).1; have : j = O := e; omega))
      have HK9 : Hid (KeptBut (O + 1) O w4 (w8.setCell ⟨O, 1, none⟩ (.slice (some ⟨g8, 0, none⟩) (rs.length + 1) c8))) := ⟨HKK.out.1.trans HK.out.os, HKK.out.2.1.trans HK.out.tape, HKK.out.2.2.trans HK.out.output, by simp [World.setCell]; omega, fun j hj hne => (Below.heap_setCell w8 ⟨O, 1, none⟩ _ j (fun e => hne e)).trans ((HK8.out j hj).trans (HK.out.block j hj hne))⟩
      clear HS0 HL5 HR5 HL6 HR6 HL7 HR7 HM7 HN7 HM8 HK8 HKK t8 u0 uf
      go_wp2_with fail
      refine NoPanic.normal ?_
      go_wp2_with fail
      go_roundw
      case rel => exact ⟨i + 1, .slice (some ⟨g8, 0, none⟩) (rs.length + 1) c8, rs ++ [(g6, c6, cn ls i)], by omega, by go_num, HT9.out, Or.inr ⟨g8, c8, by simp, HM9.out⟩, by have := HRL.out; simp; omega, HTK.out g6 c6, HK9.out⟩
      case measure => simp [intOf]; omega
    · obtain rfl : i = ls.length := by omega
      have hnl : nums rs = ls := by rw [HNU.out, List.take_length]
      have p1 := (K.block (w.heap.size + 1) (by omega) (by omega)).trans HT4.out
      obtain ⟨q0, q1, qf, -⟩ := two_cells p1
      have qf0 := qf 0
      have qf1 := qf 1
      have HDW : Hid (DRow w.heap.size wr gm c ds) := by
        have h := HD4.out
        have hdb := HDB.out
        refine ⟨?_, fun d hd => ⟨?_, (h.2.1 d hd).2⟩, h.2.2⟩
        · exact owns_mono14 (owns_same14 h.1 (K.block gm (by omega) (by omega))) (by omega)
        · have h2 := (h.2.1 d hd).1
          have := hdb.2 d hd
          exact (h2.same (K.block d.2.1 (by omega) (by omega))).mono14 (by omega)
      have HF : Hid (∀ (u : Value) (w' : World), LMemV (O + 1) wr u rs → w' = (wr.setCell ⟨w.heap.size + 1, 0, none⟩ (.slice (some ⟨gm, 0, none⟩) ms.length c)).setCell ⟨w.heap.size + 1, 1, none⟩ u → ∃ gm' c' ds' v' rs' B1, Ending.returned (.agg #[.slice (some ⟨gm, 0, none⟩) ms.length c, u]) = Ending.returned (.agg #[.slice (some ⟨gm', 0, none⟩) ms.length c', v']) ∧ DRow w.heap.size w' gm' c' ds' ∧ dMarks ds' = ms ∧ LMemV B1 w' v' rs' ∧ nums rs' = ls ∧ gm' < B1 ∧ (∀ d ∈ ds', d.2.1 < B1) ∧ w.heap.size ≤ B1 ∧ B1 ≤ w'.heap.size ∧ Below w.heap.size w w') := fun u w' hu e => by
        have hfar : ∀ j, j ≠ w.heap.size + 1 → w'.heap[j]? = wr.heap[j]? := fun j hj => by
          rw [e, Below.heap_setCell _ ⟨w.heap.size + 1, 1, none⟩ _ j (fun e => hj e), Below.heap_setCell _ ⟨w.heap.size + 1, 0, none⟩ _ j (fun e => hj e)]
        have hsz : w'.heap.size = wr.heap.size := by rw [e]; simp [World.setCell]
        have hdb := HDB.out
        have hg2 := HD4.out.lt.1
        refine ⟨gm, c, ds, u, rs, O + 1, rfl, ?_, HDM.out, hu.same (fun j h1 _ => hfar j (by omega)), hnl, by omega, fun d hd => by have := hdb.2 d hd; omega, by omega, by omega, ?_⟩
        · refine ⟨owns_same14 HDW.out.1 (hfar gm (by omega)), fun d hd => ⟨?_, (HDW.out.2.1 d hd).2⟩, HDW.out.2.2⟩
          have h3 := (HD4.out.2.1 d hd).1.lt2.1
          exact (HDW.out.2.1 d hd).1.same (hfar d.2.1 (by omega))
        · rw [e]
          exact (HLW.out.setCell (by show w.heap.size ≤ w.heap.size + 1; omega) _).setCell (by show w.heap.size ≤ w.heap.size + 1; omega) _
      clear hlm hnu hrl LB hO' qf of K p1
      rcases HLM.out with ⟨hv0, hr0⟩ | ⟨gl, cl', hv0, hm0⟩
      · subst hv0
        have hq := HF.out (.slice none 0 0) _ (Or.inl ⟨rfl, hr0⟩) rfl
        have HQ := hidP hq
        clear hq HF
        go_wp2_with fail
        refine bodyPost_ret (v := .agg #[.slice (some ⟨gm, 0, none⟩) ms.length c, .slice none 0 0]) (by simp [results, Try.results91, go_sem, q0, q1]) rfl ?_
        exact HQ.out
      · subst hv0
        have hq := HF.out (.slice (some ⟨gl, 0, none⟩) rs.length cl') _ (Or.inr ⟨gl, cl', rfl, hm0⟩) rfl
        have HQ := hidP hq
        clear hq HF hm0
        go_wp2_with fail
        refine bodyPost_ret (v := .agg #[.slice (some ⟨gm, 0, none⟩) ms.length c, .slice (some ⟨gl, 0, none⟩) rs.length cl']) (by simp [results, Try.results91, go_sem, q0, q1]) rfl ?_
        exact HQ.out

end Go.Proofs.Ytbmljcpeonopmaa
namespace Go.Proofs.Ytbmljcpeonopmaa
open Go Go.RowKit

theorem drow_stay {base : Nat} {w w' : World} {g c : Nat} {ds : List Dm} (h : DRow base w g c ds) (e : ∀ b, base ≤ b → b < w.heap.size → w'.heap[b]? = w.heap[b]?) : DRow base w' g c ds :=
  ⟨owns_same14 h.1 (e g h.lt.1 h.lt.2), fun d hd => ⟨(h.2.1 d hd).1.same (e d.2.1 (h.2.1 d hd).1.lt2.1 (h.2.1 d hd).1.lt2.2), (h.2.1 d hd).2⟩, h.2.2⟩
theorem copy_ow {base B1 gm c : Nat} {w : World} {ds : List Dm} {ms : List Mk} {ls : List (List Int)} {v : Value} {rs : List Rw} (h1 : DRow base w gm c ds) (h2 : dMarks ds = ms) (h3 : LMemV B1 w v rs) (h4 : nums rs = ls) (h5 : base ≤ B1) : OwW false (Btw base w.heap.size) w (.slice (some ⟨gm, 0, none⟩) ms.length c) v ms ls := by
  have hl : ds.length = ms.length := by rw [← h2, dMarks_length]
  have hr : rs.length = ls.length := by rw [← h4, nums]; simp
  have hc := h1.cap
  have hv : ∃ al cl, v = .slice al ls.length cl ∧ ls.length ≤ cl ∧ ∀ w', Sta (Btw base w.heap.size) w w' → CView w' al ls := by
    rcases h3 with ⟨rfl, rfl⟩ | ⟨gl, cl, rfl, hm⟩
    · have : ls = [] := by rw [← h4]; rfl
      subst this
      exact ⟨none, 0, rfl, Nat.le_refl _, fun _ _ => Or.inl rfl⟩
    · have hcap : rs.length ≤ cl := by
        obtain ⟨-, ⟨e, -⟩ | ⟨g', cap, cur, e, -, -, hcc, -⟩⟩ := hm.row
        · cases e
        · injection e with e1 e2 e3; omega
      refine ⟨some ⟨gl, 0, none⟩, cl, by rw [hr], by omega, fun w' hs => ?_⟩
      have := (hm.same (w' := w') (fun b hb => hs.2 b ⟨by have := (hm.all b hb).1; omega, (hm.all b hb).2⟩)).view
      rw [h4] at this
      exact this.cview
  obtain ⟨al, cl, e, hcl, hcv⟩ := hv
  refine ⟨fun b hb => hb.2, fun h => (by cases h), ⟨_, c, al, cl, rfl, e, by omega, hcl, fun w' hs => ⟨?_, hcv w' hs⟩⟩⟩
  have := (drow_stay h1 (w' := w') (fun b hb1 hb2 => hs.2 b ⟨hb1, hb2⟩)).view
  rw [h2] at this
  exact this
/-- What l15Copy hands out. -/
def CpyT (base : Nat) (w : World) (v : Value) (ts : List Wb) : Prop := ∃ S vm vl, TsR false base w v ts S vm vl
theorem CpyT.next {base : Nat} {w w' : World} {v : Value} {ts : List Wb} (h : CpyT base w v ts) (L : Below w.heap.size w w') : CpyT base w' v ts := by
  obtain ⟨S, vm, vl, h⟩ := h
  exact ⟨S, vm, vl, h.next L⟩

set_option maxRecDepth 100000 in
set_option maxHeartbeats 8000000 in
theorem sCopyT (v0 : Bool) (aw : Option Addr) (cw : Nat) (d : Int) (ts : List Wb) (w : World) (hv : WbView v0 w aw ts) (hok : towB d ts = true) :
    Calls Try.prog 67 #[.agg #[.int .i64 d, .slice aw ts.length cw]] w fun e w' => ∃ vt, e = .returned (.agg #[.int .i64 d, vt]) ∧ CpyT w.heap.size w' vt ts ∧ Below w.heap.size w w' := by
  obtain ⟨j0, hj0, hy0, hy1, hy2⟩ := info_parts Try.info105
  obtain ⟨W1, hW1⟩ : ∃ W, w.alloc (.cells #[.int .i64 d, .slice aw ts.length cw] 32) = W := ⟨_, rfl⟩
  obtain ⟨W2, hW2⟩ : ∃ W, W1.alloc (.cells #[.int .i64 0, .slice none 0 0] 32) = W := ⟨_, rfl⟩
  obtain ⟨W, hW⟩ : ∃ W, W2.alloc (.cells #[.int .i64 d, .slice none 0 0] 32) = W := ⟨_, rfl⟩
  have s1 : W1.heap.size = w.heap.size + 1 := by rw [← hW1]; simp
  have s2 : W2.heap.size = w.heap.size + 1 + 1 := by rw [← hW2]; simp [s1]
  have s3 : W.heap.size = w.heap.size + 1 + 1 + 1 := by rw [← hW]; simp [s2]
  have b1 : Below w.heap.size w W1 := by rw [← hW1]; exact (Below.refl _ _).alloc (Nat.le_refl _) _
  have b2 : Below W1.heap.size W1 W2 := by rw [← hW2]; exact (Below.refl _ _).alloc (Nat.le_refl _) _
  have b3 : Below W2.heap.size W2 W := by rw [← hW]; exact (Below.refl _ _).alloc (Nat.le_refl _) _
  have t0 : Two W w.heap.size (.int .i64 d) (.slice aw ts.length cw) 32 := by
    have : Two W1 w.heap.size (.int .i64 d) (.slice aw ts.length cw) 32 := by rw [← hW1]; exact Two.new w _ _ _
    exact (this.below b2).below b3
  have t1 : Two W (w.heap.size + 1) (.int .i64 0) (.slice none 0 0) 32 := by
    have : Two W2 (w.heap.size + 1) (.int .i64 0) (.slice none 0 0) 32 := by rw [← hW2, ← s1]; exact Two.new W1 _ _ _
    exact this.below b3
  have t2 : Two W (w.heap.size + 1 + 1) (.int .i64 d) (.slice none 0 0) 32 := by rw [← hW, ← s2]; exact Two.new W2 _ _ _
  have HB := hidP (chain (chain b1 b2) b3)
  have HT := hidP (And.intro t0 (And.intro t1 t2))
  have HSZ := hidP s3
  have HV := hidP hv
  have H4 := hidP (tow_at hok).1
  have HWB : Hid (∀ i, i < ts.length → webB (wnth ts i).1 (wnth ts i).2 = true) := fun i hi => tow_web hok (by have := H4.out; omega)
  have HWW : Hid (((w.alloc (.cells #[.int .i64 d, .slice aw ts.length cw] 32)).alloc (.cells #[.int .i64 0, .slice none 0 0] 32)).alloc (.cells #[.int .i64 d, .slice none 0 0] 32) = W) := by show _ = _; rw [hW1, hW2, hW]
  have R0 := hidP (TsR.start false W.heap.size W)
  clear hv hok b1 b2 b3 t0 t1 t2 s1 s2 s3 hW hW1 hW2
  go_enter Try.func67, Try.ntmps67
  go_upto_region 2 with fail
  rw [HWW.out]
  clear HWW
  go_wp2_with fail
  go_loopw [4] (fun vi wr => ∃ (i : Nat) (v : Value) (us : List Wb) (S : Nat → Nat → Prop) (vm vl : Nat → Value), i ≤ ts.length ∧ vi = .int .i64 i ∧ us = ts.take i ∧ us.length = i ∧ Two wr (w.heap.size + 1 + 1) (.int .i64 d) v 32 ∧ TsR false W.heap.size wr v us S vm vl ∧ Cgd (fun b => b = w.heap.size + 1 + 1) W wr) (fun vi _ => ts.length - (intOf vi).toNat)
  case atStart => exact ⟨0, _, [], _, _, _, Nat.zero_le _, rfl, rfl, rfl, HT.out.2.2, R0.out, Cgd.refl _ _⟩
  case round =>
    obtain ⟨i, v, us, S, vm, vl, hi, rfl, hus, hul, hto, htr, K⟩ := hrel
    have hzk := K.2.2.2.1
    have hs3 := HSZ.out
    have LW : Below w.heap.size w wr := HB.out.trans (K.below (by omega) (fun b hb => by omega))
    have LX : ∀ b, b < W.heap.size → b ≠ w.heap.size + 1 + 1 → wr.heap[b]? = W.heap[b]? := fun b h1 h2 => K.2.2.2.2 b h1 h2
    have c1 : wr.cell? ⟨w.heap.size, 1, none⟩ = some (.slice aw ts.length cw) := (World.cell?_of_block (LX w.heap.size (by omega) (by omega))).trans HT.out.1.c1
    have HTO := hidP hto
    have HTR := hidP htr
    have HK := hidP K
    have HLW := hidP LW
    have HUS := hidP (And.intro hus hul)
    have HLX := hidP LX
    by_cases hlt : i < ts.length
    · obtain ⟨wb, wo, am, cm, al, cl, rfl, hwb, d0, d1, hmv, hcv, -⟩ := (HV.out.next LW).web hlt
      have hwbw : wb < w.heap.size := by
        obtain ⟨b', o', _, _, _, _, e', hb', -⟩ := HV.out.web hlt
        injection e' with e'
        injection e' with e1 e2
        omega
      have hweb := HWB.out i hlt
      have hi0 : (0 : Int) ≤ (i : Int) := Int.natCast_nonneg _
      have hi1 : (i : Int) < (ts.length : Int) := by omega
      have hi3 : i < 4 := by have := H4.out; omega
      obtain ⟨q1, q2, q3, q4⟩ := web_small hweb
      have o1 := hto.c1
      have hol := hto.lt
      have hcw := c1
      have HS0 : Hid (∀ W' : World, (∀ j, j < W.heap.size → W'.heap[j]? = wr.heap[j]?) → W'.cell? ⟨w.heap.size + 1 + 1, 1, none⟩ = some v ∧ W'.cell? ⟨w.heap.size, 1, none⟩ = some (.slice (some ⟨wb, wo, none⟩) ts.length cw) ∧ W'.cell? ⟨wb, wo + i * 2, none⟩ = some (.slice am (wnth ts i).1.length cm) ∧ W'.cell? ⟨wb, wo + i * 2 + 1, none⟩ = some (.slice al (wnth ts i).2.length cl)) := fun W' h => ⟨(World.cell?_of_block (h (w.heap.size + 1 + 1) (by omega))).trans o1, (World.cell?_of_block (h w.heap.size (by omega))).trans hcw, (World.cell?_of_block (a := ⟨wb, wo + i * 2, none⟩) (h wb (by omega))).trans d0, (World.cell?_of_block (a := ⟨wb, wo + i * 2 + 1, none⟩) (h wb (by omega))).trans d1⟩
      have HC := hidP (sCopyW am al cm cl (wnth ts i).1 (wnth ts i).2 wr.drew (hmv.next (Below.refl _ _).drew) (hcv.next (Below.refl _ _).drew) q1 q2 q3 q4)
      obtain ⟨ml, hml⟩ : ∃ ml, (wnth ts i).1.length = ml := ⟨_, rfl⟩
      obtain ⟨ll, hll⟩ : ∃ ll, (wnth ts i).2.length = ll := ⟨_, rfl⟩
      have HID := hidP (And.intro hml hll)
      rw [hml] at HC HS0 d0
      rw [hll] at HC HS0 d1
      clear hml hll hto htr K LW LX hmv hcv hus hul hweb q1 q2 q3 q4 o1 hcw
      go_wp2_with fail
      clear c1 d0 d1
      refine wp_region_calm (S := fun W' => W'.cell? ⟨w.heap.size + 1 + 1, 1, none⟩ = some v ∧ W'.cell? ⟨w.heap.size, 1, none⟩ = some (.slice (some ⟨wb, wo, none⟩) ts.length cw) ∧ W'.cell? ⟨wb, wo + i * 2, none⟩ = some (.slice am ml cm) ∧ W'.cell? ⟨wb, wo + i * 2 + 1, none⟩ = some (.slice al ll cl)) (fuel := 4)
        [0, 1, 2, 3, 4, 5, 6] _ rfl (by kernel_rfl) (by kernel_rfl) (by kernel_rfl) (by kernel_rfl) (by kernel_rfl) (by kernel_rfl) (by kernel_rfl) (HS0.out _ (fun j _ => rfl)) (fun _ => ?_)
      iterate 7
        refine ⟨_, rfl, ?_⟩
        apply Exists.intro
        refine ⟨Or.inl ⟨by rfl, fun w' hw' => ?_⟩, ?_⟩
        · obtain ⟨e1, e2, e3, e4⟩ := hw'
          first
          | (go_simp; done)
          | (go_simp; with_reducible rfl)
        simp only [Act.put, List.setIfInBounds_toArray]
      refine calm_one 7 (by kernel_rfl) rfl (fun K hK => ?_)
      go_simp
      refine HC.out.mono ?_
      rintro e w5 ⟨gm, c, dd, v3, rs, B1, rfl, hd1, hd2, hl1, hl2, -, -, hb1, -, L5⟩
      have L5' : Below wr.heap.size wr w5 := ⟨L5.os, L5.tape, L5.output, L5.size, L5.block⟩
      have how := copy_ow hd1 hd2 hl1 hl2 hb1
      have hdz : wr.drew.heap.size = wr.heap.size := rfl
      rw [hdz] at how
      rw [HID.out.1] at how
      obtain ⟨am3, cm3, al3, cl3, e31, rfl, -, -, -⟩ := how.view
      rw [HID.out.2] at how
      have HOW := hidP how
      have HL5 := hidP L5'
      have hz5 := L5'.size
      clear hd1 hd2 hl1 hl2 hb1 L5 L5' how hdz e31 HC
      rw [HID.out.2]
      refine hK.out _ _ (HS0.out _ (fun j hj => HL5.out.block j (by omega))) (fun _ => ?_)
      clear hK K
      refine calm_one 8 (by kernel_rfl) rfl (fun K hK => ?_)
      go_simp
      obtain ⟨w7, hw7⟩ : ∃ w7, w5.alloc (.cells #[.slice (some ⟨gm, 0, none⟩) ml c, .slice al3 ll cl3] 105) = w7 := ⟨_, rfl⟩
      have HN7 : Hid (w7.heap[w5.heap.size]? = some (.cells #[.slice (some ⟨gm, 0, none⟩) ml c, .slice al3 ll cl3] 105 (0, 0))) := by show _ = _; rw [← hw7]; exact heap_alloc_new w5 _
      have L57 : Below w5.heap.size w5 w7 := by rw [← hw7]; exact (Below.refl _ _).alloc (Nat.le_refl _) _
      have hs7 : w7.heap.size = w5.heap.size + 1 := by rw [← hw7]; simp
      have HL7 := hidP (chain HL5.out L57)
      have HTR7 := hidP (HTR.out.next HL7.out)
      have HOW7 := hidP (HOW.out.next L57)
      try rw [Nat.zero_add]
      try rw [hw7]
      clear hw7 L57
      refine hK.out _ _ (HS0.out _ (fun j hj => HL7.out.block j (by omega))) (fun _ => ?_)
      clear hK K
      refine calm_one 9 (by kernel_rfl) rfl (fun K hK => ?_)
      refine step_append_lies w7 rfl (.tmp 16) (.tmp 23) 30 rfl W.heap.size 105 j0 _ 2 48 Try.underlying30 hj0 hy0 hy1 hy2 rfl (by omega) v us.length (webL vm vl us.length) rfl HTR7.out.row ⟨w5.heap.size, 0, none⟩ 1 1 [.slice (some ⟨gm, 0, none⟩) ml c, .slice al3 ll cl3] rfl rfl (World.news_of_block (cs := #[.slice (some ⟨gm, 0, none⟩) ml c, .slice al3 ll cl3]) HN7.out) (by simp [Value.oneCell']) (by omega) (by have := HUS.out.2; unfold maxLen; omega) (by have := HUS.out.2; omega) (by omega) w7.heap.size rfl ?_
      intro g8 c8 w8 hown8 hgrow8 hat8 hlt8
      have hlow := HTR.out.bnd
      have hul := HUS.out.2
      have hrowlt : ∀ q, v.ownBlock = some q → W.heap.size ≤ q ∧ q < wr.heap.size := fun q e => hlow q (Or.inl e)
      have hOW8 : OwW false (Btw wr.heap.size w5.heap.size) w8 (.slice (some ⟨gm, 0, none⟩) ml c) (.slice al3 ll cl3) (wnth ts i).1 (wnth ts i).2 := HOW7.out.sm ⟨hgrow8.size, fun b hb => hgrow8.block b (by have := hb.2; omega) (fun e => by have := hrowlt b e.symm; have := hb.1; omega)⟩
      have HM8 := hidP (HTR.out.snoc (w8 := w8) (t := wnth ts i) hown8 (by have := hgrow8.size; omega) (fun b hb hne => (hgrow8.block b (by omega) (fun e => hne e.symm)).trans (HL7.out.block b hb)) hOW8 (fun b hb => ⟨hb.1, fun e => by
        rcases hat8 with h1 | h1
        · have := hrowlt g8 h1; have := hb.1; omega
        · have := hb.2; omega⟩) (by rcases hat8 with h1 | h1; exact Or.inl h1; exact Or.inr (by omega)) (by omega) (by omega))
      have HG8 : Hid (W.heap.size ≤ g8) := by
        show _ ≤ _
        rcases hat8 with h1 | h1
        · exact (hrowlt g8 h1).1
        · omega
      have HK8 : Hid (∀ j, j < W.heap.size → w8.heap[j]? = wr.heap[j]?) := fun j hj => (hgrow8.block j (by omega) (fun e => by have := hrowlt j e.symm; omega)).trans (HL7.out.block j (by omega))
      have hz8 := hgrow8.size
      have HKK : Hid (w8.os = wr.os ∧ w8.tape = wr.tape ∧ w8.output = wr.output) := ⟨hgrow8.os.trans HL7.out.os, hgrow8.tape.trans HL7.out.tape, hgrow8.output.trans HL7.out.output⟩
      clear hown8 hgrow8 hlow hrowlt hOW8 hul
      refine hK.out _ _ (HS0.out _ HK8.out) (fun _ => ?_)
      clear hK K
      refine calm_one 10 (by kernel_rfl) rfl (fun K hK => ?_)
      go_simp
      refine hK.out _ _ (HS0.out _ HK8.out) (fun _ => ?_)
      clear hK K
      refine wpAnyH_done (by kernel_rfl) ?_ _
      simp only [Exit.then]
      have t8 : Two w8 (w.heap.size + 1 + 1) (.int .i64 d) v 32 := (HK8.out (w.heap.size + 1 + 1) (by omega)).trans HTO.out
      have u1 := t8.c1
      have uf1 := t8.frozen 1
      have HT9 := hidP (t8.set1 (.slice (some ⟨g8, 0, none⟩) (us.length + 1) c8))
      have HM9 := hidP (HM8.out.sm (w' := w8.setCell ⟨w.heap.size + 1 + 1, 1, none⟩ (.slice (some ⟨g8, 0, none⟩) (us.length + 1) c8)) ⟨by rw [setCell_size]; exact Nat.le_refl _, fun b hb => Below.heap_setCell w8 ⟨w.heap.size + 1 + 1, 1, none⟩ _ b (fun e => by have h1 := (HM8.out.bnd b (by simpa using hb)).1; have e' : b = w.heap.size + 1 + 1 := e; omega)⟩)
      have HK9 : Hid (Cgd (fun b => b = w.heap.size + 1 + 1) W (w8.setCell ⟨w.heap.size + 1 + 1, 1, none⟩ (.slice (some ⟨g8, 0, none⟩) (us.length + 1) c8))) := ⟨HKK.out.1.trans HK.out.1, HKK.out.2.1.trans HK.out.2.1, HKK.out.2.2.trans HK.out.2.2.1, by rw [setCell_size]; omega, fun j hj hne => (Below.heap_setCell w8 ⟨w.heap.size + 1 + 1, 1, none⟩ _ j (fun e => hne e)).trans ((HK8.out j hj).trans (HK.out.2.2.2.2 j hj hne))⟩
      clear HS0 HL5 HL7 HTR7 HN7 HM8 HK8 HKK t8 HOW HOW7
      go_wp2_with fail
      refine NoPanic.normal ?_
      go_wp2_with fail
      go_roundw
      case rel => exact ⟨i + 1, _, us ++ [wnth ts i], _, _, _, by omega, by go_num, by rw [HUS.out.1, List.take_add_one]; congr 1; simp [wnth, List.getD, hlt], by simp [HUS.out.2], HT9.out, HM9.out, HK9.out⟩
      case measure => simp [intOf]; omega
    · obtain rfl : i = ts.length := by omega
      have hut : us = ts := by rw [hus, List.take_length]
      subst hut
      obtain ⟨a, cc, rfl, -, -⟩ := htr.form
      have p1 : Two wr (w.heap.size + 1) (.int .i64 0) (.slice none 0 0) 32 := (LX (w.heap.size + 1) (by omega) (by omega)).trans HT.out.2.1
      have q0 := p1.c0
      have q1 := p1.c1
      have qf0 := p1.frozen 0
      have qf1 := p1.frozen 1
      have o0 := hto.c0
      have o1 := hto.c1
      have p2 := (p1.set0 (.int .i64 d)).set1 (.slice a us.length cc)
      have r0 := p2.c0
      have r1 := p2.c1
      obtain ⟨wz, hwz⟩ : ∃ wz, (wr.setCell ⟨w.heap.size + 1, 0, none⟩ (.int .i64 d)).setCell ⟨w.heap.size + 1, 1, none⟩ (.slice a us.length cc) = wz := ⟨_, rfl⟩
      have hfar : ∀ j, j ≠ w.heap.size + 1 → wz.heap[j]? = wr.heap[j]? := fun j hj => by
        rw [← hwz, Below.heap_setCell _ ⟨w.heap.size + 1, 1, none⟩ _ j (fun e => hj e), Below.heap_setCell _ ⟨w.heap.size + 1, 0, none⟩ _ j (fun e => hj e)]
      have hsz : wz.heap.size = wr.heap.size := by rw [← hwz]; simp [World.setCell]
      have LE : Below w.heap.size w wz := by rw [← hwz]; exact (LW.setCell (by show w.heap.size ≤ w.heap.size + 1; omega) _).setCell (by show w.heap.size ≤ w.heap.size + 1; omega) _
      have hF := htr.sm (w' := wz) ⟨by omega, fun b hb => hfar b (fun e => by have := (htr.bnd b hb).1; omega)⟩
      have HF : Hid (TsR false w.heap.size wz (.slice a us.length cc) us S vm vl) := ⟨owns_mono14 hF.row (by omega), hF.webs, hF.off, hF.apart, hF.four, fun j b hj hb => by have := hF.low j b hj hb; omega⟩
      have HLE := hidP LE
      have HWZ := hidP hwz
      have hki : ¬ ((us.length : Int) < (us.length : Int)) := by omega
      clear htr hto K LW LX p1 p2 hfar hsz LE hF hwz HTO HTR HK HLW HUS HLX hus hul
      go_wp2_with fail
      refine bodyPost_ret (v := .agg #[.int .i64 d, .slice a us.length cc]) (by simp [results, Try.results67, go_sem, r0, r1]) rfl ?_
      rw [HWZ.out]
      exact ⟨_, rfl, ⟨S, vm, vl, HF.out⟩, HLE.out⟩
end Go.Proofs.Ytbmljcpeonopmaa
namespace Go.Proofs.Ytbmljcpeonopmaa
open Go Go.RowKit

theorem five_allc {w : World} {q : Nat} {a b c d e a' b' c' d' e' : Value} {t : TypeId} (h : w.heap[q]? = some (.cells #[a, b, c, d, e] t)) : (((((w.setCell ⟨q, 0, none⟩ a').setCell ⟨q, 1, none⟩ b').setCell ⟨q, 2, none⟩ c').setCell ⟨q, 3, none⟩ d').setCell ⟨q, 4, none⟩ e').heap[q]? = some (.cells #[a', b', c', d', e'] t) := by
  simp [World.setCell, Array.getElem?_modify, h]
theorem five_farc {w : World} {q b : Nat} {a' b' c' d' e' : Value} (h : b ≠ q) : (((((w.setCell ⟨q, 0, none⟩ a').setCell ⟨q, 1, none⟩ b').setCell ⟨q, 2, none⟩ c').setCell ⟨q, 3, none⟩ d').setCell ⟨q, 4, none⟩ e').heap[b]? = w.heap[b]? := by
  rw [Below.heap_setCell _ ⟨q, 4, none⟩ _ b h, Below.heap_setCell _ ⟨q, 3, none⟩ _ b h, Below.heap_setCell _ ⟨q, 2, none⟩ _ b h, Below.heap_setCell _ ⟨q, 1, none⟩ _ b h, Below.heap_setCell _ ⟨q, 0, none⟩ _ b h]

/-- Marks and a tower as l16Copy hands them out. -/
def CpyS (base : Nat) (w : World) (gm c : Nat) (vt : Value) (ds : List Dm) (ts : List Wb) : Prop :=
  ∃ B, DRow base w gm c ds ∧ CpyT B w vt ts ∧ gm < B ∧ (∀ d ∈ ds, d.2.1 < B) ∧ base ≤ B
theorem CpyT.stay {base : Nat} {w w' : World} {v : Value} {ts : List Wb} (h : CpyT base w v ts) (hs : w.heap.size ≤ w'.heap.size) (e : ∀ b, base ≤ b → b < w.heap.size → w'.heap[b]? = w.heap[b]?) : CpyT base w' v ts := by
  obtain ⟨S, vm, vl, h⟩ := h
  exact ⟨S, vm, vl, h.sm ⟨hs, fun b hb => e b (h.bnd b hb).1 (h.bnd b hb).2⟩⟩
theorem CpyT.form {base : Nat} {w : World} {v : Value} {ts : List Wb} (h : CpyT base w v ts) : ∃ a c, v = .slice a ts.length c ∧ ts.length ≤ c ∧ WbView true w a ts := by
  obtain ⟨S, vm, vl, h⟩ := h
  exact h.form
theorem CpyS.stay {base : Nat} {w w' : World} {gm c : Nat} {vt : Value} {ds : List Dm} {ts : List Wb} (h : CpyS base w gm c vt ds ts) (hs : w.heap.size ≤ w'.heap.size) (e : ∀ b, base ≤ b → b < w.heap.size → w'.heap[b]? = w.heap[b]?) : CpyS base w' gm c vt ds ts := by
  obtain ⟨B, h1, h2, h3, h4, h5⟩ := h
  exact ⟨B, drow_stay h1 e, h2.stay hs (fun b hb hb2 => e b (by omega) hb2), h3, h4, h5⟩

set_option maxRecDepth 100000 in
set_option maxHeartbeats 4000000 in
theorem sCopyS (v : Bool) (am aw : Option Addr) (cm cw : Nat) (wd : Int) (ms : List Mk) (d : Int) (ts : List Wb) (nx : Int) (w : World) (hm : MView w am ms) (hv : WbView v w aw ts) (hmb : marksB ms = true) (hok : towB d ts = true) :
    Calls Try.prog 31 #[.agg #[.int .i64 wd, .slice am ms.length cm, .int .i64 d, .slice aw ts.length cw, .int .i64 nx]] w fun e w' => ∃ gm c vt, e = .returned (.agg #[.int .i64 wd, .slice (some ⟨gm, 0, none⟩) ms.length c, .int .i64 d, vt, .int .i64 nx]) ∧ (∃ ds, dMarks ds = ms ∧ CpyS (w.heap.size + 1 + 1) w' gm c vt ds ts) ∧ Below w.heap.size w w' := by
  obtain ⟨W1, hW1⟩ : ∃ W, w.alloc (.cells #[.int .i64 wd, .slice am ms.length cm, .int .i64 d, .slice aw ts.length cw, .int .i64 nx] 34) = W := ⟨_, rfl⟩
  have hB1 : Below w.heap.size w W1 := by rw [← hW1]; exact (Below.refl _ _).alloc (Nat.le_refl _) _
  have hI1 : StIn v W1 w.heap.size am aw cm cw wd ms d ts nx := by rw [← hW1]; exact StIn.box hm hv
  obtain ⟨W, hW⟩ : ∃ W, W1.alloc (.cells #[.int .i64 0, .slice none 0 0, .int .i64 0, .slice none 0 0, .int .i64 0] 34) = W := ⟨_, rfl⟩
  have hB2 : Below W1.heap.size W1 W := by rw [← hW]; exact (Below.refl _ _).alloc (Nat.le_refl _) _
  have s1 : W1.heap.size = w.heap.size + 1 := by rw [← hW1]; simp
  have s2 : W.heap.size = w.heap.size + 1 + 1 := by rw [← hW]; simp [s1]
  have TR : W.heap[w.heap.size + 1]? = some (.cells #[.int .i64 0, .slice none 0 0, .int .i64 0, .slice none 0 0, .int .i64 0] 34) := by rw [← hW, ← s1]; exact heap_alloc_new W1 _
  have hI := hI1.below hB2
  have h60 := marksB_len hmb
  have h4 : ∀ i, (mat ms i).length ≤ 4 := fun i => by
    rcases Nat.lt_or_ge i ms.length with hi | hi
    · exact (okB_len ((mOkAt_iff ms i).1 (marksB_at hmb hi)).2.2.1).2
    · have : mat ms i = [] := by simp [mat, List.getD, hi]
      rw [this]; simp
  have HB := hidP (chain hB1 hB2)
  have HI := hidP hI
  have HTR := hidP TR
  have HSZ := hidP s2
  have HMC := hidP (sCopyM am cm ms W.drew (hI.below (Below.refl _ _).drew).mv h60 h4)
  have HTC : Hid (∀ W', Below W.heap.size W W' → Calls Try.prog 67 #[.agg #[.int .i64 d, .slice aw ts.length cw]] W' fun e w' => ∃ vt, e = .returned (.agg #[.int .i64 d, vt]) ∧ CpyT W'.heap.size w' vt ts ∧ Below W'.heap.size W' w') := fun W' L' => sCopyT v aw cw d ts W' ((hI.below L').wv) hok
  have HS : Hid (∀ W', Below W.heap.size W W' → W'.cell? ⟨w.heap.size, 0, none⟩ = some (.int .i64 wd) ∧ W'.cell? ⟨w.heap.size, 1, none⟩ = some (.slice am ms.length cm) ∧ W'.cell? ⟨w.heap.size, 2, none⟩ = some (.int .i64 d) ∧ W'.cell? ⟨w.heap.size, 3, none⟩ = some (.slice aw ts.length cw) ∧ W'.cell? ⟨w.heap.size, 4, none⟩ = some (.int .i64 nx)) := fun W' L' => ⟨(hI.below L').c0, (hI.below L').c1, (hI.below L').c2, (hI.below L').c3, (hI.below L').c4⟩
  have BL := hidP ((Below.refl W.heap.size W).drew)
  have HWW : Hid ((w.alloc (.cells #[.int .i64 wd, .slice am ms.length cm, .int .i64 d, .slice aw ts.length cw, .int .i64 nx] 34)).alloc (.cells #[.int .i64 0, .slice none 0 0, .int .i64 0, .slice none 0 0, .int .i64 0] 34) = W) := by show _ = _; rw [hW1, hW]
  clear hm hv hB1 hI1 hB2 TR hI s1 s2 hW hW1 hok h60 hmb h4
  go_enter Try.func31, Try.ntmps31
  go_upto_region 1 with fail
  rw [HWW.out]
  clear HWW
  refine wp_region_calm (S := fun W' => W'.cell? ⟨w.heap.size, 0, none⟩ = some (.int .i64 wd) ∧ W'.cell? ⟨w.heap.size, 1, none⟩ = some (.slice am ms.length cm) ∧ W'.cell? ⟨w.heap.size, 2, none⟩ = some (.int .i64 d) ∧ W'.cell? ⟨w.heap.size, 3, none⟩ = some (.slice aw ts.length cw) ∧ W'.cell? ⟨w.heap.size, 4, none⟩ = some (.int .i64 nx)) (fuel := 3)
    [0, 1, 2, 3, 5, 6, 8, 9] _ rfl (by kernel_rfl) (by kernel_rfl) (by kernel_rfl) (by kernel_rfl) (by kernel_rfl) (by kernel_rfl) (by kernel_rfl) (HS.out _ BL.out) (fun _ => ?_)
  iterate 8
    refine ⟨_, rfl, ?_⟩
    apply Exists.intro
    refine ⟨Or.inl ⟨by rfl, fun w' hw' => ?_⟩, ?_⟩
    · obtain ⟨e1, e2, e3, e4, e5⟩ := hw'
      first
      | (go_simp; done)
      | (go_simp; with_reducible rfl)
    simp only [Act.put, List.setIfInBounds_toArray]
  refine calm_one 4 (by kernel_rfl) rfl (fun K hK => ?_)
  go_simp
  refine HMC.out.mono ?_
  rintro e w3 ⟨gm, c, ds, rfl, hd1, hd2, L3⟩
  have HD := hidP (And.intro hd1 hd2)
  have HL3 : Hid (Below W.heap.size W w3) := chain BL.out L3
  have HTC3 := hidP (HTC.out w3 HL3.out)
  clear hd1 hd2 L3
  refine hK.out _ _ (HS.out _ HL3.out) (fun _ => ?_)
  clear hK K
  refine calm_one 7 (by kernel_rfl) rfl (fun K hK => ?_)
  go_simp
  refine HTC3.out.mono ?_
  rintro e w4 ⟨vt, rfl, ht4, L4⟩
  obtain ⟨ta, tc, rfl, -, -⟩ := ht4.form
  have HC4 : Hid (CpyS W.heap.size w4 gm c (.slice ta ts.length tc) ds ts ∧ Below W.heap.size W w4) := by
    have hlow := HD.out.1
    exact ⟨⟨w3.heap.size, drow_stay (base := W.heap.size) hlow (fun b _ hb => L4.block b hb), ht4, hlow.lt.2, fun d hd => (hlow.2.1 d hd).1.lt2.2, HL3.out.size⟩, chain HL3.out L4⟩
  clear ht4 L4
  refine hK.out _ _ (HS.out _ HC4.out.2) (fun _ => ?_)
  clear hK K
  refine calm_one 10 (by kernel_rfl) rfl (fun K hK => ?_)
  go_simp
  refine hK.out _ _ (HS.out _ HC4.out.2) (fun _ => ?_)
  clear hK K
  refine wpAnyH_done (by kernel_rfl) ?_ _
  simp only [Exit.then]
  have t4 := (HC4.out.2.block _ (five_cells HTR.out).2.2.2.2.2.2).trans HTR.out
  obtain ⟨r0, r1, r2, r3, r4, rf, hrl⟩ := five_cells t4
  have rf0 := rf 0
  have rf1 := rf 1
  have rf2 := rf 2
  have rf3 := rf 3
  have rf4 := rf 4
  have t5 : _ = some (Obj.cells #[.int .i64 wd, .slice (some ⟨gm, 0, none⟩) ms.length c, .int .i64 d, .slice ta ts.length tc, .int .i64 nx] 34) := five_allc t4
  obtain ⟨q0, q1, q2, q3, q4, -, -⟩ := five_cells t5
  have HT4 := hidP t4
  clear t4 t5 rf HTR HS HTC HTC3 HMC
  go_wp2_with fail
  refine NoPanic.normal ?_
  go_wp2_with fail
  refine bodyPost_ret (v := .agg #[.int .i64 wd, .slice (some ⟨gm, 0, none⟩) ms.length c, .int .i64 d, .slice ta ts.length tc, .int .i64 nx]) (by simp [results, Try.results31, go_sem, q0, q1, q2, q3, q4]) rfl ?_
  obtain ⟨wz, hwz⟩ : ∃ wz, ((((w4.setCell ⟨w.heap.size + 1, 0, none⟩ (.int .i64 wd)).setCell ⟨w.heap.size + 1, 1, none⟩ (.slice (some ⟨gm, 0, none⟩) ms.length c)).setCell ⟨w.heap.size + 1, 2, none⟩ (.int .i64 d)).setCell ⟨w.heap.size + 1, 3, none⟩ (.slice ta ts.length tc)).setCell ⟨w.heap.size + 1, 4, none⟩ (.int .i64 nx) = wz := ⟨_, rfl⟩
  have far : ∀ b, b ≠ w.heap.size + 1 → wz.heap[b]? = w4.heap[b]? := fun b hb => by rw [← hwz]; exact five_farc hb
  have hsw : wz.heap.size = w4.heap.size := by rw [← hwz]; simp [World.setCell]
  have hs3 := HSZ.out
  have BZ : Below w.heap.size w wz := by
    have ho : w.heap.size ≤ w.heap.size + 1 := by omega
    rw [← hwz]; exact ((((((chain HB.out HC4.out.2).setCell (p := ⟨w.heap.size + 1, 0, none⟩) ho _).setCell (p := ⟨w.heap.size + 1, 1, none⟩) ho _).setCell (p := ⟨w.heap.size + 1, 2, none⟩) ho _).setCell (p := ⟨w.heap.size + 1, 3, none⟩) ho _).setCell (p := ⟨w.heap.size + 1, 4, none⟩) ho _)
  rw [hwz]
  have hcp := HC4.out.1
  rw [hs3] at hcp
  exact ⟨gm, c, _, rfl, ⟨ds, HD.out.2, hcp.stay (by omega) (fun b hb _ => far b (by omega))⟩, BZ⟩
end Go.Proofs.Ytbmljcpeonopmaa
namespace Go.Proofs.Ytbmljcpeonopmaa
open Go Go.RowKit

/-- Marks in a row of the call's own whose places lie elsewhere. -/
theorem own_mview {base : Nat} {w : World} {g c : Nat} {es : List Dm} (h : w.ownsRow base 76 2 (.slice (some ⟨g, 0, none⟩) es.length c) es.length (dCells es)) (hv : ∀ i, i < es.length → View w (some ⟨(mdnth es i).2.1, 0, none⟩) (mdnth es i).2.2.2) : MView w (some ⟨g, 0, none⟩) (dMarks es) :=
  Or.inr ⟨g, 0, rfl, (World.ownsRow.lt h g rfl).2, fun i hi => by
    rw [dMarks_length] at hi
    rw [Nat.zero_add, dMarks_at es i hi]
    obtain ⟨e0, e1⟩ := dCells_at es i hi
    have c0 := World.ownsRow.cellAt h (i * 2) (by omega)
    have c1 := World.ownsRow.cellAt h (i * 2 + 1) (by omega)
    exact ⟨c0.trans e0, _, _, c1.trans e1, hv i hi⟩⟩
theorem dCells_oneC (ds : List Dm) : ∀ u ∈ dCells ds, u.oneCell' = true := by
  induction ds with
  | nil => intro u hu; cases hu
  | cons d ds ih =>
    intro u hu
    simp only [dCells, List.mem_cons] at hu
    rcases hu with rfl | rfl | hu
    · rfl
    · rfl
    · exact ih u hu
/-- A part of a row of marks, to be appended. -/
theorem src_part {base : Nat} {w : World} {g c n : Nat} {ds es : List Dm} (h : w.ownsRow base 76 2 (.slice (some ⟨g, 0, none⟩) n c) n (dCells ds)) (k : Nat) (hk : k + es.length ≤ n) (he : ∀ i, i < es.length → mdnth es i = mdnth ds (k + i)) (hd : ds.length = n) : SrcAt w 2 (some ⟨g, k * 2, none⟩) es.length (dCells es) :=
  ⟨dCells_length es, dCells_oneC es, Or.inr ⟨_, rfl, fun j u hu => by
    rw [Go.WideShapes.add_plain]
    have hj : j < es.length * 2 := by
      rcases Nat.lt_or_ge j (es.length * 2) with h1 | h1
      · exact h1
      · rw [List.getElem?_eq_none (by rw [dCells_length]; exact h1)] at hu; cases hu
    have hi : j / 2 < es.length := by omega
    obtain ⟨a0, a1⟩ := dCells_at es (j / 2) hi
    obtain ⟨b0, b1⟩ := dCells_at ds (k + j / 2) (by omega)
    rw [← he _ hi] at b0 b1
    rcases Nat.mod_two_eq_zero_or_one j with e | e
    · have ej : j = j / 2 * 2 := by omega
      rw [← hu]
      have := World.ownsRow.cellAt h ((k + j / 2) * 2) (by omega)
      rw [b0, ← a0, ← ej] at this
      rw [show k * 2 + j = (k + j / 2) * 2 by omega]
      exact this
    · have ej : j = j / 2 * 2 + 1 := by omega
      rw [← hu]
      have := World.ownsRow.cellAt h ((k + j / 2) * 2 + 1) (by omega)
      rw [b1, ← a1, ← ej] at this
      rw [show k * 2 + j = (k + j / 2) * 2 + 1 by omega]
      exact this⟩⟩
theorem src_stay {w w' : World} {size m g off : Nat} {news : List Value} (h : SrcAt w size (some ⟨g, off, none⟩) m news) (e : w'.heap[g]? = w.heap[g]?) : SrcAt w' size (some ⟨g, off, none⟩) m news := by
  obtain ⟨h1, h2, h3 | ⟨ad, e1, h4⟩⟩ := h
  · exact ⟨h1, h2, Or.inl h3⟩
  · refine ⟨h1, h2, Or.inr ⟨ad, e1, fun j u hu => ?_⟩⟩
    have := h4 j u hu
    injection e1 with e1
    rw [← e1, Go.WideShapes.add_plain] at this ⊢
    exact (World.cell?_of_block (a := ⟨g, off + j, none⟩) e).trans this
theorem mdnth_mem7 {l : List Dm} {i : Nat} (h : i < l.length) : mdnth l i ∈ l := by
  have e : mdnth l i = l[i] := by simp [mdnth, List.getD, h]
  rw [e]
  exact List.getElem_mem h
theorem mdnth_take (ds : List Dm) (k i : Nat) (h : i < k) : mdnth (ds.take k) i = mdnth ds i := by simp [mdnth, List.getD, h]
theorem mdnth_drop (ds : List Dm) (k i : Nat) : mdnth (ds.drop k) i = mdnth ds (k + i) := by simp [mdnth, List.getD]

set_option maxRecDepth 100000 in
set_option maxHeartbeats 4000000 in
theorem sGoneG (base D gm c : Nat) (ds : List Dm) (wd d nx id : Int) (vt : Value) (w : World) (hD : w.heap[D]? = some (.cells #[.int .i64 wd, .slice (some ⟨gm, 0, none⟩) ds.length c, .int .i64 d, vt, .int .i64 nx] 34)) (hr : DRow base w gm c ds) (hn : ds.length ≤ 60) (hDp : ∀ x ∈ ds, x.2.1 ≠ D) :
    Calls Try.prog 32 #[.pointer (some ⟨D, 0, none⟩), .int .i64 id] w fun e w' => (zFind (dMarks ds) id < 0 → e = .returned (.bool false) ∧ w' = w) ∧ (0 ≤ zFind (dMarks ds) id → e = .returned (.bool true) ∧ ∃ g c2, w'.heap[D]? = some (.cells #[.int .i64 wd, .slice (some ⟨g, 0, none⟩) (ds.take (zIdx (dMarks ds) id) ++ ds.drop (zIdx (dMarks ds) id + 1)).length c2, .int .i64 d, vt, .int .i64 nx] 34) ∧ (ds.take (zIdx (dMarks ds) id) ++ ds.drop (zIdx (dMarks ds) id + 1)).length ≤ c2 ∧ (∀ W' : World, w'.heap.size ≤ W'.heap.size → (∀ b, base ≤ b → b < w'.heap.size → W'.heap[b]? = w'.heap[b]?) → MView W' (some ⟨g, 0, none⟩) (dMarks (ds.take (zIdx (dMarks ds) id) ++ ds.drop (zIdx (dMarks ds) id + 1)))) ∧ Cgd (fun b => b = D) w w') := by
  obtain ⟨j0, hj0, hy0, hy1, hy2⟩ := info_parts Try.info76
  obtain ⟨e0, e1, e2, e3, e4, ef, hDl⟩ := five_cells hD
  have hml := dMarks_length ds
  have HF := hidP (sFind (some ⟨gm, 0, none⟩) c (dMarks ds) id w hr.view (by rw [hml]; omega))
  rw [hml] at HF
  have HD := hidP hD
  have HR := hidP hr
  have HCAP := hidP hr.cap
  have hgl := hr.lt
  have hne : gm ≠ D := fun e => by
    have h1 := World.ownsRow.cellAt hr.1
    obtain ⟨g', hh⟩ : ∃ cur, w.heap[gm]? = some (.cells cur 76) := by
      obtain ⟨-, ⟨x, -⟩ | ⟨g', cap, cur, x, -, hg, -⟩⟩ := hr.1
      · cases x
      · injection x with x1; injection x1 with x1; injection x1 with x1
        exact ⟨cur, by rw [x1]; exact hg⟩
    rw [e, hD] at hh
    injection hh with hh
    injection hh with _ hh
    exact absurd hh (by decide)
  rcases Int.lt_or_le (zFind (dMarks ds) id) 0 with hz | hz
  · have hz' : ¬ 0 ≤ zFind (dMarks ds) id := by omega
    obtain ⟨z, hzz⟩ : ∃ z, zFind (dMarks ds) id = z := ⟨_, rfl⟩
    rw [hzz] at HF hz
    have HZ := hidP hz'
    clear hz' hzz hr hD HD HR HCAP hgl hne ef hml
    go_enter Try.func32, Try.ntmps32
    go_wp2_with fail
    refine HF.out.mono ?_
    rintro e w1 ⟨rfl, hw1⟩
    subst hw1
    go_wp2_with fail
    go_ret
    exact ⟨fun _ => ⟨rfl, rfl⟩, fun h => absurd HZ.out (by omega)⟩
  · obtain ⟨hk1, hk2, -⟩ := zIdx_lt hz
    obtain ⟨k, hk⟩ : ∃ k, zIdx (dMarks ds) id = k := ⟨_, rfl⟩
    rw [hml] at hk1
    rw [hk] at hk1 hk2 ⊢
    rw [← hk2] at HF
    have HZ := hidP (And.intro hz hk)
    have HGL := hidP hgl.2
    have HPL : Hid (∀ x ∈ ds, x.2.1 < w.heap.size ∧ x.2.1 ≠ D) := fun x hx => ⟨(hr.2.1 x hx).1.lt2.2, fun e => hDp x hx e⟩
    clear hz hk hk2 hml hr hD hgl
    have hkc : k + 1 ≤ c := by have := HCAP.out; omega
    have hkc0 : k ≤ c := by omega
    have hkk : (k : Int) ≤ (k : Int) + 1 := by omega
    have hi0 : (0 : Int) ≤ (k : Int) := Int.natCast_nonneg _
    have hwr : IntKind.i64.wrap ((k : Int) + 1) = (k : Int) + 1 := IntWalk.i64_in _ ⟨by omega, by omega⟩
    have hw0 : (0 : Int) ≤ (k : Int) + 1 := by omega
    have hw1 : (k : Int) + 1 ≤ (ds.length : Int) := by omega
    have htn : ((k : Int) + 1).toNat = k + 1 := by omega
    have HE : Hid (∀ W' : World, W'.heap[D]? = w.heap[D]? → W'.cell? ⟨D, 1, none⟩ = some (.slice (some ⟨gm, 0, none⟩) ds.length c)) := fun W' h => (World.cell?_of_block (a := ⟨D, 1, none⟩) h).trans e1
    have ef1 := ef 1
    have hsrc1 : SrcAt w 2 (some ⟨gm, 0, none⟩) (ds.take k).length (dCells (ds.take k)) := by
      have := src_part (es := ds.take k) HR.out.1 0 (by rw [List.length_take]; omega) (fun i hi => by rw [Nat.zero_add]; exact mdnth_take ds k i (by rw [List.length_take] at hi; omega)) rfl
      rw [Nat.zero_mul] at this
      exact this
    have hl1 : (ds.take k).length = k := by rw [List.length_take]; omega
    have hl2 : (ds.drop (k + 1)).length = ds.length - (k + 1) := List.length_drop
    rw [hl1] at hsrc1
    have HS1 := hidP hsrc1
    have HS2 : Hid (SrcAt w 2 (if c = k + 1 then some ⟨gm, 0, none⟩ else some ⟨gm, (k + 1) * 2, none⟩) (ds.length - (k + 1)) (dCells (ds.drop (k + 1)))) := by
      show SrcAt _ _ _ _ _
      by_cases hc : c = k + 1
      · have hcap := HCAP.out
        have h0 : ds.drop (k + 1) = [] := List.drop_eq_nil_of_le (by omega)
        rw [if_pos hc, h0]
        exact ⟨by simp [dCells]; omega, by simp [dCells], Or.inl (by omega)⟩
      · rw [if_neg hc, ← hl2]
        exact src_part (es := ds.drop (k + 1)) HR.out.1 (k + 1) (by rw [List.length_drop]; omega) (fun i _ => mdnth_drop ds (k + 1) i) rfl
    have HLL := hidP (And.intro hl1 hl2)
    clear e2 e3 e4 ef hsrc1 hl1 hl2
    by_cases hc : c = k + 1
    · subst hc
      have HS3 : Hid (SrcAt w 2 (some ⟨gm, 0, none⟩) (ds.length - (k + 1)) (dCells (ds.drop (k + 1)))) := by have h := HS2.out; rw [if_pos rfl] at h; exact h
      clear HS2
      go_enter Try.func32, Try.ntmps32
      go_wp2_with fail
      refine HF.out.mono ?_
      rintro e w1 ⟨rfl, hw1⟩
      have hw2 := hw1.symm
      subst hw2
      clear HF
      go_wp2_with fail
      clear e0 e1 ef1
      refine wp_region_calm2 (S := fun W' => W'.cell? ⟨D, 1, none⟩ = some (.slice (some ⟨gm, 0, none⟩) ds.length (k + 1))) (fuel := 5)
        [0, 2, 3, 4, 5, 6, 7, 9, 10, 11, 12, 13, 14, 15] _ rfl (by kernel_rfl) (by kernel_rfl) (by kernel_rfl) (by kernel_rfl) (by kernel_rfl) (by kernel_rfl) (by kernel_rfl) (HE.out _ rfl) (fun _ => ?_)
      iterate 14
        refine ⟨_, rfl, ?_⟩
        apply Exists.intro
        refine ⟨Or.inl ⟨by rfl, fun w' hw' => ?_⟩, ?_⟩
        · first
          | (go_simp; done)
          | (go_simp; with_reducible rfl)
        simp only [Act.put, List.setIfInBounds_toArray]
      refine calm_one 1 (by kernel_rfl) rfl (fun K hK => ?_)
      go_simp
      obtain ⟨w5, hw5⟩ : ∃ w5, (w.alloc (.cells #[] 76)).drew = w5 := ⟨_, rfl⟩
      have L5 : Below w.heap.size w w5 := by rw [← hw5]; exact ((Below.refl w.heap.size w).alloc (Nat.le_refl _) _).drew
      have HR5 : Hid (w5.ownsRow w.heap.size 76 2 (.slice (some ⟨w.heap.size, 0, none⟩) 0 0) 0 []) := by
        have h : (w.alloc (.cells #[] 76)).ownsRow w.heap.size 76 2 (.slice (some ⟨w.heap.size, 0, none⟩) 0 0) 0 [] := World.ownsRow_lit w #[] 0 (Nat.le_refl _) (Nat.zero_le _) rfl
        show _
        rw [← hw5]
        exact h
      have hs5 : w5.heap.size = w.heap.size + 1 := by rw [← hw5]; simp
      have HL5 := hidP L5
      rw [hw5]
      clear hw5 L5
      refine hK.out _ _ (HE.out _ (HL5.out.block D hDl)) (fun _ => ?_)
      clear hK K
      refine calm_one 8 (by kernel_rfl) rfl (fun K hK => ?_)
      refine step_append_at w5 rfl (.tmp 15) (.tmp 21) 29 rfl w.heap.size 76 j0 _ 2 32 Try.underlying29 hj0 hy0 hy1 hy2 rfl (by omega) w.heap.size 0 0 [] rfl HR5.out (some ⟨gm, 0, none⟩) k (k + 1) (dCells (ds.take k)) rfl (src_stay HS1.out (HL5.out.block gm HGL.out)) (by unfold maxLen; omega) (by omega) (by omega) w5.heap.size rfl ?_
      intro g6 c6 w6 hown6 hgrow6 hat6 hlt6
      have HR6 := hidP hown6
      have hz6 := hgrow6.size
      have HL6 : Hid (Below w.heap.size w w6) := HL5.out.grown hgrow6 (by omega) (by intro q hq; cases hq; omega)
      clear hown6 hgrow6
      refine hK.out _ _ (HE.out _ (HL6.out.block D hDl)) (fun _ => ?_)
      clear hK K
      refine calm_one 16 (by kernel_rfl) rfl (fun K hK => ?_)
      refine step_append_at w6 rfl (.tmp 22) (.tmp 29) 29 rfl w.heap.size 76 j0 _ 2 32 Try.underlying29 hj0 hy0 hy1 hy2 rfl (by omega) g6 (0 + k) c6 ([] ++ dCells (ds.take k)) rfl HR6.out (some ⟨gm, 0, none⟩) (ds.length - (k + 1)) 0 (dCells (ds.drop (k + 1))) rfl (src_stay HS3.out (HL6.out.block gm HGL.out)) (by unfold maxLen; omega) (by omega) (by have := HL6.out.size; omega) w6.heap.size rfl ?_
      intro g8 c8 w8 hown8 hgrow8 hat8 hlt8
      have hg6 := (World.ownsRow.lt HR6.out g6 rfl).1
      have HL8 : Hid (Below w.heap.size w w8) := HL6.out.grown hgrow8 (by have := HL6.out.size; omega) (by intro q hq; cases hq; omega)
      have HO8 : Hid (w8.ownsRow w.heap.size 76 2 (.slice (some ⟨g8, 0, none⟩) (k + (ds.length - (k + 1))) c8) (k + (ds.length - (k + 1))) (dCells (ds.take k ++ ds.drop (k + 1)))) := by
        have h := hown8
        rw [List.nil_append, ← dCells_append, Nat.zero_add] at h
        exact h
      clear hown8 hgrow8
      refine hK.out _ _ (HE.out _ (HL8.out.block D hDl)) (fun _ => ?_)
      clear hK K
      refine calm_one 17 (by kernel_rfl) rfl (fun K hK => ?_)
      go_simp
      refine hK.out _ _ (HE.out _ (HL8.out.block D hDl)) (fun _ => ?_)
      clear hK K
      refine calm_one 18 (by kernel_rfl) rfl (fun K hK => ?_)
      go_simp
      refine hK.out _ _ (HE.out _ (HL8.out.block D hDl)) (fun _ => ?_)
      clear hK K
      refine wpAnyH_done (by kernel_rfl) ?_ _
      simp only [Exit.then]
      have t8 := (HL8.out.block D hDl).trans HD.out
      obtain ⟨-, u1, -, -, -, uf, -⟩ := five_cells t8
      have uf1 := uf 1
      obtain ⟨len8, hlen8⟩ : ∃ n8, k + (ds.length - (k + 1)) = n8 := ⟨_, rfl⟩
      have hlen9 : (ds.take k ++ ds.drop (k + 1)).length = len8 := by rw [List.length_append, HLL.out.1, HLL.out.2]; omega
      rw [hlen8] at HO8 ⊢
      have HOO : Hid (∀ w' : World, w' = w8.setCell ⟨D, 1, none⟩ (.slice (some ⟨g8, 0, none⟩) len8 c8) → ∃ g c2, w'.heap[D]? = some (.cells #[.int .i64 wd, .slice (some ⟨g, 0, none⟩) (ds.take k ++ ds.drop (k + 1)).length c2, .int .i64 d, vt, .int .i64 nx] 34) ∧ (ds.take k ++ ds.drop (k + 1)).length ≤ c2 ∧ (∀ W' : World, w'.heap.size ≤ W'.heap.size → (∀ b, base ≤ b → b < w'.heap.size → W'.heap[b]? = w'.heap[b]?) → MView W' (some ⟨g, 0, none⟩) (dMarks (ds.take k ++ ds.drop (k + 1)))) ∧ Cgd (fun b => b = D) w w') := fun w' e => by
        have hfar : ∀ b, b ≠ D → w'.heap[b]? = w8.heap[b]? := fun b hb => by rw [e]; exact Below.heap_setCell w8 ⟨D, 1, none⟩ _ b (fun e => hb e)
        have hg8 := (World.ownsRow.lt HO8.out g8 rfl)
        have hcap8 : len8 ≤ c8 := by
          obtain ⟨-, ⟨x, -⟩ | ⟨g', cap, cur, x, -, -, hcc, -⟩⟩ := HO8.out
          · cases x
          · injection x with x1 x2 x3; omega
        have hown : w'.ownsRow w.heap.size 76 2 (.slice (some ⟨g8, 0, none⟩) len8 c8) len8 (dCells (ds.take k ++ ds.drop (k + 1))) := row_stay HO8.out (fun g eg => by
          have e' : g = g8 := by simpa [Value.ownBlock] using eg.symm
          exact hfar g (by omega))
        rw [hlen9]
        refine ⟨g8, c8, by rw [e]; exact five_set1 t8, hcap8, ?_, ?_⟩
        · intro W' hW1 hW2
          have hbw := HR.out.lt
          have hz8 : w'.heap.size = w8.heap.size := by rw [e, setCell_size]
          have hw8 := HL8.out.size
          refine own_mview (es := ds.take k ++ ds.drop (k + 1)) (by rw [hlen9]; exact row_stay hown (fun g eg => by
            have e' : g = g8 := by simpa [Value.ownBlock] using eg.symm
            exact hW2 g (by omega) (by omega))) (fun i hi => ?_)
          have hmem : mdnth (ds.take k ++ ds.drop (k + 1)) i ∈ ds := by
            have h1 : mdnth (ds.take k ++ ds.drop (k + 1)) i ∈ ds.take k ++ ds.drop (k + 1) := mdnth_mem7 hi
            rcases List.mem_append.1 h1 with h2 | h2
            · exact List.mem_of_mem_take h2
            · exact List.mem_of_mem_drop h2
          have hrow := (HR.out.2.1 _ hmem).1
          have hpl := HPL.out _ hmem
          have hlt2 := hrow.lt2
          exact (hrow.same ((hW2 _ hlt2.1 (by omega)).trans ((hfar _ hpl.2).trans (HL8.out.block _ hpl.1)))).view
        · exact ⟨by rw [e]; exact HL8.out.os, by rw [e]; exact HL8.out.tape, by rw [e]; exact HL8.out.output, by rw [e, setCell_size]; exact HL8.out.size, fun b hb hne => (hfar b hne).trans (HL8.out.block b hb)⟩
      clear t8 uf hlen8 hlen9 HR5 HR6 HL5 HL6 HO8 HE HD HS1 HS3 HLL
      go_wp2_with fail
      refine NoPanic.normal ?_
      go_wp2_with fail
      go_ret
      exact ⟨fun h => absurd h (by have := HZ.out.1; omega), fun _ => ⟨rfl, HOO.out _ rfl⟩⟩
    · have HS3 : Hid (SrcAt w 2 (some ⟨gm, (k + 1) * 2, none⟩) (ds.length - (k + 1)) (dCells (ds.drop (k + 1)))) := by have h := HS2.out; rw [if_neg hc] at h; exact h
      clear HS2
      go_enter Try.func32, Try.ntmps32
      go_wp2_with fail
      refine HF.out.mono ?_
      rintro e w1 ⟨rfl, hw1⟩
      have hw2 := hw1.symm
      subst hw2
      clear HF
      go_wp2_with fail
      clear e0 e1 ef1
      refine wp_region_calm2 (S := fun W' => W'.cell? ⟨D, 1, none⟩ = some (.slice (some ⟨gm, 0, none⟩) ds.length c)) (fuel := 5)
        [0, 2, 3, 4, 5, 6, 7, 9, 10, 11, 12, 13, 14, 15] _ rfl (by kernel_rfl) (by kernel_rfl) (by kernel_rfl) (by kernel_rfl) (by kernel_rfl) (by kernel_rfl) (by kernel_rfl) (HE.out _ rfl) (fun _ => ?_)
      iterate 14
        refine ⟨_, rfl, ?_⟩
        apply Exists.intro
        refine ⟨Or.inl ⟨by rfl, fun w' hw' => ?_⟩, ?_⟩
        · first
          | (go_simp; done)
          | (go_simp; with_reducible rfl)
        simp only [Act.put, List.setIfInBounds_toArray]
      refine calm_one 1 (by kernel_rfl) rfl (fun K hK => ?_)
      go_simp
      obtain ⟨w5, hw5⟩ : ∃ w5, (w.alloc (.cells #[] 76)).drew = w5 := ⟨_, rfl⟩
      have L5 : Below w.heap.size w w5 := by rw [← hw5]; exact ((Below.refl w.heap.size w).alloc (Nat.le_refl _) _).drew
      have HR5 : Hid (w5.ownsRow w.heap.size 76 2 (.slice (some ⟨w.heap.size, 0, none⟩) 0 0) 0 []) := by
        have h : (w.alloc (.cells #[] 76)).ownsRow w.heap.size 76 2 (.slice (some ⟨w.heap.size, 0, none⟩) 0 0) 0 [] := World.ownsRow_lit w #[] 0 (Nat.le_refl _) (Nat.zero_le _) rfl
        show _
        rw [← hw5]
        exact h
      have hs5 : w5.heap.size = w.heap.size + 1 := by rw [← hw5]; simp
      have HL5 := hidP L5
      rw [hw5]
      clear hw5 L5
      refine hK.out _ _ (HE.out _ (HL5.out.block D hDl)) (fun _ => ?_)
      clear hK K
      refine calm_one 8 (by kernel_rfl) rfl (fun K hK => ?_)
      refine step_append_at w5 rfl (.tmp 15) (.tmp 21) 29 rfl w.heap.size 76 j0 _ 2 32 Try.underlying29 hj0 hy0 hy1 hy2 rfl (by omega) w.heap.size 0 0 [] rfl HR5.out (some ⟨gm, 0, none⟩) k c (dCells (ds.take k)) rfl (src_stay HS1.out (HL5.out.block gm HGL.out)) (by unfold maxLen; omega) (by omega) (by omega) w5.heap.size rfl ?_
      intro g6 c6 w6 hown6 hgrow6 hat6 hlt6
      have HR6 := hidP hown6
      have hz6 := hgrow6.size
      have HL6 : Hid (Below w.heap.size w w6) := HL5.out.grown hgrow6 (by omega) (by intro q hq; cases hq; omega)
      clear hown6 hgrow6
      refine hK.out _ _ (HE.out _ (HL6.out.block D hDl)) (fun _ => ?_)
      clear hK K
      refine calm_one 16 (by kernel_rfl) rfl (fun K hK => ?_)
      refine step_append_at w6 rfl (.tmp 22) (.tmp 29) 29 rfl w.heap.size 76 j0 _ 2 32 Try.underlying29 hj0 hy0 hy1 hy2 rfl (by omega) g6 (0 + k) c6 ([] ++ dCells (ds.take k)) rfl HR6.out (some ⟨gm, (k + 1) * 2, none⟩) (ds.length - (k + 1)) (c - (k + 1)) (dCells (ds.drop (k + 1))) rfl (src_stay HS3.out (HL6.out.block gm HGL.out)) (by unfold maxLen; omega) (by omega) (by have := HL6.out.size; omega) w6.heap.size rfl ?_
      intro g8 c8 w8 hown8 hgrow8 hat8 hlt8
      have hg6 := (World.ownsRow.lt HR6.out g6 rfl).1
      have HL8 : Hid (Below w.heap.size w w8) := HL6.out.grown hgrow8 (by have := HL6.out.size; omega) (by intro q hq; cases hq; omega)
      have HO8 : Hid (w8.ownsRow w.heap.size 76 2 (.slice (some ⟨g8, 0, none⟩) (k + (ds.length - (k + 1))) c8) (k + (ds.length - (k + 1))) (dCells (ds.take k ++ ds.drop (k + 1)))) := by
        have h := hown8
        rw [List.nil_append, ← dCells_append, Nat.zero_add] at h
        exact h
      clear hown8 hgrow8
      refine hK.out _ _ (HE.out _ (HL8.out.block D hDl)) (fun _ => ?_)
      clear hK K
      refine calm_one 17 (by kernel_rfl) rfl (fun K hK => ?_)
      go_simp
      refine hK.out _ _ (HE.out _ (HL8.out.block D hDl)) (fun _ => ?_)
      clear hK K
      refine calm_one 18 (by kernel_rfl) rfl (fun K hK => ?_)
      go_simp
      refine hK.out _ _ (HE.out _ (HL8.out.block D hDl)) (fun _ => ?_)
      clear hK K
      refine wpAnyH_done (by kernel_rfl) ?_ _
      simp only [Exit.then]
      have t8 := (HL8.out.block D hDl).trans HD.out
      obtain ⟨-, u1, -, -, -, uf, -⟩ := five_cells t8
      have uf1 := uf 1
      obtain ⟨len8, hlen8⟩ : ∃ n8, k + (ds.length - (k + 1)) = n8 := ⟨_, rfl⟩
      have hlen9 : (ds.take k ++ ds.drop (k + 1)).length = len8 := by rw [List.length_append, HLL.out.1, HLL.out.2]; omega
      rw [hlen8] at HO8 ⊢
      have HOO : Hid (∀ w' : World, w' = w8.setCell ⟨D, 1, none⟩ (.slice (some ⟨g8, 0, none⟩) len8 c8) → ∃ g c2, w'.heap[D]? = some (.cells #[.int .i64 wd, .slice (some ⟨g, 0, none⟩) (ds.take k ++ ds.drop (k + 1)).length c2, .int .i64 d, vt, .int .i64 nx] 34) ∧ (ds.take k ++ ds.drop (k + 1)).length ≤ c2 ∧ (∀ W' : World, w'.heap.size ≤ W'.heap.size → (∀ b, base ≤ b → b < w'.heap.size → W'.heap[b]? = w'.heap[b]?) → MView W' (some ⟨g, 0, none⟩) (dMarks (ds.take k ++ ds.drop (k + 1)))) ∧ Cgd (fun b => b = D) w w') := fun w' e => by
        have hfar : ∀ b, b ≠ D → w'.heap[b]? = w8.heap[b]? := fun b hb => by rw [e]; exact Below.heap_setCell w8 ⟨D, 1, none⟩ _ b (fun e => hb e)
        have hg8 := (World.ownsRow.lt HO8.out g8 rfl)
        have hcap8 : len8 ≤ c8 := by
          obtain ⟨-, ⟨x, -⟩ | ⟨g', cap, cur, x, -, -, hcc, -⟩⟩ := HO8.out
          · cases x
          · injection x with x1 x2 x3; omega
        have hown : w'.ownsRow w.heap.size 76 2 (.slice (some ⟨g8, 0, none⟩) len8 c8) len8 (dCells (ds.take k ++ ds.drop (k + 1))) := row_stay HO8.out (fun g eg => by
          have e' : g = g8 := by simpa [Value.ownBlock] using eg.symm
          exact hfar g (by omega))
        rw [hlen9]
        refine ⟨g8, c8, by rw [e]; exact five_set1 t8, hcap8, ?_, ?_⟩
        · intro W' hW1 hW2
          have hbw := HR.out.lt
          have hz8 : w'.heap.size = w8.heap.size := by rw [e, setCell_size]
          have hw8 := HL8.out.size
          refine own_mview (es := ds.take k ++ ds.drop (k + 1)) (by rw [hlen9]; exact row_stay hown (fun g eg => by
            have e' : g = g8 := by simpa [Value.ownBlock] using eg.symm
            exact hW2 g (by omega) (by omega))) (fun i hi => ?_)
          have hmem : mdnth (ds.take k ++ ds.drop (k + 1)) i ∈ ds := by
            have h1 : mdnth (ds.take k ++ ds.drop (k + 1)) i ∈ ds.take k ++ ds.drop (k + 1) := mdnth_mem7 hi
            rcases List.mem_append.1 h1 with h2 | h2
            · exact List.mem_of_mem_take h2
            · exact List.mem_of_mem_drop h2
          have hrow := (HR.out.2.1 _ hmem).1
          have hpl := HPL.out _ hmem
          have hlt2 := hrow.lt2
          exact (hrow.same ((hW2 _ hlt2.1 (by omega)).trans ((hfar _ hpl.2).trans (HL8.out.block _ hpl.1)))).view
        · exact ⟨by rw [e]; exact HL8.out.os, by rw [e]; exact HL8.out.tape, by rw [e]; exact HL8.out.output, by rw [e, setCell_size]; exact HL8.out.size, fun b hb hne => (hfar b hne).trans (HL8.out.block b hb)⟩
      clear t8 uf hlen8 hlen9 HR5 HR6 HL5 HL6 HO8 HE HD HS1 HS3 HLL
      go_wp2_with fail
      refine NoPanic.normal ?_
      go_wp2_with fail
      go_ret
      exact ⟨fun h => absurd h (by have := HZ.out.1; omega), fun _ => ⟨rfl, HOO.out _ rfl⟩⟩
end Go.Proofs.Ytbmljcpeonopmaa
namespace Go.Proofs.Ytbmljcpeonopmaa
open Go Go.RowKit

/-- A state's value that reads as told. -/
def StV (w : World) (v : Value) (wd : Int) (ms : List Mk) (d : Int) (ts : List Wb) (nx : Int) : Prop := ∃ am cm aw cw, v = .agg #[.int .i64 wd, .slice am ms.length cm, .int .i64 d, .slice aw ts.length cw, .int .i64 nx] ∧ MView w am ms ∧ WbView true w aw ts
theorem StV.next {w w' : World} {v : Value} {wd : Int} {ms : List Mk} {d : Int} {ts : List Wb} {nx : Int} (h : StV w v wd ms d ts nx) (L : Below w.heap.size w w') : StV w' v wd ms d ts nx := by
  obtain ⟨am, cm, aw, cw, e, h1, h2⟩ := h
  exact ⟨am, cm, aw, cw, e, h1.next L, h2.next L⟩

set_option maxRecDepth 100000 in
set_option maxHeartbeats 4000000 in
theorem sGone (v : Bool) (am aw : Option Addr) (cm cw : Nat) (wd : Int) (ms : List Mk) (d : Int) (ts : List Wb) (nx id : Int) (w : World) (hm : MView w am ms) (hv : WbView v w aw ts) (hsm : StSmall ms ts) (hst : stB wd ms d ts nx = true) (hmb : marksB ms = true) (hok : towB d ts = true) :
    Calls Try.prog 8 #[.agg #[.int .i64 wd, .slice am ms.length cm, .int .i64 d, .slice aw ts.length cw, .int .i64 nx], .int .i64 id] w fun e w' => ∃ x, e = .returned (.tuple #[x, .bool (decide (0 ≤ zFind ms id))]) ∧ StV w' x wd (goneL ms id) d ts nx ∧ Below w.heap.size w w' := by
  obtain ⟨W1, hW1⟩ : ∃ W, w.alloc (.cells #[.int .i64 wd, .slice am ms.length cm, .int .i64 d, .slice aw ts.length cw, .int .i64 nx] 34) = W := ⟨_, rfl⟩
  have hB1 : Below w.heap.size w W1 := by rw [← hW1]; exact (Below.refl _ _).alloc (Nat.le_refl _) _
  have hI1 : StIn v W1 w.heap.size am aw cm cw wd ms d ts nx := by rw [← hW1]; exact StIn.box hm hv
  obtain ⟨W, hW⟩ : ∃ W, W1.alloc (.cells #[.int .i64 0, .slice none 0 0, .int .i64 0, .slice none 0 0, .int .i64 0] 34) = W := ⟨_, rfl⟩
  have hB2 : Below W1.heap.size W1 W := by rw [← hW]; exact (Below.refl _ _).alloc (Nat.le_refl _) _
  have s1 : W1.heap.size = w.heap.size + 1 := by rw [← hW1]; simp
  have s2 : W.heap.size = w.heap.size + 1 + 1 := by rw [← hW]; simp [s1]
  have TR : W.heap[w.heap.size + 1]? = some (.cells #[.int .i64 0, .slice none 0 0, .int .i64 0, .slice none 0 0, .int .i64 0] 34) := by rw [← hW, ← s1]; exact heap_alloc_new W1 _
  have hI := hI1.below hB2
  have HB := hidP (chain hB1 hB2)
  have HI := hidP hI
  have HTR := hidP TR
  have HSZ := hidP s2
  have HC := hidP (sStateOk v am aw cm cw wd ms d ts nx W hI.mv hI.wv hsm)
  rw [hst] at HC
  have HCP := hidP (fun (W' : World) (L : Below W.heap.size W W') => sCopyS v am aw cm cw wd ms d ts nx W' (hI.below L).mv (hI.below L).wv hmb hok)
  have H60 := hidP (marksB_len hmb)
  have HGC := hidP (fun h => gone_cut (ms := ms) (id := id) hmb h)
  have k0 := hI.c0
  have k1 := hI.c1
  have k2 := hI.c2
  have k3 := hI.c3
  have k4 := hI.c4
  have HWW : Hid ((w.alloc (.cells #[.int .i64 wd, .slice am ms.length cm, .int .i64 d, .slice aw ts.length cw, .int .i64 nx] 34)).alloc (.cells #[.int .i64 0, .slice none 0 0, .int .i64 0, .slice none 0 0, .int .i64 0] 34) = W) := by show _ = _; rw [hW1, hW]
  clear hm hv hB1 hI1 hB2 TR hI s1 s2 hW hW1 hok hmb hsm hst
  go_enter Try.func8, Try.ntmps8
  go_upto_region 1 with fail
  rw [HWW.out]
  clear HWW
  go_wp2_with fail
  refine HC.out.mono ?_
  rintro e w1 ⟨rfl, L1⟩
  clear k0 k1 k2 k3 k4
  have hI1 := HI.out.below L1
  have k0 := hI1.c0
  have k1 := hI1.c1
  have k2 := hI1.c2
  have k3 := hI1.c3
  have k4 := hI1.c4
  have HCP1 := hidP (HCP.out w1 L1)
  have HL1 := hidP L1
  clear hI1 L1
  go_wp2_with fail
  refine HCP1.out.mono ?_
  rintro e w2 ⟨gm, c, vt, rfl, ⟨ds, hds, hcp⟩, L2⟩
  clear k0 k1 k2 k3 k4
  obtain ⟨B, hdr, hct, hgB, hdB, hbB⟩ := hcp
  obtain ⟨ta, tc, rfl, -, -⟩ := hct.form
  have hdl : ds.length = ms.length := by rw [← hds, dMarks_length]
  obtain ⟨w3, hw3⟩ : ∃ w3, w2.alloc (.cells #[.int .i64 wd, .slice (some ⟨gm, 0, none⟩) ms.length c, .int .i64 d, .slice ta ts.length tc, .int .i64 nx] 34) = w3 := ⟨_, rfl⟩
  have L3 : Below w2.heap.size w2 w3 := by rw [← hw3]; exact (Below.refl _ _).alloc (Nat.le_refl _) _
  have t3 : w3.heap[w2.heap.size]? = some (.cells #[.int .i64 wd, .slice (some ⟨gm, 0, none⟩) ms.length c, .int .i64 d, .slice ta ts.length tc, .int .i64 nx] 34) := by rw [← hw3]; exact heap_alloc_new w2 _
  have hsz1 := HL1.out.size
  have hs2 := HSZ.out
  have hdr3 : DRow (w1.heap.size + 1 + 1) w3 gm c ds := drow_stay hdr (fun b _ hb => L3.block b hb)
  have hct3 : ∃ S vm vl, TsR false B w3 (.slice ta ts.length tc) ts S vm vl ∧ ∀ b, FtR (.slice ta ts.length tc) ts.length S b → b < w2.heap.size := by
    obtain ⟨S, vm, vl, ht⟩ := hct
    exact ⟨S, vm, vl, ht.next L3, fun b hb => (ht.bnd b hb).2⟩
  have hgmlt := hdr.lt
  have HGG := hidP (sGoneG (w1.heap.size + 1 + 1) w2.heap.size gm c ds wd d nx id (.slice ta ts.length tc) w3 (by rw [hdl]; exact t3) hdr3 (by rw [hdl]; exact H60.out) (fun x hx => by have := (hdr.2.1 x hx).1.lt2.2; omega))
  rw [hds] at HGG
  have HBW : Hid (Below W.heap.size W w3) := chain (chain HL1.out (Below.mono L2 (Nat.le_refl _))) L3
  have HCT := hidP (And.intro hct3 (And.intro hgmlt hbB))
  have HT3 := hidP t3
  have HDS := hidP (And.intro hds hdl)
  have HDR := hidP hdr3
  have HW3 := hidP hw3
  clear hdr hct hds hgB hdB hdr3 hct3 L2 L3 t3 hw3 hgmlt hdl HCP1 HCP
  go_upto_region 4 with fail
  rw [HW3.out]
  go_wp2_with fail
  refine HGG.out.mono ?_
  rintro e w4 ⟨hno, hyes⟩
  have hX : ∃ a n c2, e = .returned (.bool (decide (0 ≤ zFind ms id))) ∧ w4.heap[w2.heap.size]? = some (.cells #[.int .i64 wd, .slice a (goneL ms id).length c2, .int .i64 d, .slice ta ts.length tc, .int .i64 nx] 34) ∧ n = (goneL ms id).length ∧ (∀ W' : World, w4.heap.size ≤ W'.heap.size → (∀ b, w1.heap.size + 1 + 1 ≤ b → b < w4.heap.size → W'.heap[b]? = w4.heap[b]?) → MView W' a (goneL ms id)) ∧ Cgd (fun b => b = w2.heap.size) w3 w4 := by
    rcases Int.lt_or_le (zFind ms id) 0 with h | h
    · obtain ⟨rfl, hw⟩ := hno h
      have hn : decide (0 ≤ zFind ms id) = false := by simp; omega
      rw [hn, hw, gone_no h]
      refine ⟨some ⟨gm, 0, none⟩, ms.length, c, rfl, HT3.out, rfl, fun W' h1 h2 => ?_, Cgd.refl _ _⟩
      have := (drow_stay HDR.out (w' := W') h2).view
      rw [HDS.out.1] at this
      exact this
    · obtain ⟨rfl, g, c2, h1, h2, h3, h4⟩ := hyes h
      have hn : decide (0 ≤ zFind ms id) = true := by simp [h]
      have hlen : (ds.take (zIdx ms id) ++ ds.drop (zIdx ms id + 1)).length = (goneL ms id).length := by
        rw [← dMarks_length, dMarks_cut, HDS.out.1, HGC.out h]
      rw [hlen] at h1
      rw [dMarks_cut, HDS.out.1, HGC.out h] at h3
      rw [hn]
      exact ⟨_, _, c2, rfl, h1, rfl, h3, h4⟩
  clear hno hyes HGG
  obtain ⟨a, n, c2, rfl, t4, rfl, hview, hch⟩ := hX
  have hz4 := hch.2.2.2.1
  have hz3 := HBW.out.size
  have tr4 := (hch.2.2.2.2 (w.heap.size + 1) (by omega) (by have := HCT.out.2.1; omega)).trans ((HBW.out.block (w.heap.size + 1) (by omega)).trans HTR.out)
  obtain ⟨e0, e1, e2, e3, e4, -, -⟩ := five_cells t4
  obtain ⟨r0, r1, r2, r3, r4, rf, hrl⟩ := five_cells tr4
  have rf0 := rf 0
  have rf1 := rf 1
  have rf2 := rf 2
  have rf3 := rf 3
  have rf4 := rf 4
  have t5 : _ = some (Obj.cells #[.int .i64 wd, .slice a (goneL ms id).length c2, .int .i64 d, .slice ta ts.length tc, .int .i64 nx] 34) := five_allc tr4
  obtain ⟨q0, q1, q2, q3, q4, -, -⟩ := five_cells t5
  obtain ⟨wz, hwz⟩ : ∃ wz, ((((w4.setCell ⟨w.heap.size + 1, 0, none⟩ (.int .i64 wd)).setCell ⟨w.heap.size + 1, 1, none⟩ (.slice a (goneL ms id).length c2)).setCell ⟨w.heap.size + 1, 2, none⟩ (.int .i64 d)).setCell ⟨w.heap.size + 1, 3, none⟩ (.slice ta ts.length tc)).setCell ⟨w.heap.size + 1, 4, none⟩ (.int .i64 nx) = wz := ⟨_, rfl⟩
  have far : ∀ b, b ≠ w.heap.size + 1 → wz.heap[b]? = w4.heap[b]? := fun b hb => by rw [← hwz]; exact five_farc hb
  have hsw : wz.heap.size = w4.heap.size := by rw [← hwz]; simp [World.setCell]
  have L4 : Below w.heap.size w w4 := (HB.out.trans (Below.mono HBW.out (by omega))).trans (hch.below (by omega) (fun b hb => by have := HCT.out.2.1; omega))
  have BZ : Below w.heap.size w wz := by
    have ho : w.heap.size ≤ w.heap.size + 1 := by omega
    rw [← hwz]; exact (((((L4.setCell (p := ⟨w.heap.size + 1, 0, none⟩) ho _).setCell (p := ⟨w.heap.size + 1, 1, none⟩) ho _).setCell (p := ⟨w.heap.size + 1, 2, none⟩) ho _).setCell (p := ⟨w.heap.size + 1, 3, none⟩) ho _).setCell (p := ⟨w.heap.size + 1, 4, none⟩) ho _)
  have hmvz : MView wz a (goneL ms id) := hview wz (by omega) (fun b hb _ => far b (by omega))
  have hwvz : WbView true wz ta ts := by
    have hct := HCT.out.1
    have hfar2 : ∀ b, B ≤ b → b < w3.heap.size → b ≠ w2.heap.size → wz.heap[b]? = w3.heap[b]? := fun b h1 h2 h3 => (far b (by have := HCT.out.2.2; omega)).trans (hch.2.2.2.2 b h2 h3)
    obtain ⟨S, vm, vl, hts, hlt2⟩ := hct
    have hst := hts.sm (w' := wz) ⟨by omega, fun b hb => hfar2 b (hts.bnd b hb).1 (hts.bnd b hb).2 (fun e => by have := hlt2 b hb; omega)⟩
    obtain ⟨a', c', e', -, hv'⟩ := hst.form
    injection e' with e1' e2' e3'
    rw [e1']; exact hv'
  have HZ : Hid (MView wz a (goneL ms id) ∧ WbView true wz ta ts ∧ Below w.heap.size w wz) := ⟨hmvz, hwvz, BZ⟩
  have HWZ := hidP hwz
  clear t4 tr4 rf t5 far hsw L4 BZ hmvz hwvz hwz hview hch HDR HT3 HCT HBW HTR HW3
  go_wp2_with fail
  refine bodyPost_ret (v := .tuple #[.agg #[.int .i64 wd, .slice a (goneL ms id).length c2, .int .i64 d, .slice ta ts.length tc, .int .i64 nx], .bool (decide (0 ≤ zFind ms id))]) (by simp [results, Try.results8, go_sem, q0, q1, q2, q3, q4]) rfl ?_
  rw [HWZ.out]
  exact ⟨_, rfl, ⟨_, _, _, _, rfl, HZ.out.1, HZ.out.2.1⟩, HZ.out.2.2⟩

set_option maxRecDepth 100000 in
set_option maxHeartbeats 2000000 in
theorem sGone_no (v : Bool) (am aw : Option Addr) (cm cw : Nat) (wd : Int) (ms : List Mk) (d : Int) (ts : List Wb) (nx id : Int) (w : World) (hm : MView w am ms) (hv : WbView v w aw ts) (hsm : StSmall ms ts) (hst : stB wd ms d ts nx = false) :
    Calls Try.prog 8 #[.agg #[.int .i64 wd, .slice am ms.length cm, .int .i64 d, .slice aw ts.length cw, .int .i64 nx], .int .i64 id] w fun e w' => e = .returned (.tuple #[.agg #[.int .i64 0, .slice none 0 0, .int .i64 0, .slice none 0 0, .int .i64 0], .bool false]) ∧ Below w.heap.size w w' := by
  obtain ⟨W1, hW1⟩ : ∃ W, w.alloc (.cells #[.int .i64 wd, .slice am ms.length cm, .int .i64 d, .slice aw ts.length cw, .int .i64 nx] 34) = W := ⟨_, rfl⟩
  have hB1 : Below w.heap.size w W1 := by rw [← hW1]; exact (Below.refl _ _).alloc (Nat.le_refl _) _
  have hI1 : StIn v W1 w.heap.size am aw cm cw wd ms d ts nx := by rw [← hW1]; exact StIn.box hm hv
  obtain ⟨W, hW⟩ : ∃ W, W1.alloc (.cells #[.int .i64 0, .slice none 0 0, .int .i64 0, .slice none 0 0, .int .i64 0] 34) = W := ⟨_, rfl⟩
  have hB2 : Below W1.heap.size W1 W := by rw [← hW]; exact (Below.refl _ _).alloc (Nat.le_refl _) _
  have s1 : W1.heap.size = w.heap.size + 1 := by rw [← hW1]; simp
  have TR : W.heap[w.heap.size + 1]? = some (.cells #[.int .i64 0, .slice none 0 0, .int .i64 0, .slice none 0 0, .int .i64 0] 34) := by rw [← hW, ← s1]; exact heap_alloc_new W1 _
  have hI := hI1.below hB2
  have HB := hidP (chain hB1 hB2)
  have HTR := hidP TR
  have HC := hidP (sStateOk v am aw cm cw wd ms d ts nx W hI.mv hI.wv hsm)
  rw [hst] at HC
  have k0 := hI.c0
  have k1 := hI.c1
  have k2 := hI.c2
  have k3 := hI.c3
  have k4 := hI.c4
  have HWW : Hid ((w.alloc (.cells #[.int .i64 wd, .slice am ms.length cm, .int .i64 d, .slice aw ts.length cw, .int .i64 nx] 34)).alloc (.cells #[.int .i64 0, .slice none 0 0, .int .i64 0, .slice none 0 0, .int .i64 0] 34) = W) := by show _ = _; rw [hW1, hW]
  clear hm hv hB1 hI1 hB2 TR hI s1 hW hW1 hsm hst
  go_enter Try.func8, Try.ntmps8
  go_upto_region 1 with fail
  rw [HWW.out]
  clear HWW
  go_wp2_with fail
  refine HC.out.mono ?_
  rintro e w1 ⟨rfl, L1⟩
  obtain ⟨r0, r1, r2, r3, r4, rf, hrl⟩ := five_cells ((L1.block _ (five_cells HTR.out).2.2.2.2.2.2).trans HTR.out)
  have rf0 := rf 0
  have rf1 := rf 1
  have rf2 := rf 2
  have rf3 := rf 3
  have rf4 := rf 4
  have HB1 := hidP (chain HB.out L1)
  clear L1 rf k0 k1 k2 k3 k4
  go_wp2_with fail
  refine bodyPost_ret (v := .tuple #[.agg #[.int .i64 0, .slice none 0 0, .int .i64 0, .slice none 0 0, .int .i64 0], .bool false]) (by simp [results, Try.results8, go_sem, r0, r1, r2, r3, r4]) rfl ?_
  have ho : w.heap.size ≤ w.heap.size + 1 := by omega
  exact ⟨rfl, (((((HB1.out.setCell (p := ⟨w.heap.size + 1, 0, none⟩) ho _).setCell (p := ⟨w.heap.size + 1, 1, none⟩) ho _).setCell (p := ⟨w.heap.size + 1, 2, none⟩) ho _).setCell (p := ⟨w.heap.size + 1, 3, none⟩) ho _).setCell (p := ⟨w.heap.size + 1, 4, none⟩) ho _)⟩
end Go.Proofs.Ytbmljcpeonopmaa
namespace Go.Proofs.Ytbmljcpeonopmaa
open Go Go.RowKit

theorem mtot_totM (ms : List Mk) : mtot ms = totM ms := by
  have h : ∀ k, k ≤ ms.length → k + tot (fun j => (mat ms j).length) k = totM (ms.take k) := by
    intro k
    induction k with
    | zero => intro _; simp [tot, totM]
    | succ k ih =>
      intro hk
      have h1 := ih (by omega)
      have h2 := totM_take ms k (by omega)
      have h3 : (mnth ms k).2.length = (mat ms k).length := rfl
      rw [h2, ← h1, h3]
      simp only [tot]
      omega
  have := h ms.length (Nat.le_refl _)
  rw [List.take_length] at this
  exact this
theorem totM_filter (p : Mk → Bool) (ms : List Mk) : totM (ms.filter p) ≤ totM ms := by
  induction ms with
  | nil => simp [totM]
  | cons m l ih =>
    rcases e : p m with _ | _
    · rw [List.filter_cons, if_neg (by rw [e]; simp)]
      simp only [totM]; omega
    · rw [List.filter_cons, if_pos e]
      simp only [totM]; omega
theorem gone_mtot (ms : List Mk) (id : Int) : mtot (goneL ms id) ≤ mtot ms := by
  rw [mtot_totM, mtot_totM]
  exact totM_filter _ ms
theorem stin_of {v : Bool} {w : World} {X : Nat} {am aw : Option Addr} {cm cw : Nat} {wd : Int} {ms : List Mk} {d : Int} {ts : List Wb} {nx : Int} {t : TypeId} (h : w.heap[X]? = some (.cells #[.int .i64 wd, .slice am ms.length cm, .int .i64 d, .slice aw ts.length cw, .int .i64 nx] t)) (hm : MView w am ms) (hw : WbView v w aw ts) : StIn v w X am aw cm cw wd ms d ts nx := by
  obtain ⟨a, b, c, d', e, -, hl⟩ := five_cells h
  exact ⟨hl, a, b, c, d', e, hm, hw⟩

set_option maxRecDepth 100000 in
set_option maxHeartbeats 8000000 in
theorem walkGone_of (am aw : Option Addr) (cm cw : Nat) (wd : Int) (ms : List Mk) (d : Int) (ts : List Wb) (nx id a : Int) (ms' : List Mk) (b : Int) (ts' : List Wb) (c : Int) (r : Bool) (w : World) (hm : MView w am ms) (hw : WbView false w aw ts) (hf : StFit ms ts)
    (hsm' : StSmall ms ts → StSmall ms' ts')
    (hs : StSmall ms ts → ∀ (W : World) (am aw : Option Addr) (cm cw : Nat), MView W am ms → WbView true W aw ts → Calls Try.prog 8 #[.agg #[.int .i64 wd, .slice am ms.length cm, .int .i64 d, .slice aw ts.length cw, .int .i64 nx], .int .i64 id] W fun e w' => ∃ x, e = .returned (.tuple #[x, .bool r]) ∧ StV w' x a ms' b ts' c ∧ Below W.heap.size W w')
    (hi : StSmall ms ts → ∀ (W : World) (am aw : Option Addr) (cm cw : Nat), MView W am ms → WbView true W aw ts → Calls Try.prog 10 #[.agg #[.int .i64 wd, .slice am ms.length cm, .int .i64 d, .slice aw ts.length cw, .int .i64 nx], .int .i64 id] W fun e w' => ∃ x, e = .returned (.tuple #[x, .bool r]) ∧ StO true (Btw W.heap.size w'.heap.size) w' x a ms' b ts' c ∧ Below W.heap.size W w') :
    Calls Try.prog 3 #[.agg #[.int .i64 wd, .slice am ms.length cm, .int .i64 d, .slice aw ts.length cw, .int .i64 nx], .int .i64 id] w fun e w' => e = .returned (.bool true) ∧ Below w.heap.size w w' := by
  obtain ⟨W, hW⟩ : ∃ W, w.alloc (.cells #[.int .i64 wd, .slice am ms.length cm, .int .i64 d, .slice aw ts.length cw, .int .i64 nx] 27) = W := ⟨_, rfl⟩
  have hB : Below w.heap.size w W := by rw [← hW]; exact (Below.refl _ _).alloc (Nat.le_refl _) _
  have hI : StIn false W w.heap.size am aw cm cw wd ms d ts nx := by rw [← hW]; exact StIn.box hm hw
  have hrr : (r != r) = false := by simp
  have HSZ := hidP (szSt false am aw cm cw wd ms d ts nx W hI.mv hI.wv hf)
  have HB := hidP hB
  have HW := hidP hI
  have HS := hidP hs
  have HI := hidP hi
  have HSM' := hidP hsm'
  have k0 := hI.c0
  have k1 := hI.c1
  have k2 := hI.c2
  have k3 := hI.c3
  have k4 := hI.c4
  clear hm hw hB hI hf hs hi hsm'
  go_enter Try.func3, Try.ntmps3
  go_wp2_with fail
  refine HSZ.out.mono ?_
  rintro e w1 ⟨r1, rfl, -, hr, L1⟩
  by_cases hneg : r1 < 0
  · go_wp2_with fail
    go_ret
    exact ⟨rfl, chain HB.out L1⟩
  have hsm : StSmall ms ts := by rcases hr with h | h; exact absurd h hneg; exact h
  have HSM := hidP hsm
  have HSN := hidP (HSM'.out hsm)
  have hI1 := HW.out.below L1
  replace k0 := hI1.c0
  replace k1 := hI1.c1
  replace k2 := hI1.c2
  replace k3 := hI1.c3
  replace k4 := hI1.c4
  have HW1 := hidP hI1
  have HB1 := hidP (chain HB.out L1)
  have HC1 := hidP (toSt false am aw cm cw wd ms d ts nx w1 hI1.mv hI1.wv hsm)
  clear hr L1 hI1 HSZ hW hsm
  go_wp2_with fail
  refine HC1.out.mono ?_
  rintro e w2 ⟨m2, i2, b2, lo2, rfl, o2, -, L2⟩
  have HC2 := hidP (HS.out HSM.out w2 _ _ ms.length ts.length o2.mview o2.wview)
  have HL2 := hidP L2
  clear o2 L2 HC1
  go_wp2_with fail
  refine HC2.out.mono ?_
  rintro e w3 ⟨x, rfl, ⟨am0, cm0, aw0, cw0, rfl, hm0, hw0⟩, L3⟩
  obtain ⟨w4, hw4⟩ : ∃ w4, w3.alloc (.cells #[.int .i64 a, .slice am0 ms'.length cm0, .int .i64 b, .slice aw0 ts'.length cw0, .int .i64 c] 34) = w4 := ⟨_, rfl⟩
  have L4 : Below w3.heap.size w3 w4 := by rw [← hw4]; exact (Below.refl _ _).alloc (Nat.le_refl _) _
  have hI4 : StIn true w4 w3.heap.size am0 aw0 cm0 cw0 a ms' b ts' c := by rw [← hw4]; exact StIn.box hm0 hw0
  have HP0 := hidP hI4
  have HL4 := hidP (chain (chain HL2.out L3) L4)
  have HW4 := hidP (HW1.out.below HL4.out)
  have HQ4 := hidP hw4
  replace k0 := HW4.out.c0
  replace k1 := HW4.out.c1
  replace k2 := HW4.out.c2
  replace k3 := HW4.out.c3
  replace k4 := HW4.out.c4
  have HC4 := hidP (toSt false am aw cm cw wd ms d ts nx w4 HW4.out.mv HW4.out.wv HSM.out)
  clear hm0 hw0 L3 L4 hI4 hw4 HC2
  go_upto_region 6 with fail
  rw [HQ4.out]
  go_wp2_with fail
  refine HC4.out.mono ?_
  rintro e w5 ⟨m5, i5, b5, lo5, rfl, o5, hm5, L5⟩
  obtain ⟨w6, hw6⟩ : ∃ w6, w5.alloc (.cells #[.int .i64 wd, .slice (some ⟨m5, 0, none⟩) ms.length ms.length, .int .i64 d, .slice (some ⟨b5, 0, none⟩) ts.length ts.length, .int .i64 nx] 34) = w6 := ⟨_, rfl⟩
  have L6 : Below w5.heap.size w5 w6 := by rw [← hw6]; exact (Below.refl _ _).alloc (Nat.le_refl _) _
  have hI6 : StIn true w6 w5.heap.size (some ⟨m5, 0, none⟩) (some ⟨b5, 0, none⟩) ms.length ts.length wd ms d ts nx := by rw [← hw6]; exact StIn.box o5.mview o5.wview
  have hz6 : w6.heap.size = w5.heap.size + 1 := by rw [← hw6]; simp
  have HP1 := hidP hI6
  have HO6 := hidP (o5.next L6)
  have HLO : Hid (lo5 ts.length ≤ w5.heap.size ∧ w4.heap.size ≤ m5 ∧ w6.heap.size = w5.heap.size + 1) := ⟨o5.webs.last, hm5, hz6⟩
  have HL6 := hidP (chain L5 L6)
  have HQ6 := hidP hw6
  have HC6 := hidP (HI.out HSM.out w6 _ _ ms.length ts.length hI6.mv hI6.wv)
  have p0 := hI6.c0
  have p1 := hI6.c1
  have p2 := hI6.c2
  have p3 := hI6.c3
  have p4 := hI6.c4
  clear o5 hm5 L5 L6 hI6 hz6 hw6 HC4
  go_upto_region 7 with fail
  rw [HQ6.out]
  clear k0 k1 k2 k3 k4
  go_wp2_with fail
  refine HC6.out.mono ?_
  rintro e w7 ⟨x, rfl, hst, L7⟩
  obtain ⟨am7, cm7, aw7, cw7, rfl, -, -, hv7⟩ := hst.view
  obtain ⟨w8, hw8⟩ : ∃ w8, w7.alloc (.cells #[.int .i64 a, .slice am7 ms'.length cm7, .int .i64 b, .slice aw7 ts'.length cw7, .int .i64 c] 34) = w8 := ⟨_, rfl⟩
  have L8 : Below w7.heap.size w7 w8 := by rw [← hw8]; exact (Below.refl _ _).alloc (Nat.le_refl _) _
  have t8 : w8.heap[w7.heap.size]? = some (.cells #[.int .i64 a, .slice am7 ms'.length cm7, .int .i64 b, .slice aw7 ts'.length cw7, .int .i64 c] 34) := by rw [← hw8]; exact heap_alloc_new w7 _
  have hz8 : w8.heap.size = w7.heap.size + 1 := by rw [← hw8]; simp
  have HST8 := hidP (hst.next L8)
  have HT8 := hidP t8
  have HZ8 : Hid (w8.heap.size = w7.heap.size + 1 ∧ w6.heap.size ≤ w7.heap.size) := ⟨hz8, L7.size⟩
  have HV8 : Hid (∀ W', W'.heap[w7.heap.size]? = w8.heap[w7.heap.size]? → Sta (Btw w6.heap.size w7.heap.size) w8 W' → StIn true W' w7.heap.size am7 aw7 cm7 cw7 a ms' b ts' c) := fun W' e1 e2 => by
    have h := hv7 W' ((Sta.below L8 (fun q hq => hq.2)).trans e2)
    exact stin_of (e1.trans t8) h.1 h.2
  have HL8 := hidP (chain (chain HL6.out L7) L8)
  have HP18 := hidP (HP1.out.below (chain L7 L8))
  have HO8 := hidP (HO6.out.next (chain L7 L8))
  have HQ8 := hidP hw8
  have hI8 := HV8.out w8 rfl (Sta.refl _ _)
  have hP8 := HP0.out.below HL8.out
  have HE8 := hidP (eqSt true true am7 aw7 cm7 cw7 a ms' b ts' c am0 aw0 cm0 cw0 w8 hI8.mv hI8.wv hP8.mv hP8.wv HSN.out)
  have g0 := hI8.c0
  have g1 := hI8.c1
  have g2 := hI8.c2
  have g3 := hI8.c3
  have g4 := hI8.c4
  have f0 := hP8.c0
  have f1 := hP8.c1
  have f2 := hP8.c2
  have f3 := hP8.c3
  have f4 := hP8.c4
  clear hst hv7 L7 L8 t8 hz8 hw8 hI8 hP8 HC6 HP1 HO6
  go_upto_region 8 with fail
  rw [HQ8.out]
  clear p0 p1 p2 p3 p4
  go_wp2_with fail
  refine HE8.out.mono ?_
  rintro e w9 ⟨rfl, L9⟩
  have HL9 := hidP L9
  have HP9 := hidP (HP18.out.below L9)
  have HA9 := hidP (HW4.out.below (chain HL8.out L9))
  have HS9 : Hid (∀ W', Below w9.heap.size w9 W' → (W'.cell? ⟨w5.heap.size, 0, none⟩ = some (.int .i64 wd) ∧ W'.cell? ⟨w5.heap.size, 1, none⟩ = some (.slice (some ⟨m5, 0, none⟩) ms.length ms.length) ∧ W'.cell? ⟨w5.heap.size, 2, none⟩ = some (.int .i64 d) ∧ W'.cell? ⟨w5.heap.size, 3, none⟩ = some (.slice (some ⟨b5, 0, none⟩) ts.length ts.length) ∧ W'.cell? ⟨w5.heap.size, 4, none⟩ = some (.int .i64 nx)) ∧ W'.cell? ⟨w.heap.size, 0, none⟩ = some (.int .i64 wd) ∧ W'.cell? ⟨w.heap.size, 1, none⟩ = some (.slice am ms.length cm) ∧ W'.cell? ⟨w.heap.size, 2, none⟩ = some (.int .i64 d) ∧ W'.cell? ⟨w.heap.size, 3, none⟩ = some (.slice aw ts.length cw) ∧ W'.cell? ⟨w.heap.size, 4, none⟩ = some (.int .i64 nx)) := fun W' L' => ⟨⟨(HP9.out.below L').c0, (HP9.out.below L').c1, (HP9.out.below L').c2, (HP9.out.below L').c3, (HP9.out.below L').c4⟩, (HA9.out.below L').c0, (HA9.out.below L').c1, (HA9.out.below L').c2, (HA9.out.below L').c3, (HA9.out.below L').c4⟩
  have HC9 := hidP (toSt false am aw cm cw wd ms d ts nx w9.drew (HA9.out.below (Below.refl _ _).drew).mv (HA9.out.below (Below.refl _ _).drew).wv HSM.out)
  have BL := hidP ((Below.refl w9.heap.size w9).drew)
  clear L9 g0 g1 g2 g3 g4 f0 f1 f2 f3 f4
  go_wp2_with fail
  refine wp_region_takes (S := fun W' => Below w9.heap.size w9 W') (fuel := 3) [0, 1] (by kernel_rfl) (by kernel_rfl) (by kernel_rfl) (by kernel_rfl) BL.out (fun _ => ?_)
  iterate 2
    refine ⟨_, rfl, ?_⟩
    apply Exists.intro
    refine ⟨Or.inl ⟨by rfl, fun w' hw' => ?_⟩, ?_⟩
    · obtain ⟨⟨e1, e2, e3, e4, e5⟩, f1, f2, f3, f4, f5⟩ := HS9.out w' hw'
      first
      | (go_simp; done)
      | (go_simp; with_reducible rfl)
    simp only [Act.put, List.getElem_toArray, List.getElem_cons_succ, List.getElem_cons_zero, List.setIfInBounds_toArray, List.set_cons_zero, List.set_cons_succ]
  refine calm_one 2 (by kernel_rfl) rfl (fun K hK => ?_)
  go_simp
  refine HC9.out.mono ?_
  rintro e wa ⟨ma, ia, ba, loa, rfl, oa, -, La⟩
  have HLa := hidP (chain BL.out La)
  have HCa := hidP (eqSt true true (some ⟨m5, 0, none⟩) (some ⟨b5, 0, none⟩) ms.length ts.length wd ms d ts nx (some ⟨ma, 0, none⟩) (some ⟨ba, 0, none⟩) ms.length ts.length wa (HP9.out.below HLa.out).mv (HP9.out.below HLa.out).wv oa.mview oa.wview HSM.out)
  clear oa La
  refine hK.out _ _ HLa.out (fun _ => ?_)
  clear hK K
  refine calm_one 3 (by kernel_rfl) rfl (fun K hK => ?_)
  go_simp
  refine HCa.out.mono ?_
  rintro e wb ⟨rfl, Lb⟩
  have HLb := hidP (chain HLa.out Lb)
  clear Lb
  refine hK.out _ _ HLb.out (fun _ => ?_)
  clear hK K
  refine calm_rest [4] rfl (by kernel_rfl) (by kernel_rfl) (by kernel_rfl) HLb.out ?_
  iterate 1
    refine ⟨_, rfl, ?_⟩
    apply Exists.intro
    refine ⟨Or.inl ⟨by rfl, fun w' hw' => ?_⟩, ?_⟩
    · skip
      first
      | (go_simp; done)
      | (go_simp; with_reducible rfl)
    simp only [Act.put, List.getElem_toArray, List.getElem_cons_succ, List.getElem_cons_zero, List.setIfInBounds_toArray, List.set_cons_zero, List.set_cons_succ]
  refine NoPanic.normal (NoPanic.normal ?_)
  have HLB := hidP (chain HL9.out HLb.out)
  have hPb := HP9.out.below HLb.out
  have HPB := hidP hPb
  have p0 := hPb.c0
  have p1 := hPb.c1
  have p2 := hPb.c2
  have p3 := hPb.c3
  have p4 := hPb.c4
  have HMb := hidP (markSt m5 i5 b5 wd ms d ts nx lo5 wb (HO8.out.next HLB.out) HSM.out)
  clear hPb HS9 HC9 BL HLa HCa HLb HE8
  go_wp2_with fail
  refine HMb.out.mono ?_
  rintro e wc ⟨⟨kx, hkx1, hkx2, rfl⟩, gc⟩
  have hzb := HLB.out.size
  have hlo := HLO.out
  have hz8 := HZ8.out
  have HBc : Hid (Below w4.heap.size w4 wc) := (HL8.out.trans (Below.mono HLB.out HL8.out.size)).trans ⟨gc.1, gc.2.1, gc.2.2.1, gc.2.2.2.1, fun q hq => gc.2.2.2.2 q (by have := HL8.out.size; omega) (Or.inl (by omega))⟩
  have HSc : Hid (wc.heap[w7.heap.size]? = w8.heap[w7.heap.size]? ∧ Sta (Btw w6.heap.size w7.heap.size) w8 wc) := ⟨(gc.2.2.2.2 _ (by omega) (Or.inr (by omega))).trans (HLB.out.block _ (by omega)), by have := gc.2.2.2.1; omega, fun q hq => (gc.2.2.2.2 q (by have := hq.2; omega) (Or.inr (by have := hq.1; omega))).trans (HLB.out.block q (by have := hq.2; omega))⟩
  have hIc := HV8.out wc HSc.out.1 HSc.out.2
  have hPc := HP0.out.below HBc.out
  have HEc := hidP (eqSt true true am7 aw7 cm7 cw7 a ms' b ts' c am0 aw0 cm0 cw0 wc hIc.mv hIc.wv hPc.mv hPc.wv HSN.out)
  have g0 := hIc.c0
  have g1 := hIc.c1
  have g2 := hIc.c2
  have g3 := hIc.c3
  have g4 := hIc.c4
  have f0 := hPc.c0
  have f1 := hPc.c1
  have f2 := hPc.c2
  have f3 := hPc.c3
  have f4 := hPc.c4
  clear gc hzb hlo hz8 hIc hPc p0 p1 p2 p3 p4 HMb HP9 HPB HO8
  go_wp2_with fail
  refine HEc.out.mono ?_
  rintro e wd2 ⟨rfl, Ld⟩
  have HBd := hidP (HBc.out.trans (Below.mono Ld HBc.out.size))
  have hz8 := HZ8.out
  have hszc := HSc.out.2.1
  have HSd : Hid (wd2.heap[w7.heap.size]? = w8.heap[w7.heap.size]? ∧ Sta (Btw w6.heap.size w7.heap.size) w8 wd2) := ⟨(Ld.block _ (by omega)).trans HSc.out.1, HSc.out.2.trans (Sta.below Ld (fun q hq => by have := hq.2; omega))⟩
  have hId := HV8.out wd2 HSd.out.1 HSd.out.2
  replace g0 := hId.c0
  replace g1 := hId.c1
  replace g2 := hId.c2
  replace g3 := hId.c3
  replace g4 := hId.c4
  obtain ⟨N, hN, how⟩ := HST8.out.ow rfl
  have HMd := hidP (how.act wd2 HSd.out.2 1 (by omega) (by omega))
  have hszd := HSd.out.2.1
  clear Ld hz8 hszc hId f0 f1 f2 f3 f4 how
  go_wp2_with fail
  refine HMd.out.mono ?_
  rintro e wf ⟨rfl, hcf, hdf⟩
  have hz8 := HZ8.out
  have HTf : Hid (wf.heap[w7.heap.size]? = some (.cells #[.int .i64 a, .slice am7 ms'.length cm7, .int .i64 b, .slice aw7 ts'.length cw7, .int .i64 c] 34)) := (hcf.2.2.2.2 _ (by omega) (fun hq => by have := hq.2; omega)).trans (HSd.out.1.trans HT8.out)
  have HBf : Hid (Below w4.heap.size w4 wf) := HBd.out.trans (hcf.below HBd.out.size (fun q hq => by have := hq.1; have := HL6.out.size; omega))
  have HDf := hidP hdf
  have HZf : Hid (w8.heap.size ≤ wf.heap.size) := by show _ ≤ _; have := hcf.2.2.2.1; omega
  obtain ⟨h0, h1, h2, h3, h4, -, -⟩ := five_cells HTf.out
  have HHf := hidP (hdf wf (Sta.refl _ _))
  clear hcf hdf hz8 hszd g0 g1 g2 g3 g4 HMd
  go_wp2_with fail
  refine HHf.out.mono ?_
  rintro e wg ⟨rfl, Lg⟩
  have HBg := hidP (HBf.out.trans (Below.mono Lg HBf.out.size))
  have HLg := hidP Lg
  have hAg := HW4.out.below HBg.out
  have k0 := hAg.c0
  have k1 := hAg.c1
  have k2 := hAg.c2
  have k3 := hAg.c3
  have k4 := hAg.c4
  have HCg := hidP (toSt false am aw cm cw wd ms d ts nx wg hAg.mv hAg.wv HSM.out)
  have hq1 : ¬ ((1 : Int) + (N : Int) < 0) := by omega
  have hq2 : ((1 : Int) + (N : Int) != 1 + (N : Int)) = false := by simp
  clear Lg hAg h0 h1 h2 h3 h4 HHf
  go_wp2_with fail
  refine HCg.out.mono ?_
  rintro e wh ⟨mh, ih, bh, loh, rfl, oh, -, Lh⟩
  have HCh := hidP (HI.out HSM.out wh _ _ ms.length ts.length oh.mview oh.wview)
  have HLh := hidP (chain HLg.out Lh)
  clear oh Lh k0 k1 k2 k3 k4 HCg
  go_wp2_with fail
  refine HCh.out.mono ?_
  rintro e wi ⟨x, rfl, hsti, Li⟩
  obtain ⟨ami, cmi, awi, cwi, rfl, -, -, hvi⟩ := hsti.view
  obtain ⟨wj, hwj⟩ : ∃ wj, wi.alloc (.cells #[.int .i64 a, .slice ami ms'.length cmi, .int .i64 b, .slice awi ts'.length cwi, .int .i64 c] 34) = wj := ⟨_, rfl⟩
  have Lj : Below wi.heap.size wi wj := by rw [← hwj]; exact (Below.refl _ _).alloc (Nat.le_refl _) _
  have hIj : StIn true wj wi.heap.size ami awi cmi cwi a ms' b ts' c := by rw [← hwj]; exact StIn.box (hvi wi (Sta.refl _ _)).1 (hvi wi (Sta.refl _ _)).2
  have HLj := hidP (chain (chain HLh.out Li) Lj)
  have HBj := hidP (HBf.out.trans (Below.mono HLj.out HBf.out.size))
  have hPj := HP0.out.below HBj.out
  have HEj := hidP (eqSt true true ami awi cmi cwi a ms' b ts' c am0 aw0 cm0 cw0 wj hIj.mv hIj.wv hPj.mv hPj.wv HSN.out)
  have HQj := hidP hwj
  have g0 := hIj.c0
  have g1 := hIj.c1
  have g2 := hIj.c2
  have g3 := hIj.c3
  have g4 := hIj.c4
  have f0 := hPj.c0
  have f1 := hPj.c1
  have f2 := hPj.c2
  have f3 := hPj.c3
  have f4 := hPj.c4
  clear hsti hvi Li Lj hIj hPj hwj HCh
  go_upto_region 25 with fail
  rw [HQj.out]
  go_wp2_with fail
  refine HEj.out.mono ?_
  rintro e wk ⟨rfl, Lk⟩
  have HLk := hidP (chain HLj.out Lk)
  have HBk := hidP (HBj.out.trans (Below.mono Lk HBj.out.size))
  have hz8 := HZ8.out
  have hzf := HZf.out
  have tk := (HLk.out.block w7.heap.size (by omega)).trans HTf.out
  obtain ⟨h0, h1, h2, h3, h4, -, -⟩ := five_cells tk
  have HHk := hidP (HDf.out wk (Sta.below HLk.out (fun q hq => by have := hq.2; omega)))
  clear Lk hz8 hzf tk g0 g1 g2 g3 g4 f0 f1 f2 f3 f4 HEj
  go_wp2_with fail
  refine HHk.out.mono ?_
  rintro e wl ⟨rfl, Ll⟩
  have HF := hidP (((HB1.out.trans (Below.mono HL4.out HB1.out.size)).trans (Below.mono HBk.out (by have := HB1.out.size; have := HL4.out.size; omega))).trans (Below.mono Ll (by have := HB1.out.size; have := HL4.out.size; have := HBk.out.size; omega)))
  clear Ll h0 h1 h2 h3 h4 HHk
  go_wp2_with fail
  go_ret
  exact ⟨rfl, HF.out⟩

theorem walkGone (am aw : Option Addr) (cm cw : Nat) (wd : Int) (ms : List Mk) (d : Int) (ts : List Wb) (nx id : Int) (w : World) (hm : MView w am ms) (hw : WbView false w aw ts) (hf : StFit ms ts) :
    Calls Try.prog 3 #[.agg #[.int .i64 wd, .slice am ms.length cm, .int .i64 d, .slice aw ts.length cw, .int .i64 nx], .int .i64 id] w fun e w' => e = .returned (.bool true) ∧ Below w.heap.size w w' := by
  rcases h : stB wd ms d ts nx with _ | _
  · refine walkGone_of am aw cm cw wd ms d ts nx id 0 [] 0 [] 0 false w hm hw hf (fun _ => ⟨⟨by simp, fun i => by simp [mat]⟩, ⟨by simp, fun i => by simp [wnth, MSmall, CSmall, mat, cn]⟩, by decide⟩) (fun hsm W am aw cm cw h1 h2 => ?_) (fun hsm W am aw cm cw h1 h2 => ?_)
    · refine (sGone_no true am aw cm cw wd ms d ts nx id W h1 h2 hsm h).mono ?_
      rintro e w' ⟨rfl, L⟩
      exact ⟨_, rfl, ⟨none, 0, none, 0, rfl, Or.inl rfl, Or.inl rfl⟩, L⟩
    · refine (iGone_no am aw cm cw wd ms d ts nx id W h1 h2 hsm h).mono ?_
      rintro e w' ⟨rfl, L⟩
      exact ⟨_, rfl, (StO.zero true w').mono (fun q hq => hq.2) (fun q hq => hq.elim), L⟩
  · obtain ⟨p1, p2, -, -⟩ := stB_parts h
    refine walkGone_of am aw cm cw wd ms d ts nx id wd (goneL ms id) d ts nx (decide (0 ≤ zFind ms id)) w hm hw hf (fun hsm => ⟨gone_small hsm.1, hsm.2.1, ?_⟩) (fun hsm W am aw cm cw h1 h2 => sGone true am aw cm cw wd ms d ts nx id W h1 h2 hsm h p1 p2) (fun hsm W am aw cm cw h1 h2 => iGone am aw cm cw wd ms d ts nx id W h1 h2 hsm h p1 p2)
    have := gone_mtot ms id
    have := hsm.2.2
    omega
end Go.Proofs.Ytbmljcpeonopmaa
