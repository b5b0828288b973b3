/-
  The program's list of marks, or of what is told of them: id, has.
-/
import Derived.Test.YtfbhohpbhjlihaaGreatStMemZz
import Derived.Test.YtfbhohpbhjlihaaGreatFeWalkZz
import Derived.Laws.ByValue
namespace Go.Proofs.YtfbhohpbhjlihaaGreat
open Go Go.RowKit

theorem m_idM16 (x : Int) (a : Option Addr) (n c : Nat) (w : World) : Sem.run Tryz.prog (method 396 30 (.agg #[.int .i64 x, .slice a n c]) "loop.example/g00273/impl.id") w = .ok (293, .agg #[.int .i64 x, .slice a n c]) w := by kernel_rfl

set_option maxRecDepth 100000 in
set_option maxHeartbeats 400000 in
theorem iIdM (x : Int) (a : Option Addr) (n c : Nat) (w : World) :
    Calls Tryz.prog 293 #[.agg #[.int .i64 x, .slice a n c]] w fun e w' => e = .returned (.int .i64 x) ∧ Below w.heap.size w w' := by
  have hB : Below w.heap.size w (w.alloc (.cells #[.int .i64 x, .slice a n c] 30)) := (Below.refl _ _).alloc (Nat.le_refl _) _
  have HB := hidP hB
  clear hB
  go_enter Tryz.func293, Tryz.ntmps293
  go_wp2_with fail
  go_ret
  exact ⟨rfl, HB.out⟩

set_option maxRecDepth 100000 in
set_option maxHeartbeats 2000000 in
theorem iHasM1 (B : Nat) (id x : Int) (a : Option Addr) (n c : Nat) (w : World) (hb : B < w.heap.size) (hc : w.cell? ⟨B, 0, none⟩ = some (.int .i64 id)) :
    Calls Tryz.prog 202 #[.agg #[.int .i64 x, .slice a n c], .pointer (some ⟨B, 0, none⟩)] w fun e w' => e = .returned (.bool (decide (x = id))) ∧ Below w.heap.size w w' := by
  obtain ⟨V, hV⟩ : ∃ V, w.alloc (.cells #[.int .i64 x, .slice a n c] 30) = V := ⟨_, rfl⟩
  have LV : Below w.heap.size w V := by rw [← hV]; exact (Below.refl _ _).alloc (Nat.le_refl _) _
  have y0 : V.cell? ⟨w.heap.size, 0, none⟩ = some (.int .i64 x) := by rw [← hV]; simp
  have y1 : V.cell? ⟨w.heap.size, 1, none⟩ = some (.slice a n c) := by rw [← hV]; simp
  have hyl : w.heap.size < V.heap.size := by rw [← hV]; simp
  have hb' : B < V.heap.size := by omega
  have hc' := (LV.cell (p := ⟨B, 0, none⟩) hb).trans hc
  have HK : Hid (∀ W', Below V.heap.size V W' → W'.cell? ⟨w.heap.size, 0, none⟩ = some (.int .i64 x) ∧ W'.cell? ⟨w.heap.size, 1, none⟩ = some (.slice a n c) ∧ W'.cell? ⟨B, 0, none⟩ = some (.int .i64 id)) := fun W' L' => ⟨(L'.cell (p := ⟨w.heap.size, 0, none⟩) hyl).trans y0, (L'.cell (p := ⟨w.heap.size, 1, none⟩) hyl).trans y1, (L'.cell (p := ⟨B, 0, none⟩) hb').trans hc'⟩
  have HLV := hidP LV
  have MI := m_idM16 x a n c
  have hbe : ((x : Int) == id) = decide (x = id) := by rw [Bool.eq_iff_iff]; simp
  clear hc hb LV hc'
  go_enter Tryz.func202, Tryz.ntmps202
  go_wp2_with fail
  clear hV y0 y1
  refine wp_region_takes (S := (fun w' => w'.cell? ⟨w.heap.size, 0, none⟩ = some (.int .i64 x) ∧ w'.cell? ⟨w.heap.size, 1, none⟩ = some (.slice a n c) ∧ w'.cell? ⟨B, 0, none⟩ = some (.int .i64 id))) (fuel := 3) [0, 1, 3] (by kernel_rfl) (by kernel_rfl) (by kernel_rfl) (by kernel_rfl) (HK.out _ ((Below.refl V.heap.size V).drew)) (fun _ => ?_)
  iterate 3
    refine ⟨_, rfl, ?_⟩
    apply Exists.intro
    refine ⟨Or.inl ⟨by rfl, fun w' hw' => ?_⟩, ?_⟩
    · first
      | (go_simp; done)
      | (go_simp; with_reducible rfl)
    simp only [Act.put, List.getElem_toArray, List.getElem_cons_succ, List.getElem_cons_zero, List.setIfInBounds_toArray, List.set_cons_zero, List.set_cons_succ]
  refine calm_one 2 (by kernel_rfl) rfl (fun K hK => ?_)
  go_simp
  refine (iIdM x a n c _).mono ?_
  rintro e w2 ⟨rfl, L2'⟩
  have L2 : Below V.heap.size V w2 := Below.trans ((Below.refl V.heap.size V).drew) L2'
  refine hK.out _ _ (HK.out _ L2) (fun _ => ?_)
  clear hK K L2'
  refine calm_rest [4, 5] (by kernel_rfl) (by kernel_rfl) (by kernel_rfl) (by kernel_rfl) (HK.out _ L2) ?_
  iterate 2
    refine ⟨_, rfl, ?_⟩
    apply Exists.intro
    refine ⟨Or.inl ⟨by rfl, fun w' hw' => ?_⟩, ?_⟩
    · first
      | (go_simp; done)
      | (go_simp; with_reducible rfl)
    simp only [Act.put, List.getElem_toArray, List.getElem_cons_succ, List.getElem_cons_zero, List.setIfInBounds_toArray, List.set_cons_zero, List.set_cons_succ]
  refine NoPanic.normal ?_
  refine NoPanic.normal ?_
  have HF := hidP (chain HLV.out L2)
  clear L2 HK
  go_wp2_with fail
  go_ret
  exact ⟨ret_bool (by first | rfl | simp), HF.out⟩

theorem zFind_none {ms : List Mk} {id : Int} (h : ∀ j, j < ms.length → mid ms j ≠ id) : decide (0 ≤ zFind ms id) = false := by
  refine decide_eq_false (fun h0 => ?_)
  obtain ⟨h1, _, h3⟩ := zIdx_lt h0
  exact h _ h1 h3
theorem zFind_some {ms : List Mk} {id : Int} {k : Nat} (hk : k < ms.length) (h : mid ms k = id) : decide (0 ≤ zFind ms id) = true := by
  refine decide_eq_true ?_
  rcases Int.lt_or_le (zFind ms id) 0 with h0 | h0
  · exact absurd h (zFindTo_no h0 k hk)
  · exact h0

set_option maxRecDepth 100000 in
set_option maxHeartbeats 1000000 in
theorem pAnyHas (B : Nat) (id : Int) (ao : Option Addr) (cap : Nat) (hi : List Mk) (w : World) (hb : B < w.heap.size) (hc : w.cell? ⟨B, 0, none⟩ = some (.int .i64 id)) (hv : MView w ao hi) (hsh : MSmall hi) :
    Calls Tryz.prog 231 #[.slice ao hi.length cap, .func (.func 202) #[] #[.pointer (some ⟨B, 0, none⟩)]] w fun e w' => (∃ r : Int, e = .returned (.int .i64 r) ∧ decide (0 ≤ r) = decide (0 ≤ zFind hi id)) ∧ Below w.heap.size w w' := by
  have HF : Hid (∀ W k a c, Below w.heap.size w W → Calls Tryz.prog 202 #[.agg #[.int .i64 (mid hi k), .slice a (mat hi k).length c], .pointer (some ⟨B, 0, none⟩)] W fun e w' => e = .returned (.bool (decide (mid hi k = id))) ∧ Below W.heap.size W w') := fun W k a c L =>
    iHasM1 B id (mid hi k) a (mat hi k).length c W (Nat.lt_of_lt_of_le hb L.size) ((L.cell (p := ⟨B, 0, none⟩) hb).trans hc)
  have HV := hidP hv
  have hn := hsh.1
  clear hv hsh hb hc
  go_enter Tryz.func231, Tryz.ntmps231
  go_wp2_with fail
  go_loopw [8] (fun i wr => ∃ k : Nat, k ≤ hi.length ∧ i = .int .i64 k ∧ (∀ j, j < k → mid hi j ≠ id) ∧ Below w.heap.size w wr) (fun i _ => hi.length - (intOf i).toNat)
  case atStart => exact ⟨0, Nat.zero_le _, rfl, fun j hj => by omega, Below.refl _ _⟩
  case round =>
    obtain ⟨k, hk, rfl, hall, L⟩ := hrel
    have HA := hidP hall
    have HL := hidP L
    have hvr := HV.out.next L
    clear hall L
    by_cases hlt : k < hi.length
    · obtain ⟨b, off, rfl, hb, hs⟩ := MSeg.seg hvr (by omega)
      obtain ⟨c0, pa, pc, c1, hpv⟩ := hs.at (i := k) hlt
      have HN := hidP (HF.out wr k pa pc HL.out)
      clear hs hvr hpv
      by_cases he : mid hi k = id
      · have HX := hidP (zFind_some hlt he)
        rw [decide_eq_true he] at HN
        clear he
        generalize mid hi k = x at *
        generalize (mat hi k).length = xl at *
        go_wp2_with fail
        refine HN.out.mono ?_
        rintro e w2 ⟨rfl, L2⟩
        have HL2 := hidP (chain HL.out L2)
        clear L2
        go_wp2_with fail
        go_ret
        exact ⟨⟨(k : Int), rfl, by rw [HX.out]; simp⟩, HL2.out⟩
      · have HE := hidP he
        rw [decide_eq_false he] at HN
        clear he
        generalize hgm : mid hi k = x at *
        have HGM := hidP hgm
        clear hgm
        generalize (mat hi k).length = xl at *
        go_wp2_with fail
        refine HN.out.mono ?_
        rintro e w2 ⟨rfl, L2⟩
        have HL2 := hidP (chain HL.out L2)
        clear L2
        go_wp2_with fail
        go_roundw
        case rel => exact ⟨k + 1, by omega, by go_num, fun j hj => by
          rcases Nat.lt_or_ge j k with h | h
          · exact HA.out j h
          · rw [show j = k by omega, HGM.out]; exact HE.out, HL2.out⟩
        case measure => simp [intOf]; omega
    · go_wp2_with fail
      go_ret
      obtain rfl : k = hi.length := by omega
      exact ⟨⟨-1, rfl, by rw [zFind_none HA.out]; rfl⟩, HL.out⟩

set_option maxHeartbeats 400000 in
theorem pAnyHas2 (B : Nat) (id : Int) (ao : Option Addr) (cap : Nat) (hi : List Mk) (w : World) (hb : B < w.heap.size) (hc : w.cell? ⟨B, 0, none⟩ = some (.int .i64 id)) (hv : MView w ao hi) (hsh : MSmall hi) :
    Calls Tryz.prog 201 #[.slice ao hi.length cap, .func (.func 202) #[] #[.pointer (some ⟨B, 0, none⟩)]] w fun e w' => e = .returned (.bool (decide (0 ≤ zFind hi id))) ∧ Below w.heap.size w w' := by
  have HI := hidP (pAnyHas B id ao cap hi w hb hc hv hsh)
  clear hv hb hc
  go_enter Tryz.func201, Tryz.ntmps201
  go_wp2_with fail
  refine HI.out.mono ?_
  rintro e w2 ⟨⟨r, rfl, hr⟩, L2⟩
  have HL2 := hidP L2
  clear L2
  go_wp2_with fail
  go_ret
  exact ⟨ret_bool (by rw [← hr]), HL2.out⟩

set_option maxRecDepth 100000 in
set_option maxHeartbeats 400000 in
theorem iHasM (id : Int) (ao : Option Addr) (cap : Nat) (hi : List Mk) (w : World) (hv : MView w ao hi) (hsh : MSmall hi) :
    Calls Tryz.prog 139 #[.slice ao hi.length cap, .int .i64 id] w fun e w' => e = .returned (.bool (decide (0 ≤ zFind hi id))) ∧ Below w.heap.size w w' := by
  obtain ⟨V, hV⟩ : ∃ V, w.alloc (.cells #[.int .i64 id] 2) = V := ⟨_, rfl⟩
  have LV : Below w.heap.size w V := by rw [← hV]; exact (Below.refl _ _).alloc (Nat.le_refl _) _
  have y0 : V.cell? ⟨w.heap.size, 0, none⟩ = some (.int .i64 id) := by rw [← hV]; simp
  have hyl : w.heap.size < V.heap.size := by rw [← hV]; simp
  have HC := hidP (pAnyHas2 w.heap.size id ao cap hi V hyl y0 (hv.next LV) hsh)
  have HLV := hidP LV
  clear hv LV
  go_enter Tryz.func139, Tryz.ntmps139
  go_wp2_with fail
  refine HC.out.mono ?_
  rintro e w2 ⟨rfl, L2⟩
  have HL2 := hidP (chain HLV.out L2)
  clear L2
  go_wp2_with fail
  go_ret
  exact ⟨rfl, HL2.out⟩
end Go.Proofs.YtfbhohpbhjlihaaGreat
