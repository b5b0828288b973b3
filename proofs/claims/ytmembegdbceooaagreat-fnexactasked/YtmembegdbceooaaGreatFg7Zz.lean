/-
  The program's first and firstClosed: the first of what is seen that was not opened.
  The program's open: one of those seen is opened, and all that it is linked to are seen.
-/
import Derived.Test.YtmembegdbceooaaGreatFg6Zz
import Derived.Test.YtmembegdbceooaaGreatZRadZz
namespace Go.Proofs.YtmembegdbceooaaGreat
open Go Go.RowKit

theorem own_viewN {base : Nat} {w : World} {a : Option Addr} {m c : Nat} {l : List Int} (h : w.ownsRow base 2 1 (.slice a m c) l.length (numC l)) : View w a l := by
  by_cases h0 : l.length = 0
  · exact Or.inl (List.length_eq_zero_iff.1 h0)
  · obtain ⟨g, e, hb, hl, hc⟩ := own_cell h (by rw [numC_len]; omega)
    refine Or.inr ⟨g, 0, e, hl, fun k hk => ?_⟩
    rw [Nat.zero_add, hc k (by rw [numC_len]; exact hk)]
    simp [numC, nth, List.getD, hk]
theorem own_cap {base e n : Nat} {w : World} {a : Option Addr} {m c : Nat} {xs : List Value} (h : w.ownsRow base e 1 (.slice a m c) n xs) : n ≤ c := by
  obtain ⟨h1, h2⟩ := h
  rcases h2 with ⟨e1, e2⟩ | ⟨g, cp, cur, e1, hb, hg, hnc, hcm, hsz, htk⟩
  · omega
  · injection e1 with e1 e2 e3
    omega

set_option maxRecDepth 100000 in
set_option maxHeartbeats 1000000 in
theorem iFirst (W0 w : World) (G cm cl cq cs co : Nat) (am al aq as1 ao : Option Addr) (ms : List Mk) (ls : List (List Int)) (q op : List Int) (s : List Ht) (vs : List Value) (wd : Nat) (hg : Gz W0 w G am cm ms al cl ls aq cq q s op as1 cs vs ao co) (h0 : 0 < s.length) :
    Calls Tryz.prog 158 #[.pointer (some ⟨G, 0, none⟩), .int .i64 wd] w fun e w' => e = .returned (.slice as1 (min s.length wd) cs) ∧ Below w.heap.size w w' := by
  obtain ⟨-, -, -, g3, -⟩ := hg.five.cells
  have hcap := own_cap hg.sr
  obtain ⟨sb, rfl, -, -, -⟩ := own_cell hg.sr (by rw [hg.vl]; omega)
  obtain ⟨m, hm⟩ : ∃ m, min s.length wd = m := ⟨_, rfl⟩
  have hmi : min (wd : Int) (s.length : Int) = (m : Int) := by omega
  have hmc : m ≤ cs := by omega
  have hmc2 : (m : Int) ≤ (cs : Int) := by omega
  have hm0 : (0 : Int) ≤ (m : Int) := by omega
  rw [hm]
  clear hg hm
  go_enter Tryz.func158, Tryz.ntmps158
  go_wp2_with fail
  go_region_held3 (fun w' => w'.cell? ⟨G, 3, none⟩ = some (.slice (some ⟨sb, 0, none⟩) s.length cs)) (first | go_keep) (fail)
  simp only [Exit.then]
  go_wp2_with fail
  go_ret
  exact ⟨rfl, (Below.refl _ _).drew⟩

set_option maxRecDepth 100000 in
set_option maxHeartbeats 1000000 in
theorem iClosedFn (B : Nat) (W0 w : World) (G cm cl cq cs co : Nat) (am al aq as1 ao : Option Addr) (ms : List Mk) (ls : List (List Int)) (q op : List Int) (s : List Ht) (vs : List Value) (i : Nat) (hg : Gz W0 w G am cm ms al cl ls aq cq q s op as1 cs vs ao co) (hB : w.cell? ⟨B, 0, none⟩ = some (.pointer (some ⟨G, 0, none⟩))) (hi : i < s.length) (ho : op.length ≤ 60) :
    Calls Tryz.prog 189 #[vs.getD i .nilIface, .pointer (some ⟨B, 0, none⟩)] w fun e w' => e = .returned (.bool (!hasB op (hnth s i).1)) ∧ Below w.heap.size w w' := by
  obtain ⟨ta, tc, hIt, -⟩ := hg.sees i hi
  obtain ⟨tt, tv, hsv, hm1, -⟩ := hIt.meth
  rw [hsv]
  simp only at hm1
  have HID := hidP (fun w' => pSpotId (hnth s i).1 ta (cn ls (zIdx ms (hnth s i).1)).length tc w')
  have HHA : Hid (∀ w', Below w.heap.size w w' → Calls Tryz.prog 184 #[.slice ao op.length co, .int .i64 (hnth s i).1] w' fun e w'' => e = .returned (.bool (hasB op (hnth s i).1)) ∧ w'' = w') := fun w' L => pHas ao co op _ w' (own_viewN (hg.next L).opr) (by omega)
  obtain ⟨-, -, -, -, g4⟩ := hg.five.cells
  have hGl := hg.five.lt
  have hBl : B < w.heap.size := cell_lt hB
  clear hIt hsv hg
  generalize (cn ls (zIdx ms (hnth s i).1)).length = yn at *
  generalize (hnth s i).1 = y at *
  have HK : Hid (∀ w', Below w.heap.size w w' → w'.cell? ⟨B, 0, none⟩ = some (.pointer (some ⟨G, 0, none⟩)) ∧ w'.cell? ⟨G, 4, none⟩ = some (.slice ao op.length co)) := fun w' L => ⟨(L.cell (p := ⟨B, 0, none⟩) hBl).trans hB, (L.cell (p := ⟨G, 4, none⟩) hGl).trans g4⟩
  go_enter Tryz.func189, Tryz.ntmps189
  go_wp2_with fail
  go_region_held3 (fun w' => w'.cell? ⟨B, 0, none⟩ = some (.pointer (some ⟨G, 0, none⟩)) ∧ w'.cell? ⟨G, 4, none⟩ = some (.slice ao op.length co))
    (first
      | go_keep
      | exact HK.out _ (((Below.refl w.heap.size w).drew).alloc (Nat.le_refl _) _))
    (first
      | (go_at_call 257; refine (HID.out _).mono ?_; rintro e w2 ⟨rfl, rfl⟩)
      | (go_at_call 184; refine (HHA.out _ (((Below.refl w.heap.size w).drew).alloc (Nat.le_refl _) _)).mono ?_; rintro e w3 ⟨rfl, rfl⟩))
  simp only [Exit.then]
  go_wp2_with fail
  go_ret
  exact ⟨rfl, ((Below.refl w.heap.size w).drew).alloc (Nat.le_refl _) _⟩

set_option maxRecDepth 100000 in
set_option maxHeartbeats 1000000 in
theorem iIndexG (B : Nat) (W0 w : World) (G cm cl cq cs co : Nat) (am al aq as1 ao : Option Addr) (ms : List Mk) (ls : List (List Int)) (q op : List Int) (s : List Ht) (vs : List Value) (m : Nat) (hg : Gz W0 w G am cm ms al cl ls aq cq q s op as1 cs vs ao co) (hB : w.cell? ⟨B, 0, none⟩ = some (.pointer (some ⟨G, 0, none⟩))) (hm : m ≤ s.length) (hn : s.length ≤ 60) (ho : op.length ≤ 60) :
    Calls Tryz.prog 188 #[.slice as1 m cs, .func (Fn.func 189) #[] #[.pointer (some ⟨B, 0, none⟩)]] w fun e w' => e = .returned (.int .i64 (outTo s op m)) ∧ Below w.heap.size w w' := by
  have hBl : B < w.heap.size := cell_lt hB
  have HF : Hid (∀ W i, Below w.heap.size w W → i < s.length → Calls Tryz.prog 189 #[vs.getD i .nilIface, .pointer (some ⟨B, 0, none⟩)] W fun e w' => e = .returned (.bool (!hasB op (hnth s i).1)) ∧ Below W.heap.size W w') := fun W i L hi =>
    iClosedFn B W0 W G cm cl cq cs co am al aq as1 ao ms ls q op s vs i (hg.next L) ((L.cell (p := ⟨B, 0, none⟩) hBl).trans hB) hi ho
  have HC : Hid (0 < s.length → ∃ sb, as1 = some ⟨sb, 0, none⟩ ∧ sb < w.heap.size ∧ ∀ k, k < s.length → w.cell? ⟨sb, k, none⟩ = some (vs.getD k .nilIface)) := fun h0 => by
    obtain ⟨sb, e, -, h1, h2⟩ := own_cell hg.sr (by rw [hg.vl]; exact h0)
    exact ⟨sb, e, h1, fun k hk => h2 k (by rw [hg.vl]; exact hk)⟩
  clear hB hg
  go_enter Tryz.func188, Tryz.ntmps188
  go_wp2_with fail
  go_loopw [8] (fun i wr => ∃ k : Nat, k ≤ m ∧ i = .int .i64 k ∧ outTo s op k < 0 ∧ Below w.heap.size w wr) (fun i _ => m - (intOf i).toNat)
  case atStart => exact ⟨0, Nat.zero_le _, rfl, by simp [outTo], Below.refl _ _⟩
  case round =>
    obtain ⟨k, hk, rfl, hout, L⟩ := hrel
    by_cases hlt : k < m
    · obtain ⟨sb, rfl, hsl, hsc⟩ := HC.out (by omega)
      have c0 := (L.cell (p := ⟨sb, k, none⟩) hsl).trans (hsc k (by omega))
      have HN := hidP (HF.out wr k L (by omega))
      have HL := hidP L
      have HO := hidP hout
      have hk0 : (0 : Int) ≤ (k : Int) := Int.natCast_nonneg _
      have hk1 : (k : Int) < (m : Int) := by omega
      clear L hsc hout
      generalize vs.getD k .nilIface = sv at *
      rcases he : hasB op (hnth s k).1 with _ | _
      · have HX : Hid (outTo s op m = (k : Int)) := by
          show _ = _
          have h1 : outTo s op (k + 1) = (k : Int) := by
            have := HO.out
            simp only [outTo]
            rw [if_neg (by omega), if_neg (by rw [he]; simp)]
          rw [outTo_stay (n := k + 1) (m := m) (by omega) (by omega), h1]
        rw [he] at HN
        clear he
        go_wp2_with fail
        refine HN.out.mono ?_
        rintro e w2 ⟨rfl, L2⟩
        have HL2 := hidP (chain HL.out L2)
        clear L2
        go_wp2_with fail
        go_ret
        exact ⟨ret_int HX.out.symm, HL2.out⟩
      · have HX : Hid (outTo s op (k + 1) < 0) := by
          show _ < _
          have := HO.out
          simp only [outTo]
          rw [if_neg (by omega), if_pos he]
          omega
        rw [he] at HN
        clear he
        go_wp2_with fail
        refine HN.out.mono ?_
        rintro e w2 ⟨rfl, L2⟩
        have HL2 := hidP (chain HL.out L2)
        clear L2
        go_wp2_with fail
        go_roundw
        case rel => exact ⟨k + 1, by omega, by go_num, HX.out, HL2.out⟩
        case measure => simp [intOf]; omega
    · obtain rfl : k = m := by omega
      have HX : Hid (outTo s op k = -1) := by
        show _ = _
        have := (outTo_ok s op k).1
        omega
      have HL := hidP L
      clear L hout
      go_wp2_with fail
      go_ret
      exact ⟨ret_int HX.out.symm, HL.out⟩

set_option maxRecDepth 100000 in
set_option maxHeartbeats 1000000 in
theorem iClosed (W0 w : World) (G cm cl cq cs co : Nat) (am al aq as1 ao : Option Addr) (ms : List Mk) (ls : List (List Int)) (q op : List Int) (s : List Ht) (vs : List Value) (wd : Nat) (hg : Gz W0 w G am cm ms al cl ls aq cq q s op as1 cs vs ao co) (h0 : 0 < s.length) (hn : s.length ≤ 60) (ho : op.length ≤ 60) :
    Calls Tryz.prog 146 #[.pointer (some ⟨G, 0, none⟩), .int .i64 wd] w fun e w' => e = .returned (.int .i64 (outTo s op (min s.length wd))) ∧ Below w.heap.size w w' := by
  obtain ⟨W1, hW1⟩ : ∃ W, w.alloc (.cells #[.pointer (some ⟨G, 0, none⟩)] 165) = W := ⟨_, rfl⟩
  have L1 : Below w.heap.size w W1 := by rw [← hW1]; exact (Below.refl _ _).alloc (Nat.le_refl _) _
  have hB0 : W1.cell? ⟨w.heap.size, 0, none⟩ = some (.pointer (some ⟨G, 0, none⟩)) := by rw [← hW1]; simp
  have hBl : w.heap.size < W1.heap.size := by rw [← hW1]; simp
  have HFI := hidP (iFirst W0 W1 G cm cl cq cs co am al aq as1 ao ms ls q op s vs wd (hg.next L1) h0)
  have HG := hidP (hg.next L1)
  have HL := hidP L1
  clear hg L1
  go_enter Tryz.func146, Tryz.ntmps146
  go_wp2_with fail
  refine HFI.out.mono ?_
  rintro e w2 ⟨rfl, L2⟩
  have HIX := hidP (iIndexG w.heap.size W0 w2 G cm cl cq cs co am al aq as1 ao ms ls q op s vs (min s.length wd) (HG.out.next L2) ((L2.cell (p := ⟨w.heap.size, 0, none⟩) hBl).trans hB0) (by omega) hn ho)
  have HL2 := hidP (chain HL.out L2)
  clear L2 hB0 hW1
  go_wp2_with fail
  refine HIX.out.mono ?_
  rintro e w3 ⟨rfl, L3⟩
  have HL3 := hidP (chain HL2.out L3)
  clear L3
  go_wp2_with fail
  go_ret
  exact ⟨rfl, HL3.out⟩
end Go.Proofs.YtmembegdbceooaaGreat
namespace Go.Proofs.YtmembegdbceooaaGreat
open Go Go.RowKit

theorem info_num : (Tryz.prog.info? 2).map (fun i => (i.zero, i.size, i.bytes)) = some (some (.int .i64 0), 1, 8) := by kernel_rfl
/-- One more is opened. -/
theorem Gz.opens {W0 w w7 w8 : World} {G cm cl cq cs co : Nat} {am al aq as1 ao : Option Addr} {ms : List Mk} {ls : List (List Int)} {q op : List Int} {s : List Ht} {vs : List Value} {x : Int} {g c7 : Nat} (h : Gz W0 w G am cm ms al cl ls aq cq q s op as1 cs vs ao co) (hrow : w7.ownsRow W0.heap.size 2 1 (.slice (some ⟨g, 0, none⟩) (op.length + 1) c7) (op.length + 1) (numC op ++ [.int .i64 x])) (hgr : w.grownBy w7 (Value.slice ao op.length co).ownBlock) (hat : (Value.slice ao op.length co).ownBlock = some g ∨ g = w.heap.size) (h8 : w8 = w7.setCell ⟨G, 4, none⟩ (.slice (some ⟨g, 0, none⟩) (op.length + 1) c7)) :
    Gz W0 w8 G am cm ms al cl ls aq cq q s (op ++ [x]) as1 cs vs (some ⟨g, 0, none⟩) c7 := by
  have hlen : (op ++ [x]).length = op.length + 1 := by simp
  have hGl := h.five.lt
  have hsb := World.ownsRow.lt h.sr
  have hob := World.ownsRow.lt h.opr
  have hgG : g ≠ G := by
    rcases hat with e | e
    · intro e2; rw [e2] at e; exact h.a2 e
    · omega
  have F7 : Fiv w7 G (.slice am ms.length cm) (.slice al ls.length cl) (.slice aq q.length cq) (.slice as1 s.length cs) (.slice ao op.length co) 107 := h.five.kept hgr (fun e => h.a2 e.symm)
  have hg8 : w7.grownBy w8 (some G) := by rw [h8]; exact grown_setCell w7 G 4 _
  have S7 : w7.ownsRow W0.heap.size 167 1 (.slice as1 s.length cs) s.length vs := World.ownsRow.kept h.sr hgr (by
    cases he : (Value.slice as1 s.length cs).ownBlock with
    | none => exact Or.inl rfl
    | some b => exact Or.inr fun e => h.a3 b he e.symm)
  refine ⟨?_, h.low, World.ownsRow.kept S7 hg8 (Or.inr h.a1), h.vl, h.sees, ?_, h.a1, ?_, fun g' e => ?_, ?_⟩
  · rw [hlen, h8]; exact F7.set4 _
  · rw [hlen]
    have e1 := World.ownsRow.kept hrow hg8 (Or.inr fun e => by
      have e' : some g = some G := e
      injection e' with e'
      exact hgG e')
    rw [show numC (op ++ [x]) = numC op ++ [.int .i64 x] by simp [numC]]
    exact e1
  · intro e
    have e' : some g = some G := e
    injection e' with e'
    exact hgG e'
  · intro e2
    have e' : some g = some g' := e2
    injection e' with e'
    subst e'
    rcases hat with e3 | e3
    · exact h.a3 g e e3
    · have := (hsb g e).2
      omega
  · exact (h.bel.grown hgr (by have := h.bel.size; omega) (fun k hk => (hob k hk).1)).grown hg8 (by have := h.bel.size; have := hgr.size; omega) (fun k hk => by cases hk; exact h.low)

set_option maxRecDepth 100000 in
set_option maxHeartbeats 4000000 in
theorem iOpen (W0 w : World) (G cm cl cq cs co : Nat) (am al aq as1 ao : Option Addr) (ms : List Mk) (ls : List (List Int)) (q op : List Int) (s : List Ht) (vs : List Value) (i : Nat) (hg : Gz W0 w G am cm ms al cl ls aq cq q s op as1 cs vs ao co) (hI : LkIn W0 am ms al ls aq q) (hW : LkWeb ms ls q) (hd : LookD (ddQ ms q) s) (hf : ∀ y ∈ idsH s, 0 ≤ zFind ms y) (hi : i < s.length) (ho : op.length ≤ 60) :
    Calls Tryz.prog 147 #[.pointer (some ⟨G, 0, none⟩), vs.getD i .nilIface] w fun e w' => e = .returned (.tuple #[]) ∧ ∃ as2 cs2 vs2 ao2 co2, Gz W0 w' G am cm ms al cl ls aq cq q (seesD (ddQ ms q) s (cn ls (zIdx ms (hnth s i).1))) (op ++ [(hnth s i).1]) as2 cs2 vs2 ao2 co2 := by
  obtain ⟨ta, tc, hIt, htv⟩ := hg.sees i hi
  obtain ⟨tt, tv, hsv, hm1, hm2⟩ := hIt.meth
  rw [hsv]
  simp only at hm1 hm2
  have HID := hidP (fun w' => pSpotId (hnth s i).1 ta (cn ls (zIdx ms (hnth s i).1)).length tc w')
  have HLI := hidP (fun w' => pSpotLinks (hnth s i).1 ta (cn ls (zIdx ms (hnth s i).1)).length tc w')
  have hx0 := hf _ (idsH_nth hi)
  have hxi := zIdx_lt hx0
  have hm60 := marksB_len (web_marks hW.web)
  have hll := links_short hW.web hxi.1
  have HLF : Hid (∀ k, k < (cn ls (zIdx ms (hnth s i).1)).length → 0 ≤ zFind ms (nth (cn ls (zIdx ms (hnth s i).1)) k)) := fun k hk => (web_link hW.web hxi.1 ((hasB_iff _ _).1 (hasB_nth hk))).1
  have HSN : Hid (∀ l : List Int, (∀ y ∈ l, y ∈ cn ls (zIdx ms (hnth s i).1)) → LookD (ddQ ms q) (seesD (ddQ ms q) s l) ∧ (seesD (ddQ ms q) s l).length ≤ 60) := fun l hl => by
    obtain ⟨h1, h2⟩ := seesD_ok hd l
    refine ⟨h1, ?_⟩
    have := ids_short (ms := ms) h1.nd (fun y hy => by
      rcases (h2 y).1 hy with e | e
      · exact (web_link hW.web hxi.1 (hl y e)).1
      · exact hf y e)
    rw [idsH_len] at this
    omega
  have HTV := hidP htv
  have HI := hidP hI
  have HW := hidP hW
  obtain ⟨-, -, -, -, g4⟩ := hg.five.cells
  have hGl := hg.five.lt
  have HG := hidP hg
  have hobs : ∀ g, (Value.slice ao op.length co).ownBlock = some g → W0.heap.size ≤ g ∧ g < w.heap.size := World.ownsRow.lt hg.opr
  have HOB := hidP hobs
  obtain ⟨i0, hi0, hz0, hz1, hz2⟩ := info_parts info_num
  clear hIt hsv hg hI hW hd hf hx0 hxi htv hobs
  generalize hxx : (hnth s i).1 = x at *
  clear hxx
  generalize hlx : cn ls (zIdx ms x) = l at *
  clear hlx
  obtain ⟨W1, hW1⟩ : ∃ W, (w.drew.alloc (.cells #[.int .i64 x, .slice ta l.length tc] 195)) = W := ⟨_, rfl⟩
  have L1 : Below w.heap.size w W1 := by rw [← hW1]; exact ((Below.refl w.heap.size w).drew).alloc (Nat.le_refl _) _
  have hz1w : W1.heap.size = w.heap.size + 1 := by rw [← hW1]; simp
  obtain ⟨W2, hW2⟩ : ∃ W, W1.alloc (.cells #[.int .i64 x] 2) = W := ⟨_, rfl⟩
  have L2 : Below W1.heap.size W1 W2 := by rw [← hW2]; exact (Below.refl _ _).alloc (Nat.le_refl _) _
  have V2 : W2.heap[W1.heap.size]? = some (.cells #[.int .i64 x] 2 (0, 0)) := by rw [← hW2]; exact heap_alloc_new W1 _
  have hz2w : W2.heap.size = W1.heap.size + 1 := by rw [← hW2]; simp
  rw [hz1w] at V2
  have L12 := chain L1 L2
  have hg2 := HG.out.next L12
  have HG2 := hidP hg2
  have HO2 := hidP hg2.opr
  have k1 := (L1.cell (p := ⟨G, 4, none⟩) hGl).trans g4
  have k2 := (L12.cell (p := ⟨G, 4, none⟩) hGl).trans g4
  have hGl2 : G < W2.heap.size := by omega
  have HB2 := hidP hg2.bel.size
  clear L1 L2 L12 hg2
  go_enter Tryz.func147, Tryz.ntmps147
  go_wp2_with fail
  refine wp_region_calm2 (S := fun w' => w'.cell? ⟨G, 4, none⟩ = some (.slice ao op.length co)) (fuel := 5)
    [0, 1, 2, 3, 4, 5] _ rfl (by kernel_rfl) (by kernel_rfl) (by kernel_rfl) (by kernel_rfl) (by kernel_rfl) (by kernel_rfl) (by kernel_rfl) g4 (fun hS => ?_)
  iterate 6
    refine ⟨_, rfl, ?_⟩
    apply Exists.intro
    refine ⟨Or.inl ⟨by rfl, fun w' hw' => ?_⟩, ?_⟩
    · first
      | (go_simp; done)
      | (go_simp; with_reducible rfl)
    simp only [Act.put, List.setIfInBounds_toArray]
  refine calm_one 6 (by kernel_rfl) rfl (fun K hK => ?_)
  go_simp
  refine (HID.out _).mono ?_
  rintro e w5 ⟨rfl, rfl⟩
  rw [hW1]
  clear hW1
  refine hK.out _ _ k1 (fun _ => ?_)
  clear hK K
  refine calm_one 7 (by kernel_rfl) rfl (fun K hK => ?_)
  go_simp
  clear hW2
  refine hK.out _ _ k2 (fun _ => ?_)
  clear hK K
  refine calm_one 8 (by kernel_rfl) rfl (fun K hK => ?_)
  refine step_append_lies _ (by rfl) _ _ _ (by rfl) W0.heap.size 2 i0 _ 1 8 Tryz.underlying28 hi0 hz0 hz1 hz2 rfl (by omega) (.slice ao op.length co) op.length (numC op) (by rfl) HO2.out ⟨w.heap.size + 1, 0, none⟩ 1 1 [.int .i64 x] (by rfl) (by rfl) (World.news_of_block (cs := #[.int .i64 x]) (t := 2) (fr := (0, 0)) V2) (by simp [Value.oneCell']) (by omega) (by unfold maxLen; omega) (by omega) HB2.out W2.heap.size rfl ?_
  intro g c7 w7 hrow7 hgr7 hat7 hlt7
  have hG7 : w7.cell? ⟨G, 4, none⟩ = some (.slice ao op.length co) := by
    have := hgr7.block G hGl2 (fun e => HG2.out.a2 e.symm)
    simp only [World.cell?, this]
    exact k2
  have F7 := HG2.out.five.kept hgr7 (fun e => HG2.out.a2 e.symm)
  have HE := hidP (And.intro hrow7 (And.intro hgr7 hat7))
  refine hK.out _ _ hG7 (fun hS7 => ?_)
  clear hK K hrow7 hgr7 hat7
  refine calm_one 9 (by kernel_rfl) rfl (fun K hK => ?_)
  go_simp
  refine hK.out _ _ hS7 (fun _ => ?_)
  clear hK K
  refine calm_one 10 (by kernel_rfl) rfl (fun K hK => ?_)
  go_simp
  refine hK.out _ _ hS7 (fun _ => ?_)
  clear hK K
  refine wpAnyH_done (by kernel_rfl) ?_ _
  simp only [Exit.then]
  have f7 := F7.frozen 4
  obtain ⟨-, -, -, -, r4⟩ := F7.cells
  clear hS7 hG7 k1 k2 g4 hS
  go_wp2_with fail
  refine NoPanic.normal ?_
  obtain ⟨W8, hW8⟩ : ∃ W, W = w7.setCell ⟨G, 4, none⟩ (.slice (some ⟨g, 0, none⟩) (op.length + 1) c7) := ⟨_, rfl⟩
  rw [← hW8]
  have HG8 : Hid (Gz W0 W8 G am cm ms al cl ls aq cq q s (op ++ [x]) as1 cs vs (some ⟨g, 0, none⟩) c7) := HG2.out.opens HE.out.1 HE.out.2.1 HE.out.2.2 hW8
  clear F7 r4 f7 hW8 HE HG2 HG HO2
  simp only [Exit.then]
  go_wp2_with fail
  refine (HLI.out _).mono ?_
  rintro e w9 ⟨rfl, rfl⟩
  obtain ⟨W9, hW9⟩ : ∃ W, W8.alloc (.cells #[.int .i64 x, .slice ta l.length tc] 195) = W := ⟨_, rfl⟩
  have HG9 : Hid (Gz W0 W9 G am cm ms al cl ls aq cq q s (op ++ [x]) as1 cs vs (some ⟨g, 0, none⟩) c7) := HG8.out.next (by rw [← hW9]; exact (Below.refl _ _).alloc (Nat.le_refl _) _)
  rw [hW9]
  clear hW9 HG8
  go_wp2_with fail
  go_loopw [20] (fun i wr => ∃ (k : Nat) (as2 : Option Addr) (cs2 : Nat) (vs2 : List Value), k ≤ l.length ∧ i = .int .i64 k ∧ Gz W0 wr G am cm ms al cl ls aq cq q (seesD (ddQ ms q) s (l.take k)) (op ++ [x]) as2 cs2 vs2 (some ⟨g, 0, none⟩) c7) (fun i _ => l.length - (intOf i).toNat)
  case atStart => exact ⟨0, as1, cs, vs, Nat.zero_le _, rfl, HG9.out⟩
  case round =>
    obtain ⟨k, as2, cs2, vs2, hk, rfl, hgk⟩ := hrel
    by_cases hlt : k < l.length
    · have hvk := HTV.out.next hgk.bel
      obtain ⟨b, off, rfl, hb, hs⟩ : ∃ b off, ta = some ⟨b, off, none⟩ ∧ b < wr.heap.size ∧ Seg wr b off l := by
        rcases hvk with h | h
        · rw [h] at hlt; simp at hlt
        · exact h
      have hc := hs k hlt
      have hk0 : (0 : Int) ≤ (k : Int) := Int.natCast_nonneg _
      have hk1 : (k : Int) < (l.length : Int) := by omega
      obtain ⟨j1, j2⟩ := HSN.out (l.take k) (fun y hy => List.mem_of_mem_take hy)
      have HS := hidP (iSee W0 wr G cm cl cq cs2 c7 am al aq as2 _ ms ls q (op ++ [x]) _ vs2 (nth l k) hgk HI.out HW.out j1 (HLF.out k hlt) j2)
      have HTK := hidP (seesD_take (ddQ ms q) s l hlt)
      clear hs hvk hgk j1 j2
      generalize nth l k = y at *
      go_wp2_with fail
      refine HS.out.mono ?_
      rintro e w10 ⟨rfl, as3, cs3, vs3, hg3⟩
      rw [← HTK.out] at hg3
      have HG3 := hidP hg3
      clear hg3
      go_wp2_with fail
      go_roundw
      case rel => exact ⟨k + 1, as3, cs3, vs3, by omega, by go_num, HG3.out⟩
      case measure => simp [intOf]; omega
    · obtain rfl : k = l.length := by omega
      rw [List.take_length] at hgk
      have HGK := hidP hgk
      clear hgk
      go_wp2_with fail
      exact bodyPost_end (v := .tuple #[]) (by simp [results, Tryz.results147, go_sem]) rfl ⟨rfl, as2, cs2, vs2, _, _, HGK.out⟩
end Go.Proofs.YtmembegdbceooaaGreat
