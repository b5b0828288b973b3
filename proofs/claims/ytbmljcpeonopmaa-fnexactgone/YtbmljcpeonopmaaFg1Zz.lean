/-
  The program's WebOk: rise, has, takes.
  The program's WebOk.
-/
import Derived.Test.YtbmljcpeonopmaaFg0Zz
import Derived.Test.YtbmljcpeonopmaaFeWkZz
import Derived.Test.YtbmljcpeonopmaaZRadZz
namespace Go.Proofs.Ytbmljcpeonopmaa
open Go Go.RowKit

def upKeep (l : List Int) (k : Nat) : Prop := (∀ j, j < k → 1 ≤ nth l j ∧ nth l j ≤ 1000000) ∧ ∀ j, j + 1 < k → nth l j < nth l (j + 1)
def upLow (l : List Int) (k : Nat) : Int := if k = 0 then 1 else nth l (k - 1) + 1
theorem upLow_ok {l : List Int} {k : Nat} (h : upKeep l k) : 1 ≤ upLow l k ∧ upLow l k ≤ 1000001 := by
  unfold upLow
  by_cases h0 : k = 0
  · simp [h0]
  · have := h.1 (k - 1) (by omega)
    simp [h0]; omega
theorem upLow_succ (l : List Int) (k : Nat) : upLow l (k + 1) = nth l k + 1 := by simp [upLow]
theorem upKeep_succ {l : List Int} {k : Nat} (h : upKeep l k) (h1 : upLow l k ≤ nth l k) (h2 : nth l k ≤ 1000000) : upKeep l (k + 1) := by
  have hlo := upLow_ok h
  refine ⟨fun j hj => ?_, fun j hj => ?_⟩
  · rcases Nat.lt_or_ge j k with e | e
    · exact h.1 j e
    · obtain rfl : j = k := by omega
      exact ⟨by omega, h2⟩
  · rcases Nat.lt_or_ge (j + 1) k with e | e
    · exact h.2 j e
    · obtain rfl : k = j + 1 := by omega
      rw [upLow_succ] at h1
      omega
/-- They rise, and each may be a mark's number. -/
def upB (l : List Int) : Bool := lvRise l && decide (∀ j, j < l.length → 1 ≤ nth l j ∧ nth l j ≤ 1000000)
theorem upB_iff (l : List Int) : upB l = true ↔ upKeep l l.length := by
  simp only [upB, Bool.and_eq_true, decide_eq_true_eq, lvRise_iff, upKeep]
  exact ⟨fun h => ⟨h.2, h.1⟩, fun h => ⟨h.2, h.1⟩⟩
theorem upB_no {l : List Int} {k : Nat} (hk : k < l.length) (h : nth l k < upLow l k ∨ 1000000 < nth l k) : upB l = false := by
  rcases e : upB l with _ | _
  · rfl
  · have h' := (upB_iff l).1 e
    have h1 := h'.1 k hk
    rcases h with h | h
    · rcases Nat.eq_zero_or_pos k with e0 | e0
      · subst e0
        simp [upLow] at h
        omega
      · obtain ⟨j, rfl⟩ : ∃ j, k = j + 1 := ⟨k - 1, by omega⟩
        rw [upLow_succ] at h
        have := h'.2 j hk
        omega
    · omega
/-- Is there a mark with this number that is linked to the other one? -/
def hasW (ms : List Mk) (ls : List (List Int)) (y id : Int) : Bool := decide (0 ≤ zFind ms y) && hasB (cn ls (zIdx ms y)) id
def badW (ms : List Mk) (ls : List (List Int)) (id y : Int) : Bool := decide (y = id) || !hasW ms ls y id
def takesW (ms : List Mk) (ls : List (List Int)) (id : Int) (l : List Int) : Bool := upB l && !l.any (badW ms ls id)
theorem takesW_at {ms : List Mk} {ls : List (List Int)} (hm : marksB ms = true) {i : Nat} (hi : i < ms.length) : takesW ms ls (mid ms i) (cn ls i) = webAt ms ls i := by
  rw [Bool.eq_iff_iff, webAt_iff]
  unfold takesW
  rw [Bool.and_eq_true, upB_iff, Bool.not_eq_true', List.any_eq_false]
  have hlk : ∀ y, badW ms ls (mid ms i) y = true ↔ linkB ms ls i y = false := by
    intro y
    have key : linkB ms ls i y = true ↔ badW ms ls (mid ms i) y = false := by
      rw [linkB_iff]
      unfold badW hasW
      rw [Bool.or_eq_false_iff, decide_eq_false_iff_not, Bool.not_eq_false', Bool.and_eq_true, decide_eq_true_eq]
      constructor
      · rintro ⟨a, b, c⟩
        refine ⟨fun e => b ?_, a, c⟩
        rw [e, (zFind_mid hm hi).1]
      · rintro ⟨a, b, c⟩
        refine ⟨b, fun e => a ?_, c⟩
        have := zIdx_lt b
        rw [← this.2.2]
        congr 1
        omega
    rcases e1 : badW ms ls (mid ms i) y with _ | _ <;> rcases e2 : linkB ms ls i y with _ | _
    · exact absurd e2 (by rw [key.2 e1]; simp)
    · simp
    · simp
    · have := key.1 e2; rw [e1] at this; cases this
  constructor
  · rintro ⟨h1, h2⟩
    refine ⟨(lvRise_iff _).2 h1.2, fun k hk => ?_⟩
    rcases e : linkB ms ls i (nth (cn ls i) k) with _ | _
    · exact absurd ((hlk _).2 e) (h2 _ ((hasB_iff _ _).1 (hasB_nth hk)))
    · rfl
  · rintro ⟨h1, h2⟩
    refine ⟨⟨fun j hj => ?_, (lvRise_iff _).1 h1⟩, fun y hy => ?_⟩
    · have h3 := ((linkB_iff _ _ _ _).1 (h2 j hj)).1
      obtain ⟨a, -, c⟩ := zIdx_lt h3
      have := (mOkAt_iff _ _).1 (marksB_at hm a)
      rw [c] at this
      exact ⟨this.1, this.2.1⟩
    · obtain ⟨k, hk, rfl⟩ := mem_nth hy
      intro hb
      have := (hlk _).1 hb
      rw [h2 k hk] at this; cases this

set_option maxHeartbeats 400000 in
theorem pRiseW (ao : Option Addr) (cap : Nat) (l : List Int) (w : World) (hv : View w ao l) (hn : l.length ≤ 1048576) :
    Calls Try.prog 84 #[.slice ao l.length cap, .int .i64 1, .int .i64 1000000] w fun e w' => e = .returned (.bool (upB l)) ∧ w' = w := by
  go_enter Try.func84, Try.ntmps84
  go_wp2
  go_loop [1, 11] (fun lo i => ∃ k : Nat, k ≤ l.length ∧ i = .int .i64 k ∧ lo = .int .i64 (upLow l k) ∧ upKeep l k) (fun _ i => l.length - (intOf i).toNat)
  case atStart => exact ⟨0, Nat.zero_le _, rfl, rfl, fun j hj => by omega, fun j hj => by omega⟩
  case round =>
    obtain ⟨k, hk, rfl, rfl, hkeep⟩ := hrel
    have HK := hidP hkeep
    have hlo := upLow_ok hkeep
    clear hkeep
    obtain ⟨lo, hlow⟩ : ∃ lo, upLow l k = lo := ⟨_, rfl⟩
    rw [hlow] at hlo
    rw [hlow]
    have HLO := hidP hlow
    clear hlow
    by_cases hlt : k < l.length
    · obtain ⟨b, off, rfl, hb, hs⟩ : ∃ b off, ao = some ⟨b, off, none⟩ ∧ b < w.heap.size ∧ Seg w b off l := by
        rcases hv with h | h
        · subst h; simp at hlt
        · exact h
      have hc := hs k hlt
      by_cases ha : nth l k < lo
      · go_wp2
        go_ret
        exact ⟨ret_bool (Eq.symm (upB_no hlt (Or.inl (by rw [HLO.out]; exact ha)))), rfl⟩
      · by_cases hb : 1000000 < nth l k
        · go_wp2
          go_ret
          exact ⟨ret_bool (Eq.symm (upB_no hlt (Or.inr hb))), rfl⟩
        · go_wp2
          go_round
          case rel => exact ⟨k + 1, by omega, by go_num, by rw [upLow_succ], upKeep_succ HK.out (by rw [HLO.out]; omega) (by omega)⟩
          case measure => simp [intOf]; omega
    · go_wp2
      go_ret
      obtain rfl : k = l.length := by omega
      exact ⟨ret_bool (Eq.symm ((upB_iff l).2 HK.out)), rfl⟩

set_option maxRecDepth 100000 in
set_option maxHeartbeats 1000000 in
theorem iHasW (am al : Option Addr) (cm cl : Nat) (ms : List Mk) (ls : List (List Int)) (y id : Int) (w : World) (hm : MView w am ms) (hl : CView w al ls) (hb : marksB ms = true) (hll : ls.length = ms.length) (hcs : CSmall ls) :
    Calls Try.prog 119 #[.agg #[.slice am ms.length cm, .slice al ls.length cl], .int .i64 y, .int .i64 id] w fun e w' => e = .returned (.bool (hasW ms ls y id)) ∧ Below w.heap.size w w' := by
  obtain ⟨W, hW⟩ : ∃ W, w.alloc (.cells #[.slice am ms.length cm, .slice al ls.length cl] 105) = W := ⟨_, rfl⟩
  have hB : Below w.heap.size w W := by rw [← hW]; exact (Below.refl _ _).alloc (Nat.le_refl _) _
  have hI : WebIn W w.heap.size am cm ms al cl ls := by rw [← hW]; exact WebIn.box hm hl
  have HP := hidP (iPlace am al cm ls.length cl ms y W hI.mv hb)
  have HB := hidP hB
  have HI := hidP hI
  have k0 := hI.c0
  have k1 := hI.c1
  have HMB := hidP hb
  have hlen := marksB_len hb
  clear hm hl hB hI
  by_cases hf : 0 ≤ zFind ms y
  · obtain ⟨za, zb, zc⟩ := zIdx_lt hf
    have hpi := plc_idx hb hf
    have HV : Hid (hasW ms ls y id = hasB (cn ls (zIdx ms y)) id) := by show _ = _; simp [hasW, hf]
    rw [HV.out]
    rw [hpi, decide_eq_true hf] at HP
    have hjl : zIdx ms y < ls.length := by omega
    clear HV hpi zb zc hf hb za hll
    generalize zIdx ms y = j at *
    go_enter Try.func119, Try.ntmps119
    go_wp2_with fail
    refine HP.out.mono ?_
    rintro e w2 ⟨rfl, L2⟩
    have hI2 := HI.out.below L2
    have HL2 := hidP (chain HB.out L2)
    clear L2 HI k0 k1 hW
    have k1 := hI2.c1
    obtain ⟨b, off, rfl, hbr, hs⟩ := hI2.cv.seg (by omega)
    obtain ⟨a, c, c1, hvw⟩ := hs j hjl
    have HC := hidP (pHas a c (cn ls j) id w2 hvw (by have := hcs.2 j; omega))
    have hj0 : (0 : Int) ≤ (j : Int) := Int.natCast_nonneg _
    have hj1 : (j : Int) < (ls.length : Int) := by omega
    clear hI2 hs hvw
    go_wp2_with fail
    refine HC.out.mono ?_
    rintro e w3 ⟨rfl, rfl⟩
    go_wp2_with fail
    go_ret
    exact ⟨rfl, HL2.out⟩
  · have HV : Hid (hasW ms ls y id = false) := by show _ = _; simp [hasW, hf]
    rw [HV.out]
    rw [decide_eq_false hf] at HP
    clear HV hf hb hll
    generalize plc y ms = j at *
    go_enter Try.func119, Try.ntmps119
    go_wp2_with fail
    refine HP.out.mono ?_
    rintro e w2 ⟨rfl, L2⟩
    have HL2 := hidP (chain HB.out L2)
    clear L2 HI k0 k1 hW
    go_wp2_with fail
    go_ret
    exact ⟨rfl, HL2.out⟩

set_option maxRecDepth 100000 in
set_option maxHeartbeats 1000000 in
theorem iBadW (A B : Nat) (am al : Option Addr) (cm cl : Nat) (ms : List Mk) (ls : List (List Int)) (y id : Int) (w : World) (hA : w.cell? ⟨A, 0, none⟩ = some (.int .i64 id)) (hI : WebIn w B am cm ms al cl ls) (hb : marksB ms = true) (hll : ls.length = ms.length) (hcs : CSmall ls) :
    Calls Try.prog 118 #[.int .i64 y, .pointer (some ⟨A, 0, none⟩), .pointer (some ⟨B, 0, none⟩)] w fun e w' => e = .returned (.bool (badW ms ls id y)) ∧ Below w.heap.size w w' := by
  have HC := hidP (iHasW am al cm cl ms ls y id w hI.mv hI.cv hb hll hcs)
  have k0 := hI.c0
  have k1 := hI.c1
  clear hI hll
  by_cases he : y = id
  · have HV : Hid (badW ms ls id y = true) := by show _ = _; simp [badW, he]
    rw [HV.out]
    have heb : (y == id) = true := by simp [he]
    clear HV he HC
    go_enter Try.func118, Try.ntmps118
    go_wp2_with fail
    go_ret
    exact ⟨rfl, Below.refl _ _⟩
  · have HV : Hid (badW ms ls id y = !hasW ms ls y id) := by show _ = _; simp [badW, he]
    rw [HV.out]
    have heb : (y == id) = false := by simp [he]
    clear HV he
    generalize hasW ms ls y id = r at *
    go_enter Try.func118, Try.ntmps118
    go_wp2_with fail
    refine HC.out.mono ?_
    rintro e w2 ⟨rfl, L2⟩
    have HL2 := hidP L2
    clear L2 k0 k1 hA
    go_wp2_with fail
    go_ret
    exact ⟨rfl, HL2.out⟩

theorem anyW_yes {ms : List Mk} {ls : List (List Int)} {id : Int} {l : List Int} {k : Nat} (hk : k < l.length) (h : badW ms ls id (nth l k) = true) : l.any (badW ms ls id) = true :=
  List.any_eq_true.2 ⟨_, (hasB_iff _ _).1 (hasB_nth hk), h⟩
theorem anyW_no {ms : List Mk} {ls : List (List Int)} {id : Int} {l : List Int} (h : ∀ j, j < l.length → badW ms ls id (nth l j) = false) : l.any (badW ms ls id) = false := by
  rw [List.any_eq_false]
  intro y hy
  obtain ⟨k, hk, rfl⟩ := mem_nth hy
  rw [h k hk]; simp

set_option maxRecDepth 100000 in
set_option maxHeartbeats 1000000 in
theorem pAnyBad (A B : Nat) (am al ao : Option Addr) (cm cl cap : Nat) (ms : List Mk) (ls : List (List Int)) (id : Int) (l : List Int) (w : World) (hA : w.cell? ⟨A, 0, none⟩ = some (.int .i64 id)) (hI : WebIn w B am cm ms al cl ls) (hb : marksB ms = true) (hll : ls.length = ms.length) (hcs : CSmall ls) (hv : View w ao l) (hn : l.length ≤ 1048576) :
    Calls Try.prog 122 #[.slice ao l.length cap, .func (.func 118) #[] #[.pointer (some ⟨A, 0, none⟩), .pointer (some ⟨B, 0, none⟩)]] w fun e w' => (∃ r : Int, e = .returned (.int .i64 r) ∧ decide (0 ≤ r) = l.any (badW ms ls id)) ∧ Below w.heap.size w w' := by
  have hAl : A < w.heap.size := cell_lt hA
  have HF : Hid (∀ W y, Below w.heap.size w W → Calls Try.prog 118 #[.int .i64 y, .pointer (some ⟨A, 0, none⟩), .pointer (some ⟨B, 0, none⟩)] W fun e w' => e = .returned (.bool (badW ms ls id y)) ∧ Below W.heap.size W w') := fun W y L =>
    iBadW A B am al cm cl ms ls y id W ((L.cell (p := ⟨A, 0, none⟩) hAl).trans hA) (hI.below L) hb hll hcs
  have HV := hidP hv
  clear hA hI hb hll hcs hv
  go_enter Try.func122, Try.ntmps122
  go_wp2_with fail
  go_loopw [8] (fun i wr => ∃ k : Nat, k ≤ l.length ∧ i = .int .i64 k ∧ (∀ j, j < k → badW ms ls id (nth l j) = false) ∧ Below w.heap.size w wr) (fun i _ => l.length - (intOf i).toNat)
  case atStart => exact ⟨0, Nat.zero_le _, rfl, fun j hj => by omega, Below.refl _ _⟩
  case round =>
    obtain ⟨k, hk, rfl, hall, L⟩ := hrel
    have HA := hidP hall
    have HL := hidP L
    have hvr := HV.out.next L
    clear hall L
    by_cases hlt : k < l.length
    · obtain ⟨b, off, rfl, hb, hs⟩ : ∃ b off, ao = some ⟨b, off, none⟩ ∧ b < wr.heap.size ∧ Seg wr b off l := by
        rcases hvr with h | h
        · subst h; simp at hlt
        · exact h
      have hc := hs k hlt
      have HN := hidP (HF.out wr (nth l k) HL.out)
      clear hs hvr
      rcases he : badW ms ls id (nth l k) with _ | _
      · rw [he] at HN
        have HE := hidP he
        clear he
        go_wp2_with fail
        refine HN.out.mono ?_
        rintro e w2 ⟨rfl, L2⟩
        have HL2 := hidP (chain HL.out L2)
        clear L2
        go_wp2_with fail
        go_roundw
        case rel => exact ⟨k + 1, by omega, by go_num, fun j hj => by
          rcases Nat.lt_or_ge j k with h | h
          · exact HA.out j h
          · rw [show j = k by omega]; exact HE.out, HL2.out⟩
        case measure => simp [intOf]; omega
      · have HX := hidP (anyW_yes hlt he)
        rw [he] at HN
        clear he
        go_wp2_with fail
        refine HN.out.mono ?_
        rintro e w2 ⟨rfl, L2⟩
        have HL2 := hidP (chain HL.out L2)
        clear L2
        go_wp2_with fail
        go_ret
        exact ⟨⟨(k : Int), rfl, by rw [HX.out]; simp⟩, HL2.out⟩
    · go_wp2_with fail
      go_ret
      obtain rfl : k = l.length := by omega
      exact ⟨⟨-1, rfl, by rw [anyW_no HA.out]; rfl⟩, HL.out⟩

set_option maxHeartbeats 400000 in
theorem pAnyBad2 (A B : Nat) (am al ao : Option Addr) (cm cl cap : Nat) (ms : List Mk) (ls : List (List Int)) (id : Int) (l : List Int) (w : World) (hA : w.cell? ⟨A, 0, none⟩ = some (.int .i64 id)) (hI : WebIn w B am cm ms al cl ls) (hb : marksB ms = true) (hll : ls.length = ms.length) (hcs : CSmall ls) (hv : View w ao l) (hn : l.length ≤ 1048576) :
    Calls Try.prog 117 #[.slice ao l.length cap, .func (.func 118) #[] #[.pointer (some ⟨A, 0, none⟩), .pointer (some ⟨B, 0, none⟩)]] w fun e w' => e = .returned (.bool (l.any (badW ms ls id))) ∧ Below w.heap.size w w' := by
  have HI := hidP (pAnyBad A B am al ao cm cl cap ms ls id l w hA hI hb hll hcs hv hn)
  clear hv hI hA
  go_enter Try.func117, Try.ntmps117
  go_wp2_with fail
  refine HI.out.mono ?_
  rintro e w2 ⟨⟨r, rfl, hr⟩, L2⟩
  have HL2 := hidP L2
  clear L2
  go_wp2_with fail
  go_ret
  exact ⟨ret_bool (by rw [← hr]), HL2.out⟩

set_option maxRecDepth 100000 in
set_option maxHeartbeats 1000000 in
theorem iTakes (am al ao : Option Addr) (cm cl cap : Nat) (ms : List Mk) (ls : List (List Int)) (id : Int) (l : List Int) (w : World) (hm : MView w am ms) (hl : CView w al ls) (hb : marksB ms = true) (hll : ls.length = ms.length) (hcs : CSmall ls) (hv : View w ao l) (hn : l.length ≤ 1048576) :
    Calls Try.prog 112 #[.agg #[.slice am ms.length cm, .slice al ls.length cl], .int .i64 id, .slice ao l.length cap] w fun e w' => e = .returned (.bool (takesW ms ls id l)) ∧ Below w.heap.size w w' := by
  obtain ⟨W1, hW1⟩ : ∃ W, w.alloc (.cells #[.slice am ms.length cm, .slice al ls.length cl] 105) = W := ⟨_, rfl⟩
  have hB1 : Below w.heap.size w W1 := by rw [← hW1]; exact (Below.refl _ _).alloc (Nat.le_refl _) _
  have hI1 : WebIn W1 w.heap.size am cm ms al cl ls := by rw [← hW1]; exact WebIn.box hm hl
  obtain ⟨W, hW⟩ : ∃ W, W1.alloc (.cells #[.int .i64 id] 2) = W := ⟨_, rfl⟩
  have hB2 : Below W1.heap.size W1 W := by rw [← hW]; exact (Below.refl _ _).alloc (Nat.le_refl _) _
  have hA : W.cell? ⟨W1.heap.size, 0, none⟩ = some (.int .i64 id) := by rw [← hW]; simp
  have HB := hidP (chain hB1 hB2)
  have HR := hidP (pRiseW ao cap l W (hv.next HB.out) hn)
  have HC := hidP (pAnyBad2 W1.heap.size w.heap.size am al ao cm cl cap ms ls id l W hA (hI1.below hB2) hb hll hcs (hv.next HB.out) hn)
  clear hm hl hB1 hI1 hB2 hA hv hb hcs hll
  rcases hu : upB l with _ | _
  · have HV : Hid (takesW ms ls id l = false) := by show _ = _; simp [takesW, hu]
    rw [HV.out]
    rw [hu] at HR
    clear HV HC hu
    go_enter Try.func112, Try.ntmps112
    go_wp2_with fail
    refine HR.out.mono ?_
    rintro e w2 ⟨rfl, rfl⟩
    go_wp2_with fail
    go_ret
    exact ⟨rfl, HB.out⟩
  · have HV : Hid (takesW ms ls id l = !l.any (badW ms ls id)) := by show _ = _; simp [takesW, hu]
    rw [HV.out]
    rw [hu] at HR
    clear HV hu
    generalize l.any (badW ms ls id) = r at *
    go_enter Try.func112, Try.ntmps112
    go_wp2_with fail
    refine HR.out.mono ?_
    rintro e w2 ⟨rfl, rfl⟩
    go_wp2_with fail
    refine HC.out.mono ?_
    rintro e w2 ⟨rfl, L2⟩
    have HL2 := hidP (chain HB.out L2)
    clear L2
    go_wp2_with fail
    go_ret
    exact ⟨rfl, HL2.out⟩
end Go.Proofs.Ytbmljcpeonopmaa
namespace Go.Proofs.Ytbmljcpeonopmaa
open Go Go.RowKit

theorem webB_more {ms : List Mk} {ls : List (List Int)} (hm : marksB ms = true) (hl : ls.length = ms.length) (h : ∀ j, j < ms.length → webAt ms ls j = true) : webB ms ls = true :=
  (webB_iff ms ls).2 ⟨hm, hl, fun i hi => h i (by omega)⟩

set_option maxRecDepth 100000 in
set_option maxHeartbeats 2000000 in
theorem iWebOk14 : IWebOk := by
  intro am cm ms al cl ls w hm hl hsm hcs hcm hcl
  obtain ⟨W, hW⟩ : ∃ W, w.alloc (.cells #[.slice am ms.length cm, .slice al ls.length cl] 105) = W := ⟨_, rfl⟩
  have hB : Below w.heap.size w W := by rw [← hW]; exact (Below.refl _ _).alloc (Nat.le_refl _) _
  have hI : WebIn W w.heap.size am cm ms al cl ls := by rw [← hW]; exact WebIn.box hm hl
  have HC := hidP (iMarks am cm ms W hI.mv hsm)
  have HB := hidP hB
  have HI := hidP hI
  have k0 := hI.c0
  have k1 := hI.c1
  have hml := hsm.1
  have hll := hcs.1
  have HS := hidP hcs
  clear hm hl hB hI hsm hcs
  rcases hmb : marksB ms with _ | _
  · have HV : Hid (webB ms ls = false) := by show _ = _; simp [webB, hmb]
    rw [hmb] at HC
    rw [HV.out]
    go_enter Try.func96, Try.ntmps96
    go_wp2_with fail
    refine HC.out.mono ?_
    rintro e w1 ⟨rfl, L1⟩
    have HL1 := hidP (chain HB.out L1)
    clear L1
    go_wp2_with fail
    go_ret
    exact ⟨rfl, HL1.out⟩
  rw [hmb] at HC
  by_cases hlen : ls.length = ms.length
  · have hlb : ((ls.length : Int) != (ms.length : Int)) = false := by simp [hlen]
    have HLE := hidP hlen
    have HMB := hidP hmb
    have HAT : Hid (∀ i, i < ms.length → takesW ms ls (mid ms i) (cn ls i) = webAt ms ls i) := fun i hi => takesW_at hmb hi
    have hlt2 : ∀ i : Nat, i < ms.length → i < ls.length := fun i hi => by omega
    have HLT := hidP hlt2
    clear hlen hmb hlt2
    go_enter Try.func96, Try.ntmps96
    go_wp2_with fail
    refine HC.out.mono ?_
    rintro e w1 ⟨rfl, L1⟩
    have hI1 := HI.out.below L1
    have HI1 := hidP hI1
    have HL1 := hidP (chain HB.out L1)
    clear L1 k0 k1 HI HC hW
    have k0 := hI1.c0
    have k1 := hI1.c1
    have hBl := hI1.lt
    clear hI1
    generalize hXX : w.heap.size = X at *
    have HX := hidP hXX
    clear hXX
    go_wp2_with fail
    go_loopw [21] (fun i wr => ∃ k : Nat, k ≤ ms.length ∧ i = .int .i64 k ∧ (∀ j, j < k → webAt ms ls j = true) ∧ Below w1.heap.size w1 wr) (fun i _ => ms.length - (intOf i).toNat)
    case atStart => exact ⟨0, Nat.zero_le _, rfl, fun j hj => by omega, Below.refl _ _⟩
    case round =>
      obtain ⟨k, hk, rfl, hall, L⟩ := hrel
      have HA := hidP hall
      have HL := hidP L
      have hIr := HI1.out.below L
      clear hall L k0 k1
      by_cases hlt : k < ms.length
      · have hkl := HLT.out k hlt
        have HAK := hidP (HAT.out k hlt)
        have HIr := hidP hIr
        obtain ⟨b, off, rfl, hbr, hs⟩ := MSeg.seg hIr.mv (by omega)
        obtain ⟨c0, ao, cc, c1, -⟩ := hs.at (i := k) hlt
        obtain ⟨b2, off2, rfl, hbr2, hs2⟩ := hIr.cv.seg (by omega)
        obtain ⟨a, c, d0, hvw⟩ := hs2 k hkl
        have k0 := hIr.c0
        have k1 := hIr.c1
        have hXl := hIr.lt
        have hk0 : (0 : Int) ≤ (k : Int) := Int.natCast_nonneg _
        have hk1 : (k : Int) < (ms.length : Int) := by omega
        have hk2 : (k : Int) < (ls.length : Int) := by omega
        have HVW := hidP hvw
        have hcl2 := HS.out.2 k
        have HT : Hid (∀ W', Below wr.heap.size wr W' → Calls Try.prog 112 #[.agg #[.slice (some ⟨b, off, none⟩) ms.length cm, .slice (some ⟨b2, off2, none⟩) ls.length cl], .int .i64 (mid ms k), .slice a (cn ls k).length c] W' fun e w' => e = .returned (.bool (webAt ms ls k)) ∧ Below W'.heap.size W' w') := fun W' L' => by
          rw [← HAK.out]
          exact iTakes _ _ _ cm cl c ms ls (mid ms k) (cn ls k) W' (HIr.out.mv.next L') (HIr.out.cv.next L') HMB.out HLE.out HS.out (HVW.out.next L') hcl2
        obtain ⟨V, hV⟩ : ∃ V, wr.alloc (.cells #[.int .i64 (mid ms k), .slice ao (mat ms k).length cc] 76) = V := ⟨_, rfl⟩
        have HVB : Hid (Below wr.heap.size wr V) := by show Below _ _ _; rw [← hV]; exact (Below.refl _ _).alloc (Nat.le_refl _) _
        have hm0 : V.cell? ⟨wr.heap.size, 0, none⟩ = some (.int .i64 (mid ms k)) := by rw [← hV]; simp
        have HK : Hid (∀ w', Below V.heap.size V w' → w'.cell? ⟨X, 0, none⟩ = some (.slice (some ⟨b, off, none⟩) ms.length cm) ∧ w'.cell? ⟨X, 1, none⟩ = some (.slice (some ⟨b2, off2, none⟩) ls.length cl) ∧ w'.cell? ⟨wr.heap.size, 0, none⟩ = some (.int .i64 (mid ms k)) ∧ w'.cell? ⟨b2, off2 + k, none⟩ = some (.slice a (cn ls k).length c)) := fun w' L => by
          have L' := chain HVB.out L
          have hlt' : wr.heap.size < V.heap.size := by rw [← hV]; simp
          exact ⟨(L'.cell (p := ⟨X, 0, none⟩) hXl).trans k0, (L'.cell (p := ⟨X, 1, none⟩) hXl).trans k1, (L.cell (p := ⟨wr.heap.size, 0, none⟩) hlt').trans hm0, (L'.cell (p := ⟨b2, off2 + k, none⟩) hbr2).trans d0⟩
        clear hIr hs hs2 hvw
        generalize mid ms k = y at *
        generalize (mat ms k).length = yl at *
        generalize (cn ls k).length = nl at *
        go_wp2_with fail
        obtain ⟨Y, hY⟩ : ∃ Y, Y = wr.heap.size := ⟨_, rfl⟩
        rw [← hY] at HK hm0 ⊢
        have HKV := HK.out V (Below.refl _ _)
        obtain ⟨z0, z1, z2, z3⟩ := HKV
        clear hV k0 k1 c0 c1 d0 hm0 hY
        go_region_held3 (fun w' => w'.cell? ⟨X, 0, none⟩ = some (.slice (some ⟨b, off, none⟩) ms.length cm) ∧ w'.cell? ⟨X, 1, none⟩ = some (.slice (some ⟨b2, off2, none⟩) ls.length cl) ∧ w'.cell? ⟨Y, 0, none⟩ = some (.int .i64 y) ∧ w'.cell? ⟨b2, off2 + k, none⟩ = some (.slice a nl c))
          (first
            | go_keep
            | exact HK.out _ (Below.trans ((Below.refl V.heap.size V).drew) L2))
          (first | (go_at_call 112; refine (HT.out _ (Below.drew HVB.out)).mono ?_; rintro e w2 ⟨rfl, L2⟩))
        have HL3 : Hid (Below w1.heap.size w1 w2) := chain HL.out (chain HVB.out (Below.trans ((Below.refl V.heap.size V).drew) L2))
        clear L2 HT HK z0 z1 z2 z3
        simp only [Exit.then]
        rcases hat : webAt ms ls k with _ | _
        · have HV := hidP (webB_no hkl hat)
          clear hat
          go_wp2_with fail
          go_ret
          have hX := HX.out
          subst hX
          exact ⟨ret_bool HV.out.symm, chain HL1.out HL3.out⟩
        · have HE := hidP hat
          clear hat
          go_wp2_with fail
          go_roundw
          case rel => exact ⟨k + 1, by omega, by go_num, fun j hj => by
            rcases Nat.lt_or_ge j k with h | h
            · exact HA.out j h
            · rw [show j = k by omega]; exact HE.out, HL3.out⟩
          case measure => simp [intOf]; omega
      · obtain rfl : k = ms.length := by omega
        have HV := hidP (webB_more HMB.out HLE.out HA.out)
        go_wp2_with fail
        go_ret
        have hX := HX.out
        subst hX
        exact ⟨ret_bool HV.out.symm, chain HL1.out HL.out⟩
  · have hlb : ((ls.length : Int) != (ms.length : Int)) = true := by simp; omega
    have HV : Hid (webB ms ls = false) := by show _ = _; simp [webB, hlen]
    rw [HV.out]
    clear hlen
    go_enter Try.func96, Try.ntmps96
    go_wp2_with fail
    refine HC.out.mono ?_
    rintro e w1 ⟨rfl, L1⟩
    have hI1 := HI.out.below L1
    have HL1 := hidP (chain HB.out L1)
    clear L1 k0 k1 HI
    have k0 := hI1.c0
    have k1 := hI1.c1
    go_wp2_with fail
    go_ret
    exact ⟨rfl, HL1.out⟩
end Go.Proofs.Ytbmljcpeonopmaa
