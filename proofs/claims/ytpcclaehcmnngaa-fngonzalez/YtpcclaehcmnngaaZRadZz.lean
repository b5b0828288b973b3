/-
  The program's allIn and marksNamed.
-/
import Derived.Test.YtpcclaehcmnngaaHSpecZz
import Derived.Test.YtpcclaehcmnngaaSCellsZz
import Derived.Test.YtpcclaehcmnngaaArgsZz
import Derived.Deep.CutRange
namespace Go.Proofs.Ytpcclaehcmnngaa
open Go Go.RowKit

set_option maxHeartbeats 400000 in
theorem pIndex (ao : Option Addr) (cap : Nat) (xs : List Int) (x : Int) (w : World) (hv : View w ao xs) (hn : xs.length ≤ 4194304) :
    Calls Try.prog 75 #[.slice ao xs.length cap, .int .i64 x] w fun e w' => (∃ r : Int, e = .returned (.int .i64 r) ∧ decide (0 ≤ r) = hasB xs x) ∧ w' = w := by
  go_enter Try.func75, Try.ntmps75
  go_wp2_with fail
  go_loop [8] (fun i => ∃ k : Nat, k ≤ xs.length ∧ i = .int .i64 k ∧ ∀ j, j < k → nth xs j ≠ x) (fun i => xs.length - (intOf i).toNat)
  case atStart => exact ⟨0, Nat.zero_le _, rfl, fun j hj => by omega⟩
  case round =>
    obtain ⟨k, hk, rfl, hall⟩ := hrel
    have HA := hidP hall
    clear hall
    by_cases hlt : k < xs.length
    · obtain ⟨b, off, rfl, hb, hs⟩ : ∃ b off, ao = some ⟨b, off, none⟩ ∧ b < w.heap.size ∧ Seg w b off xs := by
        rcases hv with h | h
        · subst h; simp at hlt
        · exact h
      have hc := hs k hlt
      by_cases he : nth xs k = x
      · have HV := hidP (contains_nth hlt he)
        have heb : (x == nth xs k) = true := by simp [he]
        clear he
        go_wp2_with fail
        go_ret
        exact ⟨⟨(k : Int), rfl, by rw [HV.out]; simp⟩, rfl⟩
      · have heb : (x == nth xs k) = false := by simp; exact fun e => he e.symm
        have HE := hidP he
        clear he
        go_wp2_with fail
        go_round
        case rel => exact ⟨k + 1, by omega, by go_num, fun j hj => by
          rcases Nat.lt_or_ge j k with h | h
          · exact HA.out j h
          · rw [show j = k by omega]; exact HE.out⟩
        case measure => simp [intOf]; omega
    · go_wp2_with fail
      go_ret
      obtain rfl : k = xs.length := by omega
      exact ⟨⟨-1, rfl, by rw [contains_none HA.out]; rfl⟩, rfl⟩

set_option maxHeartbeats 400000 in
theorem pHas (ao : Option Addr) (cap : Nat) (xs : List Int) (x : Int) (w : World) (hv : View w ao xs) (hn : xs.length ≤ 4194304) :
    Calls Try.prog 63 #[.slice ao xs.length cap, .int .i64 x] w fun e w' => e = .returned (.bool (hasB xs x)) ∧ w' = w := by
  have HI := hidP (pIndex ao cap xs x w hv hn)
  clear hv
  go_enter Try.func63, Try.ntmps63
  go_wp2_with fail
  refine HI.out.mono ?_
  rintro e w2 ⟨⟨r, rfl, hr⟩, hw⟩
  subst w2
  go_wp2_with fail
  go_ret
  exact ⟨ret_bool (by rw [← hr]), rfl⟩

set_option maxHeartbeats 400000 in
theorem pNotIn (q : Nat) (ao : Option Addr) (cap : Nat) (all : List Int) (x : Int) (w : World) (hv : View w ao all) (hn : all.length ≤ 4194304) (hq : w.cell? ⟨q, 0, none⟩ = some (.slice ao all.length cap)) :
    Calls Try.prog 62 #[.int .i64 x, .pointer (some ⟨q, 0, none⟩)] w fun e w' => e = .returned (.bool (!hasB all x)) ∧ w' = w := by
  have HI := hidP (pHas ao cap all x w hv hn)
  clear hv
  go_enter Try.func62, Try.ntmps62
  go_wp2_with fail
  refine HI.out.mono ?_
  rintro e w2 ⟨rfl, hw⟩
  subst w2
  go_wp2_with fail
  go_ret
  exact ⟨rfl, rfl⟩

def allB (ids all : List Int) : Bool := ids.all (fun x => hasB all x)
theorem allB_no {ids all : List Int} {k : Nat} (hk : k < ids.length) (h : hasB all (nth ids k) = false) : allB ids all = false := by
  simp only [allB, List.all_eq_false]
  refine ⟨ids[k], List.getElem_mem hk, ?_⟩
  have e : nth ids k = ids[k] := by simp [nth, List.getD, hk]
  rw [← e, h]; simp
theorem allB_yes {ids all : List Int} (h : ∀ j, j < ids.length → hasB all (nth ids j) = true) : allB ids all = true := by
  simp only [allB, List.all_eq_true]
  intro x hx
  obtain ⟨j, hj, rfl⟩ := List.getElem_of_mem hx
  have := h j hj
  simpa [nth, List.getD, hj] using this

set_option maxRecDepth 100000 in
set_option maxHeartbeats 1000000 in
theorem pAnyOut (q : Nat) (ai ao : Option Addr) (ci cap : Nat) (ids all : List Int) (w : World) (hi : View w ai ids) (hv : View w ao all) (hil : ids.length ≤ 1048576) (hn : all.length ≤ 4194304) (hq : w.cell? ⟨q, 0, none⟩ = some (.slice ao all.length cap)) :
    Calls Try.prog 74 #[.slice ai ids.length ci, .func (.func 62) #[] #[.pointer (some ⟨q, 0, none⟩)]] w fun e w' => (∃ r : Int, e = .returned (.int .i64 r) ∧ decide (0 ≤ r) = !allB ids all) ∧ w' = w := by
  have HV := hidP hv
  have HI := hidP hi
  clear hv hi
  go_enter Try.func74, Try.ntmps74
  go_wp2_with fail
  go_loop [8] (fun i => ∃ k : Nat, k ≤ ids.length ∧ i = .int .i64 k ∧ (∀ j, j < k → hasB all (nth ids j) = true)) (fun i => ids.length - (intOf i).toNat)
  case atStart => exact ⟨0, Nat.zero_le _, rfl, fun j hj => by omega⟩
  case round =>
    obtain ⟨k, hk, rfl, hall⟩ := hrel
    have HA := hidP hall
    clear hall
    by_cases hlt : k < ids.length
    · obtain ⟨b, off, rfl, hb, hs⟩ : ∃ b off, ai = some ⟨b, off, none⟩ ∧ b < w.heap.size ∧ Seg w b off ids := by
        rcases HI.out with h | h
        · subst h; simp at hlt
        · exact h
      have hc := hs k hlt
      have HN := hidP (pNotIn q ao cap all (nth ids k) w HV.out hn hq)
      clear hs
      rcases he : hasB all (nth ids k) with _ | _
      · have HX := hidP (allB_no hlt he)
        rw [he] at HN
        clear he
        go_wp2_with fail
        refine HN.out.mono ?_
        rintro e w2 ⟨rfl, hw⟩
        subst w2
        go_wp2_with fail
        go_ret
        exact ⟨⟨(k : Int), rfl, by rw [HX.out]; simp⟩, rfl⟩
      · rw [he] at HN
        have HE := hidP he
        clear he
        go_wp2_with fail
        refine HN.out.mono ?_
        rintro e w2 ⟨rfl, hw⟩
        subst w2
        go_wp2_with fail
        go_round
        case rel => exact ⟨k + 1, by omega, by go_num, fun j hj => by
          rcases Nat.lt_or_ge j k with h | h
          · exact HA.out j h
          · rw [show j = k by omega]; exact HE.out⟩
        case measure => simp [intOf]; omega
    · go_wp2_with fail
      go_ret
      obtain rfl : k = ids.length := by omega
      exact ⟨⟨-1, rfl, by rw [allB_yes HA.out]; rfl⟩, rfl⟩

set_option maxHeartbeats 400000 in
theorem pOut (q : Nat) (ai ao : Option Addr) (ci cap : Nat) (ids all : List Int) (w : World) (hi : View w ai ids) (hv : View w ao all) (hil : ids.length ≤ 1048576) (hn : all.length ≤ 4194304) (hq : w.cell? ⟨q, 0, none⟩ = some (.slice ao all.length cap)) :
    Calls Try.prog 61 #[.slice ai ids.length ci, .func (.func 62) #[] #[.pointer (some ⟨q, 0, none⟩)]] w fun e w' => e = .returned (.bool (!allB ids all)) ∧ w' = w := by
  have HI := hidP (pAnyOut q ai ao ci cap ids all w hi hv hil hn hq)
  clear hv hi
  go_enter Try.func61, Try.ntmps61
  go_wp2_with fail
  refine HI.out.mono ?_
  rintro e w2 ⟨⟨r, rfl, hr⟩, hw⟩
  subst w2
  go_wp2_with fail
  go_ret
  exact ⟨ret_bool (by rw [← hr]), rfl⟩

set_option maxHeartbeats 400000 in
theorem iAllIn (ai ao : Option Addr) (ci cap : Nat) (ids all : List Int) (w : World) (hi : View w ai ids) (hv : View w ao all) (hil : ids.length ≤ 1048576) (hn : all.length ≤ 4194304) :
    Calls Try.prog 40 #[.slice ai ids.length ci, .slice ao all.length cap] w fun e w' => e = .returned (.bool (allB ids all)) ∧ Below w.heap.size w w' := by
  have hB := (Below.refl w.heap.size w).alloc (Nat.le_refl _) (.cells #[.slice ao all.length cap] 28)
  have HC := hidP (pOut w.heap.size ai ao ci cap ids all (w.alloc (.cells #[.slice ao all.length cap] 28)) (View.next hi hB) (View.next hv hB) hil hn (by simp))
  have HB := hidP hB
  clear hv hi hB
  go_enter Try.func40, Try.ntmps40
  go_wp2_with fail
  refine HC.out.mono ?_
  rintro e w2 ⟨rfl, hw⟩
  subst w2
  go_wp2_with fail
  go_ret
  exact ⟨by simp, HB.out⟩

def namedD (ds : List Sm) (ids : List Int) (k : Nat) : List Sm := (ds.take k).filter (fun d => hasB ids d.1)
theorem namedD_yes {ds : List Sm} {ids : List Int} {k : Nat} (hk : k < ds.length) (h : hasB ids (snth ds k).1 = true) : namedD ds ids (k + 1) = namedD ds ids k ++ [snth ds k] := by
  have e := snth_get hk
  rw [namedD, List.take_succ_eq_append_getElem hk, List.filter_append, ← e]
  simp [h, namedD]
theorem namedD_no {ds : List Sm} {ids : List Int} {k : Nat} (hk : k < ds.length) (h : hasB ids (snth ds k).1 = false) : namedD ds ids (k + 1) = namedD ds ids k := by
  have e := snth_get hk
  rw [namedD, List.take_succ_eq_append_getElem hk, List.filter_append, ← e]
  simp [h, namedD]
theorem namedD_len (ds : List Sm) (ids : List Int) (k : Nat) : (namedD ds ids k).length ≤ k := by
  have h1 := List.length_filter_le (fun d : Sm => hasB ids d.1) (ds.take k)
  have h2 : (ds.take k).length ≤ k := by simp; omega
  unfold namedD
  omega

set_option maxRecDepth 100000 in
set_option maxHeartbeats 2000000 in
theorem iNamed (b off : Nat) (ai : Option Addr) (cap ci : Nat) (ds : List Sm) (ids : List Int) (w : World) (hb : b < w.heap.size) (hs : SSeg w b off ds) (hi : View w ai ids) (hn : ds.length ≤ 60) (hil : ids.length ≤ 1048576) :
    Calls Try.prog 41 #[.slice (some ⟨b, off, none⟩) ds.length cap, .slice ai ids.length ci] w fun e w' => ∃ g c, e = .returned (.slice (some ⟨g, 0, none⟩) (namedD ds ids ds.length).length c) ∧ SRow w.heap.size w' g c (namedD ds ids ds.length) ∧ Below w.heap.size w w' := by
  have HI := hidP hi
  have HS := hidP hs
  obtain ⟨i0, hi0, hz0, hz1, hz2⟩ := info_parts Try.info55
  have R1 := hidP (SRow.start w w.heap.size (Nat.le_refl _))
  have L1 := hidP ((Below.refl w.heap.size w).alloc (Nat.le_refl _) (.cells #[] 55))
  clear hi hs
  go_enter Try.func41, Try.ntmps41
  go_wp2_with fail
  go_loopw [5, 11] (fun v i wr => ∃ k g c : Nat, k ≤ ds.length ∧ i = .int .i64 k ∧ v = .slice (some ⟨g, 0, none⟩) (namedD ds ids k).length c ∧ SRow w.heap.size wr g c (namedD ds ids k) ∧ Below w.heap.size w wr) (fun _ i _ => ds.length - (intOf i).toNat)
  case atStart => exact ⟨0, w.heap.size, 0, Nat.zero_le _, rfl, rfl, R1.out, L1.out⟩
  case round =>
    obtain ⟨k, g, c, hk, rfl, rfl, hrow, L⟩ := hrel
    have HR := hidP hrow
    have HL := hidP L
    have hz := L.size
    have hgl := hrow.lt
    have hil2 := namedD_len ds ids k
    by_cases hlt : k < ds.length
    · obtain ⟨d0, d1⟩ := HS.out k hlt
      have z0 := (L.cell (p := ⟨b, off + k * 2, none⟩) hb).trans d0
      have z1 := (L.cell (p := ⟨b, off + k * 2 + 1, none⟩) hb).trans d1
      have HY := hidP (namedD_yes (ids := ids) hlt)
      have HO := hidP (namedD_no (ids := ids) hlt)
      have hiw := View.next HI.out L
      generalize snth ds k = d at *
      obtain ⟨W, hW⟩ : ∃ W, W = wr.alloc (.cells #[.int .i64 d.1, .slice d.2.1 d.2.2.2.length d.2.2.1] 55) := ⟨_, rfl⟩
      have LW : Below wr.heap.size wr W := by rw [hW]; exact (Below.refl _ _).alloc (Nat.le_refl _) _
      have HHS := hidP (pHas ai ci ids d.1 W (View.next hiw LW) (by omega))
      have q0 : W.cell? ⟨wr.heap.size, 0, none⟩ = some (.int .i64 d.1) := by rw [hW]; go_simp
      have q1 : W.cell? ⟨wr.heap.size, 1, none⟩ = some (.slice d.2.1 d.2.2.2.length d.2.2.1) := by rw [hW]; go_simp
      have HRW := hidP (hrow.below (Nat.le_refl _) LW)
      have HLW := hidP (chain L LW)
      have hzW := HLW.out.size
      have hgW := HRW.out.lt
      clear hrow L d0 d1 hiw LW
      go_upto_region 5 with fail
      rw [← hW]
      clear hW
      rcases he : hasB ids d.1 with _ | _
      · rw [he] at HHS
        have HE := hidP (HO.out he)
        clear he
        go_wp2_with fail
        refine HHS.out.mono ?_
        rintro e w2 ⟨rfl, hw⟩
        subst w2
        go_wp2_with fail
        go_roundw
        case rel =>
          refine ⟨k + 1, g, c, by omega, by go_num, by rw [HE.out], ?_, HLW.out⟩
          rw [HE.out]; exact HRW.out
        case measure => simp [intOf]; omega
      · rw [he] at HHS
        have HE := hidP (HY.out he)
        clear he
        go_wp2_with fail
        refine HHS.out.mono ?_
        rintro e w2 ⟨rfl, hw⟩
        subst w2
        go_wp2_with (at_builtin; refine wpList_append_lies _ rfl (.tmp 19) (.tmp 21) 24 rfl w.heap.size 55 i0 _ 2 32 Try.underlying24 hi0 hz0 hz1 hz2 rfl (by omega) (.slice (some ⟨g, 0, none⟩) (namedD ds ids k).length c) (namedD ds ids k).length (smCells (namedD ds ids k)) rfl (World.ownsRow.alloc HRW.out _) ⟨W.heap.size, 0, none⟩ 1 1 (smCells [d]) rfl rfl (World.news_of_block (cs := #[.int .i64 d.1, .slice d.2.1 d.2.2.2.length d.2.2.1]) (t := 55) (fr := (0, 0)) (heap_alloc_new W _)) (by simp [smCells, Value.oneCell']) (by omega) (by unfold maxLen; omega) (by omega) (by simp; omega) (W.heap.size + 1) (by simp) ?_; intro gg cc w8 hown hgrow hat8 hlt8)
        go_roundw
        case rel =>
          refine ⟨k + 1, gg, cc, by omega, by go_num, by rw [HE.out]; simp, ?_, ?_⟩
          · rw [HE.out]; exact SRow.snoc hown
          · refine (HLW.out.alloc (by omega) _).grown hgrow (by simp; omega) ?_
            intro q hq
            simp [Value.ownBlock] at hq
            omega
        case measure => simp [intOf]; omega
    · obtain rfl : k = ds.length := by omega
      clear hrow L
      go_wp2_with fail
      go_ret
      exact ⟨g, c, rfl, HR.out, HL.out⟩

end Go.Proofs.Ytpcclaehcmnngaa
