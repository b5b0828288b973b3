/-
  Both Cell: a row that reads as the cell of a point, or as nothing.
-/
import Derived.Test.YtodielfilhodeaaGreatMathZz
import Derived.Test.YtodielfilhodeaaGreatMovedSZz
import Derived.Test.YtodielfilhodeaaGreatMCopyZz
namespace Go.Proofs.YtodielfilhodeaaGreat
open Go Go.RowKit

set_option maxHeartbeats 400000 in
theorem sFloor (n s : Int) (w : World) (hs : 1 ≤ s) (hs' : s ≤ 1000) (h1 : -1000 ≤ n) (h2 : n ≤ 1000) :
    Calls Tryz.prog 100 #[.int .i64 n, .int .i64 s] w fun e w' => e = .returned (.int .i64 (n / s)) ∧ w' = w := by
  have hbd := tdiv_bd (n := n) (s := s) (by omega) h1 h2 hs'
  have hs0 : (s == 0) = false := by simp; omega
  have hw1 : IntKind.i64.wrap (n.tdiv s) = n.tdiv s := IntWalk.i64_in _ ⟨by omega, by omega⟩
  have hw2 : IntKind.i64.wrap (n.tdiv s * s) = n.tdiv s * s := IntWalk.i64_in _ ⟨by omega, by omega⟩
  have hw3 : IntKind.i64.wrap (n.tdiv s - 1) = n.tdiv s - 1 := IntWalk.i64_in _ ⟨by omega, by omega⟩
  by_cases h : n.tdiv s * s > n
  · have HV := hideP (floor_spec_yes (by omega) h)
    clear hbd
    go_enter Tryz.func100, Tryz.ntmps100
    go_wp2
    go_ret
    exact ⟨ret_int HV.out.symm, rfl⟩
  · have HV := hideP (floor_spec_no (by omega) h)
    clear hbd
    go_enter Tryz.func100, Tryz.ntmps100
    go_wp2
    go_ret
    exact ⟨ret_int HV.out.symm, rfl⟩

set_option maxHeartbeats 400000 in
theorem iDownG (x s : Int) (w : World) (hs : 1 ≤ s) (hs' : s ≤ 1000) (h1 : -1000 ≤ x) (h2 : x ≤ 1000) :
    Calls Tryz.prog 123 #[.int .i64 x, .int .i64 s] w fun e w' => e = .returned (.int .i64 (x / s)) ∧ w' = w := by
  have hs0 : (s == 0) = false := by simp; omega
  have hbd := floor_bd (n := x) (s := s) (by omega) h1 h2
  by_cases h : x < 0
  · have HV := hideP (floor_low (n := x) (s := s) (by omega) h)
    have hw1 : IntKind.i64.wrap ((x - (s - 1)).tdiv s) = (x - (s - 1)).tdiv s := by rw [HV.out]; exact IntWalk.i64_in _ ⟨by omega, by omega⟩
    clear hbd
    go_enter Tryz.func123, Tryz.ntmps123
    go_wp2
    go_ret
    exact ⟨ret_int HV.out, rfl⟩
  · have HV := hideP (tdiv_pos (n := x) (s := s) (by omega))
    have hw1 : IntKind.i64.wrap (x.tdiv s) = x.tdiv s := by rw [HV.out]; exact IntWalk.i64_in _ ⟨by omega, by omega⟩
    clear hbd
    go_enter Tryz.func123, Tryz.ntmps123
    go_wp2
    go_ret
    exact ⟨ret_int HV.out, rfl⟩

set_option maxHeartbeats 400000 in
theorem iSideOk (s : Int) (w : World) :
    Calls Tryz.prog 90 #[.int .i64 s] w fun e w' => e = .returned (.bool (gsideB s)) ∧ w' = w := by
  by_cases h1 : s ≥ 1
  · by_cases h2 : s ≤ 1000
    · have HV : Hid (gsideB s = true) := by show gsideB s = true; simp [gsideB]; omega
      go_enter Tryz.func90, Tryz.ntmps90
      go_wp2
      go_ret
      exact ⟨ret_bool HV.out.symm, rfl⟩
    · have HV : Hid (gsideB s = false) := by show gsideB s = false; simp [gsideB]; omega
      go_enter Tryz.func90, Tryz.ntmps90
      go_wp2
      go_ret
      exact ⟨ret_bool HV.out.symm, rfl⟩
  · have HV : Hid (gsideB s = false) := by show gsideB s = false; simp [gsideB]; omega
    go_enter Tryz.func90, Tryz.ntmps90
    go_wp2
    go_ret
    exact ⟨ret_bool HV.out.symm, rfl⟩

/-- A row of the call's own that reads as xs. -/
def IOwn (base : Nat) (w : World) (g c : Nat) (xs : List Int) : Prop := w.ownsRow base 2 1 (.slice (some ⟨g, 0, none⟩) xs.length c) xs.length (xs.map (Value.int .i64))

set_option maxRecDepth 100000 in
set_option maxHeartbeats 1000000 in
theorem sCell (ao : Option Addr) (cap : Nat) (p : List Int) (s : Int) (w : World) (hv : View w ao p) (hn : p.length ≤ 1048576) :
    Calls Tryz.prog 36 #[.slice ao p.length cap, .int .i64 s] w fun e w' => ∃ g c, e = .returned (.slice (some ⟨g, 0, none⟩) (cellL p s).length c) ∧ IOwn w.heap.size w' g c (cellL p s) ∧ Below w.heap.size w w' := by
  have LA : Below w.heap.size w (w.alloc (.cells #[] 2)) := (Below.refl _ _).alloc (Nat.le_refl _) _
  have OA : Hid (IOwn w.heap.size (w.alloc (.cells #[] 2)) w.heap.size 0 []) := World.ownsRow_lit w #[] 0 (Nat.le_refl _) (Nat.zero_le _) rfl
  have HOK := hideP (sOk ao cap p _ (hv.next LA) hn)
  rcases hok : okB p with _ | _
  · have HV : Hid (cellL p s = []) := by show cellL p s = []; simp [cellL, hok]
    rw [hok] at HOK
    rw [HV.out]
    have HLA := hideP LA
    clear LA
    go_enter Tryz.func36, Tryz.ntmps36
    go_wp2_with fail
    refine HOK.out.mono ?_
    rintro e w1 ⟨rfl, rfl⟩
    go_wp2_with fail
    go_ret
    exact ⟨_, _, rfl, OA.out, HLA.out⟩
  · rw [hok] at HOK
    have HIN := hideP (sIn s 1 1000 (w.alloc (.cells #[] 2)))
    have es : inR s 1 1000 = gsideB s := rfl
    rw [es] at HIN
    rcases hsd : gsideB s with _ | _
    · have HV : Hid (cellL p s = []) := by show cellL p s = []; simp [cellL, hsd]
      rw [hsd] at HIN
      rw [HV.out]
      have HLA := hideP LA
      clear LA
      go_enter Tryz.func36, Tryz.ntmps36
      go_wp2_with fail
      refine HOK.out.mono ?_
      rintro e w1 ⟨rfl, rfl⟩
      go_wp2_with fail
      refine HIN.out.mono ?_
      rintro e w2 ⟨rfl, rfl⟩
      go_wp2_with fail
      go_ret
      exact ⟨_, _, rfl, OA.out, HLA.out⟩
    · rw [hsd] at HIN
      obtain ⟨hs1, hs2⟩ := (gsideB_iff s).1 hsd
      have HV : Hid (cellL p s = tabL (cellF p s) p.length) := by show cellL p s = _; simp [cellL, hok, hsd, cellV]
      rw [HV.out]
      have h4 := okB_len hok
      obtain ⟨b, off, rfl, hbs, hseg⟩ : ∃ b off, ao = some ⟨b, off, none⟩ ∧ b < w.heap.size ∧ Seg w b off p := by
        rcases hv with rfl | h
        · simp at h4
        · exact h
      obtain ⟨i0, hi0, hz0, hz1, hz2⟩ := info_parts Tryz.info2
      have HLA := hideP LA
      have HFL := hideP (fun k W => sFloor (nth p k) s W hs1 hs2 (okB_at hok k).1 (okB_at hok k).2)
      clear LA HV
      go_enter Tryz.func36, Tryz.ntmps36
      go_wp2_with fail
      refine HOK.out.mono ?_
      rintro e w1 ⟨rfl, rfl⟩
      go_wp2_with fail
      refine HIN.out.mono ?_
      rintro e w2 ⟨rfl, rfl⟩
      go_wp2_with fail
      clear HOK HIN
      go_loopw [5, 6] (fun v i wr => ∃ k : Nat, k ≤ p.length ∧ i = .int .i64 k ∧ ∃ g c, v = .slice (some ⟨g, 0, none⟩) k c ∧ wr.ownsRow w.heap.size 2 1 v k ((tabL (cellF p s) k).map (Value.int .i64)) ∧ Below w.heap.size w wr) (fun _ i _ => p.length - (intOf i).toNat)
      case atStart => exact ⟨0, Nat.zero_le _, rfl, w.heap.size, 0, rfl, OA.out, HLA.out⟩
      case round =>
        obtain ⟨k, hk, rfl, g, c, rfl, hown, L⟩ := hrel
        by_cases hlt : k < p.length
        · have hc : wr.cell? ⟨b, off + k, none⟩ = some (.int .i64 (nth p k)) := (L.cell (p := ⟨b, off + k, none⟩) hbs).trans (hseg k hlt)
          have hz := L.size
          have hgl := hown.lt g rfl
          have hbg : some b ≠ (Value.slice (some ⟨g, 0, none⟩) k c).ownBlock := by intro h; simp [Value.ownBlock] at h; omega
          have hnew1 := World.new_ne wr ⟨b, off + k, none⟩ hc
          have hi0' : (0 : Int) ≤ (k : Int) := Int.natCast_nonneg _
          have hi1 : (k : Int) < (p.length : Int) := by omega
          have HF := hideP (HFL.out k)
          have HFE : Hid (cellF p s k = nth p k / s) := rfl
          generalize nth p k / s = d at *
          go_wp2_with fail
          refine (HF.out _).mono ?_
          rintro e w9 ⟨rfl, rfl⟩
          go_wp2_with (at_builtin; refine wpList_append_lies _ rfl (.tmp 23) (.tmp 30) 28 rfl w.heap.size 2 i0 _ 1 8 Tryz.underlying28 hi0 hz0 hz1 hz2 rfl (by omega) (.slice (some ⟨g, 0, none⟩) k c) k ((tabL (cellF p s) k).map (Value.int .i64)) rfl (World.ownsRow.alloc hown _) ⟨w9.heap.size, 0, none⟩ 1 1 [.int .i64 d] rfl rfl (World.news_of_block (cs := #[.int .i64 d]) (t := 2) (fr := (0, 0)) (heap_alloc_new w9 _)) (by simp [Value.oneCell']) (by omega) (by unfold maxLen; omega) (by omega) (by simp; omega) (w9.heap.size + 1) (by simp) ?_; intro gg cc w1 hown1 hgrow hat hlt1)
          go_wp2
          go_roundw
          case rel =>
            refine ⟨k + 1, by omega, by go_num, gg, cc, rfl, ?_, ?_⟩
            · rw [tabL_succ, List.map_append, HFE.out]; exact hown1
            · refine ((L.alloc hz _).grown hgrow (by simp; omega) ?_)
              intro q hq
              simp [Value.ownBlock] at hq
              omega
          case measure => simp [intOf]; omega
        · obtain rfl : k = p.length := by omega
          go_wp2_with fail
          go_ret
          refine ⟨g, c, by rw [tabL_length]; rfl, ?_, L⟩
          unfold IOwn
          rw [tabL_length]
          exact hown

end Go.Proofs.YtodielfilhodeaaGreat
