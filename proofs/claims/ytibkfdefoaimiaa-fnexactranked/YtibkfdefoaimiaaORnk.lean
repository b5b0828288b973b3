/-
  The program's Ranked, its parts: whether all lie on the line, the Ids in order.
-/
import Derived.Test.YtibkfdefoaimiaaOCmp
import Derived.Test.YtibkfdefoaimiaaOBel
import Derived.Test.YtibkfdefoaimiaaMOk3
namespace Go.Proofs.Ytibkfdefoaimiaa
open Go Go.RowKit

set_option maxHeartbeats 400000 in
theorem iOff (x : Sm) (w : World) (hx : View w x.2.1 x.2.2.2) (nx : x.2.2.2.length ≤ 1048576) :
    Calls Try.prog 49 #[.agg #[.int .i64 x.1, .slice x.2.1 x.2.2.2.length x.2.2.1]] w fun e w' => e = .returned (.bool (!lineB x.2.2.2)) ∧ Below w.heap.size w w' := by
  have HB := hidP (alloc_belowK w (.cells #[.int .i64 x.1, .slice x.2.1 x.2.2.2.length x.2.2.1] 38))
  have HL := hidP (iLine x.2.1 x.2.2.1 x.2.2.2 _ (hx.next HB.out) nx)
  clear hx nx
  go_enter Try.func49, Try.ntmps49
  go_wp2_with (go_at_call 39; refine HL.out.mono ?_; rintro e w' ⟨rfl, rfl⟩)
  go_ret
  exact ⟨rfl, HB.out⟩

/-- Do all lie on the line? -/
def allLine (ds : List Sm) : Bool := ds.all fun d => lineB d.2.2.2

set_option maxRecDepth 100000 in
set_option maxHeartbeats 1000000 in
theorem iIndex (ao : Option Addr) (cap : Nat) (ds : List Sm) (w : World) (hn : ds.length ≤ 1048576) (hv : SView w ao ds) (hl : SLies w ds) (hs : ∀ d ∈ ds, d.2.2.2.length ≤ 1048576) :
    Calls Try.prog 67 #[.slice ao ds.length cap, .func (.func 49) #[] #[]] w fun e w' => (∃ r : Int, e = .returned (.int .i64 r) ∧ decide (0 ≤ r) = !allLine ds) ∧ Below w.heap.size w w' := by
  have eg : ∀ args w, (callFunc 49 args).run Try.prog w = .ok (.enter 49 args) w := enters_of Try.func49 (by kernel_rfl) rfl
  have HV := hidP hv
  have HL := hidP hl
  have HS := hidP hs
  clear hv hl hs
  go_enter Try.func67, Try.ntmps67
  go_wp2
  go_loopw [8] (fun i wr => ∃ k : Nat, k ≤ ds.length ∧ i = .int .i64 k ∧ (∀ j (h : j < ds.length), j < k → lineB ds[j].2.2.2 = true) ∧ Below w.heap.size w wr) (fun i _ => ds.length - (intOf i).toNat)
  case atStart => exact ⟨0, Nat.zero_le _, rfl, fun j h1 h2 => by omega, Below.refl _ _⟩
  case round =>
    obtain ⟨k, hk, rfl, hall, L⟩ := hrel
    have HA := hidP hall
    have HB := hidP L
    clear hall L
    by_cases hlt : k < ds.length
    · obtain ⟨b, off, rfl, hb, hsg⟩ := HV.out.seg (by omega)
      obtain ⟨d0, d1⟩ := hsg k hlt
      have z0 := (HB.out.cell (p := ⟨b, off + k * 2, none⟩) hb).trans d0
      have z1 := (HB.out.cell (p := ⟨b, off + k * 2 + 1, none⟩) hb).trans d1
      have HO := hidP (iOff (snth ds k) wr ((HL.out _ (snth_mem hlt)).next HB.out) (HS.out _ (snth_mem hlt)))
      have HG := hidP (snth_get hlt)
      generalize snth ds k = d at *
      clear d0 d1 hsg
      rcases hlb : lineB d.2.2.2 with _ | _
      · have HX := hidP (show allLine ds = false by
          simp only [allLine, List.all_eq_false]
          exact ⟨ds[k], List.getElem_mem hlt, by rw [← HG.out, hlb]; simp⟩)
        rw [hlb] at HO
        go_wp2_with (go_at_call 49; refine HO.out.mono ?_; rintro e w2 ⟨rfl, L2⟩)
        go_ret
        exact ⟨⟨(k : Int), rfl, by rw [HX.out]; simp⟩, chain HB.out L2⟩
      · rw [hlb] at HO
        have HN : Hid (∀ j (h : j < ds.length), j < k + 1 → lineB ds[j].2.2.2 = true) := fun j h1 h2 => by
          rcases Nat.lt_or_ge j k with h | h
          · exact HA.out j h1 h
          · obtain rfl : j = k := by omega
            rw [← HG.out]; exact hlb
        clear hlb HA HG
        go_wp2_with (go_at_call 49; refine HO.out.mono ?_; rintro e w2 ⟨rfl, L2⟩)
        go_roundw
        case rel => exact ⟨k + 1, by omega, by go_num, HN.out, chain HB.out L2⟩
        case measure => simp [intOf]; omega
    · have HX := hidP (show allLine ds = true by
        simp only [allLine, List.all_eq_true]
        intro d hd
        obtain ⟨j, hj, rfl⟩ := List.getElem_of_mem hd
        exact HA.out j hj (by omega))
      go_wp2
      go_ret
      exact ⟨⟨-1, rfl, by rw [HX.out]; rfl⟩, HB.out⟩

set_option maxHeartbeats 400000 in
theorem iAnyOff (ao : Option Addr) (cap : Nat) (ds : List Sm) (w : World) (hn : ds.length ≤ 1048576) (hv : SView w ao ds) (hl : SLies w ds) (hs : ∀ d ∈ ds, d.2.2.2.length ≤ 1048576) :
    Calls Try.prog 48 #[.slice ao ds.length cap, .func (.func 49) #[] #[]] w fun e w' => e = .returned (.bool (!allLine ds)) ∧ Below w.heap.size w w' := by
  have HI := hidP (iIndex ao cap ds w hn hv hl hs)
  clear hv hl hs
  go_enter Try.func48, Try.ntmps48
  go_wp2_with (go_at_call 67; refine HI.out.mono ?_; rintro e w2 ⟨⟨r, rfl, hr⟩, L2⟩)
  go_ret
  exact ⟨ret_bool (by simp), L2⟩

/-- The numbers of marks that lie in memory. -/
def idsL (ds : List Sm) : List Int := ds.map (·.1)
theorem idsL_nth {ds : List Sm} {k : Nat} (h : k < ds.length) : nth (idsL ds) k = (snth ds k).1 := by
  rw [snth_get h]; simp [idsL, nth, h]

set_option maxRecDepth 100000 in
set_option maxHeartbeats 1000000 in
theorem iIds (b off cap : Nat) (ds : List Sm) (w : World) (hn : ds.length ≤ 1048576) (hb : b < w.heap.size) (hs : SSeg w b off ds) :
    Calls Try.prog 50 #[.slice (some ⟨b, off, none⟩) ds.length cap] w fun e w' => ∃ g, e = .returned (.slice (some ⟨g, 0, none⟩) ds.length ds.length) ∧ w.heap.size ≤ g ∧ Own w' g (idsL ds) ∧ Below w.heap.size w w' := by
  have hmk := run_make_row' (P := Try.prog) 24 2 (.int .i64 0) 8 Try.underlying24 Try.info2 rfl .i64 .i64 ds.length (by omega) (by omega)
  have hlen : (idsL ds).length = ds.length := by simp [idsL]
  go_enter Try.func50, Try.ntmps50
  go_wp2
  clear hmk
  go_loopw [11] (fun i wr => ∃ k : Nat, k ≤ ds.length ∧ i = .int .i64 k ∧ wr.heap[w.heap.size]? = some (.cells (filled (nth (idsL ds)) ds.length k) 2) ∧ Below w.heap.size w wr) (fun i _ => ds.length - (intOf i).toNat)
  case atStart => exact ⟨0, Nat.zero_le _, rfl, by rw [filled_zero]; exact heap_alloc_new w _, (Below.refl _ _).alloc (Nat.le_refl _) _⟩
  case round =>
    obtain ⟨k, hk, rfl, ho, L⟩ := hrel
    by_cases hlt : k < ds.length
    · obtain ⟨d0, d1⟩ := hs k hlt
      have z0 := (L.cell (p := ⟨b, off + k * 2, none⟩) hb).trans d0
      have z1 := (L.cell (p := ⟨b, off + k * 2 + 1, none⟩) hb).trans d1
      have HN := hidP (idsL_nth hlt)
      generalize snth ds k = d at *
      have hnext := filled_next (nth (idsL ds)) ds.length k hlt
      have hlw : w.heap.size < wr.heap.size := (Array.getElem?_eq_some_iff.1 ho).1
      obtain ⟨W, hW⟩ : ∃ W, W = wr.alloc (.cells #[.int .i64 d.1, .slice d.2.1 d.2.2.2.length d.2.2.1] 38) := ⟨_, rfl⟩
      have ho2 : W.heap[w.heap.size]? = some (.cells (filled (nth (idsL ds)) ds.length k) 2) := by rw [hW]; exact (Below.heap_alloc _ _ _ hlw).trans ho
      have L2 : Below w.heap.size w W := by rw [hW]; exact L.alloc L.size _
      have e0 : W.cell? ⟨wr.heap.size, 0, none⟩ = some (.int .i64 d.1) := by rw [hW]; go_simp
      have e1 : W.cell? ⟨w.heap.size, k, none⟩ = some (.int .i64 0) := by simp [World.cell?, ho2, hnext]
      have e2 : W.frozen? ⟨w.heap.size, k, none⟩ = false := by simp [World.frozen?, ho2]
      have HF := hidP (filled_set (nth (idsL ds)) ds.length k hlt)
      have HO := hidP ho2
      have HL := hidP L2
      clear ho L hs d0 d1 ho2 L2 hnext
      go_upto_region 5 with fail
      rw [← hW]
      clear hW
      go_wp2_with fail
      go_roundw
      case rel =>
        refine ⟨k + 1, by omega, by go_num, ?_, HL.out.setCell (p := ⟨w.heap.size, k, none⟩) (Nat.le_refl _) _⟩
        rw [← HF.out, HN.out]
        exact heap_setCell_same W w.heap.size k _ 2 _ HO.out
      case measure => simp [intOf]; omega
    · obtain rfl : k = ds.length := by omega
      have HE : Hid (Own wr w.heap.size (idsL ds)) := by
        have h := ho
        rw [filled_all, ← hlen, tabL_list] at h
        exact h
      have HL := hidP L
      clear ho L
      go_wp2
      go_ret
      exact ⟨w.heap.size, rfl, Nat.le_refl _, HE.out, HL.out⟩
end Go.Proofs.Ytibkfdefoaimiaa
