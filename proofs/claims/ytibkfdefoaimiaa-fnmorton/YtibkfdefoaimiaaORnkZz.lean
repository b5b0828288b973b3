/-
  The program's Ranked, its parts: whether all lie on the line, the Ids in order.
  The program's Ranked: the Ids by their woven numbers, of alike ones by Id.
  Rows of numbers of a call's own, of whatever room.
-/
import Derived.Test.YtibkfdefoaimiaaOCmpZz
import Derived.Test.YtibkfdefoaimiaaOBelZz
import Derived.Test.YtibkfdefoaimiaaMCopyZz
import Derived.Test.YtibkfdefoaimiaaAppendZz
namespace Go.Proofs.Ytibkfdefoaimiaa
open Go Go.RowKit

set_option maxHeartbeats 400000 in
theorem iOff (x : Sm) (w : World) (hx : View w x.2.1 x.2.2.2) (nx : x.2.2.2.length ≤ 1048576) :
    Calls Try.prog 49 #[.agg #[.int .i64 x.1, .slice x.2.1 x.2.2.2.length x.2.2.1]] w fun e w' => e = .returned (.bool (!lineB x.2.2.2)) ∧ Below w.heap.size w w' := by
  have HB := hidP (alloc_belowK w (.cells #[.int .i64 x.1, .slice x.2.1 x.2.2.2.length x.2.2.1] 38))
  have HL := hidP (iLine x.2.1 x.2.2.1 x.2.2.2 _ (hx.next HB.out) nx)
  clear hx nx
  go_enter Try.func49, Try.ntmps49
  go_wp2_with (go_at_call 39; refine HL.out.mono ?_; rintro e w' ⟨rfl, rfl⟩)
  go_ret
  exact ⟨rfl, HB.out⟩

/-- Do all lie on the line? -/
def allLine (ds : List Sm) : Bool := ds.all fun d => lineB d.2.2.2

set_option maxRecDepth 100000 in
set_option maxHeartbeats 1000000 in
theorem iIndex (ao : Option Addr) (cap : Nat) (ds : List Sm) (w : World) (hn : ds.length ≤ 1048576) (hv : SView w ao ds) (hl : SLies w ds) (hs : ∀ d ∈ ds, d.2.2.2.length ≤ 1048576) :
    Calls Try.prog 67 #[.slice ao ds.length cap, .func (.func 49) #[] #[]] w fun e w' => (∃ r : Int, e = .returned (.int .i64 r) ∧ decide (0 ≤ r) = !allLine ds) ∧ Below w.heap.size w w' := by
  have eg : ∀ args w, (callFunc 49 args).run Try.prog w = .ok (.enter 49 args) w := enters_of Try.func49 (by kernel_rfl) rfl
  have HV := hidP hv
  have HL := hidP hl
  have HS := hidP hs
  clear hv hl hs
  go_enter Try.func67, Try.ntmps67
  go_wp2
  go_loopw [8] (fun i wr => ∃ k : Nat, k ≤ ds.length ∧ i = .int .i64 k ∧ (∀ j (h : j < ds.length), j < k → lineB ds[j].2.2.2 = true) ∧ Below w.heap.size w wr) (fun i _ => ds.length - (intOf i).toNat)
  case atStart => exact ⟨0, Nat.zero_le _, rfl, fun j h1 h2 => by omega, Below.refl _ _⟩
  case round =>
    obtain ⟨k, hk, rfl, hall, L⟩ := hrel
    have HA := hidP hall
    have HB := hidP L
    clear hall L
    by_cases hlt : k < ds.length
    · obtain ⟨b, off, rfl, hb, hsg⟩ := HV.out.seg (by omega)
      obtain ⟨d0, d1⟩ := hsg k hlt
      have z0 := (HB.out.cell (p := ⟨b, off + k * 2, none⟩) hb).trans d0
      have z1 := (HB.out.cell (p := ⟨b, off + k * 2 + 1, none⟩) hb).trans d1
      have HO := hidP (iOff (snth ds k) wr ((HL.out _ (snth_mem hlt)).next HB.out) (HS.out _ (snth_mem hlt)))
      have HG := hidP (snth_get hlt)
      generalize snth ds k = d at *
      clear d0 d1 hsg
      rcases hlb : lineB d.2.2.2 with _ | _
      · have HX := hidP (show allLine ds = false by
          simp only [allLine, List.all_eq_false]
          exact ⟨ds[k], List.getElem_mem hlt, by rw [← HG.out, hlb]; simp⟩)
        rw [hlb] at HO
        go_wp2_with (go_at_call 49; refine HO.out.mono ?_; rintro e w2 ⟨rfl, L2⟩)
        go_ret
        exact ⟨⟨(k : Int), rfl, by rw [HX.out]; simp⟩, chain HB.out L2⟩
      · rw [hlb] at HO
        have HN : Hid (∀ j (h : j < ds.length), j < k + 1 → lineB ds[j].2.2.2 = true) := fun j h1 h2 => by
          rcases Nat.lt_or_ge j k with h | h
          · exact HA.out j h1 h
          · obtain rfl : j = k := by omega
            rw [← HG.out]; exact hlb
        clear hlb HA HG
        go_wp2_with (go_at_call 49; refine HO.out.mono ?_; rintro e w2 ⟨rfl, L2⟩)
        go_roundw
        case rel => exact ⟨k + 1, by omega, by go_num, HN.out, chain HB.out L2⟩
        case measure => simp [intOf]; omega
    · have HX := hidP (show allLine ds = true by
        simp only [allLine, List.all_eq_true]
        intro d hd
        obtain ⟨j, hj, rfl⟩ := List.getElem_of_mem hd
        exact HA.out j hj (by omega))
      go_wp2
      go_ret
      exact ⟨⟨-1, rfl, by rw [HX.out]; rfl⟩, HB.out⟩

set_option maxHeartbeats 400000 in
theorem iAnyOff (ao : Option Addr) (cap : Nat) (ds : List Sm) (w : World) (hn : ds.length ≤ 1048576) (hv : SView w ao ds) (hl : SLies w ds) (hs : ∀ d ∈ ds, d.2.2.2.length ≤ 1048576) :
    Calls Try.prog 48 #[.slice ao ds.length cap, .func (.func 49) #[] #[]] w fun e w' => e = .returned (.bool (!allLine ds)) ∧ Below w.heap.size w w' := by
  have HI := hidP (iIndex ao cap ds w hn hv hl hs)
  clear hv hl hs
  go_enter Try.func48, Try.ntmps48
  go_wp2_with (go_at_call 67; refine HI.out.mono ?_; rintro e w2 ⟨⟨r, rfl, hr⟩, L2⟩)
  go_ret
  exact ⟨ret_bool (by simp), L2⟩

/-- The numbers of marks that lie in memory. -/
def idsL (ds : List Sm) : List Int := ds.map (·.1)
theorem idsL_nth {ds : List Sm} {k : Nat} (h : k < ds.length) : nth (idsL ds) k = (snth ds k).1 := by
  rw [snth_get h]; simp [idsL, nth, h]

set_option maxRecDepth 100000 in
set_option maxHeartbeats 1000000 in
theorem iIds (b off cap : Nat) (ds : List Sm) (w : World) (hn : ds.length ≤ 1048576) (hb : b < w.heap.size) (hs : SSeg w b off ds) :
    Calls Try.prog 50 #[.slice (some ⟨b, off, none⟩) ds.length cap] w fun e w' => ∃ g, e = .returned (.slice (some ⟨g, 0, none⟩) ds.length ds.length) ∧ w.heap.size ≤ g ∧ Own w' g (idsL ds) ∧ Below w.heap.size w w' := by
  have hmk := run_make_row' (P := Try.prog) 24 2 (.int .i64 0) 8 Try.underlying24 Try.info2 rfl .i64 .i64 ds.length (by omega) (by omega)
  have hlen : (idsL ds).length = ds.length := by simp [idsL]
  go_enter Try.func50, Try.ntmps50
  go_wp2
  clear hmk
  go_loopw [11] (fun i wr => ∃ k : Nat, k ≤ ds.length ∧ i = .int .i64 k ∧ wr.heap[w.heap.size]? = some (.cells (filled (nth (idsL ds)) ds.length k) 2) ∧ Below w.heap.size w wr) (fun i _ => ds.length - (intOf i).toNat)
  case atStart => exact ⟨0, Nat.zero_le _, rfl, by rw [filled_zero]; exact heap_alloc_new w _, (Below.refl _ _).alloc (Nat.le_refl _) _⟩
  case round =>
    obtain ⟨k, hk, rfl, ho, L⟩ := hrel
    by_cases hlt : k < ds.length
    · obtain ⟨d0, d1⟩ := hs k hlt
      have z0 := (L.cell (p := ⟨b, off + k * 2, none⟩) hb).trans d0
      have z1 := (L.cell (p := ⟨b, off + k * 2 + 1, none⟩) hb).trans d1
      have HN := hidP (idsL_nth hlt)
      generalize snth ds k = d at *
      have hnext := filled_next (nth (idsL ds)) ds.length k hlt
      have hlw : w.heap.size < wr.heap.size := (Array.getElem?_eq_some_iff.1 ho).1
      obtain ⟨W, hW⟩ : ∃ W, W = wr.alloc (.cells #[.int .i64 d.1, .slice d.2.1 d.2.2.2.length d.2.2.1] 38) := ⟨_, rfl⟩
      have ho2 : W.heap[w.heap.size]? = some (.cells (filled (nth (idsL ds)) ds.length k) 2) := by rw [hW]; exact (Below.heap_alloc _ _ _ hlw).trans ho
      have L2 : Below w.heap.size w W := by rw [hW]; exact L.alloc L.size _
      have e0 : W.cell? ⟨wr.heap.size, 0, none⟩ = some (.int .i64 d.1) := by rw [hW]; go_simp
      have e1 : W.cell? ⟨w.heap.size, k, none⟩ = some (.int .i64 0) := by simp [World.cell?, ho2, hnext]
      have e2 : W.frozen? ⟨w.heap.size, k, none⟩ = false := by simp [World.frozen?, ho2]
      have HF := hidP (filled_set (nth (idsL ds)) ds.length k hlt)
      have HO := hidP ho2
      have HL := hidP L2
      clear ho L hs d0 d1 ho2 L2 hnext
      go_upto_region 5 with fail
      rw [← hW]
      clear hW
      go_wp2_with fail
      go_roundw
      case rel =>
        refine ⟨k + 1, by omega, by go_num, ?_, HL.out.setCell (p := ⟨w.heap.size, k, none⟩) (Nat.le_refl _) _⟩
        rw [← HF.out, HN.out]
        exact heap_setCell_same W w.heap.size k _ 2 _ HO.out
      case measure => simp [intOf]; omega
    · obtain rfl : k = ds.length := by omega
      have HE : Hid (Own wr w.heap.size (idsL ds)) := by
        have h := ho
        rw [filled_all, ← hlen, tabL_list] at h
        exact h
      have HL := hidP L
      clear ho L
      go_wp2
      go_ret
      exact ⟨w.heap.size, rfl, Nat.le_refl _, HE.out, HL.out⟩
end Go.Proofs.Ytibkfdefoaimiaa
namespace Go.Proofs.Ytibkfdefoaimiaa
open Go Go.RowKit

/-- By the woven number, of alike ones by Id. -/
def plt (a b : Int × Int) : Bool := decide (a.1 < b.1) || (decide (a.1 = b.1) && decide (a.2 < b.2))
theorem plt_iff (a b : Int × Int) : plt a b = true ↔ a.1 < b.1 ∨ (a.1 = b.1 ∧ a.2 < b.2) := by simp [plt]
theorem plt_not (a b : Int × Int) : plt a b = false ↔ b.1 < a.1 ∨ (a.1 = b.1 ∧ b.2 ≤ a.2) := by
  rcases h : plt a b with _ | _
  · have : ¬ (plt a b = true) := by simp [h]
    rw [plt_iff] at this
    constructor
    · intro _; omega
    · intro _; rfl
  · have := (plt_iff a b).1 h
    constructor
    · intro h2; cases h2
    · intro h2; omega
theorem plt_parts : Parts plt (fun _ => True) where
  trans a b c _ _ _ h1 h2 := by rw [plt_iff] at *; omega
  one a b _ _ h1 h2 := by
    rw [plt_not] at h1 h2
    have e1 : a.1 = b.1 := by omega
    have e2 : a.2 = b.2 := by omega
    exact Prod.ext e1 e2
  asym a b _ _ h1 := by rw [plt_iff] at h1; rw [plt_not]; omega

def pairM (m : Mk) : Int × Int := (weaveV m.2, m.1)
def pairS (d : Sm) : Int × Int := (weaveV d.2.2.2, d.1)
def rankB (ms : List Mk) : Bool := marksB ms && ms.all fun m => lineB m.2
def rankL (ms : List Mk) : List Int := if rankB ms = true then (sortBy plt (ms.map pairM)).map (·.2) else []

theorem cfW_lt (x y : Sm) : decide (cfW x y < 0) = plt (pairS x) (pairS y) := by
  rw [Bool.eq_iff_iff, decide_eq_true_eq, plt_iff]
  exact orI_lt _ _ _ _
theorem swo_w {ds : List Sm} : Go.Sort.SWO (Go.Proofs.ltOf fun x y : InL ds => cfW x.1 y.1) where
  irrefl x := by simp only [Go.Proofs.ltOf, cfW_lt]; rw [plt_not]; omega
  trans x y z h1 h2 := by simp only [Go.Proofs.ltOf, cfW_lt] at *; rw [plt_iff] at *; omega
  ntrans x y z h1 h2 := by simp only [Go.Proofs.ltOf, cfW_lt] at *; rw [plt_not] at *; omega

/-- What is in order by the program's word is the one list in order. -/
theorem ids_ranked {ds ds' : List Sm} (hp : ds'.Perm ds) (hs : SortedBy (fun a b => decide (cfW a b < 0)) ds') : idsL ds' = (sortBy plt (ds.map pairS)).map (·.2) := by
  have h1 : SortedBy plt (ds'.map pairS) := by
    unfold SortedBy at hs ⊢
    rw [List.pairwise_map]
    refine hs.imp ?_
    intro a b h
    have h' : decide (cfW b a < 0) = false := h
    rwa [cfW_lt] at h'
  have h2 := sortBy_one plt_parts (ds.map pairS) (ds'.map pairS) (fun _ _ => trivial) (hp.map pairS) h1
  rw [← h2, List.map_map]
  rfl

def dumS : Sm := (0, none, 0, [])

set_option maxRecDepth 100000 in
set_option maxHeartbeats 1000000 in
theorem iInOrder0 (ao : Option Addr) (cap : Nat) (w : World) :
    Calls Try.prog 51 #[.slice ao 0 cap, .func (.func 52) #[] #[]] w fun e w' => e = .returned (.slice (some ⟨w.heap.size, 0, none⟩) 0 0) ∧ w.heap.size < w'.heap.size ∧ Below w.heap.size w w' := by
  haveI : Inhabited (InL [dumS]) := ⟨⟨dumS, List.mem_cons_self ..⟩⟩
  have eg : ∀ args w, (callFunc 52 args).run Try.prog w = .ok (.enter 52 args) w := enters_of Try.func52 (by kernel_rfl) rfl
  obtain ⟨W2, hW2⟩ : ∃ W2, W2 = w.alloc (.cells #[] 38) := ⟨_, rfl⟩
  have hB2 : Below w.heap.size w W2 := by rw [hW2]; exact alloc_belowK w _
  have hz2 : W2.heap.size = w.heap.size + 1 := by rw [hW2]; simp
  have hH : Go.Sort.HoldsK (enL [dumS]) 2 W2 w.heap.size 0 (#[] : Array (InL [dumS])) := fun j hj => by simp [Go.Sort.size_flatK] at hj
  have hcon := AnyQ.slices_SortFunc Try.sortM 2 Try.isAgg38 Try.sizeOf38 (enL [dumS]) (fun _ => rfl) (fun x v hv => by simp [enL, smEnc] at hv; rcases hv with rfl | rfl <;> rfl) (fun x y => cfW x.1 y.1) swo_w 52 #[] w.heap.size 0 0 (#[] : Array (InL [dumS])) W2 eg
    (fun m os dk hdk x y => (by
      have hx : x.1 = dumS := by have := x.2; simpa using this
      have hy : y.1 = dumS := by have := y.2; simpa using this
      have := pByWeave x.1 y.1 (sortWorldK (enL [dumS]) 2 W2 w.heap.size 0 m dk os) (by rw [hx]; exact Or.inl rfl) (by rw [hy]; exact Or.inl rfl) (by rw [hx]; simp [dumS]) (by rw [hy]; simp [dumS])
      exact this)) hH (by omega) (by simp)
  change Calls Try.prog 68 #[.slice (some ⟨w.heap.size, 0, none⟩) 0 0, .func (.func 52) #[] #[]] W2 _ at hcon
  have HC : Hid (Calls Try.prog 68 #[.slice (some ⟨w.heap.size, 0, none⟩) 0 0, .func (.func 52) #[] #[]] W2 fun e w' => e = .returned (.tuple #[]) ∧ w.heap.size < w'.heap.size ∧ Below w.heap.size w w') := by
    refine hcon.mono ?_
    rintro e w' ⟨he, d', n, os, hp, hso, rfl⟩
    have hB3 := below_sorted (enL [dumS]) 2 W2 w.heap.size 0 n d' os (by omega)
    exact ⟨he, by have := hB3.size; omega, hB2.trans hB3⟩
  have hmk : ∀ w, (Instr.makeSlice 32 (.int .i64 0) (.int .i64 0)).run Try.prog w = .ok (.slice (some ⟨w.heap.size, 0, none⟩) 0 0) (w.alloc (.cells #[] 38)) := fun _ => by kernel_rfl
  clear hcon hH eg this hB2
  have hcp : ∀ (g : Nat) (W : World), (Builtin.copy_ #[32, 32] 3 #[.slice (some ⟨g, 0, none⟩) 0 0, .slice ao 0 cap]).run Try.prog W = .ok (.int .i64 0) W := fun g W => by cases ao <;> kernel_rfl
  go_enter Try.func51, Try.ntmps51
  go_wp2_with fail
  rw [← hW2]
  refine HC.out.mono ?_
  rintro e w3 ⟨rfl, hlt, hL⟩
  clear HC hcp hmk hW2
  go_wp2_with fail
  go_ret
  exact ⟨rfl, hlt, hL⟩

theorem rankL_in {ms : List Mk} (h : rankB ms = true) : rankL ms = (sortBy plt (ms.map pairM)).map (·.2) := if_pos h
theorem rankL_out {ms : List Mk} (h : rankB ms = false) : rankL ms = [] := if_neg (by simp [h])
theorem rankL_len {ms : List Mk} (h : rankB ms = true) : (rankL ms).length = ms.length := by rw [rankL_in h, List.length_map, sortBy_length, List.length_map]
theorem allLine_marks (ds : List Sm) : allLine ds = (smMarks ds).all (fun m => lineB m.2) := by
  simp only [allLine, smMarks, List.all_map]
  rfl
theorem pairs_marks (ds : List Sm) : (smMarks ds).map pairM = ds.map pairS := by
  simp only [smMarks, List.map_map]
  rfl

set_option maxRecDepth 100000 in
set_option maxHeartbeats 1000000 in
theorem iRanked (ao : Option Addr) (cap : Nat) (ms : List Mk) (w : World) (hv : MView w ao ms) (hsm : MSmall ms) :
    Calls Try.prog 17 #[.slice ao ms.length cap] w fun e w' => ∃ ag, e = .returned (.slice ag (rankL ms).length (rankL ms).length) ∧ OwnV w.heap.size w' ag (rankL ms) ∧ Below w.heap.size w w' := by
  obtain ⟨ds, hds, hsv, hsl⟩ := hv.sview
  have hlen : ds.length = ms.length := by rw [← hds]; simp [smMarks]
  have hsd : ∀ d ∈ ds, d.2.2.2.length ≤ 1048576 := fun d hd => by
    obtain ⟨i, hi, rfl⟩ := List.getElem_of_mem hd
    have h := hsm.2 i
    have e : mat ms i = ds[i].2.2.2 := by rw [← hds]; simp [mat, smMarks, smMark, hi]
    rwa [e] at h
  have HM := hidP (iMarks ao cap ms w hv hsm)
  rcases hb : marksB ms with _ | _
  · have HR := hidP (rankL_out (ms := ms) (by simp [rankB, hb]))
    rw [hb] at HM
    go_enter Try.func17, Try.ntmps17
    go_wp2_with (go_at_call 47; refine HM.out.mono ?_; rintro e w1 ⟨rfl, L1⟩)
    go_ret
    exact ⟨none, by rw [HR.out]; rfl, by rw [HR.out]; exact Or.inl rfl, L1⟩
  rw [hb] at HM
  have HA : Hid (∀ W, Below w.heap.size w W → Calls Try.prog 48 #[.slice ao ms.length cap, .func (.func 49) #[] #[]] W fun e w' => e = .returned (.bool (!allLine ds)) ∧ Below W.heap.size W w') := fun W L => by
    have := iAnyOff ao cap ds W (by rw [hlen]; exact hsm.1) (hsv.next L) (hsl.below L) hsd
    rwa [hlen] at this
  rcases hal : allLine ds with _ | _
  · have HR := hidP (rankL_out (ms := ms) (by rw [allLine_marks, hds] at hal; simp only [rankB, hb, hal]; rfl))
    rw [hal] at HA
    go_enter Try.func17, Try.ntmps17
    go_wp2_with first
      | (go_at_call 47; refine HM.out.mono ?_; rintro e w1 ⟨rfl, L1⟩)
      | (go_at_call 48; refine (HA.out _ L1).mono ?_; rintro e w2 ⟨rfl, L2⟩)
    go_ret
    exact ⟨none, by rw [HR.out]; rfl, by rw [HR.out]; exact Or.inl rfl, chain L1 L2⟩
  rw [hal] at HA
  have hrb : rankB ms = true := by rw [allLine_marks, hds] at hal; simp only [rankB, hb, hal]; rfl
  have hm60 := marksB_len hb
  have HRL := hidP (rankL_len hrb)
  have HIO : Hid (∀ W, Below w.heap.size w W → Calls Try.prog 51 #[.slice ao ms.length cap, .func (.func 52) #[] #[]] W fun e w' => ∃ b ds', e = .returned (.slice (some ⟨b, 0, none⟩) ms.length ms.length) ∧ ds'.length = ms.length ∧ idsL ds' = rankL ms ∧ SSeg w' b 0 ds' ∧ b < w'.heap.size ∧ Below W.heap.size W w') := fun W L => by
    by_cases h0 : 0 < ds.length
    · have eg : ∀ args w, (callFunc 52 args).run Try.prog w = .ok (.enter 52 args) w := enters_of Try.func52 (by kernel_rfl) rfl
      have h := iInOrder 52 #[] cfW ao cap ds W h0 (by rw [hlen]; exact hsm.1) (hsv.next L) eg swo_w (fun W' L' x hx y hy => pByWeave x y W' ((hsl x hx).next (chain L L')) ((hsl y hy).next (chain L L')) (hsd x hx) (hsd y hy))
      rw [hlen] at h
      refine h.mono ?_
      rintro e w' ⟨b, ds', rfl, hp, hs, hsg, _, hb', L'⟩
      exact ⟨b, ds', rfl, by rw [hp.length_eq, hlen], by rw [ids_ranked hp hs, rankL_in hrb, ← hds, pairs_marks], hsg, hb', L'⟩
    · have e0 : ds = [] := List.length_eq_zero_iff.1 (by omega)
      have em : ms = [] := by rw [← hds, e0]; rfl
      have h := iInOrder0 ao cap W
      rw [em]
      refine h.mono ?_
      rintro e w' ⟨rfl, hlt, L'⟩
      exact ⟨W.heap.size, [], rfl, rfl, rfl, fun i hi => by simp at hi, hlt, L'⟩
  clear hsv hsl hsd hv hal hb hrb hds hlen
  go_enter Try.func17, Try.ntmps17
  go_wp2_with first
    | (go_at_call 47; refine HM.out.mono ?_; rintro e w1 ⟨rfl, L1⟩)
    | (go_at_call 48; refine (HA.out _ L1).mono ?_; rintro e w2 ⟨rfl, L2⟩; have L12 := chain L1 L2)
    | (go_at_call 51; refine (HIO.out _ L12).mono ?_; rintro e w3 ⟨b, ds', rfl, hl3, hid3, hsg3, hb3, L3⟩; have HID := hidP hid3; have HII := hidP (iIds b 0 ms.length ds' w3 (by rw [hl3]; omega) hb3 hsg3); rw [hl3] at HII; clear hid3)
    | (go_at_call 50; refine HII.out.mono ?_; rintro e w4 ⟨g, rfl, hg4, ho4, L4⟩)
  go_ret
  refine ⟨some ⟨g, 0, none⟩, by rw [HRL.out]; rfl, Or.inr ⟨g, rfl, ?_, by rw [← HID.out]; exact ho4⟩, chain (chain L12 L3) L4⟩
  have := (chain L12 L3).size
  omega
end Go.Proofs.Ytibkfdefoaimiaa
namespace Go.Proofs.Ytibkfdefoaimiaa
open Go Go.RowKit

def nvs (xs : List Int) : List Value := xs.map (Value.int .i64)
def NRow (base : Nat) (w : World) (g c : Nat) (xs : List Int) : Prop := w.ownsRow base 2 1 (.slice (some ⟨g, 0, none⟩) xs.length c) xs.length (nvs xs)
theorem NRow.lt {base : Nat} {w : World} {g c : Nat} {xs : List Int} (h : NRow base w g c xs) : base ≤ g ∧ g < w.heap.size := World.ownsRow.lt h g rfl
theorem NRow.seg {base : Nat} {w : World} {g c : Nat} {xs : List Int} (h : NRow base w g c xs) : Seg w g 0 xs := fun i hi => by
  rw [Nat.zero_add, World.ownsRow.cellAt h i (by omega)]
  simp [nvs, nth, hi]
theorem NRow.cap {base : Nat} {w : World} {g c : Nat} {xs : List Int} (h : NRow base w g c xs) : xs.length ≤ c := by
  obtain ⟨_, ⟨h1, _⟩ | ⟨g', c', cur, h1, _, _, h2, _⟩⟩ := h
  · cases h1
  · injection h1 with e1 e2 e3; omega
theorem NRow.below {base B : Nat} {w w' : World} {g c : Nat} {xs : List Int} (h : NRow base w g c xs) (hB : w.heap.size ≤ B) (hw : Below B w w') : NRow base w' g c xs :=
  World.ownsRow.kept h (row := none) ⟨hw.os, hw.tape, hw.output, hw.size, fun i hi _ => hw.block i (Nat.lt_of_lt_of_le hi hB)⟩ (Or.inr (by simp [Value.ownBlock]))
theorem NRow.start (w : World) (base : Nat) (hb : base ≤ w.heap.size) : NRow base (w.alloc (.cells #[] 2)) w.heap.size 0 [] := World.ownsRow_lit w #[] 0 hb (Nat.zero_le _) rfl
theorem NRow.of {base : Nat} {w : World} {g c n : Nat} {xs : List Int} {vs : List Value} (h : w.ownsRow base 2 1 (.slice (some ⟨g, 0, none⟩) n c) n vs) (hn : n = xs.length) (hx : vs = nvs xs) : NRow base w g c xs := by
  subst hn hx; exact h
theorem nsrc {w : World} {g off : Nat} {xs : List Int} (h : Seg w g off xs) : SrcAt w 1 (some ⟨g, off, none⟩) xs.length (nvs xs) :=
  ⟨by simp [nvs], fun u hu => by simp [nvs] at hu; obtain ⟨x, _, rfl⟩ := hu; rfl, Or.inr ⟨_, rfl, fun j u hu => by
    have hj : j < xs.length := by
      rcases Nat.lt_or_ge j xs.length with h1 | h1
      · exact h1
      · rw [List.getElem?_eq_none (by simp [nvs]; exact h1)] at hu; cases hu
    have e : u = .int .i64 (nth xs j) := by simp [nvs, hj] at hu; simp [nth, hj, ← hu]
    have := h j hj
    rw [e, ← this]
    by_cases h0 : j = 0
    · subst h0; simp [Addr.add]
    · simp [Addr.add, h0]⟩⟩
theorem Seg.drop8 {w : World} {g off : Nat} {xs : List Int} (h : Seg w g off xs) (j : Nat) : Seg w g (off + j) (xs.drop j) := fun i hi => by
  have hi' : j + i < xs.length := by simp at hi; omega
  have := h (j + i) hi'
  rw [show off + j + i = off + (j + i) by omega, this]
  simp [nth, List.getElem?_drop]
theorem Seg.take8 {w : World} {g off : Nat} {xs : List Int} (h : Seg w g off xs) (j : Nat) : Seg w g off (xs.take j) := fun i hi => by
  have hi' : i < xs.length ∧ i < j := by simp at hi; omega
  rw [h i hi'.1]
  simp [nth, hi'.2]
theorem SrcAt.none8 (w : World) (ao : Option Addr) : SrcAt w 1 ao 0 [] := ⟨by simp, fun u hu => (by cases hu), Or.inl rfl⟩

theorem one_src8 {w : World} {n : Nat} {v : Int} (hb : w.heap[n]? = some (.cells #[.int .i64 v] 2 (0, 0))) : SrcAt w 1 (some ⟨n, 0, none⟩) 1 (nvs [v]) :=
  ⟨rfl, fun u hu => by simp [nvs] at hu; rw [hu]; rfl, Or.inr ⟨_, rfl, World.news_of_block (cs := #[.int .i64 v]) hb⟩⟩
theorem put_lit8 {base : Nat} (w3 : World) (X : Obj) (hb : base ≤ w3.heap.size) : ((w3.alloc X).alloc (.cells #[] 2)).drew.ownsRow base 2 1 (.slice (some ⟨w3.heap.size + 1, 0, none⟩) 0 0) 0 [] := by
  have := World.ownsRow_lit (base := base) (e := 2) (size := 1) (w3.alloc X) #[] 0 (by simp; omega) (Nat.zero_le _) rfl
  rw [show (w3.alloc X).heap.size = w3.heap.size + 1 by simp] at this
  exact World.ownsRow.drew this
/-- What holds all through a statement that puts a number into a row: the number's own cell, and all that was there. -/
def DN (w3 : World) (b o : Nat) (u : Value) (w' : World) : Prop := w'.cell? ⟨b, o, none⟩ = some u ∧ Below w3.heap.size w3 w'
theorem DN.of {w3 w' : World} {b o : Nat} {u : Value} (hq : b < w3.heap.size) (e0 : w3.cell? ⟨b, o, none⟩ = some u) (L : Below w3.heap.size w3 w') : DN w3 b o u w' :=
  ⟨(L.cell (p := ⟨b, o, none⟩) hq).trans e0, L⟩
theorem DN.grown {w3 w' w4 : World} {b o n : Nat} {u : Value} (hs : DN w3 b o u w') (hq : b < w3.heap.size) (hg : w'.grownBy w4 (some n)) (hn : w3.heap.size ≤ n) : DN w3 b o u w4 := by
  have hz := hs.2.size
  have L : Below w3.heap.size w' w4 := (Below.refl _ _).grown hg (by omega) (by intro k hk; cases hk; exact hn)
  exact ⟨(L.cell (p := ⟨b, o, none⟩) hq).trans hs.1, hs.2.trans L⟩

/-- Where a mark of a greater Id goes: behind all of no greater woven number. -/
theorem put_place {es : List (Int × Int)} {d : Int × Int} {j : Nat} (hj : j ≤ es.length) (hid : ∀ x ∈ es, x.2 < d.2) (h1 : ∀ i (h : i < es.length), i < j → es[i].1 ≤ d.1) (h2 : ∀ h : j < es.length, d.1 < es[j].1) : insBy plt d es = es.take j ++ d :: es.drop j := by
  have e := posBy_uniq plt d es j hj (fun i h hij => by
    rw [plt_iff]
    have a1 := h1 i h hij
    have a2 := hid _ (List.getElem_mem h)
    omega) (fun h => by
    rw [plt_not]
    have a1 := h2 h
    omega)
  have := insBy_eq plt d es
  rw [e] at this
  exact this
end Go.Proofs.Ytibkfdefoaimiaa
