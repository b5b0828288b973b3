/-
  The program's Ranked: the Ids by their woven numbers, of alike ones by Id.
-/
import Derived.Test.YtibkfdefoaimiaaORnk
namespace Go.Proofs.Ytibkfdefoaimiaa
open Go Go.RowKit

/-- By the woven number, of alike ones by Id. -/
def plt (a b : Int × Int) : Bool := decide (a.1 < b.1) || (decide (a.1 = b.1) && decide (a.2 < b.2))
theorem plt_iff (a b : Int × Int) : plt a b = true ↔ a.1 < b.1 ∨ (a.1 = b.1 ∧ a.2 < b.2) := by simp [plt]
theorem plt_not (a b : Int × Int) : plt a b = false ↔ b.1 < a.1 ∨ (a.1 = b.1 ∧ b.2 ≤ a.2) := by
  rcases h : plt a b with _ | _
  · have : ¬ (plt a b = true) := by simp [h]
    rw [plt_iff] at this
    constructor
    · intro _; omega
    · intro _; rfl
  · have := (plt_iff a b).1 h
    constructor
    · intro h2; cases h2
    · intro h2; omega
theorem plt_parts : Parts plt (fun _ => True) where
  trans a b c _ _ _ h1 h2 := by rw [plt_iff] at *; omega
  one a b _ _ h1 h2 := by
    rw [plt_not] at h1 h2
    have e1 : a.1 = b.1 := by omega
    have e2 : a.2 = b.2 := by omega
    exact Prod.ext e1 e2
  asym a b _ _ h1 := by rw [plt_iff] at h1; rw [plt_not]; omega

def pairM (m : Mk) : Int × Int := (weaveV m.2, m.1)
def pairS (d : Sm) : Int × Int := (weaveV d.2.2.2, d.1)
def rankB (ms : List Mk) : Bool := marksB ms && ms.all fun m => lineB m.2
def rankL (ms : List Mk) : List Int := if rankB ms = true then (sortBy plt (ms.map pairM)).map (·.2) else []

theorem cfW_lt (x y : Sm) : decide (cfW x y < 0) = plt (pairS x) (pairS y) := by
  rw [Bool.eq_iff_iff, decide_eq_true_eq, plt_iff]
  exact orI_lt _ _ _ _
theorem swo_w {ds : List Sm} : Go.Sort.SWO (Go.Proofs.ltOf fun x y : InL ds => cfW x.1 y.1) where
  irrefl x := by simp only [Go.Proofs.ltOf, cfW_lt]; rw [plt_not]; omega
  trans x y z h1 h2 := by simp only [Go.Proofs.ltOf, cfW_lt] at *; rw [plt_iff] at *; omega
  ntrans x y z h1 h2 := by simp only [Go.Proofs.ltOf, cfW_lt] at *; rw [plt_not] at *; omega

/-- What is in order by the program's word is the one list in order. -/
theorem ids_ranked {ds ds' : List Sm} (hp : ds'.Perm ds) (hs : SortedBy (fun a b => decide (cfW a b < 0)) ds') : idsL ds' = (sortBy plt (ds.map pairS)).map (·.2) := by
  have h1 : SortedBy plt (ds'.map pairS) := by
    unfold SortedBy at hs ⊢
    rw [List.pairwise_map]
    refine hs.imp ?_
    intro a b h
    have h' : decide (cfW b a < 0) = false := h
    rwa [cfW_lt] at h'
  have h2 := sortBy_one plt_parts (ds.map pairS) (ds'.map pairS) (fun _ _ => trivial) (hp.map pairS) h1
  rw [← h2, List.map_map]
  rfl

def dumS : Sm := (0, none, 0, [])

set_option maxRecDepth 100000 in
set_option maxHeartbeats 1000000 in
theorem iInOrder0 (ao : Option Addr) (cap : Nat) (w : World) :
    Calls Try.prog 51 #[.slice ao 0 cap, .func (.func 52) #[] #[]] w fun e w' => e = .returned (.slice (some ⟨w.heap.size, 0, none⟩) 0 0) ∧ w.heap.size < w'.heap.size ∧ Below w.heap.size w w' := by
  haveI : Inhabited (InL [dumS]) := ⟨⟨dumS, List.mem_cons_self ..⟩⟩
  have eg : ∀ args w, (callFunc 52 args).run Try.prog w = .ok (.enter 52 args) w := enters_of Try.func52 (by kernel_rfl) rfl
  obtain ⟨W2, hW2⟩ : ∃ W2, W2 = w.alloc (.cells #[] 38) := ⟨_, rfl⟩
  have hB2 : Below w.heap.size w W2 := by rw [hW2]; exact alloc_belowK w _
  have hz2 : W2.heap.size = w.heap.size + 1 := by rw [hW2]; simp
  have hH : Go.Sort.HoldsK (enL [dumS]) 2 W2 w.heap.size 0 (#[] : Array (InL [dumS])) := fun j hj => by simp [Go.Sort.size_flatK] at hj
  have hcon := AnyQ.slices_SortFunc Try.sortM 2 Try.isAgg38 Try.sizeOf38 (enL [dumS]) (fun _ => rfl) (fun x v hv => by simp [enL, smEnc] at hv; rcases hv with rfl | rfl <;> rfl) (fun x y => cfW x.1 y.1) swo_w 52 #[] w.heap.size 0 0 (#[] : Array (InL [dumS])) W2 eg
    (fun m os dk hdk x y => (by
      have hx : x.1 = dumS := by have := x.2; simpa using this
      have hy : y.1 = dumS := by have := y.2; simpa using this
      have := pByWeave x.1 y.1 (sortWorldK (enL [dumS]) 2 W2 w.heap.size 0 m dk os) (by rw [hx]; exact Or.inl rfl) (by rw [hy]; exact Or.inl rfl) (by rw [hx]; simp [dumS]) (by rw [hy]; simp [dumS])
      exact this)) hH (by omega) (by simp)
  change Calls Try.prog 68 #[.slice (some ⟨w.heap.size, 0, none⟩) 0 0, .func (.func 52) #[] #[]] W2 _ at hcon
  have HC : Hid (Calls Try.prog 68 #[.slice (some ⟨w.heap.size, 0, none⟩) 0 0, .func (.func 52) #[] #[]] W2 fun e w' => e = .returned (.tuple #[]) ∧ w.heap.size < w'.heap.size ∧ Below w.heap.size w w') := by
    refine hcon.mono ?_
    rintro e w' ⟨he, d', n, os, hp, hso, rfl⟩
    have hB3 := below_sorted (enL [dumS]) 2 W2 w.heap.size 0 n d' os (by omega)
    exact ⟨he, by have := hB3.size; omega, hB2.trans hB3⟩
  have hmk : ∀ w, (Instr.makeSlice 32 (.int .i64 0) (.int .i64 0)).run Try.prog w = .ok (.slice (some ⟨w.heap.size, 0, none⟩) 0 0) (w.alloc (.cells #[] 38)) := fun _ => by kernel_rfl
  clear hcon hH eg this hB2
  have hcp : ∀ (g : Nat) (W : World), (Builtin.copy_ #[32, 32] 3 #[.slice (some ⟨g, 0, none⟩) 0 0, .slice ao 0 cap]).run Try.prog W = .ok (.int .i64 0) W := fun g W => by cases ao <;> kernel_rfl
  go_enter Try.func51, Try.ntmps51
  go_wp2_with fail
  rw [← hW2]
  refine HC.out.mono ?_
  rintro e w3 ⟨rfl, hlt, hL⟩
  clear HC hcp hmk hW2
  go_wp2_with fail
  go_ret
  exact ⟨rfl, hlt, hL⟩

theorem rankL_in {ms : List Mk} (h : rankB ms = true) : rankL ms = (sortBy plt (ms.map pairM)).map (·.2) := if_pos h
theorem rankL_out {ms : List Mk} (h : rankB ms = false) : rankL ms = [] := if_neg (by simp [h])
theorem rankL_len {ms : List Mk} (h : rankB ms = true) : (rankL ms).length = ms.length := by rw [rankL_in h, List.length_map, sortBy_length, List.length_map]
theorem allLine_marks (ds : List Sm) : allLine ds = (smMarks ds).all (fun m => lineB m.2) := by
  simp only [allLine, smMarks, List.all_map]
  rfl
theorem pairs_marks (ds : List Sm) : (smMarks ds).map pairM = ds.map pairS := by
  simp only [smMarks, List.map_map]
  rfl

set_option maxRecDepth 100000 in
set_option maxHeartbeats 1000000 in
theorem iRanked (ao : Option Addr) (cap : Nat) (ms : List Mk) (w : World) (hv : MView w ao ms) (hsm : MSmall ms) :
    Calls Try.prog 17 #[.slice ao ms.length cap] w fun e w' => ∃ ag, e = .returned (.slice ag (rankL ms).length (rankL ms).length) ∧ OwnV w.heap.size w' ag (rankL ms) ∧ Below w.heap.size w w' := by
  obtain ⟨ds, hds, hsv, hsl⟩ := hv.sview
  have hlen : ds.length = ms.length := by rw [← hds]; simp [smMarks]
  have hsd : ∀ d ∈ ds, d.2.2.2.length ≤ 1048576 := fun d hd => by
    obtain ⟨i, hi, rfl⟩ := List.getElem_of_mem hd
    have h := hsm.2 i
    have e : mat ms i = ds[i].2.2.2 := by rw [← hds]; simp [mat, smMarks, smMark, hi]
    rwa [e] at h
  have HM := hidP (iMarks ao cap ms w hv hsm)
  rcases hb : marksB ms with _ | _
  · have HR := hidP (rankL_out (ms := ms) (by simp [rankB, hb]))
    rw [hb] at HM
    go_enter Try.func17, Try.ntmps17
    go_wp2_with (go_at_call 47; refine HM.out.mono ?_; rintro e w1 ⟨rfl, L1⟩)
    go_ret
    exact ⟨none, by rw [HR.out]; rfl, by rw [HR.out]; exact Or.inl rfl, L1⟩
  rw [hb] at HM
  have HA : Hid (∀ W, Below w.heap.size w W → Calls Try.prog 48 #[.slice ao ms.length cap, .func (.func 49) #[] #[]] W fun e w' => e = .returned (.bool (!allLine ds)) ∧ Below W.heap.size W w') := fun W L => by
    have := iAnyOff ao cap ds W (by rw [hlen]; exact hsm.1) (hsv.next L) (hsl.below L) hsd
    rwa [hlen] at this
  rcases hal : allLine ds with _ | _
  · have HR := hidP (rankL_out (ms := ms) (by rw [allLine_marks, hds] at hal; simp only [rankB, hb, hal]; rfl))
    rw [hal] at HA
    go_enter Try.func17, Try.ntmps17
    go_wp2_with first
      | (go_at_call 47; refine HM.out.mono ?_; rintro e w1 ⟨rfl, L1⟩)
      | (go_at_call 48; refine (HA.out _ L1).mono ?_; rintro e w2 ⟨rfl, L2⟩)
    go_ret
    exact ⟨none, by rw [HR.out]; rfl, by rw [HR.out]; exact Or.inl rfl, chain L1 L2⟩
  rw [hal] at HA
  have hrb : rankB ms = true := by rw [allLine_marks, hds] at hal; simp only [rankB, hb, hal]; rfl
  have hm60 := marksB_len hb
  have HRL := hidP (rankL_len hrb)
  have HIO : Hid (∀ W, Below w.heap.size w W → Calls Try.prog 51 #[.slice ao ms.length cap, .func (.func 52) #[] #[]] W fun e w' => ∃ b ds', e = .returned (.slice (some ⟨b, 0, none⟩) ms.length ms.length) ∧ ds'.length = ms.length ∧ idsL ds' = rankL ms ∧ SSeg w' b 0 ds' ∧ b < w'.heap.size ∧ Below W.heap.size W w') := fun W L => by
    by_cases h0 : 0 < ds.length
    · have eg : ∀ args w, (callFunc 52 args).run Try.prog w = .ok (.enter 52 args) w := enters_of Try.func52 (by kernel_rfl) rfl
      have h := iInOrder 52 #[] cfW ao cap ds W h0 (by rw [hlen]; exact hsm.1) (hsv.next L) eg swo_w (fun W' L' x hx y hy => pByWeave x y W' ((hsl x hx).next (chain L L')) ((hsl y hy).next (chain L L')) (hsd x hx) (hsd y hy))
      rw [hlen] at h
      refine h.mono ?_
      rintro e w' ⟨b, ds', rfl, hp, hs, hsg, _, hb', L'⟩
      exact ⟨b, ds', rfl, by rw [hp.length_eq, hlen], by rw [ids_ranked hp hs, rankL_in hrb, ← hds, pairs_marks], hsg, hb', L'⟩
    · have e0 : ds = [] := List.length_eq_zero_iff.1 (by omega)
      have em : ms = [] := by rw [← hds, e0]; rfl
      have h := iInOrder0 ao cap W
      rw [em]
      refine h.mono ?_
      rintro e w' ⟨rfl, hlt, L'⟩
      exact ⟨W.heap.size, [], rfl, rfl, rfl, fun i hi => by simp at hi, hlt, L'⟩
  clear hsv hsl hsd hv hal hb hrb hds hlen
  go_enter Try.func17, Try.ntmps17
  go_wp2_with first
    | (go_at_call 47; refine HM.out.mono ?_; rintro e w1 ⟨rfl, L1⟩)
    | (go_at_call 48; refine (HA.out _ L1).mono ?_; rintro e w2 ⟨rfl, L2⟩; have L12 := chain L1 L2)
    | (go_at_call 51; refine (HIO.out _ L12).mono ?_; rintro e w3 ⟨b, ds', rfl, hl3, hid3, hsg3, hb3, L3⟩; have HID := hidP hid3; have HII := hidP (iIds b 0 ms.length ds' w3 (by rw [hl3]; omega) hb3 hsg3); rw [hl3] at HII; clear hid3)
    | (go_at_call 50; refine HII.out.mono ?_; rintro e w4 ⟨g, rfl, hg4, ho4, L4⟩)
  go_ret
  refine ⟨some ⟨g, 0, none⟩, by rw [HRL.out]; rfl, Or.inr ⟨g, rfl, ?_, by rw [← HID.out]; exact ho4⟩, chain (chain L12 L3) L4⟩
  have := (chain L12 L3).size
  omega
end Go.Proofs.Ytibkfdefoaimiaa
