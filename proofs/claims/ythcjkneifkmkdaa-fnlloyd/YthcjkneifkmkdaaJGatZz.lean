/-
  The program's gatheringAt: three closures over four variables of their own.
-/
import Derived.Test.YthcjkneifkmkdaaJRwZz
import Derived.Test.YthcjkneifkmkdaaLastZz
import Derived.Test.YthcjkneifkmkdaaBI1Zz
import Derived.Laws.EntriesVeiled
namespace Go.Proofs.Ythcjkneifkmkdaa
open Go Go.RowKit

/-- Where the center, how many, the cost and the sums lie. -/
abbrev Gq := Nat × Nat × Nat × Nat
abbrev ptrV (b : Nat) : Value := .pointer (some ⟨b, 0, none⟩)
def addV (q : Gq) : Value := .func (.func 70) #[] #[ptrV q.2.1, ptrV q.2.2.1, ptrV q.1, ptrV q.2.2.2]
def cstV (q : Gq) : Value := .func (.func 73) #[] #[ptrV q.2.2.1]
def menV (q : Gq) : Value := .func (.func 74) #[] #[ptrV q.2.1, ptrV q.1, ptrV q.2.2.2]
def gatV (q : Gq) : Value := .agg #[addV q, cstV q, menV q]
def gatL (q : Gq) : List Nat := [q.1, q.2.1, q.2.2.1, q.2.2.2]
/-- The four variables: the center, how many there are, what they cost, the sums' row g. -/
structure GatAt (w : World) (q : Gq) (ctr : Value) (many cost : Int) (g : Nat) (sums : List Int) : Prop where
  hctr : w.heap[q.1]? = some (.cells #[ctr] 55)
  hmany : w.heap[q.2.1]? = some (.cells #[.int .i64 many] 2)
  hcost : w.heap[q.2.2.1]? = some (.cells #[.int .i64 cost] 2)
  hsums : w.heap[q.2.2.2]? = some (.cells #[.slice (some ⟨g, 0, none⟩) sums.length sums.length] 55)
  hrow : Own w g sums

def tv (b : Bool) (v : Value) : Value := bif b then v else undef
def gC (n : Nat) (f : Nat → Bool) (B : Nat → Nat) (i : Nat) : Obj :=
  if i = 2 then .cells (rowC (List.replicate n 0)) 2 else if i = 5 then .cells #[bif f 8 then .slice (some ⟨B 2, 0, none⟩) n n else .slice none 0 0] 55 else .cells #[.int .i64 0] 2
structure GInv (W0 : World) (s p1 p2 : Value) (n : Nat) (f : Nat → Bool) (a : Act) (w : World) (B : Nat → Nat) : Prop where
  act : a = { tmps := #[s, p1, p2, tv (f 3) (ptrV (B 3)), tv (f 4) (ptrV (B 4)), tv (f 5) (ptrV (B 5)), tv (f 0) s, tv (f 1) (.int .i64 n), tv (f 2) (.slice (some ⟨B 2, 0, none⟩) n n), undef, undef, undef, undef], defers := [] }
  has : ∀ i, 2 ≤ i → i ≤ 5 → f i = true → w.heap[B i]? = some (gC n f B i) ∧ W0.heap.size ≤ B i
  apart : ∀ i j, 2 ≤ i → i ≤ 5 → 2 ≤ j → j ≤ 5 → i ≠ j → f i = true → f j = true → B i ≠ B j
  late : f 8 = true → f 2 = true ∧ f 5 = true
  low : Below W0.heap.size W0 w
theorem GInv.lt {W0 : World} {s p1 p2 : Value} {n : Nat} {f : Nat → Bool} {a : Act} {w : World} {B : Nat → Nat} (h : GInv W0 s p1 p2 n f a w B) {i : Nat} (h1 : 2 ≤ i) (h2 : i ≤ 5) (hf : f i = true) : B i < w.heap.size :=
  (Array.getElem?_eq_some_iff.1 (h.has i h1 h2 hf).1).1
/-- One that makes a block. -/
theorem GInv.make {W0 : World} {s p1 p2 : Value} {n : Nat} {f : Nat → Bool} {a a' : Act} {w : World} {B : Nat → Nat} (h : GInv W0 s p1 p2 n f a w B) (i : Nat) (h1 : 2 ≤ i) (h2 : i ≤ 5) (hf : f i = false) (h8 : i = 2 ∨ i = 5 → f 8 = false) (o : Obj)
    (ho : o = if i = 2 then .cells (rowC (List.replicate n 0)) 2 else if i = 5 then .cells #[.slice none 0 0] 55 else .cells #[.int .i64 0] 2)
    (ha : a' = { tmps := #[s, p1, p2, tv (f 3 || 3 == i) (ptrV (if 3 = i then w.heap.size else B 3)), tv (f 4 || 4 == i) (ptrV (if 4 = i then w.heap.size else B 4)), tv (f 5 || 5 == i) (ptrV (if 5 = i then w.heap.size else B 5)), tv (f 0 || 0 == i) s, tv (f 1 || 1 == i) (.int .i64 n), tv (f 2 || 2 == i) (.slice (some ⟨if 2 = i then w.heap.size else B 2, 0, none⟩) n n), undef, undef, undef, undef], defers := [] }) :
    GInv W0 s p1 p2 n (fun j => f j || j == i) a' (w.alloc o) (fun j => if j = i then w.heap.size else B j) := by
  have hz := h.low.size
  refine ⟨ha, fun j hj1 hj2 hfj => ?_, fun j k hj1 hj2 hk1 hk2 hjk hfj hfk => ?_, fun hq => ?_, h.low.alloc hz o⟩
  · by_cases e : j = i
    · subst e
      refine ⟨?_, by simp; omega⟩
      simp only [if_true]
      rw [heap_alloc_new, ho]
      unfold gC
      by_cases e2 : j = 2
      · simp [e2]
      · by_cases e5 : j = 5
        · have := h8 (Or.inr e5)
          subst e5
          simp [this]
        · simp [e2, e5]
    · have hfj' : f j = true := by
        have : (j == i) = false := by simp [e]
        simpa [this] using hfj
      obtain ⟨c1, c2⟩ := h.has j hj1 hj2 hfj'
      have hl := h.lt hj1 hj2 hfj'
      simp only [e, if_false]
      refine ⟨?_, c2⟩
      rw [Below.heap_alloc _ _ _ hl, c1]
      congr 1
      unfold gC
      by_cases e5 : j = 5
      · subst e5
        have e8 : (8 == i) = false := by simp; omega
        simp only [e8, Bool.or_false]
        by_cases e2 : 2 = i
        · subst e2
          have := h8 (Or.inl rfl)
          simp [this]
        · simp [e2]
      · simp [e5]
  · by_cases e : j = i
    · subst e
      have e' : ¬ k = j := fun e => hjk e.symm
      have hfk' : f k = true := by
        have : (k == j) = false := by simp [e']
        simpa [this] using hfk
      have := h.lt hk1 hk2 hfk'
      simp only [if_true, e', if_false]
      omega
    · have hfj' : f j = true := by
        have : (j == i) = false := by simp [e]
        simpa [this] using hfj
      by_cases e2 : k = i
      · subst e2
        have := h.lt hj1 hj2 hfj'
        simp only [e, if_false, if_true]
        omega
      · have hfk' : f k = true := by
          have : (k == i) = false := by simp [e2]
          simpa [this] using hfk
        simp only [e, e2, if_false]
        exact h.apart j k hj1 hj2 hk1 hk2 hjk hfj' hfk'
  · have e8 : (8 == i) = false := by simp; omega
    have : f 8 = true := by simpa [e8] using hq
    obtain ⟨k2, k5⟩ := h.late this
    simp [k2, k5]
/-- One that reads, or stores what is there. -/
theorem GInv.same {W0 : World} {s p1 p2 : Value} {n : Nat} {f : Nat → Bool} {a a' : Act} {w w' : World} {B : Nat → Nat} (h : GInv W0 s p1 p2 n f a w B) (i : Nat) (hi : i < 2 ∨ i = 6 ∨ i = 7) (hw : Below W0.heap.size W0 w') (hh : ∀ j, 2 ≤ j → j ≤ 5 → f j = true → w'.heap[B j]? = w.heap[B j]?)
    (ha : a' = { tmps := #[s, p1, p2, tv (f 3) (ptrV (B 3)), tv (f 4) (ptrV (B 4)), tv (f 5) (ptrV (B 5)), tv (f 0 || 0 == i) s, tv (f 1 || 1 == i) (.int .i64 n), tv (f 2) (.slice (some ⟨B 2, 0, none⟩) n n), undef, undef, undef, undef], defers := [] }) :
    GInv W0 s p1 p2 n (fun j => f j || j == i) a' w' B := by
  have e : ∀ j, 2 ≤ j → j ≤ 5 ∨ j = 8 → (f j || j == i) = f j := fun j hj _ => by
    have : (j == i) = false := by simp; omega
    simp [this]
  refine ⟨?_, fun j h1 h2 hf => ?_, fun j k h1 h2 h3 h4 hjk hf hf' => ?_, fun h8 => ?_, hw⟩
  · rw [ha, e 3 (by omega) (by omega), e 4 (by omega) (by omega), e 5 (by omega) (by omega), e 2 (by omega) (by omega)]
  · rw [e j h1 (Or.inl h2)] at hf
    obtain ⟨c1, c2⟩ := h.has j h1 h2 hf
    refine ⟨?_, c2⟩
    rw [hh j h1 h2 hf, c1]
    unfold gC
    show _ = some (if j = 2 then _ else if j = 5 then Obj.cells #[bif (f 8 || 8 == i) then _ else _] 55 else _)
    rw [e 8 (by omega) (by omega)]
  · rw [e j h1 (Or.inl h2)] at hf
    rw [e k h3 (Or.inl h4)] at hf'
    exact h.apart j k h1 h2 h3 h4 hjk hf hf'
  · rw [e 8 (by omega) (by omega)] at h8
    rw [e 2 (by omega) (by omega), e 5 (by omega) (by omega)]
    exact h.late h8
theorem store_same {w : World} {b : Nat} {v : Value} {t : TypeId} (h : w.heap[b]? = some (.cells #[v] t)) (j : Nat) : (w.setCell ⟨b, 0, none⟩ v).heap[j]? = w.heap[j]? := by
  by_cases e : j = b
  · subst e
    rw [heap_setCell_same w j 0 #[v] t v h, h]
    simp
  · exact Below.heap_setCell w ⟨b, 0, none⟩ v j e
theorem one_cell {w : World} {b : Nat} {v : Value} {t : TypeId} (h : w.heap[b]? = some (.cells #[v] t)) : w.cell? ⟨b, 0, none⟩ = some v ∧ w.frozen? ⟨b, 0, none⟩ = false := by
  constructor
  · simp [World.cell?, h]
  · simp [World.frozen?, h]

/-- The last one: the row goes into its variable. -/
theorem GInv.fill {W0 : World} {s p1 p2 : Value} {n : Nat} {f : Nat → Bool} {a a' : Act} {w : World} {B : Nat → Nat} (h : GInv W0 s p1 p2 n f a w B) (h2 : f 2 = true) (h5 : f 5 = true)
    (ha : a' = { tmps := #[s, p1, p2, tv (f 3) (ptrV (B 3)), tv (f 4) (ptrV (B 4)), tv (f 5) (ptrV (B 5)), tv (f 0) s, tv (f 1) (.int .i64 n), tv (f 2) (.slice (some ⟨B 2, 0, none⟩) n n), undef, undef, undef, undef], defers := [] }) :
    GInv W0 s p1 p2 n (fun j => f j || j == 8) a' (w.setCell ⟨B 5, 0, none⟩ (.slice (some ⟨B 2, 0, none⟩) n n)) B := by
  have e : ∀ j, j ≤ 5 → (f j || j == 8) = f j := fun j hj => by
    have : (j == 8) = false := by simp; omega
    simp [this]
  obtain ⟨c5, l5⟩ := h.has 5 (by omega) (by omega) h5
  refine ⟨?_, fun j h1 h2 hf => ?_, fun j k h1 h2 h3 h4 hjk hf hf' => ?_, fun _ => ?_, h.low.setCell (p := ⟨B 5, 0, none⟩) l5 _⟩
  · rw [ha, e 3 (by omega), e 4 (by omega), e 5 (by omega), e 2 (by omega), e 0 (by omega), e 1 (by omega)]
  · rw [e j h2] at hf
    obtain ⟨c1, c2⟩ := h.has j h1 h2 hf
    refine ⟨?_, c2⟩
    by_cases e5 : j = 5
    · subst e5
      simp only [gC] at c1
      rw [heap_setCell_same w (B 5) 0 _ 55 _ c1]
      simp [gC]
    · rw [Below.heap_setCell w ⟨B 5, 0, none⟩ _ (B j) (h.apart j 5 h1 h2 (by omega) (by omega) e5 hf h5), c1]
      simp [gC, e5]
  · rw [e j h2] at hf
    rw [e k h4] at hf'
    exact h.apart j k h1 h2 h3 h4 hjk hf hf'
  · rw [e 2 (by omega), e 5 (by omega)]
    exact ⟨h2, h5⟩

set_option maxRecDepth 100000 in
set_option maxHeartbeats 4000000 in
theorem iGat (ao : Option Addr) (cap : Nat) (p : List Int) (w : World) (hn : p.length ≤ 4) :
    Calls Try.prog 55 #[.slice ao p.length cap] w fun e w' => ∃ (q : Gq) (g : Nat), e = .returned (gatV q) ∧ GatAt w' q (.slice ao p.length cap) 0 0 g (List.replicate p.length 0) ∧ (g :: gatL q).Nodup ∧ (∀ b ∈ g :: gatL q, w.heap.size ≤ b) ∧ Below w.heap.size w w' := by
  have hmk := run_make_row' (P := Try.prog) 55 2 (.int .i64 0) 8 Try.underlying55 Try.info2 rfl .i64 .i64 p.length (by omega) (by omega)
  rw [show madeCells #[.int .i64 0] p.length = rowC (List.replicate p.length 0) by rw [← filled_zero (fun _ => 0) p.length]; simp [filled, tabL]] at hmk
  obtain ⟨W0, hW0⟩ : ∃ W0, W0 = ((w.alloc (.cells #[.slice ao p.length cap] 55)).alloc (.cells #[.nilFunc, .nilFunc, .nilFunc] 54)) := ⟨_, rfl⟩
  have h0 : Hid (W0.heap[w.heap.size]? = some (.cells #[.slice ao p.length cap] 55)) := by show _ = _; rw [hW0, Below.heap_alloc _ _ _ (by simp)]; exact heap_alloc_new w _
  have h1 : Hid (W0.heap[w.heap.size + 1]? = some (.cells #[.nilFunc, .nilFunc, .nilFunc] 54)) := by
    show _ = _; rw [hW0]; have := heap_alloc_new (w.alloc (.cells #[.slice ao p.length cap] 55)) (.cells #[.nilFunc, .nilFunc, .nilFunc] 54); simpa using this
  have hz : Hid (W0.heap.size = w.heap.size + 2) := by show _ = _; rw [hW0]; simp
  have HL : Hid (Below w.heap.size w W0) := by show Below _ _ _; rw [hW0]; exact ((Below.refl _ _).alloc (Nat.le_refl _) _).alloc (by simp) _
  generalize hlen : p.length = n at *
  clear hlen
  go_enter Try.func55, Try.ntmps55
  go_wp2_with fail
  rw [← hW0]
  clear hW0
  refine region_inv (fun f a w' => ∃ B, GInv W0 (.slice ao n cap) (ptrV w.heap.size) (ptrV (w.heap.size + 1)) n f a w' B) (by kernel_rfl) (by kernel_rfl) ?_ ?_ ?_
  · rintro f a v i o ⟨B, hI⟩ ho hfi hdep
    have hc0 : v.cell? ⟨w.heap.size, 0, none⟩ = some (.slice ao n cap) := by
      have hb := (hI.low.block w.heap.size (by have := hz.out; omega)).trans h0.out
      exact (one_cell hb).1
    have hact := hI.act
    have hI' := hidP hI
    clear hI
    subst hact
    match i, ho with
    | 0, ho =>
      clear ho hdep
      refine wpOp_one _ rfl rfl ?_
      go_simp
      exact ⟨B, hI'.out.same 0 (by omega) hI'.out.low (fun _ _ _ _ => rfl) (by simp [tv])⟩
    | 1, ho =>
      injection ho with ho
      subst ho
      have d0 : f 0 = true := hdep { on := 0, ground := .data } (Array.mem_of_getElem? (i := 0) (by rfl)) (by rfl)
      clear hdep
      refine wpOp_one _ rfl rfl ?_
      rw [show tv (f 0) (Value.slice ao n cap) = Value.slice ao n cap by rw [d0]; rfl]
      go_simp
      exact ⟨B, hI'.out.same 1 (by omega) hI'.out.low (fun _ _ _ _ => rfl) (by simp [tv, d0])⟩
    | 2, ho =>
      injection ho with ho
      subst ho
      have d1 : f 1 = true := hdep { on := 1, ground := .data } (Array.mem_of_getElem? (i := 0) (by rfl)) (by rfl)
      clear hdep
      refine wpOp_one _ rfl rfl ?_
      rw [show tv (f 1) (Value.int .i64 n) = Value.int .i64 n by rw [d1]; rfl]
      go_simp
      exact ⟨_, hI'.out.make 2 (by omega) (by omega) hfi (fun _ => by
        rcases h8 : f 8 with _ | _
        · rfl
        · rw [(hI'.out.late h8).1] at hfi; cases hfi) _ (by simp) (by simp [tv, d1])⟩
    | 3, ho =>
      clear ho hdep
      refine wpOp_one _ rfl rfl ?_
      go_simp
      exact ⟨_, hI'.out.make 3 (by omega) (by omega) hfi (fun h => by omega) _ (by simp) (by simp [tv])⟩
    | 4, ho =>
      clear ho hdep
      refine wpOp_one _ rfl rfl ?_
      go_simp
      exact ⟨_, hI'.out.make 4 (by omega) (by omega) hfi (fun h => by omega) _ (by simp) (by simp [tv])⟩
    | 5, ho =>
      clear ho hdep
      refine wpOp_one _ rfl rfl ?_
      go_simp
      exact ⟨_, hI'.out.make 5 (by omega) (by omega) hfi (fun _ => by
        rcases h8 : f 8 with _ | _
        · rfl
        · rw [(hI'.out.late h8).2] at hfi; cases hfi) _ (by simp) (by simp [tv])⟩
    | 6, ho =>
      injection ho with ho
      subst ho
      have d3 : f 3 = true := hdep { on := 3, ground := .data } (Array.mem_of_getElem? (i := 0) (by rfl)) (by rfl)
      clear hdep
      obtain ⟨k1, k2⟩ := hI'.out.has 3 (by omega) (by omega) d3
      simp only [gC] at k1
      have HK := hidP k1
      obtain ⟨q1, q2⟩ := one_cell HK.out
      refine wpOp_one _ rfl rfl ?_
      rw [show tv (f 3) (ptrV (B 3)) = ptrV (B 3) by rw [d3]; rfl]
      clear k1
      go_simp
      exact ⟨B, hI'.out.same 6 (by omega) (hI'.out.low.setCell (p := ⟨B 3, 0, none⟩) k2 _) (fun j _ _ _ => store_same HK.out _) (by simp [tv, d3])⟩
    | 7, ho =>
      injection ho with ho
      subst ho
      have d4 : f 4 = true := hdep { on := 4, ground := .data } (Array.mem_of_getElem? (i := 0) (by rfl)) (by rfl)
      clear hdep
      obtain ⟨k1, k2⟩ := hI'.out.has 4 (by omega) (by omega) d4
      simp only [gC] at k1
      have HK := hidP k1
      obtain ⟨q1, q2⟩ := one_cell HK.out
      refine wpOp_one _ rfl rfl ?_
      rw [show tv (f 4) (ptrV (B 4)) = ptrV (B 4) by rw [d4]; rfl]
      clear k1
      go_simp
      exact ⟨B, hI'.out.same 7 (by omega) (hI'.out.low.setCell (p := ⟨B 4, 0, none⟩) k2 _) (fun j _ _ _ => store_same HK.out _) (by simp [tv, d4])⟩
    | 8, ho =>
      injection ho with ho
      subst ho
      have d2 : f 2 = true := hdep { on := 2, ground := .data } (Array.mem_of_getElem? (i := 1) (by rfl)) (by rfl)
      have d5 : f 5 = true := hdep { on := 5, ground := .data } (Array.mem_of_getElem? (i := 0) (by rfl)) (by rfl)
      clear hdep
      obtain ⟨k1, k2⟩ := hI'.out.has 5 (by omega) (by omega) d5
      simp only [gC] at k1
      have HK := hidP k1
      obtain ⟨q1, q2⟩ := one_cell HK.out
      refine wpOp_one _ rfl rfl ?_
      rw [show tv (f 5) (ptrV (B 5)) = ptrV (B 5) by rw [d5]; rfl, show tv (f 2) (Value.slice (some ⟨B 2, 0, none⟩) n n) = Value.slice (some ⟨B 2, 0, none⟩) n n by rw [d2]; rfl]
      clear k1
      go_simp
      exact ⟨B, hI'.out.fill d2 d5 (by simp [tv, d2, d5])⟩
    | i + 9, ho => simp at ho
  · rintro f a v ⟨B, hI⟩ hall
    have t : ∀ i, i < 9 → f i = true := fun i hi => hall i hi
    have hact := hI.act
    rw [t 0 (by omega), t 1 (by omega), t 2 (by omega), t 3 (by omega), t 4 (by omega), t 5 (by omega)] at hact
    simp only [tv, cond_true] at hact
    subst hact
    have e2 := hI.has 2 (by omega) (by omega) (t 2 (by omega))
    have e3 := hI.has 3 (by omega) (by omega) (t 3 (by omega))
    have e4 := hI.has 4 (by omega) (by omega) (t 4 (by omega))
    have e5 := hI.has 5 (by omega) (by omega) (t 5 (by omega))
    simp [gC, t 8 (by omega)] at e2 e3 e4 e5
    have ap : ∀ i j, 2 ≤ i → i ≤ 5 → 2 ≤ j → j ≤ 5 → i ≠ j → B i ≠ B j := fun i j h1 h2 h3 h4 h5 => hI.apart i j h1 h2 h3 h4 h5 (t i (by omega)) (t j (by omega))
    have hb0 := (hI.low.block w.heap.size (by have := hz.out; omega)).trans h0.out
    have hb1 := (hI.low.block (w.heap.size + 1) (by have := hz.out; omega)).trans h1.out
    have HLV : Hid (Below w.heap.size w v) := HL.out.trans (hI.low.mono HL.out.size)
    have HE : Hid (v.heap[B 2]? = _ ∧ v.heap[B 3]? = _ ∧ v.heap[B 4]? = _ ∧ v.heap[B 5]? = _ ∧ v.heap[w.heap.size]? = _) := ⟨e2.1, e3.1, e4.1, e5.1, hb0⟩
    have HB : Hid (w.heap.size + 2 ≤ B 2 ∧ w.heap.size + 2 ≤ B 3 ∧ w.heap.size + 2 ≤ B 4 ∧ w.heap.size + 2 ≤ B 5) := by have := hz.out; exact ⟨by omega, by omega, by omega, by omega⟩
    have HAP := hidP (And.intro (ap 2 3 (by omega) (by omega) (by omega) (by omega) (by omega)) (And.intro (ap 2 4 (by omega) (by omega) (by omega) (by omega) (by omega)) (And.intro (ap 2 5 (by omega) (by omega) (by omega) (by omega) (by omega)) (And.intro (ap 3 4 (by omega) (by omega) (by omega) (by omega) (by omega)) (And.intro (ap 3 5 (by omega) (by omega) (by omega) (by omega) (by omega)) (ap 4 5 (by omega) (by omega) (by omega) (by omega) (by omega)))))))
    have q0 : v.cell? ⟨w.heap.size + 1, 0, none⟩ = some .nilFunc := by simp [World.cell?, hb1]
    have q1 : v.cell? ⟨w.heap.size + 1, 1, none⟩ = some .nilFunc := by simp [World.cell?, hb1]
    have q2 : v.cell? ⟨w.heap.size + 1, 2, none⟩ = some .nilFunc := by simp [World.cell?, hb1]
    have q3 : v.frozen? ⟨w.heap.size + 1, 0, none⟩ = false := by simp [World.frozen?, hb1]
    have q4 : v.frozen? ⟨w.heap.size + 1, 1, none⟩ = false := by simp [World.frozen?, hb1]
    have q5 : v.frozen? ⟨w.heap.size + 1, 2, none⟩ = false := by simp [World.frozen?, hb1]
    clear e2 e3 e4 e5 ap hb0 hb1 t hall hI HL h0 h1 hz hmk
    generalize B 2 = b2 at *
    generalize B 3 = b3 at *
    generalize B 4 = b4 at *
    generalize B 5 = b5 at *
    simp only [Exit.then, ptrV]
    go_wp2_with fail
    refine bodyPost_ret (v := gatV (w.heap.size, b3, b4, b5)) (by simp [results, Try.results55, go_sem, q0, q1, q2, gatV, addV, cstV, menV, ptrV]) rfl ?_
    have hh : ∀ (v1 v2 v3 : Value) (b : Nat), b ≠ w.heap.size + 1 → (((v.setCell ⟨w.heap.size + 1, 0, none⟩ v1).setCell ⟨w.heap.size + 1, 1, none⟩ v2).setCell ⟨w.heap.size + 1, 2, none⟩ v3).heap[b]? = v.heap[b]? := fun v1 v2 v3 b hb => by
      rw [Below.heap_setCell _ _ _ _ hb, Below.heap_setCell _ _ _ _ hb, Below.heap_setCell _ _ _ _ hb]
    obtain ⟨k2, k3, k4, k5, k0⟩ := HE.out
    obtain ⟨l2, l3, l4, l5⟩ := HB.out
    obtain ⟨n1, n2, n3, n4, n5, n6⟩ := HAP.out
    refine ⟨(w.heap.size, b3, b4, b5), b2, rfl, ⟨(hh _ _ _ _ (by omega)).trans k0, (hh _ _ _ _ (by simp only; omega)).trans k3, (hh _ _ _ _ (by simp only; omega)).trans k4, ?_, (hh _ _ _ _ (by omega)).trans k2⟩, ?_, ?_, ?_⟩
    · rw [List.length_replicate]
      exact (hh _ _ _ _ (by simp only; omega)).trans k5
    · simp [gatL]
      omega
    · intro b hb
      simp [gatL] at hb
      omega
    · exact ((HLV.out.setCell (by simp) _).setCell (by simp) _).setCell (by simp) _
  · exact ⟨fun _ => 0, ⟨rfl, fun i _ _ h => (by cases h), fun i j _ _ _ _ _ h => (by cases h), fun h => (by cases h), (Below.refl _ _).drew⟩⟩

end Go.Proofs.Ythcjkneifkmkdaa
