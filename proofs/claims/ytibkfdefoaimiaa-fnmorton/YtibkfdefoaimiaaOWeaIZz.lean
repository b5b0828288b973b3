/-
  The program's Weave: what the given one answers.
-/
import Derived.Test.YtibkfdefoaimiaaOIterZz
import Derived.Test.YtibkfdefoaimiaaOWeaZz
import Derived.Test.YtibkfdefoaimiaaORgn
namespace Go.Proofs.Ytibkfdefoaimiaa
open Go Go.RowKit Go.Shelf

attribute [local go_sem] Oper.semAt_some

/-- What the rounds of the inner loop leave. -/
def wvL (n k x c : Nat) (pre : List (Fin 10)) : Nat := pre.foldl (fun a i => a ||| bitN x i.1 * 2 ^ (n * i.1 + k)) c
theorem wvL_snoc (n k x c : Nat) (pre : List (Fin 10)) (i : Fin 10) : wvL n k x c (pre ++ [i]) = (wvL n k x c pre ||| bitN x i.1 * 2 ^ (n * i.1 + k)) := by simp [wvL]
theorem wvL_bits (n k x c : Nat) : ∀ j, j ≤ 10 → wvL n k x c (bitsL 10 j) = wIn n k x c j
  | 0, _ => rfl
  | j + 1, h => by rw [bitsL_succ (by omega), wvL_snoc, wIn, wvL_bits n k x c j (by omega)]
theorem wvL_lt {n k x : Nat} (hk : k < n) (pre : List (Fin 10)) : ∀ c, c < 2 ^ (10 * n) → wvL n k x c pre < 2 ^ (10 * n) := by
  induction pre with
  | nil => intro c hc; exact hc
  | cons i pre ih => intro c hc; exact ih _ (Nat.or_lt_two_pow hc (put_lt hk i.2))

set_option maxRecDepth 100000 in
set_option maxHeartbeats 8000000 in
theorem iWeave_in (b off cap : Nat) (p : List Int) (w : World) (hs : Seg w b off p) (hb : b < w.heap.size) (hl : lineB p = true) :
    Calls Try.prog 12 #[.slice (some ⟨b, off, none⟩) p.length cap] w fun e w' => e = .returned (.int .i64 (weaveV p)) ∧ Below w.heap.size w w' := by
  have HL := hidP hl
  have HV := hidP (weaveV_in hl)
  obtain ⟨h1, h4⟩ := keepB_len hl
  have hn : p.length ≤ 1048576 := by omega
  clear hl
  refine (callsIn_wide (n := 5)).1 ?_
  refine callsIn_of_wp_marks Try.func12 rfl trivial ?_ rfl
  simp only [Try.ntmps12, List.size_toArray, List.length_cons, List.length_nil, Nat.reduceAdd, Nat.reduceSub, Array.replicate_succ, Array.replicate_zero, List.push_toArray, List.append_toArray, List.nil_append, List.cons_append]
  gi_wp2_with (refine ⟨trivial, ?_⟩; gi_at_call 39; refine (callsIn_wide.2 (iLine _ cap p _ (Or.inr ⟨b, off, rfl, hb, hs⟩) hn)).mono ?_; rintro e w' ⟨rfl, rfl⟩; rw [HL.out])
  obtain ⟨w2, hw2⟩ : ∃ w2, (w'.alloc (.cells #[.int .i64 0] 2)).alloc (.cells #[.int .i64 (p.length : Int)] 2) = w2 := ⟨_, rfl⟩
  have b0 : Boxed w2 w'.heap.size 2 (.int .i64 0) := by rw [← hw2]; exact (Boxed.new w' 2 _).alloc _
  have b1 : Boxed w2 (w'.heap.size + 1) 2 (.int .i64 (p.length : Int)) := by
    rw [← hw2]; have := Boxed.new (w'.alloc (.cells #[.int .i64 0] 2)) 2 (.int .i64 (p.length : Int)); rw [World.size_alloc] at this; exact this
  have hB2 : Below w'.heap.size w' w2 := by rw [← hw2]; exact ((Below.refl _ w').alloc (Nat.le_refl _) _).alloc (by simp) _
  rw [hw2]
  clear hw2
  refine loop_upTo (fun k a W => ∃ (u5 u6 u7 u8 u17 u18 u19 u20 u21 u22 u23 u24 u25 u26 u27 u28 u29 u30 u31 u32 u33 u34 : Value) (Ds : List Nat),
      a = { tmps := #[.slice (some { block := b, off := off }) p.length cap, undef, .int .i64 0,
          .pointer (some { block := w'.heap.size, off := 0 }), .pointer (some { block := w'.heap.size + 1, off := 0 }), u5, u6, u7, u8,
          .slice (some { block := b, off := off }) p.length cap, .bool true, .bool false,
          .slice (some { block := b, off := off }) p.length cap, .int .i64 (p.length : Int),
          .slice (some { block := b, off := off }) p.length cap, .int .i64 (p.length : Int), .int .i64 (k : Int),
          u17, u18, u19, u20, u21, u22, u23, u24, u25, u26, u27, u28, u29, u30, u31, u32, u33, u34, undef], defers := marksD Ds } ∧
      Boxed W w'.heap.size 2 (.int .i64 (wOut p.length (nats p) k : Int)) ∧ Boxed W (w'.heap.size + 1) 2 (.int .i64 (p.length : Int)) ∧
      Below w'.heap.size w' W ∧ MarksIn w'.heap.size W Ds) p.length ?_ 0 _ _ (Nat.zero_le _) ⟨_, _, _, _, _, _, _, _, _, _, _, _, _, _, _, _, _, _, _, _, _, _, [], rfl, b0, b1, hB2, MarksIn.nil _ _⟩
  rintro k a W hk ⟨u5, u6, u7, u8, u17, u18, u19, u20, u21, u22, u23, u24, u25, u26, u27, u28, u29, u30, u31, u32, u33, u34, Ds, rfl, bc, bn, hB, hD⟩
  clear b0 b1 hB2 w2
  by_cases hlt : k < p.length
  · obtain ⟨c0, hc0⟩ : ∃ c0, wOut p.length (nats p) k = c0 := ⟨_, rfl⟩
    have HC := hidP hc0
    have HCB := hidP (show c0 < 2 ^ (10 * p.length) by rw [← hc0]; exact wOut_lt _ _ _ hk)
    rw [hc0] at bc
    clear hc0
    have hcell := (hs.below hb hB) k hlt
    rw [nats_at HL.out hlt] at hcell
    obtain ⟨x, hx⟩ : ∃ x, nats p k = x := ⟨_, rfl⟩
    have HX := hidP hx
    have hx10 : x < 1024 := by rw [← hx]; exact nats_lt HL.out hlt
    rw [hx] at hcell
    clear hx
    gi_wp2_with (refine ⟨trivial, ?_⟩; gi_at_call 40; refine (callsIn_wide.2 (iBits (x : Int) 10 _)).mono ?_; rintro e w5 ⟨rfl, rfl⟩)
    obtain ⟨w3, hw3⟩ : ∃ w3, ((W.alloc (.cells #[.int .i64 (k : Int)] 3)).alloc (.cells #[.int .i64 (x : Int)] 2)).alloc (.cells #[.int .i64 10] 2) = w3 := ⟨_, rfl⟩
    have hsz : w3.heap.size = W.heap.size + 3 := by rw [← hw3]; simp
    have bc3 : Boxed w3 w'.heap.size 2 (.int .i64 (c0 : Int)) := by rw [← hw3]; exact ((bc.alloc _).alloc _).alloc _
    have bn3 : Boxed w3 (w'.heap.size + 1) 2 (.int .i64 (p.length : Int)) := by rw [← hw3]; exact ((bn.alloc _).alloc _).alloc _
    have bk3 : Boxed w3 W.heap.size 3 (.int .i64 (k : Int)) := by rw [← hw3]; exact ((Boxed.new W 3 _).alloc _).alloc _
    have bx3 : Boxed w3 (W.heap.size + 1) 2 (.int .i64 (x : Int)) := by
      rw [← hw3]; have := Boxed.new (W.alloc (.cells #[.int .i64 (k : Int)] 3)) 2 (.int .i64 (x : Int)); rw [World.size_alloc] at this; exact this.alloc _
    have bm3 : Boxed w3 (W.heap.size + 1 + 1) 2 (.int .i64 ((10 : Nat) : Int)) := by
      rw [← hw3]; have := Boxed.new ((W.alloc (.cells #[.int .i64 (k : Int)] 3)).alloc (.cells #[.int .i64 (x : Int)] 2)) 2 (.int .i64 10); rw [World.size_alloc, World.size_alloc] at this; exact this
    have hB3 : Below w'.heap.size w' w3 := by have := hB.size; rw [← hw3]; exact ((hB.alloc this _).alloc (by simp; omega) _).alloc (by simp; omega) _
    have hD3 : MarksIn w'.heap.size w3 Ds := by rw [← hw3]; exact ((hD.alloc _).alloc _).alloc _
    have hDlt : ∀ D ∈ Ds, D < w3.heap.size := fun D h => by have := hD.lt D h; omega
    have hBs := hB.size
    have bclt := bc.lt
    have bnlt := bn.lt
    rw [hw3]
    clear hw3 bc bn hD hcell
    refine wpIn_rangeFunc_ownG rfl (by decide) (gf := 62) (lb := #[.pointer (some ⟨W.heap.size + 1 + 1, 0, none⟩), .pointer (some ⟨W.heap.size + 1, 0, none⟩)]) rfl trivial (enters_of Try.func62 (by kernel_rfl) rfl)
      (bits_stops Fence.wide (5 - 1) trivial rfl (by decide) (W.heap.size + 1 + 1) (W.heap.size + 1) x 10 (by omega) (by decide) w3 bm3 bx3) (fun h k => k.trans h)
      (fun W l o o' hl h _ _ => (belowK_b (Nat.le_refl _) W l o o' hl h ‹_› ‹_›).block _ (by omega)) (Below.refl _ _) (fun _ => rfl)
      (fun pre V => Boxed V w'.heap.size 2 (.int .i64 (wvL p.length k x c0 pre : Int)) ∧ Boxed V (w'.heap.size + 1) 2 (.int .i64 (p.length : Int)) ∧ Boxed V W.heap.size 3 (.int .i64 (k : Int)) ∧ Boxed V (W.heap.size + 1) 2 (.int .i64 (x : Int)) ∧ Below w'.heap.size w' V ∧ MarksIn w'.heap.size V Ds) (fun _ _ _ => False)
      (OwnFrom.and (Own.from (boxed_own _ 2 (fun pre => .int .i64 (wvL p.length k x c0 pre : Int))) _) (OwnFrom.and (Own.from (boxed_own _ 2 (fun _ => .int .i64 (p.length : Int))) _) (OwnFrom.and (Own.from (boxed_own _ 3 (fun _ => .int .i64 (k : Int))) _) (OwnFrom.and (Own.from (boxed_own _ 2 (fun _ => .int .i64 (x : Int))) _) (OwnFrom.and (ownFrom_below (Nat.le_refl _) (by omega)) (marksIn_own hDlt))))))
      (fun _ _ _ _ _ hs _ _ => hs) ⟨bc3, bn3, bk3, bx3, hB3, hD3⟩
      (fun i => { tmps := #[.slice (some { block := b, off := off }) p.length cap, undef, .int .i64 0,
          .pointer (some { block := w'.heap.size, off := 0 }), .pointer (some { block := w'.heap.size + 1, off := 0 }),
          .pointer (some { block := W.heap.size, off := 0 }), .int .i64 (x : Int), .int .i64 (i.1 : Int), .int .i64 (bitN x i.1 : Int),
          .slice (some { block := b, off := off }) p.length cap, .bool true, .bool false,
          .slice (some { block := b, off := off }) p.length cap, .int .i64 (p.length : Int),
          .slice (some { block := b, off := off }) p.length cap, .int .i64 (p.length : Int), .int .i64 (k : Int), .bool true, .int .i64 (k : Int),
          .pointer (some { block := b, off := off + k }), .int .i64 (x : Int), .int .i64 (x : Int),
          .func (.func 62) #[] #[.pointer (some { block := W.heap.size + 1 + 1, off := 0 }), .pointer (some { block := W.heap.size + 1, off := 0 })],
          .int .i64 (i.1 : Int), .int .i64 (bitN x i.1 : Int), u25, u26, u27, u28, u29, u30, u31, u32, u33, u34, undef], defers := [] }) ?assign ?body ?done ?stop
    case assign =>
      intro l i V K hK
      dsimp only [encB]
      gi_wp2
      exact hK
    case body =>
      rintro l pre i V ⟨c1, c2, c3, c4, hV, hm⟩ _
      have HS := hidP (wvL_snoc p.length k x c0 pre i)
      have hi := i.2
      have e1 := c1.cell
      have f1 := c1.frozen
      have e2 := c2.cell
      have e3 := c3.cell
      obtain ⟨mi, z, m, y, hw1, hw2, hmin, hsh, hor, hz⟩ : ∃ (mi : Int) (z : Int) (m y : Nat), IntKind.i64.wrap ((p.length : Int) * (i.1 : Int)) = mi ∧ IntKind.i64.wrap (mi + (k : Int)) = (m : Int) ∧ min m 64 = m ∧ IntKind.i64.wrap ((bitN x i.1 : Int) * 2 ^ m) = (y : Int) ∧ bits .or .i64 (wvL p.length k x c0 pre : Int) (y : Int) = z ∧ z = (wvL p.length k x c0 (pre ++ [i]) : Int) := by
        have hmul : p.length * i.1 ≤ 40 := Nat.le_trans (Nat.mul_le_mul h4 (Nat.le_of_lt hi)) (by decide)
        have e : (p.length : Int) * (i.1 : Int) = ((p.length * i.1 : Nat) : Int) := by simp
        have hO := or_put (n := p.length) (k := k) (x := x) (c := wvL p.length k x c0 pre) (i := i.1) h4 hlt hi (wvL_lt hlt pre c0 HCB.out)
        have hP := put_i64 (n := p.length) (k := k) (x := x) (i := i.1) h4 hlt hi
        refine ⟨_, _, p.length * i.1 + k, bitN x i.1 * 2 ^ (p.length * i.1 + k), rfl, ?_, ?_, ?_, rfl, ?_⟩
        · have hk4 : k < 4 := by omega
          rw [e]
          generalize p.length * i.1 = q at hmul
          have e2 : IntKind.i64.wrap (q : Int) = (q : Int) := wrap_i64 (by omega) (by omega)
          rw [e2, wrap_i64 (by omega) (by omega)]; omega
        · omega
        · have h9 := forty_le h4 (put_lt (x := x) hlt hi)
          have e9 : ((bitN x i.1 : Nat) : Int) * 2 ^ (p.length * i.1 + k) = ((bitN x i.1 * 2 ^ (p.length * i.1 + k) : Nat) : Int) := by simp
          rw [e9]
          exact wrap_i64 (Int.natCast_nonneg _) (Int.ofNat_lt.2 (Nat.lt_trans h9 (by decide)))
        · rw [hP] at hO
          rw [hO, wvL_snoc]
      have hmix : Try.prog.follows .mixedOrders = true := by kernel_rfl
      have hm0 : ¬ ((m : Int) < 0) := by omega
      clear HS
      gi_wp2
      refine wpIn_region_calm (S := fun V' => V'.cell? ⟨w'.heap.size, 0, none⟩ = some (.int .i64 (wvL p.length k x c0 pre : Int)) ∧ V'.cell? ⟨w'.heap.size + 1, 0, none⟩ = some (.int .i64 (p.length : Int)) ∧ V'.cell? ⟨W.heap.size, 0, none⟩ = some (.int .i64 (k : Int))) (fuel := 0)
        [0, 1, 2, 3, 4, 5, 6, 7, 8] _ rfl (by kernel_rfl) (by kernel_rfl) (by kernel_rfl) (by kernel_rfl) (by kernel_rfl) (by kernel_rfl) (by kernel_rfl) (by kernel_rfl) (by rintro ⟨a, w, h⟩; exact h) ⟨e1, e2, e3⟩ (fun hS => ?_)
      iterate 9
        refine ⟨_, rfl, ?_⟩
        apply Exists.intro
        refine ⟨Or.inl ⟨by rfl, fun w' hw' => ?_⟩, ?_⟩
        · first
          | (go_simp; done)
          | (go_simp; with_reducible rfl)
        simp only [Act.put, List.setIfInBounds_toArray]
      refine wpAnyH_done (by kernel_rfl) ?_ _
      simp only [Exit.then]
      go_wp2_with fail
      refine NoPanic.normal ?_
      refine ⟨((KeepsOthers.setCell _ _ _).trans (KeepsOthers.drew _)).from _, ?_, c1.set _, c2.other (by omega) _, c3.other (by omega) _, c4.other (by omega) _, (hV.setCell (p := ⟨w'.heap.size, 0, none⟩) (Nat.le_refl _) _).drew, hm.box c1 _⟩
      exact (c4.other (by omega) _).trans c4.symm
    case done =>
      rintro D ys V hD' rfl ⟨c1, c2, c3, c4, hV, hm⟩ hK
      gi_wp2
      refine ⟨hlt, _, _, _, _, _, _, _, _, _, _, _, _, _, _, _, _, _, _, _, _, _, _, D :: Ds, rfl, ?_, c2, hV, MarksIn.cons hm hDlt hD' (by omega) hK⟩
      rw [wOut, HC.out, HX.out, ← wvL_bits p.length k x c0 10 (Nat.le_refl _)]
      exact c1
    case stop =>
      rintro D c pre W _ _ h _
      exact h.elim
  · obtain rfl : k = p.length := by omega
    have hc := bc.cell
    gi_wp2
    refine leaves_marks Ds W hB.size hD (fun W' hW' => ⟨_, results_tmp rfl _ _ _, ?_, hB.trans hW'⟩)
    rw [HV.out]; rfl

set_option maxHeartbeats 1000000 in
theorem iWeave (ao : Option Addr) (cap : Nat) (p : List Int) (w : World) (hv : View w ao p) (hn : p.length ≤ 1048576) :
    Calls Try.prog 12 #[.slice ao p.length cap] w fun e w' => e = .returned (.int .i64 (weaveV p)) ∧ Below w.heap.size w w' := by
  rcases hl : lineB p with _ | _
  · have HL := hidP hl
    have HV := hidP (weaveV_out hl)
    clear hl
    go_enter Try.func12, Try.ntmps12
    go_wp2_with (go_at_call 39; refine (iLine ao cap p _ hv hn).mono ?_; rintro e w' ⟨rfl, rfl⟩; rw [HL.out])
    go_ret
    exact ⟨by rw [HV.out]; rfl, Below.refl _ _⟩
  · rcases hv with rfl | ⟨b, off, rfl, hb, hs⟩
    · have := keepB_len hl; simp at this
    · exact iWeave_in b off cap p w hs hb hl
end Go.Proofs.Ytibkfdefoaimiaa
