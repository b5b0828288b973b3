/-
  The given l12All: all threads of any two right marks, in order.
-/
import Derived.Test.YtfbindjacmaeoaaESpec
import Derived.Test.YtfbindjacmaeoaaTree
import Derived.Test.YtfbindjacmaeoaaPut
import Derived.Deep.CutRange
import Derived.Deep.CutBlock
import Derived.Test.YtfbindjacmaeoaaLast2
import Derived.Deep.RegionHeld3
namespace Go.Proofs.Ytfbindjacmaeoaa
open Go Go.RowKit

theorem Try.info41 : (Try.prog.info? 41).map (fun i => (i.zero, i.size, i.bytes)) = some (some (.agg #[.int .i64 0, .int .i64 0, .int .i64 0]), 3, 24) := by kernel_rfl
theorem SrcAt.noneT (w : World) (ao : Option Addr) : SrcAt w 3 ao 0 [] := ⟨by simp, fun u hu => (by cases hu), Or.inl rfl⟩
theorem rowE_succ {i k : Nat} (h : i < k) : rowE i (k + 1) = rowE i k ++ [(i, k)] := by
  unfold rowE
  rw [show k + 1 - (i + 1) = (k - (i + 1)) + 1 by omega, List.range'_concat, List.map_append]
  simp only [Nat.one_mul, List.map_cons, List.map_nil]
  rw [show i + 1 + (k - (i + 1)) = k by omega]
theorem rowE_start (i : Nat) : rowE i (i + 1) = [] := by simp [rowE]
theorem rowE_len (i k : Nat) : (rowE i k).length ≤ k := by simp [rowE]
theorem pairs_len (n i : Nat) : (pairsTo n i).length ≤ i * n := by
  induction i with
  | zero => simp [pairsTo]
  | succ i ih =>
    simp only [pairsTo, List.length_append]
    have := rowE_len i n
    rw [Nat.add_mul]
    omega
def prs (n i k : Nat) : List Eg := pairsTo n i ++ rowE i k
theorem prs_len {n i k : Nat} (hn : n ≤ 60) (hi : i ≤ n) (hk : k ≤ n) : (prs n i k).length ≤ 3660 := by
  have h1 := pairs_len n i
  have h2 := rowE_len i k
  have h3 : i * n ≤ 60 * 60 := Nat.mul_le_mul (by omega) hn
  simp only [prs, List.length_append]
  omega
theorem prs_snoc {n i k : Nat} (h : i < k) : prs n i (k + 1) = prs n i k ++ [(i, k)] := by
  unfold prs
  rw [rowE_succ h, List.append_assoc]
theorem prs_start (n i : Nat) : prs n i (i + 1) = pairsTo n i := by unfold prs; rw [rowE_start, List.append_nil]
theorem prs_end (n i : Nat) : prs n i n = pairsTo n (i + 1) := rfl
/-- Threads of these pairs, in order. -/
def allT (ms : List Mk) (kd : Int) (P : List Eg) : List Th := sortBy thAhead (P.map (thOf ms kd))
theorem allT_snoc (ms : List Mk) (kd : Int) (P : List Eg) (e : Eg) : allT ms kd (P ++ [e]) = insBy thAhead (thOf ms kd e) (allT ms kd P) := by
  unfold allT
  rw [List.map_append, List.map_cons, List.map_nil, sortBy_snoc]
theorem allT_len (ms : List Mk) (kd : Int) (P : List Eg) : (allT ms kd P).length = P.length := by unfold allT; rw [sortBy_length, List.length_map]
theorem ins_map {ms : List Mk} (hm : marksB ms = true) {kd : Int} (hk : kindB kd = true) {S : List Eg} (hS : ∀ e ∈ S, e.1 < ms.length ∧ e.2 < ms.length) {t : Eg} (h1 : t.1 < ms.length) (h2 : t.2 < ms.length) : insBy thAhead (thOf ms kd t) (S.map (thOf ms kd)) = (insE (zD ms kd) S t).map (thOf ms kd) := by
  obtain ⟨p1, p2⟩ := posE_at (zD ms kd) t S
  have e := posBy_uniq thAhead (thOf ms kd t) (S.map (thOf ms kd)) (posE (zD ms kd) t S) (by rw [List.length_map]; exact posE_le _ _ _) (fun i h hi => by
    have hi' : i < S.length := by simpa using h
    have hb := hS _ (List.getElem_mem hi')
    rw [List.getElem_map, thAhead_eq hm hk hb.1 hb.2 h1 h2]
    exact p1 i hi' hi) (fun h => by
    have hi' : posE (zD ms kd) t S < S.length := by simpa using h
    have hb := hS _ (List.getElem_mem hi')
    rw [List.getElem_map, thAhead_eq hm hk hb.1 hb.2 h1 h2]
    exact p2 hi')
  rw [insBy_eq, e]
  unfold insE
  rw [List.map_append, List.map_cons, List.map_take, List.map_drop]
theorem allT_srt {ms : List Mk} (hm : marksB ms = true) {kd : Int} (hk : kindB kd = true) (P : List Eg) (hP : ∀ e ∈ P, e.1 < ms.length ∧ e.2 < ms.length) : allT ms kd P = (srtOf (zD ms kd) P).map (thOf ms kd) ∧ ∀ e ∈ srtOf (zD ms kd) P, e.1 < ms.length ∧ e.2 < ms.length := by
  revert hP
  refine snoc_ind (P := fun P => (∀ e ∈ P, e.1 < ms.length ∧ e.2 < ms.length) → allT ms kd P = (srtOf (zD ms kd) P).map (thOf ms kd) ∧ ∀ e ∈ srtOf (zD ms kd) P, e.1 < ms.length ∧ e.2 < ms.length) (fun _ => ⟨rfl, fun e he => by simp [srtOf] at he⟩) (fun P t ih hP => ?_) P
  obtain ⟨h1, h2⟩ := ih (fun e he => hP e (List.mem_append_left _ he))
  have ht := hP t (by simp)
  have e1 : srtOf (zD ms kd) (P ++ [t]) = insE (zD ms kd) (srtOf (zD ms kd) P) t := by unfold srtOf; rw [List.foldl_append]; rfl
  rw [allT_snoc, h1, e1, ins_map hm hk h2 ht.1 ht.2]
  refine ⟨rfl, fun e he => ?_⟩
  rcases (mem_insE _ _ _ _).1 he with e' | e'
  · rw [e']; exact ht
  · exact h2 e e'
theorem allT_all {ms : List Mk} (hm : marksB ms = true) {kd : Int} (hk : kindB kd = true) : allT ms kd (pairsTo ms.length ms.length) = (srtE (zD ms kd) ms.length).map (thOf ms kd) :=
  (allT_srt hm hk _ (fun e he => by have := (mem_pairs _ _ e).1 he; omega)).1

/-- Two may come up: the one or the other. -/
theorem calm_two12 {P : Program} {md : Region.Mode} {Q : Exit → Act → World → Prop} {ops : Array Oper} {S : World → Prop} {fuel : Nat} {listed : Array Bool} {a : Act} {w : World} {o o' : Oper} (i j : Nat) (hr : Region.ready md ops listed = [i, j]) (ho : ops[i]? = some o) (ho' : ops[j]? = some o')
    (h : ∀ K : Act → World → Prop, Shut (∀ a w, S w → (S w → wpAnyH P md ops Q S fuel (listed.setIfInBounds i true) a w) → K a w) → if Region.wanted o (yielded ops a.tmps) = true then Oper.wp P o a w K Q else K (a.put o.dst undef) w)
    (h' : ∀ K : Act → World → Prop, Shut (∀ a w, S w → (S w → wpAnyH P md ops Q S fuel (listed.setIfInBounds j true) a w) → K a w) → if Region.wanted o' (yielded ops a.tmps) = true then Oper.wp P o' a w K Q else K (a.put o'.dst undef) w) : wpAnyH P md ops Q S (fuel + 1) listed a w :=
  wpAnyH_ready hr (by simp) (AllReadyH.cons ho h (AllReadyH.cons ho' h' AllReadyH.nil))
theorem calm_more12 {P : Program} {Q : Exit → Act → World → Prop} {R : Act → World → Prop} {ops : Array Oper} {S : World → Prop} {listed : Array Bool} {a : Act} {w : World} {n : Nat} (fuel : Nat) (calm : List Nat) (hn : n = fuel + calm.length) (hs : Region.noSelect ops = true) (hc : calmOk .any ops listed calm = true) (hS : S w)
    (h : wpCalm P ops S (fun a' => wpAnyH P .any ops (Exit.then R (NoPanic Q)) S fuel (come listed calm) a' w) calm a) : wpAnyH P .any ops (Exit.then R (NoPanic Q)) S n listed a w := by
  subst hn
  exact calm_takes (P := P) (md := .any) (Q := Exit.then R (NoPanic Q)) (ops := ops) (S := S) (w := w) hs (fun c a d v w h => h) hS calm fuel listed a hc h (fun a' h' => h')
theorem put_litT {base : Nat} (w3 : World) (X : Obj) (hb : base ≤ w3.heap.size) : ((w3.alloc X).alloc (.cells #[] 41)).drew.ownsRow base 41 3 (.slice (some ⟨w3.heap.size + 1, 0, none⟩) 0 0) 0 [] := by
  have := World.ownsRow_lit (base := base) (e := 41) (size := 3) (w3.alloc X) #[] 0 (by simp; omega) (Nat.zero_le _) rfl
  rw [show (w3.alloc X).heap.size = w3.heap.size + 1 by simp] at this
  exact World.ownsRow.drew this
/-- The three cells of a thread in its block. -/
def TS3 (w3 : World) (q : Nat) (d : Th) (w' : World) : Prop := (w'.cell? ⟨q, 0, none⟩ = some (.int .i64 d.1) ∧ w'.cell? ⟨q, 1, none⟩ = some (.int .i64 d.2.1) ∧ w'.cell? ⟨q, 2, none⟩ = some (.int .i64 d.2.2)) ∧ Below w3.heap.size w3 w'
theorem TS3.of {w3 w' : World} {q : Nat} {d : Th} (hq : q < w3.heap.size) (e0 : w3.cell? ⟨q, 0, none⟩ = some (.int .i64 d.1)) (e1 : w3.cell? ⟨q, 1, none⟩ = some (.int .i64 d.2.1)) (e2 : w3.cell? ⟨q, 2, none⟩ = some (.int .i64 d.2.2)) (L : Below w3.heap.size w3 w') : TS3 w3 q d w' :=
  ⟨⟨(L.cell (p := ⟨q, 0, none⟩) hq).trans e0, (L.cell (p := ⟨q, 1, none⟩) hq).trans e1, (L.cell (p := ⟨q, 2, none⟩) hq).trans e2⟩, L⟩

theorem TS3.grown {w3 w' w4 : World} {q n : Nat} {d : Th} (hs : TS3 w3 q d w') (hq : q < w3.heap.size) (hg : w'.grownBy w4 (some n)) (hn : w3.heap.size ≤ n) : TS3 w3 q d w4 := by
  have hz := hs.2.size
  have L : Below w3.heap.size w' w4 := (Below.refl _ _).grown hg (by omega) (by intro k hk; cases hk; exact hn)
  exact ⟨⟨(L.cell (p := ⟨q, 0, none⟩) hq).trans hs.1.1, (L.cell (p := ⟨q, 1, none⟩) hq).trans hs.1.2.1, (L.cell (p := ⟨q, 2, none⟩) hq).trans hs.1.2.2⟩, hs.2.trans L⟩

set_option maxRecDepth 100000 in
set_option maxHeartbeats 4000000 in
theorem sAllT (ao : Option Addr) (cap : Nat) (ms : List Mk) (kd : Int) (w : World) (hv : MView w ao ms) (hsm : MSmall ms) (hn : ms.length ≤ 60) :
    Calls Try.prog 59 #[.slice ao ms.length cap, .int .i64 kd] w fun e w' => ∃ g c, e = .returned (.slice (some ⟨g, 0, none⟩) (allT ms kd (pairsTo ms.length ms.length)).length c) ∧ TRow w.heap.size w' g c (allT ms kd (pairsTo ms.length ms.length)) ∧ Below w.heap.size w w' := by
  obtain ⟨j0, hj0, hy0, hy1, hy2⟩ := info_parts Try.info41
  have HV := hidP hv
  have HAT := hidP hsm.2
  clear hv hsm
  go_enter Try.func59, Try.ntmps59
  go_wp2_with fail
  go_loopw [5, 6] (fun o i wr => ∃ (k m g c : Nat), k ≤ ms.length ∧ i = .int .i64 k ∧ o = .slice (some ⟨g, 0, none⟩) m c ∧ m = (allT ms kd (pairsTo ms.length k)).length ∧ TRow w.heap.size wr g c (allT ms kd (pairsTo ms.length k)) ∧ Below w.heap.size w wr) (fun _ i _ => ms.length - (intOf i).toNat)
  case atStart => exact ⟨0, 0, w.heap.size, 0, Nat.zero_le _, rfl, rfl, rfl, TRow.start w _ (Nat.le_refl _), (Below.refl _ _).alloc (Nat.le_refl _) _⟩
  case round =>
    obtain ⟨a, m, g, c, ha, rfl, rfl, hm, hrow, L⟩ := hrel
    have HR0 := hidP (And.intro hm (And.intro hrow L))
    clear hm hrow L
    by_cases hal : a < ms.length
    · have HPS := hidP (prs_start ms.length a)
      have HPE := hidP (prs_end ms.length a)
      have ha0 : (0 : Int) ≤ (a : Int) := Int.natCast_nonneg _
      have ha1 : (a : Int) < (ms.length : Int) := by omega
      have hwa : IntKind.i64.wrap ((a : Int) + 1) = ((a + 1 : Nat) : Int) := by rw [IntWalk.i64_in _ ⟨by omega, by omega⟩]; omega
      go_wp2_with fail
      go_loopw [5, 7] (fun o i wr => ∃ (k m g c : Nat), a < k ∧ k ≤ ms.length ∧ i = .int .i64 k ∧ o = .slice (some ⟨g, 0, none⟩) m c ∧ m = (allT ms kd (prs ms.length a k)).length ∧ TRow w.heap.size wr g c (allT ms kd (prs ms.length a k)) ∧ Below w.heap.size w wr) (fun _ i _ => ms.length - (intOf i).toNat)
      case atStart => exact ⟨a + 1, m, g, c, by omega, by omega, by first | rfl | (congr 1; omega), rfl, by rw [HPS.out]; exact HR0.out.1, by rw [HPS.out]; exact HR0.out.2.1, HR0.out.2.2⟩
      case round =>
        obtain ⟨k, m', g', c', hak, hk, rfl, rfl, hm, hrow, L⟩ := hrel
        clear HR0
        by_cases hlt : k < ms.length
        · have HNX : Hid (allT ms kd (prs ms.length a (k + 1)) = insBy thAhead (thOf ms kd (a, k)) (allT ms kd (prs ms.length a k))) := by
            show _ = _
            rw [prs_snoc hak, allT_snoc]
          have hml : m' ≤ 3660 := by rw [hm, allT_len]; exact prs_len hn (by omega) hk
          generalize allT ms kd (prs ms.length a k) = es at *
          have HLEN := hidP hm.symm
          clear hm
          have HROW := hidP hrow
          have HL := hidP L
          have hgl := hrow.lt
          obtain ⟨b, off, rfl, hb, hs⟩ := MSeg.seg (HV.out.next L) (by omega)
          obtain ⟨p0, ae, ce, p1, vae⟩ := hs.at hal
          obtain ⟨q0, af, cf, q1, vaf⟩ := hs.at hlt
          have hk0 : (0 : Int) ≤ (k : Int) := Int.natCast_nonneg _
          have hk1 : (k : Int) < (ms.length : Int) := by omega
          have HBT : Hid (∀ W, Below wr.heap.size wr W → Calls Try.prog 65 #[.slice ae (mat ms a).length ce, .slice af (mat ms k).length cf, .int .i64 kd] W fun e w' => e = .returned (.int .i64 (thOf ms kd (a, k)).2.2) ∧ ∃ n, w' = W.drewN n) := fun W LW =>
            sBet ae af ce cf (mat ms a) (mat ms k) kd W (View.next vae LW) (View.next vaf LW) (HAT.out a) (HAT.out k)
          have e1 : (thOf ms kd (a, k)).1 = mid ms a := rfl
          have e2 : (thOf ms kd (a, k)).2.1 = mid ms k := rfl
          rw [← e1] at p0
          rw [← e2] at q0
          clear e1 e2 hrow L hs vae vaf
          generalize thOf ms kd (a, k) = d at *
          obtain ⟨W, hW⟩ : ∃ W, W = wr := ⟨wr, rfl⟩
          subst hW
          go_upto_region 8 with fail
          go_cut [8] from 20 to 77 (fun v wx => v = .pointer (some ⟨W.heap.size, 0, none⟩) ∧ wx.heap[W.heap.size]? = some (.cells #[.int .i64 d.1, .int .i64 d.2.1, .int .i64 d.2.2] 41) ∧ Below W.heap.size W wx)
          case first =>
            have hbS : b < W.heap.size := hb
            have HKS : Hid (∀ w', Below W.heap.size W w' → (w'.cell? ⟨b, off + a * 2, none⟩ = some (.int .i64 d.1) ∧ w'.cell? ⟨b, off + a * 2 + 1, none⟩ = some (.slice ae (mat ms a).length ce) ∧ w'.cell? ⟨b, off + k * 2, none⟩ = some (.int .i64 d.2.1) ∧ w'.cell? ⟨b, off + k * 2 + 1, none⟩ = some (.slice af (mat ms k).length cf))) := fun w' L =>
              ⟨(L.cell (p := ⟨b, off + a * 2, none⟩) hb).trans p0, (L.cell (p := ⟨b, off + a * 2 + 1, none⟩) hb).trans p1, (L.cell (p := ⟨b, off + k * 2, none⟩) hb).trans q0, (L.cell (p := ⟨b, off + k * 2 + 1, none⟩) hb).trans q1⟩
            have hmix : Try.prog.follows .mixedOrders = true := by kernel_rfl
            refine wp_region_calm (S := fun w' => w'.cell? ⟨b, off + a * 2, none⟩ = some (.int .i64 d.1) ∧ w'.cell? ⟨b, off + a * 2 + 1, none⟩ = some (.slice ae (mat ms a).length ce) ∧ w'.cell? ⟨b, off + k * 2, none⟩ = some (.int .i64 d.2.1) ∧ w'.cell? ⟨b, off + k * 2 + 1, none⟩ = some (.slice af (mat ms k).length cf)) (fuel := 3)
              [0, 1, 2, 3, 4, 5, 6, 7, 8, 9, 10, 11, 12, 13, 14, 15, 16, 17, 18, 19, 20] _ rfl (by kernel_rfl) (by kernel_rfl) (by kernel_rfl) (by kernel_rfl) (by kernel_rfl) (by kernel_rfl) (by kernel_rfl) ⟨p0, p1, q0, q1⟩ (fun hS => ?_)
            simp only [List.pop_toArray, List.dropLast]
            iterate 21
              refine ⟨_, rfl, ?_⟩
              apply Exists.intro
              refine ⟨Or.inl ⟨by rfl, fun w' hw' => ?_⟩, ?_⟩
              · first
                | (go_simp; done)
                | (go_simp; with_reducible rfl)
              simp only [Act.put, List.getElem_toArray, List.getElem_cons_succ, List.getElem_cons_zero, List.setIfInBounds_toArray, List.set_cons_zero, List.set_cons_succ]
            refine calm_two12 21 23 (by kernel_rfl) rfl rfl (fun K hK => ?_) (fun K hK => ?_)
            · go_simp
              refine (HBT.out _ (Below.refl _ _).drew).mono ?_
              rintro e w2 ⟨rfl, n2, hw2⟩
              have L2 : Below W.heap.size W w2 := by rw [hw2]; exact below_drewN (Below.refl _ _).drew n2
              have hz2 : w2.heap.size = W.heap.size := by rw [hw2]; rfl
              clear hw2
              refine hK.out _ _ (HKS.out _ L2) (fun _ => ?_)
              clear hK K
              refine calm_more12 1 [22] (by kernel_rfl) (by kernel_rfl) (by kernel_rfl) (HKS.out _ L2) ?_
              refine ⟨_, rfl, ?_⟩
              apply Exists.intro
              refine ⟨Or.inl ⟨by rfl, fun w' hw' => ?_⟩, ?_⟩
              · first
                | (go_simp; done)
                | (go_simp; with_reducible rfl)
              simp only [Act.put, List.getElem_toArray, List.getElem_cons_succ, List.getElem_cons_zero, List.setIfInBounds_toArray, List.set_cons_zero, List.set_cons_succ]
              refine calm_one 23 (by kernel_rfl) rfl (fun K hK => ?_)
              go_simp
              refine hK.out _ _ (HKS.out _ (L2.alloc (by omega) _)) (fun _ => ?_)
              clear hK K
              refine wpAnyH_done (by kernel_rfl) ?_ _
              simp only [Exit.then]
              go_wp2_with fail
              refine NoPanic.normal ?_
              go_wp2_with fail
              go_meet
              exact ⟨rfl, by rw [← hz2]; exact heap_alloc_new w2 _, L2.alloc (by omega) _⟩
            · go_simp
              refine hK.out _ _ (HKS.out _ ((Below.refl _ _).drew.alloc (Nat.le_refl _) _)) (fun _ => ?_)
              clear hK K
              refine calm_one 21 (by kernel_rfl) rfl (fun K hK => ?_)
              go_simp
              refine (HBT.out _ ((Below.refl _ _).drew.alloc (Nat.le_refl _) _)).mono ?_
              rintro e w2 ⟨rfl, n2, hw2⟩
              obtain ⟨W5, h5⟩ : ∃ W5, W5 = W.drew.drewN n2 := ⟨_, rfl⟩
              have hw5 : w2 = W5.alloc (.cells #[.int .i64 0, .int .i64 0, .int .i64 0] 41) := by rw [hw2, h5]; rfl
              have L5 : Below W.heap.size W W5 := by rw [h5]; exact below_drewN (Below.refl _ _).drew n2
              have hz5 : W5.heap.size = W.heap.size := by rw [h5]; rfl
              clear h5 hw2
              subst hw5
              refine hK.out _ _ (HKS.out _ (L5.alloc (by omega) _)) (fun _ => ?_)
              clear hK K
              refine calm_one 22 (by kernel_rfl) rfl (fun K hK => ?_)
              go_simp
              refine hK.out _ _ (HKS.out _ (L5.alloc (by omega) _)) (fun _ => ?_)
              clear hK K
              refine wpAnyH_done (by kernel_rfl) ?_ _
              simp only [Exit.then]
              go_wp2_with fail
              refine NoPanic.normal ?_
              go_wp2_with fail
              go_meet
              exact ⟨rfl, by rw [← hz5]; exact heap_alloc_new W5 _, L5.alloc (by omega) _⟩
          case rest =>
            obtain ⟨rfl, hD, LC⟩ := hcut
            generalize hwc : wc = W2 at *
            clear hwc
            have hzc := LC.size
            have HD := hidP hD
            have HROW2 : Hid (TRow w.heap.size W2 g' c' es) := (HROW.out).below (Nat.le_refl _) LC
            have HL2 : Hid (Below w.heap.size w W2) := HL.out.trans (LC.mono HL.out.size)
            have hdb : W.heap.size < W2.heap.size := by
              rcases Nat.lt_or_ge W.heap.size W2.heap.size with h | h
              · exact h
              · rw [Array.getElem?_eq_none h] at hD; cases hD
            have hgl2 : w.heap.size ≤ g' ∧ g' < W2.heap.size := by omega
            have HDC : Hid (∀ w', Below W2.heap.size W2 w' → w'.cell? ⟨W.heap.size, 0, none⟩ = some (.int .i64 d.1) ∧ w'.cell? ⟨W.heap.size, 1, none⟩ = some (.int .i64 d.2.1) ∧ w'.cell? ⟨W.heap.size, 2, none⟩ = some (.int .i64 d.2.2)) := fun w' L => by
              have hb := (L.block W.heap.size hdb).trans HD.out
              refine ⟨?_, ?_, ?_⟩ <;> · simp only [World.cell?, hb]; rfl
            clear hD LC HROW HL hgl p0 p1 q0 q1 HBT HD
            generalize W.heap.size = q at *
            go_upto_block 4 with fail
            go_cut [9] from 20 to 77 (fun kk wx => ∃ j : Nat, kk = .int .i64 j ∧ j ≤ m' ∧ insBy thAhead d es = es.take j ++ d :: es.drop j ∧ Below W2.heap.size W2 wx)
            case first =>
              have HS0 := hidP ((HROW2.out).seg)
              go_wp2_with fail
              go_loopw [9] (fun kk wq => ∃ j : Nat, j ≤ m' ∧ kk = .int .i64 j ∧ (∀ i (h : i < es.length), i < j → thAhead es[i] d = true) ∧ Below W2.heap.size W2 wq) (fun kk _ => m' - (intOf kk).toNat)
              case atStart => exact ⟨0, Nat.zero_le _, rfl, fun i h1 h2 => by omega, Below.refl _ _⟩
              case round =>
                obtain ⟨j, hj, rfl, hall, hw⟩ := hrel
                have HA := hidP hall
                have HW := hidP hw
                clear hall
                by_cases hjk : j < m'
                · have hjl : j < es.length := by have := HLEN.out; omega
                  obtain ⟨x0, x1, x2⟩ := (HS0.out.below hgl2.2 hw) j hjl
                  obtain ⟨y0, y1, y2⟩ := HDC.out _ hw
                  have HSN := hidP (tnth_get hjl)
                  obtain ⟨x, hx⟩ : ∃ x, x = tnth es j := ⟨_, rfl⟩
                  have HSX := hidP hx.symm
                  rw [← hx] at x0 x1 x2 HSN
                  clear hx
                  have hjn : (j : Int) < (m' : Int) := by omega
                  have hjz : (0 : Int) ≤ (j : Int) := Int.natCast_nonneg _
                  have hjb : decide ((j : Int) < (m' : Int)) = true := by simp [hjk]
                  rw [Nat.zero_add] at x0 x1 x2
                  have HOUT : Hid (thAhead x d = false → insBy thAhead d es = es.take j ++ d :: es.drop j) := fun hf => by
                    have e := posBy_uniq thAhead d es j (by omega) HA.out (fun h => by rw [← HSN.out]; exact hf)
                    have := insBy_eq thAhead d es
                    rw [e] at this
                    exact this
                  have HNXT : Hid (thAhead x d = true → ∀ i (h : i < es.length), i < j + 1 → thAhead es[i] d = true) := fun hf i h1 h2 => by
                    rcases Nat.lt_or_ge i j with h3 | h3
                    · exact HA.out i h1 h3
                    · obtain rfl : i = j := by omega
                      rw [← HSN.out]; exact hf
                  have HAH : Hid (∀ W, Calls Try.prog 93 #[.agg #[.int .i64 x.1, .int .i64 x.2.1, .int .i64 x.2.2], .agg #[.int .i64 d.1, .int .i64 d.2.1, .int .i64 d.2.2]] W fun e w' => e = .returned (.bool (thAhead x d)) ∧ Below W.heap.size W w') := fun W => sTAhead x d W
                  clear HA HSN hw
                  have HSV : Hid (∀ w', Below W2.heap.size W2 w' → w'.cell? ⟨g', j * 3, none⟩ = some (.int .i64 x.1) ∧ w'.cell? ⟨g', j * 3 + 1, none⟩ = some (.int .i64 x.2.1) ∧ w'.cell? ⟨g', j * 3 + 2, none⟩ = some (.int .i64 x.2.2) ∧ w'.cell? ⟨q, 0, none⟩ = some (.int .i64 d.1) ∧ w'.cell? ⟨q, 1, none⟩ = some (.int .i64 d.2.1) ∧ w'.cell? ⟨q, 2, none⟩ = some (.int .i64 d.2.2)) := fun w' L => by
                    obtain ⟨x0, x1, x2⟩ := (HS0.out.below hgl2.2 L) j hjl
                    rw [Nat.zero_add, HSX.out] at x0 x1 x2
                    exact ⟨x0, x1, x2, HDC.out _ L⟩
                  clear HSX
                  generalize hth : thAhead x d = th at *
                  clear hth
                  cases th with
                  | true =>
                    have HT := hidP (HNXT.out rfl)
                    clear HOUT HNXT
                    go_upto_region 10 with fail
                    have hS0 := And.intro x0 (And.intro x1 (And.intro x2 (And.intro y0 (And.intro y1 y2))))
                    refine wp_region_takes (S := fun w' => w'.cell? ⟨g', j * 3, none⟩ = some (.int .i64 x.1) ∧ w'.cell? ⟨g', j * 3 + 1, none⟩ = some (.int .i64 x.2.1) ∧ w'.cell? ⟨g', j * 3 + 2, none⟩ = some (.int .i64 x.2.2) ∧ w'.cell? ⟨q, 0, none⟩ = some (.int .i64 d.1) ∧ w'.cell? ⟨q, 1, none⟩ = some (.int .i64 d.2.1) ∧ w'.cell? ⟨q, 2, none⟩ = some (.int .i64 d.2.2)) (fuel := 2) [0, 1, 2, 3, 4, 5, 6, 7, 8, 9] (by kernel_rfl) (by kernel_rfl) (by kernel_rfl) (by kernel_rfl) hS0 (fun _ => ?_)
                    iterate 10
                      refine ⟨_, rfl, ?_⟩
                      apply Exists.intro
                      refine ⟨Or.inl ⟨by rfl, fun w' hw' => ?_⟩, ?_⟩
                      · first
                        | (go_simp; done)
                        | (go_simp; with_reducible rfl)
                      simp only [Act.put, List.getElem_toArray, List.getElem_cons_succ, List.getElem_cons_zero, List.setIfInBounds_toArray, List.set_cons_zero, List.set_cons_succ]
                    refine calm_one 10 (by kernel_rfl) rfl (fun K hK => ?_)
                    go_simp
                    refine (HAH.out _).mono ?_
                    rintro e w2 ⟨rfl, L3⟩
                    have L4 : Below W2.heap.size W2 w2 := HW.out.drew.trans (L3.mono HW.out.size)
                    refine hK.out _ _ (HSV.out _ L4) (fun _ => ?_)
                    clear hK K
                    refine calm_rest [11] rfl (by kernel_rfl) (by kernel_rfl) (by kernel_rfl) (HSV.out _ L4) ?_
                    refine ⟨_, rfl, ?_⟩
                    apply Exists.intro
                    refine ⟨Or.inl ⟨by rfl, fun w' hw' => ?_⟩, ?_⟩
                    · first
                      | (go_simp; done)
                      | (go_simp; with_reducible rfl)
                    simp only [Act.put, List.getElem_toArray, List.getElem_cons_succ, List.getElem_cons_zero, List.setIfInBounds_toArray, List.set_cons_zero, List.set_cons_succ]
                    refine NoPanic.normal (NoPanic.normal ?_)
                    go_wp2_with fail
                    go_roundw
                    case rel => exact ⟨j + 1, by omega, by go_num, HT.out, L4⟩
                    case measure => simp [intOf]; omega
                  | false =>
                    have HT := hidP (HOUT.out rfl)
                    clear HOUT HNXT
                    go_upto_region 10 with fail
                    have hS0 := And.intro x0 (And.intro x1 (And.intro x2 (And.intro y0 (And.intro y1 y2))))
                    refine wp_region_takes (S := fun w' => w'.cell? ⟨g', j * 3, none⟩ = some (.int .i64 x.1) ∧ w'.cell? ⟨g', j * 3 + 1, none⟩ = some (.int .i64 x.2.1) ∧ w'.cell? ⟨g', j * 3 + 2, none⟩ = some (.int .i64 x.2.2) ∧ w'.cell? ⟨q, 0, none⟩ = some (.int .i64 d.1) ∧ w'.cell? ⟨q, 1, none⟩ = some (.int .i64 d.2.1) ∧ w'.cell? ⟨q, 2, none⟩ = some (.int .i64 d.2.2)) (fuel := 2) [0, 1, 2, 3, 4, 5, 6, 7, 8, 9] (by kernel_rfl) (by kernel_rfl) (by kernel_rfl) (by kernel_rfl) hS0 (fun _ => ?_)
                    iterate 10
                      refine ⟨_, rfl, ?_⟩
                      apply Exists.intro
                      refine ⟨Or.inl ⟨by rfl, fun w' hw' => ?_⟩, ?_⟩
                      · first
                        | (go_simp; done)
                        | (go_simp; with_reducible rfl)
                      simp only [Act.put, List.getElem_toArray, List.getElem_cons_succ, List.getElem_cons_zero, List.setIfInBounds_toArray, List.set_cons_zero, List.set_cons_succ]
                    refine calm_one 10 (by kernel_rfl) rfl (fun K hK => ?_)
                    go_simp
                    refine (HAH.out _).mono ?_
                    rintro e w2 ⟨rfl, L3⟩
                    have L4 : Below W2.heap.size W2 w2 := HW.out.drew.trans (L3.mono HW.out.size)
                    refine hK.out _ _ (HSV.out _ L4) (fun _ => ?_)
                    clear hK K
                    refine calm_rest [11] rfl (by kernel_rfl) (by kernel_rfl) (by kernel_rfl) (HSV.out _ L4) ?_
                    refine ⟨_, rfl, ?_⟩
                    apply Exists.intro
                    refine ⟨Or.inl ⟨by rfl, fun w' hw' => ?_⟩, ?_⟩
                    · first
                      | (go_simp; done)
                      | (go_simp; with_reducible rfl)
                    simp only [Act.put, List.getElem_toArray, List.getElem_cons_succ, List.getElem_cons_zero, List.setIfInBounds_toArray, List.set_cons_zero, List.set_cons_succ]
                    refine NoPanic.normal (NoPanic.normal ?_)
                    go_wp2_with fail
                    go_meet
                    exact ⟨j, rfl, hj, HT.out, L4⟩
                · obtain rfl : j = m' := by omega
                  have HT : Hid (insBy thAhead d es = es.take j ++ d :: es.drop j) := by
                    have e := posBy_uniq thAhead d es j (by have := HLEN.out; omega) HA.out (fun h => by have := HLEN.out; omega)
                    have := insBy_eq thAhead d es
                    rw [e] at this
                    exact this
                  clear HA HS0 hw
                  have hjb : decide ((j : Int) < (j : Int)) = false := by simp
                  go_wp2_with fail
                  go_quiet (fail)
                  go_wp2_with fail
                  go_meet
                  exact ⟨j, rfl, hj, HT.out, below_drewN HW.out _⟩
            case rest =>
              obtain ⟨j, rfl, hjk, hins, LJ⟩ := hcut
              have HINS := hidP hins
              clear hins
              have hzj := LJ.size
              have L1 : Below w.heap.size w wc := HL2.out.trans (LJ.mono HL2.out.size)
              have hrow1 : TRow w.heap.size wc g' c' es := HROW2.out.below (Nat.le_refl _) LJ
              have hDD := HDC.out _ LJ
              have hq1 : q < wc.heap.size := by omega
              clear LJ HL2 HROW2 HDC
              generalize wc = W1 at *
              have hcap := hrow1.cap
              have hlen := HLEN.out
              have hgl := hrow1.lt
              have HS1 := hidP hrow1.seg
              have HL1 := hidP L1
              have HDD := hidP hDD
              have hdl : (es.drop j).length = m' - j := by simp; omega
              have htl : (es.take j).length = j := by simp; omega
              clear hrow1 L1 hDD
              go_upto_region 12 with fail
              go_cut [10] from 20 to 77 (fun r wx => ∃ gr cr, r = .slice (some ⟨gr, 0, none⟩) (m' - j) cr ∧ TRow w.heap.size wx gr cr (es.drop j) ∧ Below W1.heap.size W1 wx)
              case first =>
                have hj0' : (0 : Int) ≤ (j : Int) := Int.natCast_nonneg _
                have hj1 : (j : Int) ≤ (m' : Int) := by omega
                have hj2 : (j : Int) ≤ (c' : Int) := by omega
                have hj3 : (m' : Int) ≤ (c' : Int) := by omega
                have hw1 := HL1.out.size
                have LA : Below W1.heap.size W1 (W1.alloc (.cells #[] 41)) := (Below.refl _ _).alloc (Nat.le_refl _) _
                by_cases hjlt : j < m'
                · have hcj : ¬ c' = 0 := by omega
                  have hcj2 : j < c' := by omega
                  have hcj3 : ¬ c' - j = 0 := by omega
                  have HSRC : Hid (SrcAt (W1.alloc (.cells #[] 41)) 3 (some ⟨g', j * 3, none⟩) (m' - j) (tCells (es.drop j))) := by
                    have hv : TView (W1.alloc (.cells #[] 41)) (some ⟨g', j * 3, none⟩) (es.drop j) := Or.inr ⟨g', j * 3, rfl, by simp; omega, by
                      have := (HS1.out.drop j).below (B := W1.heap.size) (by omega) LA
                      rwa [Nat.zero_add] at this⟩
                    have := hv.src
                    rwa [hdl] at this
                  go_wp2_with (at_builtin; refine wpList_append_at _ rfl (.tmp 63) (.tmp 66) 27 rfl w.heap.size 41 j0 _ 3 24 Try.underlying27 hj0 hy0 hy1 hy2 rfl (by omega) W1.heap.size 0 0 [] rfl (World.ownsRow_lit W1 #[] 0 (by omega) (Nat.zero_le _) rfl) (some ⟨g', j * 3, none⟩) (m' - j) (c' - j) (tCells (es.drop j)) rfl HSRC.out (by unfold maxLen; omega) (by omega) (by simp; omega) (W1.heap.size + 1) (by simp) ?_; intro gr cr w3 hownr hgrowr hatr hltr)
                  have hrest : TRow w.heap.size w3 gr cr (es.drop j) := TRow.of hownr (by omega) (by simp)
                  have L3 : Below W1.heap.size W1 w3 := LA.grown hgrowr (by simp) (by intro q hq; cases hq; exact Nat.le_refl _)
                  have HE := hidP (And.intro hrest L3)
                  clear hownr hgrowr hatr hltr hrest L3 LA HSRC
                  go_meet
                  exact ⟨gr, cr, by first | rfl | rw [Nat.zero_add], HE.out.1, HE.out.2⟩
                · obtain rfl : j = m' := by omega
                  have HE : Hid (TRow w.heap.size (W1.alloc (.cells #[] 41)) W1.heap.size 0 (es.drop j)) := by
                    rw [List.drop_of_length_le (by omega)]
                    exact TRow.start W1 _ hw1
                  have HLA := hidP LA
                  clear LA
                  by_cases hc0 : c' = 0
                  · obtain rfl : j = 0 := by omega
                    subst hc0
                    go_wp2_with fail
                    all_goals
                      go_meet
                      exact ⟨W1.heap.size, 0, rfl, HE.out, HLA.out⟩
                  · by_cases hcj : c' = j
                    · subst hcj
                      go_wp2_with fail
                      all_goals
                        go_meet
                        exact ⟨W1.heap.size, 0, by simp, HE.out, HLA.out⟩
                    · have hcj3 : ¬ c' - j = 0 := by omega
                      go_wp2_with fail
                      all_goals
                        go_meet
                        exact ⟨W1.heap.size, 0, by simp, HE.out, HLA.out⟩
              case rest =>
                obtain ⟨gr, cr, rfl, hrest, L3⟩ := hcut
                generalize hw3 : wc = w3 at *
                clear hw3
                have HR := hidP hrest
                have HL3 := hidP L3
                clear hrest L3
                go_upto_region 13 with fail
                have hz1 := HL1.out.size
                have hz3 := HL3.out.size
                have hq3 : q < w3.heap.size := by omega
                have L13 := hidP (HL1.out.trans (HL3.out.mono hz1))
                have e0 := (HL3.out.cell (p := ⟨q, 0, none⟩) hq1).trans HDD.out.1
                have e1 := (HL3.out.cell (p := ⟨q, 1, none⟩) hq1).trans HDD.out.2.1
                have e2 := (HL3.out.cell (p := ⟨q, 2, none⟩) hq1).trans HDD.out.2.2
                have hg3 : g' < w3.heap.size := by omega
                have HVR : Hid (∀ w', Below w3.heap.size w3 w' → SrcAt w' 3 (some ⟨gr, 0, none⟩) (m' - j) (tCells (es.drop j))) := fun w' L => by
                  have := ((HR.out.view).next L).src
                  rwa [hdl] at this
                have hk1' : (j : Int) ≤ (c' : Int) := by omega
                have hk2 : (j : Int) ≤ (m' : Int) := by omega
                have hk3 : (0 : Int) ≤ (j : Int) := by omega
                have hk4 : j ≤ c' := by omega
                have HEND : Hid (∀ (gC cC : Nat) (wC : World), wC.ownsRow w.heap.size 41 3 (.slice (some ⟨gC, 0, none⟩) (j + 1 + (m' - j)) cC) (j + 1 + (m' - j)) (tCells (es.take j) ++ tCells [d] ++ tCells (es.drop j)) → Below w3.heap.size w3 wC → Value.slice (some ⟨gC, 0, none⟩) (j + 1 + (m' - j)) cC = .slice (some ⟨gC, 0, none⟩) (m' + 1) cC ∧ m' + 1 = (insBy thAhead d es).length ∧ TRow w.heap.size wC gC cC (insBy thAhead d es) ∧ Below w.heap.size w wC) := fun gC cC wC ho L => by
                  have e : j + 1 + (m' - j) = m' + 1 := by omega
                  refine ⟨by rw [e], by rw [insBy_length]; omega, TRow.of ho (by rw [insBy_length]; omega) ?_, L13.out.trans (L.mono (by omega))⟩
                  rw [HINS.out, tCells_append, List.append_assoc]
                  rfl
                have HVT : Hid (∀ w', Below w3.heap.size w3 w' → SrcAt w' 3 (some ⟨g', 0, none⟩) j (tCells (es.take j))) := fun w' L => by
                  have hv : TView w' (some ⟨g', 0, none⟩) (es.take j) := Or.inr ⟨g', 0, rfl, by have := L.size; omega, (((HS1.out.below (by omega) HL3.out).take j).below hg3 L)⟩
                  have := hv.src
                  rwa [htl] at this
                clear HS1 HR HL1 HL3 HDD
                by_cases hk5 : c' = 0
                · subst hk5
                  obtain rfl : j = 0 := by omega
                  obtain rfl : m' = 0 := by omega
                  go_region_held3 (fun w' => (w'.cell? ⟨q, 0, none⟩ = some (.int .i64 d.1) ∧ w'.cell? ⟨q, 1, none⟩ = some (.int .i64 d.2.1) ∧ w'.cell? ⟨q, 2, none⟩ = some (.int .i64 d.2.2)) ∧ Below w3.heap.size w3 w')
                    (first
                      | exact ⟨⟨e0, e1, e2⟩, (Below.refl _ _).drew⟩
                      | exact TS3.grown ⟨⟨f0, f1, f2⟩, LwB⟩ hq3 hgC hBB
                      | exact TS3.of hq3 e0 e1 e2 LwB
                      | exact TS3.of hq3 e0 e1 e2 (LwA.alloc (by omega) _)
                      | exact TS3.of hq3 e0 e1 e2 LwA
                      | exact TS3.of hq3 e0 e1 e2 ((Below.refl _ _).alloc (Nat.le_refl _) _).drew
                      | exact TS3.of hq3 e0 e1 e2 (((Below.refl _ _).alloc (Nat.le_refl _) _).alloc (by simp) _).drew)
                    (first
                      | (refine step_append_at _ (by rfl) (.tmp 68) (.tmp 71) 27 (by rfl) w.heap.size 41 j0 _ 3 24 Try.underlying27 hj0 hy0 hy1 hy2 rfl (by omega) w3.heap.size 0 0 [] (by rfl) (World.ownsRow.drew (World.ownsRow_lit w3 #[] 0 (by omega) (Nat.zero_le _) rfl)) _ 0 0 [] (by rfl) (SrcAt.noneT _ _) (by unfold maxLen; omega) (by omega) (by simp; omega) (w3.heap.size + 1) (by simp) ?_; intro gA cA wA hoA hgA haA hlA;  have LwA : Below w3.heap.size w3 wA := ((Below.refl _ _).alloc (Nat.le_refl _) _).drew.grown hgA (by simp) (by intro q hq; cases hq; exact Nat.le_refl _); have hA : w3.heap.size ≤ gA := (by omega); have hoA2 : wA.ownsRow w.heap.size 41 3 (.slice (some ⟨gA, 0, none⟩) 0 cA) 0 [] := (by simpa using hoA))
                      | (refine step_append_at _ (by rfl) (.tmp 68) (.tmp 71) 27 (by rfl) w.heap.size 41 j0 _ 3 24 Try.underlying27 hj0 hy0 hy1 hy2 rfl (by omega) w3.heap.size 0 0 [] (by rfl) (World.ownsRow.drew (World.ownsRow.alloc (World.ownsRow_lit w3 #[] 0 (by omega) (Nat.zero_le _) rfl) _)) _ 0 0 [] (by rfl) (SrcAt.noneT _ _) (by unfold maxLen; omega) (by omega) (by simp; omega) (w3.heap.size + 1 + 1) (by simp) ?_; intro gA cA wA hoA hgA haA hlA;  have LwA : Below w3.heap.size w3 wA := (((Below.refl _ _).alloc (Nat.le_refl _) _).alloc (by simp) _).drew.grown hgA (by simp; omega) (by intro q hq; cases hq; exact Nat.le_refl _); have hA : w3.heap.size ≤ gA := (by omega); have hoA2 : wA.ownsRow w.heap.size 41 3 (.slice (some ⟨gA, 0, none⟩) 0 cA) 0 [] := (by simpa using hoA); have hX : wA.heap[w3.heap.size + 1]? = some (.cells #[.int .i64 d.1, .int .i64 d.2.1, .int .i64 d.2.2] 41 (0, 0)) := put_two hgA)
                      | (refine step_append_at _ (by rfl) (.tmp 68) (.tmp 71) 27 (by rfl) w.heap.size 41 j0 _ 3 24 Try.underlying27 hj0 hy0 hy1 hy2 rfl (by omega) (w3.heap.size + 1) 0 0 [] (by rfl) (put_litT w3 _ (by omega)) _ 0 0 [] (by rfl) (SrcAt.noneT _ _) (by unfold maxLen; omega) (by omega) (by simp; omega) (w3.heap.size + 1 + 1) (by simp) ?_; intro gA cA wA hoA hgA haA hlA;  have LwA : Below w3.heap.size w3 wA := (((Below.refl _ _).alloc (Nat.le_refl _) _).alloc (by simp) _).drew.grown hgA (by simp; omega) (by intro q hq; cases hq; omega); have hA : w3.heap.size ≤ gA := (by omega); have hoA2 : wA.ownsRow w.heap.size 41 3 (.slice (some ⟨gA, 0, none⟩) 0 cA) 0 [] := (by simpa using hoA); have hX : wA.heap[w3.heap.size]? = some (.cells #[.int .i64 d.1, .int .i64 d.2.1, .int .i64 d.2.2] 41 (0, 0)) := put_one hgA)
                      | (refine step_append_at _ (by rfl) (.tmp 72) (.tmp 74) 27 (by rfl) w.heap.size 41 j0 _ 3 24 Try.underlying27 hj0 hy0 hy1 hy2 rfl (by omega) gA 0 cA [] (by rfl) hoA2 (some ⟨_, 0, none⟩) 1 1 (tCells [d]) (by rfl) (one_srcT hX) (by unfold maxLen; omega) (by omega) (by have := LwA.size; omega) wA.heap.size (by rfl) ?_; intro gB cB wB hoB hgB haB hlB; have LwB : Below w3.heap.size w3 wB := LwA.grown hgB LwA.size (by intro q hq; cases hq; exact hA); have hBB : w3.heap.size ≤ gB := (by have := LwA.size; omega); have hoB2 : wB.ownsRow w.heap.size 41 3 (.slice (some ⟨gB, 0, none⟩) (0 + 1) cB) (0 + 1) ([] ++ tCells [d]) := hoB)
                      | (refine step_append_at _ (by rfl) (.tmp 72) (.tmp 74) 27 (by rfl) w.heap.size 41 j0 _ 3 24 Try.underlying27 hj0 hy0 hy1 hy2 rfl (by omega) gA 0 cA [] (by rfl) (World.ownsRow.alloc hoA2 _) (some ⟨wA.heap.size, 0, none⟩) 1 1 (tCells [d]) (by rfl) (one_srcT (heap_alloc_new wA _)) (by unfold maxLen; omega) (by omega) (by have := LwA.size; simp; omega) (wA.heap.size + 1) (by simp) ?_; intro gB cB wB hoB hgB haB hlB; have LwB : Below w3.heap.size w3 wB := (LwA.alloc LwA.size _).grown hgB (by have := LwA.size; simp; omega) (by intro q hq; cases hq; exact hA); have hBB : w3.heap.size ≤ gB := (by have := LwA.size; omega); have hoB2 : wB.ownsRow w.heap.size 41 3 (.slice (some ⟨gB, 0, none⟩) (0 + 1) cB) (0 + 1) ([] ++ tCells [d]) := hoB)
                      | (refine step_append_at _ (by rfl) (.tmp 75) (.tmp 76) 27 (by rfl) w.heap.size 41 j0 _ 3 24 Try.underlying27 hj0 hy0 hy1 hy2 rfl (by omega) gB (0 + 1) cB ([] ++ tCells [d]) (by rfl) hoB2 (some ⟨gr, 0, none⟩) (0 - 0) cr (tCells (es.drop 0)) (by rfl) (HVR.out _ LwB) (by unfold maxLen; omega) (by omega) (by have := LwB.size; omega) wB.heap.size (by rfl) ?_; intro gC cC wC hoC hgC haC hlC; have f0 := (LwB.cell (p := ⟨q, 0, none⟩) hq3).trans e0; have f1 := (LwB.cell (p := ⟨q, 1, none⟩) hq3).trans e1; have f2 := (LwB.cell (p := ⟨q, 2, none⟩) hq3).trans e2))
                  all_goals
                    have HF := hidP (HEND.out gC cC wC (by first | exact hoC | simpa using hoC) (LwB.grown hgC LwB.size (by intro q hq; cases hq; exact hBB)))
                    clear hoC hgC haC hlC hoB hgB hoA hgA hoB2 hoA2 LwA LwB
                    go_wp2_with fail
                    go_roundw
                    case rel => exact ⟨k + 1, _, gC, cC, by omega, by omega, by go_num, HF.out.1, by rw [HNX.out]; exact HF.out.2.1, by rw [HNX.out]; exact HF.out.2.2.1, HF.out.2.2.2⟩
                    case measure => simp [intOf]; omega
                · skip
                  go_region_held3 (fun w' => (w'.cell? ⟨q, 0, none⟩ = some (.int .i64 d.1) ∧ w'.cell? ⟨q, 1, none⟩ = some (.int .i64 d.2.1) ∧ w'.cell? ⟨q, 2, none⟩ = some (.int .i64 d.2.2)) ∧ Below w3.heap.size w3 w')
                    (first
                      | exact ⟨⟨e0, e1, e2⟩, (Below.refl _ _).drew⟩
                      | exact TS3.grown ⟨⟨f0, f1, f2⟩, LwB⟩ hq3 hgC hBB
                      | exact TS3.of hq3 e0 e1 e2 LwB
                      | exact TS3.of hq3 e0 e1 e2 (LwA.alloc (by omega) _)
                      | exact TS3.of hq3 e0 e1 e2 LwA
                      | exact TS3.of hq3 e0 e1 e2 ((Below.refl _ _).alloc (Nat.le_refl _) _).drew
                      | exact TS3.of hq3 e0 e1 e2 (((Below.refl _ _).alloc (Nat.le_refl _) _).alloc (by simp) _).drew)
                    (first
                      | (refine step_append_at _ (by rfl) (.tmp 68) (.tmp 71) 27 (by rfl) w.heap.size 41 j0 _ 3 24 Try.underlying27 hj0 hy0 hy1 hy2 rfl (by omega) w3.heap.size 0 0 [] (by rfl) (World.ownsRow.drew (World.ownsRow_lit w3 #[] 0 (by omega) (Nat.zero_le _) rfl)) (some ⟨g', 0, none⟩) j c' (tCells (es.take j)) (by rfl) (HVT.out _ ((Below.refl _ _).alloc (Nat.le_refl _) _).drew) (by unfold maxLen; omega) (by omega) (by simp; omega) (w3.heap.size + 1) (by simp) ?_; intro gA cA wA hoA hgA haA hlA; rw [Nat.zero_add]; have LwA : Below w3.heap.size w3 wA := ((Below.refl _ _).alloc (Nat.le_refl _) _).drew.grown hgA (by simp) (by intro q hq; cases hq; exact Nat.le_refl _); have hA : w3.heap.size ≤ gA := (by omega); have hoA2 : wA.ownsRow w.heap.size 41 3 (.slice (some ⟨gA, 0, none⟩) j cA) j (tCells (es.take j)) := (by simpa using hoA))
                      | (refine step_append_at _ (by rfl) (.tmp 68) (.tmp 71) 27 (by rfl) w.heap.size 41 j0 _ 3 24 Try.underlying27 hj0 hy0 hy1 hy2 rfl (by omega) w3.heap.size 0 0 [] (by rfl) (World.ownsRow.drew (World.ownsRow.alloc (World.ownsRow_lit w3 #[] 0 (by omega) (Nat.zero_le _) rfl) _)) (some ⟨g', 0, none⟩) j c' (tCells (es.take j)) (by rfl) (HVT.out _ (((Below.refl _ _).alloc (Nat.le_refl _) _).alloc (by simp) _).drew) (by unfold maxLen; omega) (by omega) (by simp; omega) (w3.heap.size + 1 + 1) (by simp) ?_; intro gA cA wA hoA hgA haA hlA; rw [Nat.zero_add]; have LwA : Below w3.heap.size w3 wA := (((Below.refl _ _).alloc (Nat.le_refl _) _).alloc (by simp) _).drew.grown hgA (by simp; omega) (by intro q hq; cases hq; exact Nat.le_refl _); have hA : w3.heap.size ≤ gA := (by omega); have hoA2 : wA.ownsRow w.heap.size 41 3 (.slice (some ⟨gA, 0, none⟩) j cA) j (tCells (es.take j)) := (by simpa using hoA); have hX : wA.heap[w3.heap.size + 1]? = some (.cells #[.int .i64 d.1, .int .i64 d.2.1, .int .i64 d.2.2] 41 (0, 0)) := put_two hgA)
                      | (refine step_append_at _ (by rfl) (.tmp 68) (.tmp 71) 27 (by rfl) w.heap.size 41 j0 _ 3 24 Try.underlying27 hj0 hy0 hy1 hy2 rfl (by omega) (w3.heap.size + 1) 0 0 [] (by rfl) (put_litT w3 _ (by omega)) (some ⟨g', 0, none⟩) j c' (tCells (es.take j)) (by rfl) (HVT.out _ (((Below.refl _ _).alloc (Nat.le_refl _) _).alloc (by simp) _).drew) (by unfold maxLen; omega) (by omega) (by simp; omega) (w3.heap.size + 1 + 1) (by simp) ?_; intro gA cA wA hoA hgA haA hlA; rw [Nat.zero_add]; have LwA : Below w3.heap.size w3 wA := (((Below.refl _ _).alloc (Nat.le_refl _) _).alloc (by simp) _).drew.grown hgA (by simp; omega) (by intro q hq; cases hq; omega); have hA : w3.heap.size ≤ gA := (by omega); have hoA2 : wA.ownsRow w.heap.size 41 3 (.slice (some ⟨gA, 0, none⟩) j cA) j (tCells (es.take j)) := (by simpa using hoA); have hX : wA.heap[w3.heap.size]? = some (.cells #[.int .i64 d.1, .int .i64 d.2.1, .int .i64 d.2.2] 41 (0, 0)) := put_one hgA)
                      | (refine step_append_at _ (by rfl) (.tmp 72) (.tmp 74) 27 (by rfl) w.heap.size 41 j0 _ 3 24 Try.underlying27 hj0 hy0 hy1 hy2 rfl (by omega) gA j cA (tCells (es.take j)) (by rfl) hoA2 (some ⟨_, 0, none⟩) 1 1 (tCells [d]) (by rfl) (one_srcT hX) (by unfold maxLen; omega) (by omega) (by have := LwA.size; omega) wA.heap.size (by rfl) ?_; intro gB cB wB hoB hgB haB hlB; have LwB : Below w3.heap.size w3 wB := LwA.grown hgB LwA.size (by intro q hq; cases hq; exact hA); have hBB : w3.heap.size ≤ gB := (by have := LwA.size; omega); have hoB2 : wB.ownsRow w.heap.size 41 3 (.slice (some ⟨gB, 0, none⟩) (j + 1) cB) (j + 1) (tCells (es.take j) ++ tCells [d]) := hoB)
                      | (refine step_append_at _ (by rfl) (.tmp 72) (.tmp 74) 27 (by rfl) w.heap.size 41 j0 _ 3 24 Try.underlying27 hj0 hy0 hy1 hy2 rfl (by omega) gA j cA (tCells (es.take j)) (by rfl) (World.ownsRow.alloc hoA2 _) (some ⟨wA.heap.size, 0, none⟩) 1 1 (tCells [d]) (by rfl) (one_srcT (heap_alloc_new wA _)) (by unfold maxLen; omega) (by omega) (by have := LwA.size; simp; omega) (wA.heap.size + 1) (by simp) ?_; intro gB cB wB hoB hgB haB hlB; have LwB : Below w3.heap.size w3 wB := (LwA.alloc LwA.size _).grown hgB (by have := LwA.size; simp; omega) (by intro q hq; cases hq; exact hA); have hBB : w3.heap.size ≤ gB := (by have := LwA.size; omega); have hoB2 : wB.ownsRow w.heap.size 41 3 (.slice (some ⟨gB, 0, none⟩) (j + 1) cB) (j + 1) (tCells (es.take j) ++ tCells [d]) := hoB)
                      | (refine step_append_at _ (by rfl) (.tmp 75) (.tmp 76) 27 (by rfl) w.heap.size 41 j0 _ 3 24 Try.underlying27 hj0 hy0 hy1 hy2 rfl (by omega) gB (j + 1) cB (tCells (es.take j) ++ tCells [d]) (by rfl) hoB2 (some ⟨gr, 0, none⟩) (m' - j) cr (tCells (es.drop j)) (by rfl) (HVR.out _ LwB) (by unfold maxLen; omega) (by omega) (by have := LwB.size; omega) wB.heap.size (by rfl) ?_; intro gC cC wC hoC hgC haC hlC; have f0 := (LwB.cell (p := ⟨q, 0, none⟩) hq3).trans e0; have f1 := (LwB.cell (p := ⟨q, 1, none⟩) hq3).trans e1; have f2 := (LwB.cell (p := ⟨q, 2, none⟩) hq3).trans e2))
                  all_goals
                    have HF := hidP (HEND.out gC cC wC hoC (LwB.grown hgC LwB.size (by intro q hq; cases hq; exact hBB)))
                    clear hoC hgC haC hlC hoB hgB hoA hgA hoB2 hoA2 LwA LwB
                    go_wp2_with fail
                    go_roundw
                    case rel => exact ⟨k + 1, _, gC, cC, by omega, by omega, by go_num, HF.out.1, by rw [HNX.out]; exact HF.out.2.1, by rw [HNX.out]; exact HF.out.2.2.1, HF.out.2.2.2⟩
                    case measure => simp [intOf]; omega
        · obtain rfl : k = ms.length := by omega
          rw [HPE.out] at hm hrow
          have HE := hidP (And.intro hm (And.intro hrow L))
          clear hm hrow L
          go_wp2_with fail
          go_roundw
          case rel => exact ⟨a + 1, m', g', c', by omega, by go_num, rfl, HE.out⟩
          case measure => simp [intOf]; omega
    · obtain rfl : a = ms.length := by omega
      go_wp2_with fail
      go_ret
      exact ⟨g, c, by rw [← HR0.out.1]; rfl, HR0.out.2⟩

end Go.Proofs.Ytfbindjacmaeoaa
