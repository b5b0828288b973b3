/-
  The given l12All: all threads of any two right marks, in order.
  The laws' own helpers over rows of threads: szThreadS, toThreadS (a copy), eqThreadS (are two alike).
  The given Total and Threads answer totV and thrL.
  The given Tied answers tiedB.
-/
import Derived.Test.YtfbindjacmaeoaaESpecZz
import Derived.Test.YtfbindjacmaeoaaMathZz
import Derived.Test.YtfbindjacmaeoaaPutZz
import Derived.Deep.CutRange
import Derived.Deep.CutBlock
import Derived.Test.YtfbindjacmaeoaaLastZz
import Derived.Deep.RegionHeld3
import Derived.Test.YtfbindjacmaeoaaMSizeZz
import Derived.Test.YtfbindjacmaeoaaMCopyZz
namespace Go.Proofs.Ytfbindjacmaeoaa
open Go Go.RowKit

theorem Try.info41 : (Try.prog.info? 41).map (fun i => (i.zero, i.size, i.bytes)) = some (some (.agg #[.int .i64 0, .int .i64 0, .int .i64 0]), 3, 24) := by kernel_rfl
theorem SrcAt.noneT (w : World) (ao : Option Addr) : SrcAt w 3 ao 0 [] := ⟨by simp, fun u hu => (by cases hu), Or.inl rfl⟩
theorem rowE_succ {i k : Nat} (h : i < k) : rowE i (k + 1) = rowE i k ++ [(i, k)] := by
  unfold rowE
  rw [show k + 1 - (i + 1) = (k - (i + 1)) + 1 by omega, List.range'_concat, List.map_append]
  simp only [Nat.one_mul, List.map_cons, List.map_nil]
  rw [show i + 1 + (k - (i + 1)) = k by omega]
theorem rowE_start (i : Nat) : rowE i (i + 1) = [] := by simp [rowE]
theorem rowE_len (i k : Nat) : (rowE i k).length ≤ k := by simp [rowE]
theorem pairs_len (n i : Nat) : (pairsTo n i).length ≤ i * n := by
  induction i with
  | zero => simp [pairsTo]
  | succ i ih =>
    simp only [pairsTo, List.length_append]
    have := rowE_len i n
    rw [Nat.add_mul]
    omega
def prs (n i k : Nat) : List Eg := pairsTo n i ++ rowE i k
theorem prs_len {n i k : Nat} (hn : n ≤ 60) (hi : i ≤ n) (hk : k ≤ n) : (prs n i k).length ≤ 3660 := by
  have h1 := pairs_len n i
  have h2 := rowE_len i k
  have h3 : i * n ≤ 60 * 60 := Nat.mul_le_mul (by omega) hn
  simp only [prs, List.length_append]
  omega
theorem prs_snoc {n i k : Nat} (h : i < k) : prs n i (k + 1) = prs n i k ++ [(i, k)] := by
  unfold prs
  rw [rowE_succ h, List.append_assoc]
theorem prs_start (n i : Nat) : prs n i (i + 1) = pairsTo n i := by unfold prs; rw [rowE_start, List.append_nil]
theorem prs_end (n i : Nat) : prs n i n = pairsTo n (i + 1) := rfl
/-- Threads of these pairs, in order. -/
def allT (ms : List Mk) (kd : Int) (P : List Eg) : List Th := sortBy thAhead (P.map (thOf ms kd))
theorem allT_snoc (ms : List Mk) (kd : Int) (P : List Eg) (e : Eg) : allT ms kd (P ++ [e]) = insBy thAhead (thOf ms kd e) (allT ms kd P) := by
  unfold allT
  rw [List.map_append, List.map_cons, List.map_nil, sortBy_snoc]
theorem allT_len (ms : List Mk) (kd : Int) (P : List Eg) : (allT ms kd P).length = P.length := by unfold allT; rw [sortBy_length, List.length_map]
theorem ins_map {ms : List Mk} (hm : marksB ms = true) {kd : Int} (hk : kindB kd = true) {S : List Eg} (hS : ∀ e ∈ S, e.1 < ms.length ∧ e.2 < ms.length) {t : Eg} (h1 : t.1 < ms.length) (h2 : t.2 < ms.length) : insBy thAhead (thOf ms kd t) (S.map (thOf ms kd)) = (insE (zD ms kd) S t).map (thOf ms kd) := by
  obtain ⟨p1, p2⟩ := posE_at (zD ms kd) t S
  have e := posBy_uniq thAhead (thOf ms kd t) (S.map (thOf ms kd)) (posE (zD ms kd) t S) (by rw [List.length_map]; exact posE_le _ _ _) (fun i h hi => by
    have hi' : i < S.length := by simpa using h
    have hb := hS _ (List.getElem_mem hi')
    rw [List.getElem_map, thAhead_eq hm hk hb.1 hb.2 h1 h2]
    exact p1 i hi' hi) (fun h => by
    have hi' : posE (zD ms kd) t S < S.length := by simpa using h
    have hb := hS _ (List.getElem_mem hi')
    rw [List.getElem_map, thAhead_eq hm hk hb.1 hb.2 h1 h2]
    exact p2 hi')
  rw [insBy_eq, e]
  unfold insE
  rw [List.map_append, List.map_cons, List.map_take, List.map_drop]
theorem allT_srt {ms : List Mk} (hm : marksB ms = true) {kd : Int} (hk : kindB kd = true) (P : List Eg) (hP : ∀ e ∈ P, e.1 < ms.length ∧ e.2 < ms.length) : allT ms kd P = (srtOf (zD ms kd) P).map (thOf ms kd) ∧ ∀ e ∈ srtOf (zD ms kd) P, e.1 < ms.length ∧ e.2 < ms.length := by
  revert hP
  refine snoc_ind (P := fun P => (∀ e ∈ P, e.1 < ms.length ∧ e.2 < ms.length) → allT ms kd P = (srtOf (zD ms kd) P).map (thOf ms kd) ∧ ∀ e ∈ srtOf (zD ms kd) P, e.1 < ms.length ∧ e.2 < ms.length) (fun _ => ⟨rfl, fun e he => by simp [srtOf] at he⟩) (fun P t ih hP => ?_) P
  obtain ⟨h1, h2⟩ := ih (fun e he => hP e (List.mem_append_left _ he))
  have ht := hP t (by simp)
  have e1 : srtOf (zD ms kd) (P ++ [t]) = insE (zD ms kd) (srtOf (zD ms kd) P) t := by unfold srtOf; rw [List.foldl_append]; rfl
  rw [allT_snoc, h1, e1, ins_map hm hk h2 ht.1 ht.2]
  refine ⟨rfl, fun e he => ?_⟩
  rcases (mem_insE _ _ _ _).1 he with e' | e'
  · rw [e']; exact ht
  · exact h2 e e'
theorem allT_all {ms : List Mk} (hm : marksB ms = true) {kd : Int} (hk : kindB kd = true) : allT ms kd (pairsTo ms.length ms.length) = (srtE (zD ms kd) ms.length).map (thOf ms kd) :=
  (allT_srt hm hk _ (fun e he => by have := (mem_pairs _ _ e).1 he; omega)).1

/-- Two may come up: the one or the other. -/
theorem calm_two12 {P : Program} {md : Region.Mode} {Q : Exit → Act → World → Prop} {ops : Array Oper} {S : World → Prop} {fuel : Nat} {listed : Array Bool} {a : Act} {w : World} {o o' : Oper} (i j : Nat) (hr : Region.ready md ops listed = [i, j]) (ho : ops[i]? = some o) (ho' : ops[j]? = some o')
    (h : ∀ K : Act → World → Prop, Shut (∀ a w, S w → (S w → wpAnyH P md ops Q S fuel (listed.setIfInBounds i true) a w) → K a w) → if Region.wanted o (yielded ops a.tmps) = true then Oper.wp P o a w K Q else K (a.put o.dst undef) w)
    (h' : ∀ K : Act → World → Prop, Shut (∀ a w, S w → (S w → wpAnyH P md ops Q S fuel (listed.setIfInBounds j true) a w) → K a w) → if Region.wanted o' (yielded ops a.tmps) = true then Oper.wp P o' a w K Q else K (a.put o'.dst undef) w) : wpAnyH P md ops Q S (fuel + 1) listed a w :=
  wpAnyH_ready hr (by simp) (AllReadyH.cons ho h (AllReadyH.cons ho' h' AllReadyH.nil))
theorem calm_more12 {P : Program} {Q : Exit → Act → World → Prop} {R : Act → World → Prop} {ops : Array Oper} {S : World → Prop} {listed : Array Bool} {a : Act} {w : World} {n : Nat} (fuel : Nat) (calm : List Nat) (hn : n = fuel + calm.length) (hs : Region.noSelect ops = true) (hc : calmOk .any ops listed calm = true) (hS : S w)
    (h : wpCalm P ops S (fun a' => wpAnyH P .any ops (Exit.then R (NoPanic Q)) S fuel (come listed calm) a' w) calm a) : wpAnyH P .any ops (Exit.then R (NoPanic Q)) S n listed a w := by
  subst hn
  exact calm_takes (P := P) (md := .any) (Q := Exit.then R (NoPanic Q)) (ops := ops) (S := S) (w := w) hs (fun c a d v w h => h) hS calm fuel listed a hc h (fun a' h' => h')
theorem put_litT {base : Nat} (w3 : World) (X : Obj) (hb : base ≤ w3.heap.size) : ((w3.alloc X).alloc (.cells #[] 41)).drew.ownsRow base 41 3 (.slice (some ⟨w3.heap.size + 1, 0, none⟩) 0 0) 0 [] := by
  have := World.ownsRow_lit (base := base) (e := 41) (size := 3) (w3.alloc X) #[] 0 (by simp; omega) (Nat.zero_le _) rfl
  rw [show (w3.alloc X).heap.size = w3.heap.size + 1 by simp] at this
  exact World.ownsRow.drew this
/-- The three cells of a thread in its block. -/
def TS3 (w3 : World) (q : Nat) (d : Th) (w' : World) : Prop := (w'.cell? ⟨q, 0, none⟩ = some (.int .i64 d.1) ∧ w'.cell? ⟨q, 1, none⟩ = some (.int .i64 d.2.1) ∧ w'.cell? ⟨q, 2, none⟩ = some (.int .i64 d.2.2)) ∧ Below w3.heap.size w3 w'
theorem TS3.of {w3 w' : World} {q : Nat} {d : Th} (hq : q < w3.heap.size) (e0 : w3.cell? ⟨q, 0, none⟩ = some (.int .i64 d.1)) (e1 : w3.cell? ⟨q, 1, none⟩ = some (.int .i64 d.2.1)) (e2 : w3.cell? ⟨q, 2, none⟩ = some (.int .i64 d.2.2)) (L : Below w3.heap.size w3 w') : TS3 w3 q d w' :=
  ⟨⟨(L.cell (p := ⟨q, 0, none⟩) hq).trans e0, (L.cell (p := ⟨q, 1, none⟩) hq).trans e1, (L.cell (p := ⟨q, 2, none⟩) hq).trans e2⟩, L⟩

theorem TS3.grown {w3 w' w4 : World} {q n : Nat} {d : Th} (hs : TS3 w3 q d w') (hq : q < w3.heap.size) (hg : w'.grownBy w4 (some n)) (hn : w3.heap.size ≤ n) : TS3 w3 q d w4 := by
  have hz := hs.2.size
  have L : Below w3.heap.size w' w4 := (Below.refl _ _).grown hg (by omega) (by intro k hk; cases hk; exact hn)
  exact ⟨⟨(L.cell (p := ⟨q, 0, none⟩) hq).trans hs.1.1, (L.cell (p := ⟨q, 1, none⟩) hq).trans hs.1.2.1, (L.cell (p := ⟨q, 2, none⟩) hq).trans hs.1.2.2⟩, hs.2.trans L⟩

set_option maxRecDepth 100000 in
set_option maxHeartbeats 4000000 in
theorem sAllT (ao : Option Addr) (cap : Nat) (ms : List Mk) (kd : Int) (w : World) (hv : MView w ao ms) (hsm : MSmall ms) (hn : ms.length ≤ 60) :
    Calls Try.prog 59 #[.slice ao ms.length cap, .int .i64 kd] w fun e w' => ∃ g c, e = .returned (.slice (some ⟨g, 0, none⟩) (allT ms kd (pairsTo ms.length ms.length)).length c) ∧ TRow w.heap.size w' g c (allT ms kd (pairsTo ms.length ms.length)) ∧ Below w.heap.size w w' := by
  obtain ⟨j0, hj0, hy0, hy1, hy2⟩ := info_parts Try.info41
  have HV := hidP hv
  have HAT := hidP hsm.2
  clear hv hsm
  go_enter Try.func59, Try.ntmps59
  go_wp2_with fail
  go_loopw [5, 6] (fun o i wr => ∃ (k m g c : Nat), k ≤ ms.length ∧ i = .int .i64 k ∧ o = .slice (some ⟨g, 0, none⟩) m c ∧ m = (allT ms kd (pairsTo ms.length k)).length ∧ TRow w.heap.size wr g c (allT ms kd (pairsTo ms.length k)) ∧ Below w.heap.size w wr) (fun _ i _ => ms.length - (intOf i).toNat)
  case atStart => exact ⟨0, 0, w.heap.size, 0, Nat.zero_le _, rfl, rfl, rfl, TRow.start w _ (Nat.le_refl _), (Below.refl _ _).alloc (Nat.le_refl _) _⟩
  case round =>
    obtain ⟨a, m, g, c, ha, rfl, rfl, hm, hrow, L⟩ := hrel
    have HR0 := hidP (And.intro hm (And.intro hrow L))
    clear hm hrow L
    by_cases hal : a < ms.length
    · have HPS := hidP (prs_start ms.length a)
      have HPE := hidP (prs_end ms.length a)
      have ha0 : (0 : Int) ≤ (a : Int) := Int.natCast_nonneg _
      have ha1 : (a : Int) < (ms.length : Int) := by omega
      have hwa : IntKind.i64.wrap ((a : Int) + 1) = ((a + 1 : Nat) : Int) := by rw [IntWalk.i64_in _ ⟨by omega, by omega⟩]; omega
      go_wp2_with fail
      go_loopw [5, 7] (fun o i wr => ∃ (k m g c : Nat), a < k ∧ k ≤ ms.length ∧ i = .int .i64 k ∧ o = .slice (some ⟨g, 0, none⟩) m c ∧ m = (allT ms kd (prs ms.length a k)).length ∧ TRow w.heap.size wr g c (allT ms kd (prs ms.length a k)) ∧ Below w.heap.size w wr) (fun _ i _ => ms.length - (intOf i).toNat)
      case atStart => exact ⟨a + 1, m, g, c, by omega, by omega, by first | rfl | (congr 1; omega), rfl, by rw [HPS.out]; exact HR0.out.1, by rw [HPS.out]; exact HR0.out.2.1, HR0.out.2.2⟩
      case round =>
        obtain ⟨k, m', g', c', hak, hk, rfl, rfl, hm, hrow, L⟩ := hrel
        clear HR0
        by_cases hlt : k < ms.length
        · have HNX : Hid (allT ms kd (prs ms.length a (k + 1)) = insBy thAhead (thOf ms kd (a, k)) (allT ms kd (prs ms.length a k))) := by
            show _ = _
            rw [prs_snoc hak, allT_snoc]
          have hml : m' ≤ 3660 := by rw [hm, allT_len]; exact prs_len hn (by omega) hk
          generalize allT ms kd (prs ms.length a k) = es at *
          have HLEN := hidP hm.symm
          clear hm
          have HROW := hidP hrow
          have HL := hidP L
          have hgl := hrow.lt
          obtain ⟨b, off, rfl, hb, hs⟩ := MSeg.seg (HV.out.next L) (by omega)
          obtain ⟨p0, ae, ce, p1, vae⟩ := hs.at hal
          obtain ⟨q0, af, cf, q1, vaf⟩ := hs.at hlt
          have hk0 : (0 : Int) ≤ (k : Int) := Int.natCast_nonneg _
          have hk1 : (k : Int) < (ms.length : Int) := by omega
          have HBT : Hid (∀ W, Below wr.heap.size wr W → Calls Try.prog 65 #[.slice ae (mat ms a).length ce, .slice af (mat ms k).length cf, .int .i64 kd] W fun e w' => e = .returned (.int .i64 (thOf ms kd (a, k)).2.2) ∧ ∃ n, w' = W.drewN n) := fun W LW =>
            sBet ae af ce cf (mat ms a) (mat ms k) kd W (View.next vae LW) (View.next vaf LW) (HAT.out a) (HAT.out k)
          have e1 : (thOf ms kd (a, k)).1 = mid ms a := rfl
          have e2 : (thOf ms kd (a, k)).2.1 = mid ms k := rfl
          rw [← e1] at p0
          rw [← e2] at q0
          clear e1 e2 hrow L hs vae vaf
          generalize thOf ms kd (a, k) = d at *
          obtain ⟨W, hW⟩ : ∃ W, W = wr := ⟨wr, rfl⟩
          subst hW
          go_upto_region 8 with fail
          go_cut [8] from 20 to 77 (fun v wx => v = .pointer (some ⟨W.heap.size, 0, none⟩) ∧ wx.heap[W.heap.size]? = some (.cells #[.int .i64 d.1, .int .i64 d.2.1, .int .i64 d.2.2] 41) ∧ Below W.heap.size W wx)
          case first =>
            have hbS : b < W.heap.size := hb
            have HKS : Hid (∀ w', Below W.heap.size W w' → (w'.cell? ⟨b, off + a * 2, none⟩ = some (.int .i64 d.1) ∧ w'.cell? ⟨b, off + a * 2 + 1, none⟩ = some (.slice ae (mat ms a).length ce) ∧ w'.cell? ⟨b, off + k * 2, none⟩ = some (.int .i64 d.2.1) ∧ w'.cell? ⟨b, off + k * 2 + 1, none⟩ = some (.slice af (mat ms k).length cf))) := fun w' L =>
              ⟨(L.cell (p := ⟨b, off + a * 2, none⟩) hb).trans p0, (L.cell (p := ⟨b, off + a * 2 + 1, none⟩) hb).trans p1, (L.cell (p := ⟨b, off + k * 2, none⟩) hb).trans q0, (L.cell (p := ⟨b, off + k * 2 + 1, none⟩) hb).trans q1⟩
            have hmix : Try.prog.follows .mixedOrders = true := by kernel_rfl
            refine wp_region_calm (S := fun w' => w'.cell? ⟨b, off + a * 2, none⟩ = some (.int .i64 d.1) ∧ w'.cell? ⟨b, off + a * 2 + 1, none⟩ = some (.slice ae (mat ms a).length ce) ∧ w'.cell? ⟨b, off + k * 2, none⟩ = some (.int .i64 d.2.1) ∧ w'.cell? ⟨b, off + k * 2 + 1, none⟩ = some (.slice af (mat ms k).length cf)) (fuel := 3)
              [0, 1, 2, 3, 4, 5, 6, 7, 8, 9, 10, 11, 12, 13, 14, 15, 16, 17, 18, 19, 20] _ rfl (by kernel_rfl) (by kernel_rfl) (by kernel_rfl) (by kernel_rfl) (by kernel_rfl) (by kernel_rfl) (by kernel_rfl) ⟨p0, p1, q0, q1⟩ (fun hS => ?_)
            simp only [List.pop_toArray, List.dropLast]
            iterate 21
              refine ⟨_, rfl, ?_⟩
              apply Exists.intro
              refine ⟨Or.inl ⟨by rfl, fun w' hw' => ?_⟩, ?_⟩
              · first
                | (go_simp; done)
                | (go_simp; with_reducible rfl)
              simp only [Act.put, List.getElem_toArray, List.getElem_cons_succ, List.getElem_cons_zero, List.setIfInBounds_toArray, List.set_cons_zero, List.set_cons_succ]
            refine calm_two12 21 23 (by kernel_rfl) rfl rfl (fun K hK => ?_) (fun K hK => ?_)
            · go_simp
              refine (HBT.out _ (Below.refl _ _).drew).mono ?_
              rintro e w2 ⟨rfl, n2, hw2⟩
              have L2 : Below W.heap.size W w2 := by rw [hw2]; exact below_drewN (Below.refl _ _).drew n2
              have hz2 : w2.heap.size = W.heap.size := by rw [hw2]; rfl
              clear hw2
              refine hK.out _ _ (HKS.out _ L2) (fun _ => ?_)
              clear hK K
              refine calm_more12 1 [22] (by kernel_rfl) (by kernel_rfl) (by kernel_rfl) (HKS.out _ L2) ?_
              refine ⟨_, rfl, ?_⟩
              apply Exists.intro
              refine ⟨Or.inl ⟨by rfl, fun w' hw' => ?_⟩, ?_⟩
              · first
                | (go_simp; done)
                | (go_simp; with_reducible rfl)
              simp only [Act.put, List.getElem_toArray, List.getElem_cons_succ, List.getElem_cons_zero, List.setIfInBounds_toArray, List.set_cons_zero, List.set_cons_succ]
              refine calm_one 23 (by kernel_rfl) rfl (fun K hK => ?_)
              go_simp
              refine hK.out _ _ (HKS.out _ (L2.alloc (by omega) _)) (fun _ => ?_)
              clear hK K
              refine wpAnyH_done (by kernel_rfl) ?_ _
              simp only [Exit.then]
              go_wp2_with fail
              refine NoPanic.normal ?_
              go_wp2_with fail
              go_meet
              exact ⟨rfl, by rw [← hz2]; exact heap_alloc_new w2 _, L2.alloc (by omega) _⟩
            · go_simp
              refine hK.out _ _ (HKS.out _ ((Below.refl _ _).drew.alloc (Nat.le_refl _) _)) (fun _ => ?_)
              clear hK K
              refine calm_one 21 (by kernel_rfl) rfl (fun K hK => ?_)
              go_simp
              refine (HBT.out _ ((Below.refl _ _).drew.alloc (Nat.le_refl _) _)).mono ?_
              rintro e w2 ⟨rfl, n2, hw2⟩
              obtain ⟨W5, h5⟩ : ∃ W5, W5 = W.drew.drewN n2 := ⟨_, rfl⟩
              have hw5 : w2 = W5.alloc (.cells #[.int .i64 0, .int .i64 0, .int .i64 0] 41) := by rw [hw2, h5]; rfl
              have L5 : Below W.heap.size W W5 := by rw [h5]; exact below_drewN (Below.refl _ _).drew n2
              have hz5 : W5.heap.size = W.heap.size := by rw [h5]; rfl
              clear h5 hw2
              subst hw5
              refine hK.out _ _ (HKS.out _ (L5.alloc (by omega) _)) (fun _ => ?_)
              clear hK K
              refine calm_one 22 (by kernel_rfl) rfl (fun K hK => ?_)
              go_simp
              refine hK.out _ _ (HKS.out _ (L5.alloc (by omega) _)) (fun _ => ?_)
              clear hK K
              refine wpAnyH_done (by kernel_rfl) ?_ _
              simp only [Exit.then]
              go_wp2_with fail
              refine NoPanic.normal ?_
              go_wp2_with fail
              go_meet
              exact ⟨rfl, by rw [← hz5]; exact heap_alloc_new W5 _, L5.alloc (by omega) _⟩
          case rest =>
            obtain ⟨rfl, hD, LC⟩ := hcut
            generalize hwc : wc = W2 at *
            clear hwc
            have hzc := LC.size
            have HD := hidP hD
            have HROW2 : Hid (TRow w.heap.size W2 g' c' es) := (HROW.out).below (Nat.le_refl _) LC
            have HL2 : Hid (Below w.heap.size w W2) := HL.out.trans (LC.mono HL.out.size)
            have hdb : W.heap.size < W2.heap.size := by
              rcases Nat.lt_or_ge W.heap.size W2.heap.size with h | h
              · exact h
              · rw [Array.getElem?_eq_none h] at hD; cases hD
            have hgl2 : w.heap.size ≤ g' ∧ g' < W2.heap.size := by omega
            have HDC : Hid (∀ w', Below W2.heap.size W2 w' → w'.cell? ⟨W.heap.size, 0, none⟩ = some (.int .i64 d.1) ∧ w'.cell? ⟨W.heap.size, 1, none⟩ = some (.int .i64 d.2.1) ∧ w'.cell? ⟨W.heap.size, 2, none⟩ = some (.int .i64 d.2.2)) := fun w' L => by
              have hb := (L.block W.heap.size hdb).trans HD.out
              refine ⟨?_, ?_, ?_⟩ <;> · simp only [World.cell?, hb]; rfl
            clear hD LC HROW HL hgl p0 p1 q0 q1 HBT HD
            generalize W.heap.size = q at *
            go_upto_block 4 with fail
            go_cut [9] from 20 to 77 (fun kk wx => ∃ j : Nat, kk = .int .i64 j ∧ j ≤ m' ∧ insBy thAhead d es = es.take j ++ d :: es.drop j ∧ Below W2.heap.size W2 wx)
            case first =>
              have HS0 := hidP ((HROW2.out).seg)
              go_wp2_with fail
              go_loopw [9] (fun kk wq => ∃ j : Nat, j ≤ m' ∧ kk = .int .i64 j ∧ (∀ i (h : i < es.length), i < j → thAhead es[i] d = true) ∧ Below W2.heap.size W2 wq) (fun kk _ => m' - (intOf kk).toNat)
              case atStart => exact ⟨0, Nat.zero_le _, rfl, fun i h1 h2 => by omega, Below.refl _ _⟩
              case round =>
                obtain ⟨j, hj, rfl, hall, hw⟩ := hrel
                have HA := hidP hall
                have HW := hidP hw
                clear hall
                by_cases hjk : j < m'
                · have hjl : j < es.length := by have := HLEN.out; omega
                  obtain ⟨x0, x1, x2⟩ := (HS0.out.below hgl2.2 hw) j hjl
                  obtain ⟨y0, y1, y2⟩ := HDC.out _ hw
                  have HSN := hidP (tnth_get hjl)
                  obtain ⟨x, hx⟩ : ∃ x, x = tnth es j := ⟨_, rfl⟩
                  have HSX := hidP hx.symm
                  rw [← hx] at x0 x1 x2 HSN
                  clear hx
                  have hjn : (j : Int) < (m' : Int) := by omega
                  have hjz : (0 : Int) ≤ (j : Int) := Int.natCast_nonneg _
                  have hjb : decide ((j : Int) < (m' : Int)) = true := by simp [hjk]
                  rw [Nat.zero_add] at x0 x1 x2
                  have HOUT : Hid (thAhead x d = false → insBy thAhead d es = es.take j ++ d :: es.drop j) := fun hf => by
                    have e := posBy_uniq thAhead d es j (by omega) HA.out (fun h => by rw [← HSN.out]; exact hf)
                    have := insBy_eq thAhead d es
                    rw [e] at this
                    exact this
                  have HNXT : Hid (thAhead x d = true → ∀ i (h : i < es.length), i < j + 1 → thAhead es[i] d = true) := fun hf i h1 h2 => by
                    rcases Nat.lt_or_ge i j with h3 | h3
                    · exact HA.out i h1 h3
                    · obtain rfl : i = j := by omega
                      rw [← HSN.out]; exact hf
                  have HAH : Hid (∀ W, Calls Try.prog 93 #[.agg #[.int .i64 x.1, .int .i64 x.2.1, .int .i64 x.2.2], .agg #[.int .i64 d.1, .int .i64 d.2.1, .int .i64 d.2.2]] W fun e w' => e = .returned (.bool (thAhead x d)) ∧ Below W.heap.size W w') := fun W => sTAhead x d W
                  clear HA HSN hw
                  have HSV : Hid (∀ w', Below W2.heap.size W2 w' → w'.cell? ⟨g', j * 3, none⟩ = some (.int .i64 x.1) ∧ w'.cell? ⟨g', j * 3 + 1, none⟩ = some (.int .i64 x.2.1) ∧ w'.cell? ⟨g', j * 3 + 2, none⟩ = some (.int .i64 x.2.2) ∧ w'.cell? ⟨q, 0, none⟩ = some (.int .i64 d.1) ∧ w'.cell? ⟨q, 1, none⟩ = some (.int .i64 d.2.1) ∧ w'.cell? ⟨q, 2, none⟩ = some (.int .i64 d.2.2)) := fun w' L => by
                    obtain ⟨x0, x1, x2⟩ := (HS0.out.below hgl2.2 L) j hjl
                    rw [Nat.zero_add, HSX.out] at x0 x1 x2
                    exact ⟨x0, x1, x2, HDC.out _ L⟩
                  clear HSX
                  generalize hth : thAhead x d = th at *
                  clear hth
                  cases th with
                  | true =>
                    have HT := hidP (HNXT.out rfl)
                    clear HOUT HNXT
                    go_upto_region 10 with fail
                    have hS0 := And.intro x0 (And.intro x1 (And.intro x2 (And.intro y0 (And.intro y1 y2))))
                    refine wp_region_takes (S := fun w' => w'.cell? ⟨g', j * 3, none⟩ = some (.int .i64 x.1) ∧ w'.cell? ⟨g', j * 3 + 1, none⟩ = some (.int .i64 x.2.1) ∧ w'.cell? ⟨g', j * 3 + 2, none⟩ = some (.int .i64 x.2.2) ∧ w'.cell? ⟨q, 0, none⟩ = some (.int .i64 d.1) ∧ w'.cell? ⟨q, 1, none⟩ = some (.int .i64 d.2.1) ∧ w'.cell? ⟨q, 2, none⟩ = some (.int .i64 d.2.2)) (fuel := 2) [0, 1, 2, 3, 4, 5, 6, 7, 8, 9] (by kernel_rfl) (by kernel_rfl) (by kernel_rfl) (by kernel_rfl) hS0 (fun _ => ?_)
                    iterate 10
                      refine ⟨_, rfl, ?_⟩
                      apply Exists.intro
                      refine ⟨Or.inl ⟨by rfl, fun w' hw' => ?_⟩, ?_⟩
                      · first
                        | (go_simp; done)
                        | (go_simp; with_reducible rfl)
                      simp only [Act.put, List.getElem_toArray, List.getElem_cons_succ, List.getElem_cons_zero, List.setIfInBounds_toArray, List.set_cons_zero, List.set_cons_succ]
                    refine calm_one 10 (by kernel_rfl) rfl (fun K hK => ?_)
                    go_simp
                    refine (HAH.out _).mono ?_
                    rintro e w2 ⟨rfl, L3⟩
                    have L4 : Below W2.heap.size W2 w2 := HW.out.drew.trans (L3.mono HW.out.size)
                    refine hK.out _ _ (HSV.out _ L4) (fun _ => ?_)
                    clear hK K
                    refine calm_rest [11] rfl (by kernel_rfl) (by kernel_rfl) (by kernel_rfl) (HSV.out _ L4) ?_
                    refine ⟨_, rfl, ?_⟩
                    apply Exists.intro
                    refine ⟨Or.inl ⟨by rfl, fun w' hw' => ?_⟩, ?_⟩
                    · first
                      | (go_simp; done)
                      | (go_simp; with_reducible rfl)
                    simp only [Act.put, List.getElem_toArray, List.getElem_cons_succ, List.getElem_cons_zero, List.setIfInBounds_toArray, List.set_cons_zero, List.set_cons_succ]
                    refine NoPanic.normal (NoPanic.normal ?_)
                    go_wp2_with fail
                    go_roundw
                    case rel => exact ⟨j + 1, by omega, by go_num, HT.out, L4⟩
                    case measure => simp [intOf]; omega
                  | false =>
                    have HT := hidP (HOUT.out rfl)
                    clear HOUT HNXT
                    go_upto_region 10 with fail
                    have hS0 := And.intro x0 (And.intro x1 (And.intro x2 (And.intro y0 (And.intro y1 y2))))
                    refine wp_region_takes (S := fun w' => w'.cell? ⟨g', j * 3, none⟩ = some (.int .i64 x.1) ∧ w'.cell? ⟨g', j * 3 + 1, none⟩ = some (.int .i64 x.2.1) ∧ w'.cell? ⟨g', j * 3 + 2, none⟩ = some (.int .i64 x.2.2) ∧ w'.cell? ⟨q, 0, none⟩ = some (.int .i64 d.1) ∧ w'.cell? ⟨q, 1, none⟩ = some (.int .i64 d.2.1) ∧ w'.cell? ⟨q, 2, none⟩ = some (.int .i64 d.2.2)) (fuel := 2) [0, 1, 2, 3, 4, 5, 6, 7, 8, 9] (by kernel_rfl) (by kernel_rfl) (by kernel_rfl) (by kernel_rfl) hS0 (fun _ => ?_)
                    iterate 10
                      refine ⟨_, rfl, ?_⟩
                      apply Exists.intro
                      refine ⟨Or.inl ⟨by rfl, fun w' hw' => ?_⟩, ?_⟩
                      · first
                        | (go_simp; done)
                        | (go_simp; with_reducible rfl)
                      simp only [Act.put, List.getElem_toArray, List.getElem_cons_succ, List.getElem_cons_zero, List.setIfInBounds_toArray, List.set_cons_zero, List.set_cons_succ]
                    refine calm_one 10 (by kernel_rfl) rfl (fun K hK => ?_)
                    go_simp
                    refine (HAH.out _).mono ?_
                    rintro e w2 ⟨rfl, L3⟩
                    have L4 : Below W2.heap.size W2 w2 := HW.out.drew.trans (L3.mono HW.out.size)
                    refine hK.out _ _ (HSV.out _ L4) (fun _ => ?_)
                    clear hK K
                    refine calm_rest [11] rfl (by kernel_rfl) (by kernel_rfl) (by kernel_rfl) (HSV.out _ L4) ?_
                    refine ⟨_, rfl, ?_⟩
                    apply Exists.intro
                    refine ⟨Or.inl ⟨by rfl, fun w' hw' => ?_⟩, ?_⟩
                    · first
                      | (go_simp; done)
                      | (go_simp; with_reducible rfl)
                    simp only [Act.put, List.getElem_toArray, List.getElem_cons_succ, List.getElem_cons_zero, List.setIfInBounds_toArray, List.set_cons_zero, List.set_cons_succ]
                    refine NoPanic.normal (NoPanic.normal ?_)
                    go_wp2_with fail
                    go_meet
                    exact ⟨j, rfl, hj, HT.out, L4⟩
                · obtain rfl : j = m' := by omega
                  have HT : Hid (insBy thAhead d es = es.take j ++ d :: es.drop j) := by
                    have e := posBy_uniq thAhead d es j (by have := HLEN.out; omega) HA.out (fun h => by have := HLEN.out; omega)
                    have := insBy_eq thAhead d es
                    rw [e] at this
                    exact this
                  clear HA HS0 hw
                  have hjb : decide ((j : Int) < (j : Int)) = false := by simp
                  go_wp2_with fail
                  go_quiet (fail)
                  go_wp2_with fail
                  go_meet
                  exact ⟨j, rfl, hj, HT.out, below_drewN HW.out _⟩
            case rest =>
              obtain ⟨j, rfl, hjk, hins, LJ⟩ := hcut
              have HINS := hidP hins
              clear hins
              have hzj := LJ.size
              have L1 : Below w.heap.size w wc := HL2.out.trans (LJ.mono HL2.out.size)
              have hrow1 : TRow w.heap.size wc g' c' es := HROW2.out.below (Nat.le_refl _) LJ
              have hDD := HDC.out _ LJ
              have hq1 : q < wc.heap.size := by omega
              clear LJ HL2 HROW2 HDC
              generalize wc = W1 at *
              have hcap := hrow1.cap
              have hlen := HLEN.out
              have hgl := hrow1.lt
              have HS1 := hidP hrow1.seg
              have HL1 := hidP L1
              have HDD := hidP hDD
              have hdl : (es.drop j).length = m' - j := by simp; omega
              have htl : (es.take j).length = j := by simp; omega
              clear hrow1 L1 hDD
              go_upto_region 12 with fail
              go_cut [10] from 20 to 77 (fun r wx => ∃ gr cr, r = .slice (some ⟨gr, 0, none⟩) (m' - j) cr ∧ TRow w.heap.size wx gr cr (es.drop j) ∧ Below W1.heap.size W1 wx)
              case first =>
                have hj0' : (0 : Int) ≤ (j : Int) := Int.natCast_nonneg _
                have hj1 : (j : Int) ≤ (m' : Int) := by omega
                have hj2 : (j : Int) ≤ (c' : Int) := by omega
                have hj3 : (m' : Int) ≤ (c' : Int) := by omega
                have hw1 := HL1.out.size
                have LA : Below W1.heap.size W1 (W1.alloc (.cells #[] 41)) := (Below.refl _ _).alloc (Nat.le_refl _) _
                by_cases hjlt : j < m'
                · have hcj : ¬ c' = 0 := by omega
                  have hcj2 : j < c' := by omega
                  have hcj3 : ¬ c' - j = 0 := by omega
                  have HSRC : Hid (SrcAt (W1.alloc (.cells #[] 41)) 3 (some ⟨g', j * 3, none⟩) (m' - j) (tCells (es.drop j))) := by
                    have hv : TView (W1.alloc (.cells #[] 41)) (some ⟨g', j * 3, none⟩) (es.drop j) := Or.inr ⟨g', j * 3, rfl, by simp; omega, by
                      have := (HS1.out.drop j).below (B := W1.heap.size) (by omega) LA
                      rwa [Nat.zero_add] at this⟩
                    have := hv.src
                    rwa [hdl] at this
                  go_wp2_with (at_builtin; refine wpList_append_at _ rfl (.tmp 63) (.tmp 66) 27 rfl w.heap.size 41 j0 _ 3 24 Try.underlying27 hj0 hy0 hy1 hy2 rfl (by omega) W1.heap.size 0 0 [] rfl (World.ownsRow_lit W1 #[] 0 (by omega) (Nat.zero_le _) rfl) (some ⟨g', j * 3, none⟩) (m' - j) (c' - j) (tCells (es.drop j)) rfl HSRC.out (by unfold maxLen; omega) (by omega) (by simp; omega) (W1.heap.size + 1) (by simp) ?_; intro gr cr w3 hownr hgrowr hatr hltr)
                  have hrest : TRow w.heap.size w3 gr cr (es.drop j) := TRow.of hownr (by omega) (by simp)
                  have L3 : Below W1.heap.size W1 w3 := LA.grown hgrowr (by simp) (by intro q hq; cases hq; exact Nat.le_refl _)
                  have HE := hidP (And.intro hrest L3)
                  clear hownr hgrowr hatr hltr hrest L3 LA HSRC
                  go_meet
                  exact ⟨gr, cr, by first | rfl | rw [Nat.zero_add], HE.out.1, HE.out.2⟩
                · obtain rfl : j = m' := by omega
                  have HE : Hid (TRow w.heap.size (W1.alloc (.cells #[] 41)) W1.heap.size 0 (es.drop j)) := by
                    rw [List.drop_of_length_le (by omega)]
                    exact TRow.start W1 _ hw1
                  have HLA := hidP LA
                  clear LA
                  by_cases hc0 : c' = 0
                  · obtain rfl : j = 0 := by omega
                    subst hc0
                    go_wp2_with fail
                    all_goals
                      go_meet
                      exact ⟨W1.heap.size, 0, rfl, HE.out, HLA.out⟩
                  · by_cases hcj : c' = j
                    · subst hcj
                      go_wp2_with fail
                      all_goals
                        go_meet
                        exact ⟨W1.heap.size, 0, by simp, HE.out, HLA.out⟩
                    · have hcj3 : ¬ c' - j = 0 := by omega
                      go_wp2_with fail
                      all_goals
                        go_meet
                        exact ⟨W1.heap.size, 0, by simp, HE.out, HLA.out⟩
              case rest =>
                obtain ⟨gr, cr, rfl, hrest, L3⟩ := hcut
                generalize hw3 : wc = w3 at *
                clear hw3
                have HR := hidP hrest
                have HL3 := hidP L3
                clear hrest L3
                go_upto_region 13 with fail
                have hz1 := HL1.out.size
                have hz3 := HL3.out.size
                have hq3 : q < w3.heap.size := by omega
                have L13 := hidP (HL1.out.trans (HL3.out.mono hz1))
                have e0 := (HL3.out.cell (p := ⟨q, 0, none⟩) hq1).trans HDD.out.1
                have e1 := (HL3.out.cell (p := ⟨q, 1, none⟩) hq1).trans HDD.out.2.1
                have e2 := (HL3.out.cell (p := ⟨q, 2, none⟩) hq1).trans HDD.out.2.2
                have hg3 : g' < w3.heap.size := by omega
                have HVR : Hid (∀ w', Below w3.heap.size w3 w' → SrcAt w' 3 (some ⟨gr, 0, none⟩) (m' - j) (tCells (es.drop j))) := fun w' L => by
                  have := ((HR.out.view).next L).src
                  rwa [hdl] at this
                have hk1' : (j : Int) ≤ (c' : Int) := by omega
                have hk2 : (j : Int) ≤ (m' : Int) := by omega
                have hk3 : (0 : Int) ≤ (j : Int) := by omega
                have hk4 : j ≤ c' := by omega
                have HEND : Hid (∀ (gC cC : Nat) (wC : World), wC.ownsRow w.heap.size 41 3 (.slice (some ⟨gC, 0, none⟩) (j + 1 + (m' - j)) cC) (j + 1 + (m' - j)) (tCells (es.take j) ++ tCells [d] ++ tCells (es.drop j)) → Below w3.heap.size w3 wC → Value.slice (some ⟨gC, 0, none⟩) (j + 1 + (m' - j)) cC = .slice (some ⟨gC, 0, none⟩) (m' + 1) cC ∧ m' + 1 = (insBy thAhead d es).length ∧ TRow w.heap.size wC gC cC (insBy thAhead d es) ∧ Below w.heap.size w wC) := fun gC cC wC ho L => by
                  have e : j + 1 + (m' - j) = m' + 1 := by omega
                  refine ⟨by rw [e], by rw [insBy_length]; omega, TRow.of ho (by rw [insBy_length]; omega) ?_, L13.out.trans (L.mono (by omega))⟩
                  rw [HINS.out, tCells_append, List.append_assoc]
                  rfl
                have HVT : Hid (∀ w', Below w3.heap.size w3 w' → SrcAt w' 3 (some ⟨g', 0, none⟩) j (tCells (es.take j))) := fun w' L => by
                  have hv : TView w' (some ⟨g', 0, none⟩) (es.take j) := Or.inr ⟨g', 0, rfl, by have := L.size; omega, (((HS1.out.below (by omega) HL3.out).take j).below hg3 L)⟩
                  have := hv.src
                  rwa [htl] at this
                clear HS1 HR HL1 HL3 HDD
                by_cases hk5 : c' = 0
                · subst hk5
                  obtain rfl : j = 0 := by omega
                  obtain rfl : m' = 0 := by omega
                  go_region_held3 (fun w' => (w'.cell? ⟨q, 0, none⟩ = some (.int .i64 d.1) ∧ w'.cell? ⟨q, 1, none⟩ = some (.int .i64 d.2.1) ∧ w'.cell? ⟨q, 2, none⟩ = some (.int .i64 d.2.2)) ∧ Below w3.heap.size w3 w')
                    (first
                      | exact ⟨⟨e0, e1, e2⟩, (Below.refl _ _).drew⟩
                      | exact TS3.grown ⟨⟨f0, f1, f2⟩, LwB⟩ hq3 hgC hBB
                      | exact TS3.of hq3 e0 e1 e2 LwB
                      | exact TS3.of hq3 e0 e1 e2 (LwA.alloc (by omega) _)
                      | exact TS3.of hq3 e0 e1 e2 LwA
                      | exact TS3.of hq3 e0 e1 e2 ((Below.refl _ _).alloc (Nat.le_refl _) _).drew
                      | exact TS3.of hq3 e0 e1 e2 (((Below.refl _ _).alloc (Nat.le_refl _) _).alloc (by simp) _).drew)
                    (first
                      | (refine step_append_at _ (by rfl) (.tmp 68) (.tmp 71) 27 (by rfl) w.heap.size 41 j0 _ 3 24 Try.underlying27 hj0 hy0 hy1 hy2 rfl (by omega) w3.heap.size 0 0 [] (by rfl) (World.ownsRow.drew (World.ownsRow_lit w3 #[] 0 (by omega) (Nat.zero_le _) rfl)) _ 0 0 [] (by rfl) (SrcAt.noneT _ _) (by unfold maxLen; omega) (by omega) (by simp; omega) (w3.heap.size + 1) (by simp) ?_; intro gA cA wA hoA hgA haA hlA;  have LwA : Below w3.heap.size w3 wA := ((Below.refl _ _).alloc (Nat.le_refl _) _).drew.grown hgA (by simp) (by intro q hq; cases hq; exact Nat.le_refl _); have hA : w3.heap.size ≤ gA := (by omega); have hoA2 : wA.ownsRow w.heap.size 41 3 (.slice (some ⟨gA, 0, none⟩) 0 cA) 0 [] := (by simpa using hoA))
                      | (refine step_append_at _ (by rfl) (.tmp 68) (.tmp 71) 27 (by rfl) w.heap.size 41 j0 _ 3 24 Try.underlying27 hj0 hy0 hy1 hy2 rfl (by omega) w3.heap.size 0 0 [] (by rfl) (World.ownsRow.drew (World.ownsRow.alloc (World.ownsRow_lit w3 #[] 0 (by omega) (Nat.zero_le _) rfl) _)) _ 0 0 [] (by rfl) (SrcAt.noneT _ _) (by unfold maxLen; omega) (by omega) (by simp; omega) (w3.heap.size + 1 + 1) (by simp) ?_; intro gA cA wA hoA hgA haA hlA;  have LwA : Below w3.heap.size w3 wA := (((Below.refl _ _).alloc (Nat.le_refl _) _).alloc (by simp) _).drew.grown hgA (by simp; omega) (by intro q hq; cases hq; exact Nat.le_refl _); have hA : w3.heap.size ≤ gA := (by omega); have hoA2 : wA.ownsRow w.heap.size 41 3 (.slice (some ⟨gA, 0, none⟩) 0 cA) 0 [] := (by simpa using hoA); have hX : wA.heap[w3.heap.size + 1]? = some (.cells #[.int .i64 d.1, .int .i64 d.2.1, .int .i64 d.2.2] 41 (0, 0)) := put_two hgA)
                      | (refine step_append_at _ (by rfl) (.tmp 68) (.tmp 71) 27 (by rfl) w.heap.size 41 j0 _ 3 24 Try.underlying27 hj0 hy0 hy1 hy2 rfl (by omega) (w3.heap.size + 1) 0 0 [] (by rfl) (put_litT w3 _ (by omega)) _ 0 0 [] (by rfl) (SrcAt.noneT _ _) (by unfold maxLen; omega) (by omega) (by simp; omega) (w3.heap.size + 1 + 1) (by simp) ?_; intro gA cA wA hoA hgA haA hlA;  have LwA : Below w3.heap.size w3 wA := (((Below.refl _ _).alloc (Nat.le_refl _) _).alloc (by simp) _).drew.grown hgA (by simp; omega) (by intro q hq; cases hq; omega); have hA : w3.heap.size ≤ gA := (by omega); have hoA2 : wA.ownsRow w.heap.size 41 3 (.slice (some ⟨gA, 0, none⟩) 0 cA) 0 [] := (by simpa using hoA); have hX : wA.heap[w3.heap.size]? = some (.cells #[.int .i64 d.1, .int .i64 d.2.1, .int .i64 d.2.2] 41 (0, 0)) := put_one hgA)
                      | (refine step_append_at _ (by rfl) (.tmp 72) (.tmp 74) 27 (by rfl) w.heap.size 41 j0 _ 3 24 Try.underlying27 hj0 hy0 hy1 hy2 rfl (by omega) gA 0 cA [] (by rfl) hoA2 (some ⟨_, 0, none⟩) 1 1 (tCells [d]) (by rfl) (one_srcT hX) (by unfold maxLen; omega) (by omega) (by have := LwA.size; omega) wA.heap.size (by rfl) ?_; intro gB cB wB hoB hgB haB hlB; have LwB : Below w3.heap.size w3 wB := LwA.grown hgB LwA.size (by intro q hq; cases hq; exact hA); have hBB : w3.heap.size ≤ gB := (by have := LwA.size; omega); have hoB2 : wB.ownsRow w.heap.size 41 3 (.slice (some ⟨gB, 0, none⟩) (0 + 1) cB) (0 + 1) ([] ++ tCells [d]) := hoB)
                      | (refine step_append_at _ (by rfl) (.tmp 72) (.tmp 74) 27 (by rfl) w.heap.size 41 j0 _ 3 24 Try.underlying27 hj0 hy0 hy1 hy2 rfl (by omega) gA 0 cA [] (by rfl) (World.ownsRow.alloc hoA2 _) (some ⟨wA.heap.size, 0, none⟩) 1 1 (tCells [d]) (by rfl) (one_srcT (heap_alloc_new wA _)) (by unfold maxLen; omega) (by omega) (by have := LwA.size; simp; omega) (wA.heap.size + 1) (by simp) ?_; intro gB cB wB hoB hgB haB hlB; have LwB : Below w3.heap.size w3 wB := (LwA.alloc LwA.size _).grown hgB (by have := LwA.size; simp; omega) (by intro q hq; cases hq; exact hA); have hBB : w3.heap.size ≤ gB := (by have := LwA.size; omega); have hoB2 : wB.ownsRow w.heap.size 41 3 (.slice (some ⟨gB, 0, none⟩) (0 + 1) cB) (0 + 1) ([] ++ tCells [d]) := hoB)
                      | (refine step_append_at _ (by rfl) (.tmp 75) (.tmp 76) 27 (by rfl) w.heap.size 41 j0 _ 3 24 Try.underlying27 hj0 hy0 hy1 hy2 rfl (by omega) gB (0 + 1) cB ([] ++ tCells [d]) (by rfl) hoB2 (some ⟨gr, 0, none⟩) (0 - 0) cr (tCells (es.drop 0)) (by rfl) (HVR.out _ LwB) (by unfold maxLen; omega) (by omega) (by have := LwB.size; omega) wB.heap.size (by rfl) ?_; intro gC cC wC hoC hgC haC hlC; have f0 := (LwB.cell (p := ⟨q, 0, none⟩) hq3).trans e0; have f1 := (LwB.cell (p := ⟨q, 1, none⟩) hq3).trans e1; have f2 := (LwB.cell (p := ⟨q, 2, none⟩) hq3).trans e2))
                  all_goals
                    have HF := hidP (HEND.out gC cC wC (by first | exact hoC | simpa using hoC) (LwB.grown hgC LwB.size (by intro q hq; cases hq; exact hBB)))
                    clear hoC hgC haC hlC hoB hgB hoA hgA hoB2 hoA2 LwA LwB
                    go_wp2_with fail
                    go_roundw
                    case rel => exact ⟨k + 1, _, gC, cC, by omega, by omega, by go_num, HF.out.1, by rw [HNX.out]; exact HF.out.2.1, by rw [HNX.out]; exact HF.out.2.2.1, HF.out.2.2.2⟩
                    case measure => simp [intOf]; omega
                · skip
                  go_region_held3 (fun w' => (w'.cell? ⟨q, 0, none⟩ = some (.int .i64 d.1) ∧ w'.cell? ⟨q, 1, none⟩ = some (.int .i64 d.2.1) ∧ w'.cell? ⟨q, 2, none⟩ = some (.int .i64 d.2.2)) ∧ Below w3.heap.size w3 w')
                    (first
                      | exact ⟨⟨e0, e1, e2⟩, (Below.refl _ _).drew⟩
                      | exact TS3.grown ⟨⟨f0, f1, f2⟩, LwB⟩ hq3 hgC hBB
                      | exact TS3.of hq3 e0 e1 e2 LwB
                      | exact TS3.of hq3 e0 e1 e2 (LwA.alloc (by omega) _)
                      | exact TS3.of hq3 e0 e1 e2 LwA
                      | exact TS3.of hq3 e0 e1 e2 ((Below.refl _ _).alloc (Nat.le_refl _) _).drew
                      | exact TS3.of hq3 e0 e1 e2 (((Below.refl _ _).alloc (Nat.le_refl _) _).alloc (by simp) _).drew)
                    (first
                      | (refine step_append_at _ (by rfl) (.tmp 68) (.tmp 71) 27 (by rfl) w.heap.size 41 j0 _ 3 24 Try.underlying27 hj0 hy0 hy1 hy2 rfl (by omega) w3.heap.size 0 0 [] (by rfl) (World.ownsRow.drew (World.ownsRow_lit w3 #[] 0 (by omega) (Nat.zero_le _) rfl)) (some ⟨g', 0, none⟩) j c' (tCells (es.take j)) (by rfl) (HVT.out _ ((Below.refl _ _).alloc (Nat.le_refl _) _).drew) (by unfold maxLen; omega) (by omega) (by simp; omega) (w3.heap.size + 1) (by simp) ?_; intro gA cA wA hoA hgA haA hlA; rw [Nat.zero_add]; have LwA : Below w3.heap.size w3 wA := ((Below.refl _ _).alloc (Nat.le_refl _) _).drew.grown hgA (by simp) (by intro q hq; cases hq; exact Nat.le_refl _); have hA : w3.heap.size ≤ gA := (by omega); have hoA2 : wA.ownsRow w.heap.size 41 3 (.slice (some ⟨gA, 0, none⟩) j cA) j (tCells (es.take j)) := (by simpa using hoA))
                      | (refine step_append_at _ (by rfl) (.tmp 68) (.tmp 71) 27 (by rfl) w.heap.size 41 j0 _ 3 24 Try.underlying27 hj0 hy0 hy1 hy2 rfl (by omega) w3.heap.size 0 0 [] (by rfl) (World.ownsRow.drew (World.ownsRow.alloc (World.ownsRow_lit w3 #[] 0 (by omega) (Nat.zero_le _) rfl) _)) (some ⟨g', 0, none⟩) j c' (tCells (es.take j)) (by rfl) (HVT.out _ (((Below.refl _ _).alloc (Nat.le_refl _) _).alloc (by simp) _).drew) (by unfold maxLen; omega) (by omega) (by simp; omega) (w3.heap.size + 1 + 1) (by simp) ?_; intro gA cA wA hoA hgA haA hlA; rw [Nat.zero_add]; have LwA : Below w3.heap.size w3 wA := (((Below.refl _ _).alloc (Nat.le_refl _) _).alloc (by simp) _).drew.grown hgA (by simp; omega) (by intro q hq; cases hq; exact Nat.le_refl _); have hA : w3.heap.size ≤ gA := (by omega); have hoA2 : wA.ownsRow w.heap.size 41 3 (.slice (some ⟨gA, 0, none⟩) j cA) j (tCells (es.take j)) := (by simpa using hoA); have hX : wA.heap[w3.heap.size + 1]? = some (.cells #[.int .i64 d.1, .int .i64 d.2.1, .int .i64 d.2.2] 41 (0, 0)) := put_two hgA)
                      | (refine step_append_at _ (by rfl) (.tmp 68) (.tmp 71) 27 (by rfl) w.heap.size 41 j0 _ 3 24 Try.underlying27 hj0 hy0 hy1 hy2 rfl (by omega) (w3.heap.size + 1) 0 0 [] (by rfl) (put_litT w3 _ (by omega)) (some ⟨g', 0, none⟩) j c' (tCells (es.take j)) (by rfl) (HVT.out _ (((Below.refl _ _).alloc (Nat.le_refl _) _).alloc (by simp) _).drew) (by unfold maxLen; omega) (by omega) (by simp; omega) (w3.heap.size + 1 + 1) (by simp) ?_; intro gA cA wA hoA hgA haA hlA; rw [Nat.zero_add]; have LwA : Below w3.heap.size w3 wA := (((Below.refl _ _).alloc (Nat.le_refl _) _).alloc (by simp) _).drew.grown hgA (by simp; omega) (by intro q hq; cases hq; omega); have hA : w3.heap.size ≤ gA := (by omega); have hoA2 : wA.ownsRow w.heap.size 41 3 (.slice (some ⟨gA, 0, none⟩) j cA) j (tCells (es.take j)) := (by simpa using hoA); have hX : wA.heap[w3.heap.size]? = some (.cells #[.int .i64 d.1, .int .i64 d.2.1, .int .i64 d.2.2] 41 (0, 0)) := put_one hgA)
                      | (refine step_append_at _ (by rfl) (.tmp 72) (.tmp 74) 27 (by rfl) w.heap.size 41 j0 _ 3 24 Try.underlying27 hj0 hy0 hy1 hy2 rfl (by omega) gA j cA (tCells (es.take j)) (by rfl) hoA2 (some ⟨_, 0, none⟩) 1 1 (tCells [d]) (by rfl) (one_srcT hX) (by unfold maxLen; omega) (by omega) (by have := LwA.size; omega) wA.heap.size (by rfl) ?_; intro gB cB wB hoB hgB haB hlB; have LwB : Below w3.heap.size w3 wB := LwA.grown hgB LwA.size (by intro q hq; cases hq; exact hA); have hBB : w3.heap.size ≤ gB := (by have := LwA.size; omega); have hoB2 : wB.ownsRow w.heap.size 41 3 (.slice (some ⟨gB, 0, none⟩) (j + 1) cB) (j + 1) (tCells (es.take j) ++ tCells [d]) := hoB)
                      | (refine step_append_at _ (by rfl) (.tmp 72) (.tmp 74) 27 (by rfl) w.heap.size 41 j0 _ 3 24 Try.underlying27 hj0 hy0 hy1 hy2 rfl (by omega) gA j cA (tCells (es.take j)) (by rfl) (World.ownsRow.alloc hoA2 _) (some ⟨wA.heap.size, 0, none⟩) 1 1 (tCells [d]) (by rfl) (one_srcT (heap_alloc_new wA _)) (by unfold maxLen; omega) (by omega) (by have := LwA.size; simp; omega) (wA.heap.size + 1) (by simp) ?_; intro gB cB wB hoB hgB haB hlB; have LwB : Below w3.heap.size w3 wB := (LwA.alloc LwA.size _).grown hgB (by have := LwA.size; simp; omega) (by intro q hq; cases hq; exact hA); have hBB : w3.heap.size ≤ gB := (by have := LwA.size; omega); have hoB2 : wB.ownsRow w.heap.size 41 3 (.slice (some ⟨gB, 0, none⟩) (j + 1) cB) (j + 1) (tCells (es.take j) ++ tCells [d]) := hoB)
                      | (refine step_append_at _ (by rfl) (.tmp 75) (.tmp 76) 27 (by rfl) w.heap.size 41 j0 _ 3 24 Try.underlying27 hj0 hy0 hy1 hy2 rfl (by omega) gB (j + 1) cB (tCells (es.take j) ++ tCells [d]) (by rfl) hoB2 (some ⟨gr, 0, none⟩) (m' - j) cr (tCells (es.drop j)) (by rfl) (HVR.out _ LwB) (by unfold maxLen; omega) (by omega) (by have := LwB.size; omega) wB.heap.size (by rfl) ?_; intro gC cC wC hoC hgC haC hlC; have f0 := (LwB.cell (p := ⟨q, 0, none⟩) hq3).trans e0; have f1 := (LwB.cell (p := ⟨q, 1, none⟩) hq3).trans e1; have f2 := (LwB.cell (p := ⟨q, 2, none⟩) hq3).trans e2))
                  all_goals
                    have HF := hidP (HEND.out gC cC wC hoC (LwB.grown hgC LwB.size (by intro q hq; cases hq; exact hBB)))
                    clear hoC hgC haC hlC hoB hgB hoA hgA hoB2 hoA2 LwA LwB
                    go_wp2_with fail
                    go_roundw
                    case rel => exact ⟨k + 1, _, gC, cC, by omega, by omega, by go_num, HF.out.1, by rw [HNX.out]; exact HF.out.2.1, by rw [HNX.out]; exact HF.out.2.2.1, HF.out.2.2.2⟩
                    case measure => simp [intOf]; omega
        · obtain rfl : k = ms.length := by omega
          rw [HPE.out] at hm hrow
          have HE := hidP (And.intro hm (And.intro hrow L))
          clear hm hrow L
          go_wp2_with fail
          go_roundw
          case rel => exact ⟨a + 1, m', g', c', by omega, by go_num, rfl, HE.out⟩
          case measure => simp [intOf]; omega
    · obtain rfl : a = ms.length := by omega
      go_wp2_with fail
      go_ret
      exact ⟨g, c, by rw [← HR0.out.1]; rfl, HR0.out.2⟩

end Go.Proofs.Ytfbindjacmaeoaa
namespace Go.Proofs.Ytfbindjacmaeoaa
open Go Go.RowKit

set_option maxHeartbeats 400000 in
theorem szTS (ao : Option Addr) (n cap : Nat) (left : Int) (w : World) (hn : n ≤ maxLen) (h0 : 0 ≤ left) (h1 : left ≤ 1048576) :
    Calls Try.prog 38 #[.slice ao n cap, .int .i64 left] w fun e w' => e = .returned (.int .i64 (cutV left n)) ∧ w' = w := by
  unfold maxLen at hn
  by_cases h : left < n
  · have hv : cutV left n = -1 := by unfold cutV; rw [if_pos h]
    have ht : left - n < 0 := by omega
    go_enter Try.func38, Try.ntmps38
    go_wp2
    go_ret
    exact ⟨ret_int hv.symm, rfl⟩
  · have hv : cutV left n = left - n := by unfold cutV; rw [if_neg h]
    have HV := hidP hv
    clear hv
    have ht : ¬ left - n < 0 := by omega
    go_enter Try.func38, Try.ntmps38
    go_wp2
    go_ret
    exact ⟨ret_int HV.out.symm, rfl⟩

theorem tCells_set (l : List Th) (k : Nat) (x : Th) : (((tCells l).set (k * 3) (.int .i64 x.1)).set (k * 3 + 1) (.int .i64 x.2.1)).set (k * 3 + 2) (.int .i64 x.2.2) = tCells (l.set k x) := by
  induction l generalizing k with
  | nil => simp [tCells]
  | cons d ds ih =>
    cases k with
    | zero => rfl
    | succ k =>
      rw [show (k + 1) * 3 = k * 3 + 1 + 1 + 1 by omega, show k * 3 + 1 + 1 + 1 + 1 = (k * 3 + 1) + 1 + 1 + 1 by omega, show k * 3 + 1 + 1 + 1 + 2 = (k * 3 + 2) + 1 + 1 + 1 by omega]
      simp only [tCells, List.set_cons_succ, ih]
theorem tCells_rep (n : Nat) : tCells (List.replicate n (0, 0, 0)) = List.replicate (n * 3) (.int .i64 0) := by
  induction n with
  | zero => rfl
  | succ n ih => rw [show (n + 1) * 3 = n * 3 + 1 + 1 + 1 by omega]; simp [List.replicate_succ, tCells, ih]
/-- One thread of a row is written over. -/
theorem TRow.store {base : Nat} {w : World} {g c : Nat} {l : List Th} (h : TRow base w g c l) (k : Nat) (x : Th) :
    TRow base (((w.setCell ⟨g, k * 3, none⟩ (.int .i64 x.1)).setCell ⟨g, k * 3 + 1, none⟩ (.int .i64 x.2.1)).setCell ⟨g, k * 3 + 2, none⟩ (.int .i64 x.2.2)) g c (l.set k x) := by
  have h1 := (World.ownsRow.stored h (k * 3) (.int .i64 x.1)).1
  have h2 := (World.ownsRow.stored h1 (k * 3 + 1) (.int .i64 x.2.1)).1
  have h3 := (World.ownsRow.stored h2 (k * 3 + 2) (.int .i64 x.2.2)).1
  rw [tCells_set] at h3
  unfold TRow
  rw [List.length_set]
  exact h3
theorem t_take_snoc {ts : List Th} {k : Nat} (h : k < ts.length) : ts.take (k + 1) = ts.take k ++ [tnth ts k] := by rw [List.take_succ_eq_append_getElem h, tnth_get h]
def fillT (hs : List Th) (k : Nat) : List Th := hs.take k ++ List.replicate (hs.length - k) (0, 0, 0)
theorem fillT_length (hs : List Th) (k : Nat) (h : k ≤ hs.length) : (fillT hs k).length = hs.length := by simp [fillT]; omega
theorem fillT_zero (hs : List Th) : fillT hs 0 = List.replicate hs.length (0, 0, 0) := by simp [fillT]
theorem fillT_all (hs : List Th) : fillT hs hs.length = hs := by simp [fillT]
theorem fillT_set (hs : List Th) (k : Nat) (h : k < hs.length) : (fillT hs k).set k (tnth hs k) = fillT hs (k + 1) := by
  unfold fillT
  rw [List.set_append_right _ _ (by simp; omega), t_take_snoc h, show (hs.take k).length = k by simp; omega, Nat.sub_self]
  rw [show hs.length - k = (hs.length - (k + 1)) + 1 by omega, List.replicate_succ, List.set_cons_zero]
  simp
theorem made_rep3 (n : Nat) : (madeCells #[.int .i64 0, .int .i64 0, .int .i64 0] (n * 3)).toList = tCells (List.replicate n (0, 0, 0)) := by
  rw [tCells_rep]
  apply List.ext_getElem
  · simp [size_madeCells]
  · intro i h1 h2
    have hm : i % 3 = 0 ∨ i % 3 = 1 ∨ i % 3 = 2 := by omega
    rcases hm with h | h | h <;> simp [madeCells, h]
theorem TRow.made (w : World) (n : Nat) (hn : n ≤ maxLen) : TRow w.heap.size (w.alloc (.cells (madeCells #[.int .i64 0, .int .i64 0, .int .i64 0] (n * 3)) 41)) w.heap.size n (List.replicate n (0, 0, 0)) := by
  have h := World.ownsRow_lit (base := w.heap.size) (e := 41) (size := 3) w (madeCells #[.int .i64 0, .int .i64 0, .int .i64 0] (n * 3)) n (Nat.le_refl _) hn (size_madeCells _ _)
  rw [made_rep3] at h
  exact TRow.of h (by simp) rfl

set_option maxHeartbeats 400000 in
theorem toT (m : Th) (w : World) :
    Calls Try.prog 81 #[.agg #[.int .i64 m.1, .int .i64 m.2.1, .int .i64 m.2.2]] w fun e w' => e = .returned (.agg #[.int .i64 m.1, .int .i64 m.2.1, .int .i64 m.2.2]) ∧ Below w.heap.size w w' := by
  go_enter Try.func81, Try.ntmps81
  go_wp2_with fail
  refine bodyPost_ret (v := .agg #[.int .i64 m.1, .int .i64 m.2.1, .int .i64 m.2.2]) (by simp [results, Try.results81, go_sem]) rfl ?_
  exact ⟨rfl, (((Below.refl _ _).alloc (Nat.le_refl _) _).alloc (by simp) _).alloc (by simp; omega) _⟩

set_option maxHeartbeats 800000 in
theorem toTS_seg (b off cap : Nat) (hs : List Th) (w : World) (hseg : TSeg w b off hs) (hb : b < w.heap.size) (hn : hs.length ≤ 1048576) :
    Calls Try.prog 39 #[.slice (some ⟨b, off, none⟩) hs.length cap] w fun e w' => e = .returned (.slice (some ⟨w.heap.size, 0, none⟩) hs.length hs.length) ∧ TRow w.heap.size w' w.heap.size hs.length hs ∧ Below w.heap.size w w' := by
  have hmk := run_make_rows (P := Try.prog) 27 41 (.agg #[.int .i64 0, .int .i64 0, .int .i64 0]) 3 24 Try.underlying27 Try.info41 .i64 .i64 hs.length (by omega) (by omega)
  have R0 := hidP (TRow.made w hs.length (by unfold maxLen; omega))
  rw [← fillT_zero] at R0
  go_enter Try.func39, Try.ntmps39
  go_wp2
  clear hmk
  go_loopw [4] (fun i wr => ∃ k : Nat, k ≤ hs.length ∧ i = .int .i64 k ∧ TRow w.heap.size wr w.heap.size hs.length (fillT hs k) ∧ Below w.heap.size w wr) (fun i _ => hs.length - (intOf i).toNat)
  case atStart => exact ⟨0, Nat.zero_le _, rfl, R0.out, (Below.refl _ _).alloc (Nat.le_refl _) _⟩
  case round =>
    obtain ⟨k, hk, rfl, hr, L⟩ := hrel
    by_cases hlt : k < hs.length
    · obtain ⟨hc0, hc1, hc2⟩ := (hseg.below hb L) k hlt
      have hz := L.size
      have hp1 := hr.lt.2
      have HR := hidP hr
      have HL := hidP L
      clear hr L
      go_wp2_with fail
      refine (toT (tnth hs k) _).mono ?_
      rintro e w1 ⟨rfl, L1⟩
      have hr1 := HR.out.below (Nat.le_refl _) L1
      have L2 := HL.out.trans (L1.mono hz)
      have hfl := fillT_length hs k (by omega)
      obtain ⟨e0, e1, e2⟩ := hr1.seg k (by omega)
      rw [Nat.zero_add] at e0 e1 e2
      have f0 := World.ownsRow.frozenAt hr1 (k * 3)
      have f1 := World.ownsRow.frozenAt hr1 (k * 3 + 1)
      have f2 := World.ownsRow.frozenAt hr1 (k * 3 + 2)
      have HS := hidP (hr1.store k (tnth hs k))
      rw [fillT_set hs k hlt] at HS
      have HL2 := hidP L2
      clear hr1 L1 L2 hfl hc0 hc1 hc2
      go_wp2_with fail
      go_roundw
      case rel => exact ⟨k + 1, by omega, by go_num, HS.out, ((HL2.out.setCell (by simp) _).setCell (by simp) _).setCell (by simp) _⟩
      case measure => simp [intOf]; omega
    · go_wp2
      go_ret
      obtain rfl : k = hs.length := by omega
      rw [fillT_all] at hr
      exact ⟨rfl, hr, L⟩

set_option maxHeartbeats 400000 in
theorem toTS_nil (ao : Option Addr) (cap : Nat) (w : World) :
    Calls Try.prog 39 #[.slice ao 0 cap] w fun e w' => e = .returned (.slice (some ⟨w.heap.size, 0, none⟩) 0 0) ∧ w' = w.alloc (.cells #[] 41) := by
  have hmk : ∀ w, (Instr.makeSlice 27 (.int .i64 0) (.int .i64 0)).run Try.prog w = .ok (.slice (some ⟨w.heap.size, 0, none⟩) 0 0) (w.alloc (.cells #[] 41)) := fun _ => by kernel_rfl
  go_enter Try.func39, Try.ntmps39
  go_wp2
  clear hmk
  refine wp_loop_rounds 1 ?_
  rw [rounds_succ]
  go_wp2
  go_ret
  exact ⟨rfl, rfl⟩

/-- toHitS: new hits that read as what was given. -/
theorem toTS (ao : Option Addr) (cap : Nat) (hs : List Th) (w : World) (hv : TView w ao hs) (hn : hs.length ≤ 1048576) :
    Calls Try.prog 39 #[.slice ao hs.length cap] w fun e w' => ∃ b, e = .returned (.slice (some ⟨b, 0, none⟩) hs.length hs.length) ∧ TRow w.heap.size w' b hs.length hs ∧ Below w.heap.size w w' := by
  rcases hv with rfl | ⟨b, off, rfl, hb, hseg⟩
  · refine (toTS_nil ao cap w).mono ?_
    rintro e w' ⟨rfl, rfl⟩
    exact ⟨_, rfl, TRow.start w _ (Nat.le_refl _), (Below.refl _ _).alloc (Nat.le_refl _) _⟩
  · refine (toTS_seg b off cap hs w hseg hb hn).mono ?_
    rintro e w' ⟨rfl, hr, L⟩
    exact ⟨_, rfl, hr, L⟩

set_option maxHeartbeats 400000 in
theorem eqT (m m' : Th) (w : World) :
    Calls Try.prog 78 #[.agg #[.int .i64 m.1, .int .i64 m.2.1, .int .i64 m.2.2], .agg #[.int .i64 m'.1, .int .i64 m'.2.1, .int .i64 m'.2.2]] w fun e w' => e = .returned (.bool (decide (m = m'))) ∧ Below w.heap.size w w' := by
  have L0 : Below w.heap.size w ((w.alloc (.cells #[.int .i64 m.1, .int .i64 m.2.1, .int .i64 m.2.2] 41)).alloc (.cells #[.int .i64 m'.1, .int .i64 m'.2.1, .int .i64 m'.2.2] 41)) :=
    ((Below.refl _ _).alloc (Nat.le_refl _) _).alloc (by simp) _
  by_cases h : m.1 = m'.1
  · have hb : (m.1 != m'.1) = false := by simp [h]
    by_cases h2 : m.2.1 = m'.2.1
    · have hb2 : (m.2.1 != m'.2.1) = false := by simp [h2]
      by_cases h3 : m.2.2 = m'.2.2
      · have hb3 : (m.2.2 != m'.2.2) = false := by simp [h3]
        have HM := hidP (decide_eq_true (Prod.ext h (Prod.ext h2 h3) : m = m'))
        clear h h2 h3
        go_enter Try.func78, Try.ntmps78
        go_wp2_with fail
        go_ret
        exact ⟨ret_bool HM.out.symm, L0⟩
      · have hb3 : (m.2.2 != m'.2.2) = true := by simp [h3]
        have HM := hidP (decide_eq_false (fun e : m = m' => h3 (by rw [e])))
        clear h h2 h3
        go_enter Try.func78, Try.ntmps78
        go_wp2_with fail
        go_ret
        exact ⟨ret_bool HM.out.symm, L0⟩
    · have hb2 : (m.2.1 != m'.2.1) = true := by simp [h2]
      have HM := hidP (decide_eq_false (fun e : m = m' => h2 (by rw [e])))
      clear h h2
      go_enter Try.func78, Try.ntmps78
      go_wp2_with fail
      go_ret
      exact ⟨ret_bool HM.out.symm, L0⟩
  · have hb : (m.1 != m'.1) = true := by simp [h]
    have HM := hidP (decide_eq_false (fun e : m = m' => h (by rw [e])))
    clear h
    go_enter Try.func78, Try.ntmps78
    go_wp2_with fail
    go_ret
    exact ⟨ret_bool HM.out.symm, L0⟩

set_option maxHeartbeats 400000 in
theorem eqTS_ne (ao ao' : Option Addr) (n n' cap cap' : Nat) (w : World) (h : n ≠ n') :
    Calls Try.prog 33 #[.slice ao n cap, .slice ao' n' cap'] w fun e w' => e = .returned (.bool false) ∧ w' = w := by
  have hlb : ((n : Int) != (n' : Int)) = true := by simp; omega
  go_enter Try.func33, Try.ntmps33
  go_wp2
  go_ret
  exact ⟨rfl, rfl⟩

set_option maxHeartbeats 1000000 in
theorem eqTS_len (ao ao' : Option Addr) (cap cap' : Nat) (ms ns : List Th) (w : World) (hv : TView w ao ms) (hv' : TView w ao' ns) (hn : ms.length ≤ 4194304) (hl : ms.length = ns.length) :
    Calls Try.prog 33 #[.slice ao ms.length cap, .slice ao' ns.length cap'] w fun e w' => e = .returned (.bool (decide (ms = ns))) ∧ Below w.heap.size w w' := by
  have hlb : ((ms.length : Int) != (ns.length : Int)) = false := by simp [hl]
  have HL : Hid (ms.length = ns.length) := hl
  have hn' : ns.length ≤ 4194304 := by omega
  clear hl
  go_enter Try.func33, Try.ntmps33
  go_wp2
  go_loopw [5] (fun i wr => ∃ k : Nat, k ≤ ms.length ∧ i = .int .i64 k ∧ (∀ j, j < k → tnth ms j = tnth ns j) ∧ Below w.heap.size w wr) (fun i _ => ms.length - (intOf i).toNat)
  case atStart => exact ⟨0, Nat.zero_le _, rfl, fun j hj => by omega, Below.refl _ _⟩
  case round =>
    obtain ⟨k, hk, rfl, hall, L⟩ := hrel
    have HA := hidP hall
    clear hall
    by_cases hlt : k < ms.length
    · have hlt' : k < ns.length := by have := HL.out; omega
      obtain ⟨b, off, rfl, hb, hs⟩ := hv.seg (by omega)
      obtain ⟨b', off', rfl, hb', hs'⟩ := hv'.seg (by omega)
      obtain ⟨hc0, hc1, hc2⟩ := (hs.below hb L) k hlt
      obtain ⟨hd0, hd1, hd2⟩ := (hs'.below hb' L) k hlt'
      have hi0 : (0 : Int) ≤ (k : Int) := Int.natCast_nonneg _
      have hi1 : (k : Int) < (ms.length : Int) := by omega
      have hi2 : (k : Int) < (ns.length : Int) := by omega
      have hz := L.size
      have hbw : b < wr.heap.size := by omega
      have hbw' : b' < wr.heap.size := by omega
      have HC := hidP (eqT (tnth ms k) (tnth ns k) wr.drew)
      have HLL := hidP L
      clear L hs hs'
      go_wp2
      go_region_held3 (fun w' => w'.cell? ⟨b, off + k * 3, none⟩ = some (.int .i64 (tnth ms k).1) ∧ w'.cell? ⟨b, off + k * 3 + 1, none⟩ = some (.int .i64 (tnth ms k).2.1) ∧ w'.cell? ⟨b, off + k * 3 + 2, none⟩ = some (.int .i64 (tnth ms k).2.2) ∧ w'.cell? ⟨b', off' + k * 3, none⟩ = some (.int .i64 (tnth ns k).1) ∧ w'.cell? ⟨b', off' + k * 3 + 1, none⟩ = some (.int .i64 (tnth ns k).2.1) ∧ w'.cell? ⟨b', off' + k * 3 + 2, none⟩ = some (.int .i64 (tnth ns k).2.2))
        (first
          | go_keep
          | (refine ⟨(L1.cell (p := ⟨b, off + k * 3, none⟩) hbw).trans hc0, (L1.cell (p := ⟨b, off + k * 3 + 1, none⟩) hbw).trans hc1, (L1.cell (p := ⟨b, off + k * 3 + 2, none⟩) hbw).trans hc2, (L1.cell (p := ⟨b', off' + k * 3, none⟩) hbw').trans hd0, (L1.cell (p := ⟨b', off' + k * 3 + 1, none⟩) hbw').trans hd1, (L1.cell (p := ⟨b', off' + k * 3 + 2, none⟩) hbw').trans hd2⟩))
        (first
          | (go_at_call 78; refine HC.out.mono ?_; rintro e w1 ⟨rfl, L1⟩))
      have LF := hidP (HLL.out.drew.trans (L1.mono hz))
      clear L1
      by_cases he : tnth ms k = tnth ns k
      · have heb : decide (tnth ms k = tnth ns k) = true := by simp [he]
        have HE := hidP he
        clear he
        generalize decide (tnth ms k = tnth ns k) = d at *
        subst heb
        go_wp2
        go_roundw
        case rel => exact ⟨k + 1, by omega, by go_num, fun j hj => by
          rcases Nat.lt_or_ge j k with h | h
          · exact HA.out j h
          · rw [show j = k by omega]; exact HE.out, LF.out⟩
        case measure => simp [intOf]; omega
      · have heb : decide (tnth ms k = tnth ns k) = false := by simp [he]
        have HE := hidP he
        clear he
        generalize decide (tnth ms k = tnth ns k) = d at *
        subst heb
        go_wp2
        go_ret
        exact ⟨ret_bool (Eq.symm (decide_eq_false (fun h => HE.out (by rw [h])))), LF.out⟩
    · go_wp2
      go_ret
      obtain rfl : k = ms.length := by omega
      exact ⟨ret_bool (Eq.symm (decide_eq_true (ts_eq HL.out HA.out))), L⟩

/-- eqHitS: are two alike. -/
theorem eqTS (ao ao' : Option Addr) (cap cap' : Nat) (ms ns : List Th) (w : World) (hv : TView w ao ms) (hv' : TView w ao' ns) (hn : ms.length ≤ 4194304) :
    Calls Try.prog 33 #[.slice ao ms.length cap, .slice ao' ns.length cap'] w fun e w' => e = .returned (.bool (decide (ms = ns))) ∧ Below w.heap.size w w' := by
  by_cases hl : ms.length = ns.length
  · exact eqTS_len ao ao' cap cap' ms ns w hv hv' hn hl
  · refine (eqTS_ne ao ao' ms.length ns.length cap cap' w hl).mono ?_
    rintro e w' ⟨rfl, rfl⟩
    exact ⟨ret_bool (Eq.symm (decide_eq_false (fun h => hl (by rw [h])))), Below.refl _ _⟩

end Go.Proofs.Ytfbindjacmaeoaa
namespace Go.Proofs.Ytfbindjacmaeoaa
open Go Go.RowKit

theorem inR_iff12 (x lo hi : Int) : inR x lo hi = true ↔ lo ≤ x ∧ x ≤ hi := by simp [inR]
theorem lngB_in (t : Th) : lngB t = inR t.2.2 0 1099511627776 := rfl
theorem totS_take {ts : List Th} {k : Nat} (h : k < ts.length) : totS (ts.take (k + 1)) = totS (ts.take k) + (tnth ts k).2.2 := by
  rw [List.take_succ_eq_append_getElem h, totS, List.map_append, List.sum_append, tnth_get h]
  simp [totS]
theorem totS_bd {ts : List Th} {k : Nat} (hk : k ≤ ts.length) (h : (ts.take k).all lngB = true) : 0 ≤ totS (ts.take k) ∧ totS (ts.take k) ≤ k * 1099511627776 := by
  induction k with
  | zero => simp [totS]
  | succ k ih =>
    have hl : k < ts.length := by omega
    rw [List.take_succ_eq_append_getElem hl, List.all_append, Bool.and_eq_true] at h
    obtain ⟨h1, h2⟩ := ih (by omega) h.1
    have h3 := h.2
    simp only [List.all_cons, List.all_nil, Bool.and_true, lngB_in, inR_iff12] at h3
    rw [totS_take hl, tnth_get hl]
    omega
theorem all_take_succ {ts : List Th} {k : Nat} (p : Th → Bool) (hl : k < ts.length) (h : (ts.take k).all p = true) (h2 : p (tnth ts k) = true) : (ts.take (k + 1)).all p = true := by
  rw [List.take_succ_eq_append_getElem hl, List.all_append, h, ← tnth_get hl]
  simp [h2]
theorem totV_bad {ts : List Th} {k : Nat} (hl : k < ts.length) (h : lngB (tnth ts k) = false) : totV ts = -1 := by
  rw [totV, if_neg]
  intro h2
  have := List.all_eq_true.1 h2 _ (tnth_mem hl)
  rw [h] at this
  cases this

set_option maxHeartbeats 1000000 in
theorem sTotal (ao : Option Addr) (cap : Nat) (ts : List Th) (w : World) (hv : TView w ao ts) (hn : ts.length ≤ 1048576) :
    Calls Try.prog 20 #[.slice ao ts.length cap] w fun e w' => e = .returned (.int .i64 (totV ts)) ∧ w' = w := by
  go_enter Try.func20, Try.ntmps20
  go_wp2_with fail
  go_loop [3, 4] (fun s i => ∃ k : Nat, k ≤ ts.length ∧ i = .int .i64 k ∧ s = .int .i64 (totS (ts.take k)) ∧ (ts.take k).all lngB = true) (fun _ i => ts.length - (intOf i).toNat)
  case atStart => exact ⟨0, Nat.zero_le _, rfl, rfl, rfl⟩
  case round =>
    obtain ⟨k, hk, rfl, rfl, hall⟩ := hrel
    by_cases hlt : k < ts.length
    · obtain ⟨b, off, rfl, hb, hs⟩ := hv.seg (by omega)
      have hc := (hs k hlt).2.2
      have hi0 : (0 : Int) ≤ (k : Int) := Int.natCast_nonneg _
      have hi1 : (k : Int) < (ts.length : Int) := by omega
      have HI : ∀ w, Hid _ := fun w => hidP (sIn (tnth ts k).2.2 0 1099511627776 w)
      rw [← lngB_in] at HI
      have hbd := totS_bd hk hall
      clear hs
      rcases hl : lngB (tnth ts k) with _ | _
      · have HV := hidP (totV_bad hlt hl)
        rw [hl] at HI
        clear hl hall
        generalize totS (ts.take k) = s at *
        generalize tnth ts k = t at *
        go_wp2_with fail
        refine (HI _).out.mono ?_
        rintro e w2 ⟨rfl, hw2⟩
        subst w2
        go_wp2_with fail
        go_ret
        exact ⟨ret_int HV.out.symm, rfl⟩
      · have HA := hidP (all_take_succ lngB hlt hall hl)
        have HS := hidP (totS_take hlt)
        rw [hl] at HI
        rw [lngB_in, inR_iff12] at hl
        generalize totS (ts.take k) = s at *
        generalize tnth ts k = t at *
        have hw : IntKind.i64.wrap (s + t.2.2) = s + t.2.2 := IntWalk.i64_in _ ⟨by omega, by omega⟩
        clear hall
        go_wp2_with fail
        refine (HI _).out.mono ?_
        rintro e w2 ⟨rfl, hw2⟩
        subst w2
        go_wp2_with fail
        go_round
        case rel => exact ⟨k + 1, by omega, by go_num, by rw [HS.out], HA.out⟩
        case measure => simp [intOf]; omega
    · obtain rfl : k = ts.length := by omega
      rw [List.take_length] at hall ⊢
      have HV : Hid (totV ts = totS ts) := by show _ = _; rw [totV, if_pos hall]
      clear hall
      go_wp2_with fail
      go_ret
      exact ⟨ret_int HV.out.symm, rfl⟩

/-- The threads taken of the first k of all. -/
def ktS (ms : List Mk) (kd : Int) : List Eg := srtE (zD ms kd) ms.length
def kt (ms : List Mk) (kd : Int) (k : Nat) : List Th := (kruF ((ktS ms kd).take k)).map (thOf ms kd)
theorem ktS_lt {ms : List Mk} (hm : marksB ms = true) {kd : Int} (hk : kindB kd = true) : ∀ e ∈ ktS ms kd, e.1 < ms.length ∧ e.2 < ms.length :=
  (allT_srt hm hk (pairsTo ms.length ms.length) (fun e he => by have := (mem_pairs _ _ e).1 he; omega)).2
theorem kt_lt {ms : List Mk} (hm : marksB ms = true) {kd : Int} (hk : kindB kd = true) (k : Nat) : ∀ e ∈ kruF ((ktS ms kd).take k), e.1 < ms.length ∧ e.2 < ms.length := fun e he =>
  ktS_lt hm hk e (List.mem_of_mem_take ((kru_sub _).subset he))
theorem found_of {ms : List Mk} (hm : marksB ms = true) {kd : Int} {E : List Eg} (hE : ∀ e ∈ E, e.1 < ms.length ∧ e.2 < ms.length) : ∀ t ∈ E.map (thOf ms kd), 0 ≤ zFind ms t.1 ∧ 0 ≤ zFind ms t.2.1 := fun t ht => by
  obtain ⟨e, he, rfl⟩ := List.mem_map.1 ht
  have hb := hE e he
  show 0 ≤ zFind ms (mid ms e.1) ∧ 0 ≤ zFind ms (mid ms e.2)
  rw [(zFind_mid hm hb.1).1, (zFind_mid hm hb.2).1]
  omega
theorem kt_found {ms : List Mk} (hm : marksB ms = true) {kd : Int} (hk : kindB kd = true) (k : Nat) : ∀ t ∈ kt ms kd k, 0 ≤ zFind ms t.1 ∧ 0 ≤ zFind ms t.2.1 := found_of hm (kt_lt hm hk k)
theorem ktS_len {ms : List Mk} (hm : marksB ms = true) {kd : Int} (hk : kindB kd = true) (hn : ms.length ≤ 60) : (ktS ms kd).length ≤ 3660 := by
  have h := allT_all hm hk
  have h2 := congrArg List.length h
  rw [allT_len, List.length_map] at h2
  have := prs_len (n := ms.length) (i := ms.length) (k := ms.length) hn (Nat.le_refl _) (Nat.le_refl _)
  unfold prs at this
  rw [List.length_append] at this
  unfold ktS
  omega
theorem kt_len (ms : List Mk) (kd : Int) (k : Nat) : (kt ms kd k).length ≤ (ktS ms kd).length := by
  rw [kt, List.length_map]
  exact Nat.le_trans (kru_sub _).length_le (by simp; omega)
/-- What two labels say of the next. -/
theorem kt_next {ms : List Mk} (hm : marksB ms = true) {kd : Int} (hk : kindB kd = true) {k : Nat} (h : k < (ktS ms kd).length) :
    (zIdx ms (thOf ms kd (ktS ms kd)[k]).1 < ms.length ∧ zIdx ms (thOf ms kd (ktS ms kd)[k]).2.1 < ms.length) ∧ (0 ≤ zFind ms (thOf ms kd (ktS ms kd)[k]).1 ∧ 0 ≤ zFind ms (thOf ms kd (ktS ms kd)[k]).2.1) ∧
    kt ms kd (k + 1) = if nth (labL ms (kt ms kd k)) (zIdx ms (thOf ms kd (ktS ms kd)[k]).1) = nth (labL ms (kt ms kd k)) (zIdx ms (thOf ms kd (ktS ms kd)[k]).2.1) then kt ms kd k else kt ms kd k ++ [thOf ms kd (ktS ms kd)[k]] := by
  have hb := ktS_lt hm hk _ (List.getElem_mem h)
  have e1 : zIdx ms (thOf ms kd (ktS ms kd)[k]).1 = (ktS ms kd)[k].1 := (zFind_mid hm hb.1).2
  have e2 : zIdx ms (thOf ms kd (ktS ms kd)[k]).2.1 = (ktS ms kd)[k].2 := (zFind_mid hm hb.2).2
  refine ⟨by rw [e1, e2]; exact hb, ?_, ?_⟩
  · show 0 ≤ zFind ms (mid ms _) ∧ 0 ≤ zFind ms (mid ms _)
    rw [(zFind_mid hm hb.1).1, (zFind_mid hm hb.2).1]
    omega
  · rw [e1, e2, labL_at hb.1, labL_at hb.2]
    have e3 : (kt ms kd k).map (eOf ms) = kruF ((ktS ms kd).take k) := eOf_map hm kd (kt_lt hm hk k)
    rw [e3]
    have e4 : kt ms kd (k + 1) = (kruF ((ktS ms kd).take k ++ [(ktS ms kd)[k]])).map (thOf ms kd) := by rw [kt, List.take_succ_eq_append_getElem h]
    rw [e4, kru_snoc]
    by_cases hl : lab (kruF ((ktS ms kd).take k)) (ktS ms kd)[k].1 = lab (kruF ((ktS ms kd).take k)) (ktS ms kd)[k].2
    · rw [if_pos hl, if_pos (by rw [hl])]; rfl
    · rw [if_neg hl, if_neg (by omega), List.map_append]; rfl
theorem thrL_no {ms : List Mk} {kd : Int} (h : thrB ms kd = false) : thrL ms kd = [] := by rw [thrL, if_neg (by rw [h]; simp)]
theorem kt_all {ms : List Mk} {kd : Int} (h : thrB ms kd = true) : kt ms kd (ktS ms kd).length = thrL ms kd := by
  rw [kt, List.take_length, thrL, if_pos h]; rfl

/-- The tests that the given Threads, Tied, Groups and Gap make first, decided. -/
inductive CaseT (ms : List Mk) (kd : Int) : Prop
  | marks (h : marksB ms = false) (h3 : thrB ms kd = false)
  | kind (h : marksB ms = true) (h2 : kindB kd = false) (h3 : thrB ms kd = false)
  | good (h : marksB ms = true) (h2 : kindB kd = true) (h3 : thrB ms kd = true)
theorem caseT (ms : List Mk) (kd : Int) : CaseT ms kd := by
  rcases h : marksB ms with _ | _
  · exact .marks h (by simp [thrB, h])
  · rcases h2 : kindB kd with _ | _
    · exact .kind h h2 (by simp [thrB, h2])
    · exact .good h h2 (by simp [thrB, h, h2])

set_option maxRecDepth 100000 in
set_option maxHeartbeats 4000000 in
theorem sThreads (ao : Option Addr) (cap : Nat) (ms : List Mk) (kd : Int) (w : World) (hv : MView w ao ms) (hsm : MSmall ms) :
    Calls Try.prog 16 #[.slice ao ms.length cap, .int .i64 kd] w fun e w' => ∃ g c, e = .returned (.slice (some ⟨g, 0, none⟩) (thrL ms kd).length c) ∧ TRow w.heap.size w' g c (thrL ms kd) ∧ Below w.heap.size w w' := by
  have LA : Below w.heap.size w (w.alloc (.cells #[] 41)) := (Below.refl _ _).alloc (Nat.le_refl _) _
  have HC := hidP (sMarks ao cap ms (w.alloc (.cells #[] 41)) (hv.next LA) hsm)
  have HK : ∀ w, Hid _ := fun w => hidP (sKind kd w)
  have HR0 : Hid (TRow w.heap.size (w.alloc (.cells #[] 41)) w.heap.size 0 []) := TRow.start w _ (Nat.le_refl _)
  rcases caseT ms kd with ⟨h, h3⟩ | ⟨h, h2, h3⟩ | ⟨h, h2, h3⟩
  · have HV := hidP (thrL_no h3)
    rw [h] at HC
    clear hv hsm h h3
    go_enter Try.func16, Try.ntmps16
    go_wp2_with fail
    refine HC.out.mono ?_
    rintro e w1 ⟨rfl, n1, hw1⟩
    have HX : Hid (TRow w.heap.size w1 w.heap.size 0 [] ∧ Below w.heap.size w w1) := by rw [hw1]; exact ⟨HR0.out, below_drewN LA n1⟩
    clear hw1
    go_wp2_with fail
    go_ret
    rw [HV.out]
    exact ⟨w.heap.size, 0, rfl, HX.out⟩
  · have HV := hidP (thrL_no h3)
    rw [h] at HC
    rw [h2] at HK
    clear hv hsm h h3 h2
    go_enter Try.func16, Try.ntmps16
    go_wp2_with fail
    refine HC.out.mono ?_
    rintro e w1 ⟨rfl, n1, hw1⟩
    have HX : Hid (TRow w.heap.size w1 w.heap.size 0 [] ∧ Below w.heap.size w w1) := by rw [hw1]; exact ⟨HR0.out, below_drewN LA n1⟩
    clear hw1
    go_wp2_with fail
    refine (HK _).out.mono ?_
    rintro e w2 ⟨rfl, hw2⟩
    subst w2
    go_wp2_with fail
    go_ret
    rw [HV.out]
    exact ⟨w.heap.size, 0, rfl, HX.out⟩
  · have hn := marksB_len h
    obtain ⟨j0, hj0, hy0, hy1, hy2⟩ := info_parts Try.info41
    have HM := hidP h
    have HKD := hidP h2
    have HALL := hidP (kt_all h3)
    have HSM := hidP hsm
    have HVW := hidP hv
    have hsl := ktS_len h h2 hn
    rw [h] at HC
    rw [h2] at HK
    clear hv hsm h h3 h2
    go_enter Try.func16, Try.ntmps16
    go_wp2_with fail
    refine HC.out.mono ?_
    rintro e w1 ⟨rfl, n1, hw1⟩
    have HX : Hid (TRow w.heap.size w1 w.heap.size 0 [] ∧ Below w.heap.size w w1) := by rw [hw1]; exact ⟨HR0.out, below_drewN LA n1⟩
    have hz1 : w1.heap.size = w.heap.size + 1 := by rw [hw1]; simp
    clear hw1 LA HC HR0
    go_wp2_with fail
    refine (HK _).out.mono ?_
    rintro e w2 ⟨rfl, hw2⟩
    subst w2
    have HAT := hidP (sAllT ao cap ms kd w1 (HVW.out.next HX.out.2) HSM.out hn)
    rw [allT_all HM.out HKD.out] at HAT
    have eS : srtE (zD ms kd) ms.length = ktS ms kd := rfl
    rw [eS] at HAT
    clear eS HK
    go_wp2_with fail
    refine HAT.out.mono ?_
    rintro e w2 ⟨ga, ca, rfl, hra, L2⟩
    clear HAT
    have HRA : Hid (TRow w.heap.size w2 ga ca ((ktS ms kd).map (thOf ms kd))) := hra.mono (by omega)
    have hga := hra.lt
    have HX2 : Hid (TRow w.heap.size w2 w.heap.size 0 [] ∧ Below w.heap.size w w2) := ⟨HX.out.1.below (Nat.le_refl _) L2, HX.out.2.trans (L2.mono (by omega))⟩
    have hal : ((ktS ms kd).map (thOf ms kd)).length = (ktS ms kd).length := List.length_map _
    rw [hal]
    clear hra L2 HX
    go_wp2_with fail
    go_loopw [5, 7, 8] (fun o i _ wr => ∃ (k m g c : Nat), k ≤ (ktS ms kd).length ∧ i = .int .i64 k ∧ o = .slice (some ⟨g, 0, none⟩) m c ∧ m = (kt ms kd k).length ∧ TRow w.heap.size wr g c (kt ms kd k) ∧ TRow w.heap.size wr ga ca ((ktS ms kd).map (thOf ms kd)) ∧ ga ≠ g ∧ Below w.heap.size w wr) (fun _ i _ _ => (ktS ms kd).length - (intOf i).toNat)
    case atStart => exact ⟨0, 0, w.heap.size, 0, Nat.zero_le _, rfl, rfl, rfl, HX2.out.1, HRA.out, by omega, HX2.out.2⟩
    case round =>
      obtain ⟨k, m, g, c, hk, rfl, rfl, hm, hrow, hall, hne, L⟩ := hrel
      clear HX2 HRA
      have hml : m ≤ 3660 := by rw [hm]; exact Nat.le_trans (kt_len _ _ _) hsl
      by_cases hlt : k < (ktS ms kd).length
      · have hnx := kt_next HM.out HKD.out hlt
        have hkt : tnth ((ktS ms kd).map (thOf ms kd)) k = thOf ms kd (ktS ms kd)[k] := by rw [tnth_get (by rw [hal]; exact hlt), List.getElem_map]
        obtain ⟨c0, c1, c2⟩ := hall.seg k (by rw [hal]; exact hlt)
        rw [hkt, Nat.zero_add] at c0 c1 c2
        have HP := hidP (sParts ao (some ⟨g, 0, none⟩) cap c ms (kt ms kd k) wr (HVW.out.next L) hrow.view hn (by omega) (kt_found HM.out HKD.out k))
        rw [← hm] at HP
        obtain ⟨⟨hi1, hi2⟩, ⟨f1, f2⟩, hnext⟩ := hnx
        have HNX := hidP hnext
        clear hnext hkt
        generalize thOf ms kd (ktS ms kd)[k] = d at *
        have hbg := hrow.lt
        have hbga := hall.lt
        have HROW := hidP hrow
        have HALLR := hidP hall
        have HL := hidP L
        have HLEN := hidP hm
        obtain ⟨-, e1, -⟩ := zIdx_lt f1
        obtain ⟨-, e2, -⟩ := zIdx_lt f2
        have hx1 : zFind ms d.1 < (ms.length : Int) := by omega
        have hx2 : zFind ms d.2.1 < (ms.length : Int) := by omega
        have y1 : zIdx ms d.1 = (zFind ms d.1).toNat := by omega
        have y2 : zIdx ms d.2.1 = (zFind ms d.2.1).toNat := by omega
        have HFF : Hid (∀ W, Below w.heap.size w W → ∀ id : Int, Calls Try.prog 61 #[.slice ao ms.length cap, .int .i64 id] W fun e w' => e = .returned (.int .i64 (zFind ms id)) ∧ w' = W) := fun W LW id => sFind ao cap ms id W (HVW.out.next LW) (by omega)
        clear e1 e2 hrow hall L hm
        have hk0 : (0 : Int) ≤ (k : Int) := Int.natCast_nonneg _
        have hk1 : (k : Int) < ((ktS ms kd).length : Int) := by omega
        go_wp2_with fail
        refine HP.out.mono ?_
        rintro e w3 ⟨gp, cp, rfl, hrp, L3⟩
        have hz3 := L3.size
        have hLL := labL_len ms (kt ms kd k)
        have q1 := hrp.seg (zIdx ms d.1) (by rw [hLL]; exact hi1)
        have q2 := hrp.seg (zIdx ms d.2.1) (by rw [hLL]; exact hi2)
        rw [Nat.zero_add] at q1 q2
        have d0 := (L3.cell (p := ⟨ga, k * 3, none⟩) hbga.2).trans c0
        have d1 := (L3.cell (p := ⟨ga, k * 3 + 1, none⟩) hbga.2).trans c1
        have d2 := (L3.cell (p := ⟨ga, k * 3 + 2, none⟩) hbga.2).trans c2
        have HL3 : Hid (Below w.heap.size w w3) := HL.out.trans (L3.mono HL.out.size)
        have HROW3 : Hid (TRow w.heap.size w3 g c (kt ms kd k)) := HROW.out.below (Nat.le_refl _) L3
        have HALL3 : Hid (TRow w.heap.size w3 ga ca ((ktS ms kd).map (thOf ms kd))) := HALLR.out.below (Nat.le_refl _) L3
        have HFF3 : Hid (∀ n, ∀ id : Int, Calls Try.prog 61 #[.slice ao ms.length cap, .int .i64 id] (w3.drewN n) fun e w' => e = .returned (.int .i64 (zFind ms id)) ∧ w' = w3.drewN n) := fun n id => HFF.out _ (below_drewN HL3.out n) id
        clear hrp L3 c0 c1 c2 HROW HALLR HL HFF HP hLL
        generalize nth (labL ms (kt ms kd k)) (zIdx ms d.1) = la at *
        generalize nth (labL ms (kt ms kd k)) (zIdx ms d.2.1) = lb at *
        rw [y1] at q1
        rw [y2] at q2
        clear y1 y2 hi1 hi2
        generalize hza : zFind ms d.1 = za at *
        generalize hzb : zFind ms d.2.1 = zb at *
        by_cases he : la = lb
        · have heb : (la != lb) = false := by simp [he]
          have HN := HNX.out
          rw [if_pos he] at HN
          have HN' := hidP HN
          clear HN he HNX
          go_wp2_with fail
          go_quiet (first | (go_at_call 61; exact Calls.quiet_of_same (HFF3.out _ _)))
          go_wp2_with fail
          go_roundw
          case rel => exact ⟨k + 1, m, g, c, by omega, by go_num, rfl, by rw [HN'.out]; exact HLEN.out, by rw [HN'.out]; exact HROW3.out, HALL3.out, hne, below_drewN HL3.out nq⟩
          case measure => simp [intOf]; omega
        · have heb : (la != lb) = true := by simp [he]
          have HN := HNX.out
          rw [if_neg he] at HN
          have HN' := hidP HN
          clear HN he HNX
          have HOW : Hid (∀ n, (w3.drewN n).ownsRow w.heap.size 41 3 (.slice (some ⟨g, 0, none⟩) m c) m (tCells (kt ms kd k))) := fun n => by
            have h := HROW3.out
            unfold TRow at h
            rw [← HLEN.out] at h
            exact h
          have hg3 : g < w3.heap.size := by omega
          have hga3 : ga < w3.heap.size := by omega
          go_wp2_with fail
          go_quiet (first | (go_at_call 61; exact Calls.quiet_of_same (HFF3.out _ _)))
          obtain ⟨w4, hw4⟩ : ∃ w4, w4 = w3.drewN nq := ⟨_, rfl⟩
          have hg4 : w.heap.size ≤ w4.heap.size := by rw [hw4]; show _ ≤ w3.heap.size; omega
          have hga4 : ga < w4.heap.size := by rw [hw4]; exact hga3
          have HOW4 : Hid (w4.ownsRow w.heap.size 41 3 (.slice (some ⟨g, 0, none⟩) m c) m (tCells (kt ms kd k))) := by rw [hw4]; exact HOW.out nq
          have HALL4 : Hid (TRow w.heap.size w4 ga ca ((ktS ms kd).map (thOf ms kd))) := by rw [hw4]; exact HALL3.out
          have HL4 : Hid (Below w.heap.size w w4) := by rw [hw4]; exact below_drewN HL3.out nq
          have x0 : w4.cell? ⟨ga, k * 3, none⟩ = some (.int .i64 d.1) := by rw [hw4]; exact d0
          have x1 : w4.cell? ⟨ga, k * 3 + 1, none⟩ = some (.int .i64 d.2.1) := by rw [hw4]; exact d1
          have x2 : w4.cell? ⟨ga, k * 3 + 2, none⟩ = some (.int .i64 d.2.2) := by rw [hw4]; exact d2
          rw [← hw4]
          clear hw4 HOW HALL3 HL3 HROW3 HFF3 d0 d1 d2 q1 q2
          go_wp2_with (at_builtin; refine wpList_append_at _ rfl (.tmp 52) (.tmp 57) 27 rfl w.heap.size 41 j0 _ 3 24 Try.underlying27 hj0 hy0 hy1 hy2 rfl (by omega) g m c (tCells (kt ms kd k)) rfl (World.ownsRow.alloc HOW4.out _) (some ⟨w4.heap.size, 0, none⟩) 1 1 (tCells [d]) rfl (one_srcT (heap_alloc_new w4 _)) (by unfold maxLen; omega) (by omega) (by simp; omega) (w4.heap.size + 1) (by simp) ?_; intro gr cr w5 hownr hgrowr hatr hltr)
          have HF : Hid (TRow w.heap.size w5 gr cr (kt ms kd (k + 1)) ∧ TRow w.heap.size w5 ga ca ((ktS ms kd).map (thOf ms kd)) ∧ ga ≠ gr ∧ Below w.heap.size w w5) := by
            refine ⟨?_, ?_, ?_, ?_⟩
            · rw [HN'.out]
              refine TRow.snoc ?_
              rw [← HLEN.out]
              exact hownr
            · exact TRow.kept (World.ownsRow.alloc HALL4.out _) hgrowr (by simpa [Value.ownBlock] using hne)
            · rcases hatr with h | h <;> omega
            · exact (HL4.out.alloc HL4.out.size _).grown hgrowr (by simp; omega) (by intro q hq; cases hq; omega)
          have HML : Hid (m + 1 = (kt ms kd (k + 1)).length) := by show _ = _; rw [HN'.out, List.length_append, ← HLEN.out]; rfl
          clear hownr hgrowr hatr hltr
          go_wp2_with fail
          go_roundw
          case rel => exact ⟨k + 1, m + 1, gr, cr, by omega, by go_num, rfl, HML.out, HF.out⟩
          case measure => simp [intOf]; omega
      · obtain rfl : k = (ktS ms kd).length := by omega
        rw [HALL.out] at hrow hm
        have HE := hidP (And.intro hm (And.intro hrow L))
        clear hm hrow L hall
        go_wp2_with fail
        go_ret
        exact ⟨g, c, by rw [← HE.out.1]; rfl, HE.out.2⟩

end Go.Proofs.Ytfbindjacmaeoaa
namespace Go.Proofs.Ytfbindjacmaeoaa
open Go Go.RowKit

theorem tied_thr {ms : List Mk} {ts : List Th} {kd : Int} (h : thrB ms kd = false) : tiedB ms ts kd = false := by simp [tiedB, h]
theorem tied_len {ms : List Mk} {ts : List Th} {kd : Int} (h : ¬ ts.length + 1 = ms.length) : tiedB ms ts kd = false := by simp [tiedB, h]
theorem tied_bad {ms : List Mk} {ts : List Th} {kd : Int} {k : Nat} (hk : k < ts.length) (h : ¬ tOkB ms kd (tnth ts k) = true) : tiedB ms ts kd = false := by
  rcases hb : tiedB ms ts kd with _ | _
  · rfl
  · simp only [tiedB, Bool.and_eq_true] at hb
    exact absurd (List.all_eq_true.1 hb.1.2 _ (tnth_mem hk)) h
theorem tied_apart {ms : List Mk} {ts : List Th} {kd : Int} {k : Nat} (hk : k < ms.length) (h : ¬ lab (ts.map (eOf ms)) k = lab (ts.map (eOf ms)) 0) : tiedB ms ts kd = false := by
  rcases hb : tiedB ms ts kd with _ | _
  · rfl
  · simp only [tiedB, Bool.and_eq_true] at hb
    have := List.all_eq_true.1 hb.2 k (List.mem_range.2 hk)
    exact absurd (by simpa using this) h
theorem tied_good {ms : List Mk} {ts : List Th} {kd : Int} (h1 : thrB ms kd = true) (h2 : ts.length + 1 = ms.length) (h3 : ts.all (tOkB ms kd) = true) (h4 : ∀ i, i < ms.length → lab (ts.map (eOf ms)) i = lab (ts.map (eOf ms)) 0) : tiedB ms ts kd = true := by
  simp only [tiedB, h1, h2, h3, Bool.true_and, Bool.and_true, decide_true, List.all_eq_true, decide_eq_true_eq]
  exact fun i hi => h4 i (List.mem_range.1 hi)

set_option maxRecDepth 100000 in
set_option maxHeartbeats 4000000 in
theorem sTied (ao at_ : Option Addr) (cap ct : Nat) (ms : List Mk) (ts : List Th) (kd : Int) (w : World) (hv : MView w ao ms) (ht : TView w at_ ts) (hsm : MSmall ms) (htl : ts.length ≤ 1048576) :
    Calls Try.prog 18 #[.slice ao ms.length cap, .slice at_ ts.length ct, .int .i64 kd] w fun e w' => e = .returned (.bool (tiedB ms ts kd)) ∧ Below w.heap.size w w' := by
  have HC := hidP (sMarks ao cap ms w hv hsm)
  have HK : ∀ w, Hid _ := fun w => hidP (sKind kd w)
  rcases caseT ms kd with ⟨h, h3⟩ | ⟨h, h2, h3⟩ | ⟨h, h2, h3⟩
  · have HV := hidP (tied_thr (ts := ts) h3)
    rw [h] at HC
    clear hv ht hsm h h3
    go_enter Try.func18, Try.ntmps18
    go_wp2_with fail
    refine HC.out.mono ?_
    rintro e w1 ⟨rfl, n1, hw1⟩
    have HX : Hid (Below w.heap.size w w1) := by rw [hw1]; exact below_drewN (Below.refl _ _) n1
    clear hw1
    go_wp2_with fail
    go_ret
    exact ⟨ret_bool HV.out.symm, HX.out⟩
  · have HV := hidP (tied_thr (ts := ts) h3)
    rw [h] at HC
    rw [h2] at HK
    clear hv ht hsm h h3 h2
    go_enter Try.func18, Try.ntmps18
    go_wp2_with fail
    refine HC.out.mono ?_
    rintro e w1 ⟨rfl, n1, hw1⟩
    have HX : Hid (Below w.heap.size w w1) := by rw [hw1]; exact below_drewN (Below.refl _ _) n1
    clear hw1
    go_wp2_with fail
    refine (HK _).out.mono ?_
    rintro e w2 ⟨rfl, hw2⟩
    subst w2
    go_wp2_with fail
    go_ret
    exact ⟨ret_bool HV.out.symm, HX.out⟩
  · have hn := marksB_len h
    have hwr : IntKind.i64.wrap ((ms.length : Int) - 1) = (ms.length : Int) - 1 := IntWalk.i64_in _ ⟨by omega, by omega⟩
    by_cases hln : ts.length + 1 = ms.length
    · have hlb : ((ts.length : Int) != (ms.length : Int) - 1) = false := by simp; omega
      have HH := hidP h3
      have HLN := hidP hln
      have HSM := hidP hsm
      have HVM := hidP hv
      have HVT := hidP ht
      have hml : 0 < ms.length := by omega
      rw [h] at HC
      rw [h2] at HK
      clear hv ht hsm h h3 h2 hln
      go_enter Try.func18, Try.ntmps18
      go_wp2_with fail
      refine HC.out.mono ?_
      rintro e w1 ⟨rfl, n1, hw1⟩
      have HX : Hid (∃ n, w1 = w.drewN n) := ⟨n1, hw1⟩
      clear hw1
      go_wp2_with fail
      refine (HK _).out.mono ?_
      rintro e w2 ⟨rfl, hw2⟩
      subst w2
      clear HK HC
      go_wp2_with fail
      go_loopw [7] (fun i wr => ∃ k : Nat, k ≤ ts.length ∧ i = .int .i64 k ∧ (ts.take k).all (tOkB ms kd) = true ∧ ∃ n, wr = w.drewN n) (fun i _ => ts.length - (intOf i).toNat)
      case atStart => exact ⟨0, Nat.zero_le _, rfl, rfl, HX.out⟩
      case round =>
        obtain ⟨k, hk, rfl, hall, hw⟩ := hrel
        have HALL := hidP hall
        have HW := hidP hw
        clear hall
        by_cases hlt : k < ts.length
        · have LW : Below w.heap.size w wr := by obtain ⟨n, e⟩ := hw; rw [e]; exact below_drewN (Below.refl _ _) n
          obtain ⟨bt, ot, rfl, hbt, hst⟩ := (HVT.out.next LW).seg (by omega)
          obtain ⟨c0, c1, c2⟩ := hst k hlt
          have hvw := HVM.out.next LW
          have HFA := hidP (sFind ao cap ms (tnth ts k).1 wr hvw (by omega))
          have HFB := hidP (sFind ao cap ms (tnth ts k).2.1 wr hvw (by omega))
          have hiff := tOkB_iff ms kd (tnth ts k)
          have HBAD := hidP (tied_bad (ms := ms) (ts := ts) (kd := kd) hlt)
          have HGO := hidP (all_take_succ (tOkB ms kd) hlt HALL.out)
          have hk0 : (0 : Int) ≤ (k : Int) := Int.natCast_nonneg _
          have hk1 : (k : Int) < (ts.length : Int) := by omega
          obtain ⟨d, hd⟩ : ∃ d, d = tnth ts k := ⟨_, rfl⟩
          rw [← hd] at c0 c1 c2 HFA HFB hiff HBAD HGO
          clear hst hd HALL
          have HEND : Hid (∀ n, Below w.heap.size w (wr.drewN n)) := fun n => below_drewN LW n
          by_cases hA : zFind ms d.1 < 0
          · have HV := hidP (HBAD.out (fun h => by have := hiff.1 h; omega))
            have hAb : decide (zFind ms d.1 < 0) = true := by simp [hA]
            generalize zFind ms d.1 = za at *
            clear hiff HBAD HGO hw LW hvw
            go_wp2_with fail
            refine HFA.out.mono ?_
            rintro e w2 ⟨rfl, hw2⟩
            subst w2
            go_wp2_with fail
            refine HFB.out.mono ?_
            rintro e w2 ⟨rfl, hw2⟩
            subst w2
            go_wp2_with fail
            go_quiet (fail)
            go_wp2_with fail
            go_ret
            exact ⟨ret_bool HV.out.symm, HEND.out _⟩
          · have hAb : decide (zFind ms d.1 < 0) = false := by simp [hA]
            by_cases hB : zFind ms d.2.1 < 0
            · have HV := hidP (HBAD.out (fun h => by have := hiff.1 h; omega))
              have hBb : decide (zFind ms d.2.1 < 0) = true := by simp [hB]
              generalize zFind ms d.1 = za at *
              generalize zFind ms d.2.1 = zb at *
              clear hiff HBAD HGO hw LW hvw
              go_wp2_with fail
              refine HFA.out.mono ?_
              rintro e w2 ⟨rfl, hw2⟩
              subst w2
              go_wp2_with fail
              refine HFB.out.mono ?_
              rintro e w2 ⟨rfl, hw2⟩
              subst w2
              go_wp2_with fail
              go_quiet (fail)
              go_wp2_with fail
              go_ret
              exact ⟨ret_bool HV.out.symm, HEND.out _⟩
            · have hBb : decide (zFind ms d.2.1 < 0) = false := by simp [hB]
              by_cases hG : zFind ms d.2.1 ≤ zFind ms d.1
              · have HV := hidP (HBAD.out (fun h => by have := hiff.1 h; omega))
                have hGb : decide (zFind ms d.2.1 ≤ zFind ms d.1) = true := by simp [hG]
                have hGc : decide (zFind ms d.1 ≥ zFind ms d.2.1) = true := by simp [hG]
                generalize zFind ms d.1 = za at *
                generalize zFind ms d.2.1 = zb at *
                clear hiff HBAD HGO hw LW hvw
                go_wp2_with fail
                refine HFA.out.mono ?_
                rintro e w2 ⟨rfl, hw2⟩
                subst w2
                go_wp2_with fail
                refine HFB.out.mono ?_
                rintro e w2 ⟨rfl, hw2⟩
                subst w2
                go_wp2_with fail
                go_quiet (fail)
                go_wp2_with fail
                go_ret
                exact ⟨ret_bool HV.out.symm, HEND.out _⟩
              · have hGb : decide (zFind ms d.2.1 ≤ zFind ms d.1) = false := by simp; omega
                have hGc : decide (zFind ms d.1 ≥ zFind ms d.2.1) = false := by simp; omega
                obtain ⟨a1, a2, -⟩ := zIdx_lt (ms := ms) (id := d.1) (by omega)
                obtain ⟨b1, b2, -⟩ := zIdx_lt (ms := ms) (id := d.2.1) (by omega)
                obtain ⟨b, off, rfl, hb, hs⟩ := MSeg.seg hvw hml
                obtain ⟨-, ae, ce, p1, vae⟩ := hs.at a1
                obtain ⟨-, af, cf, q1, vaf⟩ := hs.at b1
                have HBT : Hid (∀ n, Calls Try.prog 65 #[.slice ae (mat ms (zIdx ms d.1)).length ce, .slice af (mat ms (zIdx ms d.2.1)).length cf, .int .i64 kd] (wr.drewN n) fun e w' => e = .returned (.int .i64 (betV (mat ms (zIdx ms d.1)) (mat ms (zIdx ms d.2.1)) kd)) ∧ ∃ m, w' = (wr.drewN n).drewN m) := fun n =>
                  sBet ae af ce cf _ _ kd (wr.drewN n) (View.drewN vae n) (View.drewN vaf n) (HSM.out.2 _) (HSM.out.2 _)
                have y1 : zIdx ms d.1 = (zFind ms d.1).toNat := rfl
                have y2 : zIdx ms d.2.1 = (zFind ms d.2.1).toNat := rfl
                have z1 : zFind ms d.1 < (ms.length : Int) := by omega
                have z2 : zFind ms d.2.1 < (ms.length : Int) := by omega
                have hiff2 : tOkB ms kd d = true ↔ d.2.2 = betV (mat ms (zIdx ms d.1)) (mat ms (zIdx ms d.2.1)) kd := ⟨fun h => (hiff.1 h).2.2.2, fun h => hiff.2 ⟨by omega, by omega, by omega, h⟩⟩
                have HIFF := hidP hiff2
                generalize betV (mat ms (zIdx ms d.1)) (mat ms (zIdx ms d.2.1)) kd = bv at *
                generalize mat ms (zIdx ms d.1) = ma at *
                generalize mat ms (zIdx ms d.2.1) = mb at *
                rw [y1] at p1
                rw [y2] at q1
                clear y1 y2 a1 a2 b1 b2 hiff hiff2 hs vae vaf hw LW
                have hA0 : 0 ≤ zFind ms d.1 := by omega
                have hB0 : 0 ≤ zFind ms d.2.1 := by omega
                generalize zFind ms d.1 = za at *
                generalize zFind ms d.2.1 = zb at *
                by_cases hE : d.2.2 = bv
                · have hEb : (d.2.2 != bv) = false := by simp [hE]
                  have HGG := hidP (HGO.out (HIFF.out.2 hE))
                  clear HIFF HBAD HGO hE hvw
                  go_wp2_with fail
                  refine HFA.out.mono ?_
                  rintro e w2 ⟨rfl, hw2⟩
                  subst w2
                  go_wp2_with fail
                  refine HFB.out.mono ?_
                  rintro e w2 ⟨rfl, hw2⟩
                  subst w2
                  go_wp2_with fail
                  go_quiet (first | (go_at_call 65; exact Calls.quiet_of (HBT.out _)))
                  go_wp2_with fail
                  go_roundw
                  case rel => exact ⟨k + 1, by omega, by go_num, HGG.out, by obtain ⟨n, hn⟩ := HW.out; exact ⟨n + nq, by rw [hn]; simp⟩⟩
                  case measure => simp [intOf]; omega
                · have hEb : (d.2.2 != bv) = true := by simp [hE]
                  have HV := hidP (HBAD.out (fun h => hE (HIFF.out.1 h)))
                  clear HIFF HBAD HGO hE hvw
                  go_wp2_with fail
                  refine HFA.out.mono ?_
                  rintro e w2 ⟨rfl, hw2⟩
                  subst w2
                  go_wp2_with fail
                  refine HFB.out.mono ?_
                  rintro e w2 ⟨rfl, hw2⟩
                  subst w2
                  go_wp2_with fail
                  go_quiet (first | (go_at_call 65; exact Calls.quiet_of (HBT.out _)))
                  go_wp2_with fail
                  go_ret
                  exact ⟨ret_bool HV.out.symm, HEND.out _⟩
        · obtain rfl : k = ts.length := by omega
          rw [List.take_length] at HALL
          have LW : Below w.heap.size w wr := by obtain ⟨n, e⟩ := hw; rw [e]; exact below_drewN (Below.refl _ _) n
          have HP := hidP (sParts ao at_ cap ct ms ts wr (HVM.out.next LW) (HVT.out.next LW) hn htl (fun t ht => by have := (tOkB_iff ms kd t).1 (List.all_eq_true.1 HALL.out t ht); exact ⟨this.1, this.2.1⟩))
          have HLW := hidP LW
          clear hw LW
          go_wp2_with fail
          refine HP.out.mono ?_
          rintro e w2 ⟨gp, cp, rfl, hrp, L2⟩
          have HRP := hidP hrp.seg
          have HL2 : Hid (Below w.heap.size w w2) := HLW.out.trans (L2.mono HLW.out.size)
          have hgp := hrp.lt
          clear hrp L2 HP
          go_wp2_with fail
          go_loopw [11] (fun i wq => ∃ j : Nat, j ≤ ms.length ∧ i = .int .i64 j ∧ (∀ i, i < j → lab (ts.map (eOf ms)) i = lab (ts.map (eOf ms)) 0) ∧ ∃ n, wq = w2.drewN n) (fun i _ => ms.length - (intOf i).toNat)
          case atStart => exact ⟨0, Nat.zero_le _, rfl, fun i hi => by omega, 0, rfl⟩
          case round =>
            obtain ⟨j, hj, rfl, hsame, hw2⟩ := hrel
            have HSAME := hidP hsame
            have HW2 := hidP hw2
            have HLQ : Hid (∀ n, Below w.heap.size w (wr.drewN n)) := fun n => by obtain ⟨m, e⟩ := HW2.out; rw [e]; exact below_drewN (below_drewN HL2.out m) n
            clear hsame hw2
            by_cases hjl : j < ms.length
            · have q1 := HRP.out j (by rw [labL_len]; exact hjl)
              have q2 := HRP.out 0 (by rw [labL_len]; exact hml)
              rw [Nat.zero_add, labL_at hjl] at q1
              rw [Nat.zero_add, labL_at hml] at q2
              have r1 : wr.cell? ⟨gp, j, none⟩ = some (.int .i64 (lab (ts.map (eOf ms)) j : Nat)) := by obtain ⟨m, e⟩ := HW2.out; rw [e]; exact q1
              have r2 : wr.cell? ⟨gp, 0, none⟩ = some (.int .i64 (lab (ts.map (eOf ms)) 0 : Nat)) := by obtain ⟨m, e⟩ := HW2.out; rw [e]; exact q2
              have hj0 : (0 : Int) ≤ (j : Int) := Int.natCast_nonneg _
              have hj1 : (j : Int) < (ms.length : Int) := by omega
              have hm1 : (0 : Int) < (ms.length : Int) := by omega
              have HAP := hidP (tied_apart (ms := ms) (ts := ts) (kd := kd) hjl)
              clear q1 q2
              by_cases he : lab (ts.map (eOf ms)) j = lab (ts.map (eOf ms)) 0
              · have hs2 : Hid (∀ i, i < j + 1 → lab (ts.map (eOf ms)) i = lab (ts.map (eOf ms)) 0) := fun i hi => by
                  rcases Nat.lt_or_ge i j with h | h
                  · exact HSAME.out i h
                  · obtain rfl : i = j := by omega
                    exact he
                have heb : (((lab (ts.map (eOf ms)) j : Nat) : Int) != ((lab (ts.map (eOf ms)) 0 : Nat) : Int)) = false := by simp [he]
                clear he HAP
                go_wp2_with fail
                go_quiet (fail)
                go_wp2_with fail
                go_roundw
                case rel => exact ⟨j + 1, by omega, by go_num, hs2.out, by obtain ⟨m, e⟩ := HW2.out; exact ⟨m + nq, by rw [e]; simp⟩⟩
                case measure => simp [intOf]; omega
              · have HV := hidP (HAP.out he)
                have heb : (((lab (ts.map (eOf ms)) j : Nat) : Int) != ((lab (ts.map (eOf ms)) 0 : Nat) : Int)) = true := by simp; omega
                clear he HAP
                go_wp2_with fail
                go_quiet (fail)
                go_wp2_with fail
                go_ret
                exact ⟨ret_bool HV.out.symm, HLQ.out _⟩
            · obtain rfl : j = ms.length := by omega
              have HV := hidP (tied_good HH.out HLN.out HALL.out HSAME.out)
              go_wp2_with fail
              go_ret
              exact ⟨ret_bool HV.out.symm, HLQ.out 0⟩
    · have hlb : ((ts.length : Int) != (ms.length : Int) - 1) = true := by simp; omega
      have HV := hidP (tied_len (kd := kd) hln)
      rw [h] at HC
      rw [h2] at HK
      clear hv ht hsm h h3 h2 hln
      go_enter Try.func18, Try.ntmps18
      go_wp2_with fail
      refine HC.out.mono ?_
      rintro e w1 ⟨rfl, n1, hw1⟩
      have HX : Hid (Below w.heap.size w w1) := by rw [hw1]; exact below_drewN (Below.refl _ _) n1
      clear hw1
      go_wp2_with fail
      refine (HK _).out.mono ?_
      rintro e w2 ⟨rfl, hw2⟩
      subst w2
      go_wp2_with fail
      go_ret
      exact ⟨ret_bool HV.out.symm, HX.out⟩

end Go.Proofs.Ytfbindjacmaeoaa
