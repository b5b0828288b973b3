import Derived.Test.YtaaagmgglolibaaGreatFeSpecZz
import Derived.Test.YtaaagmgglolibaaGreatWithZz
import Derived.Test.YtaaagmgglolibaaGreatLastZz
import Derived.Test.YtaaagmgglolibaaGreatMRowZz
import Derived.Test.YtaaagmgglolibaaGreatGKeepZz
set_option maxRecDepth 100000
set_option maxHeartbeats 4000000
namespace Go.Proofs.YtaaagmgglolibaaGreat
open Go Go.RowKit
theorem Row.one (w : World) (x : Int) (base : Nat) (hb : base <= w.heap.size) : Row base (w.alloc (.cells #[.int .i64 x] 2)) w.heap.size 1 [x] := World.ownsRow_lit w #[.int .i64 x] 1 hb (by unfold maxLen; omega) rfl
theorem Row.same {base : Nat} {w w' : World} {g c : Nat} {xs : List Int} (h : Row base w g c xs) (e : w'.heap[g]? = w.heap[g]?) : Row base w' g c xs := by
 refine ⟨h.1, ?_⟩
 rcases h.2 with hn | ⟨g', cap, cur, e1, hb, hgg, rest⟩
 · exact .inl hn
 · refine .inr ⟨g', cap, cur, e1, hb, ?_, rest⟩
   injection e1 with e2 e3 e4
   injection e2 with e5
   injection e5 with e6
   rw [<- e6, e, e6]
   exact hgg
theorem Row.next {base B : Nat} {w w' : World} {g c : Nat} {xs : List Int} (h : Row base w g c xs) (hw : Below B w w') (hB : g < B) : Row base w' g c xs := h.same (hw.block g hB)
theorem Row.mono14 {base base' : Nat} {w : World} {g c : Nat} {xs : List Int} (h : Row base w g c xs) (hb : base' <= base) : Row base' w g c xs := ⟨h.1, h.2.imp id fun ⟨g', cap, cur, e, hg, r⟩ => ⟨g', cap, cur, e, Nat.le_trans hb hg, r⟩⟩
theorem ZeC {base : Nat} {w : World} {g c n : Nat} {xs : List Int} (h : Row base w g c xs) (hn : xs.length = n) : w.ownsRow base 2 1 (.slice (some ⟨g, 0, none⟩) n c) n (xs.map (Value.int .i64)) := by
 subst hn; exact h
def Zaf (w : World) (b : Nat) (h : Ht) : Prop := w.heap[b]? = some (.cells #[.int .i64 h.1, .int .i64 h.2] 66)
theorem Zaf.cells {w : World} {b : Nat} {h : Ht} (hh : Zaf w b h) : w.cell? ⟨b, 0, none⟩ = some (.int .i64 h.1) /\ w.cell? ⟨b, 1, none⟩ = some (.int .i64 h.2) /\ w.frozen? ⟨b, 0, none⟩ = false /\ w.frozen? ⟨b, 1, none⟩ = false := by
 unfold Zaf at hh
 simp [World.cell?, World.frozen?, hh]
theorem Zaf.lt {w : World} {b : Nat} {h : Ht} (hh : Zaf w b h) : b < w.heap.size := by
 unfold Zaf at hh
 rcases Nat.lt_or_ge b w.heap.size with e | e
 · exact e
 · rw [Array.getElem?_eq_none e] at hh; cases hh
theorem Zaf.next {w w' : World} {b B : Nat} {h : Ht} (hh : Zaf w b h) (hw : Below B w w') (hB : b < B) : Zaf w' b h := (hw.block b hB).trans hh
theorem Zaf.store {w : World} {b : Nat} {h k : Ht} (hh : Zaf w b h) : Zaf ((w.setCell ⟨b, 0, none⟩ (.int .i64 k.1)).setCell ⟨b, 1, none⟩ (.int .i64 k.2)) b k := by
 unfold Zaf at hh ⊢
 simp [World.setCell, Array.getElem?_modify, hh]
theorem Zv {P : Program} {Q : Exit -> Act -> World -> Prop} {ops : Array Oper} {S : World -> Prop} {listed : Array Bool} {a : Act} {w : World} {n : Nat} (fuel : Nat) (calm : List Nat) (hn : n = fuel + calm.length) (hs : Region.noSelect ops = true) (hc : ZcS .any ops listed calm = true) (hS : S w)
 (h : ZdB P ops S (fun a' => wpAnyH P .any ops (NoPanic Q) S fuel (Zia listed calm) a' w) calm a) : wpAnyH P .any ops (NoPanic Q) S n listed a w := by
 subst hn
 exact Zbt (P := P) (md := .any) (Q := NoPanic Q) (ops := ops) (S := S) (w := w) hs (fun c a d v w h => h) hS calm fuel listed a hc h (fun a' h' => h')
theorem ZaU {P : Program} {md : Region.Mode} {Q : Exit -> Act -> World -> Prop} {ops : Array Oper} {S : World -> Prop} {fuel : Nat} {listed : Array Bool} {a : Act} {w : World} {o o2 : Oper} (i j : Nat) (hr : Region.ready md ops listed = [i, j]) (ho : ops[i]? = some o) (ho2 : ops[j]? = some o2)
 (h : ∀ K : Act -> World -> Prop, Shut (∀ a w, S w -> (S w -> wpAnyH P md ops Q S fuel (listed.setIfInBounds i true) a w) -> K a w) -> if Region.wanted o (yielded ops a.tmps) = true then Oper.wp P o a w K Q else K (a.put o.dst undef) w)
 (h2 : ∀ K : Act -> World -> Prop, Shut (∀ a w, S w -> (S w -> wpAnyH P md ops Q S fuel (listed.setIfInBounds j true) a w) -> K a w) -> if Region.wanted o2 (yielded ops a.tmps) = true then Oper.wp P o2 a w K Q else K (a.put o2.dst undef) w) : wpAnyH P md ops Q S (fuel + 1) listed a w :=
 wpAnyH_ready hr (by simp) (AllReadyH.cons ho h (AllReadyH.cons ho2 h2 AllReadyH.nil))
theorem Znn (am al aq : Option Addr) (cm cl cq : Nat) (ms : List Mk) (ls : List (List Int)) (q : List Int) (fr : Int) (w : World) (hm : Zw w am ms) (hl : Zaj w al ls) (hq : Zp w aq q) (hsm : ZP ms) (hcs : Za3 ls) (hql : q.length <= 1048576) (hw : ZR ms ls = true) (hf : 0 <= Zk ms fr) :
 Calls Tryz.prog 204 #[.agg #[.slice am ms.length cm, .slice al ls.length cl], .int .i64 fr, .slice aq q.length cq] w fun e w' => ∃ g c, e = .returned (.slice (some ⟨g, 0, none⟩) (Zac ms ls q fr).length c) /\ Row w.heap.size w' g c (Zac ms ls q fr) /\ Below w.heap.size w w' := by
 obtain ⟨i0, hi0, hx0, hx1, hx2⟩ := info_parts Tryz.info2
 obtain ⟨W, hW⟩ : ∃ W, w.alloc (.cells #[.slice am ms.length cm, .slice al ls.length cl] 47) = W := ⟨_, rfl⟩
 have hB : Below w.heap.size w W := by rw [<- hW]; exact (Below.refl _ _).alloc (Nat.le_refl _) _
 have hI : Z5 W w.heap.size am cm ms al cl ls := by rw [<- hW]; exact Z5.box hm hl
 have hWs : W.heap.size = w.heap.size + 1 := by rw [<- hW]; simp
 have h60 := ZT (Zz hw)
 obtain ⟨bm, om, rfl, hbm, hmseg⟩ := Zc8 hI.mv (by have := (Zx hf).1; omega)
 obtain ⟨bl, ol, rfl, hbl, hlseg⟩ := hI.cv.seg (by have := (Zx hf).1; have := Zaq hw; omega)
 have HB := Za hB
 have HI := Za hI
 have HQ := Za (Zp.next hq hB)
 have HSM := Za hsm
 have HCS := Za hcs
 have HW := Za hw
 have HMS := Za hmseg
 have HLS := Za hlseg
 have R0 : Hid (Row W.heap.size (W.alloc (.cells #[.int .i64 fr] 2)) (w.heap.size + 1) 1 [fr]) := by show Row _ _ _ _ _; rw [<- hWs]; exact Row.one W fr W.heap.size (Nat.le_refl _)
 have LA := Za ((Below.refl W.heap.size W).alloc (Nat.le_refl _) (.cells #[.int .i64 fr] 2))
 have HM : Hid (∀ j, j < ms.length -> ∃ ae ce, W.cell? ⟨bm, om + j * 2 + 1, none⟩ = some (.slice ae (mat ms j).length ce) /\ Zp W ae (mat ms j)) := fun j hj => by
  obtain ⟨h0, ae, ce, h1, h2⟩ := hmseg j hj
  exact ⟨ae, ce, h1, h2⟩
 have HLI : Hid (∀ j, j < ms.length -> ∃ ae ce, W.cell? ⟨bl, ol + j, none⟩ = some (.slice ae (cn ls j).length ce) /\ Zp W ae (cn ls j)) := fun j hj => hlseg j (by have := Zaq hw; omega)
 have hLL : ls.length = ms.length := Zaq hw
 have HLL := Za hLL
 clear hm hl hq hB hI hsm hcs hmseg hlseg HMS HLS hLL hw
 go_enter Tryz.func204, Tryz.ntmps204
 go_wp2_with fail
 go_loopw [1, 7] (fun v o wr => ∃ (x : Int) (done : List Int) (g c : Nat), v = .int .i64 x /\ o = .slice (some ⟨g, 0, none⟩) (done.length + 1) c /\ 0 <= Zk ms x /\ Zac ms ls q fr = done ++ Zac ms ls q x /\ Row W.heap.size wr g c (done ++ [x]) /\ Below W.heap.size W wr) (fun v _ _ => rkW ms q (intOf v))
 case atStart => exact ⟨fr, [], _, 1, rfl, rfl, hf, rfl, R0.out, LA.out⟩
 case round =>
  clear R0 LA hf
  obtain ⟨x, done, g, c, rfl, rfl, hfx, heq, hrow, L⟩ := hrel
  obtain ⟨hj1, hj2, hj3⟩ := Zx hfx
  have HFX := Za hfx
  have HEQ := Za heq
  have HR := Za hrow
  have HL := Za L
  have hgl := hrow.lt2
  have hIw := HI.out.below L
  have c0 := hIw.c0
  have c1 := hIw.c1
  have HF := Za (ZcM (some ⟨bm, om, none⟩) cm ms x wr hIw.mv (by omega))
  obtain ⟨j, hj⟩ : ∃ j, Zn ms x = j := ⟨_, rfl⟩
  rw [<- hj2, hj] at HF
  rw [hj] at hj1
  obtain ⟨ae, ce, hce, hve⟩ := HM.out j hj1
  obtain ⟨aj, cj, hcj, hvj⟩ := HLI.out j hj1
  have d0 := (L.cell (p := ⟨bm, om + j * 2 + 1, none⟩) hbm).trans hce
  have d1 := (L.cell (p := ⟨bl, ol + j, none⟩) hbl).trans hcj
  have HFA := Za (fun W' (L' : Below wr.heap.size wr W') => Zgg ae aq ce cq (mat ms j) q W' (Zp.next hve (Zd L L')) (Zp.next HQ.out (Zd L L')) (HSM.out.2 j) hql)
  have hjl : j < ls.length := by have := HLL.out; omega
  have HHX : Hid (Zl ms q x = (x, ZN (mat ms j) q)) := by show _ = _; rw [Zl, hj]
  have HJ := Za hj
  have hi0' : (0 : Int) <= (j : Int) := Int.natCast_nonneg _
  have hi1' : (j : Int) < (ms.length : Int) := by omega
  have hi2' : (j : Int) < (ls.length : Int) := by omega
  have hwz := L.size
  have HVJ := Za (Zp.next hvj L)
  clear hfx heq hrow L hIw hj2 hj3 hj hce hve hcj hvj
  go_wp2_with fail
  refine HF.out.mono ?_
  rintro e w1 ⟨rfl, hw1⟩
  subst hw1
  have HC1 := Za (HFA.out w1 (Below.refl _ _))
  go_wp2_with fail
  refine HC1.out.mono ?_
  rintro e w2 ⟨rfl, n2, hw2⟩
  obtain ⟨w3, hw3⟩ : ∃ w3, w2.alloc (.cells #[.int .i64 x, .int .i64 (ZN (mat ms j) q)] 66) = w3 := ⟨_, rfl⟩
  have hs2 : w2.heap.size = w1.heap.size := by rw [hw2]; rfl
  have L3 : Below w1.heap.size w1 w3 := by rw [<- hw3]; exact (show Below w1.heap.size w1 w2 by rw [hw2]; exact below_drewN (Below.refl _ _) n2).alloc (by omega) _
  have hH : Zaf w3 w1.heap.size (Zl ms q x) := by rw [<- hw3, HHX.out, <- hs2]; exact heap_alloc_new w2 _
  have HL3 := Za L3
  have HH3 := Za hH
  clear hw2 L3 hH HF HC1
  go_wp2_with fail
  go_loopw [10] (fun v wr => ∃ k : Nat, k <= (cn ls j).length /\ v = .int .i64 k /\ Zaf wr w1.heap.size (Z3 ms q (cn ls j) (Zl ms q x) k) /\ Below w1.heap.size w1 wr) (fun v _ => (cn ls j).length - (intOf v).toNat)
  case atStart => exact ⟨0, Nat.zero_le _, rfl, HH3.out, HL3.out⟩
  case round =>
   clear HL3 HH3 hw3 hs2
   obtain ⟨k, hk, rfl, hH, L⟩ := hrel
   have c0 := (L.cell (p := ⟨w.heap.size, 0, none⟩) (by show w.heap.size < _; omega)).trans c0
   have c1 := (L.cell (p := ⟨w.heap.size, 1, none⟩) (by show w.heap.size < _; omega)).trans c1
   have d1 := (L.cell (p := ⟨bl, ol + j, none⟩) (by show bl < _; omega)).trans d1
   have hkk := HCS.out.2 j
   obtain ⟨b0, b1, f0, f1⟩ := hH.cells
   have HB2 := Za hH
   have HL2 := Za L
   clear hH
   by_cases hlt : k < (cn ls j).length
   · obtain ⟨ba, oa, rfl, hba, hsa⟩ : ∃ b off, aj = some ⟨b, off, none⟩ /\ b < w1.heap.size /\ Seg w1 b off (cn ls j) := by
      rcases HVJ.out with h | h
      · rw [h] at hlt; simp at hlt
      · exact h
     have hxk := (L.cell (p := ⟨ba, oa + k, none⟩) hba).trans (hsa k hlt)
     have hmem : nth (cn ls j) k ∈ cn ls j := (ZI _ _).1 (Za5 hlt)
     have hwl := ZaB HW.out hj1 hmem
     have HBT : Hid (Z3 ms q (cn ls j) (Zl ms q x) (k + 1) = if Zu (Zl ms q (nth (cn ls j) k)) (Z3 ms q (cn ls j) (Zl ms q x) k) = true then Zl ms q (nth (cn ls j) k) else Z3 ms q (cn ls j) (Zl ms q x) k) := rfl
     obtain ⟨y, hy⟩ : ∃ y, nth (cn ls j) k = y := ⟨_, rfl⟩
     rw [hy] at hxk hwl HBT
     obtain ⟨m, hmm⟩ : ∃ m, Zn ms y = m := ⟨_, rfl⟩
     obtain ⟨hm1, hm2, hm3⟩ := Zx hwl.1
     rw [hmm] at hm1 hm2
     obtain ⟨af, cf, hcf, hvf⟩ := HM.out m hm1
     have d2 := (L.cell (p := ⟨bm, om + m * 2 + 1, none⟩) (by show bm < _; omega)).trans ((HL.out.cell (p := ⟨bm, om + m * 2 + 1, none⟩) hbm).trans hcf)
     have hvf1 := Zp.next hvf (Zd HL.out L)
     have hq1 := Zp.next HQ.out (Zd HL.out L)
     have HFI := Za (fun W' (L' : Below wr.heap.size wr W') => ZcM (some ⟨bm, om, none⟩) cm ms y W' (HI.out.below (Zd (Zd HL.out L) L')).mv (by omega))
     rw [<- hm2] at HFI
     have HFR := Za (fun W' (L' : Below wr.heap.size wr W') => Zgg af aq cf cq (mat ms m) q W' (Zp.next hvf1 L') (Zp.next hq1 L') (HSM.out.2 m) hql)
     have HHY : Hid (Zl ms q y = (y, ZN (mat ms m) q)) := by show _ = _; rw [Zl, hmm]
     have hm0 : (0 : Int) <= (m : Int) := Int.natCast_nonneg _
     have hm4 : (m : Int) < (ms.length : Int) := by omega
     have hwz2 := L.size
     have BL1 := Za ((Below.refl wr.heap.size wr).drew)
     have BL2 := Za (((Below.refl wr.heap.size wr).alloc (Nat.le_refl _) (.cells #[.int .i64 0, .int .i64 0] 66)).drew)
     have HSX : Hid (∀ W', Below wr.heap.size wr W' -> W'.cell? ⟨w.heap.size, 0, none⟩ = some (.slice (some ⟨bm, om, none⟩) ms.length cm) /\ W'.cell? ⟨bm, om + m * 2 + 1, none⟩ = some (.slice af (mat ms m).length cf)) := fun W' L' => ⟨(L'.cell (p := ⟨w.heap.size, 0, none⟩) (by show w.heap.size < _; omega)).trans c0, (L'.cell (p := ⟨bm, om + m * 2 + 1, none⟩) (by show bm < _; omega)).trans d2⟩
     clear hsa hmem hwl hm2 hm3 hcf hvf hvf1 hq1 hmm L hy
     go_wp2_with fail
     refine Zr (S := fun W' => Below wr.heap.size wr W') (fuel := 8) [0, 1, 2, 3, 4, 5, 10] (by kernel_rfl) (by kernel_rfl) (by kernel_rfl) (by kernel_rfl) BL1.out (fun _ => ?_)
     iterate 7 (refine ⟨_, rfl, ?_⟩; apply Exists.intro; refine ⟨Or.inl ⟨by rfl, fun w' hw' => ?_⟩, ?_⟩; (focus (obtain ⟨e1, e2⟩ := HSX.out w' hw'; first | (go_simp; done) | (go_simp; with_reducible rfl))); simp only [Act.put, List.getElem_toArray, List.getElem_cons_succ, List.getElem_cons_zero, List.setIfInBounds_toArray, List.set_cons_zero, List.set_cons_succ])
     refine ZaU 6 13 (by kernel_rfl) rfl rfl (fun K hK => ?_) (fun K hK => ?_)
     · skip
       go_simp
       refine (HFI.out _ BL1.out).mono ?_
       rintro e w4 ⟨rfl, hw4⟩
       subst hw4
       refine hK.out _ _ BL1.out (fun _ => ?_)
       clear hK K
       refine Zv 4 [7, 8, 9] (by kernel_rfl) (by kernel_rfl) (by kernel_rfl) BL1.out ?_
       iterate 3 (refine ⟨_, rfl, ?_⟩; apply Exists.intro; refine ⟨Or.inl ⟨by rfl, fun w' hw' => ?_⟩, ?_⟩; (focus (obtain ⟨e1, e2⟩ := HSX.out w' hw'; first | (go_simp; done) | (go_simp; with_reducible rfl))); simp only [Act.put, List.getElem_toArray, List.getElem_cons_succ, List.getElem_cons_zero, List.setIfInBounds_toArray, List.set_cons_zero, List.set_cons_succ])
       refine ZaU 11 13 (by kernel_rfl) rfl rfl (fun K hK => ?_) (fun K hK => ?_)
       · skip
         go_simp
         refine (HFR.out _ BL1.out).mono ?_
         rintro e w5 ⟨rfl, n5, hw5⟩
         have L5 : Below wr.heap.size wr w5 := by rw [hw5]; exact below_drewN BL1.out n5
         have hs5 : w5.heap.size = wr.heap.size := by rw [hw5]; rfl
         have HL5 := Za L5
         clear hw5 L5
         refine hK.out _ _ HL5.out (fun _ => ?_)
         clear hK K
         refine Zv 2 [12] (by kernel_rfl) (by kernel_rfl) (by kernel_rfl) HL5.out ?_
         iterate 1 (refine ⟨_, rfl, ?_⟩; apply Exists.intro; refine ⟨Or.inl ⟨by rfl, fun w' hw' => ?_⟩, ?_⟩; (focus (obtain ⟨e1, e2⟩ := HSX.out w' hw'; first | (go_simp; done) | (go_simp; with_reducible rfl))); simp only [Act.put, List.getElem_toArray, List.getElem_cons_succ, List.getElem_cons_zero, List.setIfInBounds_toArray, List.set_cons_zero, List.set_cons_succ])
         refine Zg 13 (by kernel_rfl) rfl (fun K hK => ?_)
         go_simp
         obtain ⟨w8, hw8⟩ : ∃ w8, w5.alloc (.cells #[.int .i64 0, .int .i64 0] 66) = w8 := ⟨_, rfl⟩
         have HZ : Hid (Zaf w8 wr.heap.size (0, 0)) := by show Zaf _ _ _; rw [<- hw8, <- hs5]; exact heap_alloc_new w5 _
         have LZ : Hid (Below wr.heap.size wr w8) := by show Below _ _ _; rw [<- hw8]; exact HL5.out.alloc (by omega) _
         rw [hw8]
         clear hw8
         refine hK.out _ _ LZ.out (fun _ => ?_)
         clear hK K
         refine Zg 14 (by kernel_rfl) rfl (fun K hK => ?_)
         obtain ⟨z0, z1, z2, z3⟩ := HZ.out.cells
         have HE : Hid (Zaf ((w8.setCell ⟨wr.heap.size, 0, none⟩ (.int .i64 y)).setCell ⟨wr.heap.size, 1, none⟩ (.int .i64 (ZN (mat ms m) q))) wr.heap.size (y, ZN (mat ms m) q) /\ Below wr.heap.size wr ((w8.setCell ⟨wr.heap.size, 0, none⟩ (.int .i64 y)).setCell ⟨wr.heap.size, 1, none⟩ (.int .i64 (ZN (mat ms m) q)))) := ⟨HZ.out.store (k := (y, ZN (mat ms m) q)), (LZ.out.setCell (Nat.le_refl _) _).setCell (Nat.le_refl _) _⟩
         go_simp
         obtain ⟨w9, hw9⟩ : ∃ w9, (w8.setCell ⟨wr.heap.size, 0, none⟩ (.int .i64 y)).setCell ⟨wr.heap.size, 1, none⟩ (.int .i64 (ZN (mat ms m) q)) = w9 := ⟨_, rfl⟩
         rw [hw9] at HE
         rw [hw9]
         refine hK.out _ _ HE.out.2 (fun _ => ?_)
         clear hK K hw9 HZ LZ z0 z1 z2 z3
         refine wpAnyH_done (by kernel_rfl) ?_ _
         refine NoPanic.normal ?_
         have y1 := HE.out.1
         rw [<- HHY.out] at y1
         have HY9 := Za y1
         have HBE := Za (HB2.out.next HE.out.2 HB2.out.lt)
         obtain ⟨x0, x1, x2, x3⟩ := HBE.out.cells
         obtain ⟨y0, y1', -, -⟩ := y1.cells
         have HAH := Za (Zgk (Zl ms q y) (Z3 ms q (cn ls j) (Zl ms q x) k) w9)
         have HLE := Za (Zd HL2.out HE.out.2)
         clear HE y1
         simp only [Exit.then]
         rcases hah : Zu (Zl ms q y) (Z3 ms q (cn ls j) (Zl ms q x) k) with _ | _
         · rw [hah] at HAH
           have HN : Hid (Z3 ms q (cn ls j) (Zl ms q x) (k + 1) = Z3 ms q (cn ls j) (Zl ms q x) k) := by show _ = _; rw [HBT.out, hah]; rfl
           go_wp2_with fail
           refine HAH.out.mono ?_
           rintro e w10 ⟨rfl, L10⟩
           have HG := Za (And.intro (HBE.out.next L10 HBE.out.lt) (Zd HLE.out L10))
           clear L10
           go_wp2_with fail
           go_roundw
           case rel => exact ⟨k + 1, by omega, by go_num, by rw [HN.out]; exact HG.out.1, HG.out.2⟩
           case measure => simp [intOf]; omega
         · rw [hah] at HAH
           have HN : Hid (Z3 ms q (cn ls j) (Zl ms q x) (k + 1) = Zl ms q y) := by show _ = _; rw [HBT.out, hah]; rfl
           have HYY : Hid (Zaf w9 wr.heap.size (Zl ms q y)) := HY9.out
           go_wp2_with fail
           refine HAH.out.mono ?_
           rintro e w10 ⟨rfl, L10⟩
           have hb10 := HBE.out.next L10 HBE.out.lt
           obtain ⟨p0, p1, p2, p3⟩ := hb10.cells
           obtain ⟨r0, r1, -, -⟩ := (HYY.out.next L10 HYY.out.lt).cells
           have HG : Hid (Zaf ((w10.setCell ⟨w1.heap.size, 0, none⟩ (.int .i64 (Zl ms q y).1)).setCell ⟨w1.heap.size, 1, none⟩ (.int .i64 (Zl ms q y).2)) w1.heap.size (Zl ms q y) /\ Below w1.heap.size w1 ((w10.setCell ⟨w1.heap.size, 0, none⟩ (.int .i64 (Zl ms q y).1)).setCell ⟨w1.heap.size, 1, none⟩ (.int .i64 (Zl ms q y).2))) := ⟨hb10.store, ((Zd HLE.out L10).setCell (Nat.le_refl _) _).setCell (Nat.le_refl _) _⟩
           clear L10 hb10
           go_wp2_with fail
           go_roundw
           case rel => exact ⟨k + 1, by omega, by go_num, by rw [HN.out]; exact HG.out.1, HG.out.2⟩
           case measure => simp [intOf]; omega
       · skip
         go_simp
         obtain ⟨w7, hw7⟩ : ∃ w7, (wr.alloc (.cells #[.int .i64 0, .int .i64 0] 66)).drew = w7 := ⟨_, rfl⟩
         have HZ7 : Hid (Zaf w7 wr.heap.size (0, 0)) := by show Zaf _ _ _; rw [<- hw7]; exact heap_alloc_new wr _
         rw [hw7] at BL2
         rw [hw7]
         clear hw7
         refine hK.out _ _ BL2.out (fun _ => ?_)
         clear hK K
         refine Zg 11 (by kernel_rfl) rfl (fun K hK => ?_)
         go_simp
         refine (HFR.out _ BL2.out).mono ?_
         rintro e w5 ⟨rfl, n5, hw5⟩
         obtain ⟨w8, hw8⟩ : ∃ w8, w5 = w8 := ⟨_, rfl⟩
         have LZ : Hid (Below wr.heap.size wr w8) := by show Below _ _ _; rw [<- hw8, hw5]; exact below_drewN BL2.out n5
         have HZ : Hid (Zaf w8 wr.heap.size (0, 0)) := by show Zaf _ _ _; rw [<- hw8, hw5]; exact HZ7.out
         clear hw5
         subst hw8
         refine hK.out _ _ LZ.out (fun _ => ?_)
         clear hK K
         refine Zv 1 [12] (by kernel_rfl) (by kernel_rfl) (by kernel_rfl) LZ.out ?_
         iterate 1 (refine ⟨_, rfl, ?_⟩; apply Exists.intro; refine ⟨Or.inl ⟨by rfl, fun w' hw' => ?_⟩, ?_⟩; (focus (obtain ⟨e1, e2⟩ := HSX.out w' hw'; first | (go_simp; done) | (go_simp; with_reducible rfl))); simp only [Act.put, List.getElem_toArray, List.getElem_cons_succ, List.getElem_cons_zero, List.setIfInBounds_toArray, List.set_cons_zero, List.set_cons_succ])
         refine Zg 14 (by kernel_rfl) rfl (fun K hK => ?_)
         obtain ⟨z0, z1, z2, z3⟩ := HZ.out.cells
         have HE : Hid (Zaf ((w5.setCell ⟨wr.heap.size, 0, none⟩ (.int .i64 y)).setCell ⟨wr.heap.size, 1, none⟩ (.int .i64 (ZN (mat ms m) q))) wr.heap.size (y, ZN (mat ms m) q) /\ Below wr.heap.size wr ((w5.setCell ⟨wr.heap.size, 0, none⟩ (.int .i64 y)).setCell ⟨wr.heap.size, 1, none⟩ (.int .i64 (ZN (mat ms m) q)))) := ⟨HZ.out.store (k := (y, ZN (mat ms m) q)), (LZ.out.setCell (Nat.le_refl _) _).setCell (Nat.le_refl _) _⟩
         go_simp
         obtain ⟨w9, hw9⟩ : ∃ w9, (w5.setCell ⟨wr.heap.size, 0, none⟩ (.int .i64 y)).setCell ⟨wr.heap.size, 1, none⟩ (.int .i64 (ZN (mat ms m) q)) = w9 := ⟨_, rfl⟩
         rw [hw9] at HE
         rw [hw9]
         refine hK.out _ _ HE.out.2 (fun _ => ?_)
         clear hK K hw9 HZ LZ z0 z1 z2 z3
         refine wpAnyH_done (by kernel_rfl) ?_ _
         refine NoPanic.normal ?_
         have y1 := HE.out.1
         rw [<- HHY.out] at y1
         have HY9 := Za y1
         have HBE := Za (HB2.out.next HE.out.2 HB2.out.lt)
         obtain ⟨x0, x1, x2, x3⟩ := HBE.out.cells
         obtain ⟨y0, y1', -, -⟩ := y1.cells
         have HAH := Za (Zgk (Zl ms q y) (Z3 ms q (cn ls j) (Zl ms q x) k) w9)
         have HLE := Za (Zd HL2.out HE.out.2)
         clear HE y1
         simp only [Exit.then]
         rcases hah : Zu (Zl ms q y) (Z3 ms q (cn ls j) (Zl ms q x) k) with _ | _
         · rw [hah] at HAH
           have HN : Hid (Z3 ms q (cn ls j) (Zl ms q x) (k + 1) = Z3 ms q (cn ls j) (Zl ms q x) k) := by show _ = _; rw [HBT.out, hah]; rfl
           go_wp2_with fail
           refine HAH.out.mono ?_
           rintro e w10 ⟨rfl, L10⟩
           have HG := Za (And.intro (HBE.out.next L10 HBE.out.lt) (Zd HLE.out L10))
           clear L10
           go_wp2_with fail
           go_roundw
           case rel => exact ⟨k + 1, by omega, by go_num, by rw [HN.out]; exact HG.out.1, HG.out.2⟩
           case measure => simp [intOf]; omega
         · rw [hah] at HAH
           have HN : Hid (Z3 ms q (cn ls j) (Zl ms q x) (k + 1) = Zl ms q y) := by show _ = _; rw [HBT.out, hah]; rfl
           have HYY : Hid (Zaf w9 wr.heap.size (Zl ms q y)) := HY9.out
           go_wp2_with fail
           refine HAH.out.mono ?_
           rintro e w10 ⟨rfl, L10⟩
           have hb10 := HBE.out.next L10 HBE.out.lt
           obtain ⟨p0, p1, p2, p3⟩ := hb10.cells
           obtain ⟨r0, r1, -, -⟩ := (HYY.out.next L10 HYY.out.lt).cells
           have HG : Hid (Zaf ((w10.setCell ⟨w1.heap.size, 0, none⟩ (.int .i64 (Zl ms q y).1)).setCell ⟨w1.heap.size, 1, none⟩ (.int .i64 (Zl ms q y).2)) w1.heap.size (Zl ms q y) /\ Below w1.heap.size w1 ((w10.setCell ⟨w1.heap.size, 0, none⟩ (.int .i64 (Zl ms q y).1)).setCell ⟨w1.heap.size, 1, none⟩ (.int .i64 (Zl ms q y).2))) := ⟨hb10.store, ((Zd HLE.out L10).setCell (Nat.le_refl _) _).setCell (Nat.le_refl _) _⟩
           clear L10 hb10
           go_wp2_with fail
           go_roundw
           case rel => exact ⟨k + 1, by omega, by go_num, by rw [HN.out]; exact HG.out.1, HG.out.2⟩
           case measure => simp [intOf]; omega
     · skip
       go_simp
       obtain ⟨w7, hw7⟩ : ∃ w7, (wr.alloc (.cells #[.int .i64 0, .int .i64 0] 66)).drew = w7 := ⟨_, rfl⟩
       have HZ7 : Hid (Zaf w7 wr.heap.size (0, 0)) := by show Zaf _ _ _; rw [<- hw7]; exact heap_alloc_new wr _
       rw [hw7] at BL2
       rw [hw7]
       clear hw7
       refine hK.out _ _ BL2.out (fun _ => ?_)
       clear hK K
       refine Zg 6 (by kernel_rfl) rfl (fun K hK => ?_)
       go_simp
       refine (HFI.out _ BL2.out).mono ?_
       rintro e w4 ⟨rfl, hw4⟩
       rw [hw4]
       clear hw4
       refine hK.out _ _ BL2.out (fun _ => ?_)
       clear hK K
       refine Zv 3 [7, 8, 9] (by kernel_rfl) (by kernel_rfl) (by kernel_rfl) BL2.out ?_
       iterate 3 (refine ⟨_, rfl, ?_⟩; apply Exists.intro; refine ⟨Or.inl ⟨by rfl, fun w' hw' => ?_⟩, ?_⟩; (focus (obtain ⟨e1, e2⟩ := HSX.out w' hw'; first | (go_simp; done) | (go_simp; with_reducible rfl))); simp only [Act.put, List.getElem_toArray, List.getElem_cons_succ, List.getElem_cons_zero, List.setIfInBounds_toArray, List.set_cons_zero, List.set_cons_succ])
       refine Zg 11 (by kernel_rfl) rfl (fun K hK => ?_)
       go_simp
       refine (HFR.out _ BL2.out).mono ?_
       rintro e w5 ⟨rfl, n5, hw5⟩
       have LZ : Hid (Below wr.heap.size wr w5) := by show Below _ _ _; rw [hw5]; exact below_drewN BL2.out n5
       have HZ : Hid (Zaf w5 wr.heap.size (0, 0)) := by show Zaf _ _ _; rw [hw5]; exact HZ7.out
       clear hw5
       refine hK.out _ _ LZ.out (fun _ => ?_)
       clear hK K
       refine Zv 1 [12] (by kernel_rfl) (by kernel_rfl) (by kernel_rfl) LZ.out ?_
       iterate 1 (refine ⟨_, rfl, ?_⟩; apply Exists.intro; refine ⟨Or.inl ⟨by rfl, fun w' hw' => ?_⟩, ?_⟩; (focus (obtain ⟨e1, e2⟩ := HSX.out w' hw'; first | (go_simp; done) | (go_simp; with_reducible rfl))); simp only [Act.put, List.getElem_toArray, List.getElem_cons_succ, List.getElem_cons_zero, List.setIfInBounds_toArray, List.set_cons_zero, List.set_cons_succ])
       refine Zg 14 (by kernel_rfl) rfl (fun K hK => ?_)
       obtain ⟨z0, z1, z2, z3⟩ := HZ.out.cells
       have HE : Hid (Zaf ((w5.setCell ⟨wr.heap.size, 0, none⟩ (.int .i64 y)).setCell ⟨wr.heap.size, 1, none⟩ (.int .i64 (ZN (mat ms m) q))) wr.heap.size (y, ZN (mat ms m) q) /\ Below wr.heap.size wr ((w5.setCell ⟨wr.heap.size, 0, none⟩ (.int .i64 y)).setCell ⟨wr.heap.size, 1, none⟩ (.int .i64 (ZN (mat ms m) q)))) := ⟨HZ.out.store (k := (y, ZN (mat ms m) q)), (LZ.out.setCell (Nat.le_refl _) _).setCell (Nat.le_refl _) _⟩
       go_simp
       obtain ⟨w9, hw9⟩ : ∃ w9, (w5.setCell ⟨wr.heap.size, 0, none⟩ (.int .i64 y)).setCell ⟨wr.heap.size, 1, none⟩ (.int .i64 (ZN (mat ms m) q)) = w9 := ⟨_, rfl⟩
       rw [hw9] at HE
       rw [hw9]
       refine hK.out _ _ HE.out.2 (fun _ => ?_)
       clear hK K hw9 HZ LZ z0 z1 z2 z3
       refine wpAnyH_done (by kernel_rfl) ?_ _
       refine NoPanic.normal ?_
       have y1 := HE.out.1
       rw [<- HHY.out] at y1
       have HY9 := Za y1
       have HBE := Za (HB2.out.next HE.out.2 HB2.out.lt)
       obtain ⟨x0, x1, x2, x3⟩ := HBE.out.cells
       obtain ⟨y0, y1', -, -⟩ := y1.cells
       have HAH := Za (Zgk (Zl ms q y) (Z3 ms q (cn ls j) (Zl ms q x) k) w9)
       have HLE := Za (Zd HL2.out HE.out.2)
       clear HE y1
       simp only [Exit.then]
       rcases hah : Zu (Zl ms q y) (Z3 ms q (cn ls j) (Zl ms q x) k) with _ | _
       · rw [hah] at HAH
         have HN : Hid (Z3 ms q (cn ls j) (Zl ms q x) (k + 1) = Z3 ms q (cn ls j) (Zl ms q x) k) := by show _ = _; rw [HBT.out, hah]; rfl
         go_wp2_with fail
         refine HAH.out.mono ?_
         rintro e w10 ⟨rfl, L10⟩
         have HG := Za (And.intro (HBE.out.next L10 HBE.out.lt) (Zd HLE.out L10))
         clear L10
         go_wp2_with fail
         go_roundw
         case rel => exact ⟨k + 1, by omega, by go_num, by rw [HN.out]; exact HG.out.1, HG.out.2⟩
         case measure => simp [intOf]; omega
       · rw [hah] at HAH
         have HN : Hid (Z3 ms q (cn ls j) (Zl ms q x) (k + 1) = Zl ms q y) := by show _ = _; rw [HBT.out, hah]; rfl
         have HYY : Hid (Zaf w9 wr.heap.size (Zl ms q y)) := HY9.out
         go_wp2_with fail
         refine HAH.out.mono ?_
         rintro e w10 ⟨rfl, L10⟩
         have hb10 := HBE.out.next L10 HBE.out.lt
         obtain ⟨p0, p1, p2, p3⟩ := hb10.cells
         obtain ⟨r0, r1, -, -⟩ := (HYY.out.next L10 HYY.out.lt).cells
         have HG : Hid (Zaf ((w10.setCell ⟨w1.heap.size, 0, none⟩ (.int .i64 (Zl ms q y).1)).setCell ⟨w1.heap.size, 1, none⟩ (.int .i64 (Zl ms q y).2)) w1.heap.size (Zl ms q y) /\ Below w1.heap.size w1 ((w10.setCell ⟨w1.heap.size, 0, none⟩ (.int .i64 (Zl ms q y).1)).setCell ⟨w1.heap.size, 1, none⟩ (.int .i64 (Zl ms q y).2))) := ⟨hb10.store, ((Zd HLE.out L10).setCell (Nat.le_refl _) _).setCell (Nat.le_refl _) _⟩
         clear L10 hb10
         go_wp2_with fail
         go_roundw
         case rel => exact ⟨k + 1, by omega, by go_num, by rw [HN.out]; exact HG.out.1, HG.out.2⟩
         case measure => simp [intOf]; omega
   · obtain rfl : k = (cn ls j).length := by omega
     have HST : Hid (Z3 ms q (cn ls j) (Zl ms q x) (cn ls j).length = ZdR ms ls q x) := by show _ = _; rw [ZdR, HJ.out]
     rw [HST.out] at HB2 b0 b1
     have hso := Zcl ms ls q x
     have HFS := Za (ZbX (q := q) HW.out HFX.out)
     have HLW := Za (Zd HL.out L)
     have HRW := Za (HR.out.next L hgl.2)
     have hwz3 := L.size
     have hlen := ZcT (ms := ms) (ls := ls) (q := q) fr
     rw [HEQ.out, List.length_append] at hlen
     have e0 : (ZdR ms ls q x).1 = ZS ms ls q x := rfl
     rw [e0] at b0
     by_cases hsx : ZS ms ls q x = x
     · have hbe : (ZS ms ls q x == x) = true := by simp [hsx]
       have HEN := Za (Zdd (ms := ms) (ls := ls) (q := q) hsx)
       have HFIN : Hid (Zac ms ls q fr = done ++ [x]) := by show _ = _; rw [HEQ.out, HEN.out]
       have HM1 := Za (HRW.out.mono14 (base' := w.heap.size) (by omega))
       have HB9 := Za (Zd HB.out HLW.out)
       clear hso hsx L hlen b1
       go_wp2_with fail
       go_ret
       rw [HFIN.out]
       exact ⟨g, c, by rw [List.length_append]; rfl, HM1.out, HB9.out⟩
     · have hbe : (ZS ms ls q x == x) = false := by simp [hsx]
       have HSP := Za (ZdC (q := q) HW.out HFX.out hsx)
       have HRK := Za (Zcz (q := q) HW.out HFX.out hsx)
       rw [HSP.out] at hlen
       obtain ⟨y, hy⟩ : ∃ y, ZS ms ls q x = y := ⟨_, rfl⟩
       rw [hy] at hbe HSP HRK HFS b0 hlen
       have hd60 : done.length <= 61 := by simp at hlen; omega
       have GA := World.grownBy_alloc wr (.cells #[.int .i64 y] 2) none
       have HRA := Za (HRW.out.keptBy GA (by simp))
       have HLA := Za (HLW.out.alloc (by omega) (.cells #[.int .i64 y] 2))
       clear hso hsx L hlen b1 GA hy e0
       go_wp2_with (at_builtin; refine Zq _ rfl (.tmp 71) (.tmp 73) 27 rfl W.heap.size 2 i0 _ 1 8 Tryz.underlying27 hi0 hx0 hx1 hx2 rfl (by omega) g (done.length + 1) c ((done ++ [x]).map (Value.int .i64)) rfl (ZeC HRA.out (by simp)) (some ⟨wr.heap.size, 0, none⟩) 1 1 [.int .i64 y] rfl (Zcx (heap_alloc_new wr _)) (by unfold maxLen; omega) (by omega) (by simp; omega) (wr.heap.size + 1) (by simp) ?_; intro g5 c5 w5 hown5 hgrow5 hat5 hlt5)
       have HR5 : Hid (Row W.heap.size w5 g5 c5 ((done ++ [x]) ++ [y])) := by
        refine Row.snoc ?_
        have e : (done ++ [x]).length = done.length + 1 := by simp
        rw [e]
        exact hown5
       have HL5 := Za (HLA.out.grown hgrow5 (by simp; omega) (by intro q hq; cases hq; omega))
       clear hown5 hgrow5
       go_wp2_with fail
       go_roundw
       case rel => exact ⟨y, done ++ [x], g5, c5, rfl, by simp, HFS.out, by rw [HEQ.out, HSP.out]; simp, HR5.out, HL5.out⟩
       case measure => simpa [intOf] using HRK.out
theorem Zad {w : World} {ao : Option Addr} {ys : List Int} (h : Zp w ao ys) : Zai w 1 ao ys.length (ys.map (Value.int .i64)) := by
 refine ⟨by simp, fun u hu => ?_, ?_⟩
 · obtain ⟨y, _, rfl⟩ := List.mem_map.1 hu; rfl
 · rcases h with h | ⟨b, off, e, _, hs⟩
   · left; rw [h]; rfl
   · right
     refine ⟨⟨b, off, none⟩, e, fun j u hu => ?_⟩
     rw [List.getElem?_map] at hu
     rcases Nat.lt_or_ge j ys.length with hj | hj
     · rw [List.getElem?_eq_getElem hj] at hu
       simp at hu
       rw [Addr.add_lit, hs j hj, <- hu]
       simp [nth, List.getD, hj]
     · rw [List.getElem?_eq_none hj] at hu; cases hu
theorem ZfN {w : World} {n b cp : Nat} {id : Int} {xs : List Int} (hb : w.heap[n]? = some (.cells #[.int .i64 id, .slice (some ⟨b, 0, none⟩) xs.length cp] 29 (0, 0))) : Zai w 2 (some ⟨n, 0, none⟩) 1 [.int .i64 id, .slice (some ⟨b, 0, none⟩) xs.length cp] :=
 ⟨rfl, by simp [Value.oneCell'], Or.inr ⟨_, rfl, World.news_of_block (cs := #[.int .i64 id, .slice (some ⟨b, 0, none⟩) xs.length cp]) hb⟩⟩
theorem Zbi {base : Nat} {w : World} {g c n : Nat} {xs : List Int} (h : w.ownsRow base 2 1 (.slice (some ⟨g, 0, none⟩) (0 + n) c) (0 + n) ([] ++ xs.map (Value.int .i64))) (hn : n = xs.length) : Row base w g c xs := by
 subst hn
 simpa [Row] using h
theorem Znk (ao : Option Addr) (cap : Nat) (ms : List Mk) (w : World) (hv : Zw w ao ms) (h60 : ms.length <= 60) (h4 : ∀ i, (mat ms i).length <= 4) :
 Calls Tryz.prog 212 #[.slice ao ms.length cap] w fun e w' => ∃ g c ds, e = .returned (.slice (some ⟨g, 0, none⟩) ms.length c) /\ Z8 w.heap.size w' g c ds /\ Zs ds = ms /\ Below w.heap.size w w' := by
 obtain ⟨i0, hi0, hx0, hx1, hx2⟩ := info_parts Tryz.info2
 obtain ⟨j0, hj0, hy0, hy1, hy2⟩ := info_parts Tryz.info29
 have R0 := Za (Z8.start w w.heap.size (Nat.le_refl _))
 have L0 := Za ((Below.refl w.heap.size w).alloc (Nat.le_refl _) (.cells #[] 29))
 go_enter Tryz.func212, Tryz.ntmps212
 go_wp2_with fail
 go_loopw [3, 4] (fun v i wr => ∃ (k g c : Nat) (ds : List Dm), k <= ms.length /\ i = .int .i64 k /\ v = .slice (some ⟨g, 0, none⟩) k c /\ ds.length = k /\ Z8 w.heap.size wr g c ds /\ Zs ds = ms.take k /\ Below w.heap.size w wr) (fun _ i _ => ms.length - (intOf i).toNat)
 case atStart => exact ⟨0, w.heap.size, 0, [], Nat.zero_le _, rfl, rfl, rfl, R0.out, rfl, L0.out⟩
 case round =>
  clear R0 L0
  obtain ⟨k, g, c, ds, hk, rfl, rfl, hdl, hrow, hdm, L⟩ := hrel
  have HR := Za hrow
  have HD := Za hdm
  have HL := Za L
  have HDL := Za hdl
  have hz := L.size
  have hgl := hrow.lt
  by_cases hlt : k < ms.length
  · obtain ⟨b, off, rfl, hb, hseg⟩ := Zc8 hv (by omega)
    obtain ⟨hc0, ae, ce, hc1, hve⟩ := (hseg.below hb (Nat.le_refl _) L).at hlt
    have hmk : (mid ms k, mat ms k) = Zag ms k := rfl
    have h4k := h4 k
    have hi0' : (0 : Int) <= (k : Int) := Int.natCast_nonneg _
    have hi1' : (k : Int) < (ms.length : Int) := by omega
    have hbw : b < wr.heap.size := by omega
    have HVE := Za hve
    have HTK : Hid (Zs (ds ++ [(mid ms k, wr.heap.size, 0, mat ms k)]) = ms.take (k + 1)) := by
     show _ = _
     rw [Zs, List.map_append, <- Zs, HD.out, List.take_add_one]
     congr 1
     simp [mid, mat, List.getD, hlt]
    clear hrow hdm L hdl hseg hve
    go_wp2_with fail
    have HS0 : Hid (∀ W', Below wr.heap.size wr W' -> W'.cell? ⟨b, off + k * 2, none⟩ = some (.int .i64 (mid ms k)) /\ W'.cell? ⟨b, off + k * 2 + 1, none⟩ = some (.slice ae (mat ms k).length ce)) := fun W' L' => ⟨(L'.cell (p := ⟨b, off + k * 2, none⟩) hbw).trans hc0, (L'.cell (p := ⟨b, off + k * 2 + 1, none⟩) hbw).trans hc1⟩
    have BL := Za ((Below.refl wr.heap.size wr).drew)
    refine Zr (S := fun W' => W'.cell? ⟨b, off + k * 2, none⟩ = some (.int .i64 (mid ms k)) /\ W'.cell? ⟨b, off + k * 2 + 1, none⟩ = some (.slice ae (mat ms k).length ce)) (fuel := 6) [0, 1, 2, 3, 4, 5, 7, 8, 9, 10, 11] (by kernel_rfl) (by kernel_rfl) (by kernel_rfl) (by kernel_rfl) (HS0.out _ BL.out) (fun _ => ?_)
    iterate 11 (refine ⟨_, rfl, ?_⟩; apply Exists.intro; refine ⟨Or.inl ⟨by rfl, fun w' hw' => ?_⟩, ?_⟩; (focus (obtain ⟨e1, e2⟩ := hw'; first | (go_simp; done) | (go_simp; with_reducible rfl))); simp only [Act.put, List.getElem_toArray, List.getElem_cons_succ, List.getElem_cons_zero, List.setIfInBounds_toArray, List.set_cons_zero, List.set_cons_succ])
    refine Zg 6 (by kernel_rfl) rfl (fun K hK => ?_)
    go_simp
    obtain ⟨w5, hw5⟩ : ∃ w5, (wr.alloc (.cells #[] 2)).drew = w5 := ⟨_, rfl⟩
    have HL5 : Hid (Below wr.heap.size wr w5) := by show Below _ _ _; rw [<- hw5]; exact ((Below.refl wr.heap.size wr).alloc (Nat.le_refl _) _).drew
    have HR5 : Hid (Row w.heap.size w5 wr.heap.size 0 []) := by show Row _ _ _ _ _; rw [<- hw5]; exact Row.start wr w.heap.size hz
    have hs5 : w5.heap.size = wr.heap.size + 1 := by rw [<- hw5]; simp
    rw [hw5]
    clear hw5
    refine hK.out _ _ (HS0.out _ HL5.out) (fun _ => ?_)
    clear hK K
    refine Zg 12 (by kernel_rfl) rfl (fun K hK => ?_)
    refine Zj w5 rfl (.tmp 18) (.tmp 23) 27 rfl w.heap.size 2 i0 _ 1 8 Tryz.underlying27 hi0 hx0 hx1 hx2 rfl (by omega) wr.heap.size 0 0 [] rfl HR5.out ae (mat ms k).length ce ((mat ms k).map (Value.int .i64)) rfl (Zad (Zp.next HVE.out HL5.out)) (by unfold maxLen; omega) (by omega) (by omega) w5.heap.size rfl ?_
    intro g6 c6 w6 hown6 hgrow6 hat6 hlt6
    have HR6 : Hid (Row w.heap.size w6 g6 c6 (mat ms k)) := Zbi hown6 rfl
    have hz6 := hgrow6.size
    have HL6 : Hid (Below wr.heap.size wr w6) := HL5.out.grown hgrow6 (by omega) (by intro q hq; cases hq; omega)
    clear hown6 hgrow6
    refine hK.out _ _ (HS0.out _ HL6.out) (fun _ => ?_)
    clear hK K
    refine Zv 3 [13] (by kernel_rfl) (by kernel_rfl) (by kernel_rfl) (HS0.out _ HL6.out) ?_
    iterate 1 (refine ⟨_, rfl, ?_⟩; apply Exists.intro; refine ⟨Or.inl ⟨by rfl, fun w' hw' => ?_⟩, ?_⟩; (focus (obtain ⟨e1, e2⟩ := hw'; first | (go_simp; done) | (go_simp; with_reducible rfl))); simp only [Act.put, List.getElem_toArray, List.getElem_cons_succ, List.getElem_cons_zero, List.setIfInBounds_toArray, List.set_cons_zero, List.set_cons_succ])
    refine Zg 14 (by kernel_rfl) rfl (fun K hK => ?_)
    go_simp
    obtain ⟨w7, hw7⟩ : ∃ w7, w6.alloc (.cells #[.int .i64 (mid ms k), .slice (some ⟨g6, 0, none⟩) (mat ms k).length c6] 29) = w7 := ⟨_, rfl⟩
    have HN7 : Hid (w7.heap[w6.heap.size]? = some (.cells #[.int .i64 (mid ms k), .slice (some ⟨g6, 0, none⟩) (mat ms k).length c6] 29 (0, 0))) := by show _ = _; rw [<- hw7]; exact heap_alloc_new w6 _
    have L67 : Below w6.heap.size w6 w7 := by rw [<- hw7]; exact (Below.refl _ _).alloc (Nat.le_refl _) _
    have hs7 : w7.heap.size = w6.heap.size + 1 := by rw [<- hw7]; simp
    have HL7 := Za (Zd HL6.out L67)
    have HR7 := Za (HR6.out.next L67 HR6.out.lt2.2)
    have hg6 := HR6.out.lt2
    have HD7 := Za (HR.out.kept (r := none) ⟨HL7.out.os, HL7.out.tape, HL7.out.output, HL7.out.size, fun i hi _ => HL7.out.block i hi⟩ (by simp))
    try rw [Nat.zero_add]
    try rw [hw7]
    clear hw7 L67
    refine hK.out _ _ (HS0.out _ HL7.out) (fun _ => ?_)
    clear hK K
    refine Zg 15 (by kernel_rfl) rfl (fun K hK => ?_)
    refine Zj w7 rfl (.tmp 12) (.tmp 26) 44 rfl w.heap.size 29 j0 _ 2 32 Tryz.underlying44 hj0 hy0 hy1 hy2 rfl (by omega) g k c (ZK ds) rfl (by have h := HD7.out.1; rw [HDL.out] at h; exact h) (some ⟨w6.heap.size, 0, none⟩) 1 1 [.int .i64 (mid ms k), .slice (some ⟨g6, 0, none⟩) (mat ms k).length c6] rfl (ZfN HN7.out) (by unfold maxLen; omega) (by omega) (by omega) w7.heap.size rfl ?_
    intro g8 c8 w8 hown8 hgrow8 hat8 hlt8
    have HD8 : Hid (Z8 w.heap.size w8 g8 c8 (ds ++ [(mid ms k, g6, c6, mat ms k)])) := Z8.snoc HD7.out HR7.out (by rcases hat6 with e | e <;> omega) (fun d hd => by
     have h1 := (HR.out.2.1 d hd).1.lt2
     rcases hat6 with e | e <;> omega) (by rw [HDL.out]; exact hown8) hgrow8 (by rcases hat8 with e | e; exact Or.inl e.symm; exact Or.inr e)
    have HL8 : Hid (Below w.heap.size w w8) := (Zd HL.out HL7.out).grown hgrow8 (by omega) (by intro q hq; cases hq; omega)
    have HS8 : Hid (w8.cell? ⟨b, off + k * 2, none⟩ = some (.int .i64 (mid ms k)) /\ w8.cell? ⟨b, off + k * 2 + 1, none⟩ = some (.slice ae (mat ms k).length ce)) := by
     have hbb := hgrow8.block b (by omega) (by simp; omega)
     exact ⟨(World.cell?_of_block hbb).trans (HS0.out _ HL7.out).1, (World.cell?_of_block hbb).trans (HS0.out _ HL7.out).2⟩
    clear hown8 hgrow8
    refine hK.out _ _ HS8.out (fun _ => ?_)
    clear hK K
    refine ZH [16] rfl (by kernel_rfl) (by kernel_rfl) (by kernel_rfl) HS8.out ?_
    iterate 1 (refine ⟨_, rfl, ?_⟩; apply Exists.intro; refine ⟨Or.inl ⟨by rfl, fun w' hw' => ?_⟩, ?_⟩; (focus (obtain ⟨e1, e2⟩ := hw'; first | (go_simp; done) | (go_simp; with_reducible rfl))); simp only [Act.put, List.getElem_toArray, List.getElem_cons_succ, List.getElem_cons_zero, List.setIfInBounds_toArray, List.set_cons_zero, List.set_cons_succ])
    refine NoPanic.normal (NoPanic.normal ?_)
    have HTK2 : Hid (Zs (ds ++ [(mid ms k, g6, c6, mat ms k)]) = ms.take (k + 1)) := by
     have h := HTK.out
     simp only [Zs, List.map_append, List.map_cons, List.map_nil] at h ⊢
     exact h
    clear HS0 BL HL5 HR5 HL6 HR6 HL7 HR7 HD7 HN7 HS8
    go_wp2_with fail
    go_roundw
    case rel => exact ⟨k + 1, g8, c8, ds ++ [(mid ms k, g6, c6, mat ms k)], by omega, by go_num, rfl, by have := HDL.out; simp; omega, HD8.out, HTK2.out, HL8.out⟩
    case measure => simp [intOf]; omega
  · obtain rfl : k = ms.length := by omega
    have e1 : Zs ds = ms := by rw [HD.out, List.take_length]
    go_wp2_with fail
    go_ret
    exact ⟨g, c, ds, rfl, HR.out, e1, L⟩
end Go.Proofs.YtaaagmgglolibaaGreat
