/-
  The program's sightOf: what is seen of a mark.
  The program's gaze in memory; the place of a hit among what is seen, by sort.Search.
-/
import Derived.Test.YtmembegdbceooaaGreatFg3Zz
import Derived.Test.YtmembegdbceooaaGreatJRwZz
import Derived.Test.YtmembegdbceooaaGreatCopyZz
namespace Go.Proofs.YtmembegdbceooaaGreat
open Go Go.RowKit

/-- A block of five cells. -/
def Fiv (w : World) (p : Nat) (a b c d e : Value) (t : TypeId) : Prop := w.heap[p]? = some (.cells #[a, b, c, d, e] t (0, 0))
theorem Fiv.lt {w : World} {p : Nat} {a b c d e : Value} {t : TypeId} (h : Fiv w p a b c d e t) : p < w.heap.size := by
  rcases Nat.lt_or_ge p w.heap.size with h1 | h1
  · exact h1
  · unfold Fiv at h; rw [Array.getElem?_eq_none h1] at h; cases h
theorem Fiv.cells {w : World} {p : Nat} {a b c d e : Value} {t : TypeId} (h : Fiv w p a b c d e t) : w.cell? ⟨p, 0, none⟩ = some a ∧ w.cell? ⟨p, 1, none⟩ = some b ∧ w.cell? ⟨p, 2, none⟩ = some c ∧ w.cell? ⟨p, 3, none⟩ = some d ∧ w.cell? ⟨p, 4, none⟩ = some e := by unfold Fiv at h; simp [World.cell?, h]
theorem Fiv.frozen {w : World} {p : Nat} {a b c d e : Value} {t : TypeId} (h : Fiv w p a b c d e t) (j : Nat) : w.frozen? ⟨p, j, none⟩ = false := by unfold Fiv at h; simp [World.frozen?, h]
theorem Fiv.below {w w' : World} {p : Nat} {a b c d e : Value} {t : TypeId} (h : Fiv w p a b c d e t) (hb : Below w.heap.size w w') : Fiv w' p a b c d e t := (hb.block p h.lt).trans h
theorem Fiv.new (w : World) (a b c d e : Value) (t : TypeId) : Fiv (w.alloc (.cells #[a, b, c, d, e] t)) w.heap.size a b c d e t := heap_alloc_new w _
theorem Fiv.kept {w w' : World} {p : Nat} {a b c d e : Value} {t : TypeId} {r : Option Nat} (h : Fiv w p a b c d e t) (hg : w.grownBy w' r) (hr : some p ≠ r) : Fiv w' p a b c d e t := (hg.block p h.lt hr).trans h
theorem Fiv.set3 {w : World} {p : Nat} {a b c d e : Value} {t : TypeId} (h : Fiv w p a b c d e t) (x : Value) : Fiv (w.setCell ⟨p, 3, none⟩ x) p a b c x e t := by
  unfold Fiv World.setCell at *
  simp only [Array.getElem?_modify, if_true, h]
  rfl
theorem Fiv.set4 {w : World} {p : Nat} {a b c d e : Value} {t : TypeId} (h : Fiv w p a b c d e t) (x : Value) : Fiv (w.setCell ⟨p, 4, none⟩ x) p a b c d x t := by
  unfold Fiv World.setCell at *
  simp only [Array.getElem?_modify, if_true, h]
  rfl

/-- How far a mark is from the place that is asked for; nought where none is. -/
def ddQ (ms : List Mk) (q : List Int) (x : Int) : Int := if q.length = 0 then 0 else farV q (mat ms (zIdx ms x))
/-- What the program's own functions may count on. -/
structure LkIn (w : World) (am : Option Addr) (ms : List Mk) (al : Option Addr) (ls : List (List Int)) (aq : Option Addr) (q : List Int) : Prop where
  mv : MView w am ms
  cv : CView w al ls
  qv : View w aq q
theorem LkIn.below {w w' : World} {B : Nat} {am al aq : Option Addr} {ms : List Mk} {ls : List (List Int)} {q : List Int} (h : LkIn w am ms al ls aq q) (hB : w.heap.size ≤ B) (L : Below B w w') : LkIn w' am ms al ls aq q := ⟨h.mv.below hB L, h.cv.below hB L, h.qv.below hB L⟩
theorem LkIn.next {w w' : World} {am al aq : Option Addr} {ms : List Mk} {ls : List (List Int)} {q : List Int} (h : LkIn w am ms al ls aq q) (L : Below w.heap.size w w') : LkIn w' am ms al ls aq q := h.below (Nat.le_refl _) L
structure LkWeb (ms : List Mk) (ls : List (List Int)) (q : List Int) : Prop where
  web : webB ms ls = true
  two : q.length ≠ 0 → ∀ i, i < ms.length → twoB q (mat ms i) = true
/-- What is seen of the mark with this number. -/
def Sees (w : World) (ms : List Mk) (ls : List (List Int)) (q : List Int) (x : Int) (sv : Value) : Prop := ∃ a c, IsS sv (x, ddQ ms q x) a (cn ls (zIdx ms x)).length c ∧ View w a (cn ls (zIdx ms x))
theorem Sees.next {w w' : World} {ms : List Mk} {ls : List (List Int)} {q : List Int} {x : Int} {sv : Value} (h : Sees w ms ls q x sv) (L : Below w.heap.size w w') : Sees w' ms ls q x sv := by
  obtain ⟨a, c, h1, h2⟩ := h
  exact ⟨a, c, h1, h2.next L⟩

set_option maxRecDepth 100000 in
set_option maxHeartbeats 2000000 in
theorem iSightOf (G : Nat) (am al aq : Option Addr) (cm cl cq : Nat) (ms : List Mk) (ls : List (List Int)) (q : List Int) (sv ov : Value) (x : Int) (W0 w : World) (hL0 : Below W0.heap.size W0 w) (hG : Fiv w G (.slice am ms.length cm) (.slice al ls.length cl) (.slice aq q.length cq) sv ov 107) (hI : LkIn W0 am ms al ls aq q) (hW : LkWeb ms ls q) (hx : 0 ≤ zFind ms x) :
    Calls Tryz.prog 141 #[.pointer (some ⟨G, 0, none⟩), .int .i64 x] w fun e w' => (∃ r, e = .returned r ∧ Sees W0 ms ls q x r) ∧ Below w.heap.size w w' := by
  have hmb := web_marks hW.web
  have hll := web_len hW.web
  have HP := hidP (iPlace am al cm ls.length cl ms x w (hI.mv.next hL0) hmb)
  rw [plc_idx hmb hx, decide_eq_true hx] at HP
  obtain ⟨za, -, -⟩ := zIdx_lt hx
  have hjl : zIdx ms x < ls.length := by omega
  have hm60 := marksB_len hmb
  obtain ⟨g0, g1, g2, -, -⟩ := hG.cells
  have HG := hidP hG
  have HI := hidP hI
  have HW := hidP hW
  have HX : Hid (∀ sv' a c, IsS sv' (x, ddQ ms q x) a (cn ls (zIdx ms x)).length c → View W0 a (cn ls (zIdx ms x)) → Sees W0 ms ls q x sv') := fun sv' a c h1 h2 => ⟨a, c, h1, h2⟩
  have HL0 := hidP hL0
  have HD : Hid (ddQ ms q x = if q.length = 0 then 0 else farV q (mat ms (zIdx ms x))) := rfl
  generalize ddQ ms q x = d at *
  clear hG hI hW hmb hll hx hL0
  generalize hj : zIdx ms x = j at *
  clear hj
  go_enter Tryz.func141, Tryz.ntmps141
  go_wp2_with fail
  refine HP.out.mono ?_
  rintro e w1 ⟨rfl, L1⟩
  have hG1 := HG.out.below L1
  have hI1 := HI.out.next (chain HL0.out L1)
  have HL1 := hidP L1
  have hL01 := chain HL0.out L1
  clear L1 g0 g1 g2
  obtain ⟨g0, g1, g2, -, -⟩ := hG1.cells
  obtain ⟨b, off, rfl, hbr0, hs⟩ := HI.out.cv.seg (by omega)
  obtain ⟨a, c, c10, hvw⟩ := hs j hjl
  have c1 := (hL01.cell (p := ⟨b, off + j, none⟩) hbr0).trans c10
  clear c10 hbr0 hL01
  have hj0 : (0 : Int) ≤ (j : Int) := Int.natCast_nonneg _
  have hj1 : (j : Int) < (ls.length : Int) := by omega
  have HVW := hidP hvw
  have HI1 := hidP hI1
  have HG1 := hidP hG1
  have hGl := hG1.lt
  clear hs hvw hI1 hG1
  by_cases hq : q.length = 0
  · have hqb : ((q.length : Int) == 0) = true := by simp [hq]
    have hd : d = 0 := by rw [HD.out, if_pos hq]
    have HB : Hid (Below w1.heap.size w1 (w1.alloc (.cells #[.int .i64 x, .slice a (cn ls j).length c] 195))) := (Below.refl _ _).alloc (Nat.le_refl _) _
    clear HD hq
    subst hd
    go_wp2_with fail
    go_ret
    exact ⟨⟨_, rfl, HX.out _ a c (Or.inl ⟨rfl, rfl⟩) HVW.out⟩, chain HL1.out HB.out⟩
  · have hqb : ((q.length : Int) == 0) = false := by rw [beq_eq_false_iff_ne]; omega
    have htw := HW.out.two hq j za
    have hd : d = farV q (mat ms j) := by rw [HD.out, if_neg hq]
    obtain ⟨bm, om, rfl, hbm, hms⟩ := MSeg.seg HI1.out.mv (by omega)
    obtain ⟨-, am2, cm2, d1, hvm⟩ := hms.at (i := j) za
    have hj2 : (j : Int) < (ms.length : Int) := by omega
    obtain ⟨V, hV⟩ : ∃ V, w1.alloc (.cells #[.int .i64 x, .slice a (cn ls j).length c] 195) = V := ⟨_, rfl⟩
    have HB : Hid (Below w1.heap.size w1 V) := by show Below _ _ _; rw [← hV]; exact (Below.refl _ _).alloc (Nat.le_refl _) _
    have hv0 : V.cell? ⟨w1.heap.size, 0, none⟩ = some (.int .i64 x) := by rw [← hV]; simp
    have hv1 : V.cell? ⟨w1.heap.size, 1, none⟩ = some (.slice a (cn ls j).length c) := by rw [← hV]; simp
    have hVl : w1.heap.size < V.heap.size := by rw [← hV]; simp
    have hqv := HI1.out.qv
    have HC : Hid (∀ W', Below w1.heap.size w1 W' → Calls Tryz.prog 185 #[.slice aq q.length cq, .slice am2 (mat ms j).length cm2] W' fun e w' => e = .returned (.int .i64 d) ∧ Below W'.heap.size W' w') := fun W' L' => by
      rw [hd]
      obtain ⟨ta, tb, tl⟩ := twoB_of htw
      have h4 := okB_len ta
      obtain ⟨b1, o1, rfl, hb1, hs1⟩ : ∃ b off, aq = some ⟨b, off, none⟩ ∧ b < W'.heap.size ∧ Seg W' b off q := by
        rcases hqv.next L' with h | h
        · rw [h] at h4; simp at h4
        · exact h
      obtain ⟨b2, o2, rfl, hb2, hs2⟩ : ∃ b off, am2 = some ⟨b, off, none⟩ ∧ b < W'.heap.size ∧ Seg W' b off (mat ms j) := by
        rcases hvm.next L' with h | h
        · rw [h] at tl; simp at tl; rw [tl] at h4; simp at h4
        · exact h
      have h := pFar b1 o1 cq b2 o2 cm2 q (mat ms j) W' hs1 hs2 hb1 hb2 htw
      rw [show farV q (mat ms j) = sumTo (sqF q (mat ms j)) q.length by rw [farV, if_pos htw]]
      exact h
    obtain ⟨Y, hY⟩ : ∃ Y, Y = w1.heap.size := ⟨_, rfl⟩
    have HK : Hid (∀ w', Below V.heap.size V w' → w'.cell? ⟨Y, 0, none⟩ = some (.int .i64 x) ∧ w'.cell? ⟨Y, 1, none⟩ = some (.slice a (cn ls j).length c) ∧ w'.cell? ⟨G, 2, none⟩ = some (.slice aq q.length cq) ∧ w'.cell? ⟨G, 0, none⟩ = some (.slice (some ⟨bm, om, none⟩) ms.length cm) ∧ w'.cell? ⟨bm, om + j * 2 + 1, none⟩ = some (.slice am2 (mat ms j).length cm2)) := fun w' L => by
      have L' := chain HB.out L
      rw [hY]
      exact ⟨(L.cell (p := ⟨w1.heap.size, 0, none⟩) hVl).trans hv0, (L.cell (p := ⟨w1.heap.size, 1, none⟩) hVl).trans hv1, (L'.cell (p := ⟨G, 2, none⟩) hGl).trans g2, (L'.cell (p := ⟨G, 0, none⟩) hGl).trans g0, (L'.cell (p := ⟨bm, om + j * 2 + 1, none⟩) hbm).trans d1⟩
    clear hms hvm hqv htw hd HD HW hv0 hv1 hVl hq
    generalize (mat ms j).length = yl at *
    generalize (cn ls j).length = nl at *
    have v2 := (HK.out V (Below.refl _ _)).2.2.1
    go_wp2_with fail
    rw [← hY]
    clear v2
    obtain ⟨z0, z1, z2, z3, z4⟩ := HK.out V (Below.refl _ _)
    clear hV g0 g1 g2 c1 d1 hY
    go_region_held3 (fun w' => w'.cell? ⟨Y, 0, none⟩ = some (.int .i64 x) ∧ w'.cell? ⟨Y, 1, none⟩ = some (.slice a nl c) ∧ w'.cell? ⟨G, 2, none⟩ = some (.slice aq q.length cq) ∧ w'.cell? ⟨G, 0, none⟩ = some (.slice (some ⟨bm, om, none⟩) ms.length cm) ∧ w'.cell? ⟨bm, om + j * 2 + 1, none⟩ = some (.slice am2 yl cm2))
      (first
        | go_keep
        | exact HK.out _ (Below.trans ((Below.refl V.heap.size V).drew) L2))
      (first | (go_at_call 185; refine (HC.out _ (Below.drew HB.out)).mono ?_; rintro e w2 ⟨rfl, L2⟩))
    have HL3 : Hid (Below w1.heap.size w1 w2) := chain HB.out (Below.trans ((Below.refl V.heap.size V).drew) L2)
    clear L2 HC HK z0 z1 z2 z3 z4
    simp only [Exit.then]
    go_wp2_with fail
    go_ret
    exact ⟨⟨_, rfl, HX.out _ a c (Or.inr rfl) HVW.out⟩, chain HL1.out HL3.out⟩
end Go.Proofs.YtmembegdbceooaaGreat
namespace Go.Proofs.YtmembegdbceooaaGreat
open Go Go.RowKit

theorem own_next {base e size n : Nat} {w w' : World} {v : Value} {xs : List Value} (h : w.ownsRow base e size v n xs) (hb : Below w.heap.size w w') : w'.ownsRow base e size v n xs := by
  obtain ⟨h1, h2⟩ := h
  refine ⟨h1, ?_⟩
  rcases h2 with h2 | ⟨g, cp, cur, e1, hb1, hg, h5⟩
  · exact Or.inl h2
  · exact Or.inr ⟨g, cp, cur, e1, hb1, (hb.block g (Array.getElem?_eq_some_iff.1 hg).1).trans hg, h5⟩
def numC (l : List Int) : List Value := l.map (fun x => Value.int .i64 x)
theorem numC_len (l : List Int) : (numC l).length = l.length := by simp [numC]
/-- What the program has seen and opened: the gaze lies at G; the web and the place asked for lie in W0. -/
structure Gz (W0 w : World) (G : Nat) (am : Option Addr) (cm : Nat) (ms : List Mk) (al : Option Addr) (cl : Nat) (ls : List (List Int)) (aq : Option Addr) (cq : Nat) (q : List Int) (s : List Ht) (op : List Int) (as1 : Option Addr) (cs : Nat) (vs : List Value) (ao : Option Addr) (co : Nat) : Prop where
  five : Fiv w G (.slice am ms.length cm) (.slice al ls.length cl) (.slice aq q.length cq) (.slice as1 s.length cs) (.slice ao op.length co) 107
  low : W0.heap.size ≤ G
  sr : w.ownsRow W0.heap.size 167 1 (.slice as1 s.length cs) s.length vs
  vl : vs.length = s.length
  sees : ∀ k, k < s.length → Sees W0 ms ls q (hnth s k).1 (vs.getD k .nilIface)
  opr : w.ownsRow W0.heap.size 2 1 (.slice ao op.length co) op.length (numC op)
  a1 : (Value.slice as1 s.length cs).ownBlock ≠ some G
  a2 : (Value.slice ao op.length co).ownBlock ≠ some G
  a3 : ∀ g, (Value.slice as1 s.length cs).ownBlock = some g → (Value.slice ao op.length co).ownBlock ≠ some g
  bel : Below W0.heap.size W0 w
theorem Gz.next {W0 w w' : World} {G cm cl cq cs co : Nat} {am al aq as1 ao : Option Addr} {ms : List Mk} {ls : List (List Int)} {q op : List Int} {s : List Ht} {vs : List Value} (h : Gz W0 w G am cm ms al cl ls aq cq q s op as1 cs vs ao co) (L : Below w.heap.size w w') : Gz W0 w' G am cm ms al cl ls aq cq q s op as1 cs vs ao co :=
  ⟨h.five.below L, h.low, own_next h.sr L, h.vl, h.sees, own_next h.opr L, h.a1, h.a2, h.a3, chain h.bel L⟩
/-- A row of values of one cell reads as what it holds. -/
theorem own_cell {base e n : Nat} {w : World} {a : Option Addr} {m c : Nat} {xs : List Value} (h : w.ownsRow base e 1 (.slice a m c) n xs) (hx : 0 < xs.length) : ∃ g, a = some ⟨g, 0, none⟩ ∧ base ≤ g ∧ g < w.heap.size ∧ ∀ k, k < xs.length → w.cell? ⟨g, k, none⟩ = some (xs.getD k .nilIface) := by
  obtain ⟨h1, h2⟩ := h
  rcases h2 with ⟨e1, e2⟩ | ⟨g, cp, cur, e1, hb, hg, hnc, hcm, hsz, htk⟩
  · rw [e2] at h1; simp at h1; rw [h1] at hx; simp at hx
  · injection e1 with e1
    refine ⟨g, e1, hb, (Array.getElem?_eq_some_iff.1 hg).1, fun k hk => ?_⟩
    rw [Nat.mul_one] at htk h1
    have hk2 : k < cur.size := by
      have : (cur.toList.take n).length = xs.length := by rw [htk]
      rw [List.length_take, Array.length_toList] at this
      omega
    have e : xs[k]? = cur[k]? := by
      rw [← htk, List.getElem?_take, if_pos (by omega)]
      simp
    simp only [World.cell?, hg]
    rw [List.getD_eq_getElem?_getD, e]
    simp [hk2]

set_option maxRecDepth 100000 in
set_option maxHeartbeats 2000000 in
theorem iSeeFn (B H : Nat) (W0 w : World) (G cm cl cq cs co : Nat) (am al aq as1 ao : Option Addr) (ms : List Mk) (ls : List (List Int)) (q op : List Int) (s : List Ht) (vs : List Value) (h : Ht) (i : Nat) (hg : Gz W0 w G am cm ms al cl ls aq cq q s op as1 cs vs ao co) (hd : LookD (ddQ ms q) s) (hB : w.cell? ⟨B, 0, none⟩ = some (.pointer (some ⟨G, 0, none⟩))) (hH : Two w H (.int .i64 h.1) (.int .i64 h.2) 44) (hi : i < s.length) :
    Calls Tryz.prog 144 #[.int .i64 i, .pointer (some ⟨B, 0, none⟩), .pointer (some ⟨H, 0, none⟩)] w fun e w' => e = .returned (.bool (!aheadB (hnth s i) h)) ∧ Below w.heap.size w w' := by
  obtain ⟨sb, rfl, hsb, hsl, hsc⟩ := own_cell hg.sr (by rw [hg.vl]; omega)
  have c0 := hsc i (by rw [hg.vl]; exact hi)
  obtain ⟨la, lc, hIs, -⟩ := hg.sees i hi
  have hfar := hd.far _ (hnth_in14 hi)
  have hpair : ((hnth s i).1, ddQ ms q (hnth s i).1) = hnth s i := by rw [← hfar]
  rw [hpair] at hIs
  obtain ⟨_, _, _, g3, _⟩ := hg.five.cells
  have hGl := hg.five.lt
  have hBl : B < w.heap.size := cell_lt hB
  have hHl := hH.lt
  have e0 := hH.c0
  have e1 := hH.c1
  have HHO := hidP (fun w' => iHitOf _ _ la _ lc w' hIs)
  have HAH := hidP (fun w' => iAhead (hnth s i) h w')
  have hi0 : (0 : Int) ≤ (i : Int) := Int.natCast_nonneg _
  have hi1 : (i : Int) < (s.length : Int) := by omega
  clear hsc hfar hpair hIs hH hd hg
  generalize hnth s i = t at *
  generalize vs.getD i .nilIface = sv at *
  have HK : Hid (∀ w', Below w.heap.size w w' → w'.cell? ⟨B, 0, none⟩ = some (.pointer (some ⟨G, 0, none⟩)) ∧ w'.cell? ⟨G, 3, none⟩ = some (.slice (some ⟨sb, 0, none⟩) s.length cs) ∧ w'.cell? ⟨sb, i, none⟩ = some sv ∧ w'.cell? ⟨H, 0, none⟩ = some (.int .i64 h.1) ∧ w'.cell? ⟨H, 1, none⟩ = some (.int .i64 h.2)) := fun w' L => ⟨(L.cell (p := ⟨B, 0, none⟩) hBl).trans hB, (L.cell (p := ⟨G, 3, none⟩) hGl).trans g3, (L.cell (p := ⟨sb, i, none⟩) hsl).trans c0, (L.cell (p := ⟨H, 0, none⟩) hHl).trans e0, (L.cell (p := ⟨H, 1, none⟩) hHl).trans e1⟩
  go_enter Tryz.func144, Tryz.ntmps144
  go_wp2_with fail
  go_region_held3 (fun w' => w'.cell? ⟨B, 0, none⟩ = some (.pointer (some ⟨G, 0, none⟩)) ∧ w'.cell? ⟨G, 3, none⟩ = some (.slice (some ⟨sb, 0, none⟩) s.length cs) ∧ w'.cell? ⟨sb, i, none⟩ = some sv ∧ w'.cell? ⟨H, 0, none⟩ = some (.int .i64 h.1) ∧ w'.cell? ⟨H, 1, none⟩ = some (.int .i64 h.2))
    (first
      | go_keep
      | exact HK.out _ (chain (Below.trans ((Below.refl w.heap.size w).drew) L2) L3)
      | exact HK.out _ (Below.trans ((Below.refl w.heap.size w).drew) L2))
    (first
      | (go_at_call 142; refine (HHO.out _).mono ?_; rintro e w2 ⟨rfl, L2⟩)
      | (go_at_call 102; refine (HAH.out _).mono ?_; rintro e w3 ⟨rfl, L3⟩))
  have HL4 : Hid (Below w.heap.size w w3) := chain (Below.trans ((Below.refl w.heap.size w).drew) L2) L3
  clear L2 L3 HHO HAH HK e0 e1 c0 g3 hB
  simp only [Exit.then]
  go_wp2_with fail
  go_ret
  exact ⟨rfl, HL4.out⟩

set_option maxRecDepth 100000 in
set_option maxHeartbeats 1000000 in
theorem iSearchG (B H : Nat) (W0 w : World) (G cm cl cq cs co : Nat) (am al aq as1 ao : Option Addr) (ms : List Mk) (ls : List (List Int)) (q op : List Int) (s : List Ht) (vs : List Value) (h : Ht) (hg : Gz W0 w G am cm ms al cl ls aq cq q s op as1 cs vs ao co) (hd : LookD (ddQ ms q) s) (hB : w.cell? ⟨B, 0, none⟩ = some (.pointer (some ⟨G, 0, none⟩))) (hH : Two w H (.int .i64 h.1) (.int .i64 h.2) 44) (hn : s.length ≤ 60) :
    Calls Tryz.prog 143 #[.int .i64 s.length, .func (Fn.func 144) #[] #[.pointer (some ⟨B, 0, none⟩), .pointer (some ⟨H, 0, none⟩)]] w fun e w' => e = .returned (.int .i64 (posA h s : Nat)) ∧ Below w.heap.size w w' := by
  have hBl : B < w.heap.size := cell_lt hB
  have HF : Hid (∀ W i, Below w.heap.size w W → i < s.length → Calls Tryz.prog 144 #[.int .i64 (i : Nat), .pointer (some ⟨B, 0, none⟩), .pointer (some ⟨H, 0, none⟩)] W fun e w' => e = .returned (.bool (!aheadB (hnth s i) h)) ∧ Below W.heap.size W w') := fun W i L hi =>
    iSeeFn B H W0 W G cm cl cq cs co am al aq as1 ao ms ls q op s vs h i (hg.next L) hd ((L.cell (p := ⟨B, 0, none⟩) hBl).trans hB) (hH.below L) hi
  have HLO := hidP (posA_low h s)
  have HHI := hidP (posA_high hd.so h)
  have hpl := posA_le h s
  clear hB hH hg hd
  generalize posA h s = p at *
  go_enter Tryz.func143, Tryz.ntmps143
  go_wp2_with fail
  go_loopw [5, 6] (fun i j wr => ∃ x y : Nat, x ≤ p ∧ p ≤ y ∧ y ≤ s.length ∧ i = .int .i64 x ∧ j = .int .i64 y ∧ Below w.heap.size w wr) (fun i j _ => (intOf j).toNat - (intOf i).toNat)
  case atStart => exact ⟨0, s.length, Nat.zero_le _, hpl, Nat.le_refl _, rfl, rfl, Below.refl _ _⟩
  case round =>
    obtain ⟨x, y, hxp, hpy, hy, rfl, rfl, L⟩ := hrel
    by_cases hlt : x < y
    · have hu1 : IntKind.u64.wrap ((x : Int) + (y : Int)) = (x : Int) + (y : Int) := by rw [IntKind.wrap_u64]; omega
      obtain ⟨m, hm⟩ : ∃ m : Nat, m = (x + y) / 2 := ⟨_, rfl⟩
      have hmi : ((x : Int) + (y : Int)) / 2 = (m : Int) := by omega
      have HC := hidP (HF.out wr m L (by omega))
      have HL := hidP L
      have HMI := hidP hmi
      have hm1 : x ≤ m ∧ m < y := by omega
      have HM1 := hidP hm1
      clear L hmi hm hm1
      rcases hv : aheadB (hnth s m) h with _ | _
      · have hpm : p ≤ m := by
          rcases Nat.lt_or_ge m p with h1 | h1
          · have := HLO.out m h1; rw [hv] at this; cases this
          · exact h1
        rw [hv] at HC
        clear hv
        go_wp2_with fail
        rw [HMI.out]
        refine HC.out.mono ?_
        rintro e w2 ⟨rfl, L2⟩
        have HL2 := hidP (chain HL.out L2)
        clear L2
        go_wp2_with fail
        go_roundw
        case rel => exact ⟨x, m, hxp, hpm, by have := HM1.out; omega, rfl, rfl, HL2.out⟩
        case measure => have := HM1.out; simp [intOf]; omega
      · have hpm : m < p := by
          rcases Nat.lt_or_ge m p with h1 | h1
          · exact h1
          · have := HHI.out m h1 (by have := HM1.out; omega); rw [hv] at this; cases this
        rw [hv] at HC
        clear hv
        go_wp2_with fail
        rw [HMI.out]
        refine HC.out.mono ?_
        rintro e w2 ⟨rfl, L2⟩
        have HL2 := hidP (chain HL.out L2)
        clear L2
        go_wp2_with fail
        go_roundw
        case rel => exact ⟨m + 1, y, by omega, hpy, hy, by go_num, rfl, HL2.out⟩
        case measure => have := HM1.out; simp [intOf]; omega
    · obtain rfl : x = p := by omega
      go_wp2_with fail
      go_ret
      exact ⟨rfl, L⟩
end Go.Proofs.YtmembegdbceooaaGreat
