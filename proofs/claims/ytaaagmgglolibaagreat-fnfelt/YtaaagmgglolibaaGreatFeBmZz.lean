import Derived.Test.YtaaagmgglolibaaGreatFeWalkZz
import Derived.Test.YtaaagmgglolibaaGreatMathZz
import Derived.Deep.CutBlock
import Derived.Deep.DeepCutAuto
set_option maxRecDepth 100000
set_option maxHeartbeats 8000000
namespace Go.Proofs.YtaaagmgglolibaaGreat
open Go Go.RowKit
def ZmX : Value -> Nat
 | .slice _ n _ => n
 | _ => 0
theorem Zy.one (w : World) (h : Ht) (base : Nat) (hb : base <= w.heap.size) : Zy base (w.alloc (.cells #[.int .i64 h.1, .int .i64 h.2] 66)) w.heap.size 1 [h] := World.ownsRow_lit w #[.int .i64 h.1, .int .i64 h.2] 1 hb (by unfold maxLen; omega) rfl
structure ZcQ (base : Nat) (w : World) (gs cs : Nat) (s : List Ht) (gi ci : Nat) (ids : List Int) (go co : Nat) (op : List Int) : Prop where
 rs : Zy base w gs cs s
 ri : Row base w gi ci ids
 ro : Row base w go co op
 n1 : gi ≠ gs
 n2 : go ≠ gs
 n3 : gi ≠ go
theorem ZcQ.next {base gs cs gi ci go co : Nat} {w w' : World} {s : List Ht} {ids op : List Int} (h : ZcQ base w gs cs s gi ci ids go co op) (L : Below w.heap.size w w') : ZcQ base w' gs cs s gi ci ids go co op :=
 ⟨h.rs.below (Nat.le_refl _) L, h.ri.next L h.ri.lt2.2, h.ro.next L h.ro.lt2.2, h.n1, h.n2, h.n3⟩
theorem Zni (am al aq : Option Addr) (cm cl cq : Nat) (ms : List Mk) (ls : List (List Int)) (q : List Int) (fr wide : Int) (w : World) (hm : Zw w am ms) (hl : Zaj w al ls) (hq : Zp w aq q) (hsm : ZP ms) (hcs : Za3 ls) (hql : q.length <= 1048576) (hw : ZR ms ls = true) (hf : 0 <= Zk ms fr) (hwd : ZE wide = true) :
 Calls Tryz.prog 206 #[.agg #[.slice am ms.length cm, .slice al ls.length cl], .int .i64 fr, .slice aq q.length cq, .int .i64 wide] w fun e w' => ∃ g c, e = .returned (.slice (some ⟨g, 0, none⟩) (ZaS ms ls q wide.toNat [Zl ms q fr] [fr] []).length c) /\ Zy w.heap.size w' g c (ZaS ms ls q wide.toNat [Zl ms q fr] [fr] []) /\ Below w.heap.size w w' := by
 obtain ⟨i0, hi0, hx0, hx1, hx2⟩ := info_parts Tryz.info2
 obtain ⟨hwd1, hwd2⟩ : 1 <= wide /\ wide <= 60 := by simp [ZE] at hwd; exact hwd
 obtain ⟨W, hW⟩ : ∃ W, w.alloc (.cells #[.slice am ms.length cm, .slice al ls.length cl] 47) = W := ⟨_, rfl⟩
 have hB : Below w.heap.size w W := by rw [<- hW]; exact (Below.refl _ _).alloc (Nat.le_refl _) _
 have hI : Z5 W w.heap.size am cm ms al cl ls := by rw [<- hW]; exact Z5.box hm hl
 have hWs : W.heap.size = w.heap.size + 1 := by rw [<- hW]; simp
 have h60 := ZT (Zz hw)
 obtain ⟨bm, om, rfl, hbm, hmseg⟩ := Zc8 hI.mv (by have := (Zx hf).1; omega)
 obtain ⟨bl, ol, rfl, hbl, hlseg⟩ := hI.cv.seg (by have := (Zx hf).1; have := Zaq hw; omega)
 have HB := Za hB
 have HI := Za hI
 have HQ := Za (Zp.next hq hB)
 have HSM := Za hsm
 have HCS := Za hcs
 have HW := Za hw
 have HM : Hid (∀ j, j < ms.length -> ∃ ae ce, W.cell? ⟨bm, om + j * 2 + 1, none⟩ = some (.slice ae (mat ms j).length ce) /\ Zp W ae (mat ms j)) := fun j hj => by
  obtain ⟨h0, ae, ce, h1, h2⟩ := hmseg j hj
  exact ⟨ae, ce, h1, h2⟩
 have HLI : Hid (∀ j, j < ms.length -> ∃ ae ce, W.cell? ⟨bl, ol + j, none⟩ = some (.slice ae (cn ls j).length ce) /\ Zp W ae (cn ls j)) := fun j hj => hlseg j (by have := Zaq hw; omega)
 have hLL : ls.length = ms.length := Zaq hw
 have HLL := Za hLL
 have HST := Za (Zdv (ms := ms) (ls := ls) (q := q) hf)
 obtain ⟨hf1, hf2, hf3⟩ := Zx hf
 have HHF : Hid (Zl ms q fr = (fr, ZN (mat ms (Zn ms fr)) q)) := rfl
 obtain ⟨jf, hjf⟩ : ∃ j, Zn ms fr = j := ⟨_, rfl⟩
 rw [hjf] at hf1 hf2 HHF
 have HFI := Za (fun W' (L' : Below W.heap.size W W') => ZcM (some ⟨bm, om, none⟩) cm ms fr W' (hI.below L').mv (by omega))
 rw [<- hf2] at HFI
 obtain ⟨ae, ce, hce, hve⟩ := HM.out jf hf1
 have HFR := Za (fun W' (L' : Below W.heap.size W W') => Zgg ae aq ce cq (mat ms jf) q W' (Zp.next hve L') (Zp.next HQ.out L') (HSM.out.2 jf) hql)
 have hm0 : (0 : Int) <= (jf : Int) := Int.natCast_nonneg _
 have hm4 : (jf : Int) < (ms.length : Int) := by omega
 have HSX : Hid (∀ W', Below W.heap.size W W' -> W'.cell? ⟨w.heap.size, 0, none⟩ = some (.slice (some ⟨bm, om, none⟩) ms.length cm) /\ W'.cell? ⟨bm, om + jf * 2 + 1, none⟩ = some (.slice ae (mat ms jf).length ce)) := fun W' L' => ⟨(hI.below L').c0, (L'.cell (p := ⟨bm, om + jf * 2 + 1, none⟩) hbm).trans hce⟩
 have BL1 := Za ((Below.refl W.heap.size W).drew)
 clear hm hl hq hB hI hsm hcs hmseg hlseg hLL hw hf hf2 hf3 hce hve hjf
 go_enter Tryz.func206, Tryz.ntmps206
 go_wp2_with fail
 refine Zr (S := fun W' => Below W.heap.size W W') (fuel := 8) [0, 1, 2, 3, 4, 5, 10] (by kernel_rfl) (by kernel_rfl) (by kernel_rfl) (by kernel_rfl) BL1.out (fun _ => ?_)
 iterate 7 (refine ⟨_, rfl, ?_⟩; apply Exists.intro; refine ⟨Or.inl ⟨by rfl, fun w' hw' => ?_⟩, ?_⟩; (focus (obtain ⟨e1, e2⟩ := HSX.out w' hw'; first | (go_simp; done) | (go_simp; with_reducible rfl))); simp only [Act.put, List.getElem_toArray, List.getElem_cons_succ, List.getElem_cons_zero, List.setIfInBounds_toArray, List.set_cons_zero, List.set_cons_succ])
 refine Zg 6 (by kernel_rfl) rfl (fun K hK => ?_)
 go_simp
 refine (HFI.out _ BL1.out).mono ?_
 rintro e w4 ⟨rfl, hw4⟩
 subst hw4
 refine hK.out _ _ BL1.out (fun _ => ?_)
 clear hK K
 refine Zv 4 [7, 8, 9] (by kernel_rfl) (by kernel_rfl) (by kernel_rfl) BL1.out ?_
 iterate 3 (refine ⟨_, rfl, ?_⟩; apply Exists.intro; refine ⟨Or.inl ⟨by rfl, fun w' hw' => ?_⟩, ?_⟩; (focus (obtain ⟨e1, e2⟩ := HSX.out w' hw'; first | (go_simp; done) | (go_simp; with_reducible rfl))); simp only [Act.put, List.getElem_toArray, List.getElem_cons_succ, List.getElem_cons_zero, List.setIfInBounds_toArray, List.set_cons_zero, List.set_cons_succ])
 refine Zg 11 (by kernel_rfl) rfl (fun K hK => ?_)
 go_simp
 refine (HFR.out _ BL1.out).mono ?_
 rintro e w5 ⟨rfl, n5, hw5⟩
 have HL5 : Hid (Below W.heap.size W w5) := by show Below _ _ _; rw [hw5]; exact below_drewN BL1.out n5
 have hs5 : w5.heap.size = W.heap.size := by rw [hw5]; rfl
 clear hw5
 refine hK.out _ _ HL5.out (fun _ => ?_)
 clear hK K
 refine Zv 2 [12] (by kernel_rfl) (by kernel_rfl) (by kernel_rfl) HL5.out ?_
 iterate 1 (refine ⟨_, rfl, ?_⟩; apply Exists.intro; refine ⟨Or.inl ⟨by rfl, fun w' hw' => ?_⟩, ?_⟩; (focus (obtain ⟨e1, e2⟩ := HSX.out w' hw'; first | (go_simp; done) | (go_simp; with_reducible rfl))); simp only [Act.put, List.getElem_toArray, List.getElem_cons_succ, List.getElem_cons_zero, List.setIfInBounds_toArray, List.set_cons_zero, List.set_cons_succ])
 refine Zg 13 (by kernel_rfl) rfl (fun K hK => ?_)
 go_simp
 obtain ⟨w6, hw6⟩ : ∃ w6, w5.alloc (.cells #[.int .i64 fr, .int .i64 (ZN (mat ms jf) q)] 66) = w6 := ⟨_, rfl⟩
 have HL6 : Hid (Below W.heap.size W w6) := by show Below _ _ _; rw [<- hw6]; exact HL5.out.alloc (by omega) _
 have HR6 : Hid (Zy W.heap.size w6 W.heap.size 1 [Zl ms q fr]) := by show Zy _ _ _ _ _; rw [<- hw6, HHF.out, <- hs5]; exact Zy.one w5 (fr, ZN (mat ms jf) q) w5.heap.size (Nat.le_refl _)
 have hs6 : w6.heap.size = W.heap.size + 1 := by rw [<- hw6, <- hs5]; simp
 rw [hw6]
 clear hw6
 refine hK.out _ _ HL6.out (fun _ => ?_)
 clear hK K
 refine ZH [14] rfl (by kernel_rfl) (by kernel_rfl) (by kernel_rfl) HL6.out ?_
 iterate 1 (refine ⟨_, rfl, ?_⟩; apply Exists.intro; refine ⟨Or.inl ⟨by rfl, fun w' hw' => ?_⟩, ?_⟩; (focus (first | (go_simp; done) | (go_simp; with_reducible rfl))); simp only [Act.put, List.getElem_toArray, List.getElem_cons_succ, List.getElem_cons_zero, List.setIfInBounds_toArray, List.set_cons_zero, List.set_cons_succ])
 refine NoPanic.normal (NoPanic.normal ?_)
 have HS6 := Za hs6
 have hs6b : W.heap.size < w6.heap.size := by omega
 have HBI : Hid (ZcQ W.heap.size ((w6.alloc (.cells #[.int .i64 fr] 2)).alloc (.cells #[] 2)) (w.heap.size + 1) 1 [Zl ms q fr] w6.heap.size 1 [fr] (w6.heap.size + 1) 0 []) := by
  have g1 := World.grownBy_alloc w6 (.cells #[.int .i64 fr] 2) none
  have g2 := World.grownBy_alloc (w6.alloc (.cells #[.int .i64 fr] 2)) (.cells #[] 2) none
  have r3 := Row.start (w6.alloc (.cells #[.int .i64 fr] 2)) W.heap.size (by simp; omega)
  rw [show (w6.alloc (.cells #[.int .i64 fr] 2)).heap.size = w6.heap.size + 1 by simp] at r3
  rw [<- hWs]
  exact ⟨(HR6.out.kept g1 (by simp)).kept g2 (by simp), (Row.one w6 fr W.heap.size (by omega)).keptBy g2 (by simp), r3, by omega, by omega, by omega⟩
 have HL8 := Za ((HL6.out.alloc (by omega) (.cells #[.int .i64 fr] 2)).alloc (by simp; omega) (.cells #[] 2))
 clear HL5 HL6 HR6 HFI HFR HSX BL1 hs5 hs6
 have HWS := Za hWs
 clear hWs
 obtain ⟨N6, hN6⟩ : ∃ N, w6.heap.size = N := ⟨_, rfl⟩
 rw [hN6] at HBI hs6b
 go_wp2_with fail
 generalize (w6.alloc (.cells #[.int .i64 fr] 2)).alloc (.cells #[] 2) = w8 at *
 clear hN6 HS6
 go_loopw [9, 10, 11] (fun vs vi vo wr => ∃ (s : List Ht) (ids op : List Int) (gs cs gi ci go co : Nat), vs = .slice (some ⟨gs, 0, none⟩) s.length cs /\ vi = .slice (some ⟨gi, 0, none⟩) ids.length ci /\ vo = .slice (some ⟨go, 0, none⟩) op.length co /\ Zan ms q s ids /\ Zcw ms ls ids op /\ ZaS ms ls q wide.toNat [Zl ms q fr] [fr] [] = ZaS ms ls q wide.toNat s ids op /\ ZcQ W.heap.size wr gs cs s gi ci ids go co op /\ Below W.heap.size W wr) (fun _ _ vo _ => ms.length - ZmX vo)
 case atStart => exact ⟨[Zl ms q fr], [fr], [], _, 1, _, 1, _, 0, rfl, rfl, rfl, HST.out.1, HST.out.2, rfl, HBI.out, HL8.out⟩
 case round =>
  clear HST HBI HL8 HHF hf1 hm0 hm4 hs6b
  obtain ⟨s, ids, op, gs, cs, gi, ci, go, co, rfl, rfl, rfl, hbo, hoo, heq, hin, L⟩ := hrel
  obtain ⟨w1, rfl⟩ : ∃ w1, w1 = wr := ⟨_, rfl⟩
  have hsl : s.length <= 60 := by have := hbo.len; have := hbo.short; omega
  have hil : ids.length <= 60 := by have := hbo.short; omega
  have hpl : op.length <= 60 := by have := Zbd (ms := ms) hoo.nd (fun x hx => hbo.find x (hoo.sub x hx)); omega
  have HBO := Za hbo
  have HOO := Za hoo
  have HEQ := Za heq
  have HIN := Za hin
  have HL := Za L
  have hwz := L.size
  have HSEG := Za hin.rs.seg
  have HRO := Za (fun x => sHas (some ⟨go, 0, none⟩) co op x w1 hin.ro.view (by omega))
  have HFS := Za (Zgh W.heap.size gs cs s wide w1 hin.rs (by omega) (by omega))
  clear hbo hoo heq hin L
  obtain ⟨zz, hzz⟩ : ∃ zz, ZA s op (min s.length wide.toNat) = zz := ⟨_, rfl⟩
  have HZZ := Za hzz
  go_upto_block 2 with fail
  go_cut [12] (fun v wx => v = .int .i64 zz /\ wx = w1)
  case first =>
   go_wp2_with fail
   go_loopw [12, 13] (fun vn vi wr' => ∃ k : Nat, k <= s.length /\ (k : Int) <= wide /\ vi = .int .i64 k /\ vn = .int .i64 (ZA s op k) /\ wr' = w1) (fun _ vi _ => s.length - (intOf vi).toNat)
   case atStart => exact ⟨0, Nat.zero_le _, by omega, rfl, rfl, rfl⟩
   case round =>
    obtain ⟨k, hk, hkw, rfl, rfl, hwr⟩ := hrel
    have hwr2 := hwr.symm
    clear hwr
    subst hwr2
    have hout := ZdN s op k
    obtain ⟨z, hz⟩ : ∃ z, ZA s op k = z := ⟨_, rfl⟩
    rw [hz] at hout
    have HZ := Za hz
    have hsn : Hid (ZA s op (k + 1) = if 0 <= ZA s op k then ZA s op k else if ZY op (Zf s k).1 = true then -1 else (k : Int)) := rfl
    rw [hz] at hsn
    rw [hz]
    clear hz
    by_cases h0 : 0 <= z
    · have hst : z = zz := by rw [<- HZZ.out, <- HZ.out]; exact (ZeT (by rw [HZ.out]; exact h0) (by omega)).symm
      have f0 : decide (z < 0) = false := by simp; omega
      clear hout hsn
      go_wp2_with fail
      all_goals
       go_meet
       exact ⟨rfl, rfl⟩
    · obtain rfl : z = -1 := by omega
      by_cases hks : k < s.length
      · by_cases hkd : (k : Int) < wide
        · obtain ⟨hc0, hc1⟩ := HSEG.out k hks
          rw [Nat.zero_add] at hc0
          have HH := Za (HRO.out (Zf s k).1)
          rcases hb : ZY op (Zf s k).1 with _ | _
          · rw [hb] at HH
            have HN : Hid (ZA s op (k + 1) = (k : Int)) := by show _ = _; rw [hsn.out, hb]; simp
            clear hout hsn hc1
            go_wp2_with fail
            refine HH.out.mono ?_
            rintro e w2 ⟨rfl, hw2⟩
            subst hw2
            go_wp2_with fail
            go_roundw
            case rel => exact ⟨k + 1, by omega, by omega, by go_num, by rw [HN.out], by trivial⟩
            case measure => simp [intOf]; omega
          · rw [hb] at HH
            have HN : Hid (ZA s op (k + 1) = -1) := by show _ = _; rw [hsn.out, hb]; simp
            clear hout hsn hc1
            go_wp2_with fail
            refine HH.out.mono ?_
            rintro e w2 ⟨rfl, hw2⟩
            subst hw2
            go_wp2_with fail
            go_roundw
            case rel => exact ⟨k + 1, by omega, by omega, by go_num, by rw [HN.out], by trivial⟩
            case measure => simp [intOf]; omega
        · have hst : (-1 : Int) = zz := by rw [<- HZZ.out, <- HZ.out]; congr 1; omega
          clear hout hsn
          go_wp2_with fail
          go_meet
          exact ⟨rfl, rfl⟩
      · have hst : (-1 : Int) = zz := by rw [<- HZZ.out, <- HZ.out]; congr 1; omega
        clear hout hsn
        go_wp2_with fail
        go_meet
        exact ⟨rfl, rfl⟩
  case rest =>
   obtain ⟨rfl, hwx⟩ := hcut
   have hwx2 := hwx.symm
   clear hwx
   subst hwx2
   by_cases h0 : 0 <= zz
   · have hst : ZA s op (min s.length wide.toNat) = zz := HZZ.out
     have hop := Zbs (wd := wide.toNat) HBO.out HOO.out (by rw [hst]; exact h0)
     have hbs := fun (id : Int) (hid : (Zf s (ZA s op (min s.length wide.toNat)).toNat).1 = id) => Zdw (wd := wide.toNat) HW.out HBO.out HOO.out (by rw [hst]; exact h0) hid
     rw [hst] at hop hbs
     obtain ⟨j, rfl⟩ : ∃ j : Nat, zz = (j : Int) := ⟨zz.toNat, by omega⟩
     rw [Int.toNat_natCast] at hop hbs
     obtain ⟨id, hid⟩ : ∃ id, (Zf s j).1 = id := ⟨_, rfl⟩
     obtain ⟨hjs, hjm, hjn, hopl⟩ := hop
     have hstep := hbs id hid
     rw [hid] at hjm
     obtain ⟨hc0, -⟩ := HSEG.out j hjs
     rw [Nat.zero_add, hid] at hc0
     have hfid := HBO.out.find id hjm
     obtain ⟨hd1, hd2, hd3⟩ := Zx hfid
     obtain ⟨jd, hjd⟩ : ∃ jd, Zn ms id = jd := ⟨_, rfl⟩
     rw [hjd] at hd1 hd2 hstep
     have HSTEP := Za hstep
     have hlsub := fun x (hx : x ∈ cn ls jd) => ZaB HW.out hd1 hx
     have HLS := Za hlsub
     have hlsh := Zce HW.out hd1
     obtain ⟨aj, cj, hcj, hvj⟩ := HLI.out jd hd1
     have GA := World.grownBy_alloc w1 (.cells #[.int .i64 id] 2) none
     have hIN := HIN.out
     have HRA := Za (hIN.ro.keptBy GA (by simp))
     have HRS := Za (hIN.rs.kept GA (by simp))
     have HRI := Za (hIN.ri.keptBy GA (by simp))
     have HLA := Za (HL.out.alloc (by omega) (.cells #[.int .i64 id] 2))
     have hgo := hIN.ro.lt2
     have hgi := hIN.ri.lt2
     have hgs := hIN.rs.lt
     have n1 := hIN.n1
     have n2 := hIN.n2
     have n3 := hIN.n3
     have HJ0 : Hid ((0 : Int) <= (jd : Int) /\ (jd : Int) < (ls.length : Int)) := ⟨Int.natCast_nonneg _, by have := HLL.out; omega⟩
     have hj0 : (0 : Int) <= (j : Int) := Int.natCast_nonneg _
     have hj1 : (j : Int) < (s.length : Int) := by omega
     clear hst hbs hid hstep hlsub hIN GA HFS HRO hjn
     go_wp2_with (at_builtin; refine Zq _ rfl (.tmp 68) (.tmp 70) 27 rfl W.heap.size 2 i0 _ 1 8 Tryz.underlying27 hi0 hx0 hx1 hx2 rfl (by omega) go op.length co (op.map (Value.int .i64)) rfl HRA.out (some ⟨w1.heap.size, 0, none⟩) 1 1 [.int .i64 id] rfl (Zcx (heap_alloc_new w1 _)) (by unfold maxLen; omega) (by omega) (by simp; omega) (w1.heap.size + 1) (by simp) ?_; intro g5 c5 w5 hown5 hgrow5 hat5 hlt5)
     have hs5 := hgrow5.size
     have hs5b : w1.heap.size + 1 <= w5.heap.size := by simpa using hs5
     have HIN5 : Hid (ZcQ W.heap.size w5 gs cs s gi ci ids g5 c5 (op ++ [id])) := ⟨HRS.out.kept hgrow5 (by simp; omega), HRI.out.keptBy hgrow5 (by simp; omega), Row.snoc hown5, n1, by omega, by omega⟩
     have HL5 := Za (HLA.out.grown hgrow5 (by simp; omega) (by intro q hq; cases hq; omega))
     have hI5 := HI.out.below HL5.out
     have HFI := Za (fun W' (L' : Below w5.heap.size w5 W') => ZcM (some ⟨bm, om, none⟩) cm ms id W' (hI5.below L').mv (by omega))
     rw [<- hd2] at HFI
     clear hd2 hd3
     have HSX : Hid (∀ W', Below w5.heap.size w5 W' -> W'.cell? ⟨w.heap.size, 0, none⟩ = some (.slice (some ⟨bm, om, none⟩) ms.length cm) /\ W'.cell? ⟨w.heap.size, 1, none⟩ = some (.slice (some ⟨bl, ol, none⟩) ls.length cl) /\ W'.cell? ⟨bl, ol + jd, none⟩ = some (.slice aj (cn ls jd).length cj)) := fun W' L' => ⟨(hI5.below L').c0, (hI5.below L').c1, (L'.cell (p := ⟨bl, ol + jd, none⟩) (by show bl < _; omega)).trans ((HL5.out.cell (p := ⟨bl, ol + jd, none⟩) hbl).trans hcj)⟩
     have BL1 := Za ((Below.refl w5.heap.size w5).drew)
     obtain ⟨hj2, hj3⟩ := HJ0.out
     clear HRA HRS HRI HLA hown5 hgrow5 hI5 hs5 hc0
     go_wp2_with fail
     refine Zr (S := fun W' => Below w5.heap.size w5 W') (fuel := 4) [0, 1, 2, 3, 4] (by kernel_rfl) (by kernel_rfl) (by kernel_rfl) (by kernel_rfl) BL1.out (fun _ => ?_)
     iterate 5 (refine ⟨_, rfl, ?_⟩; apply Exists.intro; refine ⟨Or.inl ⟨by rfl, fun w' hw' => ?_⟩, ?_⟩; (focus (obtain ⟨e1, e2, e3⟩ := HSX.out w' hw'; first | (go_simp; done) | (go_simp; with_reducible rfl))); simp only [Act.put, List.getElem_toArray, List.getElem_cons_succ, List.getElem_cons_zero, List.setIfInBounds_toArray, List.set_cons_zero, List.set_cons_succ])
     refine Zg 5 (by kernel_rfl) rfl (fun K hK => ?_)
     go_simp
     refine (HFI.out _ BL1.out).mono ?_
     rintro e w6 ⟨rfl, hw6⟩
     have HL6 : Hid (Below w5.heap.size w5 w6) := by show Below _ _ _; rw [hw6]; exact BL1.out
     clear hw6
     refine hK.out _ _ HL6.out (fun _ => ?_)
     clear hK K
     refine ZH [6, 7, 8] rfl (by kernel_rfl) (by kernel_rfl) (by kernel_rfl) HL6.out ?_
     iterate 3 (refine ⟨_, rfl, ?_⟩; apply Exists.intro; refine ⟨Or.inl ⟨by rfl, fun w' hw' => ?_⟩, ?_⟩; (focus (obtain ⟨e1, e2, e3⟩ := HSX.out w' hw'; first | (go_simp; done) | (go_simp; with_reducible rfl))); simp only [Act.put, List.getElem_toArray, List.getElem_cons_succ, List.getElem_cons_zero, List.setIfInBounds_toArray, List.set_cons_zero, List.set_cons_succ])
     refine NoPanic.normal (NoPanic.normal ?_)
     have HIN6 := Za (HIN5.out.next HL6.out)
     have HLB := Za (Zd HL5.out HL6.out)
     have hz6 := HLB.out.size
     have hcl := HCS.out.2 jd
     clear HSX HFI BL1 HL6 HL5 HIN5
     go_wp2_with fail
     go_loopw [9, 10, 16] (fun vs vi vk wr => ∃ (k gs cs gi ci : Nat), k <= (cn ls jd).length /\ vk = .int .i64 k /\ vs = .slice (some ⟨gs, 0, none⟩) (ZaT ms q (cn ls jd) s ids k).1.length cs /\ vi = .slice (some ⟨gi, 0, none⟩) (ZaT ms q (cn ls jd) s ids k).2.length ci /\ ZcQ W.heap.size wr gs cs (ZaT ms q (cn ls jd) s ids k).1 gi ci (ZaT ms q (cn ls jd) s ids k).2 g5 c5 (op ++ [id]) /\ Below W.heap.size W wr) (fun _ _ vk _ => (cn ls jd).length - (intOf vk).toNat)
     case atStart => exact ⟨0, gs, cs, gi, ci, Nat.zero_le _, rfl, rfl, rfl, HIN6.out, HLB.out⟩
     case round =>
      clear HIN6 HLB hz6
      obtain ⟨k2, gs2, cs2, gi2, ci2, hk2, rfl, rfl, rfl, hin2, L2⟩ := hrel
      have hsk := ZeA (l := cn ls jd) HBO.out (fun x hx => (HLS.out x hx).1) k2 hk2
      have HSN : Hid (ZaT ms q (cn ls jd) s ids (k2 + 1) = if ZY (ZaT ms q (cn ls jd) s ids k2).2 (nth (cn ls jd) k2) = true then ZaT ms q (cn ls jd) s ids k2 else (ZaM (ZaT ms q (cn ls jd) s ids k2).1 (Zl ms q (nth (cn ls jd) k2)), (ZaT ms q (cn ls jd) s ids k2).2 ++ [nth (cn ls jd) k2])) := rfl
      obtain ⟨st, hst⟩ : ∃ st, ZaT ms q (cn ls jd) s ids k2 = st := ⟨_, rfl⟩
      rw [hst] at hsk HSN hin2
      rw [hst]
      have HST2 := Za hst
      have h1l : st.1.length <= 60 := by have := hsk.1.len; have := hsk.1.short; omega
      have h2l : st.2.length <= 60 := by have := hsk.1.short; omega
      have hwz2 := L2.size
      have HIN2 := Za hin2
      have HL2 := Za L2
      have hsr := hin2.rs.lt
      have hir := hin2.ri.lt2
      have hor := hin2.ro.lt2
      have m1 := hin2.n1
      have m2 := hin2.n2
      have m3 := hin2.n3
      clear hst hsk hin2 L2
      by_cases hlt2 : k2 < (cn ls jd).length
      · obtain ⟨ba, oa, rfl, hba, hsa⟩ : ∃ b off, aj = some ⟨b, off, none⟩ /\ b < W.heap.size /\ Seg W b off (cn ls jd) := by
         rcases hvj with h | h
         · rw [h] at hlt2; simp at hlt2
         · exact h
        have hxk := (HL2.out.cell (p := ⟨ba, oa + k2, none⟩) hba).trans (hsa k2 hlt2)
        have hmem : nth (cn ls jd) k2 ∈ cn ls jd := (ZI _ _).1 (Za5 hlt2)
        have hwl := HLS.out _ hmem
        obtain ⟨x, hx⟩ : ∃ x, nth (cn ls jd) k2 = x := ⟨_, rfl⟩
        rw [hx] at hxk hwl HSN
        have HH := Za (sHas (some ⟨gi2, 0, none⟩) ci2 st.2 x wr HIN2.out.ri.view (by omega))
        have hk20 : (0 : Int) <= (k2 : Int) := Int.natCast_nonneg _
        have hk21 : (k2 : Int) < ((cn ls jd).length : Int) := by omega
        have HXS := Za (And.intro hsa hx)
        clear hmem hsa hx
        rcases hb : ZY st.2 x with _ | _
        · rw [hb] at HH
          have HN : Hid (ZaT ms q (cn ls jd) s ids (k2 + 1) = (ZaM st.1 (Zl ms q x), st.2 ++ [x])) := by show _ = _; rw [HSN.out, hb]; rfl
          have hxm := hwl.2.1
          have hxz := (Zx hwl.1).2.1
          have HHX : Hid (Zl ms q x = (x, ZN (mat ms (Zn ms x)) q)) := rfl
          obtain ⟨m, hmm⟩ : ∃ m, Zn ms x = m := ⟨_, rfl⟩
          rw [hmm] at hxm hxz HHX
          obtain ⟨af, cf, hcf, hvf⟩ := HM.out m hxm
          have GA := World.grownBy_alloc wr (.cells #[.int .i64 x] 2) none
          have hI2 := HIN2.out
          have HRI := Za (hI2.ri.keptBy GA (by simp))
          have HRS := Za (hI2.rs.kept GA (by simp))
          have HRO := Za (hI2.ro.keptBy GA (by simp))
          have HLA := Za (HL2.out.alloc (by omega) (.cells #[.int .i64 x] 2))
          have hm0 : (0 : Int) <= (m : Int) := Int.natCast_nonneg _
          have hm4 : (m : Int) < (ms.length : Int) := by omega
          have HXZ := Za hxz
          clear hwl hmm GA hI2 hxz hb
          go_wp2_with fail
          refine HH.out.mono ?_
          rintro e w7 ⟨rfl, hw7⟩
          subst hw7
          go_wp2_with (at_builtin; refine Zq _ rfl (.tmp 93) (.tmp 98) 27 rfl W.heap.size 2 i0 _ 1 8 Tryz.underlying27 hi0 hx0 hx1 hx2 rfl (by omega) gi2 st.2.length ci2 (st.2.map (Value.int .i64)) rfl HRI.out (some ⟨w7.heap.size, 0, none⟩) 1 1 [.int .i64 x] rfl (Zcx (heap_alloc_new w7 _)) (by unfold maxLen; omega) (by omega) (by simp; omega) (w7.heap.size + 1) (by simp) ?_; intro g9 c9 w9 hown9 hgrow9 hat9 hlt9)
          have hs9 := hgrow9.size
          have hs9b : w7.heap.size + 1 <= w9.heap.size := by simpa using hs9
          have HR9 := Za (HRS.out.kept hgrow9 (by simp; omega))
          have HO9 := Za (HRO.out.keptBy hgrow9 (by simp; omega))
          have HI9 := Za (Row.snoc hown9)
          have HL9 := Za (HLA.out.grown hgrow9 (by simp; omega) (by intro q hq; cases hq; omega))
          have hW9 := HI.out.below HL9.out
          have HFI := Za (fun W' (L' : Below w9.heap.size w9 W') => ZcM (some ⟨bm, om, none⟩) cm ms x W' (hW9.below L').mv (by omega))
          rw [<- HXZ.out] at HFI
          have HFR := Za (fun W' (L' : Below w9.heap.size w9 W') => Zgg af aq cf cq (mat ms m) q W' (Zp.next hvf (Zd HL9.out L')) (Zp.next HQ.out (Zd HL9.out L')) (HSM.out.2 m) hql)
          have HPU : Hid (∀ W', Below w9.heap.size w9 W' -> Calls Tryz.prog 253 #[.slice (some ⟨gs2, 0, none⟩) st.1.length cs2, .agg #[.int .i64 x, .int .i64 (ZN (mat ms m) q)]] W' fun e w' => ∃ g' c', e = .returned (.slice (some ⟨g', 0, none⟩) (ZaM st.1 (Zl ms q x)).length c') /\ Zy W'.heap.size w' g' c' (ZaM st.1 (Zl ms q x)) /\ Below W'.heap.size W' w') := fun W' L' => by
           rw [HHX.out]
           exact sPut W.heap.size gs2 cs2 st.1 (x, ZN (mat ms m) q) W' (HR9.out.below (Nat.le_refl _) L') (by omega)
          have HSX : Hid (∀ W', Below w9.heap.size w9 W' -> W'.cell? ⟨w.heap.size, 0, none⟩ = some (.slice (some ⟨bm, om, none⟩) ms.length cm) /\ W'.cell? ⟨bm, om + m * 2 + 1, none⟩ = some (.slice af (mat ms m).length cf) /\ W'.cell? ⟨ba, oa + k2, none⟩ = some (.int .i64 x)) := fun W' L' => by
           have L9 := Zd HL9.out L'
           refine ⟨(hW9.below L').c0, (L9.cell (p := ⟨bm, om + m * 2 + 1, none⟩) hbm).trans hcf, ?_⟩
           have := (L9.cell (p := ⟨ba, oa + k2, none⟩) hba).trans (HXS.out.1 k2 hlt2)
           rw [HXS.out.2] at this
           exact this
          have hx9 := (HSX.out w9 (Below.refl _ _)).2.2
          have BL1 := Za ((Below.refl w9.heap.size w9).drew)
          clear HRI HRS HRO HLA hown9 hgrow9 hW9 hs9 hcf hvf hxk
          go_wp2_with fail
          refine Zr (S := fun W' => Below w9.heap.size w9 W') (fuel := 8) [0, 1, 2, 3, 4, 5, 6, 7, 8, 9, 10, 11, 12, 17] (by kernel_rfl) (by kernel_rfl) (by kernel_rfl) (by kernel_rfl) BL1.out (fun _ => ?_)
          iterate 14 (refine ⟨_, rfl, ?_⟩; apply Exists.intro; refine ⟨Or.inl ⟨by rfl, fun w' hw' => ?_⟩, ?_⟩; (focus (obtain ⟨e1, e2, e3⟩ := HSX.out w' hw'; first | (go_simp; done) | (go_simp; with_reducible rfl))); simp only [Act.put, List.getElem_toArray, List.getElem_cons_succ, List.getElem_cons_zero, List.setIfInBounds_toArray, List.set_cons_zero, List.set_cons_succ])
          refine Zg 13 (by kernel_rfl) rfl (fun K hK => ?_)
          go_simp
          refine (HFI.out _ BL1.out).mono ?_
          rintro e w10 ⟨rfl, hw10⟩
          have HL10 : Hid (Below w9.heap.size w9 w10) := by show Below _ _ _; rw [hw10]; exact BL1.out
          clear hw10
          refine hK.out _ _ HL10.out (fun _ => ?_)
          clear hK K
          refine Zv 4 [14, 15, 16] (by kernel_rfl) (by kernel_rfl) (by kernel_rfl) HL10.out ?_
          iterate 3 (refine ⟨_, rfl, ?_⟩; apply Exists.intro; refine ⟨Or.inl ⟨by rfl, fun w' hw' => ?_⟩, ?_⟩; (focus (obtain ⟨e1, e2, e3⟩ := HSX.out w' hw'; first | (go_simp; done) | (go_simp; with_reducible rfl))); simp only [Act.put, List.getElem_toArray, List.getElem_cons_succ, List.getElem_cons_zero, List.setIfInBounds_toArray, List.set_cons_zero, List.set_cons_succ])
          refine Zg 18 (by kernel_rfl) rfl (fun K hK => ?_)
          go_simp
          refine (HFR.out _ HL10.out).mono ?_
          rintro e w11 ⟨rfl, n11, hw11⟩
          have HL11 : Hid (Below w9.heap.size w9 w11) := by show Below _ _ _; rw [hw11]; exact below_drewN HL10.out n11
          clear hw11
          refine hK.out _ _ HL11.out (fun _ => ?_)
          clear hK K
          refine Zv 2 [19] (by kernel_rfl) (by kernel_rfl) (by kernel_rfl) HL11.out ?_
          iterate 1 (refine ⟨_, rfl, ?_⟩; apply Exists.intro; refine ⟨Or.inl ⟨by rfl, fun w' hw' => ?_⟩, ?_⟩; (focus (obtain ⟨e1, e2, e3⟩ := HSX.out w' hw'; first | (go_simp; done) | (go_simp; with_reducible rfl))); simp only [Act.put, List.getElem_toArray, List.getElem_cons_succ, List.getElem_cons_zero, List.setIfInBounds_toArray, List.set_cons_zero, List.set_cons_succ])
          refine Zg 20 (by kernel_rfl) rfl (fun K hK => ?_)
          go_simp
          refine (HPU.out _ HL11.out).mono ?_
          rintro e w12 ⟨g', c', rfl, hr12, L12⟩
          have HL12 := Za (Zd HL11.out L12)
          have hz11 := HL11.out.size
          have hg12 := hr12.lt
          have HR12 := Za (hr12.mono (base' := W.heap.size) (by have := HL9.out.size; omega))
          clear hr12 L12
          refine hK.out _ _ HL12.out (fun _ => ?_)
          clear hK K
          refine ZH [21] rfl (by kernel_rfl) (by kernel_rfl) (by kernel_rfl) HL12.out ?_
          iterate 1 (refine ⟨_, rfl, ?_⟩; apply Exists.intro; refine ⟨Or.inl ⟨by rfl, fun w' hw' => ?_⟩, ?_⟩; (focus (first | (go_simp; done) | (go_simp; with_reducible rfl))); simp only [Act.put, List.getElem_toArray, List.getElem_cons_succ, List.getElem_cons_zero, List.setIfInBounds_toArray, List.set_cons_zero, List.set_cons_succ])
          refine NoPanic.normal (NoPanic.normal ?_)
          have hI9 := HI9.out.lt2
          have hO9 := HO9.out.lt2
          have HFN : Hid (ZcQ W.heap.size w12 g' c' (ZaM st.1 (Zl ms q x)) g9 c9 (st.2 ++ [x]) g5 c5 (op ++ [id])) := ⟨HR12.out, HI9.out.next HL12.out hI9.2, HO9.out.next HL12.out hO9.2, by omega, by omega, by omega⟩
          have HLF := Za (Zd HL9.out HL12.out)
          clear HSX HFI HFR HPU BL1 HL10 HL11 HL12 HR12 hx9
          go_wp2_with fail
          go_roundw
          case rel => exact ⟨k2 + 1, g', c', g9, c9, by omega, by go_num, by rw [HN.out], by rw [HN.out]; simp, by rw [HN.out]; exact HFN.out, HLF.out⟩
          case measure => simp [intOf]; omega
        · rw [hb] at HH
          have HN : Hid (ZaT ms q (cn ls jd) s ids (k2 + 1) = st) := by show _ = _; rw [HSN.out, hb]; rfl
          clear hwl
          go_wp2_with fail
          refine HH.out.mono ?_
          rintro e w7 ⟨rfl, hw7⟩
          subst hw7
          go_wp2_with fail
          go_roundw
          case rel => exact ⟨k2 + 1, gs2, cs2, gi2, ci2, by omega, by go_num, by rw [HN.out], by rw [HN.out], by rw [HN.out]; exact HIN2.out, HL2.out⟩
          case measure => simp [intOf]; omega
      · obtain rfl : k2 = (cn ls jd).length := by omega
        have HFIN := HSTEP
        rw [HST2.out] at HFIN
        go_wp2_with fail
        go_roundw
        case rel => exact ⟨st.1, st.2, op ++ [id], gs2, cs2, gi2, ci2, g5, c5, rfl, rfl, by simp, HFIN.out.2.1, HFIN.out.2.2, by rw [HEQ.out, HFIN.out.1], HIN2.out, HL2.out⟩
        case measure => simp [ZmX]; omega
   · have HN : Hid (ZaS ms ls q wide.toNat s ids op = s.take wide.toNat) := Zc9 (by rw [HZZ.out]; omega)
     have HN2 : Hid (ZaS ms ls q wide.toNat [Zl ms q fr] [fr] [] = s.take wide.toNat) := by show _ = _; rw [HEQ.out, HN.out]
     go_wp2_with fail
     refine HFS.out.mono ?_
     rintro e w2 ⟨g', c', rfl, hr2, L2⟩
     have HF2 := Za (And.intro (hr2.mono (base' := w.heap.size) (by have := HWS.out; omega)) (Zd HB.out (Zd HL.out L2)))
     clear hr2 L2
     go_wp2_with fail
     go_ret
     rw [HN2.out]
     exact ⟨g', c', by rw [List.length_take]; rfl, HF2.out.1, HF2.out.2⟩
end Go.Proofs.YtaaagmgglolibaaGreat
