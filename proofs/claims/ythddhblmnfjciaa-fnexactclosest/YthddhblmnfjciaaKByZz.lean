/-
  The given l5By: marks by a number of theirs.
-/
import Derived.Test.YthddhblmnfjciaaSCellsZz
import Derived.Deep.RegionHeld3
import Derived.Deep.CutBlock
namespace Go.Proofs.Ythddhblmnfjciaa
open Go Go.RowKit

theorem smlt_iff (ax : Nat) (a b : Sm) : smlt ax a b = true ↔ nth a.2.2.2 ax < nth b.2.2.2 ax ∨ (nth a.2.2.2 ax = nth b.2.2.2 ax ∧ a.1 < b.1) := axlt_iff ax _ _
theorem smlt_not (ax : Nat) (a b : Sm) : smlt ax a b = false ↔ nth b.2.2.2 ax < nth a.2.2.2 ax ∨ (nth a.2.2.2 ax = nth b.2.2.2 ax ∧ b.1 ≤ a.1) := axlt_not ax _ _

theorem SrcAt.none (w : World) (size : Nat) (ao : Option Addr) : SrcAt w size ao 0 [] := ⟨by simp, fun u hu => (by cases hu), Or.inl rfl⟩
/-- What holds all through a statement that puts a mark into a row: the mark's own cells, and all that was there. -/
def DS (w3 : World) (b o : Nat) (u v : Value) (w' : World) : Prop := (w'.cell? ⟨b, o, none⟩ = some u ∧ w'.cell? ⟨b, o + 1, none⟩ = some v) ∧ Below w3.heap.size w3 w'
theorem DS.of {w3 w' : World} {b o : Nat} {u v : Value} (hq : b < w3.heap.size) (e0 : w3.cell? ⟨b, o, none⟩ = some u) (e1 : w3.cell? ⟨b, o + 1, none⟩ = some v) (L : Below w3.heap.size w3 w') : DS w3 b o u v w' :=
  ⟨⟨(L.cell (p := ⟨b, o, none⟩) hq).trans e0, (L.cell (p := ⟨b, o + 1, none⟩) hq).trans e1⟩, L⟩
theorem DS.grown {w3 w' w4 : World} {b o n : Nat} {u v : Value} (hs : DS w3 b o u v w') (hq : b < w3.heap.size) (hg : w'.grownBy w4 (some n)) (hn : w3.heap.size ≤ n) : DS w3 b o u v w4 := by
  have hz := hs.2.size
  have L : Below w3.heap.size w' w4 := (Below.refl _ _).grown hg (by omega) (by intro k hk; cases hk; exact hn)
  exact ⟨⟨(L.cell (p := ⟨b, o, none⟩) hq).trans hs.1.1, (L.cell (p := ⟨b, o + 1, none⟩) hq).trans hs.1.2⟩, hs.2.trans L⟩
theorem put_litM {base : Nat} (w3 : World) (X : Obj) (hb : base ≤ w3.heap.size) : ((w3.alloc X).alloc (.cells #[] 93)).drew.ownsRow base 93 2 (.slice (some ⟨w3.heap.size + 1, 0, none⟩) 0 0) 0 [] := by
  have := World.ownsRow_lit (base := base) (e := 93) (size := 2) (w3.alloc X) #[] 0 (by simp; omega) (Nat.zero_le _) rfl
  rw [show (w3.alloc X).heap.size = w3.heap.size + 1 by simp] at this
  exact World.ownsRow.drew this

set_option maxRecDepth 100000 in
set_option maxHeartbeats 4000000 in
theorem sBy (ao : Option Addr) (cap ax : Nat) (ds : List Sm) (w : World) (hv : SView w ao ds) (hl : SLies w ds) (hn : ds.length ≤ 1048576) (hax : ∀ d ∈ ds, ax < d.2.2.2.length ∧ d.2.2.2.length ≤ 1048576) :
    Calls Try.prog 154 #[.slice ao ds.length cap, .int .i64 ax] w fun e w' => ∃ g c, e = .returned (.slice (some ⟨g, 0, none⟩) ds.length c) ∧ SRow w.heap.size w' g c (sortBy (smlt ax) ds) ∧ Below w.heap.size w w' := by
  obtain ⟨j0, hj0, hy0, hy1, hy2⟩ := info_parts Try.info93
  have HV := hidP hv
  have HLI := hidP hl
  have HAX := hidP hax
  clear hv hl hax
  go_enter Try.func154, Try.ntmps154
  go_wp2_with fail
  go_loopw [5, 6] (fun o i wr => ∃ (k g c : Nat), k ≤ ds.length ∧ i = .int .i64 k ∧ o = .slice (some ⟨g, 0, none⟩) k c ∧ SRow w.heap.size wr g c (sortBy (smlt ax) (ds.take k)) ∧ Below w.heap.size w wr) (fun _ i _ => ds.length - (intOf i).toNat)
  case atStart => exact ⟨0, w.heap.size, 0, Nat.zero_le _, rfl, rfl, SRow.start w _ (Nat.le_refl _), (Below.refl _ _).alloc (Nat.le_refl _) _⟩
  case round =>
    obtain ⟨k, g, c, hk, rfl, rfl, hrow, L⟩ := hrel
    by_cases hlt : k < ds.length
    · have hlen : (sortBy (smlt ax) (ds.take k)).length = k := by rw [sortBy_length]; simp; omega
      have HNX := hidP (sortBy_take (smlt ax) ds k hlt)
      have hmem : ∀ d ∈ sortBy (smlt ax) (ds.take k), d ∈ ds := fun d hd => List.mem_of_mem_take ((sortBy_perm _ _).mem_iff.1 hd)
      rw [← snth_get hlt] at HNX
      have hmd : snth ds k ∈ ds := snth_mem hlt
      generalize sortBy (smlt ax) (ds.take k) = es at *
      obtain ⟨b, off, rfl, hb, hs⟩ := HV.out.seg (by omega)
      obtain ⟨d0, d1⟩ := hs k hlt
      generalize hd : snth ds k = d at *
      have HROW := hidP hrow
      have HL := hidP L
      have HMEM := hidP hmem
      have HMD := hidP hmd
      have HLEN := hidP hlen
      clear hrow L hmem hmd hlen hd
      obtain ⟨W, hW⟩ : ∃ W, W = wr := ⟨wr, rfl⟩
      subst hW
      go_upto_block 2 with fail
      go_cut [7] from 10 to 90 (fun kk wx => ∃ j : Nat, kk = .int .i64 j ∧ j ≤ k ∧ insBy (smlt ax) d es = es.take j ++ d :: es.drop j ∧ ∃ n, wx = W.drewN n)
      case first =>
        have HS0 := hidP ((HROW.out).seg)
        have HDV := hidP ((HLI.out d HMD.out).next HL.out)
        obtain ⟨hd1, hd2⟩ := HAX.out d HMD.out
        obtain ⟨bd, od, hdo, hbd, hds⟩ : ∃ b off, d.2.1 = some ⟨b, off, none⟩ ∧ b < W.heap.size ∧ Seg W b off d.2.2.2 := by
          rcases HDV.out with h | h
          · rw [h] at hd1; simp at hd1
          · exact h
        have z0 := (HL.out.cell (p := ⟨b, off + k * 2, none⟩) hb).trans d0
        have z1 := (HL.out.cell (p := ⟨b, off + k * 2 + 1, none⟩) hb).trans d1
        have z2 := hds ax hd1
        rw [hdo] at z1
        clear d0 d1 hds HDV hs hdo
        have hkn : (k : Int) < (ds.length : Int) := by omega
        have hk0 : (0 : Int) ≤ (k : Int) := Int.natCast_nonneg _
        have ha0 : (0 : Int) ≤ (ax : Int) := Int.natCast_nonneg _
        have ha1 : (ax : Int) < (d.2.2.2.length : Int) := by omega
        go_wp2_with fail
        go_loopw [7] (fun kk wq => ∃ j : Nat, j ≤ k ∧ kk = .int .i64 j ∧ (∀ i (h : i < es.length), i < j → smlt ax es[i] d = true) ∧ ∃ n, wq = W.drewN n) (fun kk _ => k - (intOf kk).toNat)
        case atStart => exact ⟨0, Nat.zero_le _, rfl, fun i h1 h2 => by omega, 0, rfl⟩
        case round =>
          obtain ⟨j, hj, rfl, hall, hw⟩ := hrel
          have HA := hidP hall
          have HW := hidP hw
          clear hall hw
          by_cases hjk : j < k
          · have hjl : j < es.length := by have := HLEN.out; omega
            obtain ⟨q0, q1⟩ := HS0.out j hjl
            have hme := HMEM.out _ (snth_mem hjl)
            have HEV := hidP ((HLI.out _ hme).next HL.out)
            obtain ⟨he1, he2⟩ := HAX.out _ hme
            have HSN := hidP (snth_get hjl)
            generalize snth es j = x at *
            obtain ⟨bx, ox, hxo, hbx, hxs⟩ : ∃ b off, x.2.1 = some ⟨b, off, none⟩ ∧ b < W.heap.size ∧ Seg W b off x.2.2.2 := by
              rcases HEV.out with h | h
              · rw [h] at he1; simp at he1
              · exact h
            have q2 := hxs ax he1
            rw [hxo] at q1
            have hxl : (ax : Int) < (x.2.2.2.length : Int) := by omega
            have hjn : (j : Int) < (k : Int) := by omega
            have hj0 : (0 : Int) ≤ (j : Int) := Int.natCast_nonneg _
            clear hxs HEV hme hxo
            rw [Nat.zero_add] at q0 q1
            have p0 : wr.cell? ⟨g, j * 2, none⟩ = some (.int .i64 x.1) := by obtain ⟨n, e⟩ := HW.out; rw [e]; exact q0
            have p1 : wr.cell? ⟨g, j * 2 + 1, none⟩ = some (.slice (some ⟨bx, ox, none⟩) x.2.2.2.length x.2.2.1) := by obtain ⟨n, e⟩ := HW.out; rw [e]; exact q1
            have p2 : wr.cell? ⟨bx, ox + ax, none⟩ = some (.int .i64 (nth x.2.2.2 ax)) := by obtain ⟨n, e⟩ := HW.out; rw [e]; exact q2
            have y0 : wr.cell? ⟨b, off + k * 2, none⟩ = some (.int .i64 d.1) := by obtain ⟨n, e⟩ := HW.out; rw [e]; exact z0
            have y1 : wr.cell? ⟨b, off + k * 2 + 1, none⟩ = some (.slice (some ⟨bd, od, none⟩) d.2.2.2.length d.2.2.1) := by obtain ⟨n, e⟩ := HW.out; rw [e]; exact z1
            have y2 : wr.cell? ⟨bd, od + ax, none⟩ = some (.int .i64 (nth d.2.2.2 ax)) := by obtain ⟨n, e⟩ := HW.out; rw [e]; exact z2
            clear q0 q1 q2 z0 z1 z2
            have HIFF := hidP (And.intro (smlt_iff ax x d) (smlt_not ax x d))
            have HOUT : Hid (smlt ax x d = false → insBy (smlt ax) d es = es.take j ++ d :: es.drop j) := fun hf => by
              have e := posBy_uniq (smlt ax) d es j (by omega) HA.out (fun h => by rw [← HSN.out]; exact hf)
              have := insBy_eq (smlt ax) d es
              rw [e] at this
              exact this
            have HNXT : Hid (smlt ax x d = true → ∀ i (h : i < es.length), i < j + 1 → smlt ax es[i] d = true) := fun hf i h1 h2 => by
              rcases Nat.lt_or_ge i j with h3 | h3
              · exact HA.out i h1 h3
              · obtain rfl : i = j := by omega
                rw [← HSN.out]; exact hf
            generalize hx2 : nth x.2.2.2 ax = vx at *
            generalize hd2' : nth d.2.2.2 ax = vd at *
            clear HA HSN
            by_cases h1 : vx < vd
            · have h1b : decide (vx < vd) = true := by simp [h1]
              have HT := hidP (HNXT.out (HIFF.out.1.2 (Or.inl h1)))
              clear HIFF HOUT HNXT hx2 hd2'
              go_wp2_with fail
              go_quiet (fail)
              go_wp2_with fail
              go_roundw
              case rel => exact ⟨j + 1, by omega, by go_num, HT.out, by obtain ⟨n, hn⟩ := HW.out; exact ⟨n + nq, by rw [hn]; simp⟩⟩
              case measure => simp [intOf]; omega
            · have h1b : decide (vx < vd) = false := by simp [h1]
              by_cases h2 : vx = vd
              · have h2b : (vx == vd) = true := by simp [h2]
                by_cases h3 : x.1 < d.1
                · have h3b : decide (x.1 < d.1) = true := by simp [h3]
                  have HT := hidP (HNXT.out (HIFF.out.1.2 (Or.inr ⟨h2, h3⟩)))
                  clear HIFF HOUT HNXT hx2 hd2' h2
                  go_wp2_with fail
                  go_quiet (fail)
                  go_wp2_with fail
                  go_roundw
                  case rel => exact ⟨j + 1, by omega, by go_num, HT.out, by obtain ⟨n, hn⟩ := HW.out; exact ⟨n + nq, by rw [hn]; simp⟩⟩
                  case measure => simp [intOf]; omega
                · have h3b : decide (x.1 < d.1) = false := by simp [h3]
                  have HT := hidP (HOUT.out (HIFF.out.2.2 (Or.inr ⟨h2, by omega⟩)))
                  clear HIFF HOUT HNXT hx2 hd2' h2
                  go_wp2_with fail
                  go_quiet (fail)
                  go_wp2_with fail
                  go_meet
                  exact ⟨j, rfl, hj, HT.out, by obtain ⟨n, hn⟩ := HW.out; exact ⟨n + nq, by rw [hn]; simp⟩⟩
              · have h2b : (vx == vd) = false := by simp [h2]
                have HT := hidP (HOUT.out (HIFF.out.2.2 (Or.inl (by omega))))
                clear HIFF HOUT HNXT hx2 hd2' h2
                go_wp2_with fail
                go_quiet (fail)
                go_wp2_with fail
                go_meet
                exact ⟨j, rfl, hj, HT.out, by obtain ⟨n, hn⟩ := HW.out; exact ⟨n + nq, by rw [hn]; simp⟩⟩
          · obtain rfl : j = k := by omega
            have HT : Hid (insBy (smlt ax) d es = es.take j ++ d :: es.drop j) := by
              have e := posBy_uniq (smlt ax) d es j (by have := HLEN.out; omega) HA.out (fun h => by have := HLEN.out; omega)
              have := insBy_eq (smlt ax) d es
              rw [e] at this
              exact this
            clear HA HS0 z0 z1 z2
            have hjb : decide ((j : Int) < (j : Int)) = false := by simp
            go_wp2_with fail
            go_quiet (fail)
            go_wp2_with fail
            go_meet
            exact ⟨j, rfl, hj, HT.out, by obtain ⟨n, hn⟩ := HW.out; exact ⟨n + nq, by rw [hn]; simp⟩⟩
      case rest =>
        obtain ⟨j, rfl, hjk, hins, n, rfl⟩ := hcut
        have HINS := hidP hins
        clear hins
        have L1 : Below w.heap.size w (W.drewN n) := below_drewN HL.out n
        have hrow1 : SRow w.heap.size (W.drewN n) g c es := HROW.out
        generalize W.drewN n = W1 at *
        have hcap := hrow1.cap
        have hlen := HLEN.out
        have hgl := hrow1.lt
        have HS1 := hidP hrow1.seg
        have HL1 := hidP L1
        have hdl : (es.drop j).length = k - j := by simp; omega
        have htl : (es.take j).length = j := by simp; omega
        clear hrow1 L1
        go_upto_region 8 with fail
        go_cut [8] from 10 to 90 (fun r wx => ∃ gr cr, r = .slice (some ⟨gr, 0, none⟩) (k - j) cr ∧ SRow w.heap.size wx gr cr (es.drop j) ∧ Below W1.heap.size W1 wx)
        case first =>
          have hj0' : (0 : Int) ≤ (j : Int) := Int.natCast_nonneg _
          have hj1 : (j : Int) ≤ (k : Int) := by omega
          have hj2 : (j : Int) ≤ (c : Int) := by omega
          have hj3 : (k : Int) ≤ (c : Int) := by omega
          have hw1 := HL1.out.size
          have LA : Below W1.heap.size W1 (W1.alloc (.cells #[] 93)) := (Below.refl _ _).alloc (Nat.le_refl _) _
          by_cases hjlt : j < k
          · have hcj : ¬ c = 0 := by omega
            have hcj2 : j < c := by omega
            have hcj3 : ¬ c - j = 0 := by omega
            have HSRC : Hid (SrcAt (W1.alloc (.cells #[] 93)) 2 (some ⟨g, j * 2, none⟩) (k - j) (smCells (es.drop j))) := by
              have hv : SView (W1.alloc (.cells #[] 93)) (some ⟨g, j * 2, none⟩) (es.drop j) := Or.inr ⟨g, j * 2, rfl, by simp; omega, by
                have := (HS1.out.drop j).below (B := W1.heap.size) (by omega) LA
                rwa [Nat.zero_add] at this⟩
              have := hv.src
              rwa [hdl] at this
            go_wp2_with (at_builtin; refine wpList_append_at _ rfl (.tmp 73) (.tmp 76) 34 rfl w.heap.size 93 j0 _ 2 32 Try.underlying34 hj0 hy0 hy1 hy2 rfl (by omega) W1.heap.size 0 0 [] rfl (World.ownsRow_lit W1 #[] 0 (by omega) (Nat.zero_le _) rfl) (some ⟨g, j * 2, none⟩) (k - j) (c - j) (smCells (es.drop j)) rfl HSRC.out (by unfold maxLen; omega) (by omega) (by simp; omega) (W1.heap.size + 1) (by simp) ?_; intro gr cr w3 hownr hgrowr hatr hltr)
            have hrest : SRow w.heap.size w3 gr cr (es.drop j) := SRow.of hownr (by omega) (by simp)
            have L3 : Below W1.heap.size W1 w3 := LA.grown hgrowr (by simp) (by intro q hq; cases hq; exact Nat.le_refl _)
            have HE := hidP (And.intro hrest L3)
            clear hownr hgrowr hatr hltr hrest L3 LA HSRC
            go_meet
            exact ⟨gr, cr, by first | rfl | rw [Nat.zero_add], HE.out.1, HE.out.2⟩
          · obtain rfl : j = k := by omega
            have HE : Hid (SRow w.heap.size (W1.alloc (.cells #[] 93)) W1.heap.size 0 (es.drop j)) := by
              rw [List.drop_of_length_le (by omega)]
              exact SRow.start W1 _ hw1
            have HLA := hidP LA
            clear LA
            by_cases hc0 : c = 0
            · obtain rfl : j = 0 := by omega
              subst hc0
              go_wp2_with fail
              all_goals
                go_meet
                exact ⟨W1.heap.size, 0, rfl, HE.out, HLA.out⟩
            · by_cases hcj : c = j
              · subst hcj
                go_wp2_with fail
                all_goals
                  go_meet
                  exact ⟨W1.heap.size, 0, by simp, HE.out, HLA.out⟩
              · have hcj3 : ¬ c - j = 0 := by omega
                go_wp2_with fail
                all_goals
                  go_meet
                  exact ⟨W1.heap.size, 0, by simp, HE.out, HLA.out⟩
        case rest =>
          obtain ⟨gr, cr, rfl, hrest, L3⟩ := hcut
          generalize hw3 : wc = w3 at *
          clear hw3
          have HR := hidP hrest
          have HL3 := hidP L3
          clear hrest L3
          go_upto_region 9 with fail
          have hz1 := HL1.out.size
          have hz3 := HL3.out.size
          have hq3 : b < w3.heap.size := by omega
          have L13 := hidP (HL1.out.trans (HL3.out.mono hz1))
          have e0 := (L13.out.cell (p := ⟨b, off + k * 2, none⟩) hb).trans d0
          have e1 := (L13.out.cell (p := ⟨b, off + k * 2 + 1, none⟩) hb).trans d1
          have hg3 : g < w3.heap.size := by omega
          have HVR : Hid (∀ w', Below w3.heap.size w3 w' → SrcAt w' 2 (some ⟨gr, 0, none⟩) (k - j) (smCells (es.drop j))) := fun w' L => by
            have := ((HR.out.sview).next L).src
            rwa [hdl] at this
          have hk1 : (j : Int) ≤ (c : Int) := by omega
          have hk2 : (j : Int) ≤ (k : Int) := by omega
          have hk3 : (0 : Int) ≤ (j : Int) := by omega
          have hk4 : j ≤ c := by omega
          have hn0 : (0 : Int) ≤ (k : Int) := by omega
          have hn1 : (k : Int) < (ds.length : Int) := by omega
          have HEND : Hid (∀ (gC cC : Nat) (wC : World), wC.ownsRow w.heap.size 93 2 (.slice (some ⟨gC, 0, none⟩) (j + 1 + (k - j)) cC) (j + 1 + (k - j)) (smCells (es.take j) ++ smCells [d] ++ smCells (es.drop j)) → Below w3.heap.size w3 wC → Value.slice (some ⟨gC, 0, none⟩) (j + 1 + (k - j)) cC = .slice (some ⟨gC, 0, none⟩) (k + 1) cC ∧ SRow w.heap.size wC gC cC (insBy (smlt ax) d es) ∧ Below w.heap.size w wC) := fun gC cC wC ho L => by
            have e : j + 1 + (k - j) = k + 1 := by omega
            refine ⟨by rw [e], SRow.of ho (by rw [insBy_length]; omega) ?_, L13.out.trans (L.mono (by omega))⟩
            rw [HINS.out, smCells_append, List.append_assoc]
            rfl
          have HVT : Hid (∀ w', Below w3.heap.size w3 w' → SrcAt w' 2 (some ⟨g, 0, none⟩) j (smCells (es.take j))) := fun w' L => by
            have hv : SView w' (some ⟨g, 0, none⟩) (es.take j) := Or.inr ⟨g, 0, rfl, by have := L.size; omega, (((HS1.out.below (by omega) HL3.out).take j).below hg3 L)⟩
            have := hv.src
            rwa [htl] at this
          clear HS1 HR HL1 HL3 d0 d1 hs HL HROW
          by_cases hk5 : c = 0
          · subst hk5
            obtain rfl : j = 0 := by omega
            obtain rfl : k = 0 := by omega
            simp only [Nat.zero_mul, Nat.add_zero] at e0 e1
            go_region_held3 (fun w' => (w'.cell? ⟨b, off, none⟩ = some (.int .i64 d.1) ∧ w'.cell? ⟨b, off + 1, none⟩ = some (.slice d.2.1 d.2.2.2.length d.2.2.1)) ∧ Below w3.heap.size w3 w')
              (first
                | exact ⟨⟨e0, e1⟩, (Below.refl _ _).drew⟩
                | exact DS.grown ⟨⟨f0, f1⟩, LwB⟩ hq3 hgC hBB
                | exact DS.of hq3 e0 e1 LwB
                | exact DS.of hq3 e0 e1 (LwA.alloc (by omega) _)
                | exact DS.of hq3 e0 e1 LwA
                | exact DS.of hq3 e0 e1 ((Below.refl _ _).alloc (Nat.le_refl _) _).drew
                | exact DS.of hq3 e0 e1 (((Below.refl _ _).alloc (Nat.le_refl _) _).alloc (by simp) _).drew)
              (first
                | (refine step_append_at _ (by rfl) (.tmp 78) (.tmp 81) 34 (by rfl) w.heap.size 93 j0 _ 2 32 Try.underlying34 hj0 hy0 hy1 hy2 rfl (by omega) w3.heap.size 0 0 [] (by rfl) (World.ownsRow.drew (World.ownsRow_lit w3 #[] 0 (by omega) (Nat.zero_le _) rfl)) _ 0 0 [] (by rfl) (SrcAt.none _ _ _) (by unfold maxLen; omega) (by omega) (by simp; omega) (w3.heap.size + 1) (by simp) ?_; intro gA cA wA hoA hgA haA hlA;  have LwA : Below w3.heap.size w3 wA := ((Below.refl _ _).alloc (Nat.le_refl _) _).drew.grown hgA (by simp) (by intro q hq; cases hq; exact Nat.le_refl _); have hA : w3.heap.size ≤ gA := (by omega); have hoA2 : wA.ownsRow w.heap.size 93 2 (.slice (some ⟨gA, 0, none⟩) 0 cA) 0 [] := (by simpa using hoA))
                | (refine step_append_at _ (by rfl) (.tmp 78) (.tmp 81) 34 (by rfl) w.heap.size 93 j0 _ 2 32 Try.underlying34 hj0 hy0 hy1 hy2 rfl (by omega) w3.heap.size 0 0 [] (by rfl) (World.ownsRow.drew (World.ownsRow.alloc (World.ownsRow_lit w3 #[] 0 (by omega) (Nat.zero_le _) rfl) _)) _ 0 0 [] (by rfl) (SrcAt.none _ _ _) (by unfold maxLen; omega) (by omega) (by simp; omega) (w3.heap.size + 1 + 1) (by simp) ?_; intro gA cA wA hoA hgA haA hlA;  have LwA : Below w3.heap.size w3 wA := (((Below.refl _ _).alloc (Nat.le_refl _) _).alloc (by simp) _).drew.grown hgA (by simp; omega) (by intro q hq; cases hq; exact Nat.le_refl _); have hA : w3.heap.size ≤ gA := (by omega); have hoA2 : wA.ownsRow w.heap.size 93 2 (.slice (some ⟨gA, 0, none⟩) 0 cA) 0 [] := (by simpa using hoA); have hX : wA.heap[w3.heap.size + 1]? = some (.cells #[.int .i64 d.1, .slice d.2.1 d.2.2.2.length d.2.2.1] 93 (0, 0)) := put_two hgA)
                | (refine step_append_at _ (by rfl) (.tmp 78) (.tmp 81) 34 (by rfl) w.heap.size 93 j0 _ 2 32 Try.underlying34 hj0 hy0 hy1 hy2 rfl (by omega) (w3.heap.size + 1) 0 0 [] (by rfl) (put_litM w3 _ (by omega)) _ 0 0 [] (by rfl) (SrcAt.none _ _ _) (by unfold maxLen; omega) (by omega) (by simp; omega) (w3.heap.size + 1 + 1) (by simp) ?_; intro gA cA wA hoA hgA haA hlA;  have LwA : Below w3.heap.size w3 wA := (((Below.refl _ _).alloc (Nat.le_refl _) _).alloc (by simp) _).drew.grown hgA (by simp; omega) (by intro q hq; cases hq; omega); have hA : w3.heap.size ≤ gA := (by omega); have hoA2 : wA.ownsRow w.heap.size 93 2 (.slice (some ⟨gA, 0, none⟩) 0 cA) 0 [] := (by simpa using hoA); have hX : wA.heap[w3.heap.size]? = some (.cells #[.int .i64 d.1, .slice d.2.1 d.2.2.2.length d.2.2.1] 93 (0, 0)) := put_one hgA)
                | (refine step_append_at _ (by rfl) (.tmp 82) (.tmp 87) 34 (by rfl) w.heap.size 93 j0 _ 2 32 Try.underlying34 hj0 hy0 hy1 hy2 rfl (by omega) gA 0 cA [] (by rfl) hoA2 (some ⟨_, 0, none⟩) 1 1 (smCells [d]) (by rfl) (one_srcM hX) (by unfold maxLen; omega) (by omega) (by have := LwA.size; omega) wA.heap.size (by rfl) ?_; intro gB cB wB hoB hgB haB hlB; have LwB : Below w3.heap.size w3 wB := LwA.grown hgB LwA.size (by intro q hq; cases hq; exact hA); have hBB : w3.heap.size ≤ gB := (by have := LwA.size; omega); have hoB2 : wB.ownsRow w.heap.size 93 2 (.slice (some ⟨gB, 0, none⟩) (0 + 1) cB) (0 + 1) ([] ++ smCells [d]) := hoB)
                | (refine step_append_at _ (by rfl) (.tmp 82) (.tmp 87) 34 (by rfl) w.heap.size 93 j0 _ 2 32 Try.underlying34 hj0 hy0 hy1 hy2 rfl (by omega) gA 0 cA [] (by rfl) (World.ownsRow.alloc hoA2 _) (some ⟨wA.heap.size, 0, none⟩) 1 1 (smCells [d]) (by rfl) (one_srcM (heap_alloc_new wA _)) (by unfold maxLen; omega) (by omega) (by have := LwA.size; simp; omega) (wA.heap.size + 1) (by simp) ?_; intro gB cB wB hoB hgB haB hlB; have LwB : Below w3.heap.size w3 wB := (LwA.alloc LwA.size _).grown hgB (by have := LwA.size; simp; omega) (by intro q hq; cases hq; exact hA); have hBB : w3.heap.size ≤ gB := (by have := LwA.size; omega); have hoB2 : wB.ownsRow w.heap.size 93 2 (.slice (some ⟨gB, 0, none⟩) (0 + 1) cB) (0 + 1) ([] ++ smCells [d]) := hoB)
                | (refine step_append_at _ (by rfl) (.tmp 88) (.tmp 89) 34 (by rfl) w.heap.size 93 j0 _ 2 32 Try.underlying34 hj0 hy0 hy1 hy2 rfl (by omega) gB (0 + 1) cB ([] ++ smCells [d]) (by rfl) hoB2 (some ⟨gr, 0, none⟩) (0 - 0) cr (smCells (es.drop 0)) (by rfl) (HVR.out _ LwB) (by unfold maxLen; omega) (by omega) (by have := LwB.size; omega) wB.heap.size (by rfl) ?_; intro gC cC wC hoC hgC haC hlC; have f0 := (LwB.cell (p := ⟨b, off, none⟩) hq3).trans e0; have f1 := (LwB.cell (p := ⟨b, off + 1, none⟩) hq3).trans e1))
            all_goals
              have HF := hidP (HEND.out gC cC wC (by first | exact hoC | simpa using hoC) (LwB.grown hgC LwB.size (by intro q hq; cases hq; exact hBB)))
              clear hoC hgC haC hlC hoB hgB hoA hgA hoB2 hoA2 LwA LwB
              go_wp2_with fail
              go_roundw
              case rel => exact ⟨0 + 1, gC, cC, by omega, by go_num, HF.out.1, by rw [HNX.out]; exact HF.out.2.1, HF.out.2.2⟩
              case measure => simp [intOf]; omega
          · go_region_held3 (fun w' => (w'.cell? ⟨b, off + k * 2, none⟩ = some (.int .i64 d.1) ∧ w'.cell? ⟨b, off + k * 2 + 1, none⟩ = some (.slice d.2.1 d.2.2.2.length d.2.2.1)) ∧ Below w3.heap.size w3 w')
              (first
                | exact ⟨⟨e0, e1⟩, (Below.refl _ _).drew⟩
                | exact DS.grown ⟨⟨f0, f1⟩, LwB⟩ hq3 hgC hBB
                | exact DS.of hq3 e0 e1 LwB
                | exact DS.of hq3 e0 e1 (LwA.alloc (by omega) _)
                | exact DS.of hq3 e0 e1 LwA
                | exact DS.of hq3 e0 e1 ((Below.refl _ _).alloc (Nat.le_refl _) _).drew
                | exact DS.of hq3 e0 e1 (((Below.refl _ _).alloc (Nat.le_refl _) _).alloc (by simp) _).drew)
              (first
                | (refine step_append_at _ (by rfl) (.tmp 78) (.tmp 81) 34 (by rfl) w.heap.size 93 j0 _ 2 32 Try.underlying34 hj0 hy0 hy1 hy2 rfl (by omega) w3.heap.size 0 0 [] (by rfl) (World.ownsRow.drew (World.ownsRow_lit w3 #[] 0 (by omega) (Nat.zero_le _) rfl)) (some ⟨g, 0, none⟩) j c (smCells (es.take j)) (by rfl) (HVT.out _ ((Below.refl _ _).alloc (Nat.le_refl _) _).drew) (by unfold maxLen; omega) (by omega) (by simp; omega) (w3.heap.size + 1) (by simp) ?_; intro gA cA wA hoA hgA haA hlA; rw [Nat.zero_add]; have LwA : Below w3.heap.size w3 wA := ((Below.refl _ _).alloc (Nat.le_refl _) _).drew.grown hgA (by simp) (by intro q hq; cases hq; exact Nat.le_refl _); have hA : w3.heap.size ≤ gA := (by omega); have hoA2 : wA.ownsRow w.heap.size 93 2 (.slice (some ⟨gA, 0, none⟩) j cA) j (smCells (es.take j)) := (by simpa using hoA))
                | (refine step_append_at _ (by rfl) (.tmp 78) (.tmp 81) 34 (by rfl) w.heap.size 93 j0 _ 2 32 Try.underlying34 hj0 hy0 hy1 hy2 rfl (by omega) w3.heap.size 0 0 [] (by rfl) (World.ownsRow.drew (World.ownsRow.alloc (World.ownsRow_lit w3 #[] 0 (by omega) (Nat.zero_le _) rfl) _)) (some ⟨g, 0, none⟩) j c (smCells (es.take j)) (by rfl) (HVT.out _ (((Below.refl _ _).alloc (Nat.le_refl _) _).alloc (by simp) _).drew) (by unfold maxLen; omega) (by omega) (by simp; omega) (w3.heap.size + 1 + 1) (by simp) ?_; intro gA cA wA hoA hgA haA hlA; rw [Nat.zero_add]; have LwA : Below w3.heap.size w3 wA := (((Below.refl _ _).alloc (Nat.le_refl _) _).alloc (by simp) _).drew.grown hgA (by simp; omega) (by intro q hq; cases hq; exact Nat.le_refl _); have hA : w3.heap.size ≤ gA := (by omega); have hoA2 : wA.ownsRow w.heap.size 93 2 (.slice (some ⟨gA, 0, none⟩) j cA) j (smCells (es.take j)) := (by simpa using hoA); have hX : wA.heap[w3.heap.size + 1]? = some (.cells #[.int .i64 d.1, .slice d.2.1 d.2.2.2.length d.2.2.1] 93 (0, 0)) := put_two hgA)
                | (refine step_append_at _ (by rfl) (.tmp 78) (.tmp 81) 34 (by rfl) w.heap.size 93 j0 _ 2 32 Try.underlying34 hj0 hy0 hy1 hy2 rfl (by omega) (w3.heap.size + 1) 0 0 [] (by rfl) (put_litM w3 _ (by omega)) (some ⟨g, 0, none⟩) j c (smCells (es.take j)) (by rfl) (HVT.out _ (((Below.refl _ _).alloc (Nat.le_refl _) _).alloc (by simp) _).drew) (by unfold maxLen; omega) (by omega) (by simp; omega) (w3.heap.size + 1 + 1) (by simp) ?_; intro gA cA wA hoA hgA haA hlA; rw [Nat.zero_add]; have LwA : Below w3.heap.size w3 wA := (((Below.refl _ _).alloc (Nat.le_refl _) _).alloc (by simp) _).drew.grown hgA (by simp; omega) (by intro q hq; cases hq; omega); have hA : w3.heap.size ≤ gA := (by omega); have hoA2 : wA.ownsRow w.heap.size 93 2 (.slice (some ⟨gA, 0, none⟩) j cA) j (smCells (es.take j)) := (by simpa using hoA); have hX : wA.heap[w3.heap.size]? = some (.cells #[.int .i64 d.1, .slice d.2.1 d.2.2.2.length d.2.2.1] 93 (0, 0)) := put_one hgA)
                | (refine step_append_at _ (by rfl) (.tmp 82) (.tmp 87) 34 (by rfl) w.heap.size 93 j0 _ 2 32 Try.underlying34 hj0 hy0 hy1 hy2 rfl (by omega) gA j cA (smCells (es.take j)) (by rfl) hoA2 (some ⟨_, 0, none⟩) 1 1 (smCells [d]) (by rfl) (one_srcM hX) (by unfold maxLen; omega) (by omega) (by have := LwA.size; omega) wA.heap.size (by rfl) ?_; intro gB cB wB hoB hgB haB hlB; have LwB : Below w3.heap.size w3 wB := LwA.grown hgB LwA.size (by intro q hq; cases hq; exact hA); have hBB : w3.heap.size ≤ gB := (by have := LwA.size; omega); have hoB2 : wB.ownsRow w.heap.size 93 2 (.slice (some ⟨gB, 0, none⟩) (j + 1) cB) (j + 1) (smCells (es.take j) ++ smCells [d]) := hoB)
                | (refine step_append_at _ (by rfl) (.tmp 82) (.tmp 87) 34 (by rfl) w.heap.size 93 j0 _ 2 32 Try.underlying34 hj0 hy0 hy1 hy2 rfl (by omega) gA j cA (smCells (es.take j)) (by rfl) (World.ownsRow.alloc hoA2 _) (some ⟨wA.heap.size, 0, none⟩) 1 1 (smCells [d]) (by rfl) (one_srcM (heap_alloc_new wA _)) (by unfold maxLen; omega) (by omega) (by have := LwA.size; simp; omega) (wA.heap.size + 1) (by simp) ?_; intro gB cB wB hoB hgB haB hlB; have LwB : Below w3.heap.size w3 wB := (LwA.alloc LwA.size _).grown hgB (by have := LwA.size; simp; omega) (by intro q hq; cases hq; exact hA); have hBB : w3.heap.size ≤ gB := (by have := LwA.size; omega); have hoB2 : wB.ownsRow w.heap.size 93 2 (.slice (some ⟨gB, 0, none⟩) (j + 1) cB) (j + 1) (smCells (es.take j) ++ smCells [d]) := hoB)
                | (refine step_append_at _ (by rfl) (.tmp 88) (.tmp 89) 34 (by rfl) w.heap.size 93 j0 _ 2 32 Try.underlying34 hj0 hy0 hy1 hy2 rfl (by omega) gB (j + 1) cB (smCells (es.take j) ++ smCells [d]) (by rfl) hoB2 (some ⟨gr, 0, none⟩) (k - j) cr (smCells (es.drop j)) (by rfl) (HVR.out _ LwB) (by unfold maxLen; omega) (by omega) (by have := LwB.size; omega) wB.heap.size (by rfl) ?_; intro gC cC wC hoC hgC haC hlC; have f0 := (LwB.cell (p := ⟨b, off + k * 2, none⟩) hq3).trans e0; have f1 := (LwB.cell (p := ⟨b, off + k * 2 + 1, none⟩) hq3).trans e1))
            all_goals
              have HF := hidP (HEND.out gC cC wC hoC (LwB.grown hgC LwB.size (by intro q hq; cases hq; exact hBB)))
              clear hoC hgC haC hlC hoB hgB hoA hgA hoB2 hoA2 LwA LwB
              go_wp2_with fail
              go_roundw
              case rel => exact ⟨k + 1, gC, cC, by omega, by go_num, HF.out.1, by rw [HNX.out]; exact HF.out.2.1, HF.out.2.2⟩
              case measure => simp [intOf]; omega
    · obtain rfl : k = ds.length := by omega
      rw [List.take_length] at hrow
      have HE := hidP (And.intro hrow L)
      clear hrow L
      go_wp2_with fail
      go_ret
      exact ⟨g, c, rfl, HE.out.1, HE.out.2⟩

end Go.Proofs.Ythddhblmnfjciaa
