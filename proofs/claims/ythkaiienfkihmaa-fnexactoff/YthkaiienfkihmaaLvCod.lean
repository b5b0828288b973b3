/-
  The given Coded.
-/
import Derived.Test.YthkaiienfkihmaaLvSpec
import Derived.Test.YthkaiienfkihmaaBMark
import Derived.Test.YthkaiienfkihmaaSpec
import Derived.Test.YthkaiienfkihmaaGrown
namespace Go.Proofs.Ythkaiienfkihmaa
open Go Go.RowKit

theorem lvD_abs (x : Int) (l : List Int) (k : Nat) : lvD x l k = absV (x - nth l k) := by unfold lvD absV; omega
theorem codTo_hit {x : Int} {l : List Int} {k : Nat} (h : absV (x - nth l k) < absV (x - nth l (codTo x l k))) : codTo x l (k + 1) = k := by simp only [codTo]; rw [if_pos (by rw [lvD_abs, lvD_abs]; exact h)]
theorem codTo_miss {x : Int} {l : List Int} {k : Nat} (h : ¬ absV (x - nth l k) < absV (x - nth l (codTo x l k))) : codTo x l (k + 1) = codTo x l k := by simp only [codTo]; rw [if_neg (by rw [lvD_abs, lvD_abs]; exact h)]
theorem codTo_le (x : Int) (l : List Int) (k : Nat) : codTo x l k ≤ k := by have := (codTo_ok x l k).1; omega
theorem codB_told {p : List Int} {ls : List (List Int)} (h : levB ls = false ∨ okB p = false ∨ p.length ≠ ls.length) : codB p ls = false := by
  rcases e : codB p ls with _ | _
  · rfl
  · obtain ⟨h1, h2, h3⟩ := (codB_iff p ls).1 e
    rcases h with h | h | h
    · rw [h1] at h; cases h
    · rw [h2] at h; cases h
    · exact absurd h3 h
/-- An empty row of the call's own, ahead of what is read. -/
theorem row_drew {w : World} {n : Nat} : IRow w.heap.size ((w.alloc (.cells #[] 2)).drewN n) w.heap.size 0 [] ∧ Below w.heap.size w ((w.alloc (.cells #[] 2)).drewN n) :=
  ⟨(IRow.start w _ (Nat.le_refl _)).below (below_drewN (Below.refl _ _) n), below_drewN ((Below.refl _ _).alloc (Nat.le_refl _) _) n⟩

set_option maxRecDepth 100000 in
set_option maxHeartbeats 2000000 in
theorem sCoded_no (ao ag : Option Addr) (cap cg : Nat) (p : List Int) (ls : List (List Int)) (w : World) (hv : View w ao p) (hg : CView w ag ls) (hn : p.length ≤ 1048576) (hsm : CSmall ls) (hb : levB ls = false ∨ okB p = false ∨ p.length ≠ ls.length) :
    Calls Try.prog 15 #[.slice ao p.length cap, .slice ag ls.length cg] w fun e w' => ∃ g c, e = .returned (.slice (some ⟨g, 0, none⟩) 0 c) ∧ IRow w.heap.size w' g c [] ∧ Below w.heap.size w w' := by
  have LA : Below w.heap.size w (w.alloc (.cells #[] 2)) := (Below.refl _ _).alloc (Nat.le_refl _) _
  have HC := hidP (sLevels ag cg ls (w.alloc (.cells #[] 2)) (hg.next LA) hsm)
  have HP := hidP (fun n => sOk ao cap p ((w.alloc (.cells #[] 2)).drewN n) (View.drewN (View.next hv LA) n) hn)
  clear hv hg LA
  rcases h1 : levB ls with _ | _
  · rw [h1] at HC
    clear hb h1 HP
    go_enter Try.func15, Try.ntmps15
    go_wp2_with fail
    refine HC.out.mono ?_
    rintro e w1 ⟨rfl, n1, hw1⟩
    have HE : Hid (IRow w.heap.size w1 w.heap.size 0 [] ∧ Below w.heap.size w w1) := by rw [hw1]; exact row_drew
    clear hw1
    go_wp2_with fail
    go_ret
    exact ⟨w.heap.size, 0, rfl, HE.out⟩
  · rw [h1] at HC
    rcases h2 : okB p with _ | _
    · rw [h2] at HP
      clear hb h1 h2
      go_enter Try.func15, Try.ntmps15
      go_wp2_with fail
      refine HC.out.mono ?_
      rintro e w1 ⟨rfl, n1, hw1⟩
      have HE : Hid (IRow w.heap.size w1 w.heap.size 0 [] ∧ Below w.heap.size w w1) := by rw [hw1]; exact row_drew
      have HP1 := hidP (HP.out n1)
      rw [← hw1] at HP1
      clear hw1 HP
      go_wp2_with fail
      refine HP1.out.mono ?_
      rintro e w2 ⟨rfl, hw2⟩
      subst w2
      go_wp2_with fail
      go_ret
      exact ⟨w.heap.size, 0, rfl, HE.out⟩
    · have h3 : p.length ≠ ls.length := by
        rcases hb with h | h | h
        · rw [h1] at h; cases h
        · rw [h2] at h; cases h
        · exact h
      have hne : ((p.length : Int) != (ls.length : Int)) = true := by simp; omega
      rw [h2] at HP
      clear hb h1 h2 h3
      go_enter Try.func15, Try.ntmps15
      go_wp2_with fail
      refine HC.out.mono ?_
      rintro e w1 ⟨rfl, n1, hw1⟩
      have HE : Hid (IRow w.heap.size w1 w.heap.size 0 [] ∧ Below w.heap.size w w1) := by rw [hw1]; exact row_drew
      have HP1 := hidP (HP.out n1)
      rw [← hw1] at HP1
      clear hw1 HP
      go_wp2_with fail
      refine HP1.out.mono ?_
      rintro e w2 ⟨rfl, hw2⟩
      subst w2
      go_wp2_with fail
      go_ret
      exact ⟨w.heap.size, 0, rfl, HE.out⟩

set_option maxRecDepth 100000 in
set_option maxHeartbeats 4000000 in
theorem sCoded_in (ao ag : Option Addr) (cap cg : Nat) (p : List Int) (ls : List (List Int)) (w : World) (hv : View w ao p) (hg : CView w ag ls) (hn : p.length ≤ 1048576) (hsm : CSmall ls) (hb : codB p ls = true) :
    Calls Try.prog 15 #[.slice ao p.length cap, .slice ag ls.length cg] w fun e w' => ∃ g c, e = .returned (.slice (some ⟨g, 0, none⟩) (codL p ls).length c) ∧ IRow w.heap.size w' g c (codL p ls) ∧ Below w.heap.size w w' := by
  obtain ⟨j0, hj0, hy0, hy1, hy2⟩ := info_parts Try.info2
  obtain ⟨h1, h2, h3⟩ := (codB_iff p ls).1 hb
  have LA : Below w.heap.size w (w.alloc (.cells #[] 2)) := (Below.refl _ _).alloc (Nat.le_refl _) _
  have HC := hidP (sLevels ag cg ls (w.alloc (.cells #[] 2)) (hg.next LA) hsm)
  have HP := hidP (fun n => sOk ao cap p ((w.alloc (.cells #[] 2)).drewN n) (View.drewN (View.next hv LA) n) hn)
  rw [h1] at HC
  rw [h2] at HP
  have HV := hidP hv
  have HG := hidP hg
  have HPA := hidP (fun i => okB_at h2 i)
  have HLV := hidP ((levB_iff ls).1 h1).2.2
  have hpl := okB_len h2
  have H3 := hidP h3
  have hne : ((p.length : Int) != (ls.length : Int)) = false := by simp; omega
  have HCL : Hid (codL p ls = tabL (codF p ls) ls.length) := by show _ = _; rw [codL, if_pos hb]
  clear hv hg LA h1 h2 h3 hb
  go_enter Try.func15, Try.ntmps15
  go_wp2_with fail
  refine HC.out.mono ?_
  rintro e w1 ⟨rfl, n1, hw1⟩
  have HE : Hid (IRow w.heap.size w1 w.heap.size 0 [] ∧ Below w.heap.size w w1) := by rw [hw1]; exact row_drew
  have HP1 := hidP (HP.out n1)
  rw [← hw1] at HP1
  clear hw1 HP
  go_wp2_with fail
  refine HP1.out.mono ?_
  rintro e w2 ⟨rfl, hw2⟩
  subst w2
  clear HP1 HC
  go_wp2_with fail
  clear hne
  go_loopw [5, 6] (fun v i wr => ∃ (k g c : Nat), k ≤ p.length ∧ i = .int .i64 k ∧ v = .slice (some ⟨g, 0, none⟩) k c ∧ IRow w.heap.size wr g c (tabL (codF p ls) k) ∧ Below w.heap.size w wr) (fun _ i _ => p.length - (intOf i).toNat)
  case atStart => exact ⟨0, w.heap.size, 0, Nat.zero_le _, rfl, rfl, HE.out.1, HE.out.2⟩
  case round =>
    clear HE
    obtain ⟨k, g, c, hk, rfl, rfl, hrow, L⟩ := hrel
    by_cases hlt : k < p.length
    · obtain ⟨bp, op, rfl, hbp, hsp⟩ : ∃ b off, ao = some ⟨b, off, none⟩ ∧ b < w.heap.size ∧ Seg w b off p := by
        rcases HV.out with h | h
        · rw [h] at hlt; simp at hlt
        · exact h
      obtain ⟨bl, ol, rfl, hbl, hsl⟩ := HG.out.seg (by have := H3.out; omega)
      obtain ⟨a, ca, hcl, hva⟩ := hsl k (by have := H3.out; omega)
      have hlo := (lvOk_iff _).1 (HLV.out k (by have := H3.out; omega))
      have hla := fun t ht => lvOk_at (HLV.out k (by have := H3.out; omega)) (k := t) ht
      obtain ⟨bm, om, rfl, hbm, hsm2⟩ : ∃ b off, a = some ⟨b, off, none⟩ ∧ b < w.heap.size ∧ Seg w b off (cn ls k) := by
        rcases hva with h | h
        · rw [h] at hlo; simp at hlo
        · exact h
      have HLA := hidP hla
      have hxa := HPA.out k
      have hz := L.size
      have qp := (L.cell (p := ⟨bp, op + k, none⟩) hbp).trans (hsp k hlt)
      have ql := (L.cell (p := ⟨bl, ol + k, none⟩) hbl).trans hcl
      have HSM : Hid (Seg wr bm om (cn ls k)) := Seg.below hsm2 hbm L
      have hi0 : (0 : Int) ≤ (k : Int) := Int.natCast_nonneg _
      have hi1 : (k : Int) < (p.length : Int) := by omega
      have hi2 : (k : Int) < (ls.length : Int) := by have := H3.out; omega
      have HCF : Hid (codF p ls k = ((codTo (nth p k) (cn ls k) (cn ls k).length : Nat) : Int)) := rfl
      have HRW := hidP (And.intro hrow L)
      have hll : (cn ls k).length ≤ 16 := hlo.2.1
      clear hla hsp hsl hcl hva hsm2 hrow L hlo
      generalize cn ls k = l at *
      generalize nth p k = x at *
      obtain ⟨Wr, hWr⟩ : ∃ Wr, Wr = wr := ⟨_, rfl⟩
      subst hWr
      go_wp2_with fail
      go_loopw [7, 8] (fun bv iv wq => ∃ m : Nat, m ≤ l.length ∧ iv = .int .i64 m ∧ bv = .int .i64 ((codTo x l m : Nat) : Int) ∧ ∃ d, wq = Wr.drewN d) (fun _ iv _ => l.length - (intOf iv).toNat)
      case atStart => exact ⟨0, Nat.zero_le _, rfl, rfl, 0, rfl⟩
      case round =>
        obtain ⟨m, hm, rfl, rfl, hd⟩ := hrel
        have HD := hidP hd
        have ql2 : wr.cell? ⟨bl, ol + k, none⟩ = some (.slice (some ⟨bm, om, none⟩) l.length ca) := by obtain ⟨d, e⟩ := hd; rw [e]; exact ql
        have qp2 : wr.cell? ⟨bp, op + k, none⟩ = some (.int .i64 x) := by obtain ⟨d, e⟩ := hd; rw [e]; exact qp
        have HSM2 : Hid (Seg wr bm om l) := by obtain ⟨d, e⟩ := hd; rw [e]; exact Seg.drewN HSM.out d
        clear hd ql qp
        by_cases hml : m < l.length
        · have hcb := codTo_le x l m
          have q0 := HSM2.out m hml
          have q1 := HSM2.out (codTo x l m) (by omega)
          have HHIT := hidP (codTo_hit (x := x) (l := l) (k := m))
          have HMISS := hidP (codTo_miss (x := x) (l := l) (k := m))
          have a0 := HLA.out m hml
          have a1 := HLA.out (codTo x l m) (by omega)
          have hm0 : (0 : Int) ≤ (m : Int) := Int.natCast_nonneg _
          have hm1 : (m : Int) < (l.length : Int) := by omega
          have hc0 : (0 : Int) ≤ ((codTo x l m : Nat) : Int) := Int.natCast_nonneg _
          have hc1 : ((codTo x l m : Nat) : Int) < (l.length : Int) := by omega
          generalize codTo x l m = cb at *
          have hw0 : IntKind.i64.wrap (x - nth l m) = x - nth l m := IntWalk.i64_in _ ⟨by omega, by omega⟩
          have hw1 : IntKind.i64.wrap (x - nth l cb) = x - nth l cb := IntWalk.i64_in _ ⟨by omega, by omega⟩
          have HAB : Hid (∀ y w, -2000 ≤ y → y ≤ 2000 → Calls Try.prog 47 #[.int .i64 y] w fun e w' => e = .returned (.int .i64 (absV y)) ∧ w' = w) := fun y w => sAbs y w
          by_cases hc : absV (x - nth l m) < absV (x - nth l cb)
          · have hcd : decide (absV (x - nth l m) < absV (x - nth l cb)) = true := by simp [hc]
            have HN := hidP (HHIT.out hc)
            clear HHIT HMISS hc
            go_wp2_with fail
            go_quiet ((go_at_call 47; exact Calls.quiet_of_same (HAB.out _ _ (by omega) (by omega))))
            go_wp2_with fail
            go_roundw
            case rel => exact ⟨m + 1, by omega, by go_num, by rw [HN.out], by obtain ⟨d, e⟩ := HD.out; exact ⟨d + nq, by rw [e]; simp⟩⟩
            case measure => simp [intOf]; omega
          · have hcd : decide (absV (x - nth l m) < absV (x - nth l cb)) = false := by simp; omega
            have HN := hidP (HMISS.out hc)
            clear HHIT HMISS hc
            go_wp2_with fail
            go_quiet ((go_at_call 47; exact Calls.quiet_of_same (HAB.out _ _ (by omega) (by omega))))
            go_wp2_with fail
            go_roundw
            case rel => exact ⟨m + 1, by omega, by go_num, by rw [HN.out], by obtain ⟨d, e⟩ := HD.out; exact ⟨d + nq, by rw [e]; simp⟩⟩
            case measure => simp [intOf]; omega
        · obtain rfl : m = l.length := by omega
          have hcond : ¬ ((l.length : Int) < (l.length : Int)) := by omega
          have HROW : Hid (wr.ownsRow w.heap.size 2 1 (.slice (some ⟨g, 0, none⟩) k c) k ((tabL (codF p ls) k).map (Value.int .i64))) := by
            obtain ⟨d, e⟩ := HD.out
            have h := HRW.out.1.below (below_drewN (Below.refl _ _) d)
            unfold IRow at h
            rw [tabL_length, ← e] at h
            exact h
          have hgl := HRW.out.1.lt
          have HL2 : Hid (Below w.heap.size w wr) := by obtain ⟨d, e⟩ := HD.out; rw [e]; exact below_drewN HRW.out.2 d
          have hgw : g < wr.heap.size := by obtain ⟨d, e⟩ := HD.out; rw [e]; exact hgl.2
          have hzw := HL2.out.size
          have HTS : Hid (tabL (codF p ls) (k + 1) = tabL (codF p ls) k ++ [((codTo x l l.length : Nat) : Int)]) := by show _ = _; rw [tabL_succ, HCF.out]
          clear HRW
          generalize codTo x l l.length = cb at *
          go_wp2_with (at_builtin; refine wpList_append_lies _ rfl (.tmp 69) (.tmp 71) 24 rfl w.heap.size 2 j0 _ 1 8 Try.underlying24 hj0 hy0 hy1 hy2 rfl (by omega) (.slice (some ⟨g, 0, none⟩) k c) k ((tabL (codF p ls) k).map (Value.int .i64)) rfl (World.ownsRow.alloc HROW.out _) ⟨wr.heap.size, 0, none⟩ 1 1 [.int .i64 (cb : Int)] rfl rfl (World.news_of_block (cs := #[.int .i64 (cb : Int)]) (t := 2) (fr := (0, 0)) (heap_alloc_new wr _)) (by simp [Value.oneCell']) (by omega) (by unfold maxLen; omega) (by omega) (by simp; omega) (wr.heap.size + 1) (by simp) ?_; intro g8 c8 w8 hown hgrow hat8 hlt8)
          have HF : Hid (IRow w.heap.size w8 g8 c8 (tabL (codF p ls) (k + 1)) ∧ Below w.heap.size w w8) := by
            refine ⟨?_, ?_⟩
            · rw [HTS.out]
              exact IRow.of hown (by rw [List.length_append, tabL_length]; rfl) (by simp)
            · refine (HL2.out.alloc (by omega) _).grown hgrow (by simp; omega) ?_
              intro q hq
              simp [Value.ownBlock] at hq
              omega
          clear hown hgrow hat8 hlt8
          go_wp2_with fail
          go_roundw
          case rel => exact ⟨k + 1, g8, c8, by omega, by go_num, rfl, HF.out⟩
          case measure => simp [intOf]; omega
    · obtain rfl : k = p.length := by omega
      have HE : Hid ((codL p ls).length = p.length ∧ IRow w.heap.size wr g c (codL p ls) ∧ Below w.heap.size w wr) := by
        rw [HCL.out, tabL_length, ← H3.out]
        exact ⟨rfl, hrow, L⟩
      clear hrow L
      go_wp2_with fail
      go_ret
      exact ⟨g, c, by rw [HE.out.1]; rfl, HE.out.2⟩

theorem sCoded (ao ag : Option Addr) (cap cg : Nat) (p : List Int) (ls : List (List Int)) (w : World) (hv : View w ao p) (hg : CView w ag ls) (hn : p.length ≤ 1048576) (hsm : CSmall ls) :
    Calls Try.prog 15 #[.slice ao p.length cap, .slice ag ls.length cg] w fun e w' => ∃ g c, e = .returned (.slice (some ⟨g, 0, none⟩) (codL p ls).length c) ∧ IRow w.heap.size w' g c (codL p ls) ∧ Below w.heap.size w w' := by
  rcases hb : codB p ls with _ | _
  · have hb' : levB ls = false ∨ okB p = false ∨ p.length ≠ ls.length := by
      rcases h1 : levB ls with _ | _
      · exact Or.inl rfl
      · rcases h2 : okB p with _ | _
        · exact Or.inr (Or.inl rfl)
        · refine Or.inr (Or.inr (fun h3 => ?_))
          rw [(codB_iff p ls).2 ⟨h1, h2, h3⟩] at hb
          cases hb
    rw [codL_no hb]
    exact sCoded_no ao ag cap cg p ls w hv hg hn hsm hb'
  · exact sCoded_in ao ag cap cg p ls w hv hg hn hsm hb

end Go.Proofs.Ythkaiienfkihmaa
