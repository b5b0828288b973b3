/-
  slices.Index over numbers; the program's own groupsOk and tieAll.
-/
import Derived.Test.YtfbindjacmaeoaaQGplZz
import Derived.Test.YtfbindjacmaeoaaQDelZz
import Derived.Test.YtfbindjacmaeoaaQGrpZz
import Derived.Test.YtfbindjacmaeoaaJRwZz
namespace Go.Proofs.Ytfbindjacmaeoaa
open Go Go.RowKit Go.Maps

set_option maxRecDepth 100000 in
set_option maxHeartbeats 1000000 in
theorem iIndexI (g c n : Nat) (xs : List Int) (x : Int) (w : World) (hs : Seg w g 0 xs) (hn : xs.length = n) (hl : n ≤ 1048576) :
    Calls Try.prog 108 #[.slice (some ⟨g, 0, none⟩) n c, .int .i64 x] w fun e w' => (∃ r : Int, e = .returned (.int .i64 r) ∧ ((∃ k : Nat, r = (k : Int) ∧ k < n ∧ nth xs k = x) ∨ (r = -1 ∧ ∀ j, j < n → nth xs j ≠ x))) ∧ w' = w := by
  have HN := hidP hn
  clear hn
  go_enter Try.func108, Try.ntmps108
  go_wp2_with fail
  go_loop [8] (fun i => ∃ k : Nat, k ≤ n ∧ i = .int .i64 k ∧ ∀ j, j < k → nth xs j ≠ x) (fun i => n - (intOf i).toNat)
  case atStart => exact ⟨0, Nat.zero_le _, rfl, fun j hj => by omega⟩
  case round =>
    obtain ⟨k, hk, rfl, hall⟩ := hrel
    have HA := hidP hall
    clear hall
    by_cases hlt : k < n
    · have hc := hs k (by have := HN.out; omega)
      rw [Nat.zero_add] at hc
      have hi0 : (0 : Int) ≤ (k : Int) := Int.natCast_nonneg _
      have hi1 : (k : Int) < (n : Int) := by omega
      by_cases he : nth xs k = x
      · have heb : (x == nth xs k) = true := by simp [he]
        have HE := hidP he
        clear he
        go_wp2_with fail
        go_ret
        exact ⟨⟨(k : Int), rfl, Or.inl ⟨k, rfl, hlt, HE.out⟩⟩, rfl⟩
      · have heb : (x == nth xs k) = false := by simp; exact fun e => he e.symm
        have HE := hidP he
        clear he
        go_wp2_with fail
        go_round
        case rel => exact ⟨k + 1, by omega, by go_num, fun j hj => by
          rcases Nat.lt_or_ge j k with h | h
          · exact HA.out j h
          · obtain rfl : j = k := by omega
            exact HE.out⟩
        case measure => simp [intOf]; omega
    · obtain rfl : k = n := by omega
      go_wp2_with fail
      go_ret
      exact ⟨⟨-1, rfl, Or.inr ⟨rfl, HA.out⟩⟩, rfl⟩

theorem nth_getE {xs : List Int} {k : Nat} (h : k < xs.length) : nth xs k = xs[k] := by simp [nth, List.getD, h]

set_option maxRecDepth 100000 in
set_option maxHeartbeats 4000000 in
theorem iGrOk (ao ag : Option Addr) (cap cg : Nat) (ms : List Mk) (gs : List (List Int)) (w : World) (hv : MView w ao ms) (hg : CView w ag gs) (hm : marksB ms = true) (hcs : CSmall gs) :
    Calls Try.prog 74 #[.slice ag gs.length cg, .slice ao ms.length cap] w fun e w' => e = .returned (.bool (grOkB ms gs)) ∧ Below w.heap.size w w' := by
  have hn60 := marksB_len hm
  have HI := hidP (iIdsM ao cap ms w hv (by omega))
  have HM := hidP hm
  have HG := hidP hg
  have hgl := hcs.1
  have HCS := hidP hcs.2
  clear hv hm hg hcs
  go_enter Try.func74, Try.ntmps74
  go_wp2_with fail
  refine HI.out.mono ?_
  rintro e w1 ⟨g0, rfl, hg0, hown, L1⟩
  have HI0 : Hid (IRow w.heap.size w1 g0 ms.length (numsM ms) ∧ Below w.heap.size w w1) := by
    refine ⟨?_, L1⟩
    have h := Own.irow (base := w.heap.size) hown hg0 (by rw [midsL_len]; unfold maxLen; omega)
    rw [midsL_len] at h
    exact h
  have HS0 := hidP (LeftOk.start HM.out)
  have HNL := hidP (numsM_len ms)
  clear hown L1 HI hg0
  go_wp2_with fail
  go_loopw [5, 15] (fun v i wr => ∃ (j c n : Nat) (left : List Int) (h : Nat → Nat), j ≤ gs.length ∧ i = .int .i64 j ∧ v = .slice (some ⟨g0, 0, none⟩) n c ∧ left.length = n ∧ inGrp ms (gs.take j) 0 (fun _ => 0) = some h ∧ LeftOk ms h left ∧ n + lenS (gs.take j) = ms.length ∧ IRow w.heap.size wr g0 c left ∧ Below w.heap.size w wr) (fun _ i _ => gs.length - (intOf i).toNat)
  case atStart => exact ⟨0, ms.length, ms.length, numsM ms, fun _ => 0, Nat.zero_le _, rfl, rfl, HNL.out, rfl, HS0.out, by simp [lenS], HI0.out⟩
  case round =>
    clear HI0 HS0 HNL
    obtain ⟨j, c, n, left, h, hj, rfl, rfl, hln, hin, hlo, hct, hrow, L⟩ := hrel
    by_cases hlt : j < gs.length
    · obtain ⟨b, off, rfl, hb, hs⟩ := (HG.out.next L).seg (by omega)
      obtain ⟨a, ca, hc, hva⟩ := hs j hlt
      have hj0 : (0 : Int) ≤ (j : Int) := Int.natCast_nonneg _
      have hj1 : (j : Int) < (gs.length : Int) := by omega
      have HST := hidP (grp_step hlt hin)
      have HTL : Hid (lenS (gs.take (j + 1)) = lenS (gs.take j) + (cn gs j).length) := by show _ = _; rw [take_cn hlt, lenS_snoc]
      have hcl := HCS.out j
      clear hs
      by_cases he : cn gs j = []
      · have HF : Hid (grOkB ms gs = false) := by
          refine grOk_no (inGrp_none (j + 1) ?_)
          rw [HST.out, if_pos he]
        have hz : (cn gs j).length = 0 := by rw [he]; rfl
        have hzb : (((cn gs j).length : Int) == 0) = true := by simp [hz]
        have HL := hidP L
        clear he hva hin hlo hct hrow L hln HST HTL hz
        go_wp2_with fail
        go_ret
        exact ⟨by rw [HF.out]; rfl, HL.out⟩
      · have hzp : 0 < (cn gs j).length := List.length_pos_iff.2 he
        have hzb : (((cn gs j).length : Int) == 0) = false := by simp; intro e; rw [e] at hzp; simp at hzp
        have HST2 : Hid (inGrp ms (gs.take (j + 1)) 0 (fun _ => 0) = inIds ms j (cn gs j) h) := by show _ = _; rw [HST.out, if_neg he]
        have HVA : Hid (View w a (cn gs j)) := by
          obtain ⟨b2, off2, e2, hb2, hs2⟩ := HG.out.seg (by omega)
          injection e2 with e2
          injection e2 with e3 e4
          subst e3 e4
          obtain ⟨a', ca', hc', hva'⟩ := hs2 j hlt
          have := (L.cell (p := ⟨b, off + j, none⟩) hb2).trans hc'
          rw [hc] at this
          simp only [Option.some.injEq, Value.slice.injEq] at this
          rw [this.1]
          exact hva'
        have H0 := hidP (And.intro hln (And.intro hlo (And.intro hct (And.intro hrow L))))
        clear he hva hin hlo hct hrow L hln HST
        generalize hids : cn gs j = ids at *
        go_wp2_with fail
        clear hc hzb
        go_loopw [5, 24] (fun v i wq => ∃ (m c n : Nat) (left : List Int) (h' : Nat → Nat), m ≤ ids.length ∧ i = .int .i64 m ∧ v = .slice (some ⟨g0, 0, none⟩) n c ∧ left.length = n ∧ inIds ms j (ids.take m) h = some h' ∧ LeftOk ms h' left ∧ n + lenS (gs.take j) + m = ms.length ∧ IRow w.heap.size wq g0 c left ∧ Below w.heap.size w wq) (fun _ i _ => ids.length - (intOf i).toNat)
        case atStart => exact ⟨0, c, n, left, h, Nat.zero_le _, rfl, rfl, H0.out.1, rfl, H0.out.2.1, by have := H0.out.2.2.1; omega, H0.out.2.2.2⟩
        case round =>
          clear H0
          obtain ⟨m, c', n', left', h', hml, rfl, rfl, hln, hin, hlo, hct, hrow, L⟩ := hrel
          by_cases hmt : m < ids.length
          · obtain ⟨b2, off2, rfl, hb2, hs2⟩ : ∃ b off, a = some ⟨b, off, none⟩ ∧ b < wr.heap.size ∧ Seg wr b off ids := by
              rcases View.next HVA.out L with h1 | h1
              · rw [h1] at hmt; simp at hmt
              · exact h1
            have q1 := hs2 m hmt
            have hm0 : (0 : Int) ≤ (m : Int) := Int.natCast_nonneg _
            have hm1 : (m : Int) < (ids.length : Int) := by omega
            have HIX := hidP (iIndexI g0 c' n' left' (nth ids m) wr hrow.seg hln (by omega))
            have HTK : Hid (inIds ms j (ids.take (m + 1)) h = if zFind ms (nth ids m) < 0 ∨ h' (zIdx ms (nth ids m)) ≠ 0 then none else some (fun i => if i = zIdx ms (nth ids m) then j + 1 else h' i)) := by
              show _ = _
              rw [List.take_succ_eq_append_getElem hmt, inIds_snoc, hin, nth_getE hmt]
            have HH := hidP (And.intro hln (And.intro hlo (And.intro hct (And.intro hrow L))))
            clear hln hlo hct hrow L hs2 hin
            generalize nth ids m = x at *
            go_wp2_with fail
            refine HIX.out.mono ?_
            rintro e w3 ⟨⟨r, rfl, hr⟩, hw3⟩
            subst w3
            rcases hr with ⟨k, rfl, hkn, hkx⟩ | ⟨rfl, hno⟩
            · obtain ⟨hln, hlo, hct, hrow, L⟩ := HH.out
              have hk0 : ¬ ((k : Int) < 0) := by omega
              have hwk : IntKind.i64.wrap ((k : Int) + 1) = (k : Int) + 1 := IntWalk.i64_in _ ⟨by omega, by omega⟩
              have HDL := hidP (iDelete w.heap.size g0 c' n' k left' wr hrow hln hkn (by omega))
              have hmem : x ∈ left' := by rw [← hkx, nth_getE (by omega)]; exact List.getElem_mem _
              have HNX : Hid (inIds ms j (ids.take (m + 1)) h = some (fun i => if i = zIdx ms x then j + 1 else h' i)) := by show _ = _; rw [HTK.out, if_neg (hlo.found HM.out hmem)]
              have HLO : Hid (LeftOk ms (fun i => if i = zIdx ms x then j + 1 else h' i) (left'.eraseIdx k)) := by
                have h1 := hlo.next HM.out (k := k) (by omega) j
                have e1 : left'[k]'(by omega) = x := by rw [← nth_getE (by omega)]; exact hkx
                rw [e1] at h1
                exact h1
              have HLE : Hid ((left'.eraseIdx k).length = n' - 1) := by show _ = _; rw [List.length_eraseIdx_of_lt (by omega)]; omega
              have HCT := hidP hct
              have hg0l := hrow.lt
              have HL := hidP L
              clear hln hlo hct hrow L hkx hmem
              go_wp2_with fail
              refine HDL.out.mono ?_
              rintro e w4 ⟨rfl, hrow4, hg4⟩
              have HR4 : Hid (IRow w.heap.size w4 g0 c' (left'.eraseIdx k) ∧ Below w.heap.size w w4) := ⟨hrow4, HL.out.grown hg4 HL.out.size (by intro q hq; cases hq; exact hg0l.1)⟩
              clear hrow4 hg4
              go_wp2_with fail
              go_roundw
              case rel => exact ⟨m + 1, c', n' - 1, left'.eraseIdx k, _, by omega, by go_num, rfl, HLE.out, HNX.out, HLO.out, by have := HCT.out; omega, HR4.out⟩
              case measure => simp [intOf]; omega
            · have HF : Hid (grOkB ms gs = false) := by
                refine grOk_no (inGrp_none (j + 1) ?_)
                rw [HST2.out]
                refine inIds_none (m + 1) ?_
                rw [HTK.out, if_pos]
                refine HH.out.2.1.lost (fun hx => ?_)
                obtain ⟨q, hq, e⟩ := List.getElem_of_mem hx
                exact hno q (by have := HH.out.1; omega) (by rw [nth_getE hq]; exact e)
              have hneg : ((-1 : Int) < 0) := by omega
              clear hno
              go_wp2_with fail
              go_ret
              exact ⟨by rw [HF.out]; rfl, HH.out.2.2.2.2⟩
          · obtain rfl : m = ids.length := by omega
            have HE : Hid (left'.length = n' ∧ inGrp ms (gs.take (j + 1)) 0 (fun _ => 0) = some h' ∧ LeftOk ms h' left' ∧ n' + lenS (gs.take (j + 1)) = ms.length ∧ IRow w.heap.size wr g0 c' left' ∧ Below w.heap.size w wr) := by
              rw [List.take_length] at hin
              exact ⟨hln, by rw [HST2.out]; exact hin, hlo, by rw [HTL.out]; omega, hrow, L⟩
            clear hln hin hlo hct hrow L
            go_wp2_with fail
            go_roundw
            case rel => exact ⟨j + 1, c', n', left', h', by omega, by go_num, rfl, HE.out⟩
            case measure => simp [intOf]; omega
    · obtain rfl : j = gs.length := by omega
      have HF : Hid (grOkB ms gs = ((n : Int) == 0)) := by
        show _ = _
        rw [List.take_length] at hin hct
        rw [Bool.eq_iff_iff]
        simp only [grOkB, hin, Option.isSome_some, Bool.true_and, decide_eq_true_eq, beq_iff_eq]
        omega
      have HL := hidP L
      clear hln hin hlo hct hrow L
      go_wp2_with fail
      go_ret
      exact ⟨by rw [HF.out]; rfl, HL.out⟩

set_option maxRecDepth 100000 in
set_option maxHeartbeats 2000000 in
theorem iTieAll (B : Nat) (a : Option Addr) (ca : Nat) (ms : List Mk) (ids : List Int) (E : List Eg) (w : World) (hm : marksB ms = true) (hT : Ties w B ms (lab E)) (hv : View w a ids) (hB : ∀ b off, a = some ⟨b, off, none⟩ → b ≠ B) (hf : ∀ id ∈ ids, 0 ≤ zFind ms id) (hl : ids.length ≤ 1048576) :
    Calls Try.prog 75 #[.map (some B), .slice a ids.length ca] w fun e w' => e = .returned (.tuple #[]) ∧ Ties w' B ms (lab (E ++ tieE ms ids)) ∧ w.grownBy w' (some B) := by
  have HM := hidP hm
  have HV := hidP hv
  have HT := hidP hT
  have HBN := hidP hB
  have HF := hidP hf
  clear hm hT hv hB hf
  go_enter Try.func75, Try.ntmps75
  go_wp2_with fail
  go_loopw [5, 8] (fun _ i wr => ∃ m : Nat, m ≤ ids.length ∧ i = .int .i64 m ∧ Ties wr B ms (lab (E ++ (tieE ms ids).take m)) ∧ w.grownBy wr (some B)) (fun _ i _ => ids.length - (intOf i).toNat)
  case atStart => exact ⟨0, Nat.zero_le _, rfl, by rw [List.take_zero, List.append_nil]; exact HT.out, grown_refl _ _⟩
  case round =>
    obtain ⟨m, hml, rfl, hTi, hg⟩ := hrel
    by_cases hlt : m < ids.length
    · obtain ⟨b, off, rfl, hb, hs⟩ : ∃ b off, a = some ⟨b, off, none⟩ ∧ b < w.heap.size ∧ Seg w b off ids := by
        rcases HV.out with h1 | h1
        · rw [h1] at hlt; simp at hlt
        · exact h1
      have hne := HBN.out b off rfl
      have hcell : ∀ t, wr.cell? ⟨b, t, none⟩ = w.cell? ⟨b, t, none⟩ := fun t => World.cell?_of_block (w := w) (a := ⟨b, t, none⟩) (hg.block b hb (fun e => hne (by injection e)))
      have q1 := (hcell _).trans (hs m hlt)
      have q0 := (hcell _).trans (hs 0 (by omega))
      rw [Nat.add_zero] at q0
      have hm0 : (0 : Int) ≤ (m : Int) := Int.natCast_nonneg _
      have hm1 : (m : Int) < (ids.length : Int) := by omega
      have hi0 : (0 : Int) < (ids.length : Int) := by omega
      have hxs : ids ≠ [] := fun e => by rw [e] at hlt; simp at hlt
      have z0 := zIdx_lt (HF.out _ (nth0_mem hxs))
      have zm := zIdx_lt (HF.out (nth ids m) (by rw [nth_getE hlt]; exact List.getElem_mem hlt))
      have HTI := hidP (iTie B ms (lab (E ++ (tieE ms ids).take m)) (zIdx ms (nth ids 0)) (zIdx ms (nth ids m)) wr HM.out hTi z0.1 zm.1)
      rw [z0.2.2, zm.2.2] at HTI
      have HTK : Hid (E ++ (tieE ms ids).take (m + 1) = (E ++ (tieE ms ids).take m) ++ [(zIdx ms (nth ids 0), zIdx ms (nth ids m))]) := by
        show _ = _
        have hl2 : m < (tieE ms ids).length := by simp [tieE, hlt]
        rw [List.take_succ_eq_append_getElem hl2, ← List.append_assoc]
        congr 2
        simp [tieE, nth_getE hlt]
      have HG := hidP hg
      clear hTi hg hcell hs z0 zm
      go_wp2_with fail
      refine HTI.out.mono ?_
      rintro e w2 ⟨rfl, hT2, hg2⟩
      have HE : Hid (Ties w2 B ms (lab (E ++ (tieE ms ids).take (m + 1))) ∧ w.grownBy w2 (some B)) := by
        refine ⟨?_, grown_trans HG.out hg2⟩
        rw [HTK.out, lab_snoc]
        exact hT2
      clear hT2 hg2
      go_wp2_with fail
      go_roundw
      case rel => exact ⟨m + 1, by omega, by go_num, HE.out⟩
      case measure => simp [intOf]; omega
    · obtain rfl : m = ids.length := by omega
      have HE : Hid (Ties wr B ms (lab (E ++ tieE ms ids)) ∧ w.grownBy wr (some B)) := by
        rw [List.take_of_length_le (by simp [tieE])] at hTi
        exact ⟨hTi, hg⟩
      clear hTi hg
      go_wp2_with fail
      go_end0
      exact ⟨rfl, HE.out⟩

end Go.Proofs.Ytfbindjacmaeoaa
