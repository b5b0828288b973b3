/-
  The program's own Threads and Total.
-/
import Derived.Test.YtfbindjacmaeoaaQAllZz
import Derived.Test.YtfbindjacmaeoaaMCopyZz
import Derived.Test.YtfbindjacmaeoaaEWalkZz
namespace Go.Proofs.Ytfbindjacmaeoaa
open Go Go.RowKit Go.Maps

/-- Threads taken so far: k of them are kept, S is left. -/
structure ThAt (base K p g c B : Nat) (ms : List Mk) (kd : Int) (w0 : World) (k g' c' : Nat) (S1 S : List Eg) (l : List Th) (w : World) : Prop where
  row : TRow K w g' c' (thsL ms kd ((thrE (zD ms kd) ms.length).take k))
  heap : HAtT base w p g c l
  ok : HpOk ms kd S l
  srt : srtE (zD ms kd) ms.length = S1 ++ S
  kru : kruF S1 = (thrE (zD ms kd) ms.length).take k
  ties : Ties w B ms (lab ((thrE (zD ms kd) ms.length).take k))
  low : Below w0.heap.size w0 w

theorem thrE_zero (D : Nat → Nat → Int) : thrE D 0 = [] := by
  have h : ∀ e, e ∉ thrE D 0 := fun e he => by have := thrE_mem he; omega
  exact List.eq_nil_iff_forall_not_mem.2 h
theorem thrE_len' (D : Nat → Nat → Int) (n : Nat) : (thrE D n).length = n - 1 := by
  rcases Nat.eq_zero_or_pos n with e | e
  · subst e; rw [thrE_zero]; rfl
  · have := thrE_len (D := D) e; omega
theorem thrL_yes {ms : List Mk} {kd : Int} (h : thrB ms kd = true) : thrL ms kd = thsL ms kd (thrE (zD ms kd) ms.length) := by rw [thrL, if_pos h]; rfl
theorem srtE_len (D : Nat → Nat → Int) {n : Nat} (hn : n ≤ 60) : (srtE D n).length ≤ 3600 := by
  have h1 : (srtE D n).length = (pairsTo n n).length := ((List.perm_ext_iff_of_nodup (srtE_ord D n).nodup (pairs_nodup n n)).2 (fun e => by rw [mem_srtE, mem_pairs]; omega)).length_eq
  have h2 := pairs_len n n
  have h3 : n * n ≤ 60 * 60 := Nat.mul_le_mul hn hn
  omega

set_option maxRecDepth 100000 in
set_option maxHeartbeats 4000000 in
theorem iThr_yes (ao : Option Addr) (cap : Nat) (ms : List Mk) (kd : Int) (w : World) (hv : MView w ao ms) (hsm : MSmall ms) (hcap : ms.length ≤ cap) (hm : marksB ms = true) (hk : kindB kd = true) :
    Calls Try.prog 12 #[.slice ao ms.length cap, .int .i64 kd] w fun e w' => ∃ g c, e = .returned (.slice (some ⟨g, 0, none⟩) (thrL ms kd).length c) ∧ TRow w.heap.size w' g c (thrL ms kd) ∧ Below w.heap.size w w' := by
  obtain ⟨j0, hj0, hy0, hy1, hy2⟩ := info_parts Try.info41
  have HC := hidP (iMarks ao cap ms w hv hsm)
  rw [hm] at HC
  have HK := fun w => hidP (iKind kd w)
  rw [hk] at HK
  have HV := hidP hv
  have HM := hidP (And.intro hm (And.intro hk (And.intro hsm hcap)))
  have hn60 := marksB_len hm
  have HTL := hidP (thrE_len' (zD ms kd) ms.length)
  clear hv hsm hcap hm hk
  go_enter Try.func12, Try.ntmps12
  go_wp2_with fail
  refine HC.out.mono ?_
  rintro e w1 ⟨rfl, L1⟩
  have HH := hidP (iHeapT ao cap ms kd w1 (HV.out.next L1) HM.out.2.2.1 HM.out.1 HM.out.2.2.2)
  have HL1 := hidP L1
  clear L1 HC
  go_wp2_with fail
  refine (HK w1).out.mono ?_
  rintro e w2 ⟨rfl, hw2⟩
  subst w2
  clear HK
  go_wp2_with fail
  refine HH.out.mono ?_
  rintro e w2 ⟨p, g, c, l, rfl, hp2, hA2, hok2, L2⟩
  have HL2 := hidP (chain HL1.out L2)
  have HLO := hidP (iLoose ao cap ms w2 HM.out.1 (HV.out.next HL2.out))
  have HA2 := hidP (And.intro hp2 (And.intro hA2 (And.intro hok2 L2)))
  clear hp2 hA2 hok2 L2 HH
  go_wp2_with fail
  refine HLO.out.mono ?_
  rintro e w3 ⟨rfl, hT3, L3⟩
  have LK := (Below.refl w3.heap.size w3).alloc (Nat.le_refl _) (.cells #[] 41)
  have hz3 := hT3.lt
  have hz2 := HL2.out.size
  have hz1 := HL1.out.size
  have hz3' := L3.size
  have hp2 := HA2.out.1
  have hg2 := HA2.out.2.1.2.2.lt
  have hpl := HA2.out.2.1.lt
  have HI0 : Hid (ThAt w1.heap.size w3.heap.size p g c w2.heap.size ms kd w 0 w3.heap.size 0 [] (srtE (zD ms kd) ms.length) l (w3.alloc (.cells #[] 41))) :=
    ⟨TRow.start w3 _ (Nat.le_refl _), (HA2.out.2.1.below L3).below LK, HA2.out.2.2.1, rfl, rfl, hT3.below LK, chain (chain HL2.out L3) LK⟩
  clear hT3 L3 LK HLO HA2 HL1
  generalize hB : w2.heap.size = B at *
  generalize hK0 : w3.heap.size = K0 at *
  obtain ⟨W0, hW0⟩ : ∃ W0, W0 = w3.alloc (.cells #[] 41) := ⟨_, rfl⟩
  rw [← hW0] at HI0
  go_wp2_with fail
  rw [← hW0]
  clear hW0
  go_loopw [7, 25] (fun o i wr => ∃ (k g' c' : Nat) (S1 S : List Eg) (l : List Th), k ≤ ms.length - 1 ∧ i = .int .i64 k ∧ o = .slice (some ⟨g', 0, none⟩) k c' ∧ ThAt w1.heap.size K0 p g c B ms kd w k g' c' S1 S l wr) (fun _ i _ => ms.length - (intOf i).toNat)
  case atStart => exact ⟨0, K0, 0, [], _, l, Nat.zero_le _, rfl, rfl, HI0.out⟩
  case round =>
    clear HI0
    obtain ⟨k, g', c', S1, S, l', hkn, rfl, rfl, hI⟩ := hrel
    have HI := hidP hI
    clear hI
    by_cases hlt : k < ms.length - 1
    · have hw1 : IntKind.i64.wrap ((ms.length : Int) - 1) = (ms.length : Int) - 1 := IntWalk.i64_in _ ⟨by omega, by omega⟩
      have hcond : (k : Int) < (ms.length : Int) - 1 := by omega
      have hkr : kruF S1 = (kruF (S1 ++ S)).take k := by rw [← HI.out.srt]; exact HI.out.kru
      have hkl : k < (kruF (S1 ++ S)).length := by rw [← HI.out.srt]; show k < (thrE (zD ms kd) ms.length).length; have := HTL.out; omega
      obtain ⟨m, hms, hbef, hunt, hkr2, heg⟩ := kru_next hkr hkl
      have hSl : S.length ≤ 3600 := by
        have := srtE_len (zD ms kd) hn60
        rw [HI.out.srt, List.length_append] at this
        omega
      have hord : Ord12 (zD ms kd) S := by
        have := srtE_ord (zD ms kd) ms.length
        rw [HI.out.srt] at this
        exact (List.pairwise_append.1 this).2.1
      have hrng : ∀ e ∈ S, e.1 < ms.length ∧ e.2 < ms.length := fun e he => srtE_lt (D := zD ms kd) e (by rw [HI.out.srt]; exact List.mem_append_right _ he)
      have HNT := hidP (iNextTie w1.heap.size p g c B l' S m ms kd (lab ((thrE (zD ms kd) ms.length).take k)) wr HM.out.1 HM.out.2.1 HI.out.heap HI.out.ok hord hrng HI.out.ties hms (by rw [← HI.out.kru]; exact hbef) (by rw [← HI.out.kru]; exact hunt) (by omega))
      have HTK : Hid ((thrE (zD ms kd) ms.length).take (k + 1) = (thrE (zD ms kd) ms.length).take k ++ [egn S m]) := by
        show _ = _
        have e0 : thrE (zD ms kd) ms.length = kruF (S1 ++ S) := by rw [← HI.out.srt]; rfl
        rw [take_egn (by have := HTL.out; omega), heg, e0]
      have HKR2 : Hid (kruF (S1 ++ S.take (m + 1)) = (thrE (zD ms kd) ms.length).take (k + 1)) := by
        show _ = _
        rw [hkr2, ← HI.out.srt]
        rfl
      have HSP : Hid (srtE (zD ms kd) ms.length = (S1 ++ S.take (m + 1)) ++ S.drop (m + 1)) := by
        show _ = _
        rw [List.append_assoc, List.take_append_drop]
        exact HI.out.srt
      have HRL := hidP HI.out.row
      clear hkr hkl hbef hunt hkr2 heg hord hrng hSl
      generalize hd : thOf ms kd (egn S m) = d at *
      have HDD := hidP hd
      clear hd
      go_wp2_with fail
      refine HNT.out.mono ?_
      rintro e w4 ⟨rfl, l4, hA4, hok4, hT4, hC4⟩
      have hgl := HRL.out.lt
      have hrow4 : TRow K0 w4 g' c' (thsL ms kd ((thrE (zD ms kd) ms.length).take k)) := HRL.out.same (hC4.2.2.2.2 g' hgl.2 (by omega) (by omega) (by omega))
      have HROW4 : Hid (w4.ownsRow K0 41 3 (.slice (some ⟨g', 0, none⟩) k c') k (tCells (thsL ms kd ((thrE (zD ms kd) ms.length).take k)))) := by
        have h := hrow4
        unfold TRow at h
        have e5 : (thsL ms kd ((thrE (zD ms kd) ms.length).take k)).length = k := by rw [thsL_len, List.length_take]; have := HTL.out; omega
        rw [e5] at h
        exact h
      have HL4 : Hid (Below w.heap.size w w4) := hC4.base HI.out.low (by omega) (by omega) (by omega)
      have HE4 := hidP (And.intro hA4 (And.intro hok4 hT4))
      have hz4 := hC4.2.2.2.1
      have hBl4 := hT4.lt
      have hpl4 := hA4.lt
      have hgl4 := hA4.2.2.lt.2
      have LA := (Below.refl w4.heap.size w4).alloc (Nat.le_refl _) (.cells #[.int .i64 d.1, .int .i64 d.2.1, .int .i64 d.2.2] 41)
      have HLA := hidP LA
      clear hrow4 hA4 hok4 hT4 hC4 HNT HRL LA
      go_wp2_with (at_builtin; refine wpList_append_at _ rfl (.tmp 27) (.tmp 31) 27 rfl K0 41 j0 _ 3 24 Try.underlying27 hj0 hy0 hy1 hy2 rfl (by omega) g' k c' (tCells (thsL ms kd ((thrE (zD ms kd) ms.length).take k))) rfl (World.ownsRow.alloc HROW4.out _) (some ⟨w4.heap.size, 0, none⟩) 1 1 (tCells [d]) rfl (one_srcT (heap_alloc_new w4 _)) (by unfold maxLen; omega) (by omega) (by simp; omega) (w4.heap.size + 1) (by simp) ?_; intro gr cr w5 hownr hgrowr hatr hltr)
      have HF : Hid (ThAt w1.heap.size K0 p g c B ms kd w (k + 1) gr cr (S1 ++ S.take (m + 1)) (S.drop (m + 1)) l4 w5) := by
        have hblk : ∀ i, i < w4.heap.size → i ≠ g' → w5.heap[i]? = w4.heap[i]? := fun i hi hne => (hgrowr.block i (by simp; omega) (fun e => by injection e with e; exact hne e)).trans (HLA.out.block i hi)
        refine ⟨?_, HE4.out.1.same (hblk p hpl4 (by omega)) (hblk g hgl4 (by omega)), HE4.out.2.1, HSP.out, HKR2.out, ?_, ?_⟩
        · rw [HTK.out, thsL_snoc, HDD.out]
          refine TRow.snoc ?_
          have e5 : (thsL ms kd ((thrE (zD ms kd) ms.length).take k)).length = k := by rw [thsL_len, List.length_take]; have := HTL.out; omega
          rw [e5]
          exact hownr
        · rw [HTK.out, lab_snoc]
          exact HE4.out.2.2.same (hblk B hBl4 (by omega))
        · exact (HL4.out.trans (HLA.out.mono HL4.out.size)).grown hgrowr (by simp; have := HL4.out.size; omega) (by intro q hq; cases hq; omega)
      clear hownr hgrowr hatr hltr
      go_wp2_with fail
      go_roundw
      case rel => exact ⟨k + 1, gr, cr, _, _, l4, by omega, by go_num, rfl, HF.out⟩
      case measure => simp [intOf]; omega
    · have hkk : k = ms.length - 1 := by omega
      have hw1 : IntKind.i64.wrap ((ms.length : Int) - 1) = (ms.length : Int) - 1 := IntWalk.i64_in _ ⟨by omega, by omega⟩
      have hcond : ¬ ((k : Int) < (ms.length : Int) - 1) := by omega
      have HE : Hid (k = (thrL ms kd).length ∧ TRow w.heap.size wr g' c' (thrL ms kd) ∧ Below w.heap.size w wr) := by
        have e1 : thrL ms kd = thsL ms kd ((thrE (zD ms kd) ms.length).take k) := by
          rw [thrL_yes ((thrB_iff ms kd).2 ⟨HM.out.1, HM.out.2.1⟩), List.take_of_length_le (by have := HTL.out; omega)]
        refine ⟨?_, ?_, HI.out.low⟩
        · rw [e1, thsL_len, List.length_take]; have := HTL.out; omega
        · rw [e1]; exact HI.out.row.mono (by omega)
      clear HI hkk
      go_wp2_with fail
      go_ret
      exact ⟨g', c', by rw [← HE.out.1]; rfl, HE.out.2.1, HE.out.2.2⟩

set_option maxRecDepth 100000 in
set_option maxHeartbeats 1000000 in
theorem iThr_no (ao : Option Addr) (cap : Nat) (ms : List Mk) (kd : Int) (w : World) (hv : MView w ao ms) (hsm : MSmall ms) (hb : thrB ms kd = false) :
    Calls Try.prog 12 #[.slice ao ms.length cap, .int .i64 kd] w fun e w' => e = .returned (.slice none 0 0) ∧ Below w.heap.size w w' := by
  have HC := hidP (iMarks ao cap ms w hv hsm)
  have HK := fun w => hidP (iKind kd w)
  rcases hm : marksB ms with _ | _
  · rw [hm] at HC
    clear hm hb hv
    go_enter Try.func12, Try.ntmps12
    go_wp2_with fail
    refine HC.out.mono ?_
    rintro e w1 ⟨rfl, L1⟩
    have HL := hidP L1
    clear L1
    go_wp2_with fail
    go_ret
    exact ⟨rfl, HL.out⟩
  · have hk : kindB kd = false := by
      rcases h : kindB kd with _ | _
      · rfl
      · simp [thrB, hm, h] at hb
    rw [hm] at HC
    rw [hk] at HK
    clear hm hb hv hk
    go_enter Try.func12, Try.ntmps12
    go_wp2_with fail
    refine HC.out.mono ?_
    rintro e w1 ⟨rfl, L1⟩
    have HL := hidP L1
    clear L1
    go_wp2_with fail
    refine (HK w1).out.mono ?_
    rintro e w2 ⟨rfl, hw2⟩
    subst w2
    go_wp2_with fail
    go_ret
    exact ⟨rfl, HL.out⟩

theorem iThreads : IThreads := fun ao cap ms kd w hv hsm hcap => by
  rcases hb : thrB ms kd with _ | _
  · refine (iThr_no ao cap ms kd w hv hsm hb).mono ?_
    rintro e w' ⟨rfl, L⟩
    exact ⟨none, 0, by rw [thrL_no hb]; rfl, Or.inl ⟨rfl, rfl, thrL_no hb⟩, L⟩
  · obtain ⟨hm, hk⟩ := (thrB_iff ms kd).1 hb
    refine (iThr_yes ao cap ms kd w hv hsm hcap hm hk).mono ?_
    rintro e w' ⟨g, c, rfl, hr, L⟩
    exact ⟨some ⟨g, 0, none⟩, c, rfl, Or.inr ⟨g, rfl, hr⟩, L⟩

end Go.Proofs.Ytfbindjacmaeoaa
