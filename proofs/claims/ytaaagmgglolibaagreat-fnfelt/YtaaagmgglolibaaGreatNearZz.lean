import Derived.Test.YtaaagmgglolibaaGreatPutZz
import Derived.Test.YtaaagmgglolibaaGreatMCopyZz
set_option maxRecDepth 100000
set_option maxHeartbeats 2000000
namespace Go.Proofs.YtaaagmgglolibaaGreat
open Go Go.RowKit
theorem Zkx {ms : List Mk} {q : List Int} (h : Zm ms = true) (hq : okB q = true) (h0 : ms.length = 0) : ZJ ms q = true := by simp [ZJ, h, hq, h0]
theorem Zky {ms : List Mk} {q : List Int} (h : Zm ms = true) (hq : okB q = true) (h0 : (mat ms 0).length = q.length) : ZJ ms q = true := by simp [ZJ, h, hq, h0]
theorem Zkz {ms : List Mk} {q : List Int} (h : ms.length ≠ 0) (h0 : (mat ms 0).length ≠ q.length) : ZJ ms q = false := by
 simp [ZJ, h0]
 intro _ _
 simpa using h
theorem sTold (ao ao' : Option Addr) (cap cap' : Nat) (ms : List Mk) (q : List Int) (w : World) (hv : Zw w ao ms) (hv' : Zp w ao' q) (hsm : ZP ms) (hq : q.length <= 1048576) :
 Calls Tryz.prog 118 #[.slice ao ms.length cap, .slice ao' q.length cap'] w fun e w' => e = .returned (.bool (ZJ ms q)) /\ ∃ n, w' = w.drewN n := by
 have HC := Za (Zgi ao cap ms w hv hsm)
 rcases hm : Zm ms with _ | _
 · have HV := Za (Zf0 (q := q) hm)
   rw [hm] at HC
   go_enter Tryz.func118, Tryz.ntmps118
   go_wp2_with fail
   refine HC.out.mono ?_
   rintro e w1 ⟨rfl, n1, rfl⟩
   go_wp2_with fail
   go_ret
   exact ⟨Zb HV.out.symm, n1, rfl⟩
 · rw [hm] at HC
   rcases hok : okB q with _ | _
   · have HV := Za (Zht (ms := ms) hok)
     have HP := fun n => Za (sOk ao' cap' q (w.drewN n) (hv'.drewN n) hq)
     rw [hok] at HP
     go_enter Tryz.func118, Tryz.ntmps118
     go_wp2_with fail
     refine HC.out.mono ?_
     rintro e w1 ⟨rfl, n1, rfl⟩
     go_wp2_with fail
     refine (HP n1).out.mono ?_
     rintro e w2 ⟨rfl, rfl⟩
     go_wp2_with fail
     go_ret
     exact ⟨Zb HV.out.symm, n1, rfl⟩
   · have HP := fun n => Za (sOk ao' cap' q (w.drewN n) (hv'.drewN n) hq)
     rw [hok] at HP
     by_cases h0 : ms.length = 0
     · have HV := Za (Zkx hm hok h0)
       have hb0 : ((ms.length : Int) == 0) = true := by simp; simpa using h0
       clear h0
       go_enter Tryz.func118, Tryz.ntmps118
       go_wp2_with fail
       refine HC.out.mono ?_
       rintro e w1 ⟨rfl, n1, rfl⟩
       go_wp2_with fail
       refine (HP n1).out.mono ?_
       rintro e w2 ⟨rfl, rfl⟩
       go_wp2_with fail
       go_ret
       exact ⟨Zb HV.out.symm, n1, rfl⟩
     · have hb0 : ((ms.length : Int) == 0) = false := by simp; simpa using h0
       have hne : ms ≠ [] := by intro h; subst h; simp at h0
       obtain ⟨b, off, rfl, hb, hs⟩ := ZaW.seg hv (by omega)
       obtain ⟨-, ae, ce, hc1, -⟩ := hs.at (i := 0) (by omega)
       rw [Nat.zero_mul, Nat.add_zero] at hc1
       have hpos : (0 : Int) < (ms.length : Int) := by omega
       have hpos2 : 0 < ms.length := by omega
       by_cases hl : (mat ms 0).length = q.length
       · have HV := Za (Zky hm hok hl)
         have hlb : (((mat ms 0).length : Int) == (q.length : Int)) = true := by simp [hl]
         clear hl h0
         go_enter Tryz.func118, Tryz.ntmps118
         go_wp2_with fail
         refine HC.out.mono ?_
         rintro e w1 ⟨rfl, n1, rfl⟩
         go_wp2_with fail
         refine (HP n1).out.mono ?_
         rintro e w2 ⟨rfl, rfl⟩
         go_wp2_with fail
         go_ret
         exact ⟨Zb HV.out.symm, n1, rfl⟩
       · have HV := Za (Zkz h0 hl)
         have hlb : (((mat ms 0).length : Int) == (q.length : Int)) = false := by simp; omega
         clear hl h0
         go_enter Tryz.func118, Tryz.ntmps118
         go_wp2_with fail
         refine HC.out.mono ?_
         rintro e w1 ⟨rfl, n1, rfl⟩
         go_wp2_with fail
         refine (HP n1).out.mono ?_
         rintro e w2 ⟨rfl, rfl⟩
         go_wp2_with fail
         go_ret
         exact ⟨Zb HV.out.symm, n1, rfl⟩
theorem ZO (ms : List Mk) (q : List Int) : (ZM ms q).length = ms.length := by simp [ZM]
theorem ZfF (ms : List Mk) (q : List Int) (k : Nat) (hk : k < ms.length) : ZQ ((ZM ms q).take (k + 1)) = ZaM (ZQ ((ZM ms q).take k)) (mid ms k, ZN (mat ms k) q) := by
 have : (ZM ms q).take (k + 1) = (ZM ms q).take k ++ [(mid ms k, ZN (mat ms k) q)] := by
  rw [List.take_add_one]
  congr 1
  simp [ZM, hk, ZfD, mid, mat, List.getD]
 rw [this, Zfm]
theorem sAll (ao ao' : Option Addr) (cap cap' : Nat) (ms : List Mk) (q : List Int) (w : World) (hv : Zw w ao ms) (hv' : Zp w ao' q) (hsm : ZP ms) (hq : q.length <= 1048576) :
 Calls Tryz.prog 220 #[.slice ao ms.length cap, .slice ao' q.length cap'] w fun e w' => ∃ g c, e = .returned (.slice (some ⟨g, 0, none⟩) (ZQ (ZM ms q)).length c) /\ Zy w.heap.size w' g c (ZQ (ZM ms q)) /\ Below w.heap.size w w' := by
 obtain ⟨hn, hat⟩ := hsm
 have R0 := Za (Zy.start w w.heap.size (Nat.le_refl _))
 have L0 : Below w.heap.size w (w.alloc (.cells #[] 66)) := (Below.refl _ _).alloc (Nat.le_refl _) _
 go_enter Tryz.func220, Tryz.ntmps220
 go_wp2_with fail
 go_loopw [5, 6] (fun v i wr => ∃ (k g c : Nat) (hs : List Ht), k <= ms.length /\ i = .int .i64 k /\ v = .slice (some ⟨g, 0, none⟩) hs.length c /\ hs = ZQ ((ZM ms q).take k) /\ Zy w.heap.size wr g c hs /\ Below w.heap.size w wr) (fun _ i _ => ms.length - (intOf i).toNat)
 case atStart => exact ⟨0, w.heap.size, 0, [], Nat.zero_le _, rfl, rfl, rfl, R0.out, L0⟩
 case round =>
  obtain ⟨k, g, c, hs, hk, rfl, rfl, ehs, hrow, L⟩ := hrel
  have HEH := Za ehs
  have hlen : hs.length = k := by rw [ehs, ZcI, List.length_take, ZO]; omega
  have HLEN := Za hlen
  have HR := Za hrow
  have HLL := Za L
  clear ehs hlen hrow
  by_cases hlt : k < ms.length
  · obtain ⟨b, off, rfl, hb, hseg⟩ := ZaW.seg hv (by omega)
    obtain ⟨hc0, ae, ce, hc1, hve⟩ := (hseg.below hb (Nat.le_refl _) L).at hlt
    have hqw := Zp.next hv' L
    have hi0 : (0 : Int) <= (k : Int) := Int.natCast_nonneg _
    have hi1 : (k : Int) < (ms.length : Int) := by omega
    have hz := L.size
    have hbw : b < wr.heap.size := by omega
    have HF := Za (Zgg ae ao' ce cap' (mat ms k) q wr.drew hve.drew hqw.drew (hat k) hq)
    have HP : Hid (∀ W, Zy w.heap.size W g c hs -> Calls Tryz.prog 253 #[.slice (some ⟨g, 0, none⟩) hs.length c, .agg #[.int .i64 (mid ms k), .int .i64 (ZN (mat ms k) q)]] W fun e w' => ∃ g' c', e = .returned (.slice (some ⟨g', 0, none⟩) (ZaM hs (mid ms k, ZN (mat ms k) q)).length c') /\ Zy W.heap.size w' g' c' (ZaM hs (mid ms k, ZN (mat ms k) q)) /\ Below W.heap.size W w') :=
     fun W hW => sPut w.heap.size g c hs (mid ms k, ZN (mat ms k) q) W hW (by have := HLEN.out; omega)
    have HT := Za (ZfF ms q k hlt)
    clear L hve hqw hseg
    go_wp2_with fail
    go_region_held3 (fun w' => w'.cell? ⟨b, off + k * 2, none⟩ = some (.int .i64 (mid ms k)) /\ w'.cell? ⟨b, off + k * 2 + 1, none⟩ = some (.slice ae (mat ms k).length ce))
     (first
       | go_keep
       | (refine ⟨(L3.cell (p := ⟨b, off + k * 2, none⟩) hbw).trans hc0, (L3.cell (p := ⟨b, off + k * 2 + 1, none⟩) hbw).trans hc1⟩))
     (first
       | (go_at_call 122; refine HF.out.mono ?_; rintro e w2 ⟨rfl, n2, rfl⟩)
       | (go_at_call 253; refine (HP.out _ ?_).mono ?_; exact HR.out; rintro e w3 ⟨g', c', rfl, hrow3, L3⟩))
    have LF := Za ((below_drewN HLL.out (1 + n2)).trans (L3.mono hz))
    have hrow4 := Za (hrow3.mono hz)
    clear L3 hrow3
    go_wp2_with fail
    go_roundw
    case rel => exact ⟨k + 1, g', c', ZaM hs (mid ms k, ZN (mat ms k) q), by omega, by go_num, rfl, by rw [HT.out, HEH.out], hrow4.out, LF.out⟩
    case measure => simp [intOf]; omega
  · go_wp2_with fail
    go_ret
    obtain rfl : k = ms.length := by omega
    have e1 : hs = ZQ (ZM ms q) := by rw [HEH.out, List.take_of_length_le (by rw [ZO]; exact Nat.le_refl _)]
    rw [<- e1]
    exact ⟨g, c, rfl, HR.out, L⟩
theorem Zgh (base g c : Nat) (hs : List Ht) (k : Int) (w : World) (hr : Zy base w g c hs) (hn : hs.length <= 4194304) (h0 : 0 <= k) :
 Calls Tryz.prog 205 #[.slice (some ⟨g, 0, none⟩) hs.length c, .int .i64 k] w fun e w' => ∃ g' c', e = .returned (.slice (some ⟨g', 0, none⟩) (hs.take k.toNat).length c') /\ Zy w.heap.size w' g' c' (hs.take k.toNat) /\ Below w.heap.size w w' := by
 obtain ⟨j0, hj0, hy0, hy1, hy2⟩ := info_parts Tryz.info66
 have hcap := hr.cap
 have hgl := hr.lt.2
 obtain ⟨m, hm⟩ := Int.eq_ofNat_of_zero_le (show 0 <= min k (hs.length : Int) by omega)
 have hml : m <= hs.length := by omega
 have htk : hs.take k.toNat = hs.take m := by
  rcases Int.le_total k (hs.length : Int) with h | h
  · congr 1; omega
  · rw [List.take_of_length_le (by omega), List.take_of_length_le (by omega)]
 have htl : (hs.take m).length = m := by simp; omega
 have LA : Below w.heap.size w (w.alloc (.cells #[] 66)) := (Below.refl _ _).alloc (Nat.le_refl _) _
 have HSRC : Hid (Zai (w.alloc (.cells #[] 66)) 2 (some ⟨g, 0, none⟩) m (Zi (hs.take m))) := by
  have hv : Z6 (w.alloc (.cells #[] 66)) (some ⟨g, 0, none⟩) (hs.take m) := Or.inr ⟨g, 0, rfl, by simp; omega, (hr.seg.take m).below hgl LA⟩
  have := hv.src
  rwa [htl] at this
 have HMIN := Za hm
 have HTK := Za htk
 have HTL := Za htl
 have hi0 : (0 : Int) <= (m : Int) := Int.natCast_nonneg _
 have hi1 : (m : Int) <= (hs.length : Int) := by omega
 have hi2 : (m : Int) <= (c : Int) := by omega
 clear hm htk htl
 rw [HTK.out, HTL.out]
 clear HTK
 go_enter Tryz.func205, Tryz.ntmps205
 go_wp2_with fail
 refine (sMin k hs.length _).mono ?_
 rintro e w1 ⟨rfl, rfl⟩
 rw [HMIN.out]
 clear HMIN
 by_cases hc : c = 0
 · obtain rfl : m = 0 := by omega
   subst hc
   go_wp2_with fail
   all_goals
    go_ret
    exact ⟨w.heap.size, 0, rfl, by simpa using Zy.start w w.heap.size (Nat.le_refl _), LA⟩
 · go_wp2_with (at_builtin; refine Zq _ rfl (.tmp 5) (.tmp 11) 36 rfl w.heap.size 66 j0 _ 2 16 Tryz.underlying36 hj0 hy0 hy1 hy2 rfl (by omega) w.heap.size 0 0 [] rfl (World.ownsRow_lit w #[] 0 (Nat.le_refl _) (Nat.zero_le _) rfl) (some ⟨g, 0, none⟩) m c (Zi (hs.take m)) rfl HSRC.out (by unfold maxLen; omega) (by omega) (by simp) (w.heap.size + 1) (by simp) ?_; intro gr cr w3 hownr hgrowr hatr hltr)
   go_ret
   refine ⟨gr, cr, rfl, Zy.of hownr (by rw [HTL.out]; omega) (by simp), LA.grown hgrowr (by simp) (by intro q hq; cases hq; exact Nat.le_refl _)⟩
theorem Zeh (k : Int) : inR k 1 60 = ZE k := rfl
theorem ZmY (ao ao' : Option Addr) (cap cap' : Nat) (ms : List Mk) (q : List Int) (k : Int) (w : World) (hv : Zw w ao ms) (hv' : Zp w ao' q) (hsm : ZP ms) (hq : q.length <= 1048576) :
 Calls Tryz.prog 146 #[.slice ao ms.length cap, .slice ao' q.length cap', .int .i64 k] w fun e w' => ∃ g c, e = .returned (.slice (some ⟨g, 0, none⟩) (ZW ms q k).length c) /\ Zy w.heap.size w' g c (ZW ms q k) /\ Below w.heap.size w w' := by
 have HT := Za (sTold ao ao' cap cap' ms q w hv hv' hsm hq)
 rcases ht : ZJ ms q with _ | _
 · have HV : Hid (ZW ms q k = []) := by show ZW ms q k = []; simp [ZW, ht]
   rw [ht] at HT
   rw [HV.out]
   go_enter Tryz.func146, Tryz.ntmps146
   go_wp2_with fail
   refine HT.out.mono ?_
   rintro e w1 ⟨rfl, n1, rfl⟩
   go_wp2_with fail
   go_ret
   exact ⟨_, 0, rfl, Zy.start (w.drewN n1) _ (Nat.le_refl _), (below_drewN (Below.refl _ _) n1).alloc (Nat.le_refl _) _⟩
 · rw [ht] at HT
   rcases hk : ZE k with _ | _
   · have HV : Hid (ZW ms q k = []) := by show ZW ms q k = []; simp [ZW, hk]
     have HK := fun w => Za (sIn k 1 60 w)
     rw [Zeh, hk] at HK
     rw [HV.out]
     go_enter Tryz.func146, Tryz.ntmps146
     go_wp2_with fail
     refine HT.out.mono ?_
     rintro e w1 ⟨rfl, n1, rfl⟩
     go_wp2_with fail
     refine (HK _).out.mono ?_
     rintro e w2 ⟨rfl, rfl⟩
     go_wp2_with fail
     go_ret
     exact ⟨_, 0, rfl, Zy.start (w.drewN n1) _ (Nat.le_refl _), (below_drewN (Below.refl _ _) n1).alloc (Nat.le_refl _) _⟩
   · have HV : Hid (ZW ms q k = (ZQ (ZM ms q)).take k.toNat) := by show ZW ms q k = _; simp [ZW, ht, hk]
     have hk0 : 0 <= k := by simp [ZE] at hk; omega
     have HK := fun w => Za (sIn k 1 60 w)
     rw [Zeh, hk] at HK
     generalize ZW ms q k = tt at *
     have hl : (ZQ (ZM ms q)).length <= 4194304 := by rw [ZcI, ZO]; have := hsm.1; omega
     have HSA := fun n => Za (sAll ao ao' cap cap' ms q (w.drewN n) (hv.drewN n) (hv'.drewN n) hsm hq)
     generalize ZQ (ZM ms q) = ss at *
     have HSF := fun (g c : Nat) (W : World) (h : Zy w.heap.size W g c ss) => Za (Zgh w.heap.size g c ss k W h hl hk0)
     rw [<- HV.out] at HSF
     go_enter Tryz.func146, Tryz.ntmps146
     go_wp2_with fail
     refine HT.out.mono ?_
     rintro e w1 ⟨rfl, n1, rfl⟩
     go_wp2_with fail
     refine (HK _).out.mono ?_
     rintro e w2 ⟨rfl, rfl⟩
     go_wp2_with fail
     refine (HSA n1).out.mono ?_
     rintro e w3 ⟨g, c, rfl, hrow, L3⟩
     have hz := L3.size
     have LF := below_drewN (Below.refl w.heap.size w) n1
     have L3' := LF.trans (L3.mono LF.size)
     clear LF
     go_wp2_with fail
     refine (HSF g c w3 hrow).out.mono ?_
     rintro e w4 ⟨g', c', rfl, hrow', L4⟩
     go_wp2_with fail
     go_ret
     exact ⟨g', c', rfl, hrow'.mono hz, L3'.trans (L4.mono hz)⟩
end Go.Proofs.YtaaagmgglolibaaGreat
