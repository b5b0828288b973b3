import Derived.Test.YtaaagmgglolibaaGreatMSizeZz
import Derived.Deep.RegionHeld3
set_option maxRecDepth 100000
set_option maxHeartbeats 2000000
namespace Go.Proofs.YtaaagmgglolibaaGreat
open Go Go.RowKit
theorem Tryz.info29 : (Tryz.prog.info? 29).map (fun i => (i.zero, i.size, i.bytes)) = some (some (.agg #[.int .i64 0, .slice none 0 0]), 2, 32) := by kernel_rfl
def inR (x lo hi : Int) : Bool := decide (lo <= x) && decide (x <= hi)
theorem Zfi {x lo hi : Int} (h1 : lo <= x) (h2 : x <= hi) : inR x lo hi = true := by simp [inR, h1, h2]
theorem Zjk {x lo hi : Int} (h1 : ¬ lo <= x) : inR x lo hi = false := by simp [inR, h1]
theorem Zhw {x lo hi : Int} (h2 : ¬ x <= hi) : inR x lo hi = false := by simp [inR, h2]
theorem Znz {x lo hi : Int} (h : inR x lo hi = true) : lo <= x /\ x <= hi := by simpa [inR] using h
theorem ZmB {x lo hi : Int} (h : inR x lo hi = false) : ¬ (lo <= x /\ x <= hi) := by intro hh; rw [Zfi hh.1 hh.2] at h; cases h
theorem sIn (x lo hi : Int) (w : World) :
 Calls Tryz.prog 119 #[.int .i64 x, .int .i64 lo, .int .i64 hi] w fun e w' => e = .returned (.bool (inR x lo hi)) /\ w' = w := by
 by_cases h1 : lo <= x
 · by_cases h2 : x <= hi
   · have HV := Za (Zfi h1 h2)
     go_enter Tryz.func119, Tryz.ntmps119
     go_wp2
     go_ret
     exact ⟨Zb HV.out.symm, rfl⟩
   · have HV := Za (Zhw (lo := lo) h2)
     go_enter Tryz.func119, Tryz.ntmps119
     go_wp2
     go_ret
     exact ⟨Zb HV.out.symm, rfl⟩
 · have HV := Za (Zjk (hi := hi) h1)
   go_enter Tryz.func119, Tryz.ntmps119
   go_wp2
   go_ret
   exact ⟨Zb HV.out.symm, rfl⟩
def Zdt (m : Mk) : Bool := inR m.1 1 1000000 && okB m.2
def Zao (m l : Mk) : Bool := decide (l.1 < m.1) && decide (m.2.length = l.2.length)
theorem iUpTo (k : Int) (w : World) :
 Calls Tryz.prog 157 #[.int .i64 k] w fun e w' => e = .returned (.bool (inR k 1 1000000)) /\ w' = w := by
 by_cases h1 : 1 <= k
 · by_cases h2 : k <= 1000000
   · have HV := Za (Zfi h1 h2)
     go_enter Tryz.func157, Tryz.ntmps157
     go_wp2
     go_ret
     exact ⟨Zb HV.out.symm, rfl⟩
   · have HV := Za (Zhw (lo := 1) h2)
     go_enter Tryz.func157, Tryz.ntmps157
     go_wp2
     go_ret
     exact ⟨Zb HV.out.symm, rfl⟩
 · have HV := Za (Zjk (hi := 1000000) h1)
   go_enter Tryz.func157, Tryz.ntmps157
   go_wp2
   go_ret
   exact ⟨Zb HV.out.symm, rfl⟩
theorem ZmC (m : Mk) (ao : Option Addr) (cap : Nat) (w : World) (hv : Zp w ao m.2) (hn : m.2.length <= 1048576) :
 Calls Tryz.prog 213 #[.agg #[.int .i64 m.1, .slice ao m.2.length cap]] w fun e w' => e = .returned (.bool (Zdt m)) /\ Below w.heap.size w w' := by
 have L0 : Below w.heap.size w (w.alloc (.cells #[.int .i64 m.1, .slice ao m.2.length cap] 29)) := (Below.refl _ _).alloc (Nat.le_refl _) _
 have HP := Za (fun W (L : Below w.heap.size w W) => iOk ao cap m.2 W (Zp.next hv L) hn)
 have HU := Za (fun W => iUpTo m.1 W)
 have HL := Za L0
 obtain ⟨b, hb⟩ : ∃ b, inR m.1 1 1000000 = b := ⟨_, rfl⟩
 rw [hb] at HU
 have HV : Hid (Zdt m = (b && okB m.2)) := by show Zdt m = _; simp [Zdt, hb]
 clear hb hv L0
 go_enter Tryz.func213, Tryz.ntmps213
 go_wp2_with fail
 refine (HU.out _).mono ?_
 rintro e w1 ⟨rfl, rfl⟩
 cases b with
 | true =>
   go_wp2_with fail
   refine (HP.out _ HL.out).mono ?_
   rintro e w1 ⟨rfl, rfl⟩
   go_wp2_with fail
   go_ret
   exact ⟨Zb HV.out.symm, HL.out⟩
 | false =>
   go_wp2_with fail
   go_ret
   exact ⟨Zb HV.out.symm, HL.out⟩
theorem Zlu (m l : Mk) (ao ao' : Option Addr) (cap cap' : Nat) (w : World) :
 Calls Tryz.prog 214 #[.agg #[.int .i64 m.1, .slice ao m.2.length cap], .agg #[.int .i64 l.1, .slice ao' l.2.length cap']] w fun e w' => e = .returned (.bool (Zao m l)) /\ Below w.heap.size w w' := by
 have L0 : Below w.heap.size w ((w.alloc (.cells #[.int .i64 m.1, .slice ao m.2.length cap] 29)).alloc (.cells #[.int .i64 l.1, .slice ao' l.2.length cap'] 29)) :=
  ((Below.refl _ _).alloc (Nat.le_refl _) _).alloc (by simp) _
 by_cases h1 : l.1 < m.1
 · by_cases h2 : m.2.length = l.2.length
   · have HV : Hid (Zao m l = true) := by show Zao m l = _; simp [Zao, h1, h2]
     have hb : ((m.2.length : Int) == (l.2.length : Int)) = true := by simp [h2]
     clear h2
     go_enter Tryz.func214, Tryz.ntmps214
     go_wp2_with fail
     go_ret
     exact ⟨Zb HV.out.symm, L0⟩
   · have HV : Hid (Zao m l = false) := by show Zao m l = _; simp [Zao, h2]
     have hb : ((m.2.length : Int) == (l.2.length : Int)) = false := by simp; omega
     clear h2
     go_enter Tryz.func214, Tryz.ntmps214
     go_wp2_with fail
     go_ret
     exact ⟨Zb HV.out.symm, L0⟩
 · have HV : Hid (Zao m l = false) := by show Zao m l = _; simp [Zao, h1]
   go_enter Tryz.func214, Tryz.ntmps214
   go_wp2_with fail
   go_ret
   exact ⟨Zb HV.out.symm, L0⟩
theorem Zhx (ao : Option Addr) (n cap : Nat) (w : World) (h : 60 < n) (hn : n <= 1048576) :
 Calls Tryz.prog 139 #[.slice ao n cap] w fun e w' => e = .returned (.bool false) /\ w' = w := by
 go_enter Tryz.func139, Tryz.ntmps139
 go_wp2
 go_ret
 exact ⟨rfl, rfl⟩
theorem ZiC (ao : Option Addr) (cap : Nat) (w : World) :
 Calls Tryz.prog 139 #[.slice ao 0 cap] w fun e w' => e = .returned (.bool true) /\ w' = w := by
 go_enter Tryz.func139, Tryz.ntmps139
 go_wp2
 refine wp_loop_rounds 1 ?_
 rw [rounds_succ]
 go_wp2
 go_ret
 exact ⟨rfl, rfl⟩
theorem ZiD (b off cap : Nat) (ms : List Mk) (w : World) (hs : ZaW w b off ms) (_hb : b < w.heap.size) (hsm : ZP ms) (h60 : ms.length <= 60) :
 Calls Tryz.prog 139 #[.slice (some ⟨b, off, none⟩) ms.length cap] w fun e w' => e = .returned (.bool (Zm ms)) /\ ∃ n, w' = w.drewN n := by
 obtain ⟨hn, hat⟩ := hsm
 have H60 := Za h60
 go_enter Tryz.func139, Tryz.ntmps139
 go_wp2
 go_loopw [3] (fun i wr => ∃ k : Nat, k <= ms.length /\ i = .int .i64 k /\ (∀ j, j < k -> ZbP ms j = true) /\ ∃ n, wr = w.drewN n) (fun i _ => ms.length - (intOf i).toNat)
 case atStart => exact ⟨0, Nat.zero_le _, rfl, fun j hj => by omega, 0, rfl⟩
 case round =>
  obtain ⟨k, hk, rfl, hall, hw⟩ := hrel
  have HA := Za hall
  have HW : Hid (∃ n, wr = w.drewN n) := hw
  clear hall hw
  by_cases hlt : k < ms.length
  · have hsw : ZaW wr b off ms := by obtain ⟨n, rfl⟩ := HW.out; exact hs
    obtain ⟨hc0, ao, ca, hc1, hv⟩ := hsw.at hlt
    obtain ⟨-, ao0, ca0, hd1, -⟩ := hsw.at (i := 0) (by omega)
    rw [Nat.zero_mul, Nat.add_zero] at hd1
    have hi0 : (0 : Int) <= (k : Int) := Int.natCast_nonneg _
    have hi1 : (k : Int) < (ms.length : Int) := by omega
    have hi2 : (0 : Int) < (ms.length : Int) := by omega
    have hnk := hat k
    have HV := Za hv
    have HO := Za (Zc2 ms k)
    have HO1 := Za (ZZ ms k).2
    clear hv hsw
    rcases hin : inR (mid ms k) 1 1000000 with _ | _
    · have HIN := Za (ZmB hin)
      go_wp2
      go_quiet (first | (go_at_call 119; exact Calls.quiet_of_same (sIn _ _ _ _)) | (go_at_call 27; exact Calls.quiet_of_same (sOk ao ca (mat ms k) _ (HV.out.drewN _) hnk)))
      go_wp2
      go_ret
      exact ⟨Zb (Zby hlt (HO.out (fun h => HIN.out ⟨h.1, h.2.1⟩))).symm, by obtain ⟨n, hn⟩ := HW.out; exact ⟨n + nq, by rw [hn]; simp⟩⟩
    · have HIN := Za (Znz hin)
      rcases hok : okB (mat ms k) with _ | _
      · go_wp2
        go_quiet (first | (go_at_call 119; exact Calls.quiet_of_same (sIn _ _ _ _)) | (go_at_call 27; exact Calls.quiet_of_same (sOk ao ca (mat ms k) _ (HV.out.drewN _) hnk)))
        go_wp2
        go_ret
        exact ⟨Zb (Zby hlt (HO.out (fun h => by rw [h.2.2.1] at hok; cases hok))).symm, by obtain ⟨n, hn⟩ := HW.out; exact ⟨n + nq, by rw [hn]; simp⟩⟩
      · by_cases hl : (mat ms k).length = (mat ms 0).length
        · have hlb : (((mat ms k).length : Int) != ((mat ms 0).length : Int)) = false := by simp [hl]
          have HLN := Za hl
          clear hl
          rcases Nat.eq_zero_or_pos k with h0 | h0
          · subst h0
            have hg : decide ((0 : Int) < 0) = false := by decide
            simp only [Nat.zero_mul, Nat.add_zero] at hc0 hc1
            clear hd1
            go_wp2
            go_quiet (first | (go_at_call 119; exact Calls.quiet_of_same (sIn _ _ _ _)) | (go_at_call 27; exact Calls.quiet_of_same (sOk ao ca (mat ms 0) _ (HV.out.drewN _) hnk)))
            go_wp2
            go_roundw
            case rel => exact ⟨1, by omega, by go_num, fun j hj => by
             rw [show j = 0 by omega]; exact HO1.out ⟨HIN.out.1, HIN.out.2, hok, HLN.out, Or.inl (by trivial)⟩, by obtain ⟨n, hn⟩ := HW.out; exact ⟨n + nq, by rw [hn]; simp⟩⟩
            case measure => simp [intOf]; omega
          · obtain ⟨j, rfl⟩ : ∃ j, k = j + 1 := ⟨k - 1, by omega⟩
            have hsw : ZaW wr b off ms := by obtain ⟨n, rfl⟩ := HW.out; exact hs
            have he0 := (hsw.at (i := j) (by omega)).1
            clear hsw
            have hj1 : (j : Int) < (ms.length : Int) := by omega
            have hwr : IntKind.i64.wrap (((j + 1 : Nat) : Int) - 1) = j := by rw [IntWalk.i64_in _ ⟨by omega, by omega⟩]; omega
            have hwr2 : IntKind.i64.wrap ((j : Int) + 1 - 1) = j := by rw [IntWalk.i64_in _ ⟨by omega, by omega⟩]; omega
            have hg : (0 : Int) < ((j + 1 : Nat) : Int) := by omega
            by_cases hr : mid ms (j + 1) <= mid ms j
            · go_wp2
              go_quiet (first | (go_at_call 119; exact Calls.quiet_of_same (sIn _ _ _ _)) | (go_at_call 27; exact Calls.quiet_of_same (sOk ao ca (mat ms (j + 1)) _ (HV.out.drewN _) hnk)))
              go_wp2
              go_ret
              exact ⟨Zb (Zby hlt (HO.out (fun h => by have := h.2.2.2.2; simp at this; omega))).symm, by obtain ⟨n, hn⟩ := HW.out; exact ⟨n + nq, by rw [hn]; simp⟩⟩
            · go_wp2
              go_quiet (first | (go_at_call 119; exact Calls.quiet_of_same (sIn _ _ _ _)) | (go_at_call 27; exact Calls.quiet_of_same (sOk ao ca (mat ms (j + 1)) _ (HV.out.drewN _) hnk)))
              go_wp2
              go_roundw
              case rel => exact ⟨j + 1 + 1, by omega, by go_num, fun i hi => by
               rcases Nat.lt_or_ge i (j + 1) with h | h
               · exact HA.out i h
               · rw [show i = j + 1 by omega]; exact HO1.out ⟨HIN.out.1, HIN.out.2, hok, HLN.out, Or.inr (by simp; omega)⟩, by obtain ⟨n, hn⟩ := HW.out; exact ⟨n + nq, by rw [hn]; simp⟩⟩
              case measure => simp [intOf]; omega
        · have hlb : (((mat ms k).length : Int) != ((mat ms 0).length : Int)) = true := by simp; omega
          have HLN := Za hl
          clear hl
          go_wp2
          go_quiet (first | (go_at_call 119; exact Calls.quiet_of_same (sIn _ _ _ _)) | (go_at_call 27; exact Calls.quiet_of_same (sOk ao ca (mat ms k) _ (HV.out.drewN _) hnk)))
          go_wp2
          go_ret
          exact ⟨Zb (Zby hlt (HO.out (fun h => HLN.out h.2.2.2.1))).symm, by obtain ⟨n, hn⟩ := HW.out; exact ⟨n + nq, by rw [hn]; simp⟩⟩
  · go_wp2
    go_ret
    obtain rfl : k = ms.length := by omega
    exact ⟨Zb (Eq.symm (Zf1 H60.out HA.out)), HW.out⟩
theorem Zgi (ao : Option Addr) (cap : Nat) (ms : List Mk) (w : World) (hv : Zw w ao ms) (hsm : ZP ms) :
 Calls Tryz.prog 139 #[.slice ao ms.length cap] w fun e w' => e = .returned (.bool (Zm ms)) /\ ∃ n, w' = w.drewN n := by
 rcases Nat.lt_or_ge 60 ms.length with h | h
 · refine (Zhx ao ms.length cap w h hsm.1).mono ?_
   rintro e w' ⟨rfl, rfl⟩
   exact ⟨Zb (Zeu h).symm, 0, rfl⟩
 · rcases hv with rfl | ⟨b, off, rfl, hb, hs⟩
   · refine (ZiC ao cap w).mono ?_
     rintro e w' ⟨rfl, rfl⟩
     exact ⟨rfl, 0, rfl⟩
   · exact ZiD b off cap ms w hs hb hsm h
theorem Zeg (m : Mk) : Zdt m = true ↔ 1 <= m.1 /\ m.1 <= 1000000 /\ okB m.2 = true := by simp [Zdt, inR, and_assoc]
theorem Zd0 (m l : Mk) : Zao m l = true ↔ l.1 < m.1 /\ m.2.length = l.2.length := by simp [Zao]
theorem Zlv {ms : List Mk} (h : Zdt (Zag ms 0) = true) : ZbP ms 0 = true := by
 rw [Zeg] at h
 exact (ZZ ms 0).2 ⟨h.1, h.2.1, h.2.2, rfl, Or.inl rfl⟩
theorem Zlw {ms : List Mk} {j : Nat} (hp : ZbP ms j = true) (h : Zdt (Zag ms (j + 1)) = true) (hf : Zao (Zag ms (j + 1)) (Zag ms j) = true) : ZbP ms (j + 1) = true := by
 rw [Zeg] at h
 rw [Zd0] at hf
 have := (ZZ ms j).1 hp
 exact (ZZ ms (j + 1)).2 ⟨h.1, h.2.1, h.2.2, hf.2.trans this.2.2.2.1, Or.inr hf.1⟩
theorem ZmD {ms : List Mk} {k : Nat} (h : Zdt (Zag ms k) = false) : ZbP ms k = false :=
 Zc2 ms k fun hh => by rw [(Zeg (Zag ms k)).2 ⟨hh.1, hh.2.1, hh.2.2.1⟩] at h; cases h
theorem Zkh {ms : List Mk} {j : Nat} (hp : ZbP ms j = true) (hf : Zao (Zag ms (j + 1)) (Zag ms j) = false) : ZbP ms (j + 1) = false :=
 Zc2 ms (j + 1) fun hh => by
  have := (ZZ ms j).1 hp
  have h5 := hh.2.2.2.2
  simp at h5
  rw [(Zd0 (Zag ms (j + 1)) (Zag ms j)).2 ⟨h5, hh.2.2.2.1.trans this.2.2.2.1.symm⟩] at hf
  cases hf
theorem Zhy (ao : Option Addr) (n cap : Nat) (w : World) (h : 60 < n) (hn : n <= 1048576) :
 Calls Tryz.prog 136 #[.slice ao n cap] w fun e w' => e = .returned (.bool false) /\ w' = w := by
 go_enter Tryz.func136, Tryz.ntmps136
 go_wp2
 go_ret
 exact ⟨rfl, rfl⟩
theorem ZiE (ao : Option Addr) (cap : Nat) (w : World) :
 Calls Tryz.prog 136 #[.slice ao 0 cap] w fun e w' => e = .returned (.bool true) /\ w' = w := by
 go_enter Tryz.func136, Tryz.ntmps136
 go_wp2
 refine wp_loop_rounds 1 ?_
 rw [rounds_succ]
 go_wp2
 go_ret
 exact ⟨rfl, rfl⟩
theorem ZiF (b off cap : Nat) (ms : List Mk) (w : World) (hs : ZaW w b off ms) (hb : b < w.heap.size) (hsm : ZP ms) (h60 : ms.length <= 60) :
 Calls Tryz.prog 136 #[.slice (some ⟨b, off, none⟩) ms.length cap] w fun e w' => e = .returned (.bool (Zm ms)) /\ Below w.heap.size w w' := by
 obtain ⟨hn, hat⟩ := hsm
 have H60 := Za h60
 go_enter Tryz.func136, Tryz.ntmps136
 go_wp2
 go_loopw [10] (fun i wr => ∃ k : Nat, k <= ms.length /\ i = .int .i64 k /\ (∀ j, j < k -> ZbP ms j = true) /\ Below w.heap.size w wr) (fun i _ => ms.length - (intOf i).toNat)
 case atStart => exact ⟨0, Nat.zero_le _, rfl, fun j hj => by omega, Below.refl _ _⟩
 case round =>
  obtain ⟨k, hk, rfl, hall, L⟩ := hrel
  have HA := Za hall
  clear hall
  by_cases hlt : k < ms.length
  · obtain ⟨hc0, ao, ca, hc1, hv⟩ := (hs.below hb (Nat.le_refl _) L).at hlt
    have hz := L.size
    have L0 : Below wr.heap.size wr (wr.alloc (.cells #[.int .i64 (mid ms k), .slice ao (mat ms k).length ca] 29)) := (Below.refl _ _).alloc (Nat.le_refl _) _
    have hv0 := Zp.next hv L0
    have c0 : (wr.alloc (.cells #[.int .i64 (mid ms k), .slice ao (mat ms k).length ca] 29)).cell? ⟨wr.heap.size, 0, none⟩ = some (.int .i64 (mid ms k)) := by go_simp
    have c1 : (wr.alloc (.cells #[.int .i64 (mid ms k), .slice ao (mat ms k).length ca] 29)).cell? ⟨wr.heap.size, 1, none⟩ = some (.slice ao (mat ms k).length ca) := by go_simp
    have hsz : (wr.alloc (.cells #[.int .i64 (mid ms k), .slice ao (mat ms k).length ca] 29)).heap.size = wr.heap.size + 1 := by simp
    have HC := Za (ZmC (Zag ms k) ao ca _ hv0 (hat k))
    have HLL := Za (L.trans (L0.mono hz))
    clear L hv hv0 L0
    go_wp2_with fail
    refine HC.out.mono ?_
    rintro e w1 ⟨rfl, L1⟩
    replace c0 := (L1.cell (p := ⟨wr.heap.size, 0, none⟩) (by simp)).trans c0
    replace c1 := (L1.cell (p := ⟨wr.heap.size, 1, none⟩) (by simp)).trans c1
    have L2 := Za (HLL.out.trans (L1.mono (by omega)))
    have hz1 := L1.size
    rw [hsz] at hz1
    clear L1 HLL HC hsz hc0 hc1
    rcases hg : Zdt (Zag ms k) with _ | _
    · go_wp2_with fail
      go_ret
      exact ⟨Zb (Zby hlt (ZmD hg)).symm, L2.out⟩
    · have HG := Za hg
      rcases Nat.eq_zero_or_pos k with h0 | h0
      · subst h0
        have hgd : decide ((0 : Int) < 0) = false := by decide
        go_wp2_with fail
        go_quiet (fail)
        go_wp2_with fail
        go_roundw
        case rel => exact ⟨1, by omega, by go_num, fun j hj => by rw [show j = 0 by omega]; exact Zlv HG.out, below_drewN L2.out _⟩
        case measure => simp [intOf]; omega
      · obtain ⟨j, rfl⟩ : ∃ j, k = j + 1 := ⟨k - 1, by omega⟩
        obtain ⟨he0, ao', ca', he1, -⟩ := (hs.below hb (Nat.le_refl _) L2.out).at (i := j) (by omega)
        have hj0 : (0 : Int) <= (j : Int) := Int.natCast_nonneg _
        have hj1 : (j : Int) < (ms.length : Int) := by omega
        have hwr : IntKind.i64.wrap (((j + 1 : Nat) : Int) - 1) = j := by rw [IntWalk.i64_in _ ⟨by omega, by omega⟩]; omega
        have hwr2 : IntKind.i64.wrap ((j : Int) + 1 - 1) = j := by rw [IntWalk.i64_in _ ⟨by omega, by omega⟩]; omega
        have hwr3 : IntKind.i64.wrap (j : Int) = j := IntWalk.i64_in _ ⟨by omega, by omega⟩
        have hgd : (0 : Int) < ((j + 1 : Nat) : Int) := by omega
        have hgd2 : (0 : Int) < (j : Int) + 1 := by omega
        have hbw : b < w1.heap.size := by omega
        have HF := Za (Zlu (Zag ms (j + 1)) (Zag ms j) ao ao' ca ca' w1.drew)
        go_wp2_with fail
        go_region_held3 (fun w' => w'.cell? ⟨wr.heap.size, 0, none⟩ = some (.int .i64 (mid ms (j + 1))) /\ w'.cell? ⟨wr.heap.size, 1, none⟩ = some (.slice ao (mat ms (j + 1)).length ca) /\ w'.cell? ⟨b, off + j * 2, none⟩ = some (.int .i64 (mid ms j)) /\ w'.cell? ⟨b, off + j * 2 + 1, none⟩ = some (.slice ao' (mat ms j).length ca'))
         (first
           | go_keep
           | (refine ⟨(L3.cell (p := ⟨wr.heap.size, 0, none⟩) (by simp; omega)).trans c0, (L3.cell (p := ⟨wr.heap.size, 1, none⟩) (by simp; omega)).trans c1, (L3.cell (p := ⟨b, off + j * 2, none⟩) hbw).trans he0, (L3.cell (p := ⟨b, off + j * 2 + 1, none⟩) hbw).trans he1⟩))
         (first
           | (go_at_call 214; refine HF.out.mono ?_; rintro e w2 ⟨rfl, L3⟩))
        have LF := Za (L2.out.drew.trans (L3.mono (by simp; omega)))
        clear L3
        rcases hf : Zao (Zag ms (j + 1)) (Zag ms j) with _ | _
        · go_wp2
          go_ret
          exact ⟨Zb (Zby hlt (Zkh (HA.out j (by omega)) hf)).symm, LF.out⟩
        · go_wp2
          go_roundw
          case rel => exact ⟨j + 1 + 1, by omega, by go_num, fun i hi => by
           rcases Nat.lt_or_ge i (j + 1) with h | h
           · exact HA.out i h
           · rw [show i = j + 1 by omega]; exact Zlw (HA.out j (by omega)) HG.out hf, LF.out⟩
          case measure => simp [intOf]; omega
  · go_wp2
    go_ret
    obtain rfl : k = ms.length := by omega
    exact ⟨Zb (Eq.symm (Zf1 H60.out HA.out)), L⟩
theorem Zic (ao : Option Addr) (cap : Nat) (ms : List Mk) (w : World) (hv : Zw w ao ms) (hsm : ZP ms) :
 Calls Tryz.prog 136 #[.slice ao ms.length cap] w fun e w' => e = .returned (.bool (Zm ms)) /\ Below w.heap.size w w' := by
 rcases Nat.lt_or_ge 60 ms.length with h | h
 · refine (Zhy ao ms.length cap w h hsm.1).mono ?_
   rintro e w' ⟨rfl, rfl⟩
   exact ⟨Zb (Zeu h).symm, Below.refl _ _⟩
 · rcases hv with rfl | ⟨b, off, rfl, hb, hs⟩
   · refine (ZiE ao cap w).mono ?_
     rintro e w' ⟨rfl, rfl⟩
     exact ⟨rfl, Below.refl _ _⟩
   · exact ZiF b off cap ms w hs hb hsm h
def Zbw (d : Int) : Int := if inR d 0 1000002 then (371 * d + 17) % 1000003 else -1
def Zcb : Nat -> Int -> Nat
 | 0, _ => 0
 | k + 1, d => if 0 < d /\ d % 4 = 0 then Zcb k (d / 4) + 1 else 0
def Zil (d : Int) : Int := if inR d 0 1000002 then (Zcb 3 d : Int) else -1
theorem ZbS {d lo hi : Int} : inR d lo hi = true ↔ lo <= d /\ d <= hi := by simp [inR]
theorem Zjl {d : Int} (h : inR d 0 1000002 = true) : Zbw d = (371 * d + 17) % 1000003 := by simp [Zbw, h]
theorem ZmE {d : Int} (h : inR d 0 1000002 = false) : Zbw d = -1 := by simp [Zbw, h]
theorem Zjg {d : Int} (h : inR d 0 1000002 = true) : Zil d = (Zcb 3 d : Int) := by simp [Zil, h]
theorem ZmF {d : Int} (h : inR d 0 1000002 = false) : Zil d = -1 := by simp [Zil, h]
theorem Zgu {d : Int} (h : inR d 0 1000002 = true) : 0 <= Zbw d /\ Zbw d <= 1000002 := by
 rw [Zjl h]; omega
theorem Zmm (k : Nat) (d : Int) : Zcb k d <= k := by
 induction k generalizing d with
 | zero => simp [Zcb]
 | succ k ih => simp only [Zcb]; split <;> have := ih (d / 4) <;> omega
def Zak (d : Int) : Nat -> Int
 | 0 => d
 | n + 1 => Zak d n / 4
theorem ZcE (d : Int) (n : Nat) (h0 : 0 <= d) (h : d <= 1000002) : 0 <= Zak d n /\ Zak d n <= 1000002 := by
 induction n with
 | zero => exact ⟨h0, h⟩
 | succ n ih => simp only [Zak]; omega
theorem Zki {k n : Nat} {d : Int} (e : Zcb 3 d = n + Zcb (k + 1) (Zak d n)) (h : 0 < Zak d n) (h4 : Zak d n % 4 = 0) : Zcb 3 d = (n + 1) + Zcb k (Zak d (n + 1)) := by
 rw [e]; simp only [Zcb, Zak]; rw [if_pos ⟨h, h4⟩]; omega
theorem Zkj {k n : Nat} {d : Int} (e : Zcb 3 d = n + Zcb k (Zak d n)) (h : ¬ (0 < Zak d n /\ Zak d n % 4 = 0)) : Zcb 3 d = n := by
 rw [e]; cases k with
 | zero => rfl
 | succ k => simp only [Zcb]; rw [if_neg h]; omega
theorem ZcF (d : Int) (w : World) :
 Calls Tryz.prog 114 #[.int .i64 d] w fun e w' => e = .returned (.bool (inR d 0 1000002)) /\ w' = w := by
 go_enter Tryz.func114, Tryz.ntmps114
 go_wp2_with fail
 refine (sIn d 0 1000002 _).mono ?_
 rintro e w1 ⟨rfl, rfl⟩
 go_wp2_with fail
 go_ret
 exact ⟨rfl, rfl⟩
theorem Zgz (d : Int) (w : World) :
 Calls Tryz.prog 111 #[.int .i64 d] w fun e w' => e = .returned (.bool (inR d 0 1000002)) /\ w' = w := by
 by_cases h0 : d ≥ 0
 · by_cases h1 : d < 1000003
   · have HR : Hid (inR d 0 1000002 = true) := by show inR _ _ _ = _; rw [ZbS]; omega
     go_enter Tryz.func111, Tryz.ntmps111
     go_wp2_with fail
     go_ret
     exact ⟨Zb (Eq.symm HR.out), rfl⟩
   · have HR : Hid (inR d 0 1000002 = false) := by show inR _ _ _ = _; rw [Bool.eq_false_iff, Ne, ZbS]; omega
     go_enter Tryz.func111, Tryz.ntmps111
     go_wp2_with fail
     go_ret
     exact ⟨Zb (Eq.symm HR.out), rfl⟩
 · have HR : Hid (inR d 0 1000002 = false) := by show inR _ _ _ = _; rw [Bool.eq_false_iff, Ne, ZbS]; omega
   go_enter Tryz.func111, Tryz.ntmps111
   go_wp2_with fail
   go_ret
   exact ⟨Zb (Eq.symm HR.out), rfl⟩
theorem Zkk {d : Int} (h : inR d 0 1000002 = true) : IntKind.i64.wrap (371 * d) = 371 * d /\ IntKind.i64.wrap (371 * d + 17) = 371 * d + 17 /\ (371 * d + 17).tmod 1000003 = Zbw d /\ IntKind.i64.wrap (Zbw d) = Zbw d := by
 have := ZbS.1 h
 have hr := Zgu h
 refine ⟨IntWalk.i64_in _ ⟨by omega, by omega⟩, IntWalk.i64_in _ ⟨by omega, by omega⟩, ?_, IntWalk.i64_in _ ⟨by omega, by omega⟩⟩
 rw [Zjl h, Int.tmod_eq_emod_of_nonneg (by omega)]
theorem Zmn (d : Int) (w : World) :
 Calls Tryz.prog 30 #[.int .i64 d] w fun e w' => e = .returned (.int .i64 (Zbw d)) /\ w' = w := by
 rcases h : inR d 0 1000002 with _ | _
 · have HD := Za (ZcF d)
   rw [h] at HD
   have HR := Za (ZmE h)
   clear h
   go_enter Tryz.func30, Tryz.ntmps30
   go_wp2_with fail
   refine (HD.out _).mono ?_
   rintro e w1 ⟨rfl, rfl⟩
   go_wp2_with fail
   go_ret
   exact ⟨ZV (Eq.symm HR.out), rfl⟩
 · have HD := Za (ZcF d)
   rw [h] at HD
   obtain ⟨e1, e2, e3, e4⟩ := Zkk h
   clear h
   go_enter Tryz.func30, Tryz.ntmps30
   go_wp2_with fail
   refine (HD.out _).mono ?_
   rintro e w1 ⟨rfl, rfl⟩
   go_wp2_with fail
   go_ret
   exact ⟨rfl, rfl⟩
theorem Zlx {d : Int} {n : Nat} (h : inR d 0 1000002 = true) : IntKind.i64.wrap ((Zak d n).tdiv 4) = Zak d (n + 1) /\ (Zak d n).tdiv 4 = Zak d (n + 1) /\ (Zak d n).tmod 4 = Zak d n % 4 /\ IntKind.i64.wrap (Zak d n % 4) = Zak d n % 4 := by
 obtain ⟨h0, h1⟩ := ZbS.1 h
 have hb := ZcE d n h0 h1
 have hb' := ZcE d (n + 1) h0 h1
 have e : (Zak d n).tdiv 4 = Zak d (n + 1) := Int.tdiv_eq_ediv_of_nonneg hb.1
 refine ⟨?_, e, Int.tmod_eq_emod_of_nonneg hb.1, IntWalk.i64_in _ ⟨by omega, by omega⟩⟩
 rw [e]
 exact IntWalk.i64_in _ ⟨by omega, by omega⟩
theorem Znv (d : Int) (w : World) :
 Calls Tryz.prog 28 #[.int .i64 d] w fun e w' => e = .returned (.int .i64 (Zil d)) /\ w' = w := by
 rcases h : inR d 0 1000002 with _ | _
 · have HD := Za (ZcF d)
   rw [h] at HD
   have HR := Za (ZmF h)
   clear h
   go_enter Tryz.func28, Tryz.ntmps28
   go_wp2_with fail
   refine (HD.out _).mono ?_
   rintro e w1 ⟨rfl, rfl⟩
   go_wp2_with fail
   go_ret
   exact ⟨ZV (Eq.symm HR.out), rfl⟩
 · have HD := Za (ZcF d)
   rw [h] at HD
   have HIN := Za h
   clear h
   go_enter Tryz.func28, Tryz.ntmps28
   go_wp2_with fail
   refine (HD.out _).mono ?_
   rintro e w1 ⟨rfl, rfl⟩
   go_wp2_with fail
   go_loopw [0, 3] (fun dv nv wr => ∃ n : Nat, n <= 3 /\ dv = .int .i64 (Zak d n) /\ nv = .int .i64 n /\ Zcb 3 d = n + Zcb (3 - n) (Zak d n) /\ wr = w1) (fun dv nv _ => 3 - (intOf nv).toNat)
   case atStart => exact ⟨0, by omega, rfl, rfl, by simp [Zak], rfl⟩
   case round =>
    obtain ⟨n, hn, rfl, rfl, hlv, rfl⟩ := hrel
    obtain ⟨e1, e2, e3, e4⟩ := Zlx (n := n) HIN.out
    have hb := ZcE d n (ZbS.1 HIN.out).1 (ZbS.1 HIN.out).2
    have HYW : Hid (wrap64 (Zak d (n + 1)) = Zak d (n + 1)) := by
     show wrap64 _ = _
     have := ZcE d (n + 1) (ZbS.1 HIN.out).1 (ZbS.1 HIN.out).2
     unfold wrap64
     omega
    have HLV := Za hlv
    have hw1 : IntKind.i64.wrap ((n : Int) + 1) = ((n + 1 : Nat) : Int) := by rw [IntWalk.i64_in _ ⟨by omega, by omega⟩]; omega
    clear hlv
    have HEV := Za (Zjg HIN.out)
    have HST : Hid (¬ (0 < Zak d n /\ Zak d n % 4 = 0) -> Zcb 3 d = n) := fun hc => Zkj HLV.out hc
    have HS3 : Hid (n = 3 -> Zcb 3 d = n) := fun hc => by have := HLV.out; subst hc; simpa [Zcb] using this
    have HSU : Hid (n < 3 -> 0 < Zak d n -> Zak d n % 4 = 0 -> Zcb 3 d = (n + 1) + Zcb (3 - (n + 1)) (Zak d (n + 1))) := fun h3 hp hm => by
     have e := HLV.out
     rw [show 3 - n = (3 - (n + 1)) + 1 by omega] at e
     exact Zki e hp hm
    clear HLV
    by_cases h3 : n < 3
    · have h3i : (n : Int) < 3 := by omega
      by_cases hp : Zak d n > 0
      · rcases hm : Zak d n % 4 == 0 with _ | _
        · have hmn : Zak d n % 4 ≠ 0 := by simpa using hm
          have HL := Za (HST.out (by omega))
          clear hmn
          generalize Zak d n = x at *
          generalize Zak d (n + 1) = y at *
          go_wp2_with fail
          go_ret
          exact ⟨ZV (by rw [HEV.out, HL.out]), rfl⟩
        · have hmn : Zak d n % 4 = 0 := by simpa using hm
          have HL := Za (HSU.out h3 hp hmn)
          clear hmn
          generalize hx : Zak d n = x at *
          generalize hy : Zak d (n + 1) = y at *
          have HY := Za hy
          clear hx hy
          go_wp2_with fail
          go_roundw
          case rel => exact ⟨n + 1, by omega, by rw [HY.out]; first | rfl | exact congrArg _ HYW.out, by first | trivial | rfl, by rw [HY.out]; exact HL.out, by first | trivial | rfl⟩
          case measure => simp [intOf]; omega
      · have HL := Za (HST.out (by omega))
        generalize Zak d n = x at *
        generalize Zak d (n + 1) = y at *
        go_wp2_with fail
        go_ret
        exact ⟨ZV (by rw [HEV.out, HL.out]), rfl⟩
    · have HL := Za (HS3.out (by omega))
      have h3i : ¬ (n : Int) < 3 := by omega
      by_cases hp : Zak d n > 0
      · rcases hm : Zak d n % 4 == 0 with _ | _
        · generalize Zak d n = x at *
          generalize Zak d (n + 1) = y at *
          go_wp2_with fail
          go_ret
          exact ⟨ZV (by rw [HEV.out, HL.out]), rfl⟩
        · generalize Zak d n = x at *
          generalize Zak d (n + 1) = y at *
          go_wp2_with fail
          go_ret
          exact ⟨ZV (by rw [HEV.out, HL.out]), rfl⟩
      · generalize Zak d n = x at *
        generalize Zak d (n + 1) = y at *
        go_wp2_with fail
        go_ret
        exact ⟨ZV (by rw [HEV.out, HL.out]), rfl⟩
end Go.Proofs.YtaaagmgglolibaaGreat
