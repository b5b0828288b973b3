import Derived.Test.YtaaagmgglolibaaGreatNearZz
import Derived.Test.YtaaagmgglolibaaGreatMRowZz
import Derived.Test.YtaaagmgglolibaaGreatMSizeZz
import Derived.Laws.StructEq
import Derived.Test.YtaaagmgglolibaaGreatMCopyZz
set_option maxRecDepth 100000
set_option maxHeartbeats 2000000
namespace Go.Proofs.YtaaagmgglolibaaGreat
open Go Go.RowKit
theorem Zf8 {ss : List Ht} {k : Nat} (hk : k < ss.length) : ss.take (k + 1) = ss.take k ++ [Zf ss k] := by
 rw [List.take_add_one]; congr 1; simp [Zf, List.getD, hk]
theorem Zca.grown {w w' : World} {b : Nat} {hs : List Ht} {r : Option Nat} (h : Zca w b 0 hs) (hb : b < w.heap.size) (hg : w.grownBy w' r) (hr : some b ≠ r) : Zca w' b 0 hs := fun i hi =>
 ⟨(World.cell?_of_block (w := w) (a := ⟨b, 0 + i * 2, none⟩) (hg.block b hb hr)).trans (h i hi).1, (World.cell?_of_block (w := w) (a := ⟨b, 0 + i * 2 + 1, none⟩) (hg.block b hb hr)).trans (h i hi).2⟩
theorem Zy.snoc {base : Nat} {w' : World} {gg cc : Nat} {hs : List Ht} {x : Ht} (h : w'.ownsRow base 66 2 (.slice (some ⟨gg, 0, none⟩) (hs.length + 1) cc) (hs.length + 1) (Zi hs ++ [.int .i64 x.1, .int .i64 x.2])) : Zy base w' gg cc (hs ++ [x]) :=
 Zy.of h (by simp) (by rw [Z7]; rfl)
theorem Zcx {w : World} {n : Nat} {x : Int} (hb : w.heap[n]? = some (.cells #[.int .i64 x] 2 (0, 0))) : Zai w 1 (some ⟨n, 0, none⟩) 1 [.int .i64 x] :=
 ⟨rfl, by simp [Value.oneCell'], Or.inr ⟨_, rfl, World.news_of_block (cs := #[.int .i64 x]) hb⟩⟩
theorem Row.snoc {base : Nat} {w' : World} {gg cc : Nat} {xs : List Int} {x : Int} (h : w'.ownsRow base 2 1 (.slice (some ⟨gg, 0, none⟩) (xs.length + 1) cc) (xs.length + 1) (xs.map (Value.int .i64) ++ [.int .i64 x])) : Row base w' gg cc (xs ++ [x]) := by
 unfold Row; rw [List.length_append, List.length_singleton, List.map_append]; exact h
theorem Row.keptBy {base : Nat} {w w' : World} {g c : Nat} {r : Option Nat} {xs : List Int} (h : Row base w g c xs) (hg : w.grownBy w' r) (hr : some g ≠ r) : Row base w' g c xs :=
 World.ownsRow.kept h hg (Or.inr hr)
theorem Row.start (w : World) (base : Nat) (hb : base <= w.heap.size) : Row base (w.alloc (.cells #[] 2)) w.heap.size 0 [] := World.ownsRow_lit w #[] 0 hb (Nat.zero_le _) rfl
theorem ZiW (l : List Ht) (k : Nat) (x : Ht) : ((Zi l).set (k * 2) (.int .i64 x.1)).set (k * 2 + 1) (.int .i64 x.2) = Zi (l.set k x) := by
 induction l generalizing k with
 | nil => simp [Zi]
 | cons d ds ih =>
   cases k with
   | zero => rfl
   | succ k =>
     rw [show (k + 1) * 2 = k * 2 + 1 + 1 by omega]
     simp only [Zi, List.set_cons_succ, ih]
theorem ZiX (n : Nat) : Zi (List.replicate n (0, 0)) = List.replicate (n * 2) (.int .i64 0) := by
 induction n with
 | zero => rfl
 | succ n ih => rw [show (n + 1) * 2 = n * 2 + 1 + 1 by omega]; simp [List.replicate_succ, Zi, ih]
theorem Zy.store {base : Nat} {w : World} {g c : Nat} {l : List Ht} (h : Zy base w g c l) (k : Nat) (x : Ht) :
 Zy base ((w.setCell ⟨g, k * 2, none⟩ (.int .i64 x.1)).setCell ⟨g, k * 2 + 1, none⟩ (.int .i64 x.2)) g c (l.set k x) := by
 have h1 := (World.ownsRow.stored h (k * 2) (.int .i64 x.1)).1
 have h2 := (World.ownsRow.stored h1 (k * 2 + 1) (.int .i64 x.2)).1
 rw [ZiW] at h2
 unfold Zy
 rw [List.length_set]
 exact h2
def Zct (hs : List Ht) (k : Nat) : List Ht := hs.take k ++ List.replicate (hs.length - k) (0, 0)
theorem Zgy (hs : List Ht) (k : Nat) (h : k <= hs.length) : (Zct hs k).length = hs.length := by simp [Zct]; omega
theorem Ziz (hs : List Ht) : Zct hs 0 = List.replicate hs.length (0, 0) := by simp [Zct]
theorem Zj6 (hs : List Ht) : Zct hs hs.length = hs := by simp [Zct]
theorem Zj5 (hs : List Ht) (k : Nat) (h : k < hs.length) : (Zct hs k).set k (Zf hs k) = Zct hs (k + 1) := by
 unfold Zct
 rw [List.set_append_right _ _ (by simp; omega), Zf8 h, show (hs.take k).length = k by simp; omega, Nat.sub_self]
 rw [show hs.length - k = (hs.length - (k + 1)) + 1 by omega, List.replicate_succ, List.set_cons_zero]
 simp
theorem Zl5 (n : Nat) : (madeCells #[.int .i64 0, .int .i64 0] (n * 2)).toList = Zi (List.replicate n (0, 0)) := by
 rw [ZiX]
 apply List.ext_getElem
 · simp [size_madeCells]
 · intro i h1 h2
   have hm : i % 2 = 0 \/ i % 2 = 1 := by omega
   rcases hm with h | h <;> simp [madeCells, h]
theorem Zy.made (w : World) (n : Nat) (hn : n <= maxLen) : Zy w.heap.size (w.alloc (.cells (madeCells #[.int .i64 0, .int .i64 0] (n * 2)) 66)) w.heap.size n (List.replicate n (0, 0)) := by
 have h := World.ownsRow_lit (base := w.heap.size) (e := 66) (size := 2) w (madeCells #[.int .i64 0, .int .i64 0] (n * 2)) n (Nat.le_refl _) hn (size_madeCells _ _)
 rw [Zl5] at h
 exact Zy.of h (by simp) rfl
theorem Tryz.held66 : Tryz.prog.stoodInHeld 66 = false := by kernel_rfl
theorem Tryz.guard66 : Tryz.prog.eqGuardType Tryz.prog.depth 66 = false := by kernel_rfl
theorem Tryz.fields66 : Tryz.prog.underlying 66 = some (.struct (Tryz.prog.fieldsOf 66)) := by simp [Program.fieldsOf, Tryz.underlying66]
theorem ZmU (a b : Ht) (w : World) : (binOp .neq 66 (.agg #[.int .i64 a.1, .int .i64 a.2]) (.agg #[.int .i64 b.1, .int .i64 b.2])).run Tryz.prog w = .ok (.bool (!decide (a = b))) w := by
 rw [run_neq_struct, run_equalIn_agg _ _ _ _ _ Tryz.fields66 Tryz.held66]
 simp [Program.fieldsOf, Tryz.underlying66, Op.eqFields, go_sem]
 by_cases h1 : a.1 = b.1
 · by_cases h2 : a.2 = b.2
   · have e : a = b := Prod.ext h1 h2
     simp [e]
   · have e : ¬ a = b := fun e => h2 (by rw [e])
     simp [h1, h2, e]
 · have e : ¬ a = b := fun e => h1 (by rw [e])
   simp [h1, e]
theorem ZkD (ao ao' : Option Addr) (n n' cap cap' : Nat) (w : World) (h : n ≠ n') :
 Calls Tryz.prog 21 #[.slice ao n cap, .slice ao' n' cap'] w fun e w' => e = .returned (.bool false) /\ w' = w := by
 have hlb : ((n : Int) != (n' : Int)) = true := by simp; omega
 go_enter Tryz.func21, Tryz.ntmps21
 go_wp2
 go_ret
 exact ⟨rfl, rfl⟩
theorem ZiY (ao ao' : Option Addr) (cap cap' : Nat) (ms ns : List Ht) (w : World) (hv : Z6 w ao ms) (hv' : Z6 w ao' ns) (hn : ms.length <= 4194304) (hl : ms.length = ns.length) :
 Calls Tryz.prog 21 #[.slice ao ms.length cap, .slice ao' ns.length cap'] w fun e w' => e = .returned (.bool (decide (ms = ns))) /\ ∃ n, w' = w.drewN n := by
 have hlb : ((ms.length : Int) != (ns.length : Int)) = false := by simp [hl]
 have HL : Hid (ms.length = ns.length) := hl
 have hn' : ns.length <= 4194304 := by omega
 clear hl
 go_enter Tryz.func21, Tryz.ntmps21
 go_wp2
 go_loopw [5] (fun i wr => ∃ k : Nat, k <= ms.length /\ i = .int .i64 k /\ (∀ j, j < k -> Zf ms j = Zf ns j) /\ ∃ n, wr = w.drewN n) (fun i _ => ms.length - (intOf i).toNat)
 case atStart => exact ⟨0, Nat.zero_le _, rfl, fun j hj => by omega, 0, rfl⟩
 case round =>
  obtain ⟨k, hk, rfl, hall, hw⟩ := hrel
  have HA := Za hall
  have HW : Hid (∃ n, wr = w.drewN n) := hw
  clear hall hw
  by_cases hlt : k < ms.length
  · have hlt' : k < ns.length := by have := HL.out; omega
    have hvw : Z6 wr ao ms := by obtain ⟨n, rfl⟩ := HW.out; exact hv
    have hvw' : Z6 wr ao' ns := by obtain ⟨n, rfl⟩ := HW.out; exact hv'
    obtain ⟨b, off, rfl, hb, hs⟩ := hvw.seg (by omega)
    obtain ⟨b', off', rfl, hb', hs'⟩ := hvw'.seg (by omega)
    obtain ⟨hc0, hc1⟩ := hs k hlt
    obtain ⟨hd0, hd1⟩ := hs' k hlt'
    have hi0 : (0 : Int) <= (k : Int) := Int.natCast_nonneg _
    have hi1 : (k : Int) < (ms.length : Int) := by omega
    have hi2 : (k : Int) < (ns.length : Int) := by omega
    have hq := fun w => ZmU (Zf ms k) (Zf ns k) w
    have hgd := Tryz.guard66
    clear hs hs' hvw hvw'
    by_cases he : Zf ms k = Zf ns k
    · have HE := Za he
      have hdd : (!decide (Zf ms k = Zf ns k)) = false := by simp [he]
      rw [hdd] at hq
      clear he hdd
      go_wp2
      go_quiet (fail)
      go_wp2
      go_roundw
      case rel => exact ⟨k + 1, by omega, by go_num, fun j hj => by
       rcases Nat.lt_or_ge j k with h | h
       · exact HA.out j h
       · rw [show j = k by omega]; exact HE.out, by obtain ⟨n, hn⟩ := HW.out; exact ⟨n + nq, by rw [hn]; simp⟩⟩
      case measure => simp [intOf]; omega
    · have HE := Za he
      have hdd : (!decide (Zf ms k = Zf ns k)) = true := by simp [he]
      rw [hdd] at hq
      clear he hdd
      go_wp2
      go_quiet (fail)
      go_wp2
      go_ret
      exact ⟨Zb (Eq.symm (decide_eq_false (fun h => HE.out (by rw [h])))), by obtain ⟨n, hn⟩ := HW.out; exact ⟨n + nq, by rw [hn]; simp⟩⟩
  · go_wp2
    go_ret
    obtain rfl : k = ms.length := by omega
    exact ⟨Zb (Eq.symm (decide_eq_true (hs_eq HL.out HA.out))), HW.out⟩
theorem ZlN (ao ao' : Option Addr) (cap cap' : Nat) (ms ns : List Ht) (w : World) (hv : Z6 w ao ms) (hv' : Z6 w ao' ns) (hn : ms.length <= 4194304) :
 Calls Tryz.prog 21 #[.slice ao ms.length cap, .slice ao' ns.length cap'] w fun e w' => e = .returned (.bool (decide (ms = ns))) /\ ∃ n, w' = w.drewN n := by
 by_cases hl : ms.length = ns.length
 · exact ZiY ao ao' cap cap' ms ns w hv hv' hn hl
 · refine (ZkD ao ao' ms.length ns.length cap cap' w hl).mono ?_
   rintro e w' ⟨rfl, rfl⟩
   exact ⟨Zb (Eq.symm (decide_eq_false (fun h => hl (by rw [h])))), 0, rfl⟩
def Zbc (ms : List Mk) (q : List Int) (x : Ht) : Nat -> Bool
 | 0 => false
 | k + 1 => Zbc ms q x k || (decide (mid ms k = x.1) && decide (ZN (mat ms k) q = x.2))
theorem ZkE {ms : List Mk} {q : List Int} {x : Ht} {n k : Nat} (hn : n < k) (h1 : mid ms n = x.1) (h2 : ZN (mat ms n) q = x.2) : Zbc ms q x k = true := by
 induction k with
 | zero => omega
 | succ k ih =>
   unfold Zbc
   rcases Nat.lt_or_ge n k with h | h
   · rw [ih h]; rfl
   · rw [show n = k by omega] at h1 h2; simp [h1, h2]
theorem ZiZ {ms : List Mk} {q : List Int} {x : Ht} {k : Nat} (h : Zbc ms q x k = true) : Zbc ms q x (k + 1) = true := by simp [Zbc, h]
theorem ZkF {ms : List Mk} {q : List Int} {x : Ht} {k : Nat} (h : Zbc ms q x k = false) (h1 : ¬ mid ms k = x.1) : Zbc ms q x (k + 1) = false := by simp [Zbc, h, h1]
theorem Zi0 {ms : List Mk} {q : List Int} {x : Ht} {k : Nat} (h : Zbc ms q x k = false) (h1 : mid ms k = x.1) : Zbc ms q x (k + 1) = decide (ZN (mat ms k) q = x.2) := by simp [Zbc, h, h1]
theorem ZlO (ah am aq : Option Addr) (ch cm cq : Nat) (hs : List Ht) (ms : List Mk) (q : List Int) (w : World) (hv : Z6 w ah hs) (hm : Zw w am ms) (hq : Zp w aq q) (hn : hs.length <= 1048576) (hsm : ZP ms) (hql : q.length <= 1048576)
 (htrue : ∀ i, i < hs.length -> ∃ n, n < ms.length /\ mid ms n = (Zf hs i).1 /\ ZN (mat ms n) q = (Zf hs i).2) :
 Calls Tryz.prog 26 #[.slice ah hs.length ch, .slice am ms.length cm, .slice aq q.length cq] w fun e w' => e = .returned (.bool true) /\ ∃ n, w' = w.drewN n := by
 obtain ⟨hn2, hat⟩ := hsm
 have HT := Za htrue
 clear htrue
 go_enter Tryz.func26, Tryz.ntmps26
 go_wp2_with fail
 go_loopw [7] (fun i wr => ∃ k : Nat, k <= hs.length /\ i = .int .i64 k /\ ∃ n, wr = w.drewN n) (fun i _ => hs.length - (intOf i).toNat)
 case atStart => exact ⟨0, Nat.zero_le _, rfl, 0, rfl⟩
 case round =>
  obtain ⟨i, hi, rfl, hw⟩ := hrel
  have HW : Hid (∃ n, wr = w.drewN n) := hw
  clear hw
  by_cases hlt : i < hs.length
  · have HALL : Hid (Zbc ms q (Zf hs i) ms.length = true) := by
     obtain ⟨n, h1, h2, h3⟩ := HT.out i hlt
     exact ZkE h1 h2 h3
    obtain ⟨b, off, rfl, hb, hseg⟩ := hv.seg (by omega)
    go_wp2_with fail
    go_loopw [8, 9] (fun o j wr => ∃ k : Nat, k <= ms.length /\ j = .int .i64 k /\ o = .bool (Zbc ms q (Zf hs i) k) /\ ∃ n, wr = w.drewN n) (fun _ j _ => ms.length - (intOf j).toNat)
    case atStart => exact ⟨0, Nat.zero_le _, rfl, rfl, HW.out⟩
    case round =>
     clear HW
     obtain ⟨k, hk, rfl, rfl, hw⟩ := hrel
     have HW : Hid (∃ n, wr = w.drewN n) := hw
     clear hw
     by_cases hlt2 : k < ms.length
     · have hmw : Zw wr am ms := by obtain ⟨n, rfl⟩ := HW.out; exact hm
       have hsw : Zca wr b off hs := by obtain ⟨n, rfl⟩ := HW.out; exact hseg
       have hqw : Zp wr aq q := by obtain ⟨n, rfl⟩ := HW.out; exact hq
       obtain ⟨bm, offm, rfl, hbm, hmseg⟩ := ZaW.seg hmw (by omega)
       obtain ⟨hc0, ae, ce, hc1, hve⟩ := hmseg.at hlt2
       obtain ⟨hd0, hd1⟩ := hsw i hlt
       have hi0 : (0 : Int) <= (i : Int) := Int.natCast_nonneg _
       have hi1 : (i : Int) < (hs.length : Int) := by omega
       have hj0 : (0 : Int) <= (k : Int) := Int.natCast_nonneg _
       have hj1 : (k : Int) < (ms.length : Int) := by omega
       have hnk := hat k
       have HE := Za hve
       have HQ := Za hqw
       clear hmw hsw hqw hmseg hve
       rcases hb0 : Zbc ms q (Zf hs i) k with _ | _
       · by_cases he : mid ms k = (Zf hs i).1
         · have hbe : (mid ms k == (Zf hs i).1) = true := by simp [he]
           have HNX := Za (Zi0 hb0 he)
           clear he
           by_cases hf : ZN (mat ms k) q = (Zf hs i).2
           · have hbf : (ZN (mat ms k) q == (Zf hs i).2) = true := by simp [hf]
             have HD := Za (decide_eq_true hf)
             clear hf
             go_wp2_with fail
             go_quiet ((go_at_call 122; exact Calls.quiet_of (Zgg ae aq ce cq (mat ms k) q _ (HE.out.drewN _) (HQ.out.drewN _) hnk hql)))
             go_wp2_with fail
             go_roundw
             case rel => exact ⟨k + 1, by omega, by go_num, by rw [HNX.out, HD.out], by obtain ⟨n, hn⟩ := HW.out; exact ⟨n + nq, by rw [hn]; simp⟩⟩
             case measure => simp [intOf]; omega
           · have hbf : (ZN (mat ms k) q == (Zf hs i).2) = false := by simp [hf]
             have HD := Za (decide_eq_false hf)
             clear hf
             go_wp2_with fail
             go_quiet ((go_at_call 122; exact Calls.quiet_of (Zgg ae aq ce cq (mat ms k) q _ (HE.out.drewN _) (HQ.out.drewN _) hnk hql)))
             go_wp2_with fail
             go_roundw
             case rel => exact ⟨k + 1, by omega, by go_num, by rw [HNX.out, HD.out], by obtain ⟨n, hn⟩ := HW.out; exact ⟨n + nq, by rw [hn]; simp⟩⟩
             case measure => simp [intOf]; omega
         · have hbe : (mid ms k == (Zf hs i).1) = false := by simp [he]
           have HNX := Za (ZkF hb0 he)
           clear he
           go_wp2_with fail
           go_quiet ((go_at_call 122; exact Calls.quiet_of (Zgg ae aq ce cq (mat ms k) q _ (HE.out.drewN _) (HQ.out.drewN _) hnk hql)))
           go_wp2_with fail
           go_roundw
           case rel => exact ⟨k + 1, by omega, by go_num, by rw [HNX.out], by obtain ⟨n, hn⟩ := HW.out; exact ⟨n + nq, by rw [hn]; simp⟩⟩
           case measure => simp [intOf]; omega
       · have HNX := Za (ZiZ hb0)
         go_wp2_with fail
         go_quiet ((go_at_call 122; exact Calls.quiet_of (Zgg ae aq ce cq (mat ms k) q _ (HE.out.drewN _) (HQ.out.drewN _) hnk hql)))
         go_wp2_with fail
         go_roundw
         case rel => exact ⟨k + 1, by omega, by go_num, by rw [HNX.out], by obtain ⟨n, hn⟩ := HW.out; exact ⟨n + nq, by rw [hn]; simp⟩⟩
         case measure => simp [intOf]; omega
     · obtain rfl : k = ms.length := by omega
       rw [HALL.out]
       go_wp2_with fail
       go_roundw
       case rel => exact ⟨i + 1, by omega, by go_num, HW.out⟩
       case measure => simp [intOf]; omega
  · go_wp2_with fail
    go_ret
    exact ⟨rfl, HW.out⟩
end Go.Proofs.YtaaagmgglolibaaGreat
