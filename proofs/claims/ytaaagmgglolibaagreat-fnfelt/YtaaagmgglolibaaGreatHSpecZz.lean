import Derived.Test.YtaaagmgglolibaaGreatHCellsZz
import Derived.Test.YtaaagmgglolibaaGreatMCopyZz
import Derived.Deep.RegionHeld3
import Derived.Laws.ByValue
import Derived.Test.YtaaagmgglolibaaGreatArgsZz
set_option maxRecDepth 100000
set_option maxHeartbeats 2000000
namespace Go.Proofs.YtaaagmgglolibaaGreat
open Go Go.RowKit
theorem Zho {a b : Ht} (h : a.2 < b.2) : Zu a b = true := by rw [Zae]; omega
theorem Zhp {a b : Ht} (h : a.2 = b.2) (h' : a.1 < b.1) : Zu a b = true := by rw [Zae]; omega
theorem ZfY {a b : Ht} (h : ¬ a.2 < b.2) (h' : ¬ a.2 = b.2) : Zu a b = false := by rw [ZF]; unfold leH; omega
theorem Zhq {a b : Ht} (h : a.2 = b.2) (h' : ¬ a.1 < b.1) : Zu a b = false := by rw [ZF]; unfold leH; omega
theorem Zgk (a b : Ht) (w : World) :
 Calls Tryz.prog 252 #[.agg #[.int .i64 a.1, .int .i64 a.2], .agg #[.int .i64 b.1, .int .i64 b.2]] w fun e w' => e = .returned (.bool (Zu a b)) /\ Below w.heap.size w w' := by
 have L0 : Below w.heap.size w ((w.alloc (.cells #[.int .i64 a.1, .int .i64 a.2] 66)).alloc (.cells #[.int .i64 b.1, .int .i64 b.2] 66)) :=
  ((Below.refl _ _).alloc (Nat.le_refl _) _).alloc (by simp) _
 by_cases h1 : a.2 < b.2
 · have HV := Za (Zho h1)
   go_enter Tryz.func252, Tryz.ntmps252
   go_wp2_with fail
   go_ret
   exact ⟨Zb HV.out.symm, L0⟩
 · by_cases h2 : a.2 = b.2
   · have h2b : (a.2 == b.2) = true := by simp [h2]
     by_cases h3 : a.1 < b.1
     · have HV := Za (Zhp h2 h3)
       clear h2
       go_enter Tryz.func252, Tryz.ntmps252
       go_wp2_with fail
       go_ret
       exact ⟨Zb HV.out.symm, L0⟩
     · have HV := Za (Zhq h2 h3)
       clear h2
       go_enter Tryz.func252, Tryz.ntmps252
       go_wp2_with fail
       go_ret
       exact ⟨Zb HV.out.symm, L0⟩
   · have h2b : (a.2 == b.2) = false := by simp [h2]
     have HV := Za (ZfY h1 h2)
     clear h2
     go_enter Tryz.func252, Tryz.ntmps252
     go_wp2_with fail
     go_ret
     exact ⟨Zb HV.out.symm, L0⟩
theorem sMin (x y : Int) (w : World) :
 Calls Tryz.prog 127 #[.int .i64 x, .int .i64 y] w fun e w' => e = .returned (.int .i64 (min x y)) /\ w' = w := by
 by_cases h : x < y
 · have HV : Hid (min x y = x) := by show min x y = x; omega
   go_enter Tryz.func127, Tryz.ntmps127
   go_wp2
   go_ret
   exact ⟨ZV HV.out.symm, rfl⟩
 · have HV : Hid (min x y = y) := by show min x y = y; omega
   go_enter Tryz.func127, Tryz.ntmps127
   go_wp2
   go_ret
   exact ⟨ZV HV.out.symm, rfl⟩
theorem ZdZ {xs : List Int} {k : Nat} {x : Int} (hk : k < xs.length) (h : nth xs k = x) : ZY xs x = true := by
 simp only [ZY, List.contains_iff_mem]
 have e : nth xs k = xs[k] := by simp [nth, List.getD, hk]
 rw [<- h, e]
 exact List.getElem_mem hk
theorem Zds {xs : List Int} {x : Int} (h : ∀ j, j < xs.length -> nth xs j ≠ x) : ZY xs x = false := by
 rcases hb : ZY xs x with _ | _
 · rfl
 · simp only [ZY, List.contains_iff_mem] at hb
   obtain ⟨i, hi, e⟩ := List.getElem_of_mem hb
   exact absurd (by rw [<- e]; simp [nth, List.getD, hi]) (h i hi)
theorem sHas (ao : Option Addr) (cap : Nat) (xs : List Int) (x : Int) (w : World) (hv : Zp w ao xs) (hn : xs.length <= 4194304) :
 Calls Tryz.prog 203 #[.slice ao xs.length cap, .int .i64 x] w fun e w' => e = .returned (.bool (ZY xs x)) /\ w' = w := by
 go_enter Tryz.func203, Tryz.ntmps203
 go_wp2
 go_loop [5] (fun i => ∃ k : Nat, k <= xs.length /\ i = .int .i64 k /\ ∀ j, j < k -> nth xs j ≠ x) (fun i => xs.length - (intOf i).toNat)
 case atStart => exact ⟨0, Nat.zero_le _, rfl, fun j hj => by omega⟩
 case round =>
  obtain ⟨k, hk, rfl, hall⟩ := hrel
  have HA := Za hall
  clear hall
  by_cases hlt : k < xs.length
  · obtain ⟨b, off, rfl, hb, hs⟩ : ∃ b off, ao = some ⟨b, off, none⟩ /\ b < w.heap.size /\ Seg w b off xs := by
     rcases hv with h | h
     · subst h; simp at hlt
     · exact h
    have hc := hs k hlt
    by_cases he : nth xs k = x
    · have HV := Za (ZdZ hlt he)
      have heb : (nth xs k == x) = true := by simp [he]
      clear he
      go_wp2
      go_ret
      exact ⟨Zb HV.out.symm, rfl⟩
    · have heb : (nth xs k == x) = false := by simp [he]
      have HE := Za he
      clear he
      go_wp2
      go_round
      case rel => exact ⟨k + 1, by omega, by go_num, fun j hj => by
       rcases Nat.lt_or_ge j k with h | h
       · exact HA.out j h
       · rw [show j = k by omega]; exact HE.out⟩
      case measure => simp [intOf]; omega
  · go_wp2
    go_ret
    obtain rfl : k = xs.length := by omega
    exact ⟨Zb (Eq.symm (Zds HA.out)), rfl⟩
theorem Zet (hs : List Ht) (i : Nat) : ZbC hs i = true ↔ 1 <= (Zf hs i).1 /\ 0 <= (Zf hs i).2 /\ (i = 0 \/ Zu (Zf hs (i - 1)) (Zf hs i) = true) := by
 simp [ZbC, and_assoc]
theorem ZfE (hs : List Ht) (i : Nat) (h : ¬ (1 <= (Zf hs i).1 /\ 0 <= (Zf hs i).2 /\ (i = 0 \/ Zu (Zf hs (i - 1)) (Zf hs i) = true))) : ZbC hs i = false := by
 rcases hb : ZbC hs i with _ | _
 · rfl
 · exact absurd ((Zet hs i).1 hb) h
def Zbe (P : Program) (t : TypeId) (name : String) : Option (Bool × Option (FuncId × Bool)) := ((P.info? t).bind fun i => i.methods.find? (·.name == name)).map fun m => (m.path.isEmpty, m.func)
theorem Zfc : Zbe Tryz.prog 239 "Less" = some (true, some (348, false)) := by kernel_rfl
theorem ZdX : Zbe Tryz.prog 239 "Swap" = some (true, some (350, false)) := by kernel_rfl
theorem Zjj : Zbe Tryz.prog 239 "Len" = some (true, some (256, false)) := by kernel_rfl
theorem Zms : Zbe Tryz.prog 239 "Pop" = some (true, some (349, true)) := by kernel_rfl
theorem Zff {t : TypeId} {name : String} {f : FuncId} {b : Bool} (h : Zbe Tryz.prog t name = some (true, some (f, b))) : ∃ i m, Tryz.prog.info? t = some i /\ i.methods.find? (·.name == name) = some m /\ m.path.toList = [] /\ m.func = some (f, b) := by
 unfold Zbe at h
 cases hi : Tryz.prog.info? t with
 | none => rw [hi] at h; cases h
 | some i =>
   rw [hi] at h
   cases hm : i.methods.find? (·.name == name) with
   | none => simp [hm] at h
   | some m =>
     simp [hm] at h
     exact ⟨i, m, rfl, hm, by simpa using h.1, h.2⟩
theorem Zlr (P : Program) (t : TypeId) (a : Addr) (s nm : String) (w : World) : Sem.run P (Builtin.ssaWrapNilChk_ #[t] t #[.pointer (some a), strVal s, strVal nm]) w = .ok (.pointer (some a)) w := rfl
theorem ZfZ : Tryz.prog.types.size + 100 = 465 := by kernel_rfl
theorem ZaL {name : String} {f : FuncId} (h : Zbe Tryz.prog 239 name = some (true, some (f, false))) (p : Nat) (ao : Option Addr) (n c : Nat) (w : World) (hc : w.cell? ⟨p, 0, none⟩ = some (.slice ao n c)) :
 Sem.run Tryz.prog (method 465 239 (.pointer (some ⟨p, 0, none⟩)) name) w = .ok (f, .slice ao n c) w := by
 obtain ⟨i, m, h1, h2, h3, h4⟩ := Zff h
 have ht : (typeInfo 239).run Tryz.prog w = .ok i w := by simp [typeInfo, h1]
 have hf : (follow [] 239 (.val (.pointer (some ⟨p, 0, none⟩)))).run Tryz.prog w = .ok (239, .val (.pointer (some ⟨p, 0, none⟩))) w := by simp [follow]
 have hr : ∀ nm, (receiverAt 239 (.val (.pointer (some ⟨p, 0, none⟩))) false nm).run Tryz.prog w = .ok (.slice ao n c) w := fun nm => by
  unfold receiverAt
  cases nm with
  | none => simp [go_sem, Place.get, hc]
  | some nm => simp [go_sem, Place.get, hc, Zlr]
 rw [<- ZfZ]
 unfold method
 simp only [Sem.run_bind, ht, Result.andThen_ok, h2, h3, hf, h4, hr, Sem.run_pure]
theorem Zit {name : String} {f : FuncId} (h : Zbe Tryz.prog 239 name = some (true, some (f, true))) (p : Nat) (w : World) :
 Sem.run Tryz.prog (method 465 239 (.pointer (some ⟨p, 0, none⟩)) name) w = .ok (f, .pointer (some ⟨p, 0, none⟩)) w := by
 obtain ⟨i, m, h1, h2, h3, h4⟩ := Zff h
 have ht : (typeInfo 239).run Tryz.prog w = .ok i w := by simp [typeInfo, h1]
 have hf : (follow [] 239 (.val (.pointer (some ⟨p, 0, none⟩)))).run Tryz.prog w = .ok (239, .val (.pointer (some ⟨p, 0, none⟩))) w := by simp [follow]
 have hr : ∀ nm, (receiverAt 239 (.val (.pointer (some ⟨p, 0, none⟩))) true nm).run Tryz.prog w = .ok (.pointer (some ⟨p, 0, none⟩)) w := fun nm => by
  unfold receiverAt
  simp [go_sem, Place.get]
 rw [<- ZfZ]
 unfold method
 simp only [Sem.run_bind, ht, Result.andThen_ok, h2, h3, hf, h4, hr, Sem.run_pure]
theorem Zii (a b : Ht) (w : World) :
 Calls Tryz.prog 121 #[.agg #[.int .i64 a.1, .int .i64 a.2], .agg #[.int .i64 b.1, .int .i64 b.2]] w fun e w' => e = .returned (.bool (Zu a b)) /\ Below w.heap.size w w' := by
 have L0 : Below w.heap.size w ((w.alloc (.cells #[.int .i64 a.1, .int .i64 a.2] 66)).alloc (.cells #[.int .i64 b.1, .int .i64 b.2] 66)) :=
  ((Below.refl _ _).alloc (Nat.le_refl _) _).alloc (by simp) _
 by_cases h1 : a.2 < b.2
 · have HV := Za (Zho h1)
   go_enter Tryz.func121, Tryz.ntmps121
   go_wp2_with fail
   go_ret
   exact ⟨Zb HV.out.symm, L0⟩
 · by_cases h2 : a.2 = b.2
   · have h2b : (a.2 == b.2) = true := by simp [h2]
     by_cases h3 : a.1 < b.1
     · have HV := Za (Zhp h2 h3)
       clear h2
       go_enter Tryz.func121, Tryz.ntmps121
       go_wp2_with fail
       go_ret
       exact ⟨Zb HV.out.symm, L0⟩
     · have HV := Za (Zhq h2 h3)
       clear h2
       go_enter Tryz.func121, Tryz.ntmps121
       go_wp2_with fail
       go_ret
       exact ⟨Zb HV.out.symm, L0⟩
   · have h2b : (a.2 == b.2) = false := by simp [h2]
     have HV := Za (ZfY h1 h2)
     clear h2
     go_enter Tryz.func121, Tryz.ntmps121
     go_wp2_with fail
     go_ret
     exact ⟨Zb HV.out.symm, L0⟩
theorem Zji (b off n c i j : Nat) (l : List Ht) (w : World) (hb : b < w.heap.size) (hs : Zca w b off l) (hn : n <= l.length) (hi : i < n) (hj : j < n) :
 Calls Tryz.prog 348 #[.slice (some ⟨b, off, none⟩) n c, .int .i64 i, .int .i64 j] w fun e w' => e = .returned (.bool (Zu (Zf l i) (Zf l j))) /\ Below w.heap.size w w' := by
 obtain ⟨hc0, hc1⟩ := hs i (by omega)
 obtain ⟨hd0, hd1⟩ := hs j (by omega)
 have hgi0 : (0 : Int) <= (i : Int) := by omega
 have hgi : (i : Int) < (n : Int) := by omega
 have hgj0 : (0 : Int) <= (j : Int) := by omega
 have hgj : (j : Int) < (n : Int) := by omega
 have HC := Za (Zii (Zf l i) (Zf l j) w.drew)
 clear hs
 go_enter Tryz.func348, Tryz.ntmps348
 go_wp2
 go_region_held3 (fun w' => w'.cell? ⟨b, off + i * 2, none⟩ = some (.int .i64 (Zf l i).1) /\ w'.cell? ⟨b, off + i * 2 + 1, none⟩ = some (.int .i64 (Zf l i).2) /\ w'.cell? ⟨b, off + j * 2, none⟩ = some (.int .i64 (Zf l j).1) /\ w'.cell? ⟨b, off + j * 2 + 1, none⟩ = some (.int .i64 (Zf l j).2))
  (first
    | go_keep
    | (refine ⟨(L3.cell (p := ⟨b, off + i * 2, none⟩) hb).trans hc0, (L3.cell (p := ⟨b, off + i * 2 + 1, none⟩) hb).trans hc1, (L3.cell (p := ⟨b, off + j * 2, none⟩) hb).trans hd0, (L3.cell (p := ⟨b, off + j * 2 + 1, none⟩) hb).trans hd1⟩))
  (first
    | (go_at_call 121; refine HC.out.mono ?_; rintro e w2 ⟨rfl, L3⟩))
 go_wp2
 go_ret
 exact ⟨rfl, ⟨L3.os, L3.tape, L3.output, L3.size, L3.block⟩⟩
theorem Zka (ao : Option Addr) (cap : Nat) (hs : List Ht) (w : World) (hv : Z6 w ao hs) (hn : hs.length <= 1048576) :
 Calls Tryz.prog 25 #[.slice ao hs.length cap] w fun e w' => e = .returned (.bool (Zdo hs)) /\ Below w.heap.size w w' := by
 go_enter Tryz.func25, Tryz.ntmps25
 go_wp2
 go_loopw [7] (fun i wr => ∃ k : Nat, k <= hs.length /\ i = .int .i64 k /\ (∀ j, j < k -> ZbC hs j = true) /\ Below w.heap.size w wr) (fun i _ => hs.length - (intOf i).toNat)
 case atStart => exact ⟨0, Nat.zero_le _, rfl, fun j hj => by omega, Below.refl _ _⟩
 case round =>
  obtain ⟨k, hk, rfl, hall, L⟩ := hrel
  have HA := Za hall
  clear hall
  by_cases hlt : k < hs.length
  · obtain ⟨b, off, rfl, hb, hseg⟩ := hv.seg (by omega)
    have hsw := hseg.below hb L
    obtain ⟨hc0, hc1⟩ := hsw k hlt
    have hi0 : (0 : Int) <= (k : Int) := Int.natCast_nonneg _
    have hi1 : (k : Int) < (hs.length : Int) := by omega
    have HO := Za (ZfE hs k)
    have HO1 := Za (Zet hs k).2
    have hz := L.size
    have hbw : b < wr.heap.size := by omega
    have hB := (Below.refl wr.heap.size wr).alloc (Nat.le_refl _) (.cells #[.int .i64 (Zf hs k).1, .int .i64 (Zf hs k).2] 66)
    have HLL := Za (L.trans (hB.mono hz))
    have HSW := Za (hsw.below hbw hB)
    clear L hsw hB
    by_cases h1 : (Zf hs k).1 < 1
    · go_wp2
      go_ret
      exact ⟨Zb (Zef hlt (HO.out (fun h => by omega))).symm, HLL.out⟩
    · by_cases h2 : (Zf hs k).2 < 0
      · go_wp2
        go_ret
        exact ⟨Zb (Zef hlt (HO.out (fun h => by omega))).symm, HLL.out⟩
      · rcases Nat.eq_zero_or_pos k with h0 | h0
        · subst h0
          have hg : decide ((0 : Int) < 0) = false := by decide
          simp only [Nat.zero_mul, Nat.add_zero] at hc0 hc1
          have hne : hs ≠ [] := by intro h; subst h; simp at hlt
          go_wp2
          go_quiet (fail)
          go_wp2
          go_roundw
          case rel => exact ⟨1, by omega, by go_num, fun j hj => by
           rw [show j = 0 by omega]; exact HO1.out ⟨by omega, by omega, Or.inl (by trivial)⟩, below_drewN HLL.out _⟩
          case measure => simp [intOf]; omega
        · obtain ⟨j, rfl⟩ : ∃ j, k = j + 1 := ⟨k - 1, by omega⟩
          obtain ⟨hd0, hd1⟩ := HSW.out j (by omega)
          have hj0 : (0 : Int) <= (j : Int) := Int.natCast_nonneg _
          have hj1 : (j : Int) < (hs.length : Int) := by omega
          have hwr : IntKind.i64.wrap (((j + 1 : Nat) : Int) - 1) = j := by rw [IntWalk.i64_in _ ⟨by omega, by omega⟩]; omega
          have hwr2 : IntKind.i64.wrap ((j : Int) + 1 - 1) = j := by rw [IntWalk.i64_in _ ⟨by omega, by omega⟩]; omega
          have hwr3 : IntKind.i64.wrap (j : Int) = j := IntWalk.i64_in _ ⟨by omega, by omega⟩
          have hgd : (0 : Int) < ((j + 1 : Nat) : Int) := by omega
          have hgd2 : (0 : Int) < (j : Int) + 1 := by omega
          have hgd3 : (0 : Int) <= (j : Int) + 1 := by omega
          have hgd4 : (j : Int) + 1 < (hs.length : Int) := by omega
          obtain ⟨W, hW⟩ : ∃ W, W = wr.alloc (.cells #[.int .i64 (Zf hs (j + 1)).1, .int .i64 (Zf hs (j + 1)).2] 66) := ⟨_, rfl⟩
          have hk0 : (wr.alloc (.cells #[.int .i64 (Zf hs (j + 1)).1, .int .i64 (Zf hs (j + 1)).2] 66)).cell? ⟨wr.heap.size, 0, none⟩ = some (.int .i64 (Zf hs (j + 1)).1) := by simp
          have hk1 : (wr.alloc (.cells #[.int .i64 (Zf hs (j + 1)).1, .int .i64 (Zf hs (j + 1)).2] 66)).cell? ⟨wr.heap.size, 1, none⟩ = some (.int .i64 (Zf hs (j + 1)).2) := by simp
          have hwl : wr.heap.size < W.heap.size /\ b < W.heap.size := by rw [hW]; simp; omega
          have HC := Za (Zii (Zf hs j) (Zf hs (j + 1)) W.drew)
          clear HSW
          go_wp2
          rw [<- hW] at hk0 hk1 hd0 hd1 HLL ⊢
          clear hW
          go_region_held3 (fun w' => w'.cell? ⟨wr.heap.size, 0, none⟩ = some (.int .i64 (Zf hs (j + 1)).1) /\ w'.cell? ⟨wr.heap.size, 1, none⟩ = some (.int .i64 (Zf hs (j + 1)).2) /\ w'.cell? ⟨b, off + j * 2, none⟩ = some (.int .i64 (Zf hs j).1) /\ w'.cell? ⟨b, off + j * 2 + 1, none⟩ = some (.int .i64 (Zf hs j).2))
           (first
             | go_keep
             | (refine ⟨(L3.cell (p := ⟨wr.heap.size, 0, none⟩) hwl.1).trans hk0, (L3.cell (p := ⟨wr.heap.size, 1, none⟩) hwl.1).trans hk1, (L3.cell (p := ⟨b, off + j * 2, none⟩) hwl.2).trans hd0, (L3.cell (p := ⟨b, off + j * 2 + 1, none⟩) hwl.2).trans hd1⟩))
           (first
             | (go_at_call 121; refine HC.out.mono ?_; rintro e w2 ⟨rfl, L3⟩))
          have LF := Za (HLL.out.drew.trans (L3.mono HLL.out.size))
          clear L3
          rcases hf : Zu (Zf hs j) (Zf hs (j + 1)) with _ | _
          · go_wp2
            go_ret
            exact ⟨Zb (Zef hlt (HO.out (fun h => by have := h.2.2; simp at this; rw [hf] at this; cases this))).symm, LF.out⟩
          · go_wp2
            go_roundw
            case rel => exact ⟨j + 1 + 1, by omega, by go_num, fun i hi => by
             rcases Nat.lt_or_ge i (j + 1) with h | h
             · exact HA.out i h
             · rw [show i = j + 1 by omega]; exact HO1.out ⟨by omega, by omega, Or.inr hf⟩, LF.out⟩
            case measure => simp [intOf]; omega
  · go_wp2
    go_ret
    obtain rfl : k = hs.length := by omega
    exact ⟨Zb (Eq.symm (Zhr HA.out)), L⟩
end Go.Proofs.YtaaagmgglolibaaGreat
