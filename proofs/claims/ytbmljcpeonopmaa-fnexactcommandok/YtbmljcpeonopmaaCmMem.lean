/-
  A command: in memory, and whether it is right (both CommandOk).
-/
import Derived.Test.YtbmljcpeonopmaaMOk3
import Derived.Test.YtbmljcpeonopmaaMSize
import Derived.Test.YtbmljcpeonopmaaMCopy
import Derived.Test.YtbmljcpeonopmaaArgs
namespace Go.Proofs.Ytbmljcpeonopmaa
open Go Go.RowKit

/-- The five cells of a command. -/
structure CmIn (w : World) (X : Nat) (ao : Option Addr) (cap : Nat) (cl sq kd id : Int) (p : List Int) : Prop where
  lt : X < w.heap.size
  c0 : w.cell? ⟨X, 0, none⟩ = some (.int .i64 cl)
  c1 : w.cell? ⟨X, 1, none⟩ = some (.int .i64 sq)
  c2 : w.cell? ⟨X, 2, none⟩ = some (.int .i64 kd)
  c3 : w.cell? ⟨X, 3, none⟩ = some (.int .i64 id)
  c4 : w.cell? ⟨X, 4, none⟩ = some (.slice ao p.length cap)
  pv : View w ao p
theorem CmIn.box {w : World} {ao : Option Addr} {cap : Nat} {cl sq kd id : Int} {p : List Int} {t : TypeId} (h : View w ao p) : CmIn (w.alloc (.cells #[.int .i64 cl, .int .i64 sq, .int .i64 kd, .int .i64 id, .slice ao p.length cap] t)) w.heap.size ao cap cl sq kd id p :=
  ⟨by simp, by simp, by simp, by simp, by simp, by simp, h.next ((Below.refl _ _).alloc (Nat.le_refl _) _)⟩
theorem CmIn.below {w w' : World} {X : Nat} {ao : Option Addr} {cap : Nat} {cl sq kd id : Int} {p : List Int} (h : CmIn w X ao cap cl sq kd id p) (L : Below w.heap.size w w') : CmIn w' X ao cap cl sq kd id p :=
  ⟨Nat.lt_of_lt_of_le h.lt L.size, (L.cell (p := ⟨X, 0, none⟩) h.lt).trans h.c0, (L.cell (p := ⟨X, 1, none⟩) h.lt).trans h.c1, (L.cell (p := ⟨X, 2, none⟩) h.lt).trans h.c2, (L.cell (p := ⟨X, 3, none⟩) h.lt).trans h.c3, (L.cell (p := ⟨X, 4, none⟩) h.lt).trans h.c4, h.pv.next L⟩
def cmB (cl sq kd id : Int) (p : List Int) : Bool := inR cl 0 7 && (inR sq 1 1000000 && (if (kd == 1) = true then (id == 0) && okB p else if (kd == 2) = true then inR id 1 1000000 && ((p.length : Int) == 0) else false))

set_option maxRecDepth 100000 in
set_option maxHeartbeats 1000000 in
theorem sCommandOk (ao : Option Addr) (cap : Nat) (cl sq kd id : Int) (p : List Int) (w : World) (hv : View w ao p) (hn : p.length ≤ 1048576) :
    Calls Try.prog 15 #[.agg #[.int .i64 cl, .int .i64 sq, .int .i64 kd, .int .i64 id, .slice ao p.length cap]] w fun e w' => e = .returned (.bool (cmB cl sq kd id p)) ∧ Below w.heap.size w w' := by
  obtain ⟨W, hW⟩ : ∃ W, w.alloc (.cells #[.int .i64 cl, .int .i64 sq, .int .i64 kd, .int .i64 id, .slice ao p.length cap] 46) = W := ⟨_, rfl⟩
  have hB : Below w.heap.size w W := by rw [← hW]; exact (Below.refl _ _).alloc (Nat.le_refl _) _
  have hI : CmIn W w.heap.size ao cap cl sq kd id p := by rw [← hW]; exact CmIn.box hv
  obtain ⟨b0, h0⟩ : ∃ b, inR cl 0 7 = b := ⟨_, rfl⟩
  obtain ⟨b1, h1⟩ : ∃ b, inR sq 1 1000000 = b := ⟨_, rfl⟩
  obtain ⟨b2, h2⟩ : ∃ b, inR id 1 1000000 = b := ⟨_, rfl⟩
  obtain ⟨b3, h3⟩ : ∃ b, okB p = b := ⟨_, rfl⟩
  obtain ⟨k1, hk1⟩ : ∃ b, (kd == 1) = b := ⟨_, rfl⟩
  obtain ⟨k2, hk2⟩ : ∃ b, (kd == 2) = b := ⟨_, rfl⟩
  obtain ⟨z, hz⟩ : ∃ b, (id == 0) = b := ⟨_, rfl⟩
  obtain ⟨l, hl⟩ : ∃ b, ((p.length : Int) == 0) = b := ⟨_, rfl⟩
  have HV : Hid (cmB cl sq kd id p = (b0 && (b1 && (if k1 = true then z && b3 else if k2 = true then b2 && l else false)))) := by show _ = _; rw [cmB, h0, h1, h2, h3, hk1, hk2, hz, hl]
  have H0 := hidP (fun W' => sIn cl 0 7 W')
  have H1 := hidP (fun W' => sIn sq 1 1000000 W')
  have H2 := hidP (fun W' => sIn id 1 1000000 W')
  have H3 := hidP (sOk ao cap p W hI.pv hn)
  rw [h0] at H0
  rw [h1] at H1
  rw [h2] at H2
  rw [h3] at H3
  have e0 := hI.c0
  have e1 := hI.c1
  have e2 := hI.c2
  have e3 := hI.c3
  have e4 := hI.c4
  have HB := hidP hB
  clear hB hI hv h0 h1 h2 h3
  go_enter Try.func15, Try.ntmps15
  go_wp2_with fail
  refine (H0.out _).mono ?_
  rintro e w1 ⟨rfl, hw1⟩
  have hw2 := hw1.symm
  subst hw2
  clear hW
  cases b0 with
  | false =>
    go_wp2_with fail
    go_ret
    exact ⟨ret_bool HV.out.symm, HB.out⟩
  | true =>
    go_wp2_with fail
    refine (H1.out _).mono ?_
    rintro e w1 ⟨rfl, hw1⟩
    subst hw1
    cases b1 with
    | false =>
      go_wp2_with fail
      go_ret
      exact ⟨ret_bool HV.out.symm, HB.out⟩
    | true =>
      cases k1 with
      | true =>
        cases z with
        | true =>
          go_wp2_with fail
          refine H3.out.mono ?_
          rintro e w1 ⟨rfl, hw1⟩
          subst hw1
          go_wp2_with fail
          go_ret
          exact ⟨ret_bool HV.out.symm, HB.out⟩
        | false =>
          go_wp2_with fail
          go_ret
          exact ⟨ret_bool HV.out.symm, HB.out⟩
      | false =>
        cases k2 with
        | false =>
          go_wp2_with fail
          go_ret
          exact ⟨ret_bool HV.out.symm, HB.out⟩
        | true =>
          go_wp2_with fail
          refine (H2.out _).mono ?_
          rintro e w1 ⟨rfl, hw1⟩
          subst hw1
          cases b2 with
          | false =>
            go_wp2_with fail
            go_ret
            exact ⟨ret_bool HV.out.symm, HB.out⟩
          | true =>
            go_wp2_with fail
            go_ret
            exact ⟨ret_bool HV.out.symm, HB.out⟩

/-- What a command wants, as the program has it. -/
def shV (ao : Option Addr) (cap : Nat) (kd id : Int) (p : List Int) : Value :=
  if ((kd == 1) && (id == 0)) = true then .iface 121 (.agg #[.slice ao p.length cap]) else if ((kd == 2) && ((p.length : Int) == 0)) = true then .iface 123 (.agg #[.int .i64 id]) else .iface 125 (.agg #[])

set_option maxRecDepth 100000 in
set_option maxHeartbeats 1000000 in
theorem iShapeOf (ao : Option Addr) (cap : Nat) (cl sq kd id : Int) (p : List Int) (w : World) (hv : View w ao p) :
    Calls Try.prog 50 #[.agg #[.int .i64 cl, .int .i64 sq, .int .i64 kd, .int .i64 id, .slice ao p.length cap]] w fun e w' => e = .returned (shV ao cap kd id p) ∧ Below w.heap.size w w' := by
  obtain ⟨W, hW⟩ : ∃ W, w.alloc (.cells #[.int .i64 cl, .int .i64 sq, .int .i64 kd, .int .i64 id, .slice ao p.length cap] 46) = W := ⟨_, rfl⟩
  have hB : Below w.heap.size w W := by rw [← hW]; exact (Below.refl _ _).alloc (Nat.le_refl _) _
  have hI : CmIn W w.heap.size ao cap cl sq kd id p := by rw [← hW]; exact CmIn.box hv
  obtain ⟨k1, hk1⟩ : ∃ b, (kd == 1) = b := ⟨_, rfl⟩
  obtain ⟨k2, hk2⟩ : ∃ b, (kd == 2) = b := ⟨_, rfl⟩
  obtain ⟨z, hz⟩ : ∃ b, (id == 0) = b := ⟨_, rfl⟩
  obtain ⟨l, hl⟩ : ∃ b, ((p.length : Int) == 0) = b := ⟨_, rfl⟩
  have HV : Hid (shV ao cap kd id p = if (k1 && z) = true then .iface 121 (.agg #[.slice ao p.length cap]) else if (k2 && l) = true then .iface 123 (.agg #[.int .i64 id]) else .iface 125 (.agg #[])) := by show _ = _; rw [shV, hk1, hk2, hz, hl]
  have e0 := hI.c0
  have e1 := hI.c1
  have e2 := hI.c2
  have e3 := hI.c3
  have e4 := hI.c4
  have HB := hidP hB
  clear hB hI hv
  go_enter Try.func50, Try.ntmps50
  cases k1 <;> cases k2 <;> cases z <;> cases l <;>
  · go_wp2_with fail
    go_ret
    exact ⟨by rw [HV.out]; rfl, HB.out⟩
theorem m_keepok (a : Option Addr) (n c : Nat) (w : World) : Sem.run Try.prog (method 271 121 (.agg #[.slice a n c]) "loop.example/g00273/impl.ok") w = .ok (146, .agg #[.slice a n c]) w := by kernel_rfl
theorem m_goneok (x : Int) (w : World) : Sem.run Try.prog (method 271 123 (.agg #[.int .i64 x]) "loop.example/g00273/impl.ok") w = .ok (147, .agg #[.int .i64 x]) w := by kernel_rfl
theorem m_noneok (w : World) : Sem.run Try.prog (method 271 125 (.agg #[]) "loop.example/g00273/impl.ok") w = .ok (148, .agg #[]) w := by kernel_rfl
set_option maxHeartbeats 400000 in
theorem iKeepOk (ao : Option Addr) (cap : Nat) (p : List Int) (w : World) (hv : View w ao p) (hn : p.length ≤ 1048576) : Calls Try.prog 146 #[.agg #[.slice ao p.length cap]] w fun e w' => e = .returned (.bool (okB p)) ∧ Below w.heap.size w w' := by
  have L0 : Below w.heap.size w (w.alloc (.cells #[.slice ao p.length cap] 121)) := (Below.refl _ _).alloc (Nat.le_refl _) _
  have HP := hidP (pOk ao cap p _ (hv.next L0) hn)
  have HL := hidP L0
  clear L0 hv
  go_enter Try.func146, Try.ntmps146
  go_wp2_with fail
  refine HP.out.mono ?_
  rintro e w1 ⟨rfl, hw1⟩
  subst hw1
  go_wp2_with fail
  go_ret
  exact ⟨rfl, HL.out⟩
set_option maxHeartbeats 400000 in
theorem iGoneOk (x : Int) (w : World) : Calls Try.prog 147 #[.agg #[.int .i64 x]] w fun e w' => e = .returned (.bool (inR x 1 1000000)) ∧ Below w.heap.size w w' := by
  have L0 : Below w.heap.size w (w.alloc (.cells #[.int .i64 x] 123)) := (Below.refl _ _).alloc (Nat.le_refl _) _
  have HP := hidP (iUpTo x (w.alloc (.cells #[.int .i64 x] 123)))
  have HL := hidP L0
  clear L0
  go_enter Try.func147, Try.ntmps147
  go_wp2_with fail
  refine HP.out.mono ?_
  rintro e w1 ⟨rfl, hw1⟩
  subst hw1
  go_wp2_with fail
  go_ret
  exact ⟨rfl, HL.out⟩
set_option maxHeartbeats 400000 in
theorem iNoneOk (w : World) : Calls Try.prog 148 #[.agg #[]] w fun e w' => e = .returned (.bool false) ∧ Below w.heap.size w w' := by
  have L0 : Below w.heap.size w (w.alloc (.cells #[] 125)) := (Below.refl _ _).alloc (Nat.le_refl _) _
  go_enter Try.func148, Try.ntmps148
  go_wp2_with fail
  go_ret
  exact ⟨rfl, L0⟩

set_option maxRecDepth 100000 in
set_option maxHeartbeats 1000000 in
theorem iCommandOk (ao : Option Addr) (cap : Nat) (cl sq kd id : Int) (p : List Int) (w : World) (hv : View w ao p) (hn : p.length ≤ 1048576) :
    Calls Try.prog 17 #[.agg #[.int .i64 cl, .int .i64 sq, .int .i64 kd, .int .i64 id, .slice ao p.length cap]] w fun e w' => e = .returned (.bool (cmB cl sq kd id p)) ∧ Below w.heap.size w w' := by
  obtain ⟨W, hW⟩ : ∃ W, w.alloc (.cells #[.int .i64 cl, .int .i64 sq, .int .i64 kd, .int .i64 id, .slice ao p.length cap] 46) = W := ⟨_, rfl⟩
  have hB : Below w.heap.size w W := by rw [← hW]; exact (Below.refl _ _).alloc (Nat.le_refl _) _
  have hI : CmIn W w.heap.size ao cap cl sq kd id p := by rw [← hW]; exact CmIn.box hv
  have HU := hidP (fun W' => iUpTo sq W')
  have HS := hidP (iShapeOf ao cap cl sq kd id p W hI.pv)
  have HPV := hidP hI
  have HB := hidP hB
  have e0 := hI.c0
  have e1 := hI.c1
  have e2 := hI.c2
  have e3 := hI.c3
  have e4 := hI.c4
  clear hB hI hv
  by_cases h0 : 0 ≤ cl
  · by_cases h7 : cl ≤ 7
    · have HV : Hid (cmB cl sq kd id p = (inR sq 1 1000000 && (if (kd == 1) = true then (id == 0) && okB p else if (kd == 2) = true then inR id 1 1000000 && ((p.length : Int) == 0) else false))) := by show _ = _; rw [cmB, inR_true h0 h7, Bool.true_and]
      obtain ⟨b1, h1⟩ : ∃ b, inR sq 1 1000000 = b := ⟨_, rfl⟩
      rw [h1] at HU HV
      clear h1
      go_enter Try.func17, Try.ntmps17
      go_wp2_with fail
      refine (HU.out _).mono ?_
      rintro e w1 ⟨rfl, hw1⟩
      have hw2 := hw1.symm
      subst hw2
      clear hW
      cases b1 with
      | false =>
        go_wp2_with fail
        go_ret
        exact ⟨ret_bool HV.out.symm, HB.out⟩
      | true =>
        go_wp2_with fail
        refine HS.out.mono ?_
        rintro e w2 ⟨rfl, L2⟩
        have HP2 := hidP (HPV.out.pv.next L2)
        have HB2 := hidP (chain HB.out L2)
        clear L2 e0 e1 e2 e3 e4
        by_cases hk : ((kd == 1) && (id == 0)) = true
        · rw [shV, if_pos hk]
          rw [Bool.and_eq_true] at hk
          have HV2 : Hid (cmB cl sq kd id p = okB p) := by show _ = _; rw [HV.out, if_pos hk.1, hk.2]; rfl
          clear hk
          have hm := m_keepok ao p.length cap w2
          have HC := hidP (iKeepOk ao cap p w2 HP2.out hn)
          go_wp2_with fail
          refine HC.out.mono ?_
          rintro e w3 ⟨rfl, L3⟩
          have HB3 := hidP (chain HB2.out L3)
          clear L3 hm
          go_wp2_with fail
          go_ret
          exact ⟨ret_bool HV2.out.symm, HB3.out⟩
        · by_cases hg : ((kd == 2) && ((p.length : Int) == 0)) = true
          · rw [shV, if_neg hk, if_pos hg]
            rw [Bool.and_eq_true] at hg
            have hk1 : (kd == 1) = false := by have := hg.1; simp at this; simp [this]
            have HV2 : Hid (cmB cl sq kd id p = inR id 1 1000000) := by show _ = _; rw [HV.out, hk1, if_neg (by simp), if_pos hg.1, hg.2]; simp
            clear hk hg hk1
            have hm := m_goneok id w2
            have HC := hidP (iGoneOk id w2)
            go_wp2_with fail
            refine HC.out.mono ?_
            rintro e w3 ⟨rfl, L3⟩
            have HB3 := hidP (chain HB2.out L3)
            clear L3 hm
            go_wp2_with fail
            go_ret
            exact ⟨ret_bool HV2.out.symm, HB3.out⟩
          · rw [shV, if_neg hk, if_neg hg]
            have HV2 : Hid (cmB cl sq kd id p = false) := by
              show _ = _
              rw [HV.out]
              rw [Bool.and_eq_true] at hk hg
              by_cases hk1 : (kd == 1) = true
              · have : (id == 0) = false := by rcases h : (id == 0) with _ | _; rfl; exact absurd ⟨hk1, h⟩ hk
                rw [if_pos hk1, this]; rfl
              · rw [if_neg hk1]
                by_cases hk2 : (kd == 2) = true
                · have : ((p.length : Int) == 0) = false := by rcases h : ((p.length : Int) == 0) with _ | _; rfl; exact absurd ⟨hk2, h⟩ hg
                  rw [if_pos hk2, this]; simp
                · rw [if_neg hk2]; rfl
            clear hk hg
            have hm := m_noneok w2
            have HC := hidP (iNoneOk w2)
            go_wp2_with fail
            refine HC.out.mono ?_
            rintro e w3 ⟨rfl, L3⟩
            have HB3 := hidP (chain HB2.out L3)
            clear L3 hm
            go_wp2_with fail
            go_ret
            exact ⟨ret_bool HV2.out.symm, HB3.out⟩
    · have HV : Hid (cmB cl sq kd id p = false) := by show _ = _; rw [cmB, inR_high (lo := 0) h7]; rfl
      go_enter Try.func17, Try.ntmps17
      go_wp2_with fail
      go_ret
      exact ⟨ret_bool HV.out.symm, HB.out⟩
  · have HV : Hid (cmB cl sq kd id p = false) := by show _ = _; rw [cmB, inR_low (hi := 7) h0]; rfl
    go_enter Try.func17, Try.ntmps17
    go_wp2_with fail
    go_ret
    exact ⟨ret_bool HV.out.symm, HB.out⟩
end Go.Proofs.Ytbmljcpeonopmaa
