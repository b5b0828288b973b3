/-
  What the program sees stands behind an interface: which methods are entered through it, the assertion to the other interface, and hitOf.
-/
import Derived.Test.YtfbhohpbhjlihaaGreatFgRowZz
import Derived.Test.YtfbhohpbhjlihaaGreatFg0Zz
import Derived.Test.YtfbhohpbhjlihaaGreatHSpecZz
namespace Go.Proofs.YtfbhohpbhjlihaaGreat
open Go Go.RowKit

theorem m_idS (x : Int) (a : Option Addr) (n c : Nat) (w : World) : Sem.run Tryz.prog (method 396 226 (.agg #[.int .i64 x, .slice a n c]) "loop.example/g00273/impl.id") w = .ok (300, .agg #[.int .i64 x, .slice a n c]) w := by kernel_rfl
theorem m_linksS (x : Int) (a : Option Addr) (n c : Nat) (w : World) : Sem.run Tryz.prog (method 396 226 (.agg #[.int .i64 x, .slice a n c]) "loop.example/g00273/impl.links") w = .ok (301, .agg #[.int .i64 x, .slice a n c]) w := by kernel_rfl
theorem m_idT (x d : Int) (a : Option Addr) (n c : Nat) (w : World) : Sem.run Tryz.prog (method 396 229 (.agg #[.int .i64 x, .slice a n c, .int .i64 d]) "loop.example/g00273/impl.id") w = .ok (300, .agg #[.int .i64 x, .slice a n c]) w := by kernel_rfl
theorem m_linksT (x d : Int) (a : Option Addr) (n c : Nat) (w : World) : Sem.run Tryz.prog (method 396 229 (.agg #[.int .i64 x, .slice a n c, .int .i64 d]) "loop.example/g00273/impl.links") w = .ok (301, .agg #[.int .i64 x, .slice a n c]) w := by kernel_rfl
theorem m_farT (x d : Int) (a : Option Addr) (n c : Nat) (w : World) : Sem.run Tryz.prog (method 396 229 (.agg #[.int .i64 x, .slice a n c, .int .i64 d]) "loop.example/g00273/impl.far") w = .ok (302, .agg #[.int .i64 x, .slice a n c, .int .i64 d]) w := by kernel_rfl
theorem as_T (v : Value) (w : World) : Sem.run Tryz.prog (Instr.typeAssert (.iface 229 v) 193 231 true) w = .ok (.tuple #[.iface 229 v, .bool true]) w := by kernel_rfl
theorem least_some {l : List String} (h : l ≠ []) : ∃ m, Instr.least l = some m := by
  cases l with
  | nil => exact absurd rfl h
  | cons a l => exact ⟨_, rfl⟩
theorem part_some (p : String → Bool) (f : String → String) {L : List String} (hm : L ≠ []) : ∃ m, (Instr.least (L.filter (not ∘ p)) <|> Instr.least ((L.filter p).map f)) = some m := by
  by_cases h2 : L.filter (not ∘ p) = []
  · have h3 : L.filter p ≠ [] := by
      intro e
      apply hm
      rw [List.filter_eq_nil_iff] at e h2
      cases L with
      | nil => rfl
      | cons a L =>
        have e1 := e a (by simp)
        have e2 := h2 a (by simp)
        simp only [Function.comp_apply] at e2
        rcases hp : p a with _ | _
        · rw [hp] at e2; simp at e2
        · exact absurd hp e1
    obtain ⟨m, hmm⟩ := least_some (l := (L.filter p).map f) (by simpa using h3)
    exact ⟨m, by rw [h2, hmm]; rfl⟩
  · obtain ⟨m, hmm⟩ := least_some h2
    exact ⟨m, by rw [hmm]; rfl⟩
theorem missing_some {want : Array (String × TypeId)} {got : Array Method} (h : (want.toList.filter fun (name, sig) => !got.any fun m => m.name == name && m.sig == sig) ≠ []) : ∃ m, Instr.missingMethod want got = some m := by
  unfold Instr.missingMethod
  simp only [List.partition_eq_filter_filter]
  exact part_some _ _ (by simpa using h)
def wantOf (P : Program) (t : TypeId) : Option (Array (String × TypeId)) := (P.underlying t).bind fun d => match d with | .interface w => some w | _ => none
def lackRow (P : Program) (t u : TypeId) : Option Bool := (P.info? t).bind fun i => (wantOf P u).map fun want => (want.toList.filter fun (name, sig) => !i.methods.any fun m => m.name == name && m.sig == sig).isEmpty
theorem as_S (v : Value) (w : World) : Sem.run Tryz.prog (Instr.typeAssert (.iface 226 v) 193 231 true) w = .ok (.tuple #[.nilIface, .bool false]) w := by
  obtain ⟨want, hu⟩ : ∃ want, Tryz.prog.underlying 231 = some (.interface want) := by
    cases h : wantOf Tryz.prog 231 with
    | none => exact absurd h (by have : (wantOf Tryz.prog 231).isSome = true := by kernel_rfl
                                 intro e; rw [e] at this; cases this)
    | some a =>
      unfold wantOf at h
      cases hu : Tryz.prog.underlying 231 with
      | none => rw [hu] at h; cases h
      | some d =>
        rw [hu] at h
        cases d <;> simp at h
        exact ⟨_, by rw [h]⟩
  obtain ⟨i, hi⟩ : ∃ i, Tryz.prog.info? 226 = some i := by
    cases h : Tryz.prog.info? 226 with
    | none => exact absurd h (by have : (Tryz.prog.info? 226).isSome = true := by kernel_rfl
                                 intro e; rw [e] at this; cases this)
    | some i => exact ⟨i, rfl⟩
  have hl : lackRow Tryz.prog 226 231 = some false := by kernel_rfl
  have hne : (want.toList.filter fun (name, sig) => !i.methods.any fun m => m.name == name && m.sig == sig) ≠ [] := by
    intro e
    simp only [lackRow, wantOf, hi, hu, Option.bind_some, Option.map_some] at hl
    rw [e] at hl
    simp at hl
  obtain ⟨m, hm⟩ := missing_some hne
  have hz : (zeroValue 231).run Tryz.prog w = .ok .nilIface w := by kernel_rfl
  have ht : (typeInfo 226).run Tryz.prog w = .ok i w := by simp [typeInfo, hi]
  unfold Instr.typeAssert
  simp [run_underlying hu, ht, hm, hz]
/-- What is seen of a mark: its number, how far it is, and the slice of its links. -/
def IsS (sv : Value) (h : Ht) (a : Option Addr) (n c : Nat) : Prop := (sv = .iface 226 (.agg #[.int .i64 h.1, .slice a n c]) ∧ h.2 = 0) ∨ sv = .iface 229 (.agg #[.int .i64 h.1, .slice a n c, .int .i64 h.2])
theorem IsS.one {sv : Value} {h : Ht} {a : Option Addr} {n c : Nat} (k : IsS sv h a n c) : sv.oneCell' = true := by
  rcases k with ⟨k, -⟩ | k <;> rw [k] <;> rfl

set_option maxHeartbeats 400000 in
theorem pSpotId (x : Int) (a : Option Addr) (n c : Nat) (w : World) : Calls Tryz.prog 300 #[.agg #[.int .i64 x, .slice a n c]] w fun e w' => e = .returned (.int .i64 x) ∧ w' = w.alloc (.cells #[.int .i64 x, .slice a n c] 226) := by
  go_enter Tryz.func300, Tryz.ntmps300
  go_wp2_with fail
  go_ret
  exact ⟨rfl, rfl⟩
set_option maxHeartbeats 400000 in
theorem pSpotLinks (x : Int) (a : Option Addr) (n c : Nat) (w : World) : Calls Tryz.prog 301 #[.agg #[.int .i64 x, .slice a n c]] w fun e w' => e = .returned (.slice a n c) ∧ w' = w.alloc (.cells #[.int .i64 x, .slice a n c] 226) := by
  go_enter Tryz.func301, Tryz.ntmps301
  go_wp2_with fail
  go_ret
  exact ⟨rfl, rfl⟩
set_option maxHeartbeats 400000 in
theorem pTargetFar (x d : Int) (a : Option Addr) (n c : Nat) (w : World) : Calls Tryz.prog 302 #[.agg #[.int .i64 x, .slice a n c, .int .i64 d]] w fun e w' => e = .returned (.int .i64 d) ∧ w' = w.alloc (.cells #[.int .i64 x, .slice a n c, .int .i64 d] 229) := by
  go_enter Tryz.func302, Tryz.ntmps302
  go_wp2_with fail
  go_ret
  exact ⟨rfl, rfl⟩

set_option maxRecDepth 100000 in
set_option maxHeartbeats 1000000 in
theorem iHitOf (sv : Value) (h : Ht) (a : Option Addr) (n c : Nat) (w : World) (hs : IsS sv h a n c) :
    Calls Tryz.prog 173 #[sv] w fun e w' => e = .returned (.agg #[.int .i64 h.1, .int .i64 h.2]) ∧ Below w.heap.size w w' := by
  rcases hs with ⟨rfl, h0⟩ | rfl
  · have M1 := m_idS h.1 a n c
    have HI := hidP (fun w => pSpotId h.1 a n c w)
    have A1 := as_S (.agg #[.int .i64 h.1, .slice a n c])
    rw [h0]
    clear h0
    go_enter Tryz.func173, Tryz.ntmps173
    go_wp2_with fail
    refine (HI.out _).mono ?_
    rintro e w1 ⟨rfl, rfl⟩
    go_wp2_with fail
    refine bodyPost_ret (v := .agg #[.int .i64 h.1, .int .i64 0]) (by simp [results, Tryz.results173, go_sem]) rfl ?_
    exact ⟨rfl, ((((Below.refl _ _).alloc (Nat.le_refl _) _).alloc (by simp) _).alloc (by simp; omega) _)⟩
  · have M1 := m_idT h.1 h.2 a n c
    have M2 := m_farT h.1 h.2 a n c
    have HI := hidP (fun w => pSpotId h.1 a n c w)
    have HF := hidP (fun w => pTargetFar h.1 h.2 a n c w)
    have A1 := as_T (.agg #[.int .i64 h.1, .slice a n c, .int .i64 h.2])
    go_enter Tryz.func173, Tryz.ntmps173
    go_wp2_with fail
    refine (HI.out _).mono ?_
    rintro e w1 ⟨rfl, rfl⟩
    go_wp2_with fail
    refine (HF.out _).mono ?_
    rintro e w1 ⟨rfl, rfl⟩
    go_wp2_with fail
    refine bodyPost_ret (v := .agg #[.int .i64 h.1, .int .i64 h.2]) (by simp [results, Tryz.results173, go_sem]) rfl ?_
    exact ⟨rfl, (((((Below.refl _ _).alloc (Nat.le_refl _) _).alloc (by simp) _).alloc (by simp; omega) _).alloc (by simp; omega) _)⟩
end Go.Proofs.YtfbhohpbhjlihaaGreat
