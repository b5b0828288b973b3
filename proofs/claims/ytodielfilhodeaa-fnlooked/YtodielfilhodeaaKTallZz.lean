/-
  How tall the knots are: the given l5Tall and Tall, the program's tallFrom and Tall.
-/
import Derived.Test.YtodielfilhodeaaKOkZz
import Derived.Test.YtodielfilhodeaaMathZz
namespace Go.Proofs.Ytodielfilhodeaa
open Go Go.RowKit

theorem tat_size (ks : List Kn) (t : Tr) : ∀ p, TAt ks t p → t.size = 0 ∨ p + t.size ≤ ks.length := by
  induction t with
  | leaf => intro p _; exact Or.inl rfl
  | node m ax l r ihl ihr =>
    intro p ⟨hp, _, hl, hr⟩
    have h1 := ihl _ hl
    have h2 := ihr _ hr
    simp only [Tr.size]
    right; omega
theorem tall_size (t : Tr) : t.tall ≤ t.size := by
  induction t with
  | leaf => exact Nat.le_refl _
  | node m ax l r ihl ihr => simp only [Tr.tall, Tr.size]; omega
theorem tat_at {ks : List Kn} {w : World} {b off p : Nat} {m : Mk} {ax : Nat} {l r : Tr} (h : TAt ks (.node m ax l r) p) (hs : KSeg w b off ks) : p < ks.length ∧ KAt w b (off + p * 5) (m, (ax : Int), l.place (p + 1), r.place (p + 1 + l.size)) ∧ TAt ks l (p + 1) ∧ TAt ks r (p + 1 + l.size) := by
  obtain ⟨hp, hk, hl, hr⟩ := h
  have := hs p hp
  have e : knth ks p = (m, (ax : Int), l.place (p + 1), r.place (p + 1 + l.size)) := hk
  rw [e] at this
  exact ⟨hp, this, hl, hr⟩
theorem KSeg.drewN {w : World} {b off : Nat} {ks : List Kn} (h : KSeg w b off ks) (n : Nat) : KSeg (w.drewN n) b off ks := fun i hi => (h i hi).drewN n

set_option maxHeartbeats 400000 in
theorem iTop (ao : Option Addr) (n cap : Nat) (w : World) (hn : n ≤ 1048576) :
    Calls Try.prog 136 #[.slice ao n cap] w fun e w' => e = .returned (.int .i64 (if n = 0 then -1 else 0)) ∧ w' = w := by
  by_cases h : n = 0
  · subst h
    go_enter Try.func136, Try.ntmps136
    go_wp2
    go_ret
    exact ⟨rfl, rfl⟩
  · have HV : Hid ((if n = 0 then (-1 : Int) else 0) = min 0 ((n : Int) - 1)) := by show (if n = 0 then (-1 : Int) else 0) = _; rw [if_neg h]; omega
    rw [HV.out]
    clear HV
    go_enter Try.func136, Try.ntmps136
    go_wp2
    go_ret
    exact ⟨rfl, rfl⟩

end Go.Proofs.Ytodielfilhodeaa
