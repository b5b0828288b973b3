/-
  A state that came in, as the frame tells of it.
-/
import Derived.Test.YtbmljcpeonopmaaStMemZz
import Derived.Lib.SmallJoins
namespace Go.Proofs.Ytbmljcpeonopmaa
open Go Go.RowKit Go.Deep

set_option maxRecDepth 100000 in
theorem okWide_state {W : World} {base : Nat} {v : Value} (h : Value.okWide Try.prog W .any base 27 v) : ∃ cs : Array Value, v = .agg cs ∧ cs.size = 5 := by
  unfold Value.okWide at h
  rw [Try.underlying27] at h
  obtain ⟨cs, rfl, hs, _⟩ := h
  exact ⟨cs, rfl, hs.trans (by kernel_rfl)⟩
theorem array5 {α : Type} {cs : Array α} (h : cs.size = 5) : ∃ c0 c1 c2 c3 c4, cs = #[c0, c1, c2, c3, c4] := by
  obtain ⟨l⟩ := cs
  match l, h with
  | [c0, c1, c2, c3, c4], _ => exact ⟨c0, c1, c2, c3, c4, rfl⟩
theorem state_view {H : Type} {enc : TypeId × Value → H} {W : World} {n : Nat} {cs : Array Value} {x : DataW H × List MemPlace} (hs : cs.size = 5) (h : DataW.trod enc Try.prog W 0 (fun _ => true) true n 27 cs.toList = some x) :
    ∃ (wd : Int) (ms : List Mk) (d : Int) (ts : List Wb) (nx : Int) (am : Option Addr) (cm : Nat) (aw : Option Addr) (cw : Nat), cs = #[.int .i64 wd, .slice am ms.length cm, .int .i64 d, .slice aw ts.length cw, .int .i64 nx] ∧ MView W am ms ∧ WbView false W aw ts ∧ StFit ms ts := by
  obtain ⟨u0, u1, u2, u3, u4, rfl⟩ := array5 hs
  obtain ⟨y0, y1, y2, y3, m, _, hl, t0, t1, t2, t3⟩ := Go.Joins.trod_struct4 Try.underlying27 h
  have e0 : Try.prog.cellsOf 2 = 1 := by kernel_rfl
  have e1 : Try.prog.cellsOf 22 = 1 := by kernel_rfl
  have e2 : Try.prog.cellsOf 25 = 2 := by kernel_rfl
  simp only [e0, e1, e2] at t0 t1 t2 t3
  obtain ⟨z, hz, _, _⟩ := DataW.trod_int Try.underlying2 (by simpa using t0)
  simp at hz
  obtain ⟨z', hz', _, _⟩ := DataW.trod_int Try.underlying2 (by simpa using t3)
  simp at hz'
  have t1' : DataW.trod enc Try.prog W 0 (fun _ => true) true m 22 [u1] = some y1 := by simpa using t1
  obtain ⟨am, cm, ms, rfl, hm, hn, hat⟩ := one_marks t1'
  have t2' : DataW.trod enc Try.prog W 0 (fun _ => true) true m 25 (#[u2, u3] : Array Value).toList = some y2 := by simpa using t2
  obtain ⟨d, ts, aw, cw, he, hw, hf⟩ := tower_view rfl t2'
  injection he with he
  injection he with he2 he
  injection he with he3 he
  subst hz hz' he2 he3
  exact ⟨z, ms, d, ts, z', am, cm, aw, cw, rfl, hm, hw, hn, hat, hf⟩
end Go.Proofs.Ytbmljcpeonopmaa
