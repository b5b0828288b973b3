/-
  append([]T{}, src...): onto an empty row of no room, from a source that has something: a row of its own, new (no program is named here).
-/
import Derived.Test.YthddhblmnfjciaaAppend
import Derived.Below
namespace Go.Proofs.Ythddhblmnfjciaa
open Go Go.RowKit

/-- The cells R hold the elements news first, with room for cap. -/
def RowIs (R : Array Value) (size m cap : Nat) (news : List Value) : Prop := news.length = m * size ∧ m ≤ cap ∧ cap ≤ maxLen ∧ R.size = cap * size ∧ R.toList.take (m * size) = news
theorem RowIs.owns {R : Array Value} {size m cap : Nat} {news : List Value} (h : RowIs R size m cap news) {w : World} {base g : Nat} {e : TypeId} (hb : base ≤ g) (hg : w.heap[g]? = some (.cells R e)) : w.ownsRow base e size (.slice (some ⟨g, 0, none⟩) m cap) m news :=
  ⟨h.1, Or.inr ⟨g, cap, R, rfl, hb, hg, h.2.1, h.2.2.1, h.2.2.2.1, h.2.2.2.2⟩⟩
theorem heap_at_new {w : World} {o : Obj} {n : Nat} (h : w.heap.size = n) : (w.alloc o).heap[n]? = some o := by subst h; exact heap_alloc_new w o
theorem heap_at_past {w : World} {o x : Obj} {n : Nat} (h : w.heap[n]? = some x) : (w.alloc o).heap[n]? = some x := by
  have hn : n < w.heap.size := by
    rcases Nat.lt_or_ge n w.heap.size with h1 | h1
    · exact h1
    · rw [Array.getElem?_eq_none h1] at h; cases h
  exact ((Below.refl w.heap.size w).alloc (Nat.le_refl _) o).block n hn |>.trans h
theorem heap_at_drew {w : World} {x : Obj} {n : Nat} (h : w.heap[n]? = some x) : w.drew.heap[n]? = some x := h
theorem below_alloc {w w' : World} (h : Below w.heap.size w w') (o : Obj) : Below w.heap.size w (w'.alloc o) := h.alloc h.size o

theorem run_append_new {P : Program} (w : World) (t ty e : TypeId) (i : TypeInfo) (z : Value) (size bytes : Nat) (ht : P.underlying t = some (.slice e)) (hi : P.info? e = some i) (hz : i.zero = some z)
    (hsize : i.size = size) (hby : i.bytes = bytes) (hzs : z.cells.size = size)
    (dst : Option Addr) (ao : Option Addr) (m c : Nat) (news : List Value) (hs : SrcAt w size ao m news) (hm : 0 < m) (h63 : m ≤ maxLen) (hbytes : m * bytes ≤ 140737488355328) :
    ∃ cap R, (Builtin.append_ #[t, t] ty #[.slice dst 0 0, .slice ao m c]).run P w = .ok (.slice (some ⟨w.heap.size, 0, none⟩) m cap) (w.drew.alloc (.cells R e)) ∧ RowIs R size m cap news := by
  obtain ⟨hl, h1, hc⟩ := hs
  obtain ⟨ad, rfl, hnews⟩ : ∃ ad, ao = some ad ∧ ∀ j u, news[j]? = some u → w.cell? (ad.add j) = some u := by
    rcases hc with h | h
    · omega
    · exact h
  subst hsize hby
  have hold : (Builtin.firstCells i.size 0 (.slice dst 0 0)).run P w.drew = .ok (([] : List Value).toArray) w.drew := by
    cases dst with
    | none => exact run_firstCells_none w.drew i.size 0 0 0
    | some b => exact run_firstCells_some w.drew i.size 0 b 0 0 [] (by simp) (fun j v h => by simp at h)
  have hr := run_append_grow_src (P := P) w t t ty e i z ht hi hz dst 0 0 [] hold (.slice (some ad) m c) m news (Src.ofSlice w ht ad m c news hl hnews h1) (by omega) (by unfold maxLen at h63; omega) (growslice_fits (by omega) (by rw [Nat.zero_add]; exact hbytes))
  rw [Nat.zero_add] at hr
  have hG1 := grownCap_ge w m 0 e
  have hG2 := grownCap_le_maxLen w m 0 e h63
  refine ⟨_, _, hr, hl, hG1, hG2, ?_, by simp [hl]⟩
  simp only [List.nil_append, Array.size_append, List.size_toArray, hl, Builtin.zeroCells, Array.size_map, Array.size_range, hzs]
  rw [← Nat.add_mul]
  congr 1
  omega

theorem step_append_new {P : Program} (w : World) {ops : Array Oper} {o : Oper} {a : Act} {K : Act → World → Prop} {Q : Exit → Act → World → Prop} {E : Prop} (hgd : o.guard = none) (s x : Operand) (t : TypeId)
    (ho : o.op = .call { callee := .builtin .append, args := #[s, x], argTypes := #[t, t] })
    (e : TypeId) (i : TypeInfo) (z : Value) (size bytes : Nat) (ht : P.underlying t = some (.slice e)) (hi : P.info? e = some i) (hz : i.zero = some z)
    (hsize : i.size = size) (hby : i.bytes = bytes) (hzs : z.cells.size = size)
    (dst : Option Addr) (hs : a.eval s = .slice dst 0 0) (ao : Option Addr) (m c : Nat) (news : List Value) (hx : a.eval x = .slice ao m c) (hsrc : SrcAt w size ao m news)
    (hm : 0 < m) (h63 : m ≤ maxLen) (hbytes : m * bytes ≤ 140737488355328)
    (h : ∀ cap R, RowIs R size m cap news → K (a.put o.dst (.slice (some ⟨w.heap.size, 0, none⟩) m cap)) (w.drew.alloc (.cells R e))) :
    if Region.wanted o (yielded ops a.tmps) = true then Oper.wp P o a w K Q else E := by
  have hw : Region.wanted o (yielded ops a.tmps) = true := by simp [Region.wanted, hgd]
  rw [if_pos hw]
  obtain ⟨cap, R, hr, h2⟩ := run_append_new (P := P) w t o.type e i z size bytes ht hi hz hsize hby hzs dst ao m c news hsrc hm h63 hbytes
  unfold Oper.wp execOp
  simp only [ho, resolve, invoke, builtin, Sem.run_bind, Sem.run_pure, Result.andThen_ok, List.map_toArray, List.map_cons, List.map_nil, hs, hx, hr]
  exact h cap R h2

end Go.Proofs.Ythddhblmnfjciaa
