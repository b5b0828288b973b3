/-
  append(dst, src...) onto a row of the call's own, from whatever source, an empty one too (no program is named here).
  append([]T{}, src...): onto an empty row of no room, from a source that has something: a row of its own, new (no program is named here).
  Rows of sessions in memory: three cells a thread, its two numbers and how long it is.
-/
import Derived.Test.YtbmljcpeonopmaaMCellsZz
import Derived.Deep.AppendLies
import Derived.Deep.AppendSrc
import Derived.Below
namespace Go.Proofs.Ytbmljcpeonopmaa
open Go Go.RowKit

/-- What is appended: m elements, told by their cells, wherever they lie. -/
def SrcAt (w : World) (size : Nat) (ao : Option Addr) (m : Nat) (news : List Value) : Prop :=
  news.length = m * size ∧ (∀ u ∈ news, u.oneCell' = true) ∧ (m = 0 ∨ ∃ ad, ao = some ad ∧ ∀ j u, news[j]? = some u → w.cell? (ad.add j) = some u)

theorem run_append_at {P : Program} (w : World) (t ty : TypeId) (base : Nat) (e : TypeId) (i : TypeInfo) (z : Value) (size bytes : Nat) (ht : P.underlying t = some (.slice e)) (hi : P.info? e = some i) (hz : i.zero = some z)
    (hsize : i.size = size) (hby : i.bytes = bytes) (hzs : z.cells.size = size) (hsz : 0 < size)
    (g0 n c0 : Nat) (xs : List Value) (hown : w.ownsRow base e size (.slice (some ⟨g0, 0, none⟩) n c0) n xs)
    (ao : Option Addr) (m c : Nat) (news : List Value) (hs : SrcAt w size ao m news)
    (h63 : n + m ≤ maxLen) (hbytes : (n + m) * bytes ≤ 140737488355328) (hbase : base ≤ w.heap.size) (H : Nat) (hH : w.heap.size = H) :
    ∃ g cap w', (Builtin.append_ #[t, t] ty #[.slice (some ⟨g0, 0, none⟩) n c0, .slice ao m c]).run P w = .ok (.slice (some ⟨g, 0, none⟩) (n + m) cap) w' ∧
      w'.ownsRow base e size (.slice (some ⟨g, 0, none⟩) (n + m) cap) (n + m) (xs ++ news) ∧ w.grownBy w' (some g0) ∧ (g0 = g ∨ g = H) ∧ g < w'.heap.size := by
  obtain ⟨hl, h1, hc⟩ := hs
  rcases Nat.eq_zero_or_pos m with h0 | h0
  · subst h0
    obtain rfl : news = [] := List.eq_nil_of_length_eq_zero (by simpa using hl)
    have hcap : n + 0 ≤ c0 := by
      obtain ⟨_, ⟨h1, _⟩ | ⟨g', c', cur, h1, _, _, h2, _⟩⟩ := hown
      · cases h1
      · injection h1 with e1 e2 e3; omega
    have hsrc : Src P i.size t (.slice ao 0 c) 0 [] w := by
      cases ao with
      | none => exact Src.ofNil w ht c
      | some ad => exact Src.ofSlice w ht ad 0 c [] (by simp) (fun j u hu => by simp at hu) (fun u hu => by cases hu)
    have hr := run_append_room_src (P := P) w t t ty e i ht hi g0 0 n c0 (.slice ao 0 c) 0 [] hsrc hcap (fun j hj => by simp at hj) (fun j hj => by simp at hj)
    refine ⟨g0, c0, w, ?_, by simpa using hown, ⟨rfl, rfl, rfl, Nat.le_refl _, fun _ _ _ => rfl⟩, .inl rfl, (hown.lt g0 rfl).2⟩
    simpa [World.setCells] using hr
  · obtain ⟨ad, rfl, hnews⟩ : ∃ ad, ao = some ad ∧ ∀ j u, news[j]? = some u → w.cell? (ad.add j) = some u := by
      rcases hc with h | h
      · omega
      · exact h
    obtain ⟨g, cap, w', hr, h2, h3, h4, h5⟩ := run_append_lies (P := P) w t ty base e i z size bytes ht hi hz hsize hby hzs hsz _ n xs hown ad m c news hl hnews h1 h0 h63 hbytes hbase H hH
    refine ⟨g, cap, w', hr, h2, h3, ?_, h5⟩
    rcases h4 with h | h
    · left; simpa [Value.ownBlock] using h
    · exact .inr h

theorem wpList_append_at {P : Program} (w : World) {ops : Array Oper} {rest : List Oper} {o : Oper} {a : Act} {Q : Exit → Act → World → Prop} (hgd : o.guard = none) (s x : Operand) (t : TypeId)
    (ho : o.op = .call { callee := .builtin .append, args := #[s, x], argTypes := #[t, t] })
    (base : Nat) (e : TypeId) (i : TypeInfo) (z : Value) (size bytes : Nat) (ht : P.underlying t = some (.slice e)) (hi : P.info? e = some i) (hz : i.zero = some z)
    (hsize : i.size = size) (hby : i.bytes = bytes) (hzs : z.cells.size = size) (hsz : 0 < size)
    (g0 n c0 : Nat) (xs : List Value) (hs : a.eval s = .slice (some ⟨g0, 0, none⟩) n c0) (hown : w.ownsRow base e size (.slice (some ⟨g0, 0, none⟩) n c0) n xs)
    (ao : Option Addr) (m c : Nat) (news : List Value) (hx : a.eval x = .slice ao m c) (hsrc : SrcAt w size ao m news)
    (h63 : n + m ≤ maxLen) (hbytes : (n + m) * bytes ≤ 140737488355328) (hbase : base ≤ w.heap.size) (H : Nat) (hH : w.heap.size = H)
    (h : ∀ g cap w', w'.ownsRow base e size (.slice (some ⟨g, 0, none⟩) (n + m) cap) (n + m) (xs ++ news) → w.grownBy w' (some g0) → (g0 = g ∨ g = H) → g < w'.heap.size → wpList P ops Q rest (a.put o.dst (.slice (some ⟨g, 0, none⟩) (n + m) cap)) w') : wpList P ops Q (o :: rest) a w := by
  refine wpList_plain hgd fun _ hK => ?_
  obtain ⟨g, cap, w', hr, h2, h3, h4, h5⟩ := run_append_at (P := P) w t o.type base e i z size bytes ht hi hz hsize hby hzs hsz g0 n c0 xs hown ao m c news hsrc h63 hbytes hbase H hH
  unfold Oper.wp execOp
  simp only [ho, resolve, invoke, builtin, Sem.run_bind, Sem.run_pure, Result.andThen_ok, List.map_toArray, List.map_cons, List.map_nil, hs, hx, hr]
  exact hK _ _ (h g cap w' h2 h3 h4 h5)

/-- At a step of a region that draws its order. -/
theorem step_append_at {P : Program} (w : World) {ops : Array Oper} {o : Oper} {a : Act} {K : Act → World → Prop} {Q : Exit → Act → World → Prop} {E : Prop} (hgd : o.guard = none) (s x : Operand) (t : TypeId)
    (ho : o.op = .call { callee := .builtin .append, args := #[s, x], argTypes := #[t, t] })
    (base : Nat) (e : TypeId) (i : TypeInfo) (z : Value) (size bytes : Nat) (ht : P.underlying t = some (.slice e)) (hi : P.info? e = some i) (hz : i.zero = some z)
    (hsize : i.size = size) (hby : i.bytes = bytes) (hzs : z.cells.size = size) (hsz : 0 < size)
    (g0 n c0 : Nat) (xs : List Value) (hs : a.eval s = .slice (some ⟨g0, 0, none⟩) n c0) (hown : w.ownsRow base e size (.slice (some ⟨g0, 0, none⟩) n c0) n xs)
    (ao : Option Addr) (m c : Nat) (news : List Value) (hx : a.eval x = .slice ao m c) (hsrc : SrcAt w size ao m news)
    (h63 : n + m ≤ maxLen) (hbytes : (n + m) * bytes ≤ 140737488355328) (hbase : base ≤ w.heap.size) (H : Nat) (hH : w.heap.size = H)
    (h : ∀ g cap w', w'.ownsRow base e size (.slice (some ⟨g, 0, none⟩) (n + m) cap) (n + m) (xs ++ news) → w.grownBy w' (some g0) → (g0 = g ∨ g = H) → g < w'.heap.size → K (a.put o.dst (.slice (some ⟨g, 0, none⟩) (n + m) cap)) w') :
    if Region.wanted o (yielded ops a.tmps) = true then Oper.wp P o a w K Q else E := by
  have hw : Region.wanted o (yielded ops a.tmps) = true := by simp [Region.wanted, hgd]
  rw [if_pos hw]
  obtain ⟨g, cap, w', hr, h2, h3, h4, h5⟩ := run_append_at (P := P) w t o.type base e i z size bytes ht hi hz hsize hby hzs hsz g0 n c0 xs hown ao m c news hsrc h63 hbytes hbase H hH
  unfold Oper.wp execOp
  simp only [ho, resolve, invoke, builtin, Sem.run_bind, Sem.run_pure, Result.andThen_ok, List.map_toArray, List.map_cons, List.map_nil, hs, hx, hr]
  exact h g cap w' h2 h3 h4 h5

end Go.Proofs.Ytbmljcpeonopmaa
namespace Go.Proofs.Ytbmljcpeonopmaa
open Go Go.RowKit

/-- The cells R hold the elements news first, with room for cap. -/
def RowIs (R : Array Value) (size m cap : Nat) (news : List Value) : Prop := news.length = m * size ∧ m ≤ cap ∧ cap ≤ maxLen ∧ R.size = cap * size ∧ R.toList.take (m * size) = news
theorem RowIs.owns {R : Array Value} {size m cap : Nat} {news : List Value} (h : RowIs R size m cap news) {w : World} {base g : Nat} {e : TypeId} (hb : base ≤ g) (hg : w.heap[g]? = some (.cells R e)) : w.ownsRow base e size (.slice (some ⟨g, 0, none⟩) m cap) m news :=
  ⟨h.1, Or.inr ⟨g, cap, R, rfl, hb, hg, h.2.1, h.2.2.1, h.2.2.2.1, h.2.2.2.2⟩⟩
theorem heap_at_new {w : World} {o : Obj} {n : Nat} (h : w.heap.size = n) : (w.alloc o).heap[n]? = some o := by subst h; exact heap_alloc_new w o
theorem heap_at_past {w : World} {o x : Obj} {n : Nat} (h : w.heap[n]? = some x) : (w.alloc o).heap[n]? = some x := by
  have hn : n < w.heap.size := by
    rcases Nat.lt_or_ge n w.heap.size with h1 | h1
    · exact h1
    · rw [Array.getElem?_eq_none h1] at h; cases h
  exact ((Below.refl w.heap.size w).alloc (Nat.le_refl _) o).block n hn |>.trans h
theorem heap_at_drew {w : World} {x : Obj} {n : Nat} (h : w.heap[n]? = some x) : w.drew.heap[n]? = some x := h
theorem below_alloc {w w' : World} (h : Below w.heap.size w w') (o : Obj) : Below w.heap.size w (w'.alloc o) := h.alloc h.size o

theorem run_append_new {P : Program} (w : World) (t ty e : TypeId) (i : TypeInfo) (z : Value) (size bytes : Nat) (ht : P.underlying t = some (.slice e)) (hi : P.info? e = some i) (hz : i.zero = some z)
    (hsize : i.size = size) (hby : i.bytes = bytes) (hzs : z.cells.size = size)
    (dst : Option Addr) (ao : Option Addr) (m c : Nat) (news : List Value) (hs : SrcAt w size ao m news) (hm : 0 < m) (h63 : m ≤ maxLen) (hbytes : m * bytes ≤ 140737488355328) :
    ∃ cap R, (Builtin.append_ #[t, t] ty #[.slice dst 0 0, .slice ao m c]).run P w = .ok (.slice (some ⟨w.heap.size, 0, none⟩) m cap) (w.drew.alloc (.cells R e)) ∧ RowIs R size m cap news := by
  obtain ⟨hl, h1, hc⟩ := hs
  obtain ⟨ad, rfl, hnews⟩ : ∃ ad, ao = some ad ∧ ∀ j u, news[j]? = some u → w.cell? (ad.add j) = some u := by
    rcases hc with h | h
    · omega
    · exact h
  subst hsize hby
  have hold : (Builtin.firstCells i.size 0 (.slice dst 0 0)).run P w.drew = .ok (([] : List Value).toArray) w.drew := by
    cases dst with
    | none => exact run_firstCells_none w.drew i.size 0 0 0
    | some b => exact run_firstCells_some w.drew i.size 0 b 0 0 [] (by simp) (fun j v h => by simp at h)
  have hr := run_append_grow_src (P := P) w t t ty e i z ht hi hz dst 0 0 [] hold (.slice (some ad) m c) m news (Src.ofSlice w ht ad m c news hl hnews h1) (by omega) (by unfold maxLen at h63; omega) (growslice_fits (by omega) (by rw [Nat.zero_add]; exact hbytes))
  rw [Nat.zero_add] at hr
  have hG1 := grownCap_ge w m 0 e
  have hG2 := grownCap_le_maxLen w m 0 e h63
  refine ⟨_, _, hr, hl, hG1, hG2, ?_, by simp [hl]⟩
  simp only [List.nil_append, Array.size_append, List.size_toArray, hl, Builtin.zeroCells, Array.size_map, Array.size_range, hzs]
  rw [← Nat.add_mul]
  congr 1
  omega

theorem step_append_new {P : Program} (w : World) {ops : Array Oper} {o : Oper} {a : Act} {K : Act → World → Prop} {Q : Exit → Act → World → Prop} {E : Prop} (hgd : o.guard = none) (s x : Operand) (t : TypeId)
    (ho : o.op = .call { callee := .builtin .append, args := #[s, x], argTypes := #[t, t] })
    (e : TypeId) (i : TypeInfo) (z : Value) (size bytes : Nat) (ht : P.underlying t = some (.slice e)) (hi : P.info? e = some i) (hz : i.zero = some z)
    (hsize : i.size = size) (hby : i.bytes = bytes) (hzs : z.cells.size = size)
    (dst : Option Addr) (hs : a.eval s = .slice dst 0 0) (ao : Option Addr) (m c : Nat) (news : List Value) (hx : a.eval x = .slice ao m c) (hsrc : SrcAt w size ao m news)
    (hm : 0 < m) (h63 : m ≤ maxLen) (hbytes : m * bytes ≤ 140737488355328)
    (h : ∀ cap R, RowIs R size m cap news → K (a.put o.dst (.slice (some ⟨w.heap.size, 0, none⟩) m cap)) (w.drew.alloc (.cells R e))) :
    if Region.wanted o (yielded ops a.tmps) = true then Oper.wp P o a w K Q else E := by
  have hw : Region.wanted o (yielded ops a.tmps) = true := by simp [Region.wanted, hgd]
  rw [if_pos hw]
  obtain ⟨cap, R, hr, h2⟩ := run_append_new (P := P) w t o.type e i z size bytes ht hi hz hsize hby hzs dst ao m c news hsrc hm h63 hbytes
  unfold Oper.wp execOp
  simp only [ho, resolve, invoke, builtin, Sem.run_bind, Sem.run_pure, Result.andThen_ok, List.map_toArray, List.map_cons, List.map_nil, hs, hx, hr]
  exact h cap R h2

end Go.Proofs.Ytbmljcpeonopmaa
namespace Go.Proofs.Ytbmljcpeonopmaa
open Go Go.RowKit

abbrev ThS7 := Int × Int × Int
def tnthS7 (ts : List ThS7) (i : Nat) : ThS7 := ts.getD i (0, 0, 0)
def tCellsS7 : List ThS7 → List Value
  | [] => []
  | t :: ts => .int .i64 t.1 :: .int .i64 t.2.1 :: .int .i64 t.2.2 :: tCellsS7 ts
def TSegS7 (w : World) (b off : Nat) (ts : List ThS7) : Prop := ∀ i, i < ts.length → w.cell? ⟨b, off + i * 3, none⟩ = some (.int .i64 (tnthS7 ts i).1) ∧ w.cell? ⟨b, off + i * 3 + 1, none⟩ = some (.int .i64 (tnthS7 ts i).2.1) ∧ w.cell? ⟨b, off + i * 3 + 2, none⟩ = some (.int .i64 (tnthS7 ts i).2.2)
def TViewS7 (w : World) (ao : Option Addr) (ts : List ThS7) : Prop := ts = [] ∨ ∃ b off, ao = some ⟨b, off, none⟩ ∧ b < w.heap.size ∧ TSegS7 w b off ts
/-- A row of sessions of the call's own, from block base on. -/
def TRowS7 (base : Nat) (w : World) (g c : Nat) (ts : List ThS7) : Prop := w.ownsRow base 92 3 (.slice (some ⟨g, 0, none⟩) ts.length c) ts.length (tCellsS7 ts)

theorem tCells_lengthS7 (ts : List ThS7) : (tCellsS7 ts).length = ts.length * 3 := by
  induction ts with
  | nil => rfl
  | cons d ds ih => simp [tCellsS7, ih]; omega
theorem tCells_appendS7 (ds es : List ThS7) : tCellsS7 (ds ++ es) = tCellsS7 ds ++ tCellsS7 es := by
  induction ds with
  | nil => rfl
  | cons d ds ih => simp [tCellsS7, ih]
theorem tCells_atS7 (ds : List ThS7) (i : Nat) (h : i < ds.length) : (tCellsS7 ds)[i * 3]? = some (.int .i64 (tnthS7 ds i).1) ∧ (tCellsS7 ds)[i * 3 + 1]? = some (.int .i64 (tnthS7 ds i).2.1) ∧ (tCellsS7 ds)[i * 3 + 2]? = some (.int .i64 (tnthS7 ds i).2.2) := by
  induction ds generalizing i with
  | nil => simp at h
  | cons d ds ih =>
    match i, h with
    | 0, _ => exact ⟨rfl, rfl, rfl⟩
    | k + 1, h =>
      have := ih k (by simpa using h)
      rw [show (k + 1) * 3 = k * 3 + 1 + 1 + 1 by omega]
      exact this
theorem tCells_oneS7 (ts : List ThS7) : ∀ u ∈ tCellsS7 ts, u.oneCell' = true := by
  induction ts with
  | nil => intro u hu; cases hu
  | cons d ds ih =>
    intro u hu
    simp only [tCellsS7, List.mem_cons] at hu
    rcases hu with rfl | rfl | rfl | hu
    · rfl
    · rfl
    · rfl
    · exact ih u hu
theorem tnth_dropS7 (ts : List ThS7) (k i : Nat) : tnthS7 (ts.drop k) i = tnthS7 ts (k + i) := by simp [tnthS7, List.getD]
theorem tnth_takeS7 (ts : List ThS7) (k i : Nat) (h : i < k) : tnthS7 (ts.take k) i = tnthS7 ts i := by simp [tnthS7, List.getD, h]
theorem tnth_memS7 {ts : List ThS7} {i : Nat} (h : i < ts.length) : tnthS7 ts i ∈ ts := by simp [tnthS7, List.getD, h]
theorem tnth_getS7 {ts : List ThS7} {i : Nat} (h : i < ts.length) : tnthS7 ts i = ts[i] := by simp [tnthS7, List.getD, h]
theorem ts_eqS7 {ts ks : List ThS7} (hl : ts.length = ks.length) (h : ∀ i, i < ts.length → tnthS7 ts i = tnthS7 ks i) : ts = ks := by
  apply List.ext_getElem hl
  intro i h1 h2
  have := h i h1
  simpa [tnthS7, List.getD, h1, h2] using this

theorem TSegS7.below {w w' : World} {B b off : Nat} {ts : List ThS7} (h : TSegS7 w b off ts) (hb : b < B) (hw : Below B w w') : TSegS7 w' b off ts := fun i hi =>
  ⟨(hw.cell (p := ⟨b, off + i * 3, none⟩) hb).trans (h i hi).1, (hw.cell (p := ⟨b, off + i * 3 + 1, none⟩) hb).trans (h i hi).2.1, (hw.cell (p := ⟨b, off + i * 3 + 2, none⟩) hb).trans (h i hi).2.2⟩
theorem TSegS7.drop {w : World} {b off : Nat} {ts : List ThS7} (h : TSegS7 w b off ts) (k : Nat) : TSegS7 w b (off + k * 3) (ts.drop k) := fun i hi => by
  have := h (k + i) (by simp at hi; omega)
  rw [tnth_dropS7, show off + k * 3 + i * 3 = off + (k + i) * 3 by omega]
  exact this
theorem TSegS7.take {w : World} {b off : Nat} {ts : List ThS7} (h : TSegS7 w b off ts) (k : Nat) : TSegS7 w b off (ts.take k) := fun i hi => by
  have hi2 : i < k ∧ i < ts.length := by simp at hi; omega
  rw [tnth_takeS7 ts k i hi2.1]
  exact h i hi2.2
theorem TViewS7.below {w w' : World} {B : Nat} {ao : Option Addr} {ts : List ThS7} (h : TViewS7 w ao ts) (hB : w.heap.size ≤ B) (hw : Below B w w') : TViewS7 w' ao ts := by
  rcases h with h | ⟨b, off, e, hb, hs⟩
  · exact Or.inl h
  · exact Or.inr ⟨b, off, e, Nat.lt_of_lt_of_le hb hw.size, hs.below (Nat.lt_of_lt_of_le hb hB) hw⟩
theorem TViewS7.next {w w' : World} {ao : Option Addr} {ts : List ThS7} (h : TViewS7 w ao ts) (hw : Below w.heap.size w w') : TViewS7 w' ao ts := h.below (Nat.le_refl _) hw
theorem TViewS7.drewN {w : World} {ao : Option Addr} {ts : List ThS7} (h : TViewS7 w ao ts) (n : Nat) : TViewS7 (w.drewN n) ao ts := h
theorem TViewS7.drew {w : World} {ao : Option Addr} {ts : List ThS7} (h : TViewS7 w ao ts) : TViewS7 w.drew ao ts := h
theorem TViewS7.seg {w : World} {ao : Option Addr} {ts : List ThS7} (h : TViewS7 w ao ts) (h0 : 0 < ts.length) : ∃ b off, ao = some ⟨b, off, none⟩ ∧ b < w.heap.size ∧ TSegS7 w b off ts := by
  rcases h with h | h
  · subst h; simp at h0
  · exact h

theorem TSegS7.src {w : World} {b off : Nat} {ts : List ThS7} (h : TSegS7 w b off ts) (j : Nat) (u : Value) (hu : (tCellsS7 ts)[j]? = some u) : w.cell? ((⟨b, off, none⟩ : Addr).add j) = some u := by
  have hj : j < ts.length * 3 := by
    rcases Nat.lt_or_ge j (ts.length * 3) with h1 | h1
    · exact h1
    · rw [List.getElem?_eq_none (by rw [tCells_lengthS7]; exact h1)] at hu; cases hu
  rw [Go.WideShapes.add_plain]
  have hi : j / 3 < ts.length := by omega
  have hc := tCells_atS7 ts (j / 3) hi
  have hs := h (j / 3) hi
  have hm : j % 3 = 0 ∨ j % 3 = 1 ∨ j % 3 = 2 := by omega
  rcases hm with e | e | e
  · have ej : j = j / 3 * 3 := by omega
    rw [ej] at hu ⊢
    rw [hs.1]; rw [hc.1] at hu; exact hu
  · have ej : j = j / 3 * 3 + 1 := by omega
    rw [ej] at hu ⊢
    rw [← Nat.add_assoc, hs.2.1]; rw [hc.2.1] at hu; exact hu
  · have ej : j = j / 3 * 3 + 2 := by omega
    rw [ej] at hu ⊢
    rw [← Nat.add_assoc, hs.2.2]; rw [hc.2.2] at hu; exact hu
theorem TViewS7.src {w : World} {ao : Option Addr} {ts : List ThS7} (h : TViewS7 w ao ts) : SrcAt w 3 ao ts.length (tCellsS7 ts) := by
  refine ⟨tCells_lengthS7 ts, tCells_oneS7 ts, ?_⟩
  rcases h with h | ⟨b, off, rfl, _, hs⟩
  · subst h; exact Or.inl rfl
  · exact Or.inr ⟨_, rfl, hs.src⟩

theorem TRowS7.lt {base : Nat} {w : World} {g c : Nat} {ts : List ThS7} (h : TRowS7 base w g c ts) : base ≤ g ∧ g < w.heap.size := World.ownsRow.lt h g rfl
theorem TRowS7.seg {base : Nat} {w : World} {g c : Nat} {ts : List ThS7} (h : TRowS7 base w g c ts) : TSegS7 w g 0 ts := fun i hi => by
  have := tCells_atS7 ts i hi
  rw [Nat.zero_add, World.ownsRow.cellAt h _ (by omega), World.ownsRow.cellAt h _ (by omega), World.ownsRow.cellAt h _ (by omega)]
  exact this
theorem TRowS7.view {base : Nat} {w : World} {g c : Nat} {ts : List ThS7} (h : TRowS7 base w g c ts) : TViewS7 w (some ⟨g, 0, none⟩) ts := Or.inr ⟨g, 0, rfl, h.lt.2, h.seg⟩
theorem TRowS7.cap {base : Nat} {w : World} {g c : Nat} {ts : List ThS7} (h : TRowS7 base w g c ts) : ts.length ≤ c := by
  obtain ⟨_, ⟨h1, _⟩ | ⟨g', c', cur, h1, _, _, h2, _⟩⟩ := h
  · cases h1
  · injection h1 with e1 e2 e3
    omega
theorem TRowS7.mono {base base' : Nat} {w : World} {g c : Nat} {ts : List ThS7} (h : TRowS7 base w g c ts) (hb : base' ≤ base) : TRowS7 base' w g c ts :=
  ⟨h.1, h.2.imp id fun ⟨g, cap, cur, h1, h2, h3⟩ => ⟨g, cap, cur, h1, Nat.le_trans hb h2, h3⟩⟩
theorem TRowS7.kept {base : Nat} {w w' : World} {g c : Nat} {r : Option Nat} {ts : List ThS7} (h : TRowS7 base w g c ts) (hg : w.grownBy w' r) (hr : some g ≠ r) : TRowS7 base w' g c ts :=
  World.ownsRow.kept h hg (Or.inr hr)
theorem TRowS7.below {base B : Nat} {w w' : World} {g c : Nat} {ts : List ThS7} (h : TRowS7 base w g c ts) (hB : w.heap.size ≤ B) (hw : Below B w w') : TRowS7 base w' g c ts :=
  World.ownsRow.kept h (row := none) ⟨hw.os, hw.tape, hw.output, hw.size, fun i hi _ => hw.block i (Nat.lt_of_lt_of_le hi hB)⟩ (Or.inr (by simp [Value.ownBlock]))
theorem TRowS7.start (w : World) (base : Nat) (hb : base ≤ w.heap.size) : TRowS7 base (w.alloc (.cells #[] 92)) w.heap.size 0 [] := World.ownsRow_lit w #[] 0 hb (Nat.zero_le _) rfl
theorem TRowS7.of {base : Nat} {w : World} {g c n : Nat} {ts : List ThS7} {xs : List Value} (h : w.ownsRow base 92 3 (.slice (some ⟨g, 0, none⟩) n c) n xs) (hn : n = ts.length) (hx : xs = tCellsS7 ts) : TRowS7 base w g c ts := by
  subst hn hx; exact h
theorem TRowS7.snoc {base : Nat} {w : World} {g c : Nat} {ts : List ThS7} {t : ThS7} (h : w.ownsRow base 92 3 (.slice (some ⟨g, 0, none⟩) (ts.length + 1) c) (ts.length + 1) (tCellsS7 ts ++ tCellsS7 [t])) : TRowS7 base w g c (ts ++ [t]) := by
  unfold TRowS7
  rw [List.length_append, List.length_singleton, tCells_appendS7]
  exact h
theorem one_srcTS7 {w : World} {n : Nat} {t : ThS7} (hb : w.heap[n]? = some (.cells #[.int .i64 t.1, .int .i64 t.2.1, .int .i64 t.2.2] 92 (0, 0))) : SrcAt w 3 (some ⟨n, 0, none⟩) 1 (tCellsS7 [t]) :=
  ⟨rfl, tCells_oneS7 [t], Or.inr ⟨_, rfl, World.news_of_block (cs := #[.int .i64 t.1, .int .i64 t.2.1, .int .i64 t.2.2]) hb⟩⟩

end Go.Proofs.Ytbmljcpeonopmaa
