/-
  append(dst, src...) onto a row of the call's own, from whatever source, an empty one too (no program is named here).
  append([]T{}, src...): onto an empty row of no room, from a source that has something: a row of its own, new (no program is named here).
  append onto a slice of numbers that was cut ahead (todo = todo[1:]; todo = append(todo, ..)): of the call's own, from some place of its block on (no program is named here).
-/
import Derived.Test.YtfbhohpbhjlihaaGreatMCellsZz
import Derived.Deep.AppendLies
import Derived.Deep.AppendSrc
import Derived.Below
namespace Go.Proofs.YtfbhohpbhjlihaaGreat
open Go Go.RowKit

/-- What is appended: m elements, told by their cells, wherever they lie. -/
def SrcAt (w : World) (size : Nat) (ao : Option Addr) (m : Nat) (news : List Value) : Prop :=
  news.length = m * size ∧ (∀ u ∈ news, u.oneCell' = true) ∧ (m = 0 ∨ ∃ ad, ao = some ad ∧ ∀ j u, news[j]? = some u → w.cell? (ad.add j) = some u)

theorem run_append_at {P : Program} (w : World) (t ty : TypeId) (base : Nat) (e : TypeId) (i : TypeInfo) (z : Value) (size bytes : Nat) (ht : P.underlying t = some (.slice e)) (hi : P.info? e = some i) (hz : i.zero = some z)
    (hsize : i.size = size) (hby : i.bytes = bytes) (hzs : z.cells.size = size) (hsz : 0 < size)
    (g0 n c0 : Nat) (xs : List Value) (hown : w.ownsRow base e size (.slice (some ⟨g0, 0, none⟩) n c0) n xs)
    (ao : Option Addr) (m c : Nat) (news : List Value) (hs : SrcAt w size ao m news)
    (h63 : n + m ≤ maxLen) (hbytes : (n + m) * bytes ≤ 140737488355328) (hbase : base ≤ w.heap.size) (H : Nat) (hH : w.heap.size = H) :
    ∃ g cap w', (Builtin.append_ #[t, t] ty #[.slice (some ⟨g0, 0, none⟩) n c0, .slice ao m c]).run P w = .ok (.slice (some ⟨g, 0, none⟩) (n + m) cap) w' ∧
      w'.ownsRow base e size (.slice (some ⟨g, 0, none⟩) (n + m) cap) (n + m) (xs ++ news) ∧ w.grownBy w' (some g0) ∧ (g0 = g ∨ g = H) ∧ g < w'.heap.size := by
  obtain ⟨hl, h1, hc⟩ := hs
  rcases Nat.eq_zero_or_pos m with h0 | h0
  · subst h0
    obtain rfl : news = [] := List.eq_nil_of_length_eq_zero (by simpa using hl)
    have hcap : n + 0 ≤ c0 := by
      obtain ⟨_, ⟨h1, _⟩ | ⟨g', c', cur, h1, _, _, h2, _⟩⟩ := hown
      · cases h1
      · injection h1 with e1 e2 e3; omega
    have hsrc : Src P i.size t (.slice ao 0 c) 0 [] w := by
      cases ao with
      | none => exact Src.ofNil w ht c
      | some ad => exact Src.ofSlice w ht ad 0 c [] (by simp) (fun j u hu => by simp at hu) (fun u hu => by cases hu)
    have hr := run_append_room_src (P := P) w t t ty e i ht hi g0 0 n c0 (.slice ao 0 c) 0 [] hsrc hcap (fun j hj => by simp at hj) (fun j hj => by simp at hj)
    refine ⟨g0, c0, w, ?_, by simpa using hown, ⟨rfl, rfl, rfl, Nat.le_refl _, fun _ _ _ => rfl⟩, .inl rfl, (hown.lt g0 rfl).2⟩
    simpa [World.setCells] using hr
  · obtain ⟨ad, rfl, hnews⟩ : ∃ ad, ao = some ad ∧ ∀ j u, news[j]? = some u → w.cell? (ad.add j) = some u := by
      rcases hc with h | h
      · omega
      · exact h
    obtain ⟨g, cap, w', hr, h2, h3, h4, h5⟩ := run_append_lies (P := P) w t ty base e i z size bytes ht hi hz hsize hby hzs hsz _ n xs hown ad m c news hl hnews h1 h0 h63 hbytes hbase H hH
    refine ⟨g, cap, w', hr, h2, h3, ?_, h5⟩
    rcases h4 with h | h
    · left; simpa [Value.ownBlock] using h
    · exact .inr h

theorem wpList_append_at {P : Program} (w : World) {ops : Array Oper} {rest : List Oper} {o : Oper} {a : Act} {Q : Exit → Act → World → Prop} (hgd : o.guard = none) (s x : Operand) (t : TypeId)
    (ho : o.op = .call { callee := .builtin .append, args := #[s, x], argTypes := #[t, t] })
    (base : Nat) (e : TypeId) (i : TypeInfo) (z : Value) (size bytes : Nat) (ht : P.underlying t = some (.slice e)) (hi : P.info? e = some i) (hz : i.zero = some z)
    (hsize : i.size = size) (hby : i.bytes = bytes) (hzs : z.cells.size = size) (hsz : 0 < size)
    (g0 n c0 : Nat) (xs : List Value) (hs : a.eval s = .slice (some ⟨g0, 0, none⟩) n c0) (hown : w.ownsRow base e size (.slice (some ⟨g0, 0, none⟩) n c0) n xs)
    (ao : Option Addr) (m c : Nat) (news : List Value) (hx : a.eval x = .slice ao m c) (hsrc : SrcAt w size ao m news)
    (h63 : n + m ≤ maxLen) (hbytes : (n + m) * bytes ≤ 140737488355328) (hbase : base ≤ w.heap.size) (H : Nat) (hH : w.heap.size = H)
    (h : ∀ g cap w', w'.ownsRow base e size (.slice (some ⟨g, 0, none⟩) (n + m) cap) (n + m) (xs ++ news) → w.grownBy w' (some g0) → (g0 = g ∨ g = H) → g < w'.heap.size → wpList P ops Q rest (a.put o.dst (.slice (some ⟨g, 0, none⟩) (n + m) cap)) w') : wpList P ops Q (o :: rest) a w := by
  refine wpList_plain hgd fun _ hK => ?_
  obtain ⟨g, cap, w', hr, h2, h3, h4, h5⟩ := run_append_at (P := P) w t o.type base e i z size bytes ht hi hz hsize hby hzs hsz g0 n c0 xs hown ao m c news hsrc h63 hbytes hbase H hH
  unfold Oper.wp execOp
  simp only [ho, resolve, invoke, builtin, Sem.run_bind, Sem.run_pure, Result.andThen_ok, List.map_toArray, List.map_cons, List.map_nil, hs, hx, hr]
  exact hK _ _ (h g cap w' h2 h3 h4 h5)

/-- At a step of a region that draws its order. -/
theorem step_append_at {P : Program} (w : World) {ops : Array Oper} {o : Oper} {a : Act} {K : Act → World → Prop} {Q : Exit → Act → World → Prop} {E : Prop} (hgd : o.guard = none) (s x : Operand) (t : TypeId)
    (ho : o.op = .call { callee := .builtin .append, args := #[s, x], argTypes := #[t, t] })
    (base : Nat) (e : TypeId) (i : TypeInfo) (z : Value) (size bytes : Nat) (ht : P.underlying t = some (.slice e)) (hi : P.info? e = some i) (hz : i.zero = some z)
    (hsize : i.size = size) (hby : i.bytes = bytes) (hzs : z.cells.size = size) (hsz : 0 < size)
    (g0 n c0 : Nat) (xs : List Value) (hs : a.eval s = .slice (some ⟨g0, 0, none⟩) n c0) (hown : w.ownsRow base e size (.slice (some ⟨g0, 0, none⟩) n c0) n xs)
    (ao : Option Addr) (m c : Nat) (news : List Value) (hx : a.eval x = .slice ao m c) (hsrc : SrcAt w size ao m news)
    (h63 : n + m ≤ maxLen) (hbytes : (n + m) * bytes ≤ 140737488355328) (hbase : base ≤ w.heap.size) (H : Nat) (hH : w.heap.size = H)
    (h : ∀ g cap w', w'.ownsRow base e size (.slice (some ⟨g, 0, none⟩) (n + m) cap) (n + m) (xs ++ news) → w.grownBy w' (some g0) → (g0 = g ∨ g = H) → g < w'.heap.size → K (a.put o.dst (.slice (some ⟨g, 0, none⟩) (n + m) cap)) w') :
    if Region.wanted o (yielded ops a.tmps) = true then Oper.wp P o a w K Q else E := by
  have hw : Region.wanted o (yielded ops a.tmps) = true := by simp [Region.wanted, hgd]
  rw [if_pos hw]
  obtain ⟨g, cap, w', hr, h2, h3, h4, h5⟩ := run_append_at (P := P) w t o.type base e i z size bytes ht hi hz hsize hby hzs hsz g0 n c0 xs hown ao m c news hsrc h63 hbytes hbase H hH
  unfold Oper.wp execOp
  simp only [ho, resolve, invoke, builtin, Sem.run_bind, Sem.run_pure, Result.andThen_ok, List.map_toArray, List.map_cons, List.map_nil, hs, hx, hr]
  exact h g cap w' h2 h3 h4 h5

end Go.Proofs.YtfbhohpbhjlihaaGreat
namespace Go.Proofs.YtfbhohpbhjlihaaGreat
open Go Go.RowKit

/-- The cells R hold the elements news first, with room for cap. -/
def RowIs (R : Array Value) (size m cap : Nat) (news : List Value) : Prop := news.length = m * size ∧ m ≤ cap ∧ cap ≤ maxLen ∧ R.size = cap * size ∧ R.toList.take (m * size) = news
theorem RowIs.owns {R : Array Value} {size m cap : Nat} {news : List Value} (h : RowIs R size m cap news) {w : World} {base g : Nat} {e : TypeId} (hb : base ≤ g) (hg : w.heap[g]? = some (.cells R e)) : w.ownsRow base e size (.slice (some ⟨g, 0, none⟩) m cap) m news :=
  ⟨h.1, Or.inr ⟨g, cap, R, rfl, hb, hg, h.2.1, h.2.2.1, h.2.2.2.1, h.2.2.2.2⟩⟩
theorem heap_at_new {w : World} {o : Obj} {n : Nat} (h : w.heap.size = n) : (w.alloc o).heap[n]? = some o := by subst h; exact heap_alloc_new w o
theorem heap_at_past {w : World} {o x : Obj} {n : Nat} (h : w.heap[n]? = some x) : (w.alloc o).heap[n]? = some x := by
  have hn : n < w.heap.size := by
    rcases Nat.lt_or_ge n w.heap.size with h1 | h1
    · exact h1
    · rw [Array.getElem?_eq_none h1] at h; cases h
  exact ((Below.refl w.heap.size w).alloc (Nat.le_refl _) o).block n hn |>.trans h
theorem heap_at_drew {w : World} {x : Obj} {n : Nat} (h : w.heap[n]? = some x) : w.drew.heap[n]? = some x := h
theorem below_alloc {w w' : World} (h : Below w.heap.size w w') (o : Obj) : Below w.heap.size w (w'.alloc o) := h.alloc h.size o

theorem run_append_new {P : Program} (w : World) (t ty e : TypeId) (i : TypeInfo) (z : Value) (size bytes : Nat) (ht : P.underlying t = some (.slice e)) (hi : P.info? e = some i) (hz : i.zero = some z)
    (hsize : i.size = size) (hby : i.bytes = bytes) (hzs : z.cells.size = size)
    (dst : Option Addr) (ao : Option Addr) (m c : Nat) (news : List Value) (hs : SrcAt w size ao m news) (hm : 0 < m) (h63 : m ≤ maxLen) (hbytes : m * bytes ≤ 140737488355328) :
    ∃ cap R, (Builtin.append_ #[t, t] ty #[.slice dst 0 0, .slice ao m c]).run P w = .ok (.slice (some ⟨w.heap.size, 0, none⟩) m cap) (w.drew.alloc (.cells R e)) ∧ RowIs R size m cap news := by
  obtain ⟨hl, h1, hc⟩ := hs
  obtain ⟨ad, rfl, hnews⟩ : ∃ ad, ao = some ad ∧ ∀ j u, news[j]? = some u → w.cell? (ad.add j) = some u := by
    rcases hc with h | h
    · omega
    · exact h
  subst hsize hby
  have hold : (Builtin.firstCells i.size 0 (.slice dst 0 0)).run P w.drew = .ok (([] : List Value).toArray) w.drew := by
    cases dst with
    | none => exact run_firstCells_none w.drew i.size 0 0 0
    | some b => exact run_firstCells_some w.drew i.size 0 b 0 0 [] (by simp) (fun j v h => by simp at h)
  have hr := run_append_grow_src (P := P) w t t ty e i z ht hi hz dst 0 0 [] hold (.slice (some ad) m c) m news (Src.ofSlice w ht ad m c news hl hnews h1) (by omega) (by unfold maxLen at h63; omega) (growslice_fits (by omega) (by rw [Nat.zero_add]; exact hbytes))
  rw [Nat.zero_add] at hr
  have hG1 := grownCap_ge w m 0 e
  have hG2 := grownCap_le_maxLen w m 0 e h63
  refine ⟨_, _, hr, hl, hG1, hG2, ?_, by simp [hl]⟩
  simp only [List.nil_append, Array.size_append, List.size_toArray, hl, Builtin.zeroCells, Array.size_map, Array.size_range, hzs]
  rw [← Nat.add_mul]
  congr 1
  omega

theorem step_append_new {P : Program} (w : World) {ops : Array Oper} {o : Oper} {a : Act} {K : Act → World → Prop} {Q : Exit → Act → World → Prop} {E : Prop} (hgd : o.guard = none) (s x : Operand) (t : TypeId)
    (ho : o.op = .call { callee := .builtin .append, args := #[s, x], argTypes := #[t, t] })
    (e : TypeId) (i : TypeInfo) (z : Value) (size bytes : Nat) (ht : P.underlying t = some (.slice e)) (hi : P.info? e = some i) (hz : i.zero = some z)
    (hsize : i.size = size) (hby : i.bytes = bytes) (hzs : z.cells.size = size)
    (dst : Option Addr) (hs : a.eval s = .slice dst 0 0) (ao : Option Addr) (m c : Nat) (news : List Value) (hx : a.eval x = .slice ao m c) (hsrc : SrcAt w size ao m news)
    (hm : 0 < m) (h63 : m ≤ maxLen) (hbytes : m * bytes ≤ 140737488355328)
    (h : ∀ cap R, RowIs R size m cap news → K (a.put o.dst (.slice (some ⟨w.heap.size, 0, none⟩) m cap)) (w.drew.alloc (.cells R e))) :
    if Region.wanted o (yielded ops a.tmps) = true then Oper.wp P o a w K Q else E := by
  have hw : Region.wanted o (yielded ops a.tmps) = true := by simp [Region.wanted, hgd]
  rw [if_pos hw]
  obtain ⟨cap, R, hr, h2⟩ := run_append_new (P := P) w t o.type e i z size bytes ht hi hz hsize hby hzs dst ao m c news hsrc hm h63 hbytes
  unfold Oper.wp execOp
  simp only [ho, resolve, invoke, builtin, Sem.run_bind, Sem.run_pure, Result.andThen_ok, List.map_toArray, List.map_cons, List.map_nil, hs, hx, hr]
  exact h cap R h2

end Go.Proofs.YtfbhohpbhjlihaaGreat
namespace Go.Proofs.YtfbhohpbhjlihaaGreat
open Go Go.RowKit

theorem block_cell {w : World} {g : Nat} {cur : Array Value} {t : TypeId} (h : w.heap[g]? = some (.cells cur t)) (k : Nat) : w.cell? ⟨g, k, none⟩ = cur[k]? ∧ w.frozen? ⟨g, k, none⟩ = false := by
  simp [World.cell?, World.frozen?, h]
def CutRow (base : Nat) (w : World) (g off c : Nat) (xs : List Int) : Prop :=
  base ≤ g ∧ g < w.heap.size ∧ xs.length ≤ c ∧ (∀ j, j < c → (w.cell? ⟨g, off + j, none⟩).isSome = true ∧ w.frozen? ⟨g, off + j, none⟩ = false) ∧ ∀ i, i < xs.length → w.cell? ⟨g, off + i, none⟩ = some (.int .i64 (nth xs i))
theorem CutRow.same {base : Nat} {w w' : World} {g off c : Nat} {xs : List Int} (h : CutRow base w g off c xs) (hs : w.heap.size ≤ w'.heap.size) (e : w'.heap[g]? = w.heap[g]?) : CutRow base w' g off c xs := by
  have hc : ∀ k, w'.cell? ⟨g, k, none⟩ = w.cell? ⟨g, k, none⟩ := fun k => by simp [World.cell?, e]
  have hf : ∀ k, w'.frozen? ⟨g, k, none⟩ = w.frozen? ⟨g, k, none⟩ := fun k => by simp [World.frozen?, e]
  exact ⟨h.1, by have := h.2.1; omega, h.2.2.1, fun j hj => by rw [hc, hf]; exact h.2.2.2.1 j hj, fun i hi => by rw [hc]; exact h.2.2.2.2 i hi⟩
theorem CutRow.next {base B : Nat} {w w' : World} {g off c : Nat} {xs : List Int} (h : CutRow base w g off c xs) (hw : Below B w w') (hB : g < B) : CutRow base w' g off c xs := h.same hw.size (hw.block g hB)
theorem CutRow.tail {base : Nat} {w : World} {g off c : Nat} {x : Int} {xs : List Int} (h : CutRow base w g off c (x :: xs)) : CutRow base w g (off + 1) (c - 1) xs := by
  obtain ⟨h1, h2, h3, h4, h5⟩ := h
  simp at h3
  refine ⟨h1, h2, by omega, fun j hj => ?_, fun i hi => ?_⟩
  · have := h4 (j + 1) (by omega)
    rwa [show off + (j + 1) = off + 1 + j by omega] at this
  · have := h5 (i + 1) (by simp; omega)
    rw [show off + (i + 1) = off + 1 + i by omega] at this
    simpa [nth] using this
theorem CutRow.head {base : Nat} {w : World} {g off c : Nat} {x : Int} {xs : List Int} (h : CutRow base w g off c (x :: xs)) : w.cell? ⟨g, off, none⟩ = some (.int .i64 x) := by
  have := h.2.2.2.2 0 (by simp)
  simpa [nth] using this
theorem CutRow.one (w : World) (x : Int) (base : Nat) (hb : base ≤ w.heap.size) : CutRow base (w.alloc (.cells #[.int .i64 x] 2)) w.heap.size 0 1 [x] := by
  have hh := block_cell (heap_alloc_new w (.cells #[.int .i64 x] 2))
  refine ⟨hb, by simp, by simp, fun j hj => ?_, fun i hi => ?_⟩
  · obtain rfl : j = 0 := by omega
    rw [(hh 0).1, (hh 0).2]
    exact ⟨rfl, rfl⟩
  · simp at hi
    subst hi
    rw [(hh 0).1]
    rfl
theorem grown_setCells (b : Nat) : ∀ (vs : List Value) (o : Nat) (w : World), w.grownBy (w.setCells b o vs) (some b)
  | [], _, w => ⟨rfl, rfl, rfl, Nat.le_refl _, fun _ _ _ => rfl⟩
  | v :: r, o, w => by
    have h := grown_setCells b r (o + 1) (w.setCell ⟨b, o, none⟩ v)
    rw [World.setCells]
    refine ⟨h.os, h.tape, h.output, by have := h.size; simpa [World.setCell] using this, fun k hk hne => ?_⟩
    rw [h.block k (by simpa [World.setCell] using hk) hne]
    exact Below.heap_setCell w ⟨b, o, none⟩ v k (fun e => hne (by rw [e]))

theorem run_append_cut {P : Program} (w : World) (t ty : TypeId) (base : Nat) (i : TypeInfo) (ht : P.underlying t = some (.slice 2)) (hi : P.info? 2 = some i) (hz : i.zero = some (.int .i64 0)) (hsize : i.size = 1) (hby : i.bytes = 8)
    (g off c0 : Nat) (xs ys : List Int) (hown : CutRow base w g off c0 xs) (ao : Option Addr) (c : Nat) (hv : ys = [] ∨ ∃ b o, ao = some ⟨b, o, none⟩ ∧ ∀ j, j < ys.length → w.cell? ⟨b, o + j, none⟩ = some (.int .i64 (nth ys j)))
    (hm : xs.length + ys.length ≤ 1048576) (hbase : base ≤ w.heap.size) :
    ∃ g' off' c' w', (Builtin.append_ #[t, t] ty #[.slice (some ⟨g, off, none⟩) xs.length c0, .slice ao ys.length c]).run P w = .ok (.slice (some ⟨g', off', none⟩) (xs.length + ys.length) c') w' ∧
      CutRow base w' g' off' c' (xs ++ ys) ∧ w.grownBy w' (some g) ∧ (g' = g ∨ g' = w.heap.size) := by
  obtain ⟨h1, h2, h3, h4, h5⟩ := hown
  have hsrc : Src P i.size t (.slice ao ys.length c) ys.length (ys.map (Value.int .i64)) w := by
    rcases hv with rfl | ⟨b, o, rfl, hc⟩
    · cases ao with
      | none => exact Src.ofNil w ht c
      | some ad => exact Src.ofSlice w ht ad 0 c [] (by simp) (fun j u hu => by simp at hu) (fun u hu => by cases hu)
    · refine Src.ofSlice w ht ⟨b, o, none⟩ ys.length c (ys.map (Value.int .i64)) (by rw [hsize]; simp) (fun j u hu => ?_) (fun u hu => ?_)
      · rw [List.getElem?_map] at hu
        rcases Nat.lt_or_ge j ys.length with hj | hj
        · rw [List.getElem?_eq_getElem hj] at hu
          simp at hu
          rw [Addr.add_lit, hc j hj, ← hu]
          simp [nth, List.getD, hj]
        · rw [List.getElem?_eq_none hj] at hu; cases hu
      · obtain ⟨y, _, rfl⟩ := List.mem_map.1 hu
        rfl
  have hnth : ∀ j, nth (xs ++ ys) j = if j < xs.length then nth xs j else nth ys (j - xs.length) := fun j => by
    by_cases hj : j < xs.length
    · simp [nth, List.getD, hj, List.getElem?_append_left hj]
    · simp [nth, List.getD, hj, List.getElem?_append_right (Nat.le_of_not_lt hj)]
  by_cases hroom : xs.length + ys.length ≤ c0
  · have hr := run_append_room_src (P := P) w t t ty 2 i ht hi g off xs.length c0 (.slice ao ys.length c) ys.length (ys.map (Value.int .i64)) hsrc hroom
      (fun j hj => by rw [hsize, Nat.mul_one, Nat.add_assoc]; simp at hj; exact (h4 (xs.length + j) (by omega)).1)
      (fun j hj => by rw [hsize, Nat.mul_one, Nat.add_assoc]; simp at hj; exact (h4 (xs.length + j) (by omega)).2)
    rw [hsize, Nat.mul_one] at hr
    have hgr := grown_setCells g (ys.map (Value.int .i64)) (off + xs.length) w
    have hin := World.cell?_setCells_in g (ys.map (Value.int .i64)) (off + xs.length) w (fun j hj => by rw [Nat.add_assoc]; simp at hj; exact (h4 (xs.length + j) (by omega)).1)
    have hcell : ∀ k, k < xs.length + ys.length → (w.setCells g (off + xs.length) (ys.map (Value.int .i64))).cell? ⟨g, off + k, none⟩ = some (.int .i64 (nth (xs ++ ys) k)) := fun k hk => by
      rw [hnth]
      by_cases hx : k < xs.length
      · rw [if_pos hx, World.cell?_setCells_out g _ _ _ _ (fun _ _ => Or.inl (by show off + k < _; omega))]
        exact h5 k hx
      · rw [if_neg hx]
        have := hin (k - xs.length) (by simp; omega)
        rw [show off + xs.length + (k - xs.length) = off + k by omega] at this
        rw [this]
        have hk' : k - xs.length < ys.length := by omega
        simp [nth, List.getD, hk']
    refine ⟨g, off, c0, _, hr, ⟨h1, by have := hgr.size; omega, by simp; omega, fun j hj => ⟨?_, ?_⟩, fun k hk => hcell k (by simpa using hk)⟩, hgr, Or.inl rfl⟩
    · by_cases hx : j < xs.length + ys.length
      · rw [hcell j hx]; rfl
      · rw [World.cell?_setCells_out g _ _ _ _ (fun _ _ => Or.inr (by show _ ≤ off + j; simp; omega))]
        exact (h4 j hj).1
    · rw [World.frozen?_setCells]
      exact (h4 j hj).2
  · have holds : (Builtin.firstCells i.size xs.length (.slice (some ⟨g, off, none⟩) xs.length c0)).run P w.drew = .ok (xs.map (Value.int .i64)).toArray w.drew :=
      run_firstCells_some w.drew i.size xs.length ⟨g, off, none⟩ xs.length c0 (xs.map (Value.int .i64)) (by rw [hsize]; simp) (fun j u hu => by
        rw [List.getElem?_map] at hu
        rcases Nat.lt_or_ge j xs.length with hj | hj
        · rw [List.getElem?_eq_getElem hj] at hu
          simp at hu
          rw [Addr.add_lit]
          have := h5 j hj
          rw [← hu]
          simpa [nth, List.getD, hj] using this
        · rw [List.getElem?_eq_none hj] at hu; cases hu)
    have hr := run_append_grow_src (P := P) w t t ty 2 i (.int .i64 0) ht hi hz (some ⟨g, off, none⟩) xs.length c0 (xs.map (Value.int .i64)) holds (.slice ao ys.length c) ys.length (ys.map (Value.int .i64)) hsrc (by omega) (by omega) (by rw [hby]; exact growslice_fits (by omega) (by omega))
    obtain ⟨C, hC⟩ : ∃ C, grownCap w (xs.length + ys.length) c0 2 = C := ⟨_, rfl⟩
    have hge := grownCap_ge w (xs.length + ys.length) c0 2
    rw [hC] at hr hge
    have hh := heap_alloc_new w.drew (.cells ((xs.map (Value.int .i64) ++ ys.map (Value.int .i64)).toArray ++ Builtin.zeroCells (Value.int .i64 0).cells (C - (xs.length + ys.length))) 2)
    have hsz : (((xs.map (Value.int .i64) ++ ys.map (Value.int .i64)).toArray ++ Builtin.zeroCells (Value.int .i64 0).cells (C - (xs.length + ys.length)))).size = C := by
      rw [Array.size_append, size_zeroCells]
      simp [Value.cells]
      omega
    have hgr : w.grownBy (w.drew.alloc (.cells ((xs.map (Value.int .i64) ++ ys.map (Value.int .i64)).toArray ++ Builtin.zeroCells (Value.int .i64 0).cells (C - (xs.length + ys.length))) 2)) (some g) := ⟨rfl, rfl, rfl, by simp, fun k hk _ => heap_alloc_old w.drew _ hk⟩
    obtain ⟨w', hw'⟩ : ∃ w', w.drew.alloc (.cells ((xs.map (Value.int .i64) ++ ys.map (Value.int .i64)).toArray ++ Builtin.zeroCells (Value.int .i64 0).cells (C - (xs.length + ys.length))) 2) = w' := ⟨_, rfl⟩
    have hlt : w.heap.size < w'.heap.size := by rw [← hw']; simp
    rw [hw'] at hr hh hgr
    have hb := block_cell (g := w.heap.size) hh
    clear hw' hh
    refine ⟨w.heap.size, 0, C, w', hr, ⟨hbase, hlt, by simp; omega, fun j hj => ⟨?_, (hb _).2⟩, fun k hk => ?_⟩, hgr, Or.inr rfl⟩
    · rw [(hb _).1, Nat.zero_add, Array.getElem?_eq_getElem (by rw [hsz]; exact hj)]
      rfl
    · rw [(hb _).1, Nat.zero_add, ← List.map_append, Array.getElem?_append_left (by simpa using hk)]
      rw [List.getElem?_toArray, List.getElem?_map, List.getElem?_eq_getElem hk]
      simp only [nth, List.getD, List.getElem?_eq_getElem hk]
      rfl

theorem View.src14 {w : World} {ao : Option Addr} {ys : List Int} (h : View w ao ys) : ys = [] ∨ ∃ b o, ao = some ⟨b, o, none⟩ ∧ ∀ j, j < ys.length → w.cell? ⟨b, o + j, none⟩ = some (.int .i64 (nth ys j)) :=
  h.imp id fun ⟨b, o, e, _, hs⟩ => ⟨b, o, e, hs⟩
/-- At a step of a region that draws its order. -/
theorem step_append_cut {P : Program} (w : World) {ops : Array Oper} {o : Oper} {a : Act} {K : Act → World → Prop} {Q : Exit → Act → World → Prop} {E : Prop} (hgd : o.guard = none) (s x : Operand) (t : TypeId)
    (ho : o.op = .call { callee := .builtin .append, args := #[s, x], argTypes := #[t, t] })
    (base : Nat) (i : TypeInfo) (ht : P.underlying t = some (.slice 2)) (hi : P.info? 2 = some i) (hz : i.zero = some (.int .i64 0)) (hsize : i.size = 1) (hby : i.bytes = 8)
    (g off c0 : Nat) (xs ys : List Int) (hs : a.eval s = .slice (some ⟨g, off, none⟩) xs.length c0) (hown : CutRow base w g off c0 xs) (ao : Option Addr) (c : Nat) (hx : a.eval x = .slice ao ys.length c) (hv : ys = [] ∨ ∃ b o, ao = some ⟨b, o, none⟩ ∧ ∀ j, j < ys.length → w.cell? ⟨b, o + j, none⟩ = some (.int .i64 (nth ys j)))
    (hm : xs.length + ys.length ≤ 1048576) (hbase : base ≤ w.heap.size)
    (h : ∀ g' off' c' w', CutRow base w' g' off' c' (xs ++ ys) → w.grownBy w' (some g) → (g' = g ∨ g' = w.heap.size) → K (a.put o.dst (.slice (some ⟨g', off', none⟩) (xs.length + ys.length) c')) w') :
    if Region.wanted o (yielded ops a.tmps) = true then Oper.wp P o a w K Q else E := by
  have hw : Region.wanted o (yielded ops a.tmps) = true := by simp [Region.wanted, hgd]
  rw [if_pos hw]
  obtain ⟨g', off', c', w', hr, h2, h3, h4⟩ := run_append_cut (P := P) w t o.type base i ht hi hz hsize hby g off c0 xs ys hown ao c hv hm hbase
  unfold Oper.wp execOp
  simp only [ho, resolve, invoke, builtin, Sem.run_bind, Sem.run_pure, Result.andThen_ok, List.map_toArray, List.map_cons, List.map_nil, hs, hx, hr]
  exact h g' off' c' w' h2 h3 h4

end Go.Proofs.YtfbhohpbhjlihaaGreat
