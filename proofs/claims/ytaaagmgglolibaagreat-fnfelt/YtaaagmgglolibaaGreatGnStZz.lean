import Derived.Test.YtaaagmgglolibaaGreatGnCpyZz
import Derived.Test.YtaaagmgglolibaaGreatTwArgsZz
import Derived.Test.YtaaagmgglolibaaGreatMRowZz
import Derived.Test.YtaaagmgglolibaaGreatLastZz
import Derived.Test.YtaaagmgglolibaaGreatFeHelpZz
set_option maxRecDepth 100000
set_option maxHeartbeats 16000000
namespace Go.Proofs.YtaaagmgglolibaaGreat
open Go Go.RowKit
theorem Zc7 {w : World} {q : Nat} {a b c d e a' b' c' d' e' : Value} {t : TypeId} (h : w.heap[q]? = some (.cells #[a, b, c, d, e] t)) : (((((w.setCell ⟨q, 0, none⟩ a').setCell ⟨q, 1, none⟩ b').setCell ⟨q, 2, none⟩ c').setCell ⟨q, 3, none⟩ d').setCell ⟨q, 4, none⟩ e').heap[q]? = some (.cells #[a', b', c', d', e'] t) := by
 simp [World.setCell, Array.getElem?_modify, h]
theorem Zci {w : World} {q b : Nat} {a' b' c' d' e' : Value} (h : b ≠ q) : (((((w.setCell ⟨q, 0, none⟩ a').setCell ⟨q, 1, none⟩ b').setCell ⟨q, 2, none⟩ c').setCell ⟨q, 3, none⟩ d').setCell ⟨q, 4, none⟩ e').heap[b]? = w.heap[b]? := by
 rw [Below.heap_setCell _ ⟨q, 4, none⟩ _ b h, Below.heap_setCell _ ⟨q, 3, none⟩ _ b h, Below.heap_setCell _ ⟨q, 2, none⟩ _ b h, Below.heap_setCell _ ⟨q, 1, none⟩ _ b h, Below.heap_setCell _ ⟨q, 0, none⟩ _ b h]
theorem Zhi (ds : List Dm) : ∀ u ∈ ZK ds, u.oneCell' = true := by
 induction ds with
 | nil => intro u hu; cases hu
 | cons d ds ih =>
   intro u hu
   simp only [ZK, List.mem_cons] at hu
   rcases hu with rfl | rfl | hu
   · rfl
   · rfl
   · exact ih u hu
theorem Zhj {base : Nat} {w : World} {g c n : Nat} {ds es : List Dm} (h : w.ownsRow base 29 2 (.slice (some ⟨g, 0, none⟩) n c) n (ZK ds)) (k : Nat) (hk : k + es.length <= n) (he : ∀ i, i < es.length -> ZD es i = ZD ds (k + i)) (hd : ds.length = n) : Zai w 2 (some ⟨g, k * 2, none⟩) es.length (ZK es) :=
 ⟨Zdq es, Zhi es, Or.inr ⟨_, rfl, fun j u hu => by
  rw [Go.WideShapes.add_plain]
  have hj : j < es.length * 2 := by
   rcases Nat.lt_or_ge j (es.length * 2) with h1 | h1
   · exact h1
   · rw [List.getElem?_eq_none (by rw [Zdq]; exact h1)] at hu; cases hu
  have hi : j / 2 < es.length := by omega
  obtain ⟨a0, a1⟩ := Zeb es (j / 2) hi
  obtain ⟨b0, b1⟩ := Zeb ds (k + j / 2) (by omega)
  rw [<- he _ hi] at b0 b1
  rcases Nat.mod_two_eq_zero_or_one j with e | e
  · have ej : j = j / 2 * 2 := by omega
    rw [<- hu]
    have := World.ownsRow.cellAt h ((k + j / 2) * 2) (by omega)
    rw [b0, <- a0, <- ej] at this
    rw [show k * 2 + j = (k + j / 2) * 2 by omega]
    exact this
  · have ej : j = j / 2 * 2 + 1 := by omega
    rw [<- hu]
    have := World.ownsRow.cellAt h ((k + j / 2) * 2 + 1) (by omega)
    rw [b1, <- a1, <- ej] at this
    rw [show k * 2 + j = (k + j / 2) * 2 + 1 by omega]
    exact this⟩⟩
theorem ZdV {w w' : World} {size m g off : Nat} {news : List Value} (h : Zai w size (some ⟨g, off, none⟩) m news) (e : w'.heap[g]? = w.heap[g]?) : Zai w' size (some ⟨g, off, none⟩) m news := by
 obtain ⟨h1, h2, h3 | ⟨ad, e1, h4⟩⟩ := h
 · exact ⟨h1, h2, Or.inl h3⟩
 · refine ⟨h1, h2, Or.inr ⟨ad, e1, fun j u hu => ?_⟩⟩
   have := h4 j u hu
   injection e1 with e1
   rw [<- e1, Go.WideShapes.add_plain] at this ⊢
   exact (World.cell?_of_block (a := ⟨g, off + j, none⟩) e).trans this
theorem Zio (ds : List Dm) (k i : Nat) (h : i < k) : ZD (ds.take k) i = ZD ds i := by simp [ZD, List.getD, h]
theorem Zip (ds : List Dm) (k i : Nat) : ZD (ds.drop k) i = ZD ds (k + i) := by simp [ZD, List.getD]
def kpB (wd nx d : Int) (p : List Int) (ts : List Wb) : Bool := okB p && decide ((p.length : Int) = wd) && !decide (nx = 1000000) && ZeN (nx, p) ts d
theorem ZbE {base : Nat} {w w' : World} {g c : Nat} {xs : List Int} (h : Z9 base w g c xs) (e : w'.heap[g]? = w.heap[g]?) : Z9 base w' g c xs := Zb6 h (fun q hq => by injection hq with hq; rw [<- hq]; exact e)
theorem ZaG.step {base : Nat} {w w2 : World} {a : Option Addr} {ts : List Wb} (h : ZaG base w a ts) (hs : w.heap.size <= w2.heap.size) (e : ∀ b, base <= b -> b < w.heap.size -> w2.heap[b]? = w.heap[b]?) : ZaG base w2 a ts :=
 fun w' h1 h2 => h w' (Nat.le_trans hs h1) (fun b hb1 hb2 => (h2 b hb1 (by omega)).trans (e b hb1 hb2))
theorem Zec {base base' : Nat} {w : World} {a : Option Addr} {ts : List Wb} (h : ZaG base w a ts) (hb : base' <= base) : ZaG base' w a ts :=
 fun w' h1 h2 => h w' h1 (fun b hb1 hb2 => h2 b (by omega) hb2)
theorem ZjX {base base' X : Nat} {w w2 : World} {a : Option Addr} {ts : List Wb} (h : ZaG base w a ts) (hX : X < base) (hb : base' <= base) (_ : base' <= X) (hs : w.heap.size <= w2.heap.size) (e : ∀ b, b ≠ X -> w2.heap[b]? = w.heap[b]?) : ZaG base' w2 a ts :=
 Zec (h.step hs (fun b h1 _ => e b (by omega))) hb
theorem Ziq {base D : Nat} {w w' : World} {g c : Nat} {ds : List Dm} (h : Z8 base w g c ds) (_ : w.heap.size <= w'.heap.size) (e : ∀ b, base <= b -> b < w.heap.size -> b ≠ D -> w'.heap[b]? = w.heap[b]?) (hg : g ≠ D) (hp : ∀ x ∈ ds, x.2.1 ≠ D) : Z8 base w' g c ds :=
 ⟨Zam h.1 (e g h.lt.1 h.lt.2 hg), fun d hd => ⟨(h.2.1 d hd).1.same (e d.2.1 (h.2.1 d hd).1.lt2.1 (h.2.1 d hd).1.lt2.2 (hp d hd)), (h.2.1 d hd).2⟩, h.2.2⟩
structure DRV (base : Nat) (w : World) (ag : Option Addr) (c : Nat) (og : Option Nat) (ds : List Dm) : Prop where
 row : w.ownsRow base 29 2 (.slice ag ds.length c) ds.length (ZK ds)
 own : (Value.slice ag ds.length c).ownBlock = og
 rows : ∀ d ∈ ds, Row base w d.2.1 d.2.2.1 d.2.2.2 /\ og ≠ some d.2.1
 rise : ds.Pairwise (fun d e => d.2.1 < e.2.1)
theorem DRV.lt {base : Nat} {w : World} {ag : Option Addr} {c : Nat} {og : Option Nat} {ds : List Dm} (h : DRV base w ag c og ds) : ∀ b, og = some b -> b < w.heap.size := fun b e => (World.ownsRow.lt h.row b (h.own.trans e)).2
theorem DRV.ge {base : Nat} {w : World} {ag : Option Addr} {c : Nat} {og : Option Nat} {ds : List Dm} (h : DRV base w ag c og ds) : ∀ b, og = some b -> base <= b := fun b e => (World.ownsRow.lt h.row b (h.own.trans e)).1
theorem DRV.nil (base : Nat) (w : World) : DRV base w none 0 none [] := ⟨⟨rfl, Or.inl ⟨rfl, rfl⟩⟩, rfl, fun d hd => (by cases hd), List.Pairwise.nil⟩
theorem Z8.drv {base : Nat} {w : World} {g c : Nat} {ds : List Dm} (h : Z8 base w g c ds) : DRV base w (some ⟨g, 0, none⟩) c (some g) ds := ⟨h.1, rfl, fun d hd => ⟨(h.2.1 d hd).1, fun e => (h.2.1 d hd).2 (by injection e with e; exact e.symm)⟩, h.2.2⟩
theorem DRV.cases {base : Nat} {w : World} {ag : Option Addr} {c : Nat} {og : Option Nat} {ds : List Dm} (h : DRV base w ag c og ds) : (ag = none /\ c = 0 /\ og = none /\ ds = []) \/ ∃ g, ag = some ⟨g, 0, none⟩ /\ og = some g /\ Z8 base w g c ds := by
 obtain ⟨h1, h2 | ⟨g, cap, cur, e, h3⟩⟩ := h.row
 · obtain ⟨e, h2⟩ := h2
   injection e with e1 e2 e3
   subst e1; subst e3
   exact Or.inl ⟨rfl, rfl, h.own.symm, List.length_eq_zero_iff.1 h2⟩
 · have e' := e
   injection e with e1 e2 e3
   subst e1; subst e3
   have ho : og = some g := h.own.symm
   exact Or.inr ⟨g, rfl, ho, h.row, fun d hd => ⟨(h.rows d hd).1, fun e => (h.rows d hd).2 (by rw [ho, e])⟩, h.rise⟩
theorem DRV.cap {base : Nat} {w : World} {ag : Option Addr} {c : Nat} {og : Option Nat} {ds : List Dm} (h : DRV base w ag c og ds) : ds.length <= c := by
 rcases h.cases with ⟨-, rfl, -, rfl⟩ | ⟨g, -, -, h⟩
 · exact Nat.le_refl _
 · exact h.cap
theorem DRV.view {base : Nat} {w : World} {ag : Option Addr} {c : Nat} {og : Option Nat} {ds : List Dm} (h : DRV base w ag c og ds) : Zw w ag (Zs ds) := by
 rcases h.cases with ⟨rfl, -, -, rfl⟩ | ⟨g, rfl, -, h⟩
 · exact Or.inl rfl
 · exact h.view
theorem DRV.noD {base D : Nat} {w : World} {ag : Option Addr} {c : Nat} {og : Option Nat} {ds : List Dm} {cs : Array Value} {t : TypeId} (h : DRV base w ag c og ds) (hD : w.heap[D]? = some (.cells cs t)) (ht : t ≠ 29) : og ≠ some D := fun e => by
 rcases h.cases with ⟨-, -, ho, -⟩ | ⟨g, -, ho, h⟩
 · rw [ho] at e; cases e
 · rw [ho] at e
   injection e with e
   obtain ⟨-, ⟨h2, -⟩ | ⟨q, cap, cur, h2, -, h3, -⟩⟩ := h.1
   · cases h2
   · injection h2 with h2; injection h2 with h2; injection h2 with h2
     rw [<- h2, e, hD] at h3
     injection h3 with h3; injection h3 with _ h3
     exact ht h3
theorem Zhk {base : Nat} {w w' : World} {ag : Option Addr} {c : Nat} {og : Option Nat} {ds : List Dm} (h : DRV base w ag c og ds) (eg : ∀ b, og = some b -> w'.heap[b]? = w.heap[b]?) (ep : ∀ d ∈ ds, w'.heap[d.2.1]? = w.heap[d.2.1]?) : DRV base w' ag c og ds :=
 ⟨Zb6 h.row (fun g e => eg g (h.own.symm.trans e)), h.own, fun d hd => ⟨Zb6 (h.rows d hd).1 (fun q e => by
  have e' : some d.2.1 = some q := e
  injection e' with e'
  rw [<- e']; exact ep d hd), (h.rows d hd).2⟩, h.rise⟩
theorem ZdM {base : Nat} {w w' : World} {ag : Option Addr} {c : Nat} {og : Option Nat} {ds : List Dm} (h : DRV base w ag c og ds) (e : ∀ b, base <= b -> b < w.heap.size -> w'.heap[b]? = w.heap[b]?) : DRV base w' ag c og ds :=
 Zhk h (fun b hb => e b (h.ge b hb) (h.lt b hb)) (fun d hd => e _ (h.rows d hd).1.lt2.1 (h.rows d hd).1.lt2.2)
theorem Zi3 {base D : Nat} {w w' : World} {ag : Option Addr} {c : Nat} {og : Option Nat} {ds : List Dm} (h : DRV base w ag c og ds) (e : ∀ b, base <= b -> b < w.heap.size -> b ≠ D -> w'.heap[b]? = w.heap[b]?) (hg : og ≠ some D) (hp : ∀ x ∈ ds, x.2.1 ≠ D) : DRV base w' ag c og ds :=
 Zhk h (fun b hb => e b (h.ge b hb) (h.lt b hb) (fun q => hg (by rw [hb, q]))) (fun d hd => e _ (h.rows d hd).1.lt2.1 (h.rows d hd).1.lt2.2 (hp d hd))
theorem DRV.snoc {base : Nat} {w w' : World} {ag : Option Addr} {c gg cc b cp : Nat} {og : Option Nat} {id : Int} {xs : List Int} {ds : List Dm} (h : DRV base w ag c og ds)
 (hrow : Row base w b cp xs) (hbg : og ≠ some b) (hlast : ∀ d ∈ ds, d.2.1 < b)
 (hown : w'.ownsRow base 29 2 (.slice (some ⟨gg, 0, none⟩) (ds.length + 1) cc) (ds.length + 1) (ZK ds ++ [.int .i64 id, .slice (some ⟨b, 0, none⟩) xs.length cp]))
 (hg : w.grownBy w' og) (hgg : og = some gg \/ gg = w.heap.size) : Z8 base w' gg cc (ds ++ [(id, b, cp, xs)]) := by
 have hnew : ∀ d : Dm, Row base w d.2.1 d.2.2.1 d.2.2.2 -> og ≠ some d.2.1 -> Row base w' d.2.1 d.2.2.1 d.2.2.2 /\ d.2.1 ≠ gg := fun d hd hne =>
  ⟨World.ownsRow.kept hd hg (Or.inr (by intro e; exact hne e.symm)), by
   have := hd.lt2
   rcases hgg with e | e
   · intro q; exact hne (by rw [e, q])
   · rw [e]; omega⟩
 refine ⟨?_, fun d hd => ?_, ?_⟩
 · rw [ZbB, List.length_append]; exact hown
 · rcases List.mem_append.1 hd with hd | hd
   · exact hnew d (h.rows d hd).1 (h.rows d hd).2
   · rw [List.mem_singleton.1 hd]; exact hnew (id, b, cp, xs) hrow hbg
 · rw [List.pairwise_append]
   exact ⟨h.rise, by simp, fun d hd e he => by rw [List.mem_singleton.1 he]; exact hlast d hd⟩
theorem Zhl {base base2 : Nat} {w w' : World} {ag : Option Addr} {c gg cc : Nat} {og : Option Nat} {ds es : List Dm} (h : DRV base w ag c og ds) (hs : es.Sublist ds) (hown : w'.ownsRow base2 29 2 (.slice (some ⟨gg, 0, none⟩) es.length cc) es.length (ZK es)) (hb : base <= base2) (hg : w.heap.size <= gg) (e : ∀ d ∈ ds, w'.heap[d.2.1]? = w.heap[d.2.1]?) : Z8 base w' gg cc es :=
 ⟨⟨hown.1, hown.2.imp id fun ⟨g, cap, cur, h1, h2, h3⟩ => ⟨g, cap, cur, h1, Nat.le_trans hb h2, h3⟩⟩, fun d hd => ⟨Zb6 (h.rows d (hs.subset hd)).1 (fun q e' => by
  have e'' : some d.2.1 = some q := e'
  injection e'' with e''
  rw [<- e'']; exact e d (hs.subset hd)), by have := (h.rows d (hs.subset hd)).1.lt2; omega⟩, h.rise.sublist hs⟩
theorem Zna (base D c : Nat) (ag : Option Addr) (og : Option Nat) (ds : List Dm) (wd d nx : Int) (va0 : Option Addr) (vc0 : Nat) (ts : List Wb) (ap : Option Addr) (cp : Nat) (p : List Int) (w : World) (hD : w.heap[D]? = some (.cells #[.int .i64 wd, .slice ag ds.length c, .int .i64 d, .slice va0 ts.length vc0, .int .i64 nx] 52)) (hr : DRV base w ag c og ds) (hb0 : base <= w.heap.size) (hv : ZC true w va0 ts) (hp : Zp w ap p) (hpl : p.length <= 1048576) (hok : ZX d ts = true) (hsm : ZaY ts) (hn : ds.length <= 60) (hDp : ∀ x ∈ ds, x.2.1 ≠ D) (hnb : 0 <= nx /\ nx <= 1000000) :
 Calls Tryz.prog 135 #[.pointer (some ⟨D, 0, none⟩), .slice ap p.length cp] w fun e w' => (kpB wd nx d p ts = false -> e = .returned (.int .i64 (-1)) /\ Below w.heap.size w w') /\ (kpB wd nx d p ts = true -> e = .returned (.int .i64 nx) /\ ∃ g c2 va vc, w'.heap[D]? = some (.cells #[.int .i64 wd, .slice (some ⟨g, 0, none⟩) (ds.length + 1) c2, .int .i64 (ZeO (nx, p) ts d), .slice va (Zdk (nx, p) ts d).length vc, .int .i64 (nx + 1)] 52) /\ (∃ gp' cq', Z8 base w' g c2 (ds ++ [(nx, gp', cq', p)]) /\ (∀ x ∈ ds ++ [(nx, gp', cq', p)], x.2.1 ≠ D)) /\ ZaG w.heap.size w' va (Zdk (nx, p) ts d) /\ Cgd (fun b => b = D \/ og = some b) w w') := by
 obtain ⟨i0, hi0, hx0, hx1, hx2⟩ := info_parts Tryz.info2
 obtain ⟨j0, hj0, hy0, hy1, hy2⟩ := info_parts Tryz.info29
 obtain ⟨e0, e1, e2, e3, e4, ef, hDl⟩ := Zo hD
 have HOKP := Za (sOk ap cp p w hp hpl)
 rcases hkp : okB p with _ | _
 · have HNO : Hid (kpB wd nx d p ts = false) := by show _ = _; unfold kpB; rw [hkp]; rfl
   rw [hkp] at HOKP
   go_enter Tryz.func135, Tryz.ntmps135
   go_wp2_with fail
   refine HOKP.out.mono ?_
   rintro e W1 ⟨rfl, hW1⟩
   subst hW1
   go_wp2_with fail
   go_ret
   exact ⟨fun _ => ⟨rfl, Below.refl _ _⟩, fun h => by rw [HNO.out] at h; cases h⟩
 rw [hkp] at HOKP
 by_cases hlw : ¬ (p.length : Int) = wd
 · have HNO : Hid (kpB wd nx d p ts = false) := by show _ = _; unfold kpB; rw [hkp, decide_eq_false hlw]; rfl
   have hne : ((p.length : Int) != wd) = true := by simp; exact hlw
   go_enter Tryz.func135, Tryz.ntmps135
   go_wp2_with fail
   refine HOKP.out.mono ?_
   rintro e W1 ⟨rfl, hW1⟩
   subst hW1
   go_wp2_with fail
   go_ret
   exact ⟨fun _ => ⟨rfl, Below.refl _ _⟩, fun h => by rw [HNO.out] at h; cases h⟩
 replace hlw : (p.length : Int) = wd := Classical.not_not.1 hlw
 have hnw : ((p.length : Int) != wd) = false := by simp; exact hlw
 by_cases hnx : nx = 1000000
 · have HNO : Hid (kpB wd nx d p ts = false) := by show _ = _; unfold kpB; rw [decide_eq_true hnx]; simp
   have hne : (nx == 1000000) = true := by simp; exact hnx
   clear hnx
   go_enter Tryz.func135, Tryz.ntmps135
   go_wp2_with fail
   refine HOKP.out.mono ?_
   rintro e W1 ⟨rfl, hW1⟩
   subst hW1
   go_wp2_with fail
   go_ret
   exact ⟨fun _ => ⟨rfl, Below.refl _ _⟩, fun h => by rw [HNO.out] at h; cases h⟩
 have hnn : (nx == 1000000) = false := by simp; exact hnx
 have HKB : Hid (kpB wd nx d p ts = ZeN (nx, p) ts d) := by show _ = _; unfold kpB; rw [hkp, decide_eq_true hlw, decide_eq_false hnx]; rfl
 have hp1 := Zbz hkp
 have HPV := Za hp
 have HV := Za hv
 have HR := Za hr
 have HD := Za hD
 have HDP := Za hDp
 have HNB := Za hnb
 have HOK := Za (And.intro hok hsm)
 have hbw := hb0
 have hgm : ∀ b, og = some b -> b < w.heap.size := hr.lt
 have hDg : og ≠ some D := hr.noD hD (by decide)
 obtain ⟨W0, hW0⟩ : ∃ W0, W0 = w := ⟨w, rfl⟩
 clear hp hv hr hok hsm hDp hkp hlw hnx hnb hb0
 go_enter Tryz.func135, Tryz.ntmps135
 go_wp2_with fail
 refine HOKP.out.mono ?_
 rintro e W1 ⟨rfl, hW1⟩
 subst hW1
 subst hW0
 clear HOKP
 go_upto_region 3 with fail
 go_cut [5] from 27 to 34 (fun v wx => ∃ Mb gp cq, v = .pointer (some ⟨Mb, 0, none⟩) /\ Two wx Mb (.int .i64 nx) (.slice (some ⟨gp, 0, none⟩) p.length cq) 29 /\ Z9 W0.heap.size wx gp cq p /\ W0.heap.size <= Mb /\ Mb ≠ gp /\ Below W0.heap.size W0 wx)
 case first =>
  have BL0 := Za ((Below.refl W0.heap.size W0).drew)
  have HS0 : Hid (∀ W', Below W0.heap.size W0 W' -> W'.cell? ⟨D, 4, none⟩ = some (.int .i64 nx)) := fun W' L' => (L'.cell (p := ⟨D, 4, none⟩) hDl).trans e4
  refine Zr (S := fun W' => Below W0.heap.size W0 W') (fuel := 5) [0, 1, 2, 3, 5] (by kernel_rfl) (by kernel_rfl) (by kernel_rfl) (by kernel_rfl) BL0.out (fun _ => ?_)
  iterate 5 (refine ⟨_, rfl, ?_⟩; apply Exists.intro; refine ⟨Or.inl ⟨by rfl, fun w' hw' => ?_⟩, ?_⟩; (focus (have e1 := HS0.out w' hw'; first | (go_simp; done) | (go_simp; with_reducible rfl))); simp only [Act.put, List.getElem_toArray, List.getElem_cons_succ, List.getElem_cons_zero, List.setIfInBounds_toArray, List.set_cons_zero, List.set_cons_succ])
  obtain ⟨wv0, hv0⟩ : ∃ w0, W0.drew = w0 := ⟨_, rfl⟩
  have Bwv0 : Below W0.heap.size W0 wv0 := by rw [<- hv0]; exact BL0.out
  have swv0 : W0.heap.size <= wv0.heap.size := Bwv0.size
  rw [hv0]
  clear hv0
  refine ZaU 4 8 (by kernel_rfl) rfl rfl (fun K hK => ?_) (fun K hK => ?_)
  · go_simp
    obtain ⟨u1, hu1⟩ : ∃ w0, wv0.alloc (.cells #[] 2) = w0 := ⟨_, rfl⟩
    have Lu1 : Below wv0.heap.size wv0 u1 := by rw [<- hu1]; exact (Below.refl _ _).alloc (Nat.le_refl _) _
    obtain ⟨ge, hge⟩ : ∃ q, wv0.heap.size = q := ⟨_, rfl⟩
    have hE : Z9 W0.heap.size u1 ge 0 [] := by rw [<- hu1, <- hge]; exact Z9.start wv0 _ swv0
    first | rw [hu1] | skip
    first | rw [hge] | skip
    have su1 := Nat.le_trans swv0 Lu1.size
    have lu1 := Lu1.size
    have geV : ge < u1.heap.size := hE.lt.2
    have Bu1 := Zd Bwv0 Lu1
    refine hK.out _ _ Bu1 (fun _ => ?_)
    clear hK K hu1
    refine ZaU 6 8 (by kernel_rfl) rfl rfl (fun K hK => ?_) (fun K hK => ?_)
    · skip
      refine Zj u1 rfl (.tmp 31) (.tmp 32) 27 rfl W0.heap.size 2 i0 _ 1 8 Tryz.underlying27 hi0 hx0 hx1 hx2 rfl (by omega) ge 0 0 [] rfl hE ap p.length cp (p.map (Value.int .i64)) rfl (Zad (Zp.next HPV.out Bu1)) (by unfold maxLen; omega) (by omega) su1 u1.heap.size rfl ?_
      intro gp cq u2 hown hgrow hat hlt
      have hp : Z9 W0.heap.size u2 gp cq p := Z9.of hown (by omega) (by simp)
      have lu2 := hgrow.size
      have su2 := Nat.le_trans su1 lu2
      have geW := hE.lt.1
      have Bu2 : Below W0.heap.size W0 u2 := Bu1.grown hgrow su1 (fun q e => by injection e with e; omega)
      rw [Nat.zero_add]
      refine hK.out _ _ Bu2 (fun _ => ?_)
      clear hK K hown hgrow
      refine Zv 2 [7] (by kernel_rfl) (by kernel_rfl) (by kernel_rfl) Bu2 ?_
      iterate 1 (refine ⟨_, rfl, ?_⟩; apply Exists.intro; refine ⟨Or.inl ⟨by rfl, fun w' hw' => ?_⟩, ?_⟩; (focus (first | (go_simp; done) | (go_simp; with_reducible rfl))); simp only [Act.put, List.getElem_toArray, List.getElem_cons_succ, List.getElem_cons_zero, List.setIfInBounds_toArray, List.set_cons_zero, List.set_cons_succ])
      refine Zg 8 (by kernel_rfl) rfl (fun K hK => ?_)
      · go_simp
        obtain ⟨u3, hu3⟩ : ∃ w0, u2.alloc (.cells #[.int .i64 0, .slice none 0 0] 29) = w0 := ⟨_, rfl⟩
        have Lu3 : Below u2.heap.size u2 u3 := by rw [<- hu3]; exact (Below.refl _ _).alloc (Nat.le_refl _) _
        obtain ⟨Mb, hMb⟩ : ∃ q, u2.heap.size = q := ⟨_, rfl⟩
        have hM : Two u3 Mb (.int .i64 0) (.slice none 0 0) 29 := by rw [<- hu3, <- hMb]; exact Two.new u2 _ _ _
        first | rw [hu3] | skip
        first | rw [hMb] | skip
        have su3 := Nat.le_trans su2 Lu3.size
        have lu3 := Lu3.size
        have MbV : Mb < u3.heap.size := hM.lt
        have gpU := hp.lt.2
        replace hp := hp.below Lu3
        have Bu3 := Zd Bu2 Lu3
        refine hK.out _ _ Bu3 (fun _ => ?_)
        clear hK K hu3
        have x0 := hM.c0
        have x1 := hM.c1
        have xf0 := hM.frozen 0
        have xf1 := hM.frozen 1
        refine Zg 9 (by kernel_rfl) rfl (fun K hK => ?_)
        go_simp
        obtain ⟨wz, hwz⟩ : ∃ wz, (u3.setCell ⟨Mb, 0, none⟩ (.int .i64 nx)).setCell ⟨Mb, 1, none⟩ (.slice (some ⟨gp, 0, none⟩) p.length cq) = wz := ⟨_, rfl⟩
        have far : ∀ b, b ≠ Mb -> wz.heap[b]? = u3.heap[b]? := fun b hb => by rw [<- hwz]; exact (Below.heap_setCell _ ⟨Mb, 1, none⟩ _ b (fun e => hb e)).trans (Below.heap_setCell _ ⟨Mb, 0, none⟩ _ b (fun e => hb e))
        have hzs : u3.heap.size = wz.heap.size := by rw [<- hwz, Zc, Zc]
        have hpz : Z9 W0.heap.size wz gp cq p := ZbE hp (far gp (by omega))
        have hMz : Two wz Mb (.int .i64 nx) (.slice (some ⟨gp, 0, none⟩) p.length cq) 29 := by rw [<- hwz]; exact (hM.set0 _).set1 _
        have BZ : Below W0.heap.size W0 wz := by rw [<- hwz]; exact (Bu3.setCell (by show W0.heap.size <= Mb; omega) _).setCell (by show W0.heap.size <= Mb; omega) _
        first | rw [hwz] | skip
        refine hK.out _ _ BZ (fun _ => ?_)
        clear hK K hwz x0 x1 xf0 xf1
        refine wpAnyH_done (by kernel_rfl) ?_ _
        refine NoPanic.normal ?_
        try simp only [Exit.then]
        go_wp2_with fail
        go_meet
        exact ⟨Mb, gp, cq, rfl, hMz, hpz, by omega, by omega, BZ⟩
    · go_simp
      obtain ⟨u2, hu2⟩ : ∃ w0, u1.alloc (.cells #[.int .i64 0, .slice none 0 0] 29) = w0 := ⟨_, rfl⟩
      have Lu2 : Below u1.heap.size u1 u2 := by rw [<- hu2]; exact (Below.refl _ _).alloc (Nat.le_refl _) _
      obtain ⟨Mb, hMb⟩ : ∃ q, u1.heap.size = q := ⟨_, rfl⟩
      have hM : Two u2 Mb (.int .i64 0) (.slice none 0 0) 29 := by rw [<- hu2, <- hMb]; exact Two.new u1 _ _ _
      first | rw [hu2] | skip
      first | rw [hMb] | skip
      have su2 := Nat.le_trans su1 Lu2.size
      have lu2 := Lu2.size
      have MbV : Mb < u2.heap.size := hM.lt
      replace hE := hE.below Lu2
      have Bu2 := Zd Bu1 Lu2
      refine hK.out _ _ Bu2 (fun _ => ?_)
      clear hK K hu2
      refine Zg 6 (by kernel_rfl) rfl (fun K hK => ?_)
      · skip
        refine Zj u2 rfl (.tmp 31) (.tmp 32) 27 rfl W0.heap.size 2 i0 _ 1 8 Tryz.underlying27 hi0 hx0 hx1 hx2 rfl (by omega) ge 0 0 [] rfl hE ap p.length cp (p.map (Value.int .i64)) rfl (Zad (Zp.next HPV.out Bu2)) (by unfold maxLen; omega) (by omega) su2 u2.heap.size rfl ?_
        intro gp cq u3 hown hgrow hat hlt
        have hp : Z9 W0.heap.size u3 gp cq p := Z9.of hown (by omega) (by simp)
        have lu3 := hgrow.size
        have su3 := Nat.le_trans su2 lu3
        have geW := hE.lt.1
        have Bu3 : Below W0.heap.size W0 u3 := Bu2.grown hgrow su2 (fun q e => by injection e with e; omega)
        replace hM : Two u3 Mb (.int .i64 0) (.slice none 0 0) 29 := (hgrow.block Mb hM.lt (fun e => by injection e with e; omega)).trans hM
        have hMl := hM.lt
        rw [Nat.zero_add]
        refine hK.out _ _ Bu3 (fun _ => ?_)
        clear hK K hown hgrow
        refine Zv 1 [7] (by kernel_rfl) (by kernel_rfl) (by kernel_rfl) Bu3 ?_
        iterate 1 (refine ⟨_, rfl, ?_⟩; apply Exists.intro; refine ⟨Or.inl ⟨by rfl, fun w' hw' => ?_⟩, ?_⟩; (focus (first | (go_simp; done) | (go_simp; with_reducible rfl))); simp only [Act.put, List.getElem_toArray, List.getElem_cons_succ, List.getElem_cons_zero, List.setIfInBounds_toArray, List.set_cons_zero, List.set_cons_succ])
        have x0 := hM.c0
        have x1 := hM.c1
        have xf0 := hM.frozen 0
        have xf1 := hM.frozen 1
        refine Zg 9 (by kernel_rfl) rfl (fun K hK => ?_)
        go_simp
        obtain ⟨wz, hwz⟩ : ∃ wz, (u3.setCell ⟨Mb, 0, none⟩ (.int .i64 nx)).setCell ⟨Mb, 1, none⟩ (.slice (some ⟨gp, 0, none⟩) p.length cq) = wz := ⟨_, rfl⟩
        have far : ∀ b, b ≠ Mb -> wz.heap[b]? = u3.heap[b]? := fun b hb => by rw [<- hwz]; exact (Below.heap_setCell _ ⟨Mb, 1, none⟩ _ b (fun e => hb e)).trans (Below.heap_setCell _ ⟨Mb, 0, none⟩ _ b (fun e => hb e))
        have hzs : u3.heap.size = wz.heap.size := by rw [<- hwz, Zc, Zc]
        have hpz : Z9 W0.heap.size wz gp cq p := ZbE hp (far gp (by omega))
        have hMz : Two wz Mb (.int .i64 nx) (.slice (some ⟨gp, 0, none⟩) p.length cq) 29 := by rw [<- hwz]; exact (hM.set0 _).set1 _
        have BZ : Below W0.heap.size W0 wz := by rw [<- hwz]; exact (Bu3.setCell (by show W0.heap.size <= Mb; omega) _).setCell (by show W0.heap.size <= Mb; omega) _
        first | rw [hwz] | skip
        refine hK.out _ _ BZ (fun _ => ?_)
        clear hK K hwz x0 x1 xf0 xf1
        refine wpAnyH_done (by kernel_rfl) ?_ _
        refine NoPanic.normal ?_
        try simp only [Exit.then]
        go_wp2_with fail
        go_meet
        exact ⟨Mb, gp, cq, rfl, hMz, hpz, by omega, by omega, BZ⟩
  · go_simp
    obtain ⟨u1, hu1⟩ : ∃ w0, wv0.alloc (.cells #[.int .i64 0, .slice none 0 0] 29) = w0 := ⟨_, rfl⟩
    have Lu1 : Below wv0.heap.size wv0 u1 := by rw [<- hu1]; exact (Below.refl _ _).alloc (Nat.le_refl _) _
    obtain ⟨Mb, hMb⟩ : ∃ q, wv0.heap.size = q := ⟨_, rfl⟩
    have hM : Two u1 Mb (.int .i64 0) (.slice none 0 0) 29 := by rw [<- hu1, <- hMb]; exact Two.new wv0 _ _ _
    first | rw [hu1] | skip
    first | rw [hMb] | skip
    have su1 := Nat.le_trans swv0 Lu1.size
    have lu1 := Lu1.size
    have MbV : Mb < u1.heap.size := hM.lt
    have Bu1 := Zd Bwv0 Lu1
    refine hK.out _ _ Bu1 (fun _ => ?_)
    clear hK K hu1
    refine Zg 4 (by kernel_rfl) rfl (fun K hK => ?_)
    · go_simp
      obtain ⟨u2, hu2⟩ : ∃ w0, u1.alloc (.cells #[] 2) = w0 := ⟨_, rfl⟩
      have Lu2 : Below u1.heap.size u1 u2 := by rw [<- hu2]; exact (Below.refl _ _).alloc (Nat.le_refl _) _
      obtain ⟨ge, hge⟩ : ∃ q, u1.heap.size = q := ⟨_, rfl⟩
      have hE : Z9 W0.heap.size u2 ge 0 [] := by rw [<- hu2, <- hge]; exact Z9.start u1 _ su1
      first | rw [hu2] | skip
      first | rw [hge] | skip
      have su2 := Nat.le_trans su1 Lu2.size
      have lu2 := Lu2.size
      have geV : ge < u2.heap.size := hE.lt.2
      replace hM := hM.below Lu2
      have Bu2 := Zd Bu1 Lu2
      refine hK.out _ _ Bu2 (fun _ => ?_)
      clear hK K hu2
      refine Zg 6 (by kernel_rfl) rfl (fun K hK => ?_)
      · skip
        refine Zj u2 rfl (.tmp 31) (.tmp 32) 27 rfl W0.heap.size 2 i0 _ 1 8 Tryz.underlying27 hi0 hx0 hx1 hx2 rfl (by omega) ge 0 0 [] rfl hE ap p.length cp (p.map (Value.int .i64)) rfl (Zad (Zp.next HPV.out Bu2)) (by unfold maxLen; omega) (by omega) su2 u2.heap.size rfl ?_
        intro gp cq u3 hown hgrow hat hlt
        have hp : Z9 W0.heap.size u3 gp cq p := Z9.of hown (by omega) (by simp)
        have lu3 := hgrow.size
        have su3 := Nat.le_trans su2 lu3
        have geW := hE.lt.1
        have Bu3 : Below W0.heap.size W0 u3 := Bu2.grown hgrow su2 (fun q e => by injection e with e; omega)
        replace hM : Two u3 Mb (.int .i64 0) (.slice none 0 0) 29 := (hgrow.block Mb hM.lt (fun e => by injection e with e; omega)).trans hM
        have hMl := hM.lt
        rw [Nat.zero_add]
        refine hK.out _ _ Bu3 (fun _ => ?_)
        clear hK K hown hgrow
        refine Zv 1 [7] (by kernel_rfl) (by kernel_rfl) (by kernel_rfl) Bu3 ?_
        iterate 1 (refine ⟨_, rfl, ?_⟩; apply Exists.intro; refine ⟨Or.inl ⟨by rfl, fun w' hw' => ?_⟩, ?_⟩; (focus (first | (go_simp; done) | (go_simp; with_reducible rfl))); simp only [Act.put, List.getElem_toArray, List.getElem_cons_succ, List.getElem_cons_zero, List.setIfInBounds_toArray, List.set_cons_zero, List.set_cons_succ])
        have x0 := hM.c0
        have x1 := hM.c1
        have xf0 := hM.frozen 0
        have xf1 := hM.frozen 1
        refine Zg 9 (by kernel_rfl) rfl (fun K hK => ?_)
        go_simp
        obtain ⟨wz, hwz⟩ : ∃ wz, (u3.setCell ⟨Mb, 0, none⟩ (.int .i64 nx)).setCell ⟨Mb, 1, none⟩ (.slice (some ⟨gp, 0, none⟩) p.length cq) = wz := ⟨_, rfl⟩
        have far : ∀ b, b ≠ Mb -> wz.heap[b]? = u3.heap[b]? := fun b hb => by rw [<- hwz]; exact (Below.heap_setCell _ ⟨Mb, 1, none⟩ _ b (fun e => hb e)).trans (Below.heap_setCell _ ⟨Mb, 0, none⟩ _ b (fun e => hb e))
        have hzs : u3.heap.size = wz.heap.size := by rw [<- hwz, Zc, Zc]
        have hpz : Z9 W0.heap.size wz gp cq p := ZbE hp (far gp (by omega))
        have hMz : Two wz Mb (.int .i64 nx) (.slice (some ⟨gp, 0, none⟩) p.length cq) 29 := by rw [<- hwz]; exact (hM.set0 _).set1 _
        have BZ : Below W0.heap.size W0 wz := by rw [<- hwz]; exact (Bu3.setCell (by show W0.heap.size <= Mb; omega) _).setCell (by show W0.heap.size <= Mb; omega) _
        first | rw [hwz] | skip
        refine hK.out _ _ BZ (fun _ => ?_)
        clear hK K hwz x0 x1 xf0 xf1
        refine wpAnyH_done (by kernel_rfl) ?_ _
        refine NoPanic.normal ?_
        try simp only [Exit.then]
        go_wp2_with fail
        go_meet
        exact ⟨Mb, gp, cq, rfl, hMz, hpz, by omega, by omega, BZ⟩
 case rest =>
  obtain ⟨Mb, gp, cq, rfl, hM, hpr, hMW, hMg, L1⟩ := hcut
  generalize hwc : wc = wo at *
  clear hwc wc
  have hgpW := hpr.lt
  have hDo : wo.heap[D]? = some (.cells #[.int .i64 wd, .slice ag ds.length c, .int .i64 d, .slice va0 ts.length vc0, .int .i64 nx] 52) := (L1.block D hDl).trans hD
  have HDo := Za hDo
  have HMo := Za hM
  have HPR := Za hpr
  have HL1 := Za L1
  have hMl := hM.lt
  have hW1 := L1.size
  have BLo := Za ((Below.refl wo.heap.size wo).drew)
  have HSo : Hid (∀ W', Below wo.heap.size wo W' -> W'.cell? ⟨D, 2, none⟩ = some (.int .i64 d) /\ W'.cell? ⟨D, 3, none⟩ = some (.slice va0 ts.length vc0) /\ W'.cell? ⟨Mb, 0, none⟩ = some (.int .i64 nx) /\ W'.cell? ⟨Mb, 1, none⟩ = some (.slice (some ⟨gp, 0, none⟩) p.length cq)) := fun W' L' => by
   obtain ⟨f0, f1, f2, f3, f4, -, -⟩ := Zo ((L'.block D (by omega)).trans hDo)
   exact ⟨f2, f3, (hM.below L').c0, (hM.below L').c1⟩
  obtain ⟨LD, hLD⟩ : ∃ L, ZeO (nx, p) ts d = L := ⟨_, rfl⟩
  obtain ⟨LT, hLT⟩ : ∃ L, Zdk (nx, p) ts d = L := ⟨_, rfl⟩
  obtain ⟨rr, hrr⟩ : ∃ b, ZeN (nx, p) ts d = b := ⟨_, rfl⟩
  have HCo : Hid (∀ W', Below wo.heap.size wo W' -> Calls Tryz.prog 110 #[.agg #[.int .i64 d, .slice va0 ts.length vc0], .agg #[.int .i64 nx, .slice (some ⟨gp, 0, none⟩) p.length cq]] W' fun e w' => ∃ va vc, e = .returned (.tuple #[.agg #[.int .i64 LD, .slice va LT.length vc], .bool rr]) /\ ZaG W'.heap.size w' va LT /\ Below W'.heap.size W' w') := fun W' L' => by
   refine (ZgM va0 (some ⟨gp, 0, none⟩) vc0 cq d ts (nx, p) W' (HV.out.next (HL1.out.trans (Below.mono L' HL1.out.size))) (hpr.below L').view hpl HOK.out.1 HOK.out.2).mono ?_
   rintro e w' ⟨vt, rfl, ⟨S, vm, vl, ht⟩, L2⟩
   obtain ⟨a', c', rfl, -⟩ := ht.form
   rw [hLD, hrr]
   rw [hLT] at ht ⊢
   exact ⟨a', c', rfl, ht.kept, L2⟩
  have HLX := Za (And.intro hLD (And.intro hLT hrr))
  clear hM hpr L1 hDo e0 e1 e2 e3 e4 ef hLD hLT hrr
  go_upto_region 4 with fail
  go_cut [6, 7] from 27 to 69 (fun v b wx => ∃ X va vc, v = .pointer (some ⟨X, 0, none⟩) /\ b = .bool rr /\ Two wx X (.int .i64 LD) (.slice va LT.length vc) 26 /\ ZaG wo.heap.size wx va LT /\ wo.heap.size <= X /\ Below wo.heap.size wo wx)
  case first =>
   refine Zr (S := fun W' => Below wo.heap.size wo W') (fuel := 7) [0, 1, 2, 3, 4] (by kernel_rfl) (by kernel_rfl) (by kernel_rfl) (by kernel_rfl) BLo.out (fun _ => ?_)
   iterate 5 (refine ⟨_, rfl, ?_⟩; apply Exists.intro; refine ⟨Or.inl ⟨by rfl, fun w' hw' => ?_⟩, ?_⟩; (focus (obtain ⟨e1, e2, e3, e4⟩ := HSo.out w' hw'; first | (go_simp; done) | (go_simp; with_reducible rfl))); simp only [Act.put, List.getElem_toArray, List.getElem_cons_succ, List.getElem_cons_zero, List.setIfInBounds_toArray, List.set_cons_zero, List.set_cons_succ])
   obtain ⟨wv0, hv0⟩ : ∃ w0, wo.drew = w0 := ⟨_, rfl⟩
   have B0 : Below wo.heap.size wo wv0 := by rw [<- hv0]; exact BLo.out
   have s0 : wo.heap.size <= wv0.heap.size := B0.size
   rw [hv0]
   clear hv0
   refine ZaU 5 9 (by kernel_rfl) rfl rfl (fun K hK => ?_) (fun K hK => ?_)
   · go_simp
     refine (HCo.out wv0 B0).mono ?_
     rintro e w2 ⟨va, vc, rfl, how, L2⟩
     have LA := Zd B0 L2
     refine hK.out _ _ LA (fun hS4 => ?_)
     clear hK K
     refine Zv 3 [6, 7, 8] (by kernel_rfl) (by kernel_rfl) (by kernel_rfl) hS4 ?_
     iterate 3 (refine ⟨_, rfl, ?_⟩; apply Exists.intro; refine ⟨Or.inl ⟨by rfl, fun w' hw' => ?_⟩, ?_⟩; (focus (first | (go_simp; done) | (go_simp; with_reducible rfl))); simp only [Act.put, List.getElem_toArray, List.getElem_cons_succ, List.getElem_cons_zero, List.setIfInBounds_toArray, List.set_cons_zero, List.set_cons_succ])
     refine Zg 9 (by kernel_rfl) rfl (fun K hK => ?_)
     go_simp
     refine hK.out _ _ (LA.alloc LA.size _) (fun _ => ?_)
     clear hK K
     refine Zg 10 (by kernel_rfl) rfl (fun K hK => ?_)
     go_simp
     obtain ⟨wz, hwz⟩ : ∃ wz, w2.alloc (.cells #[.int .i64 LD, .slice va LT.length vc] 26) = wz := ⟨_, rfl⟩
     have LZ : Below w2.heap.size w2 wz := by rw [<- hwz]; exact (Below.refl _ _).alloc (Nat.le_refl _) _
     have HLZ := Za (Zd LA LZ)
     have HTZ : Hid (Two wz w2.heap.size (.int .i64 LD) (.slice va LT.length vc) 26) := by show Two _ _ _ _ _; rw [<- hwz]; exact Two.new w2 _ _ _
     have HOZ : Hid (ZaG wo.heap.size wz va LT) := (Zec how s0).step LZ.size (fun b _ h2 => LZ.block b h2)
     have HFZ : Hid (wo.heap.size <= w2.heap.size) := LA.size
     rw [hwz]
     refine hK.out _ _ HLZ.out (fun hS9 => ?_)
     clear hK K hwz how LA L2 LZ
     refine ZH [11] rfl (by kernel_rfl) (by kernel_rfl) (by kernel_rfl) hS9 ?_
     iterate 1 (refine ⟨_, rfl, ?_⟩; apply Exists.intro; refine ⟨Or.inl ⟨by rfl, fun w' hw' => ?_⟩, ?_⟩; (focus (first | (go_simp; done) | (go_simp; with_reducible rfl))); simp only [Act.put, List.getElem_toArray, List.getElem_cons_succ, List.getElem_cons_zero, List.setIfInBounds_toArray, List.set_cons_zero, List.set_cons_succ])
     refine NoPanic.normal (NoPanic.normal ?_)
     go_wp2_with fail
     go_meet
     exact ⟨_, va, vc, rfl, rfl, HTZ.out, HOZ.out, HFZ.out, HLZ.out⟩
   · go_simp
     obtain ⟨Wx, hWx⟩ : ∃ W', wv0.alloc (.cells #[.int .i64 0, .slice none 0 0] 26) = W' := ⟨_, rfl⟩
     obtain ⟨Xb, hXb⟩ : ∃ q, wv0.heap.size = q := ⟨_, rfl⟩
     have LX : Below wo.heap.size wo Wx := by rw [<- hWx]; exact B0.alloc s0 _
     have hTX : Two Wx Xb (.int .i64 0) (.slice none 0 0) 26 := by rw [<- hWx, <- hXb]; exact Two.new wv0 _ _ _
     have hXo : wo.heap.size <= Xb := by omega
     have hXl := hTX.lt
     first | rw [hWx] | skip
     first | rw [hXb] | skip
     refine hK.out _ _ LX (fun _ => ?_)
     clear hK K hWx
     refine Zg 5 (by kernel_rfl) rfl (fun K hK => ?_)
     go_simp
     refine (HCo.out Wx LX).mono ?_
     rintro e w2 ⟨va, vc, rfl, how, L2⟩
     have LA := Zd LX L2
     have hT4 := hTX.below L2
     refine hK.out _ _ LA (fun hS4 => ?_)
     clear hK K
     refine Zv 2 [6, 7, 8] (by kernel_rfl) (by kernel_rfl) (by kernel_rfl) hS4 ?_
     iterate 3 (refine ⟨_, rfl, ?_⟩; apply Exists.intro; refine ⟨Or.inl ⟨by rfl, fun w' hw' => ?_⟩, ?_⟩; (focus (first | (go_simp; done) | (go_simp; with_reducible rfl))); simp only [Act.put, List.getElem_toArray, List.getElem_cons_succ, List.getElem_cons_zero, List.setIfInBounds_toArray, List.set_cons_zero, List.set_cons_succ])
     have x0 := hT4.c0
     have x1 := hT4.c1
     have xf0 := hT4.frozen 0
     have xf1 := hT4.frozen 1
     refine Zg 10 (by kernel_rfl) rfl (fun K hK => ?_)
     go_simp
     have HLZ := Za ((LA.setCell (by show wo.heap.size <= Xb; exact hXo) (.int .i64 LD) : Below wo.heap.size wo (w2.setCell ⟨Xb, 0, none⟩ (.int .i64 LD))).setCell (by show wo.heap.size <= Xb; exact hXo) (.slice va LT.length vc) : Below wo.heap.size wo ((w2.setCell ⟨Xb, 0, none⟩ (.int .i64 LD)).setCell ⟨Xb, 1, none⟩ (.slice va LT.length vc)))
     have HTZ := Za ((hT4.set0 (.int .i64 LD)).set1 (.slice va LT.length vc))
     have HOZ : Hid (ZaG wo.heap.size ((w2.setCell ⟨Xb, 0, none⟩ (.int .i64 LD)).setCell ⟨Xb, 1, none⟩ (.slice va LT.length vc)) va LT) := ZjX how hXl (by omega) hXo (by rw [Zc, Zc]; exact Nat.le_refl _) (fun b hb => (Below.heap_setCell _ ⟨Xb, 1, none⟩ _ b hb).trans (Below.heap_setCell _ ⟨Xb, 0, none⟩ _ b hb))
     clear how
     generalize (w2.setCell ⟨Xb, 0, none⟩ (.int .i64 LD)).setCell ⟨Xb, 1, none⟩ (.slice va LT.length vc) = wz at *
     refine hK.out _ _ HLZ.out (fun hS9 => ?_)
     clear hK K x0 x1 xf0 xf1 LA L2 hT4
     refine ZH [11] rfl (by kernel_rfl) (by kernel_rfl) (by kernel_rfl) hS9 ?_
     iterate 1 (refine ⟨_, rfl, ?_⟩; apply Exists.intro; refine ⟨Or.inl ⟨by rfl, fun w' hw' => ?_⟩, ?_⟩; (focus (first | (go_simp; done) | (go_simp; with_reducible rfl))); simp only [Act.put, List.getElem_toArray, List.getElem_cons_succ, List.getElem_cons_zero, List.setIfInBounds_toArray, List.set_cons_zero, List.set_cons_succ])
     refine NoPanic.normal (NoPanic.normal ?_)
     go_wp2_with fail
     go_meet
     exact ⟨Xb, va, vc, rfl, rfl, HTZ.out, HOZ.out, hXo, HLZ.out⟩
  case rest =>
   obtain ⟨X, va, vc, rfl, rfl, hX, hKT, hXW, L5⟩ := hcut
   generalize hwc : wc = w5 at *
   clear hwc wc BLo HSo HCo
   have hD5 : w5.heap[D]? = some (.cells #[.int .i64 wd, .slice ag ds.length c, .int .i64 d, .slice va0 ts.length vc0, .int .i64 nx] 52) := (L5.block D (by omega)).trans HDo.out
   have HL5 : Hid (Below W0.heap.size W0 w5) := HL1.out.trans (Below.mono L5 HL1.out.size)
   rcases hrb : rr with _ | _
   · subst hrb
     have HNO : Hid (kpB wd nx d p ts = false) := by show _ = _; rw [HKB.out]; exact HLX.out.2.2
     clear hX hKT L5 hD5
     go_wp2_with fail
     go_ret
     exact ⟨fun _ => ⟨rfl, HL5.out⟩, fun h => by rw [HNO.out] at h; cases h⟩
   · subst hrb
     have HYES : Hid (kpB wd nx d p ts = true) := by show _ = _; rw [HKB.out]; exact HLX.out.2.2
     obtain ⟨f0, f1, f2, f3, f4, ff, hDl5⟩ := Zo hD5
     have ff2 := ff 2
     have ff3 := ff 3
     have x0 := hX.c0
     have x1 := hX.c1
     obtain ⟨w7, hw7⟩ : ∃ w7, (w5.setCell ⟨D, 2, none⟩ (.int .i64 LD)).setCell ⟨D, 3, none⟩ (.slice va LT.length vc) = w7 := ⟨_, rfl⟩
     have far7 : ∀ b, b ≠ D -> w7.heap[b]? = w5.heap[b]? := fun b hb => by rw [<- hw7]; exact (Below.heap_setCell _ ⟨D, 3, none⟩ _ b (fun e => hb e)).trans (Below.heap_setCell _ ⟨D, 2, none⟩ _ b (fun e => hb e))
     have hs7 : w5.heap.size = w7.heap.size := by rw [<- hw7, Zc, Zc]
     have hD7 : w7.heap[D]? = some (.cells #[.int .i64 wd, .slice ag ds.length c, .int .i64 LD, .slice va LT.length vc, .int .i64 nx] 52) := by
      rw [<- hw7]
      exact heap_setCell_same _ D 3 _ _ _ (heap_setCell_same w5 D 2 _ _ _ hD5)
     have HC7 : Hid (Cgd (fun b => b = D \/ og = some b) W0 w7) := ⟨by rw [<- hw7]; exact HL5.out.os, by rw [<- hw7]; exact HL5.out.tape, by rw [<- hw7]; exact HL5.out.output, by have := HL5.out.size; omega, fun b hb hn => (far7 b (fun e => hn (Or.inl e))).trans (HL5.out.block b hb)⟩
     have HR7 : Hid (DRV base w7 ag c og ds) := Zi3 (D := D) (ZdM HR.out (fun b _ h2 => HL5.out.block b h2)) (fun b _ _ h3 => far7 b h3) hDg (fun x hx e => HDP.out x hx e)
     have hpr5 := HPR.out.below L5
     have HP7 : Hid (Z9 base w7 gp cq p) := ZbE (hpr5.mono (by omega)) (far7 gp (by omega))
     have hM5 := HMo.out.below L5
     have HM7 : Hid (Two w7 Mb (.int .i64 nx) (.slice (some ⟨gp, 0, none⟩) p.length cq) 29) := (far7 Mb (by omega)).trans hM5
     have HK7 : Hid (ZaG wo.heap.size w7 va LT) := hKT.step (by omega) (fun b h1 _ => far7 b (by omega))
     have hz5 := L5.size
     have HD7 := Za hD7
     clear hX hKT L5 hD5 hpr5 hM5
     go_wp2_with fail
     first | rw [hw7] | skip
     clear f0 f1 f2 f3 f4 ff ff2 ff3 x0 x1 hw7 far7
     have hMl7 := HM7.out.lt
     have hgm7 : ∀ b, og = some b -> b < w7.heap.size := HR7.out.lt
     have hDl7 : D < w7.heap.size := by omega
     have hMgm : og ≠ some Mb := fun e => by have := hgm Mb e; omega
     have BS : Hid (∀ b, b < w7.heap.size -> og ≠ some b -> w7.drew.heap[b]? = w7.heap[b]?) := fun _ _ _ => rfl
     have HS7 : Hid (∀ X : World, (∀ b, b < w7.heap.size -> og ≠ some b -> X.heap[b]? = w7.heap[b]?) -> X.cell? ⟨D, 1, none⟩ = some (.slice ag ds.length c) /\ X.cell? ⟨Mb, 0, none⟩ = some (.int .i64 nx) /\ X.cell? ⟨Mb, 1, none⟩ = some (.slice (some ⟨gp, 0, none⟩) p.length cq)) := fun X hX => by
      have hd := (hX D hDl7 hDg).trans hD7
      obtain ⟨_, f1, _, _, _, _, _⟩ := Zo hd
      have hm : Two X Mb (.int .i64 nx) (.slice (some ⟨gp, 0, none⟩) p.length cq) 29 := (hX Mb hMl7 hMgm).trans HM7.out
      exact ⟨f1, hm.c0, hm.c1⟩
     clear hD7
     refine Zab (S := fun X => ∀ b, b < w7.heap.size -> og ≠ some b -> X.heap[b]? = w7.heap[b]?) (fuel := 4) [0, 1, 2, 3, 4, 5] _ rfl (by kernel_rfl) (by kernel_rfl) (by kernel_rfl) (by kernel_rfl) (by kernel_rfl) (by kernel_rfl) (by kernel_rfl) BS.out (fun hS => ?_)
     simp only [List.pop_toArray, List.dropLast]
     iterate 6 (refine ⟨_, rfl, ?_⟩; apply Exists.intro; refine ⟨Or.inl ⟨by rfl, fun w' hw' => ?_⟩, ?_⟩; (focus (obtain ⟨e1, e2, e3⟩ := HS7.out w' hw'; first | (go_simp; done) | (go_simp; with_reducible rfl))); simp only [Act.put, List.getElem_toArray, List.getElem_cons_succ, List.getElem_cons_zero, List.setIfInBounds_toArray, List.set_cons_zero, List.set_cons_succ])
     refine Zg 6 (by kernel_rfl) rfl (fun K hK => ?_)
     go_simp
     obtain ⟨w8, hw8⟩ : ∃ w8, (w7.alloc (.cells #[.int .i64 nx, .slice (some ⟨gp, 0, none⟩) p.length cq] 29)).drew = w8 := ⟨_, rfl⟩
     have L8 : Below w7.heap.size w7 w8 := by rw [<- hw8]; exact ((Below.refl _ _).alloc (Nat.le_refl _) _).drew
     have hN8 : w8.heap[w7.heap.size]? = some (.cells #[.int .i64 nx, .slice (some ⟨gp, 0, none⟩) p.length cq] 29 (0, 0)) := by rw [<- hw8]; exact heap_alloc_new w7 _
     have hs8 : w8.heap.size = w7.heap.size + 1 := by rw [<- hw8]; exact World.size_alloc w7 _
     have HR8 : Hid (DRV base w8 ag c og ds) := ZdM HR7.out (fun b _ h2 => L8.block b h2)
     have HP8 := Za (HP7.out.below L8)
     have HN8 := Za hN8
     have hS8 : ∀ b, b < w7.heap.size -> og ≠ some b -> w8.heap[b]? = w7.heap[b]? := fun b h1 _ => L8.block b h1
     first | rw [hw8] | skip
     refine hK.out _ _ hS8 (fun _ => ?_)
     clear hK K hw8 hN8
     refine Zg 7 (by kernel_rfl) rfl (fun K hK => ?_)
     refine step_append_lies w8 rfl (.tmp 54) (.tmp 56) 44 rfl base 29 j0 _ 2 32 Tryz.underlying44 hj0 hy0 hy1 hy2 rfl (by omega) (.slice ag ds.length c) ds.length (ZK ds) rfl HR8.out.row ⟨w7.heap.size, 0, none⟩ 1 1 [.int .i64 nx, .slice (some ⟨gp, 0, none⟩) p.length cq] rfl rfl (World.news_of_block (cs := #[.int .i64 nx, .slice (some ⟨gp, 0, none⟩) p.length cq]) HN8.out) (by simp [Value.oneCell']) (by omega) (by unfold maxLen; omega) (by omega) (by omega) w8.heap.size rfl ?_
     intro g9 c9 w9 hown hgrow hat hlt9
     rw [HR8.out.own] at hgrow hat
     have HR9 : Hid (Z8 base w9 g9 c9 (ds ++ [(nx, gp, cq, p)])) := DRV.snoc HR8.out HP8.out (fun e => by have := hgm gp e; omega) (fun x hx => by have := (HR.out.rows x hx).1.lt2; omega) hown hgrow hat
     have hS9 : ∀ b, b < w7.heap.size -> og ≠ some b -> w9.heap[b]? = w7.heap[b]? := fun b h1 h2 => (hgrow.block b (by omega) (fun e => h2 e.symm)).trans (L8.block b h1)
     have hs9 : w7.heap.size < w9.heap.size := by have := hgrow.size; omega
     have HC9 : Hid (Cgd (fun b => b = D \/ og = some b) W0 w9) := HC7.out.trans ⟨hgrow.os.trans L8.os, hgrow.tape.trans L8.tape, hgrow.output.trans L8.output, by omega, fun b h1 h2 => hS9 b h1 (fun e => h2 (Or.inr e))⟩
     have HK9 : Hid (ZaG wo.heap.size w9 va LT) := HK7.out.step (by omega) (fun b h1 h2 => hS9 b h2 (fun e => by have := hgm b e; omega))
     have hg9 : g9 ≠ D := by
      rcases hat with e | e
      · exact fun h => hDg (by rw [e, h])
      · omega
     refine hK.out _ _ hS9 (fun _ => ?_)
     clear hK K hown hgrow
     refine Zg 8 (by kernel_rfl) rfl (fun K hK => ?_)
     go_simp
     refine hK.out _ _ hS9 (fun _ => ?_)
     clear hK K
     refine Zg 9 (by kernel_rfl) rfl (fun K hK => ?_)
     go_simp
     refine hK.out _ _ hS9 (fun _ => ?_)
     clear hK K
     refine wpAnyH_done (by kernel_rfl) ?_ _
     simp only [Exit.then]
     have hD9 : w9.heap[D]? = some (.cells #[.int .i64 wd, .slice ag ds.length c, .int .i64 LD, .slice va LT.length vc, .int .i64 nx] 52) := (hS9 D hDl7 hDg).trans HD7.out
     obtain ⟨f0, f1, f2, f3, f4, ff, hDl9⟩ := Zo hD9
     have ff1 := ff 1
     have ff4 := ff 4
     have hm9 : Two w9 Mb (.int .i64 nx) (.slice (some ⟨gp, 0, none⟩) p.length cq) 29 := (hS9 Mb hMl7 hMgm).trans HM7.out
     have m0 := hm9.c0
     obtain ⟨wa, hwa⟩ : ∃ wa, w9.setCell ⟨D, 1, none⟩ (.slice (some ⟨g9, 0, none⟩) (ds.length + 1) c9) = wa := ⟨_, rfl⟩
     have hDa : wa.heap[D]? = some (.cells #[.int .i64 wd, .slice (some ⟨g9, 0, none⟩) (ds.length + 1) c9, .int .i64 LD, .slice va LT.length vc, .int .i64 nx] 52) := by rw [<- hwa]; exact heap_setCell_same w9 D 1 _ _ _ hD9
     have fara : ∀ b, b ≠ D -> wa.heap[b]? = w9.heap[b]? := fun b hb => by rw [<- hwa]; exact Below.heap_setCell _ ⟨D, 1, none⟩ _ b (fun e => hb e)
     have hsa : w9.heap.size = wa.heap.size := by rw [<- hwa, Zc]
     go_wp2_with fail
     refine NoPanic.normal ?_
     first | rw [hwa] | skip
     clear f0 f1 f2 f3 f4 ff ff1 ff4 m0
     obtain ⟨q0, q1, q2, q3, q4, qf, hDla⟩ := Zo hDa
     have qf4 := qf 4
     have hma : Two wa Mb (.int .i64 nx) (.slice (some ⟨gp, 0, none⟩) p.length cq) 29 := (fara Mb (by omega)).trans hm9
     have m0 := hma.c0
     obtain ⟨wb, hwb⟩ : ∃ wb, wa.setCell ⟨D, 4, none⟩ (.int .i64 (nx + 1)) = wb := ⟨_, rfl⟩
     have hDb : wb.heap[D]? = some (.cells #[.int .i64 wd, .slice (some ⟨g9, 0, none⟩) (ds.length + 1) c9, .int .i64 LD, .slice va LT.length vc, .int .i64 (nx + 1)] 52) := by rw [<- hwb]; exact heap_setCell_same wa D 4 _ _ _ hDa
     have farb : ∀ b, b ≠ D -> wb.heap[b]? = w9.heap[b]? := fun b hb => by rw [<- hwb]; exact (Below.heap_setCell _ ⟨D, 4, none⟩ _ b (fun e => hb e)).trans (fara b hb)
     have hsb : w9.heap.size = wb.heap.size := by rw [<- hwb, Zc]; exact hsa
     have hmb : Two wb Mb (.int .i64 nx) (.slice (some ⟨gp, 0, none⟩) p.length cq) 29 := (farb Mb (by omega)).trans hm9
     have m1 := hmb.c0
     have HCb : Hid (Cgd (fun b => b = D \/ og = some b) W0 wb) := HC9.out.trans ⟨by rw [<- hwb, <- hwa]; rfl, by rw [<- hwb, <- hwa]; rfl, by rw [<- hwb, <- hwa]; rfl, by omega, fun b _ h2 => farb b (fun e => h2 (Or.inl e))⟩
     have HKb : Hid (ZaG wo.heap.size wb va LT) := HK9.out.step (by omega) (fun b h1 _ => farb b (by omega))
     have HRb : Hid (∃ gp' cq', Z8 base wb g9 c9 (ds ++ [(nx, gp', cq', p)]) /\ (∀ x ∈ ds ++ [(nx, gp', cq', p)], x.2.1 ≠ D)) := by
      have hx9 : ∀ x ∈ ds ++ [(nx, gp, cq, p)], x.2.1 ≠ D := fun x hx e => by
       rcases List.mem_append.1 hx with hx | hx
       · exact HDP.out x hx e
       · rw [List.mem_singleton.1 hx] at e
         have e' : gp = D := e
         omega
      exact ⟨gp, cq, Ziq (D := D) HR9.out (by omega) (fun b _ _ h6 => farb b h6) hg9 hx9, hx9⟩
     have HDb := Za hDb
     clear hDa hDb hma hmb hm9 hD9 fara farb
     have hwr : wrap64 (nx + 1) = nx + 1 := by have := HNB.out; unfold wrap64; omega
     go_wp2_with fail
     first | rw [hwr, hwb] | rw [hwb] | skip
     go_wp2_with fail
     go_ret
     refine ⟨(fun h => by rw [HYES.out] at h; cases h), fun _ => ⟨rfl, g9, c9, va, vc, ?_, HRb.out, ?_, HCb.out⟩⟩
     · rw [HLX.out.1, HLX.out.2.1]; exact HDb.out
     · rw [HLX.out.2.1]; exact Zec HKb.out (by omega)
theorem Zgf {α : Type} (l : List α) (k : Nat) : (l.take k ++ l.drop (k + 1)).Sublist l := by
 induction l generalizing k with
 | nil => simp
 | cons a l ih =>
   cases k with
   | zero => simp
   | succ k => simpa using ih k
theorem Zmq (base D gm c : Nat) (ds : List Dm) (wd d nx id : Int) (vt : Value) (w : World) (hD : w.heap[D]? = some (.cells #[.int .i64 wd, .slice (some ⟨gm, 0, none⟩) ds.length c, .int .i64 d, vt, .int .i64 nx] 52)) (hr : Z8 base w gm c ds) (hn : ds.length <= 60) (hDp : ∀ x ∈ ds, x.2.1 ≠ D) :
 Calls Tryz.prog 140 #[.pointer (some ⟨D, 0, none⟩), .int .i64 id] w fun e w' => (Zk (Zs ds) id < 0 -> e = .returned (.bool false) /\ w' = w) /\ (0 <= Zk (Zs ds) id -> e = .returned (.bool true) /\ ∃ g c2, w'.heap[D]? = some (.cells #[.int .i64 wd, .slice (some ⟨g, 0, none⟩) (ds.take (Zn (Zs ds) id) ++ ds.drop (Zn (Zs ds) id + 1)).length c2, .int .i64 d, vt, .int .i64 nx] 52) /\ (ds.take (Zn (Zs ds) id) ++ ds.drop (Zn (Zs ds) id + 1)).length <= c2 /\ Z8 base w' g c2 (ds.take (Zn (Zs ds) id) ++ ds.drop (Zn (Zs ds) id + 1)) /\ Cgd (fun b => b = D) w w') := by
 obtain ⟨j0, hj0, hy0, hy1, hy2⟩ := info_parts Tryz.info29
 obtain ⟨e0, e1, e2, e3, e4, ef, hDl⟩ := Zo hD
 have hml := ZL ds
 have HF := Za (ZcM (some ⟨gm, 0, none⟩) c (Zs ds) id w hr.view (by rw [hml]; omega))
 rw [hml] at HF
 have HD := Za hD
 have HR := Za hr
 have HCAP := Za hr.cap
 have hgl := hr.lt
 have hne : gm ≠ D := fun e => by
  have h1 := World.ownsRow.cellAt hr.1
  obtain ⟨g', hh⟩ : ∃ cur, w.heap[gm]? = some (.cells cur 29) := by
   obtain ⟨-, ⟨x, -⟩ | ⟨g', cap, cur, x, -, hg, -⟩⟩ := hr.1
   · cases x
   · injection x with x1; injection x1 with x1; injection x1 with x1
     exact ⟨cur, by rw [x1]; exact hg⟩
  rw [e, hD] at hh
  injection hh with hh
  injection hh with _ hh
  exact absurd hh (by decide)
 rcases Int.lt_or_le (Zk (Zs ds) id) 0 with hz | hz
 · have hz' : ¬ 0 <= Zk (Zs ds) id := by omega
   obtain ⟨z, hzz⟩ : ∃ z, Zk (Zs ds) id = z := ⟨_, rfl⟩
   rw [hzz] at HF hz
   have HZ := Za hz'
   clear hz' hzz hr hD HD HR HCAP hgl hne ef hml
   go_enter Tryz.func140, Tryz.ntmps140
   go_wp2_with fail
   refine HF.out.mono ?_
   rintro e w1 ⟨rfl, hw1⟩
   subst hw1
   go_wp2_with fail
   go_ret
   exact ⟨fun _ => ⟨rfl, rfl⟩, fun h => absurd HZ.out (by omega)⟩
 · obtain ⟨hk1, hk2, -⟩ := Zx hz
   obtain ⟨k, hk⟩ : ∃ k, Zn (Zs ds) id = k := ⟨_, rfl⟩
   rw [hml] at hk1
   rw [hk] at hk1 hk2 ⊢
   rw [<- hk2] at HF
   have HZ := Za (And.intro hz hk)
   have HGL := Za hgl.2
   have HPL : Hid (∀ x ∈ ds, x.2.1 < w.heap.size /\ x.2.1 ≠ D) := fun x hx => ⟨(hr.2.1 x hx).1.lt2.2, fun e => hDp x hx e⟩
   clear hz hk hk2 hml hr hD hgl
   have hkc : k + 1 <= c := by have := HCAP.out; omega
   have hkc0 : k <= c := by omega
   have hkk : (k : Int) <= (k : Int) + 1 := by omega
   have hi0 : (0 : Int) <= (k : Int) := Int.natCast_nonneg _
   have hwr : IntKind.i64.wrap ((k : Int) + 1) = (k : Int) + 1 := IntWalk.i64_in _ ⟨by omega, by omega⟩
   have hw0 : (0 : Int) <= (k : Int) + 1 := by omega
   have hw1 : (k : Int) + 1 <= (ds.length : Int) := by omega
   have htn : ((k : Int) + 1).toNat = k + 1 := by omega
   have HE : Hid (∀ W' : World, W'.heap[D]? = w.heap[D]? -> W'.cell? ⟨D, 1, none⟩ = some (.slice (some ⟨gm, 0, none⟩) ds.length c)) := fun W' h => (World.cell?_of_block (a := ⟨D, 1, none⟩) h).trans e1
   have ef1 := ef 1
   have hsrc1 : Zai w 2 (some ⟨gm, 0, none⟩) (ds.take k).length (ZK (ds.take k)) := by
    have := Zhj (es := ds.take k) HR.out.1 0 (by rw [List.length_take]; omega) (fun i hi => by rw [Nat.zero_add]; exact Zio ds k i (by rw [List.length_take] at hi; omega)) rfl
    rw [Nat.zero_mul] at this
    exact this
   have hl1 : (ds.take k).length = k := by rw [List.length_take]; omega
   have hl2 : (ds.drop (k + 1)).length = ds.length - (k + 1) := List.length_drop
   rw [hl1] at hsrc1
   have HS1 := Za hsrc1
   have HS2 : Hid (Zai w 2 (if c = k + 1 then some ⟨gm, 0, none⟩ else some ⟨gm, (k + 1) * 2, none⟩) (ds.length - (k + 1)) (ZK (ds.drop (k + 1)))) := by
    show Zai _ _ _ _ _
    by_cases hc : c = k + 1
    · have hcap := HCAP.out
      have h0 : ds.drop (k + 1) = [] := List.drop_eq_nil_of_le (by omega)
      rw [if_pos hc, h0]
      exact ⟨by simp [ZK]; omega, by simp [ZK], Or.inl (by omega)⟩
    · rw [if_neg hc, <- hl2]
      exact Zhj (es := ds.drop (k + 1)) HR.out.1 (k + 1) (by rw [List.length_drop]; omega) (fun i _ => Zip ds (k + 1) i) rfl
   have HLL := Za (And.intro hl1 hl2)
   clear e2 e3 e4 ef hsrc1 hl1 hl2
   by_cases hc : c = k + 1
   · subst hc
     have HS3 : Hid (Zai w 2 (some ⟨gm, 0, none⟩) (ds.length - (k + 1)) (ZK (ds.drop (k + 1)))) := by have h := HS2.out; rw [if_pos rfl] at h; exact h
     clear HS2
     go_enter Tryz.func140, Tryz.ntmps140
     go_wp2_with fail
     refine HF.out.mono ?_
     rintro e w1 ⟨rfl, hw1⟩
     have hw2 := hw1.symm
     subst hw2
     clear HF
     go_wp2_with fail
     clear e0 e1 ef1
     refine Zab (S := fun W' => W'.cell? ⟨D, 1, none⟩ = some (.slice (some ⟨gm, 0, none⟩) ds.length (k + 1))) (fuel := 5)
      [0, 2, 3, 4, 5, 6, 7, 9, 10, 11, 12, 13, 14, 15] _ rfl (by kernel_rfl) (by kernel_rfl) (by kernel_rfl) (by kernel_rfl) (by kernel_rfl) (by kernel_rfl) (by kernel_rfl) (HE.out _ rfl) (fun _ => ?_)
     iterate 14
      refine ⟨_, rfl, ?_⟩
      apply Exists.intro
      refine ⟨Or.inl ⟨by rfl, fun w' hw' => ?_⟩, ?_⟩
      · first
        | (go_simp; done)
        | (go_simp; with_reducible rfl)
      simp only [Act.put, List.setIfInBounds_toArray]
     refine Zg 1 (by kernel_rfl) rfl (fun K hK => ?_)
     go_simp
     obtain ⟨w5, hw5⟩ : ∃ w5, (w.alloc (.cells #[] 29)).drew = w5 := ⟨_, rfl⟩
     have L5 : Below w.heap.size w w5 := by rw [<- hw5]; exact ((Below.refl w.heap.size w).alloc (Nat.le_refl _) _).drew
     have HR5 : Hid (w5.ownsRow w.heap.size 29 2 (.slice (some ⟨w.heap.size, 0, none⟩) 0 0) 0 []) := by
      have h : (w.alloc (.cells #[] 29)).ownsRow w.heap.size 29 2 (.slice (some ⟨w.heap.size, 0, none⟩) 0 0) 0 [] := World.ownsRow_lit w #[] 0 (Nat.le_refl _) (Nat.zero_le _) rfl
      show _
      rw [<- hw5]
      exact h
     have hs5 : w5.heap.size = w.heap.size + 1 := by rw [<- hw5]; simp
     have HL5 := Za L5
     rw [hw5]
     clear hw5 L5
     refine hK.out _ _ (HE.out _ (HL5.out.block D hDl)) (fun _ => ?_)
     clear hK K
     refine Zg 8 (by kernel_rfl) rfl (fun K hK => ?_)
     refine Zj w5 rfl (.tmp 15) (.tmp 21) 44 rfl w.heap.size 29 j0 _ 2 32 Tryz.underlying44 hj0 hy0 hy1 hy2 rfl (by omega) w.heap.size 0 0 [] rfl HR5.out (some ⟨gm, 0, none⟩) k (k + 1) (ZK (ds.take k)) rfl (ZdV HS1.out (HL5.out.block gm HGL.out)) (by unfold maxLen; omega) (by omega) (by omega) w5.heap.size rfl ?_
     intro g6 c6 w6 hown6 hgrow6 hat6 hlt6
     have HR6 := Za hown6
     have hz6 := hgrow6.size
     have HL6 : Hid (Below w.heap.size w w6) := HL5.out.grown hgrow6 (by omega) (by intro q hq; cases hq; omega)
     clear hown6 hgrow6
     refine hK.out _ _ (HE.out _ (HL6.out.block D hDl)) (fun _ => ?_)
     clear hK K
     refine Zg 16 (by kernel_rfl) rfl (fun K hK => ?_)
     refine Zj w6 rfl (.tmp 22) (.tmp 29) 44 rfl w.heap.size 29 j0 _ 2 32 Tryz.underlying44 hj0 hy0 hy1 hy2 rfl (by omega) g6 (0 + k) c6 ([] ++ ZK (ds.take k)) rfl HR6.out (some ⟨gm, 0, none⟩) (ds.length - (k + 1)) 0 (ZK (ds.drop (k + 1))) rfl (ZdV HS3.out (HL6.out.block gm HGL.out)) (by unfold maxLen; omega) (by omega) (by have := HL6.out.size; omega) w6.heap.size rfl ?_
     intro g8 c8 w8 hown8 hgrow8 hat8 hlt8
     have hg6 := (World.ownsRow.lt HR6.out g6 rfl).1
     have HL8 : Hid (Below w.heap.size w w8) := HL6.out.grown hgrow8 (by have := HL6.out.size; omega) (by intro q hq; cases hq; omega)
     have HO8 : Hid (w8.ownsRow w.heap.size 29 2 (.slice (some ⟨g8, 0, none⟩) (k + (ds.length - (k + 1))) c8) (k + (ds.length - (k + 1))) (ZK (ds.take k ++ ds.drop (k + 1)))) := by
      have h := hown8
      rw [List.nil_append, <- ZbB, Nat.zero_add] at h
      exact h
     clear hown8 hgrow8
     refine hK.out _ _ (HE.out _ (HL8.out.block D hDl)) (fun _ => ?_)
     clear hK K
     refine Zg 17 (by kernel_rfl) rfl (fun K hK => ?_)
     go_simp
     refine hK.out _ _ (HE.out _ (HL8.out.block D hDl)) (fun _ => ?_)
     clear hK K
     refine Zg 18 (by kernel_rfl) rfl (fun K hK => ?_)
     go_simp
     refine hK.out _ _ (HE.out _ (HL8.out.block D hDl)) (fun _ => ?_)
     clear hK K
     refine wpAnyH_done (by kernel_rfl) ?_ _
     simp only [Exit.then]
     have t8 := (HL8.out.block D hDl).trans HD.out
     obtain ⟨-, u1, -, -, -, uf, -⟩ := Zo t8
     have uf1 := uf 1
     obtain ⟨len8, hlen8⟩ : ∃ n8, k + (ds.length - (k + 1)) = n8 := ⟨_, rfl⟩
     have hlen9 : (ds.take k ++ ds.drop (k + 1)).length = len8 := by rw [List.length_append, HLL.out.1, HLL.out.2]; omega
     rw [hlen8] at HO8 ⊢
     have HOO : Hid (∀ w' : World, w' = w8.setCell ⟨D, 1, none⟩ (.slice (some ⟨g8, 0, none⟩) len8 c8) -> ∃ g c2, w'.heap[D]? = some (.cells #[.int .i64 wd, .slice (some ⟨g, 0, none⟩) (ds.take k ++ ds.drop (k + 1)).length c2, .int .i64 d, vt, .int .i64 nx] 52) /\ (ds.take k ++ ds.drop (k + 1)).length <= c2 /\ Z8 base w' g c2 (ds.take k ++ ds.drop (k + 1)) /\ Cgd (fun b => b = D) w w') := fun w' e => by
      have hfar : ∀ b, b ≠ D -> w'.heap[b]? = w8.heap[b]? := fun b hb => by rw [e]; exact Below.heap_setCell w8 ⟨D, 1, none⟩ _ b (fun e => hb e)
      have hg8 := (World.ownsRow.lt HO8.out g8 rfl)
      have hcap8 : len8 <= c8 := by
       obtain ⟨-, ⟨x, -⟩ | ⟨g', cap, cur, x, -, -, hcc, -⟩⟩ := HO8.out
       · cases x
       · injection x with x1 x2 x3; omega
      have hown : w'.ownsRow w.heap.size 29 2 (.slice (some ⟨g8, 0, none⟩) len8 c8) len8 (ZK (ds.take k ++ ds.drop (k + 1))) := Zb6 HO8.out (fun g eg => by
       have e' : g = g8 := by simpa [Value.ownBlock] using eg.symm
       exact hfar g (by omega))
      rw [hlen9]
      refine ⟨g8, c8, by rw [e]; exact ZfV t8, hcap8, ?_, ?_⟩
      · exact Zhl HR.out.drv (Zgf ds k) (by rw [hlen9]; exact hown) (by have := HR.out.lt; omega) hg8.1 (fun x hx => (hfar _ (HPL.out x hx).2).trans (HL8.out.block _ (HPL.out x hx).1))
      · exact ⟨by rw [e]; exact HL8.out.os, by rw [e]; exact HL8.out.tape, by rw [e]; exact HL8.out.output, by rw [e, Zc]; exact HL8.out.size, fun b hb hne => (hfar b hne).trans (HL8.out.block b hb)⟩
     clear t8 uf hlen8 hlen9 HR5 HR6 HL5 HL6 HO8 HE HD HS1 HS3 HLL
     go_wp2_with fail
     refine NoPanic.normal ?_
     go_wp2_with fail
     go_ret
     exact ⟨fun h => absurd h (by have := HZ.out.1; omega), fun _ => ⟨rfl, HOO.out _ rfl⟩⟩
   · have HS3 : Hid (Zai w 2 (some ⟨gm, (k + 1) * 2, none⟩) (ds.length - (k + 1)) (ZK (ds.drop (k + 1)))) := by have h := HS2.out; rw [if_neg hc] at h; exact h
     clear HS2
     go_enter Tryz.func140, Tryz.ntmps140
     go_wp2_with fail
     refine HF.out.mono ?_
     rintro e w1 ⟨rfl, hw1⟩
     have hw2 := hw1.symm
     subst hw2
     clear HF
     go_wp2_with fail
     clear e0 e1 ef1
     refine Zab (S := fun W' => W'.cell? ⟨D, 1, none⟩ = some (.slice (some ⟨gm, 0, none⟩) ds.length c)) (fuel := 5)
      [0, 2, 3, 4, 5, 6, 7, 9, 10, 11, 12, 13, 14, 15] _ rfl (by kernel_rfl) (by kernel_rfl) (by kernel_rfl) (by kernel_rfl) (by kernel_rfl) (by kernel_rfl) (by kernel_rfl) (HE.out _ rfl) (fun _ => ?_)
     iterate 14
      refine ⟨_, rfl, ?_⟩
      apply Exists.intro
      refine ⟨Or.inl ⟨by rfl, fun w' hw' => ?_⟩, ?_⟩
      · first
        | (go_simp; done)
        | (go_simp; with_reducible rfl)
      simp only [Act.put, List.setIfInBounds_toArray]
     refine Zg 1 (by kernel_rfl) rfl (fun K hK => ?_)
     go_simp
     obtain ⟨w5, hw5⟩ : ∃ w5, (w.alloc (.cells #[] 29)).drew = w5 := ⟨_, rfl⟩
     have L5 : Below w.heap.size w w5 := by rw [<- hw5]; exact ((Below.refl w.heap.size w).alloc (Nat.le_refl _) _).drew
     have HR5 : Hid (w5.ownsRow w.heap.size 29 2 (.slice (some ⟨w.heap.size, 0, none⟩) 0 0) 0 []) := by
      have h : (w.alloc (.cells #[] 29)).ownsRow w.heap.size 29 2 (.slice (some ⟨w.heap.size, 0, none⟩) 0 0) 0 [] := World.ownsRow_lit w #[] 0 (Nat.le_refl _) (Nat.zero_le _) rfl
      show _
      rw [<- hw5]
      exact h
     have hs5 : w5.heap.size = w.heap.size + 1 := by rw [<- hw5]; simp
     have HL5 := Za L5
     rw [hw5]
     clear hw5 L5
     refine hK.out _ _ (HE.out _ (HL5.out.block D hDl)) (fun _ => ?_)
     clear hK K
     refine Zg 8 (by kernel_rfl) rfl (fun K hK => ?_)
     refine Zj w5 rfl (.tmp 15) (.tmp 21) 44 rfl w.heap.size 29 j0 _ 2 32 Tryz.underlying44 hj0 hy0 hy1 hy2 rfl (by omega) w.heap.size 0 0 [] rfl HR5.out (some ⟨gm, 0, none⟩) k c (ZK (ds.take k)) rfl (ZdV HS1.out (HL5.out.block gm HGL.out)) (by unfold maxLen; omega) (by omega) (by omega) w5.heap.size rfl ?_
     intro g6 c6 w6 hown6 hgrow6 hat6 hlt6
     have HR6 := Za hown6
     have hz6 := hgrow6.size
     have HL6 : Hid (Below w.heap.size w w6) := HL5.out.grown hgrow6 (by omega) (by intro q hq; cases hq; omega)
     clear hown6 hgrow6
     refine hK.out _ _ (HE.out _ (HL6.out.block D hDl)) (fun _ => ?_)
     clear hK K
     refine Zg 16 (by kernel_rfl) rfl (fun K hK => ?_)
     refine Zj w6 rfl (.tmp 22) (.tmp 29) 44 rfl w.heap.size 29 j0 _ 2 32 Tryz.underlying44 hj0 hy0 hy1 hy2 rfl (by omega) g6 (0 + k) c6 ([] ++ ZK (ds.take k)) rfl HR6.out (some ⟨gm, (k + 1) * 2, none⟩) (ds.length - (k + 1)) (c - (k + 1)) (ZK (ds.drop (k + 1))) rfl (ZdV HS3.out (HL6.out.block gm HGL.out)) (by unfold maxLen; omega) (by omega) (by have := HL6.out.size; omega) w6.heap.size rfl ?_
     intro g8 c8 w8 hown8 hgrow8 hat8 hlt8
     have hg6 := (World.ownsRow.lt HR6.out g6 rfl).1
     have HL8 : Hid (Below w.heap.size w w8) := HL6.out.grown hgrow8 (by have := HL6.out.size; omega) (by intro q hq; cases hq; omega)
     have HO8 : Hid (w8.ownsRow w.heap.size 29 2 (.slice (some ⟨g8, 0, none⟩) (k + (ds.length - (k + 1))) c8) (k + (ds.length - (k + 1))) (ZK (ds.take k ++ ds.drop (k + 1)))) := by
      have h := hown8
      rw [List.nil_append, <- ZbB, Nat.zero_add] at h
      exact h
     clear hown8 hgrow8
     refine hK.out _ _ (HE.out _ (HL8.out.block D hDl)) (fun _ => ?_)
     clear hK K
     refine Zg 17 (by kernel_rfl) rfl (fun K hK => ?_)
     go_simp
     refine hK.out _ _ (HE.out _ (HL8.out.block D hDl)) (fun _ => ?_)
     clear hK K
     refine Zg 18 (by kernel_rfl) rfl (fun K hK => ?_)
     go_simp
     refine hK.out _ _ (HE.out _ (HL8.out.block D hDl)) (fun _ => ?_)
     clear hK K
     refine wpAnyH_done (by kernel_rfl) ?_ _
     simp only [Exit.then]
     have t8 := (HL8.out.block D hDl).trans HD.out
     obtain ⟨-, u1, -, -, -, uf, -⟩ := Zo t8
     have uf1 := uf 1
     obtain ⟨len8, hlen8⟩ : ∃ n8, k + (ds.length - (k + 1)) = n8 := ⟨_, rfl⟩
     have hlen9 : (ds.take k ++ ds.drop (k + 1)).length = len8 := by rw [List.length_append, HLL.out.1, HLL.out.2]; omega
     rw [hlen8] at HO8 ⊢
     have HOO : Hid (∀ w' : World, w' = w8.setCell ⟨D, 1, none⟩ (.slice (some ⟨g8, 0, none⟩) len8 c8) -> ∃ g c2, w'.heap[D]? = some (.cells #[.int .i64 wd, .slice (some ⟨g, 0, none⟩) (ds.take k ++ ds.drop (k + 1)).length c2, .int .i64 d, vt, .int .i64 nx] 52) /\ (ds.take k ++ ds.drop (k + 1)).length <= c2 /\ Z8 base w' g c2 (ds.take k ++ ds.drop (k + 1)) /\ Cgd (fun b => b = D) w w') := fun w' e => by
      have hfar : ∀ b, b ≠ D -> w'.heap[b]? = w8.heap[b]? := fun b hb => by rw [e]; exact Below.heap_setCell w8 ⟨D, 1, none⟩ _ b (fun e => hb e)
      have hg8 := (World.ownsRow.lt HO8.out g8 rfl)
      have hcap8 : len8 <= c8 := by
       obtain ⟨-, ⟨x, -⟩ | ⟨g', cap, cur, x, -, -, hcc, -⟩⟩ := HO8.out
       · cases x
       · injection x with x1 x2 x3; omega
      have hown : w'.ownsRow w.heap.size 29 2 (.slice (some ⟨g8, 0, none⟩) len8 c8) len8 (ZK (ds.take k ++ ds.drop (k + 1))) := Zb6 HO8.out (fun g eg => by
       have e' : g = g8 := by simpa [Value.ownBlock] using eg.symm
       exact hfar g (by omega))
      rw [hlen9]
      refine ⟨g8, c8, by rw [e]; exact ZfV t8, hcap8, ?_, ?_⟩
      · exact Zhl HR.out.drv (Zgf ds k) (by rw [hlen9]; exact hown) (by have := HR.out.lt; omega) hg8.1 (fun x hx => (hfar _ (HPL.out x hx).2).trans (HL8.out.block _ (HPL.out x hx).1))
      · exact ⟨by rw [e]; exact HL8.out.os, by rw [e]; exact HL8.out.tape, by rw [e]; exact HL8.out.output, by rw [e, Zc]; exact HL8.out.size, fun b hb hne => (hfar b hne).trans (HL8.out.block b hb)⟩
     clear t8 uf hlen8 hlen9 HR5 HR6 HL5 HL6 HO8 HE HD HS1 HS3 HLL
     go_wp2_with fail
     refine NoPanic.normal ?_
     go_wp2_with fail
     go_ret
     exact ⟨fun h => absurd h (by have := HZ.out.1; omega), fun _ => ⟨rfl, HOO.out _ rfl⟩⟩
theorem Zm9 (base D c : Nat) (ag : Option Addr) (og : Option Nat) (ds : List Dm) (wd d nx id : Int) (vt : Value) (w : World) (hD : w.heap[D]? = some (.cells #[.int .i64 wd, .slice ag ds.length c, .int .i64 d, vt, .int .i64 nx] 52)) (hr : DRV base w ag c og ds) (hn : ds.length <= 60) (hDp : ∀ x ∈ ds, x.2.1 ≠ D) :
 Calls Tryz.prog 140 #[.pointer (some ⟨D, 0, none⟩), .int .i64 id] w fun e w' => (Zk (Zs ds) id < 0 -> e = .returned (.bool false) /\ w' = w) /\ (0 <= Zk (Zs ds) id -> e = .returned (.bool true) /\ ∃ g c2, w'.heap[D]? = some (.cells #[.int .i64 wd, .slice (some ⟨g, 0, none⟩) (ds.take (Zn (Zs ds) id) ++ ds.drop (Zn (Zs ds) id + 1)).length c2, .int .i64 d, vt, .int .i64 nx] 52) /\ (ds.take (Zn (Zs ds) id) ++ ds.drop (Zn (Zs ds) id + 1)).length <= c2 /\ Z8 base w' g c2 (ds.take (Zn (Zs ds) id) ++ ds.drop (Zn (Zs ds) id + 1)) /\ Cgd (fun b => b = D) w w') := by
 rcases hr.cases with ⟨rfl, rfl, rfl, rfl⟩ | ⟨g, rfl, rfl, hrw⟩
 · have hz : Zk (Zs []) id < 0 := by simp [Zk, Z2, Zs]
   have HF := Za (ZcM none 0 (Zs []) id w (Or.inl rfl) (by decide))
   have hz' : ¬ 0 <= Zk (Zs []) id := by omega
   obtain ⟨z, hzz⟩ : ∃ z, Zk (Zs []) id = z := ⟨_, rfl⟩
   have HL : Hid (Calls Tryz.prog 116 #[.slice none 0 0, .int .i64 id] w fun e w' => e = .returned (.int .i64 z) /\ w' = w) := by rw [<- hzz]; exact HF.out
   rw [hzz] at hz
   have HZ := Za hz'
   obtain ⟨e0, e1, e2, e3, e4, ef, hDl⟩ := Zo hD
   have e1' : w.cell? ⟨D, 1, none⟩ = some (.slice none 0 0) := e1
   clear e1 hz' hzz HF e0 e2 e3 e4 ef hr hD
   go_enter Tryz.func140, Tryz.ntmps140
   go_wp2_with fail
   refine HL.out.mono ?_
   rintro e w1 ⟨rfl, hw1⟩
   subst hw1
   go_wp2_with fail
   go_ret
   exact ⟨fun _ => ⟨rfl, rfl⟩, fun h => absurd HZ.out (by omega)⟩
 · exact Zmq base D g c ds wd d nx id vt w hD hrw hn hDp
end Go.Proofs.YtaaagmgglolibaaGreat
