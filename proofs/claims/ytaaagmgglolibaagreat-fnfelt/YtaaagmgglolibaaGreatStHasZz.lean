import Derived.Test.YtaaagmgglolibaaGreatTwArgsZz
import Derived.Test.YtaaagmgglolibaaGreatFeWalkZz
import Derived.Laws.ByValue
import Derived.Test.YtaaagmgglolibaaGreatKSuitZz
import Derived.Test.YtaaagmgglolibaaGreatTwAskZz
set_option maxRecDepth 100000
set_option maxHeartbeats 8000000
namespace Go.Proofs.YtaaagmgglolibaaGreat
open Go Go.RowKit
theorem ZmK (x : Int) (a : Option Addr) (n c : Nat) (w : World) : Sem.run Tryz.prog (method 465 29 (.agg #[.int .i64 x, .slice a n c]) "loop.example/g00273/impl.id") w = .ok (345, .agg #[.int .i64 x, .slice a n c]) w := by kernel_rfl
theorem iIdM (x : Int) (a : Option Addr) (n c : Nat) (w : World) :
 Calls Tryz.prog 345 #[.agg #[.int .i64 x, .slice a n c]] w fun e w' => e = .returned (.int .i64 x) /\ Below w.heap.size w w' := by
 have hB : Below w.heap.size w (w.alloc (.cells #[.int .i64 x, .slice a n c] 29)) := (Below.refl _ _).alloc (Nat.le_refl _) _
 have HB := Za hB
 clear hB
 go_enter Tryz.func345, Tryz.ntmps345
 go_wp2_with fail
 go_ret
 exact ⟨rfl, HB.out⟩
theorem ZnI (B : Nat) (id x : Int) (a : Option Addr) (n c : Nat) (w : World) (hb : B < w.heap.size) (hc : w.cell? ⟨B, 0, none⟩ = some (.int .i64 id)) :
 Calls Tryz.prog 219 #[.agg #[.int .i64 x, .slice a n c], .pointer (some ⟨B, 0, none⟩)] w fun e w' => e = .returned (.bool (decide (x = id))) /\ Below w.heap.size w w' := by
 obtain ⟨V, hV⟩ : ∃ V, w.alloc (.cells #[.int .i64 x, .slice a n c] 29) = V := ⟨_, rfl⟩
 have LV : Below w.heap.size w V := by rw [<- hV]; exact (Below.refl _ _).alloc (Nat.le_refl _) _
 have y0 : V.cell? ⟨w.heap.size, 0, none⟩ = some (.int .i64 x) := by rw [<- hV]; simp
 have y1 : V.cell? ⟨w.heap.size, 1, none⟩ = some (.slice a n c) := by rw [<- hV]; simp
 have hyl : w.heap.size < V.heap.size := by rw [<- hV]; simp
 have hb' : B < V.heap.size := by omega
 have hc' := (LV.cell (p := ⟨B, 0, none⟩) hb).trans hc
 have HK : Hid (∀ W', Below V.heap.size V W' -> W'.cell? ⟨w.heap.size, 0, none⟩ = some (.int .i64 x) /\ W'.cell? ⟨w.heap.size, 1, none⟩ = some (.slice a n c) /\ W'.cell? ⟨B, 0, none⟩ = some (.int .i64 id)) := fun W' L' => ⟨(L'.cell (p := ⟨w.heap.size, 0, none⟩) hyl).trans y0, (L'.cell (p := ⟨w.heap.size, 1, none⟩) hyl).trans y1, (L'.cell (p := ⟨B, 0, none⟩) hb').trans hc'⟩
 have HLV := Za LV
 have MI := ZmK x a n c
 have hbe : ((x : Int) == id) = decide (x = id) := by rw [Bool.eq_iff_iff]; simp
 clear hc hb LV hc'
 go_enter Tryz.func219, Tryz.ntmps219
 go_wp2_with fail
 clear hV y0 y1
 refine Zr (S := (fun w' => w'.cell? ⟨w.heap.size, 0, none⟩ = some (.int .i64 x) /\ w'.cell? ⟨w.heap.size, 1, none⟩ = some (.slice a n c) /\ w'.cell? ⟨B, 0, none⟩ = some (.int .i64 id))) (fuel := 3) [0, 1, 3] (by kernel_rfl) (by kernel_rfl) (by kernel_rfl) (by kernel_rfl) (HK.out _ ((Below.refl V.heap.size V).drew)) (fun _ => ?_)
 iterate 3
  refine ⟨_, rfl, ?_⟩
  apply Exists.intro
  refine ⟨Or.inl ⟨by rfl, fun w' hw' => ?_⟩, ?_⟩
  · first
    | (go_simp; done)
    | (go_simp; with_reducible rfl)
  simp only [Act.put, List.getElem_toArray, List.getElem_cons_succ, List.getElem_cons_zero, List.setIfInBounds_toArray, List.set_cons_zero, List.set_cons_succ]
 refine Zg 2 (by kernel_rfl) rfl (fun K hK => ?_)
 go_simp
 refine (iIdM x a n c _).mono ?_
 rintro e w2 ⟨rfl, L2'⟩
 have L2 : Below V.heap.size V w2 := Below.trans ((Below.refl V.heap.size V).drew) L2'
 refine hK.out _ _ (HK.out _ L2) (fun _ => ?_)
 clear hK K L2'
 refine ZH [4, 5] (by kernel_rfl) (by kernel_rfl) (by kernel_rfl) (by kernel_rfl) (HK.out _ L2) ?_
 iterate 2
  refine ⟨_, rfl, ?_⟩
  apply Exists.intro
  refine ⟨Or.inl ⟨by rfl, fun w' hw' => ?_⟩, ?_⟩
  · first
    | (go_simp; done)
    | (go_simp; with_reducible rfl)
  simp only [Act.put, List.getElem_toArray, List.getElem_cons_succ, List.getElem_cons_zero, List.setIfInBounds_toArray, List.set_cons_zero, List.set_cons_succ]
 refine NoPanic.normal ?_
 refine NoPanic.normal ?_
 have HF := Za (Zd HLV.out L2)
 clear L2 HK
 go_wp2_with fail
 go_ret
 exact ⟨Zb (by first | rfl | simp), HF.out⟩
theorem ZiT {ms : List Mk} {id : Int} (h : ∀ j, j < ms.length -> mid ms j ≠ id) : decide (0 <= Zk ms id) = false := by
 refine decide_eq_false (fun h0 => ?_)
 obtain ⟨h1, _, h3⟩ := Zx h0
 exact h _ h1 h3
theorem ZiU {ms : List Mk} {id : Int} {k : Nat} (hk : k < ms.length) (h : mid ms k = id) : decide (0 <= Zk ms id) = true := by
 refine decide_eq_true ?_
 rcases Int.lt_or_le (Zk ms id) 0 with h0 | h0
 · exact absurd h (Zfl h0 k hk)
 · exact h0
theorem ZmL (B : Nat) (id : Int) (ao : Option Addr) (cap : Nat) (hi : List Mk) (w : World) (hb : B < w.heap.size) (hc : w.cell? ⟨B, 0, none⟩ = some (.int .i64 id)) (hv : Zw w ao hi) (hsh : ZP hi) :
 Calls Tryz.prog 259 #[.slice ao hi.length cap, .func (.func 219) #[] #[.pointer (some ⟨B, 0, none⟩)]] w fun e w' => (∃ r : Int, e = .returned (.int .i64 r) /\ decide (0 <= r) = decide (0 <= Zk hi id)) /\ Below w.heap.size w w' := by
 have HF : Hid (∀ W k a c, Below w.heap.size w W -> Calls Tryz.prog 219 #[.agg #[.int .i64 (mid hi k), .slice a (mat hi k).length c], .pointer (some ⟨B, 0, none⟩)] W fun e w' => e = .returned (.bool (decide (mid hi k = id))) /\ Below W.heap.size W w') := fun W k a c L =>
  ZnI B id (mid hi k) a (mat hi k).length c W (Nat.lt_of_lt_of_le hb L.size) ((L.cell (p := ⟨B, 0, none⟩) hb).trans hc)
 have HV := Za hv
 have hn := hsh.1
 clear hv hsh hb hc
 go_enter Tryz.func259, Tryz.ntmps259
 go_wp2_with fail
 go_loopw [8] (fun i wr => ∃ k : Nat, k <= hi.length /\ i = .int .i64 k /\ (∀ j, j < k -> mid hi j ≠ id) /\ Below w.heap.size w wr) (fun i _ => hi.length - (intOf i).toNat)
 case atStart => exact ⟨0, Nat.zero_le _, rfl, fun j hj => by omega, Below.refl _ _⟩
 case round =>
  obtain ⟨k, hk, rfl, hall, L⟩ := hrel
  have HA := Za hall
  have HL := Za L
  have hvr := HV.out.next L
  clear hall L
  by_cases hlt : k < hi.length
  · obtain ⟨b, off, rfl, hb, hs⟩ := ZaW.seg hvr (by omega)
    obtain ⟨c0, pa, pc, c1, hpv⟩ := hs.at (i := k) hlt
    have HN := Za (HF.out wr k pa pc HL.out)
    clear hs hvr hpv
    by_cases he : mid hi k = id
    · have HX := Za (ZiU hlt he)
      rw [decide_eq_true he] at HN
      clear he
      generalize mid hi k = x at *
      generalize (mat hi k).length = xl at *
      go_wp2_with fail
      refine HN.out.mono ?_
      rintro e w2 ⟨rfl, L2⟩
      have HL2 := Za (Zd HL.out L2)
      clear L2
      go_wp2_with fail
      go_ret
      exact ⟨⟨(k : Int), rfl, by rw [HX.out]; simp⟩, HL2.out⟩
    · have HE := Za he
      rw [decide_eq_false he] at HN
      clear he
      generalize hgm : mid hi k = x at *
      have HGM := Za hgm
      clear hgm
      generalize (mat hi k).length = xl at *
      go_wp2_with fail
      refine HN.out.mono ?_
      rintro e w2 ⟨rfl, L2⟩
      have HL2 := Za (Zd HL.out L2)
      clear L2
      go_wp2_with fail
      go_roundw
      case rel => exact ⟨k + 1, by omega, by go_num, fun j hj => by
       rcases Nat.lt_or_ge j k with h | h
       · exact HA.out j h
       · rw [show j = k by omega, HGM.out]; exact HE.out, HL2.out⟩
      case measure => simp [intOf]; omega
  · go_wp2_with fail
    go_ret
    obtain rfl : k = hi.length := by omega
    exact ⟨⟨-1, rfl, by rw [ZiT HA.out]; rfl⟩, HL.out⟩
theorem ZlP (B : Nat) (id : Int) (ao : Option Addr) (cap : Nat) (hi : List Mk) (w : World) (hb : B < w.heap.size) (hc : w.cell? ⟨B, 0, none⟩ = some (.int .i64 id)) (hv : Zw w ao hi) (hsh : ZP hi) :
 Calls Tryz.prog 218 #[.slice ao hi.length cap, .func (.func 219) #[] #[.pointer (some ⟨B, 0, none⟩)]] w fun e w' => e = .returned (.bool (decide (0 <= Zk hi id))) /\ Below w.heap.size w w' := by
 have HI := Za (ZmL B id ao cap hi w hb hc hv hsh)
 clear hv hb hc
 go_enter Tryz.func218, Tryz.ntmps218
 go_wp2_with fail
 refine HI.out.mono ?_
 rintro e w2 ⟨⟨r, rfl, hr⟩, L2⟩
 have HL2 := Za L2
 clear L2
 go_wp2_with fail
 go_ret
 exact ⟨Zb (by rw [<- hr]), HL2.out⟩
theorem iHasM (id : Int) (ao : Option Addr) (cap : Nat) (hi : List Mk) (w : World) (hv : Zw w ao hi) (hsh : ZP hi) :
 Calls Tryz.prog 144 #[.slice ao hi.length cap, .int .i64 id] w fun e w' => e = .returned (.bool (decide (0 <= Zk hi id))) /\ Below w.heap.size w w' := by
 obtain ⟨V, hV⟩ : ∃ V, w.alloc (.cells #[.int .i64 id] 2) = V := ⟨_, rfl⟩
 have LV : Below w.heap.size w V := by rw [<- hV]; exact (Below.refl _ _).alloc (Nat.le_refl _) _
 have y0 : V.cell? ⟨w.heap.size, 0, none⟩ = some (.int .i64 id) := by rw [<- hV]; simp
 have hyl : w.heap.size < V.heap.size := by rw [<- hV]; simp
 have HC := Za (ZlP w.heap.size id ao cap hi V hyl y0 (hv.next LV) hsh)
 have HLV := Za LV
 clear hv LV
 go_enter Tryz.func144, Tryz.ntmps144
 go_wp2_with fail
 refine HC.out.mono ?_
 rintro e w2 ⟨rfl, L2⟩
 have HL2 := Za (Zd HLV.out L2)
 clear L2
 go_wp2_with fail
 go_ret
 exact ⟨rfl, HL2.out⟩
def Za8 (ms : List Mk) (h : Ht) : Bool := decide (0 <= Zk ms h.1)
def Zhf (ms : List Mk) (ts : List Wb) (q : List Int) (k : Int) : List Ht := ((Zcr ts q (min 60 (3 * k))).filter (Za8 ms)).take k.toNat
def Zaw (wd : Int) (ms : List Mk) (d : Int) (ts : List Wb) (nx : Int) (q : List Int) (k : Int) : List Ht := if ZaQ wd ms d ts nx q k = true then Zhf ms ts q k else []
theorem Zei {k : Int} (h : ZE k = true) : ZE (min 60 (3 * k)) = true /\ 1 <= k /\ k <= 60 := by
 simp only [ZE, Bool.and_eq_true, decide_eq_true_eq] at h ⊢
 omega
theorem ZcY {wd : Int} {ms : List Mk} {d : Int} {ts : List Wb} {nx : Int} {q : List Int} (h : stB wd ms d ts nx = true) (hq : okB q = true) (hl : (q.length : Int) = wd) : ZJ (Ze ts 0).1 q = true := by
 obtain ⟨_, h2, h3, _⟩ := Zcq h
 have hm : Zm (Ze ts 0).1 = true := Zz (Zaz h2 (n := 0) (by omega))
 rw [ZJ, hm, hq]
 rcases Nat.eq_zero_or_pos (Ze ts 0).1.length with h0 | h0
 · simp [h0]
 · have := (ZiV h3 h0).1
   have e : decide ((mat (Ze ts 0).1 0).length = q.length) = true := decide_eq_true (by omega)
   rw [e]; simp
theorem ZlQ {wd : Int} {ms : List Mk} {d : Int} {ts : List Wb} {nx : Int} {q : List Int} {k : Int} (hs : stB wd ms d ts nx = true) (hk : ZE k = true) : Zaw wd ms d ts nx q k = ((Zez d ts q (min 60 (3 * k))).filter (Za8 ms)).take k.toNat := by
 obtain ⟨_, h2, h3, _⟩ := Zcq hs
 have hk2 := (Zei hk).1
 unfold Zaw
 rcases ht : ZaQ wd ms d ts nx q k with _ | _
 · rw [if_neg (by simp)]
   simp only [ZaQ, hs, hk, Bool.true_and, Bool.and_true, Bool.and_eq_false_iff, decide_eq_false_iff_not] at ht
   have hnil : Zez d ts q (min 60 (3 * k)) = [] := by
    rcases ht with h | h
    · exact Zdh (Or.inr (Or.inl (by simp [ZJ, h])))
    · rcases Nat.eq_zero_or_pos (Ze ts 0).1.length with h0 | h0
      · rcases e : ZJ (Ze ts 0).1 q with _ | _
        · exact Zdh (Or.inr (Or.inl e))
        · rw [Zfw h2 e hk2]; exact Zej h0
      · have := (ZiV h3 h0).1
        have e1 : decide ((Ze ts 0).1.length = 0) = false := decide_eq_false (by omega)
        have e2 : decide ((mat (Ze ts 0).1 0).length = q.length) = false := decide_eq_false (by omega)
        refine Zdh (Or.inr (Or.inl ?_))
        rw [ZJ, e1, e2]; simp
   rw [hnil]; simp
 · rw [if_pos rfl]
   simp only [ZaQ, hs, hk, Bool.true_and, Bool.and_true, Bool.and_eq_true, decide_eq_true_eq] at ht
   rw [Zfw h2 (ZcY hs ht.1 ht.2) hk2]
   rfl
theorem Zek (ts : List Wb) (q : List Int) (k : Int) : (Zcr ts q k).length <= 61 := by
 unfold Zcr
 have := (ZeE (Ze ts 0).1 (Ze ts 0).2 (Zah ts q 0) q (Zbn k)).2.2.2
 rw [List.length_take]
 omega
theorem ZjV {wd : Int} {ms : List Mk} {d : Int} {ts : List Wb} {nx : Int} {q : List Int} {k : Int} : (Zaw wd ms d ts nx q k).length <= 61 := by
 unfold Zaw
 split
 · unfold Zhf
   have := List.length_filter_le (Za8 ms) (Zcr ts q (min 60 (3 * k)))
   have := Zek ts q (min 60 (3 * k))
   rw [List.length_take]
   omega
 · simp
theorem Zf7 {p : Ht -> Bool} {ss : List Ht} {i : Nat} (hi : i < ss.length) : (ss.take (i + 1)).filter p = (ss.take i).filter p ++ (if p (Zf ss i) = true then [Zf ss i] else []) := by
 rw [Zf8 hi, List.filter_append]
 congr 1
 rcases e : p (Zf ss i) with _ | _ <;> simp [e]
theorem ZlR (p : Ht -> Bool) (ss : List Ht) (i : Nat) : ∃ r, ss.filter p = (ss.take i).filter p ++ r := ⟨(ss.drop i).filter p, by rw [<- List.filter_append, List.take_append_drop]⟩
theorem ZkA {p : Ht -> Bool} {ss : List Ht} {i k : Nat} (hl : ((ss.take i).filter p).length = k) : (ss.filter p).take k = (ss.take i).filter p := by
 obtain ⟨r, hr⟩ := ZlR p ss i
 rw [hr, <- hl, List.take_left']
 rfl
theorem ZhK (p : Ht -> Bool) (ss : List Ht) (i : Nat) : ((ss.take i).filter p).length <= i := Nat.le_trans (List.length_filter_le _ _) (by rw [List.length_take]; omega)
theorem Z6.seg16 {w : World} {ao : Option Addr} {hs : List Ht} (h : Z6 w ao hs) (h0 : 0 < hs.length) : ∃ b off, ao = some ⟨b, off, none⟩ /\ b < w.heap.size /\ Zca w b off hs := by
 rcases h with h | h
 · rw [h] at h0; simp at h0
 · exact h
theorem ZmM (x y : Int) (w : World) : Sem.run Tryz.prog (method 465 66 (.agg #[.int .i64 x, .int .i64 y]) "loop.example/g00273/impl.id") w = .ok (346, .agg #[.int .i64 x, .int .i64 y]) w := by kernel_rfl
theorem iIdH (x y : Int) (w : World) :
 Calls Tryz.prog 346 #[.agg #[.int .i64 x, .int .i64 y]] w fun e w' => e = .returned (.int .i64 x) /\ Below w.heap.size w w' := by
 have hB : Below w.heap.size w (w.alloc (.cells #[.int .i64 x, .int .i64 y] 66)) := (Below.refl _ _).alloc (Nat.le_refl _) _
 have HB := Za hB
 clear hB
 go_enter Tryz.func346, Tryz.ntmps346
 go_wp2_with fail
 go_ret
 exact ⟨rfl, HB.out⟩
theorem ZnJ (ah am : Option Addr) (ch cm : Nat) (ss : List Ht) (ms : List Mk) (w : World) (hv : Z6 w ah ss) (hl : ss.length <= 61) (hm : Zw w am ms) (hsm : ZP ms) :
 Calls Tryz.prog 143 #[.slice ah ss.length ch, .func (.func 144) #[.slice am ms.length cm] #[]] w fun e w' => ∃ g c, e = .returned (.slice (some ⟨g, 0, none⟩) (ss.filter (Za8 ms)).length c) /\ Zy w.heap.size w' g c (ss.filter (Za8 ms)) /\ Below w.heap.size w w' := by
 have R0 := Za (Zy.start w w.heap.size (Nat.le_refl _))
 have L0 : Below w.heap.size w (w.alloc (.cells #[] 66)) := (Below.refl _ _).alloc (Nat.le_refl _) _
 have HV := Za hv
 have HM := Za hm
 have HSM := Za hsm
 have MI := ZmM
 obtain ⟨j0, hj0, hy0, hy1, hy2⟩ := info_parts Tryz.info66
 clear hv hm hsm
 go_enter Tryz.func143, Tryz.ntmps143
 go_wp2_with fail
 go_loopw [5, 11] (fun v iv wr => ∃ (i g c : Nat), i <= ss.length /\ iv = .int .i64 i /\ v = .slice (some ⟨g, 0, none⟩) ((ss.take i).filter (Za8 ms)).length c /\ Zy w.heap.size wr g c ((ss.take i).filter (Za8 ms)) /\ Below w.heap.size w wr) (fun _ iv _ => ss.length - (intOf iv).toNat)
 case atStart => exact ⟨0, w.heap.size, 0, Nat.zero_le _, rfl, rfl, R0.out, L0⟩
 case round =>
  obtain ⟨i, g, c, hi, rfl, rfl, hro, L⟩ := hrel
  have HRO := Za hro
  have HLL := Za L
  have hz := L.size
  have hgl := hro.lt
  have hfl := ZhK (Za8 ms) ss i
  clear hro L
  by_cases hlt : i < ss.length
  · have hlti : (i : Int) < (ss.length : Int) := by omega
    have hi0 : (0 : Int) <= (i : Int) := Int.natCast_nonneg _
    obtain ⟨b, off, rfl, hb, hs⟩ := Z6.seg16 (HV.out.next HLL.out) (by omega)
    obtain ⟨hc0, hc1⟩ := hs i hlt
    have HFS := Za (Zf7 (p := Za8 ms) hlt)
    have HHH : Hid (Za8 ms (Zf ss i) = decide (0 <= Zk ms (Zf ss i).1)) := rfl
    have HMR := Za (HM.out.next HLL.out)
    obtain ⟨V, hV⟩ : ∃ V, wr.alloc (.cells #[.int .i64 (Zf ss i).1, .int .i64 (Zf ss i).2] 66) = V := ⟨_, rfl⟩
    have LV : Below wr.heap.size wr V := by rw [<- hV]; exact (Below.refl _ _).alloc (Nat.le_refl _) _
    have y0 : V.cell? ⟨wr.heap.size, 0, none⟩ = some (.int .i64 (Zf ss i).1) := by rw [<- hV]; simp
    have y1 : V.cell? ⟨wr.heap.size, 1, none⟩ = some (.int .i64 (Zf ss i).2) := by rw [<- hV]; simp
    have hyl : wr.heap.size < V.heap.size := by rw [<- hV]; simp
    have HLV := Za LV
    clear hs LV
    obtain ⟨o, ho⟩ : ∃ o, (ss.take i).filter (Za8 ms) = o := ⟨_, rfl⟩
    have HO := Za ho
    rw [ho] at HRO HFS hfl ⊢
    clear ho
    obtain ⟨x, hx⟩ : ∃ x, Zf ss i = x := ⟨_, rfl⟩
    rw [hx] at HFS HHH hc0 hc1 y0 y1 hV
    clear hx
    go_wp2_with fail
    clear hV
    refine (iIdH x.1 x.2 _).mono ?_
    rintro e w2 ⟨rfl, L2⟩
    have HL2 := Za (Zd HLV.out L2)
    have HC := Za (iHasM x.1 am cm ms w2 (HMR.out.next HL2.out) HSM.out)
    have z0 := (L2.cell (p := ⟨wr.heap.size, 0, none⟩) hyl).trans y0
    have z1 := (L2.cell (p := ⟨wr.heap.size, 1, none⟩) hyl).trans y1
    have hyl2 := Nat.lt_of_lt_of_le hyl L2.size
    clear L2 y0 y1
    go_wp2_with fail
    refine HC.out.mono ?_
    rintro e w3 ⟨rfl, L3⟩
    have HL3 := Za (Zd HL2.out L3)
    have u0 := (L3.cell (p := ⟨wr.heap.size, 0, none⟩) hyl2).trans z0
    have u1 := (L3.cell (p := ⟨wr.heap.size, 1, none⟩) hyl2).trans z1
    have hyl3 := Nat.lt_of_lt_of_le hyl2 L3.size
    clear L3 z0 z1 HC hyl hyl2
    have hz3 := HL3.out.size
    rcases hh : decide (0 <= Zk ms x.1) with _ | _
    · rw [HHH.out, hh] at HFS
      have HRF := Za (Zy.below HRO.out (Nat.le_refl _) HL3.out)
      have HLF := Za (HLL.out.trans (HL3.out.mono hz))
      clear hh HHH u0 u1
      go_wp2_with fail
      go_roundw
      case rel =>
       have e : (ss.take (i + 1)).filter (Za8 ms) = o := by rw [HFS.out]; simp
       exact ⟨i + 1, g, c, by omega, by go_num, by rw [e], by rw [e]; exact HRF.out, HLF.out⟩
      case measure => simp [intOf]; omega
    · rw [HHH.out, hh] at HFS
      have HRF := Za (Zy.below HRO.out (Nat.le_refl _) HL3.out)
      have HLF := Za (HLL.out.trans (HL3.out.mono hz))
      have LA := World.grownBy_alloc w3 (.cells #[.int .i64 x.1, .int .i64 x.2] 66) none
      have HRA := Za (HRF.out.kept LA (by simp))
      have hz4 : w.heap.size <= w3.heap.size := by omega
      clear hh HHH
      go_wp2_with (at_builtin; refine Zq _ rfl (.tmp 20) (.tmp 22) 182 rfl w.heap.size 66 j0 _ 2 16 Tryz.underlying182 hj0 hy0 hy1 hy2 rfl (by omega) g o.length c (Zi o) rfl HRA.out (some ⟨w3.heap.size, 0, none⟩) 1 1 (Zi [x]) rfl (Zbl (heap_alloc_new w3 _)) (by unfold maxLen; omega) (by omega) (by simp; omega) (w3.heap.size + 1) (by simp) ?_; intro gg cc w4 hown hgrow hat hltt)
      go_wp2
      go_roundw
      case rel =>
       have e : (ss.take (i + 1)).filter (Za8 ms) = o ++ [x] := by rw [HFS.out]; simp
       exact ⟨i + 1, gg, cc, by omega, by go_num, by rw [e, List.length_append, List.length_singleton], by rw [e]; exact Zy.snoc hown, (HLF.out.alloc hz4 _).grown hgrow (by simp; omega) (by intro k hk; cases hk; omega)⟩
      case measure => simp [intOf]; omega
  · go_wp2_with fail
    go_ret
    obtain rfl : i = ss.length := by omega
    rw [List.take_length] at HRO ⊢
    exact ⟨g, c, rfl, HRO.out, HLL.out⟩
theorem iFelt (am aw : Option Addr) (cm cw : Nat) (wd : Int) (ms : List Mk) (d : Int) (ts : List Wb) (nx : Int) (aq : Option Addr) (cq : Nat) (q : List Int) (k : Int) (w : World) (hm : Zw w am ms) (hw : ZC true w aw ts) (hsm : ZbQ ms ts) (hq : Zp w aq q) (hql : q.length <= 1048576) (hqc : q.length <= cq) :
 Calls Tryz.prog 45 #[.agg #[.int .i64 wd, .slice am ms.length cm, .int .i64 d, .slice aw ts.length cw, .int .i64 nx], .slice aq q.length cq, .int .i64 k] w fun e w' => ∃ a c, e = .returned (.slice a (Zaw wd ms d ts nx q k).length c) /\ Zb8 w.heap.size w' (.slice a (Zaw wd ms d ts nx q k).length c) (Zaw wd ms d ts nx q k) /\ Below w.heap.size w w' := by
 obtain ⟨W, hW⟩ : ∃ W, w.alloc (.cells #[.int .i64 wd, .slice am ms.length cm, .int .i64 d, .slice aw ts.length cw, .int .i64 nx] 52) = W := ⟨_, rfl⟩
 have hB : Below w.heap.size w W := by rw [<- hW]; exact (Below.refl _ _).alloc (Nat.le_refl _) _
 have hI : ZbT true W w.heap.size am aw cm cw wd ms d ts nx := by rw [<- hW]; exact ZbT.box hm hw
 have HB := Za hB
 have HI := Za hI
 have k0 := hI.c0
 have k1 := hI.c1
 have k2 := hI.c2
 have k3 := hI.c3
 have k4 := hI.c4
 have HCK := Za (Zgs k W)
 have HST := Za (ZhL am aw cm cw wd ms d ts nx W hI.mv hI.wv hsm)
 have HAS := Za (fun (W' : World) (L : Below W.heap.size W W') (k' : Int) => ZnK aw aq cw cq d ts q k' W' (hI.below L).wv (Zp.next (Zp.next hq hB) L) hsm.2.1 hql hqc)
 have HSM := Za hsm.1
 rcases hk : ZE k with _ | _
 · have HE : Hid (Zaw wd ms d ts nx q k = []) := by show _ = _; unfold Zaw; rw [if_neg (by simp [ZaQ, hk])]
   rw [hk] at HCK
   clear hm hw hsm hB hI hq hk
   go_enter Tryz.func45, Tryz.ntmps45
   go_wp2_with fail
   refine HCK.out.mono ?_
   rintro e w1 ⟨rfl, hw1⟩
   have hw2 := hw1.symm
   subst hw2
   go_wp2_with fail
   go_ret
   rw [HE.out]
   exact ⟨none, 0, rfl, Or.inl ⟨rfl, rfl⟩, HB.out⟩
 rcases hs : stB wd ms d ts nx with _ | _
 · have HE : Hid (Zaw wd ms d ts nx q k = []) := by show _ = _; unfold Zaw; rw [if_neg (by simp [ZaQ, hs])]
   rw [hk] at HCK
   rw [hs] at HST
   clear hm hw hsm hB hI hq hk hs
   go_enter Tryz.func45, Tryz.ntmps45
   go_wp2_with fail
   refine HCK.out.mono ?_
   rintro e w1 ⟨rfl, hw1⟩
   have hw2 := hw1.symm
   subst hw2
   go_wp2_with fail
   refine HST.out.mono ?_
   rintro e w2 ⟨rfl, L2⟩
   have HL2 := Za (Zd HB.out L2)
   clear L2
   go_wp2_with fail
   go_ret
   rw [HE.out]
   exact ⟨none, 0, rfl, Or.inl ⟨rfl, rfl⟩, HL2.out⟩
 have HE := Za (ZlQ (q := q) hs hk)
 obtain ⟨hkm, hk1, hk2⟩ := Zei hk
 have hmul : IntKind.i64.wrap (3 * k) = 3 * k := by rw [IntWalk.i64_in _ ⟨by omega, by omega⟩]
 rw [hk] at HCK
 rw [hs] at HST
 obtain ⟨K3, hK3⟩ : ∃ K3, min 60 (3 * k) = K3 := ⟨_, rfl⟩
 rw [hK3] at HE
 have HA61 : Hid ((Zez d ts q K3).length <= 61) := by
  show _ <= _
  unfold Zez
  split
  · exact Zek ts q K3
  · simp
 obtain ⟨AL, hAL⟩ : ∃ AL, Zez d ts q K3 = AL := ⟨_, rfl⟩
 rw [hAL] at HE HA61
 have HASK := Za (fun (W' : World) (L : Below W.heap.size W W') => HAS.out W' L K3)
 rw [hAL] at HASK
 clear hm hw hsm hB hI hq hk hs hkm HAS hAL
 go_enter Tryz.func45, Tryz.ntmps45
 go_wp2_with fail
 refine HCK.out.mono ?_
 rintro e w1 ⟨rfl, hw1⟩
 have hw2 := hw1.symm
 subst hw2
 go_wp2_with fail
 refine HST.out.mono ?_
 rintro e w2 ⟨rfl, L2⟩
 have HL2 := Za L2
 have c2 := (HI.out.below L2).c2
 have c3 := (HI.out.below L2).c3
 clear L2 hW k0 k1 k2 k3 k4
 go_wp2_with fail
 refine (HASK.out _ HL2.out).mono ?_
 rintro e w3 ⟨a3, c3', rfl, o3, L3⟩
 have HL3 := Za (Zd HL2.out L3)
 have c1 := (HI.out.below HL3.out).c1
 have HON := Za (ZnJ a3 am c3' cm AL ms w3 o3.slice HA61.out (HI.out.below HL3.out).mv HSM.out)
 clear L3 o3 c2 c3
 go_wp2_with fail
 refine HON.out.mono ?_
 rintro e w4 ⟨g, c, rfl, row, L4⟩
 have hcap := row.cap
 have HROW := Za (row.mono (by have := HL3.out.size; have := HB.out.size; omega : w.heap.size <= w3.heap.size))
 have HL4 := Za (Zd HB.out (Zd HL3.out L4))
 clear row L4 c1
 obtain ⟨F, hF⟩ : ∃ F, AL.filter (Za8 ms) = F := ⟨_, rfl⟩
 have hfl : F.length <= 61 := by rw [<- hF]; exact Nat.le_trans (List.length_filter_le _ _) HA61.out
 rw [hF] at HE HROW hcap ⊢
 clear hF
 have hmin : min k (F.length : Int) = ((min k.toNat F.length : Nat) : Int) := by omega
 have hmin2 : (min k.toNat F.length : Nat) <= c := by omega
 have HFT : Hid (F.take k.toNat = F.take (min k.toNat F.length)) := by
  show _ = _
  rcases Nat.le_total k.toNat F.length with h | h
  · rw [Nat.min_eq_left h]
  · rw [Nat.min_eq_right h, List.take_length, List.take_of_length_le h]
 have HLN : Hid ((F.take (min k.toNat F.length)).length = min k.toNat F.length) := by show _ = _; rw [List.length_take]; omega
 have hm2 : min k.toNat F.length <= F.length := by omega
 generalize min k.toNat F.length = m at *
 go_wp2_with fail
 go_ret
 rw [HE.out, HFT.out, HLN.out]
 exact ⟨some ⟨g, 0, none⟩, c, rfl, Or.inr ⟨g, c, by rw [HLN.out], HROW.out.take15 m hm2⟩, HL4.out⟩
theorem sFelt (v : Bool) (am aw : Option Addr) (cm cw : Nat) (wd : Int) (ms : List Mk) (d : Int) (ts : List Wb) (nx : Int) (aq : Option Addr) (cq : Nat) (q : List Int) (k : Int) (w : World) (hm : Zw w am ms) (hw : ZC v w aw ts) (hsm : ZbQ ms ts) (hq : Zp w aq q) (hql : q.length <= 1048576) :
 Calls Tryz.prog 46 #[.agg #[.int .i64 wd, .slice am ms.length cm, .int .i64 d, .slice aw ts.length cw, .int .i64 nx], .slice aq q.length cq, .int .i64 k] w fun e w' => ∃ g c, e = .returned (.slice (some ⟨g, 0, none⟩) (Zaw wd ms d ts nx q k).length c) /\ Zy w.heap.size w' g c (Zaw wd ms d ts nx q k) /\ Below w.heap.size w w' := by
 obtain ⟨W1, hW1⟩ : ∃ W, w.alloc (.cells #[.int .i64 wd, .slice am ms.length cm, .int .i64 d, .slice aw ts.length cw, .int .i64 nx] 52) = W := ⟨_, rfl⟩
 have hB1 : Below w.heap.size w W1 := by rw [<- hW1]; exact (Below.refl _ _).alloc (Nat.le_refl _) _
 have hI1 : ZbT v W1 w.heap.size am aw cm cw wd ms d ts nx := by rw [<- hW1]; exact ZbT.box hm hw
 have s1 : W1.heap.size = w.heap.size + 1 := by rw [<- hW1]; simp
 obtain ⟨W, hW⟩ : ∃ W, W1.alloc (.cells #[] 66) = W := ⟨_, rfl⟩
 have hB2 : Below W1.heap.size W1 W := by rw [<- hW]; exact (Below.refl _ _).alloc (Nat.le_refl _) _
 have hI := hI1.below hB2
 have R0 : Zy w.heap.size W (w.heap.size + 1) 0 [] := by rw [<- hW, <- s1]; exact Zy.start W1 w.heap.size (by omega)
 have HB := Za (Zd hB1 hB2)
 have HI := Za hI
 have HR0 := Za R0
 have k0 := hI.c0
 have k1 := hI.c1
 have k2 := hI.c2
 have k3 := hI.c3
 have k4 := hI.c4
 have HST := Za (Zjs v am aw cm cw wd ms d ts nx aq cq q k W hI.mv hI.wv hsm (Zp.next hq HB.out) hql)
 have HWW : Hid ((w.alloc (.cells #[.int .i64 wd, .slice am ms.length cm, .int .i64 d, .slice aw ts.length cw, .int .i64 nx] 52)).alloc (.cells #[] 66) = W) := by show _ = _; rw [hW1, hW]
 have hzW : W.heap.size = w.heap.size + 1 + 1 := by rw [<- hW]; simp [s1]
 have HSM := Za hsm
 have HM := Za hm
 have HQ := Za (Zp.next hq HB.out)
 obtain ⟨j0, hj0, hy0, hy1, hy2⟩ := info_parts Tryz.info66
 rcases ht : ZaQ wd ms d ts nx q k with _ | _
 · have HE : Hid (Zaw wd ms d ts nx q k = []) := by show _ = _; unfold Zaw; rw [if_neg (by rw [ht]; simp)]
   rw [ht] at HST
   clear hm hw hsm hB1 hB2 hI hI1 hq ht R0 hW1 hW
   go_enter Tryz.func46, Tryz.ntmps46
   go_wp2_with fail
   try rw [HWW.out]
   refine HST.out.mono ?_
   rintro e w1 ⟨rfl, L1⟩
   have HRF := Za (Zy.below HR0.out (Nat.le_refl _) L1)
   have HLF := Za (Zd HB.out L1)
   clear L1 k0 k1 k2 k3 k4
   go_wp2_with fail
   go_ret
   rw [HE.out]
   exact ⟨_, 0, rfl, HRF.out, HLF.out⟩
 have HE : Hid (Zaw wd ms d ts nx q k = Zhf ms ts q k) := by show _ = _; unfold Zaw; rw [if_pos ht]
 have hparts := ht
 simp only [ZaQ, Bool.and_eq_true, decide_eq_true_eq] at hparts
 obtain ⟨hst, hok, hln, hct⟩ := hparts
 have htow := (Zcq hst).2.1
 have hlen := (ZaP htow).1
 have htold := ZcY hst hok hln
 obtain ⟨hkm, hkl, hkh⟩ := Zei hct
 have hmul : IntKind.i64.wrap (3 * k) = 3 * k := by rw [IntWalk.i64_in _ ⟨by omega, by omega⟩]
 rw [ht] at HST
 have HAS : Hid (∀ W', Below W.heap.size W W' -> Calls Tryz.prog 120 #[.agg #[.int .i64 d, .slice aw ts.length cw], .slice aq q.length cq, .int .i64 (min 60 (3 * k))] W' fun e w' => ∃ g c, e = .returned (.slice (some ⟨g, 0, none⟩) (Zcr ts q (min 60 (3 * k))).length c) /\ Zy W'.heap.size w' g c (Zcr ts q (min 60 (3 * k))) /\ Below W'.heap.size W' w') := fun W' L => by
  rw [hlen]
  exact ZmN v aw aq cw cq d ts q (min 60 (3 * k)) W' (hI.below L).wv (Zp.next HQ.out L) hsm.2.1 hql htow htold hkm
 have HMN := Za (sMin 60 (3 * k))
 obtain ⟨ss, hss⟩ : ∃ ss, Zcr ts q (min 60 (3 * k)) = ss := ⟨_, rfl⟩
 have h61 : ss.length <= 61 := by rw [<- hss]; exact Zek ts q _
 have HE2 : Hid (Zaw wd ms d ts nx q k = (ss.filter (Za8 ms)).take k.toNat) := by show _ = _; rw [HE.out, <- hss]; rfl
 rw [hss] at HAS
 generalize min 60 (3 * k) = K3 at *
 clear hm hw hsm hB1 hB2 hI hI1 hq ht R0 hW1 hW hst hok hln hct htow hlen htold hkm hss HE
 go_enter Tryz.func46, Tryz.ntmps46
 go_wp2_with fail
 try rw [HWW.out]
 refine HST.out.mono ?_
 rintro e w1 ⟨rfl, L1⟩
 have HL1 := Za L1
 have HRF := Za (Zy.below HR0.out (Nat.le_refl _) L1)
 have HI1 := Za (HI.out.below L1)
 have HK : Hid (∀ W', Below w1.heap.size w1 W' -> W'.cell? ⟨w.heap.size, 2, none⟩ = some (.int .i64 d) /\ W'.cell? ⟨w.heap.size, 3, none⟩ = some (.slice aw ts.length cw)) := fun W' L' => ⟨(HI1.out.below L').c2, (HI1.out.below L').c3⟩
 clear L1 k0 k1 k2 k3 k4 HWW
 have BL := Za ((Below.refl w1.heap.size w1).drew)
 go_wp2_with fail
 refine Zr (S := fun W' => Below w1.heap.size w1 W') (fuel := 3) [0, 1, 2, 3, 4] (by kernel_rfl) (by kernel_rfl) (by kernel_rfl) (by kernel_rfl) BL.out (fun _ => ?_)
 iterate 5 (refine ⟨_, rfl, ?_⟩; apply Exists.intro; refine ⟨Or.inl ⟨by rfl, fun w' hw' => ?_⟩, ?_⟩; (focus (obtain ⟨e1, e2⟩ := HK.out w' hw'; first | (go_simp; done) | (go_simp; with_reducible rfl))); simp only [Act.put, List.getElem_toArray, List.getElem_cons_succ, List.getElem_cons_zero, List.setIfInBounds_toArray, List.set_cons_zero, List.set_cons_succ])
 refine Zg 5 (by kernel_rfl) rfl (fun K hK => ?_)
 go_simp
 refine (HMN.out _).mono ?_
 rintro e w2 ⟨rfl, hw2⟩
 have hw2' := hw2.symm
 subst hw2'
 refine hK.out _ _ BL.out (fun _ => ?_)
 clear hK K
 refine Zg 6 (by kernel_rfl) rfl (fun K hK => ?_)
 go_simp
 refine (HAS.out _ (Zd HL1.out BL.out)).mono ?_
 rintro e w3 ⟨g, cg, rfl, row3, L3⟩
 have HL3 := Za (Zd BL.out L3)
 refine hK.out _ _ HL3.out (fun _ => ?_)
 clear hK K
 refine ZH [7] rfl (by kernel_rfl) (by kernel_rfl) (by kernel_rfl) HL3.out ?_
 iterate 1 (refine ⟨_, rfl, ?_⟩; apply Exists.intro; refine ⟨Or.inl ⟨by rfl, fun w' hw' => ?_⟩, ?_⟩; (focus (first | (go_simp; done) | (go_simp; with_reducible rfl))); simp only [Act.put, List.getElem_toArray, List.getElem_cons_succ, List.getElem_cons_zero, List.setIfInBounds_toArray, List.set_cons_zero, List.set_cons_succ])
 refine NoPanic.normal (NoPanic.normal ?_)
 have hgl := row3.lt
 have HSG := Za row3.seg
 have HR3 := Za (Zy.below HRF.out (Nat.le_refl _) HL3.out)
 have HIX := Za (HI1.out.below HL3.out)
 have HLX := Za (Zd HB.out (Zd HL1.out HL3.out))
 have hz1 := HL1.out.size
 have hgne : w.heap.size + 1 ≠ g := by have h1 := hgl.1; have h2 : w1.drew.heap.size = w1.heap.size := rfl; omega
 have hgw3 := hgl.2
 have hzg : w.heap.size < w3.heap.size := HIX.out.lt
 clear row3 L3 BL HK HAS HMN HST HRF HI1 HR0 hgl
 go_wp2_with fail
 go_loopw [7, 9] (fun ov iv wr => ∃ (i g' c' : Nat), i <= ss.length /\ ((ss.take i).filter (Za8 ms)).length <= k.toNat /\ iv = .int .i64 i /\ ov = .slice (some ⟨g', 0, none⟩) ((ss.take i).filter (Za8 ms)).length c' /\ Zy w.heap.size wr g' c' ((ss.take i).filter (Za8 ms)) /\ g' ≠ g /\ Zca wr g 0 ss /\ g < wr.heap.size /\ w.heap.size < g' /\ wr.cell? ⟨w.heap.size, 1, none⟩ = some (.slice am ms.length cm) /\ Below w.heap.size w wr) (fun _ iv _ => ss.length - (intOf iv).toNat)
 case atStart => exact ⟨0, w.heap.size + 1, 0, Nat.zero_le _, Nat.zero_le _, rfl, rfl, HR3.out, hgne, HSG.out, hgw3, by omega, HIX.out.c1, HLX.out⟩
 case round =>
  obtain ⟨i, g', c', hi, hik, rfl, rfl, hro, hne, hsg, hgw, hgx, e1, L⟩ := hrel
  have HRO := Za hro
  have HLL := Za L
  have HSW := Za hsg
  have hz := L.size
  have hgl' := hro.lt
  have hfl := ZhK (Za8 ms) ss i
  clear hro L
  by_cases hlt : i < ss.length
  · have hlti : (i : Int) < (ss.length : Int) := by omega
    have hi0 : (0 : Int) <= (i : Int) := Int.natCast_nonneg _
    by_cases hfull : ((ss.take i).filter (Za8 ms)).length < k.toNat
    · obtain ⟨hc0, hc1⟩ := hsg i hlt
      rw [Nat.zero_add] at hc0 hc1
      have HFS := Za (Zf7 (p := Za8 ms) hlt)
      have HHH : Hid (Za8 ms (Zf ss i) = decide (0 <= Zk ms (Zf ss i).1)) := rfl
      have HFD : Hid (∀ m, Calls Tryz.prog 116 #[.slice am ms.length cm, .int .i64 (Zf ss i).1] (wr.drewN m) fun e w'' => e = .returned (.int .i64 (Zk ms (Zf ss i).1)) /\ ∃ m', w'' = wr.drewN m') := fun m => by
       refine (ZcM am cm ms (Zf ss i).1 (wr.drewN m) (HM.out.next (below_drewN HLL.out m)) HSM.out.1.1).mono ?_
       rintro e w'' ⟨he, hm⟩
       exact ⟨he, m, hm⟩
      have hgw' := hgw
      clear hsg
      obtain ⟨o, ho⟩ : ∃ o, (ss.take i).filter (Za8 ms) = o := ⟨_, rfl⟩
      rw [ho] at HRO HFS hfl hfull hik ⊢
      clear ho
      obtain ⟨x, hx⟩ : ∃ x, Zf ss i = x := ⟨_, rfl⟩
      rw [hx] at HFS HHH hc0 hc1 HFD
      clear hx
      have hlk : (o.length : Int) < k := by omega
      generalize hzf : Zk ms x.1 = zf at *
      clear hzf
      go_wp2_with fail
      refine wp_region_quiet_lit (by kernel_rfl) (by kernel_rfl) ?_
      try simp only [List.append_eq, List.cons_append, List.nil_append]
      repeat (go_big_quiet_step ((go_at_call 116; exact HFD.out _)))
      refine wpQuiet_nil ?_
      intro _ hw'
      obtain ⟨nq, hw''⟩ := hw'
      subst hw''
      have LQ : Hid (Below wr.heap.size wr (wr.drewN nq)) := below_drewN (Below.refl _ _) nq
      have HRQ := Za (Zy.below HRO.out (Nat.le_refl _) LQ.out)
      have HLQ := Za (below_drewN HLL.out nq)
      have eq1 : (wr.drewN nq).cell? ⟨w.heap.size, 1, none⟩ = some (.slice am ms.length cm) := e1
      have HSQ : Hid (Zca (wr.drewN nq) g 0 ss) := HSW.out
      have hcq0 : (wr.drewN nq).cell? ⟨g, i * 2, none⟩ = some (.int .i64 x.1) := hc0
      have hcq1 : (wr.drewN nq).cell? ⟨g, i * 2 + 1, none⟩ = some (.int .i64 x.2) := hc1
      have hzq : wr.heap.size = (wr.drewN nq).heap.size := rfl
      clear HFD HRO HLL HSW e1 hc0 hc1 LQ
      generalize wr.drewN nq = wq at *
      rcases hh : decide (0 <= zf) with _ | _
      · have hneg : ¬ (zf ≥ 0) := by simpa using hh
        rw [HHH.out, hh] at HFS
        clear hh HHH hcq0 hcq1
        go_wp2_with fail
        go_roundw
        case rel =>
         have e : (ss.take (i + 1)).filter (Za8 ms) = o := by rw [HFS.out]; simp
         exact ⟨i + 1, g', c', by omega, by rw [e]; omega, by go_num, by rw [e], by rw [e]; exact HRQ.out, hne, HSQ.out, by omega, hgx, eq1, HLQ.out⟩
        case measure => simp [intOf]; omega
      · have hpos : zf ≥ 0 := by simpa using hh
        rw [HHH.out, hh] at HFS
        have LA := World.grownBy_alloc wq (.cells #[.int .i64 x.1, .int .i64 x.2] 66) none
        have HRA := Za (HRQ.out.kept LA (by simp))
        have HSA := Za (HSQ.out.grown (by omega) LA (by simp))
        have HIA := Za ((((Below.refl wq.heap.size wq).alloc (Nat.le_refl _) (.cells #[.int .i64 x.1, .int .i64 x.2] 66)).cell (p := ⟨w.heap.size, 1, none⟩) (by show w.heap.size < wq.heap.size; omega)).trans eq1)
        clear hh HHH
        go_wp2_with (at_builtin; refine Zq _ rfl (.tmp 45) (.tmp 50) 36 rfl w.heap.size 66 j0 _ 2 16 Tryz.underlying36 hj0 hy0 hy1 hy2 rfl (by omega) g' o.length c' (Zi o) rfl HRA.out (some ⟨wq.heap.size, 0, none⟩) 1 1 (Zi [x]) rfl (Zbl (heap_alloc_new wq _)) (by unfold maxLen; omega) (by omega) (by simp; omega) (wq.heap.size + 1) (by simp) ?_; intro gg cc w4 hown hgrow hat hltt)
        go_wp2
        go_roundw
        case rel =>
         have e : (ss.take (i + 1)).filter (Za8 ms) = o ++ [x] := by rw [HFS.out]; simp
         exact ⟨i + 1, gg, cc, by omega, by rw [e, List.length_append, List.length_singleton]; omega, by go_num, by rw [e, List.length_append, List.length_singleton], by rw [e]; exact Zy.snoc hown, by omega, HSA.out.grown (by simp; omega) hgrow (by simp; omega), Nat.lt_of_lt_of_le (by simp; omega) hgrow.size, by omega, hgrow.cell HIA.out (by simp; omega), (HLQ.out.alloc (by omega) _).grown hgrow (by simp; omega) (by intro k hk; cases hk; omega)⟩
        case measure => simp [intOf]; omega
    · have hlk : ¬ ((((ss.take i).filter (Za8 ms)).length : Int) < k) := by omega
      have HDN := Za (ZkA (p := Za8 ms) (ss := ss) (i := i) (k := k.toNat) (by omega))
      clear hsg
      go_wp2_with fail
      go_ret
      rw [HE2.out, HDN.out]
      exact ⟨g', c', rfl, HRO.out, HLL.out⟩
  · have hlti : ¬ ((i : Int) < (ss.length : Int)) := by omega
    obtain rfl : i = ss.length := by omega
    have HDN : Hid ((ss.filter (Za8 ms)).take k.toNat = ss.filter (Za8 ms)) := by
     show _ = _
     rw [List.take_length] at hik
     exact List.take_of_length_le hik
    clear hsg hik
    go_wp2_with fail
    go_ret
    rw [HE2.out, HDN.out]
    have hfin := HRO.out
    rw [List.take_length] at hfin
    exact ⟨g', c', rfl, hfin, HLL.out⟩
end Go.Proofs.YtaaagmgglolibaaGreat
