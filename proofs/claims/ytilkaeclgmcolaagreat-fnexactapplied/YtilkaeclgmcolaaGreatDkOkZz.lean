import Derived.Test.YtilkaeclgmcolaaGreatAppendZz
import Derived.Test.YtilkaeclgmcolaaGreatTwArgsZz
import Derived.Test.YtilkaeclgmcolaaGreatBMarkZz
import Derived.Test.YtilkaeclgmcolaaGreatFg0Zz
import Derived.Deep.RegionHeld3
import Derived.BigQuiet
import Derived.Test.YtilkaeclgmcolaaGreatMArgsZz
import Derived.Test.YtilkaeclgmcolaaGreatLastZz
set_option maxRecDepth 100000
set_option maxHeartbeats 4000000
namespace Go.Proofs.YtilkaeclgmcolaaGreat
open Go Go.RowKit
structure ZcW(v:Bool)(w:World)(X:Nat)(am aw aq:Option Addr)(cm cw cs:Nat)(wd:Int)(ms:List Mk)(d:Int)(ts:List Wb)(nx:Int)(ss:List Zv):Prop where
 lt:X<w.heap.size
 c0:w.cell? ⟨X,0,none⟩=some (.int .i64 wd)
 c1:w.cell? ⟨X,1,none⟩=some (.slice am ms.length cm)
 c2:w.cell? ⟨X,2,none⟩=some (.int .i64 d)
 c3:w.cell? ⟨X,3,none⟩=some (.slice aw ts.length cw)
 c4:w.cell? ⟨X,4,none⟩=some (.int .i64 nx)
 c5:w.cell? ⟨X,5,none⟩=some (.slice aq ss.length cs)
 mv:Zo w am ms
 wv:Zp v w aw ts
 sv:Zm w aq ss
theorem ZcW.box{v:Bool}{w:World}{am aw aq:Option Addr}{cm cw cs:Nat}{wd:Int}{ms:List Mk}{d:Int}{ts:List Wb}{nx:Int}{ss:List Zv}{t:TypeId}(hm:Zo w am ms)(hw:Zp v w aw ts)(hs:Zm w aq ss):ZcW v (w.alloc (.cells #[.int .i64 wd,.slice am ms.length cm,.int .i64 d,.slice aw ts.length cw,.int .i64 nx,.slice aq ss.length cs] t)) w.heap.size am aw aq cm cw cs wd ms d ts nx ss:=
 ⟨by simp,by simp,by simp,by simp,by simp,by simp,by simp,hm.next ((Below.refl _ _).alloc (Nat.le_refl _) _),hw.next ((Below.refl _ _).alloc (Nat.le_refl _) _),hs.next ((Below.refl _ _).alloc (Nat.le_refl _) _)⟩
theorem ZcW.below{v:Bool}{w w':World}{X:Nat}{am aw aq:Option Addr}{cm cw cs:Nat}{wd:Int}{ms:List Mk}{d:Int}{ts:List Wb}{nx:Int}{ss:List Zv}(h:ZcW v w X am aw aq cm cw cs wd ms d ts nx ss)(L:Below w.heap.size w w'):ZcW v w' X am aw aq cm cw cs wd ms d ts nx ss:=
 ⟨Nat.lt_of_lt_of_le h.lt L.size,(L.cell (p:=⟨X,0,none⟩) h.lt).trans h.c0,(L.cell (p:=⟨X,1,none⟩) h.lt).trans h.c1,(L.cell (p:=⟨X,2,none⟩) h.lt).trans h.c2,(L.cell (p:=⟨X,3,none⟩) h.lt).trans h.c3,(L.cell (p:=⟨X,4,none⟩) h.lt).trans h.c4,(L.cell (p:=⟨X,5,none⟩) h.lt).trans h.c5,h.mv.next L,h.wv.next L,h.sv.next L⟩
def dkB(wd:Int)(ms:List Mk)(d:Int)(ts:List Wb)(nx:Int)(ss:List Zv):Bool:=stB wd ms d ts nx && ssB ss
theorem Zj4(v:Bool)(am aw aq:Option Addr)(cm cw cs:Nat)(wd:Int)(ms:List Mk)(d:Int)(ts:List Wb)(nx:Int)(ss:List Zv)(w:World)(hm:Zo w am ms)(hw:Zp v w aw ts)(hs:Zm w aq ss)(hsm:Z0 ms ts)(hn:ss.length<=1048576):
 Calls Tryz.prog 33 #[.agg #[.int .i64 wd,.slice am ms.length cm,.int .i64 d,.slice aw ts.length cw,.int .i64 nx,.slice aq ss.length cs]] w fun e w'=>e=.returned (.bool (dkB wd ms d ts nx ss))/\Below w.heap.size w w':=by
 obtain⟨W,P⟩:∃W,w.alloc (.cells #[.int .i64 wd,.slice am ms.length cm,.int .i64 d,.slice aw ts.length cw,.int .i64 nx,.slice aq ss.length cs] 44)=W:=⟨_,rfl⟩
 have S:=balZ P
 have m:ZcW v W w.heap.size am aw aq cm cw cs wd ms d ts nx ss:=by rw [<-P];exact ZcW.box hm hw hs
 have X:=Za (ZlY v am aw cm cw wd ms d ts nx W m.mv m.wv hsm)
 obtain⟨b0,z⟩:∃b,stB wd ms d ts nx=b:=⟨_,rfl⟩
 rw [z] at X
 have D:Hid (dkB wd ms d ts nx ss=(b0 && ssB ss)):=by show _=_;rw [dkB,z]
 have HB:=Za S
 have HI:=Za m
 have k0:=m.c0
 have k1:=m.c1
 have k2:=m.c2
 have k3:=m.c3
 have k4:=m.c4
 clear hm hw hs S m hsm z
 go_enter Tryz.func33,Tryz.ntmps33
 go_wp2_with fail
 refine X.out.mono ?_
 rintro e U ⟨rfl,N⟩
 clear P k0 k1 k2 k3 k4
 have u:=HI.out.below N
 have k5:=u.c5
 have K:=Za u
 have c:=Za (Zb HB.out N)
 clear u N
 cases b0 with
 | false=>
   go_wp2_with fail
   go_ret
   exact⟨Zd D.out.symm,c.out⟩
 | true=>
   by_cases h8:8<ss.length
   · have s:Hid (dkB wd ms d ts nx ss=false):=by show _=_;rw [D.out,ZlF h8];rfl
     go_wp2_with fail
     go_ret
     exact⟨Zd s.out.symm,c.out⟩
   · have Z:=Za h8
     go_wp2_with fail
     clear k5 h8
     go_loopw [3] (fun i wr=>∃k:Nat,k<=ss.length/\i=.int .i64 k/\(∀j,j<k->ZdW ss j=true)/\Below U.heap.size U wr) (fun i _=>ss.length-(intOf i).toNat)
     case atStart=>exact⟨0,Nat.zero_le _,rfl,fun j A=>by omega,Below.refl _ _⟩
     case round=>
      obtain⟨k,hk,rfl,n,L⟩:=hrel
      have HA:=Za n
      have Y:=Za L
      have g:=K.out.below L
      have B:=g.c5
      have J:=g.lt
      clear n L
      by_cases hlt:k<ss.length
      · obtain⟨b,r,rfl,hb,l⟩:=g.sv.seg (by omega)
        obtain⟨T,Q,R⟩:=l k hlt
        have ai:=n0Z k
        have a6:(k:Int)<(ss.length:Int):=by omega
        have a9:k<9:=by have:=Z.out;omega
        have E:Hid (ZdW ss k=false->dkB wd ms d ts nx ss=false):=fun h=>by rw [D.out,ZjZ hlt h];rfl
        have a:Hid (ZdW ss k=(inR (Zr ss k).1 0 7 && (inR (Zr ss k).2.1 1 1000000 && (inR (Zr ss k).2.2 (-1) 1000000 && (decide (k=0) || decide ((Zr ss (k-1)).1<(Zr ss k).1)))))):=rfl
        have HP:Hid (∀j,j<ss.length->wr.cell? ⟨b,r+j*3,none⟩=some (.int .i64 (Zr ss j).1)):=fun j A=>(l j A).1
        obtain⟨F,t⟩:∃x,(Zr ss k).1=x:=⟨_,rfl⟩
        obtain⟨O,q⟩:∃x,(Zr ss k).2.1=x:=⟨_,rfl⟩
        obtain⟨G,o⟩:∃x,(Zr ss k).2.2=x:=⟨_,rfl⟩
        rw [t,q,o] at a
        rw [t] at T
        rw [q] at Q
        rw [o] at R
        clear t q o
        obtain⟨V,y⟩:∃V,wr.alloc (.cells #[.int .i64 F,.int .i64 O,.int .i64 G] 87)=V:=⟨_,rfl⟩
        have C:=balZ y
        have y0:V.cell? ⟨wr.heap.size,0,none⟩=some (.int .i64 F):=by rw [<-y];simp
        have y1:V.cell? ⟨wr.heap.size,1,none⟩=some (.int .i64 O):=by rw [<-y];simp
        have y2:V.cell? ⟨wr.heap.size,2,none⟩=some (.int .i64 G):=by rw [<-y];simp
        have v5:=(C.cell (p:=⟨w.heap.size,5,none⟩) J).trans B
        have I:=Za y
        have f:=Za (Zb Y.out C)
        have M:Hid (∀j,j<ss.length->V.cell? ⟨b,r+j*3,none⟩=some (.int .i64 (Zr ss j).1)):=fun j A=>(C.cell (p:=⟨b,r+j*3,none⟩) hb).trans (HP.out j A)
        clear g l y C
        go_upto_region 7 with fail
        rw [I.out]
        clear B T Q R
        rcases a0:inR F 0 7 with _ | _
        · go_quiet (first | (go_at_call 70;exact Calls.quiet_of_same (sIn _ _ _ _)))
          go_wp2
          go_ret
          exact⟨Zd (E.out (by rw [a.out,a0];rfl)).symm,Zb c.out (Zb f.out (below_drewN (Below.refl _ _) _))⟩
        · rcases a1:inR O 1 1000000 with _ | _
          · go_quiet (first | (go_at_call 70;exact Calls.quiet_of_same (sIn _ _ _ _)))
            go_wp2
            go_ret
            exact⟨Zd (E.out (by rw [a.out,a0,a1];rfl)).symm,Zb c.out (Zb f.out (below_drewN (Below.refl _ _) _))⟩
          · rcases a2:inR G (-1) 1000000 with _ | _
            · go_quiet (first | (go_at_call 70;exact Calls.quiet_of_same (sIn _ _ _ _)))
              go_wp2
              go_ret
              exact⟨Zd (E.out (by rw [a.out,a0,a1,a2];rfl)).symm,Zb c.out (Zb f.out (below_drewN (Below.refl _ _) _))⟩
            · rcases Nat.eq_zero_or_pos k with z | z
              · subst z
                have H:Hid (ZdW ss 0=true):=by show _=_;rw [a.out,a0,a1,a2];rfl
                go_quiet (first | (go_at_call 70;exact Calls.quiet_of_same (sIn _ _ _ _)))
                go_wp2
                go_roundw
                case rel=>exact⟨1,by omega,by go_num,fun j A=>by rw [show j=0 by omega];exact H.out,Zb f.out (below_drewN (Below.refl _ _) _)⟩
                case measure=>simp [intOf];omega
              · obtain⟨j,rfl⟩:∃j,k=j+1:=⟨k-1,by omega⟩
                have af:=M.out j (by omega)
                have ad:(j:Int)<(ss.length:Int):=by omega
                have a8:IntKind.i64.wrap (((j+1:Nat):Int)-1)=j:=by rw [IntWalk.i64_in _ ⟨by omega,by omega⟩];omega
                have a4:IntKind.i64.wrap ((j:Int)+1-1)=j:=by rw [IntWalk.i64_in _ ⟨by omega,by omega⟩];omega
                have hg:(0:Int)<((j+1:Nat):Int):=by omega
                by_cases hr:F<=(Zr ss j).1
                · have HN:Hid (ZdW ss (j+1)=false):=by show _=_;rw [a.out,a0,a1,a2];simp;omega
                  go_quiet (first | (go_at_call 70;exact Calls.quiet_of_same (sIn _ _ _ _)))
                  go_wp2
                  go_ret
                  exact⟨Zd (E.out HN.out).symm,Zb c.out (Zb f.out (below_drewN (Below.refl _ _) _))⟩
                · have H:Hid (ZdW ss (j+1)=true):=by show _=_;rw [a.out,a0,a1,a2];simp;omega
                  go_quiet (first | (go_at_call 70;exact Calls.quiet_of_same (sIn _ _ _ _)))
                  go_wp2
                  go_roundw
                  case rel=>exact⟨j+1+1,by omega,by go_num,fun i hi=>by
                   rcases Nat.lt_or_ge i (j+1) with h | h
                   · exact HA.out i h
                   · rw [show i=j+1 by omega];exact H.out,Zb f.out (below_drewN (Below.refl _ _) _)⟩
                  case measure=>simp [intOf];omega
      · obtain rfl:k=ss.length:=by omega
        have s:Hid (dkB wd ms d ts nx ss=true):=by show _=_;rw [D.out,(ZbF ss).2 ⟨by have:=Z.out;omega,HA.out⟩];rfl
        clear g
        go_wp2_with fail
        go_ret
        exact⟨Zd s.out.symm,Zb c.out Y.out⟩
theorem Zo2(ao:Option Addr)(cap:Nat)(l:List Int)(w:World)(hv:Zy w ao l)(hn:l.length<=1048576):
 Calls Tryz.prog 108 #[.slice ao l.length cap,.int .i64 0,.int .i64 7] w fun e w'=>e=.returned (.bool (upC l))/\w'=w:=by
 go_enter Tryz.func108,Tryz.ntmps108
 go_wp2
 go_loop [1,11] (fun g i=>∃k:Nat,k<=l.length/\i=.int .i64 k/\g=.int .i64 (Zcs l k)/\∀j,j<k->Zcs l j<=nth l j/\nth l j<=7) (fun _ i=>l.length-(intOf i).toNat)
 case atStart=>exact⟨0,Nat.zero_le _,rfl,rfl,fun j p=>by omega⟩
 case round=>
  obtain⟨k,s,rfl,rfl,a⟩:=hrel
  have o:=Za a
  have m:=ZgT a
  clear a
  obtain⟨g,c⟩:∃g,Zcs l k=g:=⟨_,rfl⟩
  rw [c] at m
  rw [c]
  have f:=Za c
  clear c
  by_cases hlt:k<l.length
  · obtain⟨b,d,rfl,n,q⟩:∃b d,ao=some ⟨b,d,none⟩/\b<w.heap.size/\Seg w b d l:=by
     rcases hv with h | h
     · subst h;simp at hlt
     · exact h
    have r:=q k hlt
    by_cases ha:nth l k<g
    · go_wp2
      go_ret
      exact⟨Zd (Eq.symm (ZlG hlt (Or.inl (by rw [f.out];exact ha)))),rfl⟩
    · by_cases n:7<nth l k
      · go_wp2
        go_ret
        exact⟨Zd (Eq.symm (ZlG hlt (Or.inr n))),rfl⟩
      · go_wp2
        go_round
        case rel=>exact⟨k+1,by omega,by go_num,by simp [Zcs],fun j p=>by
         rcases Nat.lt_or_ge j k with e | e
         · exact o.out j e
         · rw [show j=k by omega];exact⟨by rw [f.out];omega,by omega⟩⟩
        case measure=>simp [intOf];omega
  · go_wp2
    go_ret
    obtain rfl:k=l.length:=by omega
    exact⟨Zd (Eq.symm ((Ze2 l).2 o.out)),rfl⟩
def Zbi(ms:List Mk)(ts:List Wb)(ss:List Zv):Prop:=Z0 ms ts/\ss.length<=1048576
theorem Zh{w:World}{q:Nat}{a b c d e f:Value}{t:TypeId}(h:w.heap[q]? =some (.cells #[a,b,c,d,e,f] t)):w.cell? ⟨q,0,none⟩=some a/\w.cell? ⟨q,1,none⟩=some b/\w.cell? ⟨q,2,none⟩=some c/\w.cell? ⟨q,3,none⟩=some d/\w.cell? ⟨q,4,none⟩=some e/\w.cell? ⟨q,5,none⟩=some f/\(∀j,w.frozen? ⟨q,j,none⟩=false)/\q<w.heap.size:=by
 refine⟨by simp [World.cell?,h],by simp [World.cell?,h],by simp [World.cell?,h],by simp [World.cell?,h],by simp [World.cell?,h],by simp [World.cell?,h],fun j=>by simp [World.frozen?,h],?_⟩
 rcases Nat.lt_or_ge q w.heap.size with e | e
 · exact e
 · rw [Array.getElem?_eq_none e] at h;cases h
theorem ZhH{w:World}{q:Nat}{a b c d e f a' b' c' d' e':Value}{t:TypeId}(h:w.heap[q]? =some (.cells #[a,b,c,d,e,f] t)):(((((w.setCell ⟨q,0,none⟩ a').setCell ⟨q,1,none⟩ b').setCell ⟨q,2,none⟩ c').setCell ⟨q,3,none⟩ d').setCell ⟨q,4,none⟩ e').heap[q]? =some (.cells #[a',b',c',d',e',f] t):=by
 simp [World.setCell,Array.getElem?_modify,h]
theorem Zaf{w:World}{q:Nat}{a b c d e f a' b' c' d' e' f':Value}{t:TypeId}(h:w.heap[q]? =some (.cells #[a,b,c,d,e,f] t)):((((((w.setCell ⟨q,0,none⟩ a').setCell ⟨q,1,none⟩ b').setCell ⟨q,2,none⟩ c').setCell ⟨q,3,none⟩ d').setCell ⟨q,4,none⟩ e').setCell ⟨q,5,none⟩ f').heap[q]? =some (.cells #[a',b',c',d',e',f'] t):=by
 simp [World.setCell,Array.getElem?_modify,h]
theorem ZhI{w:World}{q b:Nat}{a' b' c' d' e':Value}(h:b≠q):(((((w.setCell ⟨q,0,none⟩ a').setCell ⟨q,1,none⟩ b').setCell ⟨q,2,none⟩ c').setCell ⟨q,3,none⟩ d').setCell ⟨q,4,none⟩ e').heap[b]? =w.heap[b]? :=by
 rw [Below.heap_setCell _ ⟨q,4,none⟩ _ b h,Below.heap_setCell _ ⟨q,3,none⟩ _ b h,Below.heap_setCell _ ⟨q,2,none⟩ _ b h,Below.heap_setCell _ ⟨q,1,none⟩ _ b h,Below.heap_setCell _ ⟨q,0,none⟩ _ b h]
theorem Zau{w:World}{q b:Nat}{a' b' c' d' e' f':Value}(h:b≠q):((((((w.setCell ⟨q,0,none⟩ a').setCell ⟨q,1,none⟩ b').setCell ⟨q,2,none⟩ c').setCell ⟨q,3,none⟩ d').setCell ⟨q,4,none⟩ e').setCell ⟨q,5,none⟩ f').heap[b]? =w.heap[b]? :=by
 rw [Below.heap_setCell _ ⟨q,5,none⟩ _ b h];exact ZhI h
theorem szDk(v:Bool)(am aw aq:Option Addr)(cm cw cs:Nat)(wd:Int)(ms:List Mk)(d:Int)(ts:List Wb)(nx:Int)(ss:List Zv)(w:World)(hm:Zo w am ms)(hw:Zp v w aw ts)(hs:Zm w aq ss)(hf:ZeF ms ts)(hn:ss.length<=maxLen):
 Calls Tryz.prog 7 #[.agg #[.int .i64 wd,.slice am ms.length cm,.int .i64 d,.slice aw ts.length cw,.int .i64 nx,.slice aq ss.length cs],.int .i64 1048576] w fun e w'=>∃r,e=.returned (.int .i64 r)/\r<=1048576/\(r<0\/Zbi ms ts ss)/\Below w.heap.size w w':=by
 obtain⟨W,p⟩:∃W,w.alloc (.cells #[.int .i64 wd,.slice am ms.length cm,.int .i64 d,.slice aw ts.length cw,.int .i64 nx,.slice aq ss.length cs] 30)=W:=⟨_,rfl⟩
 have x:=balZ p
 have a:ZcW v W w.heap.size am aw aq cm cw cs wd ms d ts nx ss:=by rw [<-p];exact ZcW.box hm hw hs
 have C:=Za (szSt v am aw cm cw wd ms d ts nx W a.mv a.wv hf)
 have H:=Za (fun (r:Int) (W':World) (h0:0<=r) (h1:r<=1048576)=>ZoQ aq ss.length cs r W' hn h0 h1)
 have z:=Za x
 have G:=Za a
 have m:=Za (fun (r:Int) (h0:0<=r) (h1:r<=1048576)=>ZdZ (left:=r) ss.length (by omega) h1)
 have s:=Za (fun (r:Int) (h1:r<=1048576) (h:0<=Zbu r ss.length)=>ZcH (left:=r) (n:=ss.length) h1 h)
 have I:=a.c0
 have D:=a.c1
 have E:=a.c2
 have F:=a.c3
 have J:=a.c4
 clear hm hw hs x a hf
 go_enter Tryz.func7,Tryz.ntmps7
 go_wp2_with fail
 refine C.out.mono ?_
 rintro e B ⟨r,rfl,b,y,i⟩
 clear p I D E F J
 by_cases hneg:r<0
 · go_wp2_with fail
   go_ret
   exact⟨-1,rfl,by omega,Or.inl (by omega),Zb z.out i⟩
 have c:Z0 ms ts:=by rcases y with h | h;exact absurd h hneg;exact h
 have k:=Za c
 have K:=(G.out.below i).c5
 have f:=Za (Zb z.out i)
 have g:=Za (H.out r B (by omega) b)
 have u:=m.out r (by omega) b
 have l:=s.out r b
 obtain⟨q,t⟩:∃q,Zbu r ss.length=q:=⟨_,rfl⟩
 rw [t] at g u l
 have A:=Za l
 clear y i c t l
 go_wp2_with fail
 refine g.out.mono ?_
 rintro e L ⟨rfl,o⟩
 have j:=o.symm
 subst j
 by_cases hneg2:q<0
 · go_wp2_with fail
   go_ret
   exact⟨-1,rfl,by omega,Or.inl (by omega),f.out⟩
 · go_wp2_with fail
   go_ret
   exact⟨q,rfl,u.2,Or.inr ⟨k.out,A.out (by omega)⟩,f.out⟩
theorem eqDk(v v':Bool)(am aw aq:Option Addr)(cm cw cs:Nat)(wd:Int)(ms:List Mk)(d:Int)(ts:List Wb)(nx:Int)(ss:List Zv)(bm bw bq:Option Addr)(dm dw ds:Nat)(w:World)(hm:Zo w am ms)(hw:Zp v w aw ts)(hs:Zm w aq ss)(hm':Zo w bm ms)(hw':Zp v' w bw ts)(hs':Zm w bq ss)(hsm:Zbi ms ts ss):
 Calls Tryz.prog 13 #[.agg #[.int .i64 wd,.slice am ms.length cm,.int .i64 d,.slice aw ts.length cw,.int .i64 nx,.slice aq ss.length cs],.agg #[.int .i64 wd,.slice bm ms.length dm,.int .i64 d,.slice bw ts.length dw,.int .i64 nx,.slice bq ss.length ds]] w fun e w'=>e=.returned (.bool true)/\Below w.heap.size w w':=by
 obtain⟨h,c⟩:∃W,w.alloc (.cells #[.int .i64 wd,.slice am ms.length cm,.int .i64 d,.slice aw ts.length cw,.int .i64 nx,.slice aq ss.length cs] 44)=W:=⟨_,rfl⟩
 have b:=balZ c
 have l:ZcW v h w.heap.size am aw aq cm cw cs wd ms d ts nx ss:=by rw [<-c];exact ZcW.box hm hw hs
 obtain⟨W,n⟩:∃W,h.alloc (.cells #[.int .i64 wd,.slice bm ms.length dm,.int .i64 d,.slice bw ts.length dw,.int .i64 nx,.slice bq ss.length ds] 44)=W:=⟨_,rfl⟩
 have g:=balZ n
 have j:=salZ c
 have a:ZcW v' W h.heap.size bm bw bq dm dw ds wd ms d ts nx ss:=by rw [<-n];exact ZcW.box (hm'.next b) (hw'.next b) (hs'.next b)
 rw [j] at a
 have f:=l.below g
 have E:=Za f
 have p:=Za a
 have H:=f.c0
 have y:=f.c1
 have z:=f.c2
 have D:=f.c3
 have I:=f.c4
 have F:=a.c0
 have s:=a.c1
 have u:=a.c2
 have K:=a.c3
 have C:=a.c4
 have G:=Za (eqSt v v' am aw cm cw wd ms d ts nx bm bw dm dw W f.mv f.wv a.mv a.wv hsm.1)
 have i:=Za (fun (r:World) (L:Below W.heap.size W r)=>ZoS aq bq cs ds ss ss r (f.below L).sv (a.below L).sv (by have:=hsm.2;omega))
 rw [show decide (ss=ss)=true by simp] at i
 have J:=Za (Zb b g)
 have k:Hid _:=aw2Z c n
 clear b g hm hw hs hm' hw' hs' hsm l f a c n j
 go_enter Tryz.func13,Tryz.ntmps13
 go_wp2_with fail
 rw [k.out]
 refine G.out.mono ?_
 rintro e N ⟨rfl,m⟩
 have B:=(E.out.below m).c5
 have t:=(p.out.below m).c5
 have x:=Za (i.out _ m)
 have A:=Za (Zb J.out m)
 clear m k H y z D I F s u K C
 go_wp2_with fail
 refine x.out.mono ?_
 rintro e M ⟨rfl,q⟩
 have o:=Za (Zb A.out q)
 clear q B t
 go_wp2_with fail
 go_ret
 exact⟨rfl,o.out⟩
def plS(x:Int):List Zv->Nat
 | []=>0
 | m::l=>if m.1<x then plS x l+1 else 0
def ZaU(l:List Zv)(i:Nat):Int:=(Zr l i).1
theorem Zi3(x:Int)(l:List Zv):plS x l<=l.length:=by
 induction l with
 | nil=>simp [plS]
 | cons m l ih=>simp only [plS];split <;> simp <;> omega
theorem Zj5(x:Int)(l:List Zv)(i:Nat)(hi:i<plS x l):ZaU l i<x:=by
 induction l generalizing i with
 | nil=>simp [plS] at hi
 | cons m l ih=>
   simp only [plS] at hi
   by_cases hm:m.1<x
   · rw [if_pos hm] at hi
     match i with
     | 0=>simpa [ZaU,Zr] using hm
     | i+1=>simpa [ZaU,Zr] using ih i (by omega)
   · simp [hm] at hi
theorem ZlZ(x:Int)(l:List Zv)(h:plS x l<l.length):x<=ZaU l (plS x l):=by
 induction l with
 | nil=>simp at h
 | cons m l ih=>
   simp only [plS] at h ⊢
   by_cases hm:m.1<x
   · rw [if_pos hm] at h ⊢
     simpa [ZaU,Zr] using ih (by simpa using h)
   · rw [if_neg hm]
     simpa [ZaU,Zr] using hm
def Zgm(l:List Zv):Prop:=∀i j,i<j->j<l.length->ZaU l i<ZaU l j
theorem Zl0{l:List Zv}(h:Zgm l)(x:Int)(i:Nat)(hi:plS x l<=i)(hl:i<l.length):x<=ZaU l i:=by
 have a:=ZlZ x l (by omega)
 rcases Nat.lt_or_ge (plS x l) i with c | c
 · have:=h _ _ c hl;omega
 · rw [show i=plS x l by omega];exact a
def Zdt(x:Int)(l:List Zv):Bool:=decide (plS x l<l.length) && decide (ZaU l (plS x l)=x)
theorem Zj6(x y s r:Int)(w:World):
 Calls Tryz.prog 130 #[.agg #[.int .i64 x,.int .i64 s,.int .i64 r],.int .i64 y] w fun e w'=>e=.returned (.int .i64 (ZbL x y))/\Below w.heap.size w w':=by
 have a:=Za ((Below.refl w.heap.size w).alloc (Nat.le_refl _) (.cells #[.int .i64 x,.int .i64 s,.int .i64 r] 87))
 go_enter Tryz.func130,Tryz.ntmps130
 go_wp2_with (go_at_call 131;refine (ZhJ _ _ _).mono ?_;rintro e w' ⟨rfl,rfl⟩)
 go_ret
 exact⟨rfl,a.out⟩
theorem Zl1(am:Option Addr)(cm:Nat)(ms:List Zv)(x:Int)(w:World)(hm:Zm w am ms)(hb:Zgm ms)(hlen:ms.length<=1048576):
 Calls Tryz.prog 129 #[.slice am ms.length cm,.int .i64 x,.func (.func 130) #[] #[]] w fun e w'=>e=.returned (.tuple #[.int .i64 (plS x ms:Nat),.bool (Zdt x ms)])/\Below w.heap.size w w':=by
 have Q:=Za hm
 have l:=Za (Zj5 x ms)
 have k:=Za (Zl0 hb x)
 have A:Hid (Zdt x ms=(decide (plS x ms<ms.length) && decide (ZaU ms (plS x ms)=x))):=Za rfl
 have K:=Zi3 x ms
 clear hm hb
 generalize plS x ms=p at *
 generalize Zdt x ms=fb at *
 go_enter Tryz.func129,Tryz.ntmps129
 go_wp2_with fail
 go_loopw [9,10] (fun i j wr=>∃u v:Nat,u<=p/\p<=v/\v<=ms.length/\i=.int .i64 u/\j=.int .i64 v/\Below w.heap.size w wr) (fun i j _=>(intOf j).toNat-(intOf i).toNat)
 case atStart=>exact⟨0,ms.length,Nat.zero_le _,K,Nat.le_refl _,rfl,rfl,Below.refl _ _⟩
 case round=>
  obtain⟨u,v,B,H,D,rfl,rfl,L⟩:=hrel
  have C:=Za L
  have n:=Q.out.next L
  clear L
  by_cases hlt:u<v
  · have R:IntKind.u64.wrap ((u:Int)+(v:Int))=(u:Int)+(v:Int):=by rw [IntKind.wrap_u64];omega
    obtain⟨m,hm⟩:∃m:Nat,m=(u+v) / 2:=⟨_,rfl⟩
    have t:((u:Int)+(v:Int)) / 2=(m:Int):=by omega
    have s:u<=m/\m<v:=by omega
    rcases n with h0 | ⟨b,off,rfl,hbr,hs⟩
    · rw [h0] at D;simp at D;omega
    obtain⟨c0,c1,c2⟩:=hs m (by omega)
    have I:=Za t
    have g:=Za s
    have J:=n0Z m
    have q:(m:Int)<(ms.length:Int):=by omega
    have r:Hid (∀a,Calls Tryz.prog 130 #[.agg #[.int .i64 (ZaU ms m),.int .i64 (Zr ms m).2.1,.int .i64 (Zr ms m).2.2],.int .i64 x] a fun e w'=>e=.returned (.int .i64 (ZbL (ZaU ms m) x))/\Below a.heap.size a w'):=fun a=>Zj6 _ _ _ _ a
    have o:=ZhK (ZaU ms m) x
    have f:m<p->ZaU ms m<x:=l.out m
    have c:p<=m->x<=ZaU ms m:=fun h=>k.out m h (by omega)
    have M:Hid ((ZaU ms m<x->m<p)/\(x<=ZaU ms m->p<=m)):=⟨fun h=>by
     rcases Nat.lt_or_ge m p with e | e
     · exact e
     · have:=c e;omega,fun h=>by
     rcases Nat.lt_or_ge m p with e | e
     · have:=f e;omega
     · exact e⟩
    replace c0:wr.cell? ⟨b,off+m*3,none⟩=some (.int .i64 (ZaU ms m)):=c0
    have P:wr.cell? ⟨b,off+(u+v) / 2*3,none⟩=some (.int .i64 (ZaU ms m)):=by rw [<-hm];exact c0
    have O:wr.cell? ⟨b,off+(u+v) / 2*3+1,none⟩=some (.int .i64 (Zr ms m).2.1):=by rw [<-hm];exact c1
    have N:wr.cell? ⟨b,off+(u+v) / 2*3+2,none⟩=some (.int .i64 (Zr ms m).2.2):=by rw [<-hm];exact c2
    clear t hm s hs f c c0 c1 c2
    generalize ZaU ms m=y at *
    generalize (Zr ms m).2.1=y1 at *
    generalize (Zr ms m).2.2=y2 at *
    generalize ZbL y x=cv at *
    go_wp2_with fail
    rw [I.out]
    go_wp2_with fail
    refine (r.out _).mono ?_
    rintro e E ⟨rfl,z⟩
    have d:Hid (Below w.heap.size w E):=Zb C.out z
    clear z r P O N
    by_cases hyx:y<x
    · have G:cv<0:=by simpa [hyx] using o
      go_wp2_with fail
      go_roundw
      case rel=>exact⟨m+1,v,M.out.1 hyx,H,D,by go_num,rfl,d.out⟩
      case measure=>have:=g.out;simp [intOf];omega
    · have G:¬cv<0:=by simpa [hyx] using o
      go_wp2_with fail
      go_roundw
      case rel=>exact⟨u,m,B,M.out.2 (by omega),by have:=g.out;omega,rfl,rfl,d.out⟩
      case measure=>have:=g.out;simp [intOf];omega
  · obtain rfl:u=p:=by omega
    by_cases hp:u<ms.length
    · rcases n with h0 | ⟨b,off,rfl,hbr,hs⟩
      · rw [h0] at hp;simp at hp
      obtain⟨c0,c1,c2⟩:=hs u hp
      have J:=n0Z u
      have q:(u:Int)<(ms.length:Int):=by omega
      have r:Hid (∀a,Calls Tryz.prog 130 #[.agg #[.int .i64 (ZaU ms u),.int .i64 (Zr ms u).2.1,.int .i64 (Zr ms u).2.2],.int .i64 x] a fun e w'=>e=.returned (.int .i64 (ZbL (ZaU ms u) x))/\Below a.heap.size a w'):=fun a=>Zj6 _ _ _ _ a
      have F:Hid ((ZbL (ZaU ms u) x ==0)=fb):=by show _=_;rw [Zgn,A.out];simp [hp]
      replace c0:wr.cell? ⟨b,off+u*3,none⟩=some (.int .i64 (ZaU ms u)):=c0
      clear A hs l k
      generalize ZaU ms u=y at *
      generalize (Zr ms u).2.1=y1 at *
      generalize (Zr ms u).2.2=y2 at *
      generalize ZbL y x=cv at *
      go_wp2_with fail
      refine (r.out _).mono ?_
      rintro e E ⟨rfl,z⟩
      have d:Hid (Below w.heap.size w E):=Zb C.out z
      clear z r c0 c1 c2
      go_wp2_with fail
      go_ret2
      exact⟨by rw [<-F.out];rfl,d.out⟩
    · have F:Hid (false=fb):=by show _=_;rw [A.out];simp [hp]
      clear A n l k
      obtain rfl:u=ms.length:=by omega
      have q:¬((ms.length:Int)<(ms.length:Int)):=by omega
      go_wp2_with fail
      go_ret2
      exact⟨by rw [<-F.out];rfl,C.out⟩
def ZbW(x:Int)(ss:List Zv):Zv:=if Zdt x ss=true then Zr ss (plS x ss) else (x,0,0)
theorem Ze4{x:Int}{ss:List Zv}(h:Zdt x ss=true):plS x ss<ss.length/\ZaU ss (plS x ss)=x:=by
 simpa [Zdt] using h
theorem ZN{w:World}{q:Nat}{x y z:Value}{t:TypeId}(h:w.heap[q]? =some (.cells #[x,y,z] t)):w.cell? ⟨q,0,none⟩=some x/\w.cell? ⟨q,1,none⟩=some y/\w.cell? ⟨q,2,none⟩=some z/\w.frozen? ⟨q,0,none⟩=false/\w.frozen? ⟨q,1,none⟩=false/\w.frozen? ⟨q,2,none⟩=false:=
 ⟨by simp [World.cell?,h],by simp [World.cell?,h],by simp [World.cell?,h],by simp [World.frozen?,h],by simp [World.frozen?,h],by simp [World.frozen?,h]⟩
theorem Zj7(am aw aq:Option Addr)(cm cw cs:Nat)(wd d nx x:Int)(ms:List Mk)(ts:List Wb)(ss:List Zv)(w:World)(hs:Zm w aq ss)(hb:Zgm ss)(hlen:ss.length<=1048576):
 Calls Tryz.prog 86 #[.agg #[.int .i64 wd,.slice am ms.length cm,.int .i64 d,.slice aw ts.length cw,.int .i64 nx,.slice aq ss.length cs],.int .i64 x] w fun e w'=>e=.returned (.tuple #[.int .i64 (plS x ss:Nat),.bool (Zdt x ss)])/\Below w.heap.size w w':=by
 obtain⟨W,a⟩:∃W,w.alloc (.cells #[.int .i64 wd,.slice am ms.length cm,.int .i64 d,.slice aw ts.length cw,.int .i64 nx,.slice aq ss.length cs] 44)=W:=⟨_,rfl⟩
 have b:=balZ a
 have j:W.cell? ⟨w.heap.size,5,none⟩=some (.slice aq ss.length cs):=by rw [<-a];simp
 have g:=Za (Zl1 aq cs ss x W (hs.next b) hb hlen)
 have h:=Za b
 have c:=Za a
 clear hs hb b a
 go_enter Tryz.func86,Tryz.ntmps86
 go_upto_region 1 with fail
 rw [c.out]
 clear c
 go_wp2_with fail
 refine g.out.mono ?_
 rintro e k ⟨rfl,f⟩
 have i:=Za (Zb h.out f)
 clear f g j
 go_wp2_with fail
 go_ret2
 exact⟨rfl,i.out⟩
theorem iLast(am aw aq:Option Addr)(cm cw cs:Nat)(wd d nx x:Int)(ms:List Mk)(ts:List Wb)(ss:List Zv)(w:World)(hs:Zm w aq ss)(hb:Zgm ss)(hlen:ss.length<=1048576):
 Calls Tryz.prog 49 #[.agg #[.int .i64 wd,.slice am ms.length cm,.int .i64 d,.slice aw ts.length cw,.int .i64 nx,.slice aq ss.length cs],.int .i64 x] w fun e w'=>e=.returned (.agg #[.int .i64 (ZbW x ss).1,.int .i64 (ZbW x ss).2.1,.int .i64 (ZbW x ss).2.2])/\Below w.heap.size w w':=by
 obtain⟨k,c⟩:∃W,w.alloc (.cells #[.int .i64 wd,.slice am ms.length cm,.int .i64 d,.slice aw ts.length cw,.int .i64 nx,.slice aq ss.length cs] 44)=W:=⟨_,rfl⟩
 obtain⟨W,r⟩:∃W,k.alloc (.cells #[.int .i64 0,.int .i64 0,.int .i64 0] 87)=W:=⟨_,rfl⟩
 have s1:=salZ c
 have s:=balZ c
 have o:=balZ r
 have A:W.heap[w.heap.size]? =some (.cells #[.int .i64 wd,.slice am ms.length cm,.int .i64 d,.slice aw ts.length cw,.int .i64 nx,.slice aq ss.length cs] 44):=(o.block _ (by omega)).trans (by rw [<-c];exact heap_alloc_new w _)
 have M:=nal2Z r s1
 have t:W.heap.size=w.heap.size+1+1:=by rw [<-r];simp [s1]
 have z:Hid (w.heap.size+1+1<=W.heap.size):=Za (by omega)
 have L:=Za (Zb s o)
 have B:=Za (Zj7 am aw aq cm cw cs wd d nx x ms ts ss W (hs.next (Zb s o)) hb hlen)
 have K:=Za (hs.next (Zb s o))
 have H:=Za A
 have F:=Za M
 have n:Hid _:=aw2Z c r
 obtain⟨U,P,Q,R,V,u,-,-⟩:=Zh A
 obtain⟨l,G⟩:∃l,ZbW x ss=l:=⟨_,rfl⟩
 have a:Hid (ZbW x ss=if Zdt x ss=true then Zr ss (plS x ss) else (x,0,0)):=Za rfl
 have f:=Za (fun h=>Ze4 (x:=x) (ss:=ss) h)
 rw [G] at a ⊢
 obtain⟨p,C⟩:∃p,plS x ss=p:=⟨_,rfl⟩
 rw [C] at B a f
 clear s1 s o t A M r c hs hb G C
 go_enter Tryz.func49,Tryz.ntmps49
 go_upto_region 1 with fail
 rw [n.out]
 clear n
 go_wp2_with fail
 refine B.out.mono ?_
 rintro e I ⟨rfl,j⟩
 have S:=Za j
 have m:=(j.block (w.heap.size+1) (by have:=z.out;omega)).trans F.out
 have E:=Za (show w.heap.size+1<I.heap.size by have:=z.out;have:=j.size;omega)
 obtain⟨N,D,J,Y,Z,X⟩:=ZN m
 have q:Hid (Below w.heap.size w I):=Za (Zb L.out j)
 clear u
 obtain⟨-,-,-,-,-,u,-,-⟩:=Zh ((j.block w.heap.size (by have:=z.out;omega)).trans H.out)
 have i:=Za (K.out.next j)
 clear j B F m H K L U P Q R V
 rcases hh:Zdt x ss with _ | _
 · rw [hh] at a
   have e:l=(x,0,0):=a.out
   subst e
   clear a f u i
   go_wp2_with fail
   refine bodyPost_ret (v:=.agg #[.int .i64 x,.int .i64 0,.int .i64 0]) (by simp [results,Tryz.results49,go_sem,N,D,J]) rfl ?_
   exact⟨rfl,((q.out.setCell (by show w.heap.size<=w.heap.size+1;omega) _).setCell (by show w.heap.size<=w.heap.size+1;omega) _).setCell (by show w.heap.size<=w.heap.size+1;omega) _⟩
 · rw [hh] at a
   have e:l=Zr ss p:=a.out
   obtain⟨g,y⟩:=f.out hh
   rcases i.out with h0 | ⟨b,off,rfl,hbr,hs⟩
   · rw [h0] at g;simp at g
   obtain⟨c0,c1,c2⟩:=hs p g
   rw [<-e] at c0 c1 c2
   have T:=n0Z p
   have O:(p:Int)<(ss.length:Int):=by omega
   clear a f i hs e g y hh
   go_wp2_with fail
   refine bodyPost_ret (v:=.agg #[.int .i64 l.1,.int .i64 l.2.1,.int .i64 l.2.2]) (by simp [results,Tryz.results49,go_sem,N,D,J]) rfl ?_
   exact⟨rfl,((q.out.setCell (by show w.heap.size<=w.heap.size+1;omega) _).setCell (by show w.heap.size<=w.heap.size+1;omega) _).setCell (by show w.heap.size<=w.heap.size+1;omega) _⟩
theorem Zl2{ss:List Zv}(h:ssB ss=true){i:Nat}(hi:i<ss.length):0<=ZaU ss i/\ZaU ss i<=7/\1<=(Zr ss i).2.1/\(Zr ss i).2.1<=1000000/\ -1<=(Zr ss i).2.2/\(Zr ss i).2.2<=1000000/\(i=0\/ZaU ss (i-1)<ZaU ss i):=by
 have a:=((ZbF ss).1 h).2 i hi
 simp only [ZdW,inR,Bool.and_eq_true,Bool.or_eq_true,decide_eq_true_eq] at a
 unfold ZaU
 omega
theorem ZhL{ss:List Zv}(h:ssB ss=true):Zgm ss:=by
 intro i j b c
 induction j with
 | zero=>omega
 | succ j ih=>
   have a:=(Zl2 h c).2.2.2.2.2.2
   rcases a with a | a
   · omega
   · rw [show j+1-1=j by omega] at a
     rcases Nat.lt_or_ge i j with e | e
     · have:=ih e (by omega);omega
     · rw [show i=j by omega];exact a
def Za3(s:Zv)(ss:List Zv):List Zv:=if Zdt s.1 ss=true then ss.set (plS s.1 ss) s else ss.take (plS s.1 ss)++s::ss.drop (plS s.1 ss)
theorem Zl3{ss:List Zv}{m:Nat}(h:m<ss.length):clL (ss.take (m+1))=clL (ss.take m)++[(Zr ss m).1]:=by
 unfold clL
 rw [List.take_succ_eq_append_getElem h,List.map_append]
 simp only [List.map_cons,List.map_nil,Zr,List.getD,List.getElem?_eq_getElem h,Option.getD_some]
theorem ZhM(ao:Option Addr)(cs:Nat)(ss:List Zv)(w:World)(hv:Zm w ao ss)(hn:ss.length<=1048576):
 Calls Tryz.prog 67 #[.slice ao ss.length cs] w fun e w'=>e=.returned (.bool (ssB ss))/\Below w.heap.size w w':=by
 obtain⟨j0,U,T,Z,O⟩:=info_parts Tryz.info2
 have HV:=Za hv
 clear hv
 go_enter Tryz.func67,Tryz.ntmps67
 go_wp2_with fail
 go_loopw [3,9] (fun v k wr=>∃(m g c l:Nat),m<=ss.length/\k=.int .i64 m/\v=.slice (some ⟨g,0,none⟩) l c/\l=m/\ZQ w.heap.size wr g c (clL (ss.take m))/\(∀j,j<m->ZiS ss j=true)/\Below w.heap.size w wr) (fun _ k _=>ss.length-(intOf k).toNat)
 case atStart=>exact⟨0,w.heap.size,0,0,Nat.zero_le _,rfl,rfl,rfl,ZQ.start w _ (Nat.le_refl _),fun j hj=>by omega,(Below.refl _ _).alloc (Nat.le_refl _) _⟩
 case round=>
  obtain⟨m,g,c,l,af,rfl,rfl,I,hrow,i,L⟩:=hrel
  have ah:=hrow.lt
  have W:=L.size
  have n:=Za hrow
  have HL:=Za L
  have HA:=Za i
  have A:=Za I
  have u:=HV.out.next L
  by_cases hlt:m<ss.length
  · obtain⟨b,ak,rfl,hb,p⟩:=u.seg (by omega)
    obtain⟨q0,q1,q2⟩:=p m hlt
    have an:=n0Z m
    have ai:(m:Int)<(ss.length:Int):=by omega
    have ab:l<=1048576:=by omega
    have a:Hid (ZiS ss m=(inR (Zr ss m).2.1 1 1000000 && inR (Zr ss m).2.2 (-1) 1000000)):=rfl
    obtain⟨J,y⟩:∃x,(Zr ss m).1=x:=⟨_,rfl⟩
    obtain⟨K,F⟩:∃x,(Zr ss m).2.1=x:=⟨_,rfl⟩
    obtain⟨H,B⟩:∃x,(Zr ss m).2.2=x:=⟨_,rfl⟩
    have S:=Za y
    rw [y] at q0
    rw [F] at q1 a
    rw [B] at q2 a
    clear y F B u p hrow i L I
    obtain⟨V,r⟩:∃V,wr.alloc (.cells #[.int .i64 J,.int .i64 K,.int .i64 H] 87)=V:=⟨_,rfl⟩
    have P:=balZ r
    have sV:=salZ r
    have y0:V.cell? ⟨wr.heap.size,0,none⟩=some (.int .i64 J):=by rw [<-r];simp
    have y1:V.cell? ⟨wr.heap.size,1,none⟩=some (.int .i64 K):=by rw [<-r];simp
    have y2:V.cell? ⟨wr.heap.size,2,none⟩=some (.int .i64 H):=by rw [<-r];simp
    have d:=Za (HL.out.trans (P.mono W))
    have N:Hid (V.ownsRow w.heap.size 2 1 (.slice (some ⟨g,0,none⟩) l c) l ((clL (ss.take m)).map (Value.int .i64))):=by
     have h:=n.out.below P
     unfold ZQ at h
     rw [show (clL (ss.take m)).length=l by rw [Zdi,List.length_take,Nat.min_eq_left (by omega)];exact A.out.symm] at h
     exact h
    have Q:=Za r
    have HU:=Za (fun W'=>Zj1 K W')
    have M:=Za sV
    obtain⟨b1,E⟩:∃x,inR K 1 1000000=x:=⟨_,rfl⟩
    rw [E] at a HU
    clear r P E sV
    go_upto_region 5 with fail
    rw [Q.out]
    clear q0 q1 q2
    go_wp2_with fail
    refine (HU.out _).mono ?_
    rintro e w1 ⟨rfl,R⟩
    have G:=R.symm
    subst G
    cases b1 with
    | false=>
      have z:Hid (ssB ss=false):=ZiT hlt (by rw [a.out];rfl)
      go_wp2_with fail
      go_ret
      exact⟨Zd z.out.symm,d.out⟩
    | true=>
      by_cases hr1:H< -1
      · have z:Hid (ssB ss=false):=ZiT hlt (by rw [a.out,Ze3 (by omega)];rfl)
        go_wp2_with fail
        go_ret
        exact⟨Zd z.out.symm,d.out⟩
      · by_cases hr2:1000000<H
        · have z:Hid (ssB ss=false):=ZiT hlt (by rw [a.out,ZdY (by omega)];rfl)
          go_wp2_with fail
          go_ret
          exact⟨Zd z.out.symm,d.out⟩
        · have z:Hid (ZiS ss m=true):=by show _=_;rw [a.out,Zcc (by omega) (by omega)];rfl
          skip
          have ag:=d.out.size
          have am:g<V.heap.size:=by have:=M.out;omega
          go_wp2_with (at_builtin;refine wpList_append_lies _ rfl (.tmp 27) (.tmp 30) 152 rfl w.heap.size 2 j0 _ 1 8 Tryz.underlying152 U T Z O rfl (by omega) (.slice (some ⟨g,0,none⟩) l c) l ((clL (ss.take m)).map (Value.int .i64)) rfl (World.ownsRow.alloc N.out _) ⟨V.heap.size,0,none⟩ 1 1 [.int .i64 J] rfl rfl (World.news_of_block (cs:=#[.int .i64 J]) (t:=2) (fr:=(0,0)) (heap_alloc_new V _)) (by simp [Value.oneCell']) (by omega) (by unfold maxLen;omega) (by omega) (by simp;omega) (V.heap.size+1) (by simp) ?_;intro g8 c8 w8 o f D C)
          have s:Hid (l+1=m+1/\ZQ w.heap.size w8 g8 c8 (clL (ss.take (m+1)))/\Below w.heap.size w w8):=by
           have I:=A.out
           refine⟨by omega,?_,?_⟩
           · rw [Zl3 hlt,S.out]
             exact ZQ.of o (by rw [List.length_append,Zdi,List.length_take,Nat.min_eq_left (by omega)];simp;omega) (by simp)
           · refine (d.out.alloc d.out.size _).grown f (by simp;have:=d.out.size;omega) ?_
             intro q hq
             simp [Value.ownBlock] at hq
             omega
          clear o f D C
          go_wp2_with fail
          go_roundw
          case rel=>exact⟨m+1,g8,c8,l+1,by omega,by go_num,rfl,s.out.1,s.out.2.1,fun j hj=>by
           rcases Nat.lt_or_ge j m with e | e
           · exact HA.out j e
           · rw [show j=m by omega];exact z.out,s.out.2.2⟩
          case measure=>simp [intOf];omega
  · obtain rfl:m=ss.length:=by omega
    have X:=n.out
    rw [List.take_length] at X
    have HC:=Za (Zo2 (some ⟨g,0,none⟩) c (clL ss) wr X.view (by rw [Zdi];exact hn))
    rw [Zdi,ZnA HA.out] at HC
    have Y:=A.out
    subst Y
    clear X hrow i L u I
    go_wp2_with fail
    refine HC.out.mono ?_
    rintro e w2 ⟨rfl,G⟩
    subst w2
    go_wp2_with fail
    go_ret
    exact⟨rfl,HL.out⟩
theorem ZjX(am aw aq:Option Addr)(cm cw cs:Nat)(wd:Int)(ms:List Mk)(d:Int)(ts:List Wb)(nx:Int)(ss:List Zv)(w:World)(hm:Zo w am ms)(hw:Zp true w aw ts)(hs:Zm w aq ss)(hsm:Z0 ms ts)(hn:ss.length<=1048576):
 Calls Tryz.prog 32 #[.agg #[.int .i64 wd,.slice am ms.length cm,.int .i64 d,.slice aw ts.length cw,.int .i64 nx,.slice aq ss.length cs]] w fun e w'=>e=.returned (.bool (dkB wd ms d ts nx ss))/\Below w.heap.size w w':=by
 obtain⟨W,k⟩:∃W,w.alloc (.cells #[.int .i64 wd,.slice am ms.length cm,.int .i64 d,.slice aw ts.length cw,.int .i64 nx,.slice aq ss.length cs] 44)=W:=⟨_,rfl⟩
 have m:=balZ k
 have f:ZcW true W w.heap.size am aw aq cm cw cs wd ms d ts nx ss:=by rw [<-k];exact ZcW.box hm hw hs
 have n:=Za (ZhM aq cs ss W f.sv hn)
 have y:=Za hsm
 obtain⟨q,h⟩:∃b,ssB ss=b:=⟨_,rfl⟩
 rw [h] at n
 have i:Hid (dkB wd ms d ts nx ss=(q && stB wd ms d ts nx)):=by show _=_;rw [dkB,h,Bool.and_comm]
 have B:=Za m
 have x:=Za f
 have u:=f.c5
 clear hm hw hs m f hsm h
 go_enter Tryz.func32,Tryz.ntmps32
 go_wp2_with fail
 refine n.out.mono ?_
 rintro e r ⟨rfl,j⟩
 clear k u
 have a:=x.out.below j
 have z:=a.c0
 have s:=a.c1
 have t:=a.c2
 have v:=a.c3
 have A:=a.c4
 have l:=Za (Zfs am aw cm cw wd ms d ts nx r a.mv a.wv y.out)
 have c:=Za (Zb B.out j)
 clear a j
 cases q with
 | false=>
   go_wp2_with fail
   go_ret
   exact⟨Zd i.out.symm,c.out⟩
 | true=>
   obtain⟨D,o⟩:∃b,stB wd ms d ts nx=b:=⟨_,rfl⟩
   rw [o] at l i
   clear o
   go_wp2_with fail
   refine l.out.mono ?_
   rintro e C ⟨rfl,p⟩
   have g:=Za (Zb c.out p)
   clear p z s t v A
   go_wp2_with fail
   go_ret
   exact⟨Zd (by rw [i.out];rfl),g.out⟩
structure Zfe(w:World)(bm hi b:Nat)(lo:Nat->Nat)(bs:Nat)(ms:List Mk)(ts:List Wb)(ss:List Zv):Prop where
 st:Zcf w bm hi b ms ts lo
 row:Zq (lo ts.length) w bs ss.length ss
theorem ZdS{base:Nat}{w:World}{g c:Nat}{ss:List Zv}(h:Zq base w g c ss):base<=g/\g<w.heap.size:=World.ownsRow.lt h g rfl
theorem Zej{base:Nat}{w w':World}{g c:Nat}{ss:List Zv}(h:Zq base w g c ss)(e:w'.heap[g]? =w.heap[g]?):Zq base w' g c ss:=by
 obtain⟨d,j | ⟨i,f,b,a,l,k,m⟩⟩:=h
 · exact⟨d,Or.inl j⟩
 · refine⟨d,Or.inr ⟨i,f,b,a,l,?_,m⟩⟩
   injection a with a e2 e3
   injection a with a
   injection a with a
   rw [<-a,e,a]
   exact k
theorem ZkE{base base':Nat}{w:World}{g c:Nat}{ss:List Zv}(h:Zq base w g c ss)(hb:base'<=base):Zq base' w g c ss:=
 ⟨h.1,h.2.imp id fun ⟨g,cap,cur,h1,h2,h3⟩=>⟨g,cap,cur,h1,Nat.le_trans hb h2,h3⟩⟩
theorem Zbt{base:Nat}{w:World}{g c:Nat}{ss:List Zv}(h:Zq base w g c ss):Zm w (some ⟨g,0,none⟩) ss:=Zq.view h
theorem Zfe.next{w w':World}{bm hi b:Nat}{lo:Nat->Nat}{bs:Nat}{ms:List Mk}{ts:List Wb}{ss:List Zv}(h:Zfe w bm hi b lo bs ms ts ss)(L:Below w.heap.size w w'):Zfe w' bm hi b lo bs ms ts ss:=
 ⟨h.st.next L,Zej h.row (L.block bs (ZdS h.row).2)⟩
theorem toDk(v:Bool)(am aw aq:Option Addr)(cm cw cs:Nat)(wd:Int)(ms:List Mk)(d:Int)(ts:List Wb)(nx:Int)(ss:List Zv)(w:World)(hm:Zo w am ms)(hw:Zp v w aw ts)(hs:Zm w aq ss)(hsm:Zbi ms ts ss):
 Calls Tryz.prog 10 #[.agg #[.int .i64 wd,.slice am ms.length cm,.int .i64 d,.slice aw ts.length cw,.int .i64 nx,.slice aq ss.length cs]] w fun e w'=>∃bm b bs,e=.returned (.agg #[.int .i64 wd,.slice (some ⟨bm,0,none⟩) ms.length ms.length,.int .i64 d,.slice (some ⟨b,0,none⟩) ts.length ts.length,.int .i64 nx,.slice (some ⟨bs,0,none⟩) ss.length ss.length])/\(∃hi lo,Zfe w' bm hi b lo bs ms ts ss)/\w.heap.size<=bm/\Below w.heap.size w w':=by
 obtain⟨u,k⟩:∃W,w.alloc (.cells #[.int .i64 wd,.slice am ms.length cm,.int .i64 d,.slice aw ts.length cw,.int .i64 nx,.slice aq ss.length cs] 30)=W:=⟨_,rfl⟩
 obtain⟨t,h⟩:∃W,u.alloc (.cells #[.int .i64 0,.slice none 0 0,.int .i64 0,.slice none 0 0,.int .i64 0,.slice none 0 0] 44)=W:=⟨_,rfl⟩
 obtain⟨W,Q⟩:∃W,t.alloc (.cells #[.int .i64 0,.slice none 0 0,.int .i64 0,.slice none 0 0,.int .i64 0,.slice none 0 0] 44)=W:=⟨_,rfl⟩
 have s1:=salZ k
 have s2:t.heap.size=w.heap.size+1+1:=by rw [<-h];simp [s1]
 have a5:W.heap.size=w.heap.size+1+1+1:=by rw [<-Q];simp [s2]
 have b1:=balZ k
 have U:=balZ h
 have S:=balZ Q
 have R:Below w.heap.size w W:=Zb (Zb b1 U) S
 have B:W.heap[w.heap.size]? =some (.cells #[.int .i64 wd,.slice am ms.length cm,.int .i64 d,.slice aw ts.length cw,.int .i64 nx,.slice aq ss.length cs] 30):=(S.block _ (by omega)).trans ((U.block _ (by omega)).trans (by rw [<-k];exact heap_alloc_new w _))
 have D:W.heap[w.heap.size+1]? =some (.cells #[.int .i64 0,.slice none 0 0,.int .i64 0,.slice none 0 0,.int .i64 0,.slice none 0 0] 44):=(S.block _ (by omega)).trans (by rw [<-h,<-s1];exact heap_alloc_new u _)
 have K:=nal2Z Q s2
 obtain⟨z0,z1,z2,z3,z4,z5,-,-⟩:=Zh B
 have HS:=Za (toSt v am aw cm cw wd ms d ts nx W (hm.next R) (hw.next R) hsm.1)
 have HV:=Za hs
 have HB:=Za R
 have HT:=Za (And.intro B (And.intro D K))
 have HN:=Za hsm.2
 have O:Hid _:=aw3Z k h Q
 have aC:=Za a5
 clear R hm hw hs b1 U S B D K hsm k h Q
 go_enter Tryz.func10,Tryz.ntmps10
 go_upto_region 2 with fail
 rw [O.out]
 go_wp2_with fail
 refine HS.out.mono ?_
 rintro e w2 ⟨bm,hi,b,lo,rfl,o1,a1,x⟩
 clear z0 z1 z2 z3 z4 z5 O
 obtain⟨B,D,K⟩:=HT.out
 have u0:=(x.block _ (by omega)).trans B
 have u1:=(x.block _ (by omega)).trans D
 have u2:=(x.block _ (by omega)).trans K
 obtain⟨e0,e1,e2,e3,e4,e5,A,-⟩:=Zh u2
 have a4:=A 0
 have a3:=A 1
 have Y:=A 2
 have a2:=A 3
 have V:=A 4
 obtain⟨j,f⟩:∃j,((((w2.setCell ⟨w.heap.size+1+1,0,none⟩ (.int .i64 wd)).setCell ⟨w.heap.size+1+1,1,none⟩ (.slice (some ⟨bm,0,none⟩) ms.length ms.length)).setCell ⟨w.heap.size+1+1,2,none⟩ (.int .i64 d)).setCell ⟨w.heap.size+1+1,3,none⟩ (.slice (some ⟨b,0,none⟩) ts.length ts.length)).setCell ⟨w.heap.size+1+1,4,none⟩ (.int .i64 nx)=j:=⟨_,rfl⟩
 have c:∀i,i≠w.heap.size+1+1->j.heap[i]? =w2.heap[i]? :=fun i hi=>by rw [<-f];exact ZhI hi
 have z3:j.heap.size=w2.heap.size:=by rw [<-f];simp [World.setCell]
 have H:=(c w.heap.size (by omega)).trans u0
 have F:=(c (w.heap.size+1) (by omega)).trans u1
 have P:j.heap[w.heap.size+1+1]? =some (.cells #[.int .i64 wd,.slice (some ⟨bm,0,none⟩) ms.length ms.length,.int .i64 d,.slice (some ⟨b,0,none⟩) ts.length ts.length,.int .i64 nx,.slice none 0 0] 44):=by rw [<-f];exact ZhH u2
 have y:Zcf j bm hi b ms ts lo:=o1.far (by omega) (fun i h1=>c i (by omega))
 have z:Below w.heap.size w j:=by
  have a:w.heap.size<=w.heap.size+1+1:=by omega
  rw [<-f];exact (((((Zb HB.out x).setCell (p:=⟨w.heap.size+1+1,0,none⟩) a _).setCell (p:=⟨w.heap.size+1+1,1,none⟩) a _).setCell (p:=⟨w.heap.size+1+1,2,none⟩) a _).setCell (p:=⟨w.heap.size+1+1,3,none⟩) a _).setCell (p:=⟨w.heap.size+1+1,4,none⟩) a _
 obtain⟨-,-,-,-,-,y5,-,-⟩:=Zh H
 have g:=y.webs.last
 have I:=Za (ZoR aq cs ss j (HV.out.next z) HN.out)
 have H3:=Za (And.intro H (And.intro F (And.intro P (And.intro y z))))
 have L:Hid (w.heap.size+1+1+1<=bm/\lo ts.length<=j.heap.size/\w.heap.size+1+1+1<=j.heap.size):=⟨by omega,g,by have:=x.size;omega⟩
 have T:=Za f
 clear HT B D K u0 u1 u2 H F P o1 y x z c a1 A HS f g
 go_upto_region 3 with fail
 rw [T.out]
 clear e0 e1 e2 e3 e4 e5 a4 a3 Y a2 V
 go_wp2_with fail
 refine I.out.mono ?_
 rintro e q ⟨bs,rfl,o4,J⟩
 obtain⟨H,F,P,y,z⟩:=H3.out
 obtain⟨s,E,ae⟩:=L.out
 have x1:=(J.block _ (by omega)).trans F
 have x2:=(J.block _ (by omega)).trans P
 obtain⟨g0,g1,g2,g3,g4,g5,r,-⟩:=Zh x1
 obtain⟨h0,h1,h2,h3,h4,h5,k2,-⟩:=Zh x2
 have ak:=r 0
 have aN:=r 1
 have aJ:=r 2
 have ai:=r 3
 have aR:=r 4
 have aI:=r 5
 have aF:=k2 5
 have M:=(ZdS o4).1
 have HF:Hid (Zfe q bm hi b lo bs ms ts ss/\Below w.heap.size w q/\j.heap.size<=bs):=⟨⟨y.next J,ZkE o4 E⟩,Zb z J,M⟩
 have Z:=Za s
 clear H F P y z x1 x2 o4 J H3 L r k2 I y5 M s E
 go_wp2_with fail
 refine bodyPost_ret (v:=.agg #[.int .i64 wd,.slice (some ⟨bm,0,none⟩) ms.length ms.length,.int .i64 d,.slice (some ⟨b,0,none⟩) ts.length ts.length,.int .i64 nx,.slice (some ⟨bs,0,none⟩) ss.length ss.length]) (by simp [results,Tryz.results10,go_sem,g0,g1,g2,g3,g4,g5]) rfl ?_
 obtain⟨o,q4,q5⟩:=HF.out
 have s:=Z.out
 obtain⟨C,l⟩:∃C,q.setCell ⟨w.heap.size+1+1,5,none⟩ (.slice (some ⟨bs,0,none⟩) ss.length ss.length)=C:=⟨_,rfl⟩
 have N:∀i,i≠w.heap.size+1+1->C.heap[i]? =q.heap[i]? :=fun i hi=>by rw [<-l];exact Below.heap_setCell q ⟨w.heap.size+1+1,5,none⟩ _ i hi
 have s5:C.heap.size=q.heap.size:=by rw [<-l];simp [World.setCell]
 have L5:Below w.heap.size w C:=by rw [<-l];exact q4.setCell (by show w.heap.size<=w.heap.size+1+1;omega) _
 rw [l]
 obtain⟨G,m⟩:∃G,(((((C.setCell ⟨w.heap.size+1,0,none⟩ (.int .i64 wd)).setCell ⟨w.heap.size+1,1,none⟩ (.slice (some ⟨bm,0,none⟩) ms.length ms.length)).setCell ⟨w.heap.size+1,2,none⟩ (.int .i64 d)).setCell ⟨w.heap.size+1,3,none⟩ (.slice (some ⟨b,0,none⟩) ts.length ts.length)).setCell ⟨w.heap.size+1,4,none⟩ (.int .i64 nx)).setCell ⟨w.heap.size+1,5,none⟩ (.slice (some ⟨bs,0,none⟩) ss.length ss.length)=G:=⟨_,rfl⟩
 have n:∀i,bm<=i->G.heap[i]? =q.heap[i]? :=fun i hi=>by
  rw [<-m]
  exact (Zau (by omega)).trans (N i (by omega))
 have s6:G.heap.size=q.heap.size:=by rw [<-m];simp [World.setCell,<-s5]
 have L6:Below w.heap.size w G:=by
  have a:w.heap.size<=w.heap.size+1:=by omega
  rw [<-m];exact (((((L5.setCell (p:=⟨w.heap.size+1,0,none⟩) a _).setCell (p:=⟨w.heap.size+1,1,none⟩) a _).setCell (p:=⟨w.heap.size+1,2,none⟩) a _).setCell (p:=⟨w.heap.size+1,3,none⟩) a _).setCell (p:=⟨w.heap.size+1,4,none⟩) a _).setCell (p:=⟨w.heap.size+1,5,none⟩) a _
 rw [m]
 have X:bm<=bs:=by have:=o.st.first;have:=o.st.last;have:=o.st.webs.first;have:=o.st.webs.le_last 0 (Nat.zero_le _);have:=o.st.part.1;have:=(ZdS o.row).1;omega
 exact⟨bm,b,bs,rfl,⟨hi,lo,o.st.far (by omega) (fun i h1=>n i h1),Zej o.row (n bs X)⟩,by omega,L6⟩
end Go.Proofs.YtilkaeclgmcolaaGreat
namespace Go.Proofs.YtilkaeclgmcolaaGreat
open Go Go.RowKit Go.Deep
theorem ZhA{W:World}{base:Nat}{v:Value}(h:Value.okWide Tryz.prog W .any base 30 v):∃cs:Array Value,v=.agg cs/\cs.size=6:=by
 unfold Value.okWide at h
 rw [Tryz.underlying30] at h
 obtain⟨cs,rfl,a,_⟩:=h
 exact⟨cs,rfl,a.trans (by kernel_rfl)⟩
theorem ZnR{α :Type}{cs:Array α}(h:cs.size=6):∃c0 c1 c2 c3 c4 c5,cs=#[c0,c1,c2,c3,c4,c5]:=by
 obtain⟨l⟩:=cs
 match l,h with
 | [c0,c1,c2,c3,c4,c5],_=>exact⟨c0,c1,c2,c3,c4,c5,rfl⟩
theorem Zky{H:Type}{enc:TypeId×Value->H}{W:World}{n:Nat}{cs:Array Value}{x:DataW H×List MemPlace}(hs:cs.size=6)(h:DataW.trod enc Tryz.prog W 0 (fun _=>true) true n 30 cs.toList=some x):
 ∃(wd:Int) (ms:List Mk) (d:Int) (ts:List Wb) (nx:Int) (ss:List Zv) (am:Option Addr) (cm:Nat) (aw:Option Addr) (cw:Nat) (aq:Option Addr) (cq:Nat),cs=#[.int .i64 wd,.slice am ms.length cm,.int .i64 d,.slice aw ts.length cw,.int .i64 nx,.slice aq ss.length cq]/\Zo W am ms/\Zp false W aw ts/\Zm W aq ss/\ZeF ms ts/\ss.length<=maxLen:=by
 obtain⟨u0,u1,u2,u3,u4,u5,rfl⟩:=ZnR hs
 obtain⟨s,z,m,_,F,o,j⟩:=Go.ChangeShapes.trod_struct2 Tryz.underlying30 h
 have D:Tryz.prog.cellsOf 27=5:=by kernel_rfl
 have t:Tryz.prog.cellsOf 28=1:=by kernel_rfl
 simp only [D,t] at o j
 have i:DataW.trod enc Tryz.prog W 0 (fun _=>true) true m 27 (#[u0,u1,u2,u3,u4]:Array Value).toList=some s:=by simpa using o
 obtain⟨wd,ms,d,ts,nx,am,cm,aw,cw,f,y,r,p⟩:=Zi4 rfl i
 have b:DataW.trod enc Tryz.prog W 0 (fun _=>true) true m 28 [u5]=some z:=by simpa using j
 obtain⟨aq,E,cq,k⟩:∃a l c,u5=.slice a l c:=by
  obtain⟨a,l,c,e⟩:=Go.Joins.slice_form Tryz.underlying28 b
  injection e with e
  exact⟨a,l,c,e⟩
 rw [k] at b
 obtain⟨ss,g,A,B⟩:=Zft b
 injection f with f
 simp only [List.cons.injEq,and_true] at f
 obtain⟨w,q,v,u,C⟩:=f
 exact⟨wd,ms,d,ts,nx,ss,am,cm,aw,cw,aq,cq,by rw [w,q,v,u,C,k,g],y,r,A,p,B⟩
end Go.Proofs.YtilkaeclgmcolaaGreat
