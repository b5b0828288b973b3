import Derived.Test.YtaaagmgglolibaaGreatHCellsZz
import Derived.Test.YtaaagmgglolibaaGreatMCopyZz
import Derived.Deep.RegionHeld3
import Derived.Laws.ByValue
set_option maxHeartbeats 800000
namespace Go.Proofs.YtaaagmgglolibaaGreat
open Go Go.RowKit
theorem ZhA{a b:Ht}(h:a.2<b.2):Zai a b=true:=by rw [Zb6];omega
theorem ZhB{a b:Ht}(h:a.2=b.2)(h':a.1<b.1):Zai a b=true:=by rw [Zb6];omega
theorem Zf4{a b:Ht}(h:¬a.2<b.2)(h':¬a.2=b.2):Zai a b=false:=by rw [ZaN];unfold leH;omega
theorem ZhC{a b:Ht}(h:a.2=b.2)(h':¬a.1<b.1):Zai a b=false:=by rw [ZaN];unfold leH;omega
theorem Zoi(a b:Ht)(w:World):
 Calls Tryz.prog 252 #[.agg #[.int .i64 a.1,.int .i64 a.2],.agg #[.int .i64 b.1,.int .i64 b.2]] w fun e w'=>e=.returned (.bool (Zai a b))/\Below w.heap.size w w':=by
 have L0:Below w.heap.size w ((w.alloc (.cells #[.int .i64 a.1,.int .i64 a.2] 66)).alloc (.cells #[.int .i64 b.1,.int .i64 b.2] 66)):=
  ((Below.refl _ _).alloc (Nat.le_refl _) _).alloc (by simp) _
 by_cases h1:a.2<b.2
 · have HV:=Za (ZhA h1)
   go_enter Tryz.func252,Tryz.ntmps252
   go_wp2_with fail
   go_ret
   exact⟨Zg HV.out.symm,L0⟩
 · by_cases h2:a.2=b.2
   · have h2b:(a.2 ==b.2)=true:=by simp [h2]
     by_cases h3:a.1<b.1
     · have HV:=Za (ZhB h2 h3)
       clear h2
       go_enter Tryz.func252,Tryz.ntmps252
       go_wp2_with fail
       go_ret
       exact⟨Zg HV.out.symm,L0⟩
     · have HV:=Za (ZhC h2 h3)
       clear h2
       go_enter Tryz.func252,Tryz.ntmps252
       go_wp2_with fail
       go_ret
       exact⟨Zg HV.out.symm,L0⟩
   · have h2b:(a.2 ==b.2)=false:=by simp [h2]
     have HV:=Za (Zf4 h1 h2)
     clear h2
     go_enter Tryz.func252,Tryz.ntmps252
     go_wp2_with fail
     go_ret
     exact⟨Zg HV.out.symm,L0⟩
theorem sMin(x y:Int)(w:World):
 Calls Tryz.prog 127 #[.int .i64 x,.int .i64 y] w fun e w'=>e=.returned (.int .i64 (min x y))/\w'=w:=by
 by_cases h:x<y
 · have HV:Hid (min x y=x):=by show min x y=x;omega
   go_enter Tryz.func127,Tryz.ntmps127
   go_wp2
   go_ret
   exact⟨ZK HV.out.symm,rfl⟩
 · have HV:Hid (min x y=y):=by show min x y=y;omega
   go_enter Tryz.func127,Tryz.ntmps127
   go_wp2
   go_ret
   exact⟨ZK HV.out.symm,rfl⟩
theorem ZdT{xs:List Int}{k:Nat}{x:Int}(hk:k<xs.length)(h:nth xs k=x):ZaK xs x=true:=by
 simp only [ZaK,List.contains_iff_mem]
 have e:nth xs k=xs[k]:=by simp [nth,List.getD,hk]
 rw [<-h,e]
 exact List.getElem_mem hk
theorem Zdl{xs:List Int}{x:Int}(h:∀j,j<xs.length->nth xs j≠x):ZaK xs x=false:=by
 rcases hb:ZaK xs x with _ | _
 · rfl
 · simp only [ZaK,List.contains_iff_mem] at hb
   obtain⟨i,hi,e⟩:=List.getElem_of_mem hb
   exact absurd (by rw [<-e];simp [nth,List.getD,hi]) (h i hi)
theorem sHas(ao:Option Addr)(cap:Nat)(xs:List Int)(x:Int)(w:World)(hv:Zs w ao xs)(hn:xs.length<=4194304):
 Calls Tryz.prog 203 #[.slice ao xs.length cap,.int .i64 x] w fun e w'=>e=.returned (.bool (ZaK xs x))/\w'=w:=by
 go_enter Tryz.func203,Tryz.ntmps203
 go_wp2
 go_loop [5] (fun i=>∃k:Nat,k<=xs.length/\i=.int .i64 k/\∀j,j<k->nth xs j≠x) (fun i=>xs.length-(intOf i).toNat)
 case atStart=>exact⟨0,Nat.zero_le _,rfl,fun j hj=>by omega⟩
 case round=>
  obtain⟨k,hk,rfl,hall⟩:=hrel
  have HA:=Za hall
  clear hall
  by_cases hlt:k<xs.length
  · obtain⟨b,off,rfl,hb,hs⟩:∃b off,ao=some ⟨b,off,none⟩/\b<w.heap.size/\Seg w b off xs:=by
     rcases hv with h | h
     · subst h;simp at hlt
     · exact h
    have hc:=hs k hlt
    by_cases he:nth xs k=x
    · have HV:=Za (ZdT hlt he)
      have heb:(nth xs k ==x)=true:=by simp [he]
      clear he
      go_wp2
      go_ret
      exact⟨Zg HV.out.symm,rfl⟩
    · have heb:(nth xs k ==x)=false:=by simp [he]
      have HE:=Za he
      clear he
      go_wp2
      go_round
      case rel=>exact⟨k+1,by omega,by go_num,fun j hj=>by
       rcases Nat.lt_or_ge j k with h | h
       · exact HA.out j h
       · rw [show j=k by omega];exact HE.out⟩
      case measure=>simp [intOf];omega
  · go_wp2
    go_ret
    obtain rfl:k=xs.length:=by omega
    exact⟨Zg (Eq.symm (Zdl HA.out)),rfl⟩
def Zbh(P:Program)(t:TypeId)(name:String):Option (Bool×Option (FuncId×Bool)):=((P.info? t).bind fun i=>i.methods.find? (·.name ==name)).map fun m=>(m.path.isEmpty,m.func)
theorem Zfj : Zbh Tryz.prog 239 "Less" = some (true, some (348, false)) := by kernel_rfl
theorem ZdR : Zbh Tryz.prog 239 "Swap" = some (true, some (350, false)) := by kernel_rfl
theorem Zju : Zbh Tryz.prog 239 "Len" = some (true, some (256, false)) := by kernel_rfl
theorem ZmS : Zbh Tryz.prog 239 "Pop" = some (true, some (349, true)) := by kernel_rfl
theorem Zfo{t:TypeId}{name:String}{f:FuncId}{b:Bool}(h:Zbh Tryz.prog t name=some (true,some (f,b))):∃i m,Tryz.prog.info? t=some i/\i.methods.find? (·.name ==name)=some m/\m.path.toList=[]/\m.func=some (f,b):=by
 unfold Zbh at h
 cases hi:Tryz.prog.info? t with
 | none=>rw [hi] at h;cases h
 | some i=>
   rw [hi] at h
   cases hm:i.methods.find? (·.name ==name) with
   | none=>simp [hm] at h
   | some m=>
     simp [hm] at h
     exact⟨i,m,rfl,hm,by simpa using h.1,h.2⟩
theorem ZlH(P:Program)(t:TypeId)(a:Addr)(s nm:String)(w:World):Sem.run P (Builtin.ssaWrapNilChk_ #[t] t #[.pointer (some a),strVal s,strVal nm]) w=.ok (.pointer (some a)) w:=rfl
theorem Zf5:Tryz.prog.types.size+100=465:=by kernel_rfl
theorem ZaM{name:String}{f:FuncId}(h:Zbh Tryz.prog 239 name=some (true,some (f,false)))(p:Nat)(ao:Option Addr)(n c:Nat)(w:World)(hc:w.cell? ⟨p,0,none⟩=some (.slice ao n c)):
 Sem.run Tryz.prog (method 465 239 (.pointer (some ⟨p,0,none⟩)) name) w=.ok (f,.slice ao n c) w:=by
 obtain⟨i,m,h1,h2,h3,h4⟩:=Zfo h
 have ht:(typeInfo 239).run Tryz.prog w=.ok i w:=by simp [typeInfo,h1]
 have hf:(follow [] 239 (.val (.pointer (some ⟨p,0,none⟩)))).run Tryz.prog w=.ok (239,.val (.pointer (some ⟨p,0,none⟩))) w:=by simp [follow]
 have hr:∀nm,(receiverAt 239 (.val (.pointer (some ⟨p,0,none⟩))) false nm).run Tryz.prog w=.ok (.slice ao n c) w:=fun nm=>by
  unfold receiverAt
  cases nm with
  | none=>simp [go_sem,Place.get,hc]
  | some nm=>simp [go_sem,Place.get,hc,ZlH]
 rw [<-Zf5]
 unfold method
 simp only [Sem.run_bind,ht,Result.andThen_ok,h2,h3,hf,h4,hr,Sem.run_pure]
theorem Ziy{name:String}{f:FuncId}(h:Zbh Tryz.prog 239 name=some (true,some (f,true)))(p:Nat)(w:World):
 Sem.run Tryz.prog (method 465 239 (.pointer (some ⟨p,0,none⟩)) name) w=.ok (f,.pointer (some ⟨p,0,none⟩)) w:=by
 obtain⟨i,m,h1,h2,h3,h4⟩:=Zfo h
 have ht:(typeInfo 239).run Tryz.prog w=.ok i w:=by simp [typeInfo,h1]
 have hf:(follow [] 239 (.val (.pointer (some ⟨p,0,none⟩)))).run Tryz.prog w=.ok (239,.val (.pointer (some ⟨p,0,none⟩))) w:=by simp [follow]
 have hr:∀nm,(receiverAt 239 (.val (.pointer (some ⟨p,0,none⟩))) true nm).run Tryz.prog w=.ok (.pointer (some ⟨p,0,none⟩)) w:=fun nm=>by
  unfold receiverAt
  simp [go_sem,Place.get]
 rw [<-Zf5]
 unfold method
 simp only [Sem.run_bind,ht,Result.andThen_ok,h2,h3,hf,h4,hr,Sem.run_pure]
theorem Zoj(a b:Ht)(w:World):
 Calls Tryz.prog 121 #[.agg #[.int .i64 a.1,.int .i64 a.2],.agg #[.int .i64 b.1,.int .i64 b.2]] w fun e w'=>e=.returned (.bool (Zai a b))/\Below w.heap.size w w':=by
 have L0:Below w.heap.size w ((w.alloc (.cells #[.int .i64 a.1,.int .i64 a.2] 66)).alloc (.cells #[.int .i64 b.1,.int .i64 b.2] 66)):=
  ((Below.refl _ _).alloc (Nat.le_refl _) _).alloc (by simp) _
 by_cases h1:a.2<b.2
 · have HV:=Za (ZhA h1)
   go_enter Tryz.func121,Tryz.ntmps121
   go_wp2_with fail
   go_ret
   exact⟨Zg HV.out.symm,L0⟩
 · by_cases h2:a.2=b.2
   · have h2b:(a.2 ==b.2)=true:=by simp [h2]
     by_cases h3:a.1<b.1
     · have HV:=Za (ZhB h2 h3)
       clear h2
       go_enter Tryz.func121,Tryz.ntmps121
       go_wp2_with fail
       go_ret
       exact⟨Zg HV.out.symm,L0⟩
     · have HV:=Za (ZhC h2 h3)
       clear h2
       go_enter Tryz.func121,Tryz.ntmps121
       go_wp2_with fail
       go_ret
       exact⟨Zg HV.out.symm,L0⟩
   · have h2b:(a.2 ==b.2)=false:=by simp [h2]
     have HV:=Za (Zf4 h1 h2)
     clear h2
     go_enter Tryz.func121,Tryz.ntmps121
     go_wp2_with fail
     go_ret
     exact⟨Zg HV.out.symm,L0⟩
theorem Zjt(b off n c i j:Nat)(l:List Ht)(w:World)(hb:b<w.heap.size)(hs:Zdh w b off l)(hn:n<=l.length)(hi:i<n)(hj:j<n):
 Calls Tryz.prog 348 #[.slice (some ⟨b,off,none⟩) n c,.int .i64 i,.int .i64 j] w fun e w'=>e=.returned (.bool (Zai (Zr l i) (Zr l j)))/\Below w.heap.size w w':=by
 obtain⟨hc0,hc1⟩:=hs i (by omega)
 obtain⟨hd0,hd1⟩:=hs j (by omega)
 have hgi0:(0:Int)<=(i:Int):=by omega
 have hgi:(i:Int)<(n:Int):=by omega
 have hgj0:(0:Int)<=(j:Int):=by omega
 have hgj:(j:Int)<(n:Int):=by omega
 have HC:=Za (Zoj (Zr l i) (Zr l j) w.drew)
 clear hs
 go_enter Tryz.func348,Tryz.ntmps348
 go_wp2
 go_region_held3 (fun w'=>w'.cell? ⟨b,off+i*2,none⟩=some (.int .i64 (Zr l i).1)/\w'.cell? ⟨b,off+i*2+1,none⟩=some (.int .i64 (Zr l i).2)/\w'.cell? ⟨b,off+j*2,none⟩=some (.int .i64 (Zr l j).1)/\w'.cell? ⟨b,off+j*2+1,none⟩=some (.int .i64 (Zr l j).2))
  (first
    | go_keep
    | (refine⟨(L3.cell (p:=⟨b,off+i*2,none⟩) hb).trans hc0,(L3.cell (p:=⟨b,off+i*2+1,none⟩) hb).trans hc1,(L3.cell (p:=⟨b,off+j*2,none⟩) hb).trans hd0,(L3.cell (p:=⟨b,off+j*2+1,none⟩) hb).trans hd1⟩))
  (first
    | (go_at_call 121;refine HC.out.mono ?_;rintro e w2 ⟨rfl,L3⟩))
 go_wp2
 go_ret
 exact⟨rfl,⟨L3.os,L3.tape,L3.output,L3.size,L3.block⟩⟩
end Go.Proofs.YtaaagmgglolibaaGreat
