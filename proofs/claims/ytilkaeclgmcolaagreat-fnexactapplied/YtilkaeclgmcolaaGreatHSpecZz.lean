import Derived.Test.YtilkaeclgmcolaaGreatHCellsZz
import Derived.Test.YtilkaeclgmcolaaGreatMCopyZz
import Derived.Deep.RegionHeld3
import Derived.Laws.ByValue
set_option maxHeartbeats 800000
namespace Go.Proofs.YtilkaeclgmcolaaGreat
open Go Go.RowKit
theorem Zij{a b:Ht}(h:a.2<b.2):Zag a b=true:=by rw [Zck];omega
theorem Zik{a b:Ht}(h:a.2=b.2)(h':a.1<b.1):Zag a b=true:=by rw [Zck];omega
theorem Zgw{a b:Ht}(h:¬a.2<b.2)(h':¬a.2=b.2):Zag a b=false:=by rw [ZaM];unfold leH;omega
theorem Zil{a b:Ht}(h:a.2=b.2)(h':¬a.1<b.1):Zag a b=false:=by rw [ZaM];unfold leH;omega
theorem Zps(a b:Ht)(w:World):
 Calls Tryz.prog 238 #[.agg #[.int .i64 a.1,.int .i64 a.2],.agg #[.int .i64 b.1,.int .i64 b.2]] w fun e w'=>e=.returned (.bool (Zag a b))/\Below w.heap.size w w':=by
 have d:Below w.heap.size w ((w.alloc (.cells #[.int .i64 a.1,.int .i64 a.2] 227)).alloc (.cells #[.int .i64 b.1,.int .i64 b.2] 227)):=
  ((Below.refl _ _).alloc (Nat.le_refl _) _).alloc (by simp) _
 by_cases h1:a.2<b.2
 · have c:=Za (Zij h1)
   go_enter Tryz.func238,Tryz.ntmps238
   go_wp2_with fail
   go_ret
   exact⟨Zd c.out.symm,d⟩
 · by_cases h2:a.2=b.2
   · have f:(a.2 ==b.2)=true:=by simp [h2]
     by_cases h3:a.1<b.1
     · have c:=Za (Zik h2 h3)
       clear h2
       go_enter Tryz.func238,Tryz.ntmps238
       go_wp2_with fail
       go_ret
       exact⟨Zd c.out.symm,d⟩
     · have c:=Za (Zil h2 h3)
       clear h2
       go_enter Tryz.func238,Tryz.ntmps238
       go_wp2_with fail
       go_ret
       exact⟨Zd c.out.symm,d⟩
   · have f:(a.2 ==b.2)=false:=by simp [h2]
     have c:=Za (Zgw h1 h2)
     clear h2
     go_enter Tryz.func238,Tryz.ntmps238
     go_wp2_with fail
     go_ret
     exact⟨Zd c.out.symm,d⟩
theorem sMin(x y:Int)(w:World):
 Calls Tryz.prog 104 #[.int .i64 x,.int .i64 y] w fun e w'=>e=.returned (.int .i64 (min x y))/\w'=w:=by
 by_cases h:x<y
 · have a:Hid (min x y=x):=by show min x y=x;omega
   go_enter Tryz.func104,Tryz.ntmps104
   go_wp2
   go_ret
   exact⟨ZK a.out.symm,rfl⟩
 · have a:Hid (min x y=y):=by show min x y=y;omega
   go_enter Tryz.func104,Tryz.ntmps104
   go_wp2
   go_ret
   exact⟨ZK a.out.symm,rfl⟩
theorem Zd9{xs:List Int}{k:Nat}{x:Int}(hk:k<xs.length)(h:nth xs k=x):ZaI xs x=true:=by
 simp only [ZaI,List.contains_iff_mem]
 have e:nth xs k=xs[k]:=by simp [nth,List.getD,hk]
 rw [<-h,e]
 exact List.getElem_mem hk
theorem ZdC{xs:List Int}{x:Int}(h:∀j,j<xs.length->nth xs j≠x):ZaI xs x=false:=by
 rcases hb:ZaI xs x with _ | _
 · rfl
 · simp only [ZaI,List.contains_iff_mem] at hb
   obtain⟨i,a,e⟩:=List.getElem_of_mem hb
   exact absurd (by rw [<-e];simp [nth,List.getD,a]) (h i a)
theorem sHas(ao:Option Addr)(cap:Nat)(xs:List Int)(x:Int)(w:World)(hv:Zy w ao xs)(hn:xs.length<=4194304):
 Calls Tryz.prog 185 #[.slice ao xs.length cap,.int .i64 x] w fun e w'=>e=.returned (.bool (ZaI xs x))/\w'=w:=by
 go_enter Tryz.func185,Tryz.ntmps185
 go_wp2
 go_loop [5] (fun i=>∃k:Nat,k<=xs.length/\i=.int .i64 k/\∀j,j<k->nth xs j≠x) (fun i=>xs.length-(intOf i).toNat)
 case atStart=>exact⟨0,Nat.zero_le _,rfl,fun j g=>by omega⟩
 case round=>
  obtain⟨k,q,rfl,a⟩:=hrel
  have f:=Za a
  clear a
  by_cases hlt:k<xs.length
  · obtain⟨b,c,rfl,o,m⟩:∃b c,ao=some ⟨b,c,none⟩/\b<w.heap.size/\Seg w b c xs:=by
     rcases hv with h | h
     · subst h;simp at hlt
     · exact h
    have p:=m k hlt
    by_cases he:nth xs k=x
    · have n:=Za (Zd9 hlt he)
      have d:(nth xs k ==x)=true:=by simp [he]
      clear he
      go_wp2
      go_ret
      exact⟨Zd n.out.symm,rfl⟩
    · have d:(nth xs k ==x)=false:=by simp [he]
      have l:=Za he
      clear he
      go_wp2
      go_round
      case rel=>exact⟨k+1,by omega,by go_num,fun j g=>by
       rcases Nat.lt_or_ge j k with h | h
       · exact f.out j h
       · rw [show j=k by omega];exact l.out⟩
      case measure=>simp [intOf];omega
  · go_wp2
    go_ret
    obtain rfl:k=xs.length:=by omega
    exact⟨Zd (Eq.symm (ZdC f.out)),rfl⟩
def Zbe(P:Program)(t:TypeId)(name:String):Option (Bool×Option (FuncId×Bool)):=((P.info? t).bind fun i=>i.methods.find? (·.name ==name)).map fun m=>(m.path.isEmpty,m.func)
theorem ZfO : Zbe Tryz.prog 245 "Less" = some (true, some (297, false)) := by kernel_rfl
theorem Zd8 : Zbe Tryz.prog 245 "Swap" = some (true, some (299, false)) := by kernel_rfl
theorem Zkk : Zbe Tryz.prog 245 "Len" = some (true, some (230, false)) := by kernel_rfl
theorem Zn5 : Zbe Tryz.prog 245 "Pop" = some (true, some (298, true)) := by kernel_rfl
theorem ZfS{t:TypeId}{name:String}{f:FuncId}{b:Bool}(h:Zbe Tryz.prog t name=some (true,some (f,b))):∃i m,Tryz.prog.info? t=some i/\i.methods.find? (·.name ==name)=some m/\m.path.toList=[]/\m.func=some (f,b):=by
 unfold Zbe at h
 cases hi:Tryz.prog.info? t with
 | none=>rw [hi] at h;cases h
 | some i=>
   rw [hi] at h
   cases hm:i.methods.find? (·.name ==name) with
   | none=>simp [hm] at h
   | some m=>
     simp [hm] at h
     exact⟨i,m,rfl,hm,by simpa using h.1,h.2⟩
theorem ZmK(P:Program)(t:TypeId)(a:Addr)(s nm:String)(w:World):Sem.run P (Builtin.ssaWrapNilChk_ #[t] t #[.pointer (some a),strVal s,strVal nm]) w=.ok (.pointer (some a)) w:=rfl
theorem Zgx:Tryz.prog.types.size+100=413:=by kernel_rfl
theorem ZaL{name:String}{f:FuncId}(h:Zbe Tryz.prog 245 name=some (true,some (f,false)))(p:Nat)(ao:Option Addr)(n c:Nat)(w:World)(hc:w.cell? ⟨p,0,none⟩=some (.slice ao n c)):
 Sem.run Tryz.prog (method 413 245 (.pointer (some ⟨p,0,none⟩)) name) w=.ok (f,.slice ao n c) w:=by
 obtain⟨i,m,d,g,l,k⟩:=ZfS h
 have j:(typeInfo 245).run Tryz.prog w=.ok i w:=by simp [typeInfo,d]
 have b:(follow [] 245 (.val (.pointer (some ⟨p,0,none⟩)))).run Tryz.prog w=.ok (245,.val (.pointer (some ⟨p,0,none⟩))) w:=by simp [follow]
 have e:∀a,(receiverAt 245 (.val (.pointer (some ⟨p,0,none⟩))) false a).run Tryz.prog w=.ok (.slice ao n c) w:=fun a=>by
  unfold receiverAt
  cases a with
  | none=>simp [go_sem,Place.get,hc]
  | some a=>simp [go_sem,Place.get,hc,ZmK]
 rw [<-Zgx]
 unfold method
 simp only [Sem.run_bind,j,Result.andThen_ok,g,l,b,k,e,Sem.run_pure]
theorem Zjl{name:String}{f:FuncId}(h:Zbe Tryz.prog 245 name=some (true,some (f,true)))(p:Nat)(w:World):
 Sem.run Tryz.prog (method 413 245 (.pointer (some ⟨p,0,none⟩)) name) w=.ok (f,.pointer (some ⟨p,0,none⟩)) w:=by
 obtain⟨i,m,c,e,k,j⟩:=ZfS h
 have g:(typeInfo 245).run Tryz.prog w=.ok i w:=by simp [typeInfo,c]
 have b:(follow [] 245 (.val (.pointer (some ⟨p,0,none⟩)))).run Tryz.prog w=.ok (245,.val (.pointer (some ⟨p,0,none⟩))) w:=by simp [follow]
 have d:∀a,(receiverAt 245 (.val (.pointer (some ⟨p,0,none⟩))) true a).run Tryz.prog w=.ok (.pointer (some ⟨p,0,none⟩)) w:=fun a=>by
  unfold receiverAt
  simp [go_sem,Place.get]
 rw [<-Zgx]
 unfold method
 simp only [Sem.run_bind,g,Result.andThen_ok,e,k,b,j,d,Sem.run_pure]
theorem Zpt(a b:Ht)(w:World):
 Calls Tryz.prog 300 #[.agg #[.int .i64 a.1,.int .i64 a.2],.agg #[.int .i64 b.1,.int .i64 b.2]] w fun e w'=>e=.returned (.bool (Zag a b))/\Below w.heap.size w w':=by
 have d:Below w.heap.size w ((w.alloc (.cells #[.int .i64 a.1,.int .i64 a.2] 227)).alloc (.cells #[.int .i64 b.1,.int .i64 b.2] 227)):=
  ((Below.refl _ _).alloc (Nat.le_refl _) _).alloc (by simp) _
 by_cases h1:a.2<b.2
 · have c:=Za (Zij h1)
   go_enter Tryz.func300,Tryz.ntmps300
   go_wp2_with fail
   go_ret
   exact⟨Zd c.out.symm,d⟩
 · by_cases h2:a.2=b.2
   · have f:(a.2 ==b.2)=true:=by simp [h2]
     by_cases h3:a.1<b.1
     · have c:=Za (Zik h2 h3)
       clear h2
       go_enter Tryz.func300,Tryz.ntmps300
       go_wp2_with fail
       go_ret
       exact⟨Zd c.out.symm,d⟩
     · have c:=Za (Zil h2 h3)
       clear h2
       go_enter Tryz.func300,Tryz.ntmps300
       go_wp2_with fail
       go_ret
       exact⟨Zd c.out.symm,d⟩
   · have f:(a.2 ==b.2)=false:=by simp [h2]
     have c:=Za (Zgw h1 h2)
     clear h2
     go_enter Tryz.func300,Tryz.ntmps300
     go_wp2_with fail
     go_ret
     exact⟨Zd c.out.symm,d⟩
theorem Zkj(b off n c i j:Nat)(l:List Ht)(w:World)(hb:b<w.heap.size)(hs:Zdv w b off l)(hn:n<=l.length)(hi:i<n)(hj:j<n):
 Calls Tryz.prog 297 #[.slice (some ⟨b,off,none⟩) n c,.int .i64 i,.int .i64 j] w fun e w'=>e=.returned (.bool (Zag (Zx l i) (Zx l j)))/\Below w.heap.size w w':=by
 obtain⟨g,d⟩:=hs i (by omega)
 obtain⟨h,f⟩:=hs j (by omega)
 have k:(0:Int)<=(i:Int):=by omega
 have r:(i:Int)<(n:Int):=by omega
 have m:(0:Int)<=(j:Int):=by omega
 have q:(j:Int)<(n:Int):=by omega
 have o:=Za (Zpt (Zx l i) (Zx l j) w.drew)
 clear hs
 go_enter Tryz.func297,Tryz.ntmps297
 go_wp2
 go_region_held3 (fun w'=>w'.cell? ⟨b,off+i*2,none⟩=some (.int .i64 (Zx l i).1)/\w'.cell? ⟨b,off+i*2+1,none⟩=some (.int .i64 (Zx l i).2)/\w'.cell? ⟨b,off+j*2,none⟩=some (.int .i64 (Zx l j).1)/\w'.cell? ⟨b,off+j*2+1,none⟩=some (.int .i64 (Zx l j).2))
  (first
    | go_keep
    | (refine⟨(a.cell (p:=⟨b,off+i*2,none⟩) hb).trans g,(a.cell (p:=⟨b,off+i*2+1,none⟩) hb).trans d,(a.cell (p:=⟨b,off+j*2,none⟩) hb).trans h,(a.cell (p:=⟨b,off+j*2+1,none⟩) hb).trans f⟩))
  (first
    | (go_at_call 300;refine o.out.mono ?_;rintro e s ⟨rfl,a⟩))
 go_wp2
 go_ret
 exact⟨rfl,⟨a.os,a.tape,a.output,a.size,a.block⟩⟩
end Go.Proofs.YtilkaeclgmcolaaGreat
