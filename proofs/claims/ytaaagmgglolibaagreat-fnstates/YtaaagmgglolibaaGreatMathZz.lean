namespace Go.Proofs.YtaaagmgglolibaaGreat
def nth(xs:List Int)(i:Nat):Int:=xs.getD i 0
def inB(x:Int):Bool:=decide (-1000<=x) && decide (x<=1000)
def okB(xs:List Int):Bool:=decide (1<=xs.length) && decide (xs.length<=4) && xs.all inB
def Zbu(a b:List Int):Bool:=okB a && okB b && decide (a.length=b.length)
def ZC(f:Nat->Int):Nat->Int
 | 0=>0
 | k+1=>ZC f k+f k
def Zax(f:Nat->Int):Nat->Int
 | 0=>0
 | k+1=>max (Zax f k) (f k)
def sqF(a b:List Int)(i:Nat):Int:=(nth a i-nth b i)*(nth a i-nth b i)
def Zbl(a b:List Int)(i:Nat):Int:=max (nth a i-nth b i) (nth b i-nth a i)
def ZaY(a b:List Int):Int:=if Zbu a b=true then ZC (sqF a b) a.length else -1
def Zas(a b:List Int):Int:=if Zbu a b=true then ZC (Zbl a b) a.length else -1
def ZaG(a b:List Int):Int:=if Zbu a b=true then Zax (Zbl a b) a.length else -1
def ZaU(f:Nat->Int)(n:Nat):List Int:=(List.range n).map f
theorem ZjE(x:Int):inB x=true↔ -1000<=x/\x<=1000:=by simp [inB]
theorem Zat{xs:List Int}(h:okB xs=true):1<=xs.length/\xs.length<=4:=by
 simp [okB] at h;omega
theorem Zcv{xs:List Int}(h:okB xs=true)(i:Nat):-1000<=nth xs i/\nth xs i<=1000:=by
 simp only [okB,Bool.and_eq_true,List.all_eq_true] at h
 by_cases hi:i<xs.length
 · have:=h.2 xs[i] (List.getElem_mem hi)
   rw [ZjE] at this
   simpa [nth,List.getD,hi] using this
 · simp [nth,List.getD,hi]
theorem ZnU{xs:List Int}(h1:1<=xs.length)(h4:xs.length<=4)(h:∀i,i<xs.length-> -1000<=nth xs i/\nth xs i<=1000):okB xs=true:=by
 simp only [okB,Bool.and_eq_true,List.all_eq_true,decide_eq_true_eq]
 refine⟨⟨h1,h4⟩,fun x hx=>?_⟩
 obtain⟨i,hi,rfl⟩:=List.getElem_of_mem hx
 rw [ZjE]
 have:=h i hi
 simpa [nth,List.getD,hi] using this
theorem ZjT{xs:List Int}(h:xs.length<1):okB xs=false:=by simp [okB];omega
theorem Zk1{xs:List Int}(h:4<xs.length):okB xs=false:=by simp [okB];omega
theorem Zjj{xs:List Int}(i:Nat)(h:nth xs i< -1000\/1000<nth xs i):okB xs=false:=by
 rcases hb:okB xs with _ | _
 · rfl
 · have:=Zcv hb i;omega
theorem Zc4{a b:List Int}(h:Zbu a b=true):okB a=true/\okB b=true/\a.length=b.length:=by
 simp [Zbu] at h;exact⟨h.1.1,h.1.2,h.2⟩
theorem ZbI(f:Nat->Int)(lo hi:Int)(h:∀i,lo<=f i/\f i<=hi)(k:Nat):lo*k<=ZC f k/\ZC f k<=hi*k:=by
 induction k with
 | zero=>simp [ZC]
 | succ k ih=>
   have:=h k
   simp only [ZC]
   rw [show ((k+1:Nat):Int)=(k:Int)+1 by omega,Int.mul_add,Int.mul_add]
   omega
theorem Zfx(f:Nat->Int)(hi:Int)(h0:0<=hi)(h:∀i,f i<=hi)(k:Nat):0<=Zax f k/\Zax f k<=hi:=by
 induction k with
 | zero=>simp [Zax];exact h0
 | succ k ih=>have:=h k;simp only [Zax];omega
theorem Zdd(x:Int):0<=x*x:=by
 rcases Int.le_total 0 x with h | h
 · exact Int.mul_nonneg h h
 · have:=Int.mul_nonneg (a:=-x) (b:=-x) (by omega) (by omega)
   rwa [Int.neg_mul_neg] at this
theorem Zk5{x y m:Int}(_hm:0<=m)(hx:-m<=x/\x<=m)(hy:-m<=y/\y<=m):-(m*m)<=x*y/\x*y<=m*m:=by
 have a1:=Int.mul_nonneg (a:=m-x) (b:=m+y) (by omega) (by omega)
 have a2:=Int.mul_nonneg (a:=m+x) (b:=m-y) (by omega) (by omega)
 have a3:=Int.mul_nonneg (a:=m-x) (b:=m-y) (by omega) (by omega)
 have a4:=Int.mul_nonneg (a:=m+x) (b:=m+y) (by omega) (by omega)
 simp only [Int.mul_add,Int.add_mul,Int.mul_sub,Int.sub_mul] at a1 a2 a3 a4
 rw [Int.mul_comm m y] at *
 generalize x*y=p at *
 generalize x*m=q at *
 generalize y*m=r at *
 generalize m*m=s at *
 omega
theorem ZeX{a b:List Int}(ha:okB a=true)(hb:okB b=true)(i:Nat):0<=sqF a b i/\sqF a b i<=4000000:=by
 have h1:=Zcv ha i;have h2:=Zcv hb i
 refine⟨Zdd _,?_⟩
 have:=(Zk5 (x:=nth a i-nth b i) (y:=nth a i-nth b i) (m:=2000) (by omega) (by omega) (by omega)).2
 simpa [sqF] using this
theorem ZcE{a b:List Int}(ha:okB a=true)(hb:okB b=true)(i:Nat):0<=Zbl a b i/\Zbl a b i<=2000:=by
 have h1:=Zcv ha i;have h2:=Zcv hb i
 unfold Zbl;omega
theorem ZE(f:Nat->Int)(n:Nat):(ZaU f n).length=n:=by simp [ZaU]
theorem Zd5(f:Nat->Int)(n i:Nat)(h:i<n):nth (ZaU f n) i=f i:=by simp [nth,ZaU,List.getD,h]
theorem ZfT(f:Nat->Int)(n:Nat):ZaU f (n+1)=ZaU f n++[f n]:=by simp [ZaU,List.range_succ]
theorem ZcK(f g:Nat->Int)(n:Nat)(h:∀i,i<n->f i=g i):ZC f n=ZC g n:=by
 induction n with
 | zero=>rfl
 | succ n ih=>simp only [ZC];rw [ih (fun i hi=>h i (by omega)),h n (by omega)]
def ZjP(x y:Int):Int:=max x y
theorem Zc3{a b:List Int}(ha:okB a=true)(hb:okB b=true)(hl:a.length=b.length):Zbu a b=true:=by simp [Zbu,ha,hb,hl]
theorem ZfV{a b:List Int}(ha:okB a=false):Zbu a b=false:=by simp [Zbu,ha]
theorem ZeW{a b:List Int}(hb:okB b=false):Zbu a b=false:=by simp [Zbu,hb]
theorem Zg8{a b:List Int}(hl:¬a.length=b.length):Zbu a b=false:=by simp [Zbu,hl]
set_option linter.unusedSimpArgs false
theorem Zfy{xs ys:List Int}(hl:xs.length=ys.length)(h:∀j,j<xs.length->nth xs j=nth ys j):xs=ys:=by
 apply List.ext_getElem hl
 intro i h1 h2
 have:=h i h1
 simpa [nth,List.getD,h1,h2] using this
theorem Zns(a b:List Int)(i:Nat):sqF a b i=Zbl a b i*Zbl a b i:=by
 unfold sqF Zbl
 rcases Int.le_total (nth a i-nth b i) (nth b i-nth a i) with h | h
 · rw [Int.max_eq_right h,show nth b i-nth a i= -(nth a i-nth b i) by omega,Int.neg_mul_neg]
 · rw [Int.max_eq_left h]
theorem ZkE(f g h:Nat->Int)(H:∀i,f i<=g i+h i)(n:Nat):ZC f n<=ZC g n+ZC h n:=by
 induction n with
 | zero=>simp [ZC]
 | succ n ih=>have:=H n;simp only [ZC];omega
theorem ZkF(f g h:Nat->Int)(H:∀i,f i<=g i+h i)(n:Nat):Zax f n<=Zax g n+Zax h n:=by
 induction n with
 | zero=>simp [Zax]
 | succ n ih=>have:=H n;simp only [Zax];omega
theorem Zgh(a b c:List Int)(i:Nat):Zbl a b i<=Zbl a c i+Zbl c b i:=by unfold Zbl;omega
theorem Zi1(g:Nat->Int)(h:∀i,0<=g i)(n:Nat):Zax g n<=ZC g n:=by
 have h0:∀n,0<=ZC g n:=fun n=>by
  induction n with
  | zero=>simp [ZC]
  | succ n ih=>have:=h n;simp only [ZC];omega
 induction n with
 | zero=>simp [Zax,ZC]
 | succ n ih=>have:=h n;have:=h0 n;simp only [Zax,ZC];omega
theorem Zi2(g:Nat->Int)(n:Nat):ZC g n<=n*Zax g n:=by
 induction n with
 | zero=>simp [ZC]
 | succ n ih=>
   simp only [ZC,Zax]
   have h1:(n:Int)*Zax g n<=n*max (Zax g n) (g n):=Int.mul_le_mul_of_nonneg_left (by omega) (by omega)
   rw [show ((n+1:Nat):Int)=(n:Int)+1 by omega,Int.add_mul]
   omega
theorem ZgS(g:Nat->Int)(n:Nat):0<=ZC (fun i=>g i*g i) n:=by
 induction n with
 | zero=>simp [ZC]
 | succ n ih=>have:=Zdd (g n);simp only [ZC];omega
theorem Zoz(g:Nat->Int)(n:Nat):Zax g n*Zax g n<=ZC (fun i=>g i*g i) n:=by
 induction n with
 | zero=>simp [Zax,ZC]
 | succ n ih=>
   simp only [Zax,ZC]
   have h1:=Zdd (g n)
   have h2:=ZgS g n
   rcases Int.le_total (Zax g n) (g n) with h | h
   · rw [Int.max_eq_right h];omega
   · rw [Int.max_eq_left h];omega
theorem ZhW(g:Nat->Int)(h:∀i,0<=g i)(n:Nat):0<=ZC g n/\ZC (fun i=>g i*g i) n<=ZC g n*ZC g n:=by
 induction n with
 | zero=>simp [ZC]
 | succ n ih=>
   have h1:=h n
   have h2:=Int.mul_nonneg ih.1 h1
   simp only [ZC]
   refine⟨by omega,?_⟩
   rw [Int.mul_add,Int.add_mul,Int.add_mul,Int.mul_comm (g n) (ZC g n)]
   omega
theorem ZkG(g:Nat->Int)(n:Nat):ZC g n*ZC g n<=n*ZC (fun i=>g i*g i) n:=by
 induction n with
 | zero=>simp [ZC]
 | succ n ih=>
   simp only [ZC]
   generalize hs:ZC g n=s at *
   generalize hq:ZC (fun i=>g i*g i) n=q at *
   generalize hx:g n=x at *
   rcases Nat.eq_zero_or_pos n with h0 | h0
   · subst h0
     have e1:s=0:=by rw [<-hs];rfl
     have e2:q=0:=by rw [<-hq];rfl
     rw [e1,e2];simp
   · have hk:(0:Int)<(n:Int):=by omega
     rw [show ((n+1:Nat):Int)=(n:Int)+1 by omega]
     generalize (n:Int)=k at *
     have h1:0<=k*(q+k*(x*x)-2*(s*x)):=by
      have:=Zdd (s-k*x)
      have e:(s-k*x)*(s-k*x)=s*s+k*(k*(x*x)-2*(s*x)):=by (try simp only [Int.two_mul]);simp only [Int.mul_add,Int.add_mul,Int.mul_sub,Int.sub_mul,Int.one_mul,Int.mul_one,Int.mul_comm,Int.mul_left_comm,Int.mul_assoc];omega
      have e2:k*(q+k*(x*x)-2*(s*x))=k*q+k*(k*(x*x)-2*(s*x)):=by (try simp only [Int.two_mul]);simp only [Int.mul_add,Int.add_mul,Int.mul_sub,Int.sub_mul,Int.one_mul,Int.mul_one,Int.mul_comm,Int.mul_left_comm,Int.mul_assoc];omega
      omega
     have h2:0<=q+k*(x*x)-2*(s*x):=by
      rcases Int.lt_or_le (q+k*(x*x)-2*(s*x)) 0 with h | h
      · have:=Int.mul_lt_mul_of_pos_left h hk
        omega
      · exact h
     have e3:(s+x)*(s+x)=s*s+2*(s*x)+x*x:=by (try simp only [Int.two_mul]);simp only [Int.mul_add,Int.add_mul,Int.mul_sub,Int.sub_mul,Int.one_mul,Int.mul_one,Int.mul_comm,Int.mul_left_comm,Int.mul_assoc];omega
     have e4:(k+1)*(q+x*x)=k*q+q+k*(x*x)+x*x:=by (try simp only [Int.two_mul]);simp only [Int.mul_add,Int.add_mul,Int.mul_sub,Int.sub_mul,Int.one_mul,Int.mul_one,Int.mul_comm,Int.mul_left_comm,Int.mul_assoc];omega
     omega
theorem Zmg(g:Nat->Int)(h:∀i,0<=g i)(n:Nat)(hz:ZC g n=0):∀i,i<n->g i=0:=by
 induction n with
 | zero=>intro i hi;omega
 | succ n ih=>
   have h1:=h n
   have h2:=(ZhW g h n).1
   simp only [ZC] at hz
   intro i hi
   rcases Nat.lt_or_ge i n with h3 | h3
   · exact ih (by omega) i h3
   · rw [show i=n by omega];omega
theorem third{a b c:List Int}(hab:Zbu a b=true)(hac:Zbu a c=true):
 0<=Zas a b/\Zas a b<=8000/\0<=ZaG a b/\ZaG a b<=2000/\0<=ZaY a b/\ZaY a b<=16000000/\
 0<=Zas a c/\Zas a c<=8000/\0<=Zas c b/\Zas c b<=8000/\0<=ZaG a c/\ZaG a c<=2000/\0<=ZaG c b/\ZaG c b<=2000/\
 (Zas a b=0↔a=b)/\Zas a b<=Zas a c+Zas c b/\ZaG a b<=ZaG a c+ZaG c b/\ZaG a b<=Zas a b/\
 Zas a b<=a.length*ZaG a b/\ZaG a b*ZaG a b<=ZaY a b/\ZaY a b<=Zas a b*Zas a b/\Zas a b*Zas a b<=a.length*ZaY a b:=by
 obtain⟨ha,hb,hl⟩:=Zc4 hab
 obtain⟨_,hc,hl'⟩:=Zc4 hac
 have hcb:Zbu c b=true:=Zc3 hc hb (by omega)
 have h4:=Zat ha
 have e1:Zas a b=ZC (Zbl a b) a.length:=by unfold Zas;rw [if_pos hab]
 have e2:ZaG a b=Zax (Zbl a b) a.length:=by unfold ZaG;rw [if_pos hab]
 have e3:ZaY a b=ZC (fun i=>Zbl a b i*Zbl a b i) a.length:=by unfold ZaY;rw [if_pos hab];exact ZcK _ _ _ (fun i _=>Zns a b i)
 have e4:Zas a c=ZC (Zbl a c) a.length:=by unfold Zas;rw [if_pos hac]
 have e5:Zas c b=ZC (Zbl c b) a.length:=by unfold Zas;rw [if_pos hcb,hl']
 have e6:ZaG a c=Zax (Zbl a c) a.length:=by unfold ZaG;rw [if_pos hac]
 have e7:ZaG c b=Zax (Zbl c b) a.length:=by unfold ZaG;rw [if_pos hcb,hl']
 have e8:ZaY a b=ZC (sqF a b) a.length:=by unfold ZaY;rw [if_pos hab]
 have hab0:=fun i=>(ZcE ha hb i).1
 have b1:=ZbI (Zbl a b) 0 2000 (ZcE ha hb) a.length
 have b2:=Zfx (Zbl a b) 2000 (by omega) (fun i=>(ZcE ha hb i).2) a.length
 have b3:=ZbI (sqF a b) 0 4000000 (ZeX ha hb) a.length
 have b4:=ZbI (Zbl a c) 0 2000 (ZcE ha hc) a.length
 have b5:=ZbI (Zbl c b) 0 2000 (ZcE hc hb) a.length
 have b6:=Zfx (Zbl a c) 2000 (by omega) (fun i=>(ZcE ha hc i).2) a.length
 have b7:=Zfx (Zbl c b) 2000 (by omega) (fun i=>(ZcE hc hb i).2) a.length
 refine⟨by omega,by omega,by omega,by omega,by omega,by omega,by omega,by omega,by omega,by omega,by omega,by omega,by omega,by omega,?_,?_,?_,?_,?_,?_,?_,?_⟩
 · rw [e1]
   constructor
   · intro hz
     refine Zfy hl (fun j hj=>?_)
     have:=Zmg (Zbl a b) hab0 a.length hz j hj
     unfold Zbl at this;omega
   · rintro rfl
     have:ZC (Zbl a a) a.length=ZC (fun _=>0) a.length:=ZcK _ _ _ (fun i _=>by unfold Zbl;omega)
     rw [this]
     have:=ZbI (fun _=>(0:Int)) 0 0 (fun _=>⟨Int.le_refl _,Int.le_refl _⟩) a.length
     omega
 · rw [e1,e4,e5];exact ZkE _ _ _ (Zgh a b c) _
 · rw [e2,e6,e7];exact ZkF _ _ _ (Zgh a b c) _
 · rw [e1,e2];exact Zi1 _ hab0 _
 · rw [e1,e2];exact Zi2 _ _
 · rw [e2,e3];exact Zoz _ _
 · rw [e1,e3];exact (ZhW _ hab0 _).2
 · rw [e1,e3];exact ZkG _ _
abbrev Mk:=Int×List Int
def mid(ms:List Mk)(i:Nat):Int:=(ms.getD i (0,[])).1
def mat(ms:List Mk)(i:Nat):List Int:=(ms.getD i (0,[])).2
def ZbU(ms:List Mk)(i:Nat):Bool:=
 decide (1<=mid ms i) && decide (mid ms i<=1000000) && okB (mat ms i) && decide ((mat ms i).length=(mat ms 0).length) && (decide (i=0) || decide (mid ms (i-1)<mid ms i))
def Zn(ms:List Mk):Bool:=decide (ms.length<=60) && (List.range ms.length).all (ZbU ms)
def ZnI(k:Int):Bool:=decide (1<=k) && decide (k<=3)
def betV(a b:List Int)(k:Int):Int:=if k=1 then ZaY a b else if k=2 then Zas a b else if k=3 then ZaG a b else -1
def betF(ms:List Mk)(p:List Int)(k:Int)(i:Nat):Int:=betV p (mat ms i) k
def mostV(ms:List Mk)(p:List Int)(k:Int):Int:=Zax (betF ms p k) ms.length
def Zmh(ms:List Mk)(k:Int)(i:Nat):Int:=mostV ms (mat ms i) k
def ZnJ(ms:List Mk)(k:Int):Bool:=decide (ms.length=0) || !Zn ms || !ZnI k
def diaV(ms:List Mk)(k:Int):Int:=if ZnJ ms k=true then -1 else Zax (Zmh ms k) ms.length
def Zmi(ms:List Mk)(k:Int):Nat->Nat
 | 0=>0
 | n+1=>if Zmh ms k n<Zmh ms k (Zmi ms k n) then n else Zmi ms k n
def midV(ms:List Mk)(k:Int):Int:=if ZnJ ms k=true then 0 else mid ms (Zmi ms k ms.length)
theorem ZG(ms:List Mk)(i:Nat):ZbU ms i=true↔1<=mid ms i/\mid ms i<=1000000/\okB (mat ms i)=true/\(mat ms i).length=(mat ms 0).length/\(i=0\/mid ms (i-1)<mid ms i):=by
 simp [ZbU,and_assoc]
theorem ZA{ms:List Mk}(h:Zn ms=true):ms.length<=60:=by simp [Zn] at h;exact h.1
theorem ZM{ms:List Mk}(h:Zn ms=true){i:Nat}(hi:i<ms.length):ZbU ms i=true:=by
 simp only [Zn,Bool.and_eq_true,List.all_eq_true] at h
 exact h.2 i (List.mem_range.2 hi)
theorem ZeC{ms:List Mk}(h:60<ms.length):Zn ms=false:=by simp [Zn];omega
theorem ZbC{ms:List Mk}{i:Nat}(hi:i<ms.length)(h:ZbU ms i=false):Zn ms=false:=by
 rcases hb:Zn ms with _ | _
 · rfl
 · rw [ZM hb hi] at h;cases h
theorem Zei{ms:List Mk}(hl:ms.length<=60)(h:∀i,i<ms.length->ZbU ms i=true):Zn ms=true:=by
 simp only [Zn,Bool.and_eq_true,List.all_eq_true,decide_eq_true_eq]
 exact⟨hl,fun i hi=>h i (List.mem_range.1 hi)⟩
theorem ZcX(ms:List Mk)(i:Nat)(h:¬(1<=mid ms i/\mid ms i<=1000000/\okB (mat ms i)=true/\(mat ms i).length=(mat ms 0).length/\(i=0\/mid ms (i-1)<mid ms i))):ZbU ms i=false:=by
 rcases hb:ZbU ms i with _ | _
 · rfl
 · exact absurd ((ZG ms i).1 hb) h
abbrev Ht:=Int×Int
def Zai(a b:Ht):Bool:=decide (a.2<b.2) || (decide (a.2=b.2) && decide (a.1<b.1))
def leH(a b:Ht):Prop:=a.2<b.2\/(a.2=b.2/\a.1<=b.1)
def Zr(hs:List Ht)(i:Nat):Ht:=hs.getD i (0,0)
def ZbR:List Ht->Ht->List Ht
 | [],h=>[h]
 | x::xs,h=>if Zai h x=true then h::x::xs else x::ZbR xs h
def ZU(l:List Ht):List Ht:=l.foldl ZbR []
def ZbG(l:List Ht):Prop:=l.Pairwise leH
theorem Zb6(a b:Ht):Zai a b=true↔a.2<b.2\/(a.2=b.2/\a.1<b.1):=by simp [Zai]
theorem ZaN(a b:Ht):Zai a b=false↔leH b a:=by
 unfold leH
 rcases h:Zai a b with _ | _
 · have:¬(a.2<b.2\/(a.2=b.2/\a.1<b.1)):=fun hh=>by rw [(Zb6 a b).2 hh] at h;cases h
   constructor
   · intro _;omega
   · intro _;rfl
 · have:=(Zb6 a b).1 h
   constructor
   · intro hh;cases hh
   · intro hh;omega
theorem Zcp(a:Ht):leH a a:=by unfold leH;omega
theorem Zcq{a b c:Ht}(h:leH a b)(k:leH b c):leH a c:=by unfold leH at *;omega
theorem ZgT{a b:Ht}(h:leH a b)(k:leH b a):a=b:=by
 unfold leH at *
 exact Prod.ext (by omega) (by omega)
theorem ZcA{a b:Ht}(h:Zai a b=true):leH a b:=by rw [Zb6] at h;unfold leH;omega
theorem Zeq(l:List Ht)(h:Ht):(ZbR l h).Perm (h::l):=by
 induction l with
 | nil=>exact List.Perm.refl _
 | cons x xs ih=>
   unfold ZbR
   split
   · exact List.Perm.refl _
   · exact (List.Perm.cons x ih).trans (List.Perm.swap h x xs)
theorem ZcY(l:List Ht)(h:Ht):(ZbR l h).length=l.length+1:=by rw [(Zeq l h).length_eq];rfl
theorem ZhX{l:List Ht}(hl:ZbG l)(h:Ht):ZbG (ZbR l h):=by
 unfold ZbG at *
 induction l with
 | nil=>simp [ZbR]
 | cons x xs ih=>
   rw [List.pairwise_cons] at hl
   unfold ZbR
   split
   · rename_i ha
     have hx:=ZcA ha
     exact List.pairwise_cons.2 ⟨fun y hy=>by
      rcases List.mem_cons.1 hy with rfl | hy
      · exact hx
      · exact Zcq hx (hl.1 y hy),List.pairwise_cons.2 hl⟩
   · rename_i ha
     have hx:leH x h:=(ZaN h x).1 (by simpa using ha)
     refine List.pairwise_cons.2 ⟨fun y hy=>?_,ih hl.2⟩
     rcases List.mem_cons.1 ((Zeq xs h).mem_iff.1 hy) with rfl | hy
     · exact hx
     · exact hl.1 y hy
theorem ZkH(l acc:List Ht):(l.foldl ZbR acc).Perm (acc++l):=by
 induction l generalizing acc with
 | nil=>simp
 | cons x xs ih=>
   refine (ih (ZbR acc x)).trans ?_
   refine ((Zeq acc x).append_right xs).trans ?_
   exact (List.perm_middle (a:=x) (l₁ :=acc) (l₂ :=xs)).symm
theorem ZhY(l acc:List Ht)(h:ZbG acc):ZbG (l.foldl ZbR acc):=by
 induction l generalizing acc with
 | nil=>exact h
 | cons x xs ih=>exact ih _ (ZhX h x)
theorem Zao(l:List Ht):(ZU l).Perm l:=by simpa [ZU] using ZkH l []
theorem Zbp(l:List Ht):ZbG (ZU l):=ZhY l [] List.Pairwise.nil
theorem Zd1(l:List Ht):(ZU l).length=l.length:=(Zao l).length_eq
theorem Zi3(l:List Ht)(h:Ht):ZU (l++[h])=ZbR (ZU l) h:=by simp [ZU,List.foldl_append]
theorem Zdo{l m:List Ht}(hl:ZbG l)(hm:ZbG m)(hp:l.Perm m):l=m:=by
 unfold ZbG at *
 induction l generalizing m with
 | nil=>exact (List.nil_perm.1 hp).symm
 | cons x xs ih=>
   cases m with
   | nil=>exact absurd hp.length_eq (by simp)
   | cons y ys=>
     rw [List.pairwise_cons] at hl hm
     have hxy:leH x y:=by
      rcases List.mem_cons.1 (hp.mem_iff.2 (List.mem_cons_self ..):y∈x::xs) with h | h
      · rw [h];exact Zcp x
      · exact hl.1 y h
     have hyx:leH y x:=by
      rcases List.mem_cons.1 (hp.mem_iff.1 (List.mem_cons_self ..):x∈y::ys) with h | h
      · rw [h];exact Zcp y
      · exact hm.1 x h
     obtain rfl:=ZgT hxy hyx
     rw [ih hl.2 hm.2 (List.Perm.cons_inv hp)]
theorem ZgH{l m:List Ht}(hm:ZbG m)(hp:m.Perm l):m=ZU l:=Zdo hm (Zbp l) (hp.trans (Zao l).symm)
theorem Zhz{l m:List Ht}(hp:l.Perm m):ZU l=ZU m:=Zdo (Zbp l) (Zbp m) ((Zao l).trans (hp.trans (Zao m).symm))
def ZaK(ids:List Int)(x:Int):Bool:=ids.contains x
def Zcr(ids:List Int):List Ht->List Ht
 | []=>[]
 | x::xs=>if ZaK ids x.1=true then Zcr ids xs else x::Zcr (ids++[x.1]) xs
def Zhy(l:List Ht):List Ht:=Zcr [] l
def Zap(ms:List Mk)(q:List Int):Bool:=Zn ms && okB q && (decide (ms.length=0) || decide ((mat ms 0).length=q.length))
def Zkb(q:List Int)(m:Mk):Ht:=(m.1,ZaY m.2 q)
def Z0(ms:List Mk)(q:List Int):List Ht:=ms.map (Zkb q)
def Zaz(k:Int):Bool:=decide (1<=k) && decide (k<=60)
def Z1(ms:List Mk)(q:List Int)(k:Int):List Ht:=if Zap ms q=true/\Zaz k=true then (ZU (Z0 ms q)).take k.toNat else []
theorem Zf6{ms:List Mk}{q:List Int}(h:Zn ms=false):Zap ms q=false:=by simp [Zap,h]
theorem ZhE{ms:List Mk}{q:List Int}(h:okB q=false):Zap ms q=false:=by simp [Zap,h]
def ZnK(n d:Int):Int:=if n<0\/d<n then d else n
def zNear(D:Nat->Nat->Int)(i:Nat)(C:List Nat):Int:=C.foldl (fun n c=>ZnK n (D i c)) (-1)
def zRad(D:Nat->Nat->Int)(n:Nat)(C:List Nat):Int:=Zax (fun i=>zNear D i C) n
def zD(ms:List Mk)(kd:Int)(i j:Nat):Int:=max 0 (betV (mat ms i) (mat ms j) kd)
theorem ZgM(f:Nat->Int)(h:∀i,f i=0)(n:Nat):ZC f n=0:=by
 induction n with
 | zero=>rfl
 | succ n ih=>simp only [ZC];rw [ih,h n];rfl
def Z4(ms:List Mk)(id:Int):Nat->Int
 | 0=> -1
 | m+1=>if 0<=Z4 ms id m then Z4 ms id m else if mid ms m=id then (m:Int) else -1
def Zv(ms:List Mk)(id:Int):Int:=Z4 ms id ms.length
def Zy(ms:List Mk)(id:Int):Nat:=(Zv ms id).toNat
theorem Zi4(ms:List Mk)(id:Int)(m:Nat):-1<=Z4 ms id m/\Z4 ms id m<m/\(0<=Z4 ms id m->mid ms (Z4 ms id m).toNat=id):=by
 induction m with
 | zero=>simp [Z4]
 | succ m ih=>
   simp only [Z4]
   split
   · exact⟨ih.1,by omega,ih.2.2⟩
   · split
     · rename_i h
       exact⟨by omega,by omega,fun _=>by simpa using h⟩
     · exact⟨by omega,by omega,fun h=>by omega⟩
theorem Zfw{ms:List Mk}{id:Int}{m:Nat}(h:Z4 ms id m<0):∀j,j<m->mid ms j≠id:=by
 induction m with
 | zero=>intro j hj;omega
 | succ m ih=>
   simp only [Z4] at h
   intro j hj
   by_cases h0:0<=Z4 ms id m
   · rw [if_pos h0] at h;omega
   · rw [if_neg h0] at h
     rcases Nat.lt_or_ge j m with h1 | h1
     · exact ih (by omega) j h1
     · rw [show j=m by omega]
       intro e
       rw [if_pos e] at h
       omega
theorem ZQ{ms:List Mk}{id:Int}(h:0<=Zv ms id):Zy ms id<ms.length/\((Zy ms id:Nat):Int)=Zv ms id/\mid ms (Zy ms id)=id:=by
 have:=Zi4 ms id ms.length
 unfold Zy Zv at *
 exact⟨by omega,by omega,this.2.2 h⟩
theorem Zbd{ms:List Mk}(h:Zn ms=true){i j:Nat}(hij:i<j)(hj:j<ms.length):mid ms i<mid ms j:=by
 induction j with
 | zero=>omega
 | succ j ih=>
   have h1:=((ZG ms (j+1)).1 (ZM h hj)).2.2.2.2
   simp at h1
   rcases Nat.lt_or_ge i j with h2 | h2
   · have:=ih h2 (by omega);omega
   · rw [show i=j by omega];exact h1
theorem Ze8{ms:List Mk}(h:Zn ms=true){i j:Nat}(hi:i<ms.length)(hj:j<ms.length)(e:mid ms i=mid ms j):i=j:=by
 rcases Nat.lt_trichotomy i j with h1 | h1 | h1
 · have:=Zbd h h1 hj;omega
 · exact h1
 · have:=Zbd h h1 hi;omega
theorem Zam{ms:List Mk}(h:Zn ms=true){i:Nat}(hi:i<ms.length):Zv ms (mid ms i)=i/\Zy ms (mid ms i)=i:=by
 have hp:0<=Zv ms (mid ms i):=by
  rcases Int.lt_or_le (Zv ms (mid ms i)) 0 with h1 | h1
  · exact absurd rfl (Zfw h1 i hi)
  · exact h1
 obtain⟨a,b,c⟩:=ZQ hp
 have e:=Ze8 h a hi c
 exact⟨by omega,e⟩
def zNearI(ms:List Mk)(kd:Int)(p:List Int)(ids:List Int):Int:=ids.foldl (fun n id=>ZnK n (betV p (mat ms (Zy ms id)) kd)) (-1)
def radB(ms:List Mk)(ids:List Int)(kd:Int):Bool:=Zn ms && decide (ids.length≠0) && ZnI kd && ids.all (fun id=>decide (0<=Zv ms id))
def radI(ms:List Mk)(ids:List Int)(kd:Int):Int:=if radB ms ids kd=true then zRad (zD ms kd) ms.length (ids.map (Zy ms)) else -1
def cn(cs:List (List Int))(i:Nat):List Int:=cs.getD i []
theorem cn_at{cs:List (List Int)}{i:Nat}(h:i<cs.length):cn cs i=cs[i]:=by simp [cn,List.getD,h]
def ZcZ(l:List Int):Nat->Bool
 | 0=>true
 | k+1=>ZcZ l k && decide (nth l k<nth l (k+1))
def Za7(l:List Int):Bool:=ZcZ l (l.length-1)
theorem ZgU(l:List Int)(n:Nat):ZcZ l n=true↔∀j,j<n->nth l j<nth l (j+1):=by
 induction n with
 | zero=>simp [ZcZ]
 | succ n ih=>
   simp only [ZcZ,Bool.and_eq_true,decide_eq_true_eq,ih]
   constructor
   · rintro⟨h1,h2⟩ j hj
     rcases Nat.lt_or_ge j n with h | h
     · exact h1 j h
     · obtain rfl:j=n:=by omega
       exact h2
   · exact fun h=>⟨fun j hj=>h j (by omega),h n (by omega)⟩
theorem Zbe(l:List Int):Za7 l=true↔∀j,j+1<l.length->nth l j<nth l (j+1):=by
 unfold Za7
 rw [ZgU]
 exact⟨fun h j hj=>h j (by omega),fun h j hj=>h j (by omega)⟩
theorem Zkz{l:List Int}{j:Nat}(hj:j+1<l.length)(h:nth l (j+1)<=nth l j):Za7 l=false:=by
 rcases e:Za7 l with _ | _
 · rfl
 · have:=(Zbe l).1 e j hj;omega
theorem ZkI{l:List Int}(h:Za7 l=true){i j:Nat}(hij:i<j)(hj:j<l.length):nth l i<nth l j:=by
 have h':=(Zbe l).1 h
 induction j with
 | zero=>omega
 | succ j ih=>
   have h1:=h' j hj
   rcases Nat.lt_or_ge i j with h2 | h2
   · have:=ih h2 (by omega);omega
   · obtain rfl:i=j:=by omega
     exact h1
theorem Z2(l:List Int)(x:Int):ZaK l x=true↔x∈l:=by simp [ZaK]
theorem Znt(l:List Int)(x:Int):ZaK l x=false↔x ∉ l:=by
 rw [<-Z2];simp
theorem ZcQ{l:List Int}{k:Nat}(h:k<l.length):ZaK l (nth l k)=true:=by
 rw [Z2]
 simp [nth,List.getD,h]
theorem ZeJ{l:List Int}{x:Int}(h:x∈l):∃k,k<l.length/\nth l k=x:=by
 obtain⟨k,hk,e⟩:=List.mem_iff_getElem.1 h
 exact⟨k,hk,by simp [nth,List.getD,hk,e]⟩
def Zb5(ms:List Mk)(ls:List (List Int))(i:Nat)(x:Int):Bool:=
 decide (0<=Zv ms x) && decide (Zv ms x≠(i:Int)) && ZaK (cn ls (Zy ms x)) (mid ms i)
def ZbT(ms:List Mk)(ls:List (List Int))(i:Nat):Bool:=Za7 (cn ls i) && (cn ls i).all (Zb5 ms ls i)
def Zab(ms:List Mk)(ls:List (List Int)):Bool:=Zn ms && decide (ls.length=ms.length) && (List.range ls.length).all (ZbT ms ls)
theorem ZbZ(ms:List Mk)(ls:List (List Int))(i:Nat)(x:Int):Zb5 ms ls i x=true↔0<=Zv ms x/\Zv ms x≠(i:Int)/\ZaK (cn ls (Zy ms x)) (mid ms i)=true:=by
 simp [Zb5,and_assoc]
theorem Zb0(ms:List Mk)(ls:List (List Int))(i:Nat):ZbT ms ls i=true↔Za7 (cn ls i)=true/\∀k,k<(cn ls i).length->Zb5 ms ls i (nth (cn ls i) k)=true:=by
 simp only [ZbT,Bool.and_eq_true,List.all_eq_true]
 constructor
 · rintro⟨h1,h2⟩
   exact⟨h1,fun k hk=>h2 _ ((Z2 _ _).1 (ZcQ hk))⟩
 · rintro⟨h1,h2⟩
   refine⟨h1,fun x hx=>?_⟩
   obtain⟨k,hk,rfl⟩:=ZeJ hx
   exact h2 k hk
theorem ZbJ(ms:List Mk)(ls:List (List Int)):Zab ms ls=true↔Zn ms=true/\ls.length=ms.length/\∀i,i<ls.length->ZbT ms ls i=true:=by
 simp [Zab,and_assoc]
theorem ZdL{ms:List Mk}{ls:List (List Int)}{i:Nat}(hi:i<ls.length)(h:ZbT ms ls i=false):Zab ms ls=false:=by
 rcases e:Zab ms ls with _ | _
 · rfl
 · have:=((ZbJ ms ls).1 e).2.2 i hi
   rw [this] at h;cases h
theorem Zdt{ms:List Mk}{ls:List (List Int)}{i k:Nat}(hk:k<(cn ls i).length)(h:Zb5 ms ls i (nth (cn ls i) k)=false):ZbT ms ls i=false:=by
 rcases e:ZbT ms ls i with _ | _
 · rfl
 · have:=((Zb0 ms ls i).1 e).2 k hk
   rw [this] at h;cases h
theorem Ziq{ms:List Mk}{ls:List (List Int)}{i:Nat}(h:Za7 (cn ls i)=false):ZbT ms ls i=false:=by simp [ZbT,h]
theorem ZJ{ms:List Mk}{ls:List (List Int)}(h:Zab ms ls=true):Zn ms=true:=((ZbJ ms ls).1 h).1
theorem Za5{ms:List Mk}{ls:List (List Int)}(h:Zab ms ls=true):ls.length=ms.length:=((ZbJ ms ls).1 h).2.1
theorem Zd2{ms:List Mk}{ls:List (List Int)}(h:Zab ms ls=true){i:Nat}(hi:i<ms.length){x:Int}(hx:x∈cn ls i):0<=Zv ms x/\Zy ms x<ms.length/\mid ms (Zy ms x)=x/\Zy ms x≠i/\mid ms i∈cn ls (Zy ms x):=by
 obtain⟨k,hk,rfl⟩:=ZeJ hx
 have hl:=Za5 h
 have h1:=(ZbZ _ _ _ _).1 (((Zb0 _ _ _).1 (((ZbJ ms ls).1 h).2.2 i (by omega))).2 k hk)
 obtain⟨a,b,c⟩:=ZQ h1.1
 exact⟨h1.1,a,c,fun e=>h1.2.1 (by omega),(Z2 _ _).1 h1.2.2⟩
theorem Zfz{ms:List Mk}{ls:List (List Int)}(h:Zab ms ls=true){i:Nat}(hi:i<ms.length):Za7 (cn ls i)=true:=
 ((Zb0 _ _ _).1 (((ZbJ ms ls).1 h).2.2 i (by have:=Za5 h;omega))).1
theorem ZdD{l:List Int}(h:Za7 l=true):l.Pairwise (fun a b=>a<b):=by
 rw [List.pairwise_iff_getElem]
 intro i j hi' hj' hij
 have:=ZkI h hij hj'
 simpa [nth,List.getD,hi',hj'] using this
theorem ZkJ{n:Nat}(l:List Int)(f:Int->Nat)(hd:l.Nodup)(hf:∀x∈l,f x<n)(hi:∀x∈l,∀y∈l,f x=f y->x=y):l.length<=n:=by
 have hnd:(l.map f).Nodup:=by
  rw [List.Nodup,List.pairwise_map]
  exact List.Pairwise.imp_of_mem (fun {a b} ha hb hab e=>hab (hi a ha b hb e)) hd
 have h2:=hnd.length_le_of_subset (l₂ :=List.range n) (fun y hy=>by
  obtain⟨x,hx,rfl⟩:=List.mem_map.1 hy
  exact List.mem_range.2 (hf x hx))
 simpa using h2
theorem Zeh{ms:List Mk}{l:List Int}(hd:l.Nodup)(hf:∀x∈l,0<=Zv ms x):l.length<=ms.length:=
 ZkJ l (Zy ms) hd (fun x hx=>(ZQ (hf x hx)).1) (fun x hx y hy e=>by
  have a:=(ZQ (hf x hx)).2.2
  have b:=(ZQ (hf y hy)).2.2
  rw [e] at a;omega)
theorem ZcN{ms:List Mk}{ls:List (List Int)}(h:Zab ms ls=true){i:Nat}(hi:i<ms.length):(cn ls i).length<=ms.length:=
 Zeh (List.Pairwise.imp (fun {a b} hab e=>by omega) (ZdD (Zfz h hi))) (fun x hx=>(Zd2 h hi hx).1)
def hitOf(ms:List Mk)(q:List Int)(x:Int):Ht:=(x,ZaY (mat ms (Zy ms x)) q)
theorem ZaR{ms:List Mk}{ls:List (List Int)}(h:Zab ms ls=true):ms.length<=60/\(∀i,(mat ms i).length<=4)/\ls.length<=60/\∀i,(cn ls i).length<=60:=by
 have hm:=ZJ h
 have h60:=ZA hm
 have hl:=Za5 h
 refine⟨h60,fun i=>?_,by omega,fun i=>?_⟩
 · rcases Nat.lt_or_ge i ms.length with hi | hi
   · have:=((ZG ms i).1 (ZM hm hi)).2.2.1
     exact (Zat this).2
   · have:mat ms i=[]:=by simp [mat,List.getD,hi]
     rw [this];simp
 · rcases Nat.lt_or_ge i ms.length with hi | hi
   · have:=ZcN h hi;omega
   · have:cn ls i=[]:=by simp [cn,List.getD,show ls.length<=i by omega]
     rw [this];simp
def Zaw:List Int->Int->List Int
 | [],n=>[n]
 | x::l,n=>if x<n then x::Zaw l n else if x=n then x::l else n::x::l
def ZcI(ids:List Int):List Int:=ids.foldl Zaw []
theorem ZhZ(l:List Int)(n y:Int):y∈Zaw l n↔y=n\/y∈l:=by
 induction l with
 | nil=>simp [Zaw]
 | cons x l ih=>
   simp only [Zaw]
   by_cases h1:x<n
   · rw [if_pos h1,List.mem_cons,ih,List.mem_cons]
     constructor
     · rintro (h | h | h)
       · exact Or.inr (Or.inl h)
       · exact Or.inl h
       · exact Or.inr (Or.inr h)
     · rintro (h | h | h)
       · exact Or.inr (Or.inl h)
       · exact Or.inl h
       · exact Or.inr (Or.inr h)
   · rw [if_neg h1]
     by_cases h2:x=n
     · rw [if_pos h2,h2];simp
     · rw [if_neg h2];simp
theorem Zi5{l:List Int}(h:l.Pairwise (fun a b=>a<b))(n:Int):(Zaw l n).Pairwise (fun a b=>a<b):=by
 induction l with
 | nil=>simp [Zaw]
 | cons x l ih=>
   obtain⟨h1,h2⟩:=List.pairwise_cons.1 h
   simp only [Zaw]
   by_cases hx:x<n
   · rw [if_pos hx,List.pairwise_cons]
     refine⟨fun y hy=>?_,ih h2⟩
     rcases (ZhZ l n y).1 hy with e | e
     · rw [e];exact hx
     · exact h1 y e
   · rw [if_neg hx]
     by_cases he:x=n
     · rw [if_pos he];exact h
     · rw [if_neg he,List.pairwise_cons]
       refine⟨fun y hy=>?_,h⟩
       rcases List.mem_cons.1 hy with e | e
       · rw [e];omega
       · have:=h1 y e;omega
theorem Zer(ids acc:List Int)(h:acc.Pairwise (fun a b=>a<b)):(ids.foldl Zaw acc).Pairwise (fun a b=>a<b)/\∀y,y∈ids.foldl Zaw acc↔y∈acc\/y∈ids:=by
 induction ids generalizing acc with
 | nil=>exact⟨h,fun y=>by simp⟩
 | cons x ids ih=>
   obtain⟨h1,h2⟩:=ih (Zaw acc x) (Zi5 h x)
   refine⟨h1,fun y=>?_⟩
   rw [List.foldl_cons,h2,ZhZ,List.mem_cons]
   constructor
   · rintro ((e | e) | e)
     · exact Or.inr (Or.inl e)
     · exact Or.inl e
     · exact Or.inr (Or.inr e)
   · rintro (e | e | e)
     · exact Or.inl (Or.inr e)
     · exact Or.inl (Or.inl e)
     · exact Or.inr e
theorem ZfA(ids:List Int)(y:Int):y∈ZcI ids↔y∈ids:=by
 have:=(Zer ids [] List.Pairwise.nil).2 y
 simpa [ZcI] using this
theorem ZfB{l:List Int}(h:l.Pairwise (fun a b=>a<b)):Za7 l=true:=by
 rw [Zbe]
 intro j hj
 have h':=List.pairwise_iff_getElem.1 h j (j+1) (by omega) hj (by omega)
 have e1:nth l j=l[j]:=by simp [nth,List.getD,show j<l.length by omega]
 have e2:nth l (j+1)=l[j+1]:=by simp [nth,List.getD,hj]
 rw [e1,e2]
 exact h'
theorem ZkK(ids:List Int):Za7 (ZcI ids)=true:=ZfB (Zer ids [] List.Pairwise.nil).1
def Zcj(ms:List Mk)(ls:List (List Int))(ids:List Int)(x:Int)(i:Nat):List Int:=if ZaK ids (mid ms i)=true then cn ls i++[x] else cn ls i
def Zcx(ms:List Mk)(ls:List (List Int))(ids:List Int)(x:Int):List (List Int):=(List.range ms.length).map (Zcj ms ls ids x)++[ZcI ids]
theorem ZcM(ms:List Mk)(ls:List (List Int))(ids:List Int)(x:Int):(Zcx ms ls ids x).length=ms.length+1:=by simp [Zcx]
theorem ZeK{ms:List Mk}{ls:List (List Int)}{ids:List Int}{x:Int}{i:Nat}(h:i<ms.length):cn (Zcx ms ls ids x) i=Zcj ms ls ids x i:=by
 simp [cn,Zcx,List.getD,h,List.getElem?_append_left]
theorem Zes(ms:List Mk)(ls:List (List Int))(ids:List Int)(x:Int):cn (Zcx ms ls ids x) ms.length=ZcI ids:=by
 simp [cn,Zcx,List.getD]
theorem ZfC{ms:List Mk}{ls:List (List Int)}{ids:List Int}{x y:Int}{i:Nat}:y∈Zcj ms ls ids x i↔y∈cn ls i\/(y=x/\ZaK ids (mid ms i)=true):=by
 unfold Zcj
 by_cases h:ZaK ids (mid ms i)=true
 · rw [if_pos h];simp [h]
 · rw [if_neg h];simp [h]
theorem Zc0{ms:List Mk}{m:Mk}{i:Nat}(h:i<ms.length):mid (ms++[m]) i=mid ms i:=by simp [mid,List.getD,h,List.getElem?_append_left]
theorem Zhd{ms:List Mk}{m:Mk}{i:Nat}(h:i<ms.length):mat (ms++[m]) i=mat ms i:=by simp [mat,List.getD,h,List.getElem?_append_left]
theorem Zc1(ms:List Mk)(m:Mk):mid (ms++[m]) ms.length=m.1:=by simp [mid,List.getD]
theorem Zhe(ms:List Mk)(m:Mk):mat (ms++[m]) ms.length=m.2:=by simp [mat,List.getD]
theorem Zdq{ms:List Mk}{ls:List (List Int)}{ids:List Int}{m:Mk}(hw:Zab ms ls=true)(hm:Zn (ms++[m])=true)(hids:∀x∈ids,0<=Zv ms x):Zab (ms++[m]) (Zcx ms ls ids m.1)=true:=by
 have hmw:=ZJ hw
 have hlen:=Za5 hw
 have hz:∀{j},j<ms.length->Zv (ms++[m]) (mid ms j)=(j:Int)/\Zy (ms++[m]) (mid ms j)=j:=fun {j} hj=>by
  have:=Zam hm (i:=j) (by simp;omega)
  rwa [Zc0 hj] at this
 have hzl:Zv (ms++[m]) m.1=(ms.length:Int)/\Zy (ms++[m]) m.1=ms.length:=by
  have:=Zam hm (i:=ms.length) (by simp)
  rwa [Zc1] at this
 have hidx:∀x∈ids,∃j,j<ms.length/\mid ms j=x:=fun x hx=>⟨Zy ms x,(ZQ (hids x hx)).1,(ZQ (hids x hx)).2.2⟩
 refine (ZbJ _ _).2 ⟨hm,by rw [ZcM];simp,fun i hi=>?_⟩
 rw [ZcM] at hi
 refine (Zb0 _ _ _).2 ?_
 rcases Nat.lt_or_ge i ms.length with h | h
 · rw [ZeK h]
   constructor
   · refine ZfB ?_
     have hp:=ZdD (Zfz hw h)
     unfold Zcj
     by_cases hb:ZaK ids (mid ms i)=true
     · rw [if_pos hb,List.pairwise_append]
       refine⟨hp,by simp,fun a ha b hb'=>?_⟩
       simp at hb'
       have hl:=Zd2 hw h ha
       have:=Zbd hm (i:=Zy ms a) (j:=ms.length) hl.2.1 (by simp)
       rw [Zc0 hl.2.1,Zc1,hl.2.2.1] at this
       rw [hb']
       exact this
     · rw [if_neg hb];exact hp
   · intro k hk
     have hx:nth (Zcj ms ls ids m.1 i) k∈Zcj ms ls ids m.1 i:=(Z2 _ _).1 (ZcQ hk)
     generalize nth (Zcj ms ls ids m.1 i) k=x at hx
     rw [ZbZ,Zc0 h]
     rcases ZfC.1 hx with hx | ⟨rfl,hxb⟩
     · have hl:=Zd2 hw h hx
       have h2:=hz hl.2.1
       rw [hl.2.2.1] at h2
       refine⟨by omega,by have:=hl.2.2.2.1;omega,?_⟩
       rw [h2.2,ZeK hl.2.1,Z2]
       exact ZfC.2 (Or.inl hl.2.2.2.2)
     · refine⟨by omega,by omega,?_⟩
       rw [hzl.2,Zes,Z2,ZfA]
       exact (Z2 _ _).1 hxb
 · obtain rfl:i=ms.length:=by omega
   rw [Zes]
   refine⟨ZkK ids,fun k hk=>?_⟩
   have hx:nth (ZcI ids) k∈ids:=(ZfA _ _).1 ((Z2 _ _).1 (ZcQ hk))
   generalize nth (ZcI ids) k=x at hx
   obtain⟨j,hj,rfl⟩:=hidx x hx
   rw [ZbZ,Zc1,(hz hj).1,(hz hj).2,ZeK hj,Z2]
   exact⟨by omega,by omega,ZfC.2 (Or.inr ⟨rfl,(Z2 _ _).2 hx⟩)⟩
def ZbS(ms:List Mk)(p:List Int)(most:Int):List Int:=(Z1 ms p most).map (fun h=>h.1)
def ZfY(most:Int):Bool:=decide (1<=most) && decide (most<=8)
def ZaL(ms:List Mk)(ls:List (List Int))(m:Mk)(most:Int):Bool:=Zab ms ls && ZfY most && Zn (ms++[m])
theorem Zb4{ms:List Mk}(hm:Zn ms=true){p:List Int}{most:Int}:∀x∈ZbS ms p most,0<=Zv ms x:=by
 intro x hx
 obtain⟨h,hh,rfl⟩:=List.mem_map.1 hx
 unfold Z1 at hh
 split at hh
 · have h1:=(Zao _).mem_iff.1 (List.mem_of_mem_take hh)
   obtain⟨mk,hmk,rfl⟩:=List.mem_map.1 h1
   obtain⟨i,hi,e⟩:=List.mem_iff_getElem.1 hmk
   have e2:mid ms i=mk.1:=by simp [mid,List.getD,hi,e]
   show 0<=Zv ms mk.1
   rw [<-e2,(Zam hm hi).1]
   omega
 · simp at hh
theorem Zmj(l:List Int)(n:Int):(Zaw l n).length<=l.length+1:=by
 induction l with
 | nil=>simp [Zaw]
 | cons x l ih=>
   simp only [Zaw]
   split
   · simp;omega
   · split <;> simp
theorem Ze1(ids acc:List Int):(ids.foldl Zaw acc).length<=acc.length+ids.length:=by
 induction ids generalizing acc with
 | nil=>simp
 | cons x ids ih=>
   have h1:=ih (Zaw acc x)
   have h2:=Zmj acc x
   simp only [List.foldl_cons,List.length_cons]
   omega
def Ze0(ms:List Mk)(ls:List (List Int))(ids:List Int)(y:Int):List (List Int):=(List.range ms.length).map (Zcj ms ls ids y)
theorem Zd3(ms:List Mk)(ls:List (List Int))(ids:List Int)(y:Int):(Ze0 ms ls ids y).length=ms.length:=by simp [Ze0]
theorem ZeH{ms:List Mk}{ls:List (List Int)}{ids:List Int}{y:Int}{j:Nat}(h:j<ms.length):(Ze0 ms ls ids y)[j]? =some (Zcj ms ls ids y j):=by simp [Ze0,h]
theorem Zlc{ms:List Mk}{ls:List (List Int)}(hl:ls.length=ms.length)(y:Int):Ze0 ms ls [] y=ls:=by
 apply List.ext_getElem?
 intro k
 rcases Nat.lt_or_ge k ms.length with h | h
 · rw [ZeH h]
   have h':k<ls.length:=by omega
   simp [Zcj,ZaK,cn,List.getD,h']
 · rw [List.getElem?_eq_none (by rw [Zd3];exact h),List.getElem?_eq_none (by omega)]
theorem Zd4{ids:List Int}{i:Nat}(h:i<ids.length)(z:Int):z∈ids.take (i+1)↔z∈ids.take i\/z=nth ids i:=by
 rw [List.take_add_one,List.mem_append]
 have e:ids[i]?.toList=[nth ids i]:=by simp [nth,List.getD,h]
 rw [e];simp
theorem ZfD{ids:List Int}(hd:ids.Nodup){i:Nat}(h:i<ids.length):nth ids i ∉ ids.take i:=by
 intro hm
 obtain⟨k,hk,e⟩:=List.mem_iff_getElem.1 hm
 rw [List.length_take] at hk
 rw [List.getElem_take] at e
 have e2:nth ids i=ids[i]:=by simp [nth,List.getD,h]
 rw [e2] at e
 have:=List.pairwise_iff_getElem.1 hd k i (by omega) h (by omega)
 exact this e
theorem ZfX{ms:List Mk}{ls:List (List Int)}(hm:Zn ms=true){ids:List Int}(hd:ids.Nodup){i j:Nat}(hi:i<ids.length)(hj:j<ms.length)(hx:nth ids i=mid ms j)(y:Int):
 Zcj ms ls (ids.take i) y j=cn ls j/\(Ze0 ms ls (ids.take i) y).set j (cn ls j++[y])=Ze0 ms ls (ids.take (i+1)) y:=by
 have hno:ZaK (ids.take i) (mid ms j)=false:=by rw [Znt,<-hx];exact ZfD hd hi
 refine⟨by simp [Zcj,hno],?_⟩
 apply List.ext_getElem?
 intro k
 rcases Nat.lt_or_ge k ms.length with h | h
 · rw [ZeH h]
   by_cases hk:j=k
   · subst hk
     rw [List.getElem?_set_self (by rw [Zd3];exact h)]
     have:ZaK (ids.take (i+1)) (mid ms j)=true:=by rw [Z2,Zd4 hi];exact Or.inr hx.symm
     simp [Zcj,this]
   · rw [List.getElem?_set_ne hk,ZeH h]
     have:ZaK (ids.take (i+1)) (mid ms k)=ZaK (ids.take i) (mid ms k):=by
      rw [Bool.eq_iff_iff,Z2,Z2,Zd4 hi,hx]
      constructor
      · rintro (e | e)
        · exact e
        · exact absurd (Ze8 hm h hj e).symm hk
      · exact Or.inl
     simp [Zcj,this]
 · rw [List.getElem?_eq_none (by rw [List.length_set,Zd3];exact h),List.getElem?_eq_none (by rw [Zd3];exact h)]
theorem Zld(ms:List Mk)(ls:List (List Int))(ids:List Int)(y:Int):Ze0 ms ls ids y++[ZcI ids]=Zcx ms ls ids y:=rfl
theorem Zex{ms:List Mk}(hm:Zn ms=true)(p:List Int)(most:Int):(ZbS ms p most).Nodup:=by
 unfold ZbS Z1
 split
 · have h1:((Z0 ms p).map (fun h=>h.1)).Nodup:=by
    rw [Z0,List.map_map,List.Nodup,List.pairwise_map,List.pairwise_iff_getElem]
    intro i j hi hj hij e
    have:=Zbd hm hij hj
    have e1:mid ms i=ms[i].1:=by simp [mid,List.getD,hi]
    have e2:mid ms j=ms[j].1:=by simp [mid,List.getD,hj]
    have e':ms[i].1=ms[j].1:=e
    omega
   have h2:((ZU (Z0 ms p)).map (fun h=>h.1)).Nodup:=(((Zao (Z0 ms p)).map (fun h=>h.1)).nodup_iff).2 h1
   rw [List.map_take]
   exact List.Nodup.sublist (List.take_sublist _ _) h2
 · simp
theorem ZeZ(ms:List Mk)(q:List Int)(k:Int):(Z1 ms q k).length<=60:=by
 unfold Z1
 split
 · rename_i h
   rw [List.length_take]
   have:Zaz k=true:=h.2
   simp [Zaz] at this
   omega
 · simp
theorem ZfP{l m:List Ht}(hp:l.Perm m)(h:l.Pairwise (fun a b=>a.1≠b.1)):m.Pairwise (fun a b=>a.1≠b.1):=
 (hp.pairwise_iff (fun h e=>h e.symm)).1 h
theorem Zfm{ms:List Mk}(hm:Zn ms=true)(q:List Int):(Z0 ms q).Pairwise (fun a b=>a.1≠b.1):=by
 rw [List.pairwise_iff_getElem]
 intro i j hi hj hij
 simp only [Z0,List.length_map] at hi hj
 have hr:mid ms i<mid ms j:=by
  clear hi
  induction j with
  | zero=>omega
  | succ j ih=>
    have h1:=((ZG ms (j+1)).1 (ZM hm hj)).2.2.2.2
    simp at h1
    rcases Nat.lt_or_ge i j with h2 | h2
    · have:=ih (by omega) h2;omega
    · rw [show i=j by omega];exact h1
 simp only [Z0,List.getElem_map,Zkb]
 simp only [mid,List.getD,List.getElem?_eq_getElem hi,List.getElem?_eq_getElem hj,Option.getD_some] at hr
 omega
theorem Zmk{ms:List Mk}{q:List Int}(ht:Zap ms q=true){i:Nat}(hi:i<ms.length):Zbu (mat ms i) q=true:=by
 simp [Zap] at ht
 obtain⟨⟨hm,hq⟩,hl⟩:=ht
 have h1:=(ZG ms i).1 (ZM hm hi)
 have h0:(mat ms 0).length=q.length:=by
  rcases hl with h | h
  · subst h;simp at hi
  · exact h
 exact Zc3 h1.2.2.1 hq (by omega)
theorem Zfn{ms:List Mk}{q:List Int}(ht:Zap ms q=true):Zn ms=true:=by
 simp [Zap] at ht;exact ht.1.1
theorem Zh0{a b:List Int}(h:Zbu a b=true):0<=ZaY a b:=by
 have hb:=(Zc4 h)
 have:=ZbI (sqF a b) 0 4000000 (ZeX hb.1 hb.2.1) a.length
 simp [ZaY,h];omega
theorem ZlO{ms:List Mk}{q:List Int}(ht:Zap ms q=true){x:Ht}(hx:x∈Z0 ms q):1<=x.1/\0<=x.2/\∃i,i<ms.length/\x=(mid ms i,ZaY (mat ms i) q):=by
 obtain⟨m,hm,rfl⟩:=List.mem_map.1 hx
 obtain⟨i,hi,rfl⟩:=List.getElem_of_mem hm
 have e1:mid ms i=ms[i].1:=by simp [mid,List.getD,hi]
 have e2:mat ms i=ms[i].2:=by simp [mat,List.getD,hi]
 have h1:=(ZG ms i).1 (ZM (Zfn ht) hi)
 refine⟨by unfold Zkb;omega,?_,i,hi,by unfold Zkb;rw [e1,e2]⟩
 have:=Zh0 (Zmk ht hi)
 rw [e2] at this
 exact this
def ZbM(l:List Ht)(i j:Nat):List Ht:=(l.set i (Zr l j)).set j (Zr l i)
theorem Zbo(l:List Ht)(i j:Nat):(ZbM l i j).length=l.length:=by simp [ZbM]
theorem Zh1(l:List Ht)(i k:Nat)(x:Ht)(hk:k<l.length):Zr (l.set i x) k=if k=i then x else Zr l k:=by
 unfold Zr
 by_cases h:k=i
 · subst h;simp [List.getD,hk]
 · simp [List.getD,h,Ne.symm h]
theorem ZdQ(l:List Ht)(i j k:Nat)(_hi:i<l.length)(_hj:j<l.length)(hk:k<l.length):Zr (ZbM l i j) k=if k=j then Zr l i else if k=i then Zr l j else Zr l k:=by
 unfold ZbM
 rw [Zh1 _ _ _ _ (by simp;exact hk)]
 split
 · rfl
 · rw [Zh1 _ _ _ _ hk]
theorem Zfh(l:List Ht)(i j:Nat)(hi:i<l.length)(hj:j<l.length):(ZbM l i j).Perm l:=by
 have e1:Zr l j=l[j]:=by simp [Zr,List.getD,hj]
 have e2:Zr l i=l[i]:=by simp [Zr,List.getD,hi]
 unfold ZbM
 rw [e1,e2]
 exact List.set_set_perm hi hj
def par(c:Nat):Nat:=(c-1) / 2
def ZbN(l:List Ht)(n:Nat):Prop:=∀c,0<c->c<n->leH (Zr l (par c)) (Zr l c)
def ZoA(l:List Ht)(n i:Nat):Prop:=(∀c,0<c->c<n->par c≠i->leH (Zr l (par c)) (Zr l c))/\∀c,0<c->c<n->par c=i->0<i->leH (Zr l (par i)) (Zr l c)
theorem ZiA{l:List Ht}{n:Nat}(h:ZbN l n)(c:Nat)(hc:c<n):leH (Zr l 0) (Zr l c):=by
 induction c using Nat.strongRecOn with
 | _ c ih=>
   rcases Nat.eq_zero_or_pos c with h0 | h0
   · subst h0;exact Zcp _
   · have hp:par c<c:=by unfold par;omega
     exact Zcq (ih (par c) hp (by omega)) (h c h0 hc)
theorem Zi6{l:List Ht}{n:Nat}(h:ZbN l (n+1))(hn:n<l.length):ZoA (ZbM l 0 n) n 0:=by
 have at':∀k,k<n->Zr (ZbM l 0 n) k=if k=n then Zr l 0 else if k=0 then Zr l n else Zr l k:=fun k hk=>ZdQ l 0 n k (by omega) (by omega) (by omega)
 refine⟨fun c h0 hc hne=>?_,fun c h0 hc hp h1=>by omega⟩
 have hpc:par c<c:=by unfold par;omega
 rw [at' c hc,at' (par c) (by omega),if_neg (show ¬c=n by omega),if_neg (show ¬c=0 by omega),if_neg (show ¬par c=n by omega),if_neg hne]
 exact h c h0 (by omega)
def Zf3(s:Nat)(l:List Ht)(n:Nat):Prop:=∀c,0<c->c<n->s<=par c->leH (Zr l (par c)) (Zr l c)
def Zfi(s:Nat)(l:List Ht)(n i:Nat):Prop:=(∀c,0<c->c<n->s<=par c->par c≠i->leH (Zr l (par c)) (Zr l c))/\∀c,0<c->c<n->par c=i->0<i->s<=par i->leH (Zr l (par i)) (Zr l c)
theorem Zfk{l:List Ht}{n:Nat}(h:Zf3 0 l n):ZbN l n:=fun c h0 hc=>h c h0 hc (Nat.zero_le _)
theorem Ziw(l:List Ht)(n:Nat):Zf3 (n / 2) l n:=fun c h0 hc hp=>by exfalso;unfold par at hp;omega
theorem Zix{l:List Ht}{n i:Nat}(h:Zf3 (i+1) l n):Zfi i l n i:=
 ⟨fun c h0 hc hp hne=>h c h0 hc (by omega),fun c h0 hc hp hi hs=>by exfalso;unfold par at hs;omega⟩
theorem Zj8{l:List Ht}{n:Nat}(h:ZbN l (n+1))(hn:n<l.length):Zfi 0 (ZbM l 0 n) n 0:=by
 obtain⟨h1,h2⟩:=Zi6 h hn
 exact⟨fun c h0 hc _ hne=>h1 c h0 hc hne,fun c h0 hc hp hi _=>h2 c h0 hc hp hi⟩
theorem Zcz{s:Nat}{l:List Ht}{n i:Nat}(h:Zfi s l n i)(hc:∀c,0<c->c<n->par c=i->leH (Zr l i) (Zr l c)):Zf3 s l n:=fun c h0 h1 h2=>by
 by_cases e:par c=i
 · rw [e];exact hc c h0 h1 e
 · exact h.1 c h0 h1 h2 e
theorem Zdx{s:Nat}{l:List Ht}{n i j:Nat}(h:Zfi s l n i)(hs:s<=i)(hn:n<=l.length)(hj:j<n)(hj0:0<j)(hp:par j=i)(hmin:∀c,0<c->c<n->par c=i->leH (Zr l j) (Zr l c))(ha:Zai (Zr l j) (Zr l i)=true):Zfi s (ZbM l i j) n j:=by
 have hij:i<j:=by rw [<-hp];unfold par;omega
 have hle:=ZcA ha
 have at':∀k,k<n->Zr (ZbM l i j) k=if k=j then Zr l i else if k=i then Zr l j else Zr l k:=fun k hk=>ZdQ l i j k (by omega) (by omega) (by omega)
 refine⟨fun c hc0 hc hsc hne=>?_,fun c hc0 hc hpc hp0 hsp=>?_⟩
 · have hpc:par c<c:=by unfold par;omega
   rw [at' c hc,at' (par c) (by omega),if_neg hne]
   by_cases e1:c=j
   · rw [if_pos e1,if_pos (by rw [e1];exact hp)];exact hle
   · rw [if_neg e1]
     by_cases e2:c=i
     · rw [if_pos e2]
       have e3:par c≠i:=by omega
       rw [if_neg e3]
       have:=h.2 j hj0 hj hp (by omega) (by rw [<-e2];exact hsc)
       rw [<-e2] at this
       exact this
     · rw [if_neg e2]
       by_cases e3:par c=i
       · rw [if_pos e3];exact hmin c hc0 hc e3
       · rw [if_neg e3];exact h.1 c hc0 hc hsc e3
 · have hpc2:par c<c:=by unfold par;omega
   rw [hp,at' c hc,at' i (by omega),if_neg (show ¬c=j by omega),if_neg (show ¬c=i by omega),if_neg (show ¬i=j by omega),if_pos rfl]
   have:=h.1 c hc0 hc (by omega) (by omega)
   rw [hpc] at this
   exact this
theorem kids(c i:Nat)(h0:0<c)(hp:par c=i):c=2*i+1\/c=2*i+2:=by unfold par at hp;omega
end Go.Proofs.YtaaagmgglolibaaGreat
namespace Go.Proofs.YtaaagmgglolibaaGreat
open Go
end Go.Proofs.YtaaagmgglolibaaGreat
