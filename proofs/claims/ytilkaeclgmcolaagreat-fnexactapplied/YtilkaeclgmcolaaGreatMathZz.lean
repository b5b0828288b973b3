namespace Go.Proofs.YtilkaeclgmcolaaGreat
def nth(xs:List Int)(i:Nat):Int:=xs.getD i 0
def inB(x:Int):Bool:=decide (-1000<=x) && decide (x<=1000)
def okB(xs:List Int):Bool:=decide (1<=xs.length) && decide (xs.length<=4) && xs.all inB
def Zb0(a b:List Int):Bool:=okB a && okB b && decide (a.length=b.length)
def ZH(f:Nat->Int):Nat->Int
 | 0=>0
 | k+1=>ZH f k+f k
def ZaC(f:Nat->Int):Nat->Int
 | 0=>0
 | k+1=>max (ZaC f k) (f k)
def sqF(a b:List Int)(i:Nat):Int:=(nth a i-nth b i)*(nth a i-nth b i)
def Zbh(a b:List Int)(i:Nat):Int:=max (nth a i-nth b i) (nth b i-nth a i)
def Zbj(a b:List Int):Int:=if Zb0 a b=true then ZH (sqF a b) a.length else -1
def Zas(a b:List Int):Int:=if Zb0 a b=true then ZH (Zbh a b) a.length else -1
def ZaH(a b:List Int):Int:=if Zb0 a b=true then ZaC (Zbh a b) a.length else -1
def ZaE(f:Nat->Int)(n:Nat):List Int:=(List.range n).map f
theorem Zkq(x:Int):inB x=true↔ -1000<=x/\x<=1000:=by simp [inB]
theorem ZaP{xs:List Int}(h:okB xs=true):1<=xs.length/\xs.length<=4:=by
 simp [okB] at h;omega
theorem ZcI{xs:List Int}(h:okB xs=true)(i:Nat):-1000<=nth xs i/\nth xs i<=1000:=by
 simp only [okB,Bool.and_eq_true,List.all_eq_true] at h
 by_cases hi:i<xs.length
 · have:=h.2 xs[i] (List.getElem_mem hi)
   rw [Zkq] at this
   simpa [nth,List.getD,hi] using this
 · simp [nth,List.getD,hi]
theorem ZoY{xs:List Int}(h1:1<=xs.length)(h4:xs.length<=4)(h:∀i,i<xs.length-> -1000<=nth xs i/\nth xs i<=1000):okB xs=true:=by
 simp only [okB,Bool.and_eq_true,List.all_eq_true,decide_eq_true_eq]
 refine⟨⟨h1,h4⟩,fun x b=>?_⟩
 obtain⟨i,a,rfl⟩:=List.getElem_of_mem b
 rw [Zkq]
 have:=h i a
 simpa [nth,List.getD,a] using this
theorem ZkC{xs:List Int}(h:xs.length<1):okB xs=false:=by simp [okB];omega
theorem ZlS{xs:List Int}(h:4<xs.length):okB xs=false:=by simp [okB];omega
theorem Zj3{xs:List Int}(i:Nat)(h:nth xs i< -1000\/1000<nth xs i):okB xs=false:=by
 rcases hb:okB xs with _ | _
 · rfl
 · have:=ZcI hb i;omega
theorem Zd0{a b:List Int}(h:Zb0 a b=true):okB a=true/\okB b=true/\a.length=b.length:=by
 simp [Zb0] at h;exact⟨h.1.1,h.1.2,h.2⟩
theorem Zce(f:Nat->Int)(lo hi:Int)(h:∀i,lo<=f i/\f i<=hi)(k:Nat):lo*k<=ZH f k/\ZH f k<=hi*k:=by
 induction k with
 | zero=>simp [ZH]
 | succ k ih=>
   have:=h k
   simp only [ZH]
   rw [show ((k+1:Nat):Int)=(k:Int)+1 by omega,Int.mul_add,Int.mul_add]
   omega
theorem ZfY(f:Nat->Int)(hi:Int)(h0:0<=hi)(h:∀i,f i<=hi)(k:Nat):0<=ZaC f k/\ZaC f k<=hi:=by
 induction k with
 | zero=>simp [ZaC];exact h0
 | succ k ih=>have:=h k;simp only [ZaC];omega
theorem Zdq(x:Int):0<=x*x:=by
 rcases Int.le_total 0 x with h | h
 · exact Int.mul_nonneg h h
 · have:=Int.mul_nonneg (a:=-x) (b:=-x) (by omega) (by omega)
   rwa [Int.neg_mul_neg] at this
theorem ZlW{x y m:Int}(_hm:0<=m)(hx:-m<=x/\x<=m)(hy:-m<=y/\y<=m):-(m*m)<=x*y/\x*y<=m*m:=by
 have e:=Int.mul_nonneg (a:=m-x) (b:=m+y) (by omega) (by omega)
 have f:=Int.mul_nonneg (a:=m+x) (b:=m-y) (by omega) (by omega)
 have d:=Int.mul_nonneg (a:=m-x) (b:=m-y) (by omega) (by omega)
 have c:=Int.mul_nonneg (a:=m+x) (b:=m+y) (by omega) (by omega)
 simp only [Int.mul_add,Int.add_mul,Int.mul_sub,Int.sub_mul] at e f d c
 rw [Int.mul_comm m y] at *
 generalize x*y=p at *
 generalize x*m=q at *
 generalize y*m=r at *
 generalize m*m=s at *
 omega
theorem ZgZ{a b:List Int}(ha:okB a=true)(hb:okB b=true)(i:Nat):0<=sqF a b i/\sqF a b i<=4000000:=by
 have c:=ZcI ha i;have d:=ZcI hb i
 refine⟨Zdq _,?_⟩
 have:=(ZlW (x:=nth a i-nth b i) (y:=nth a i-nth b i) (m:=2000) (by omega) (by omega) (by omega)).2
 simpa [sqF] using this
theorem ZcS{a b:List Int}(ha:okB a=true)(hb:okB b=true)(i:Nat):0<=Zbh a b i/\Zbh a b i<=2000:=by
 have c:=ZcI ha i;have d:=ZcI hb i
 unfold Zbh;omega
theorem ZE(f:Nat->Int)(n:Nat):(ZaE f n).length=n:=by simp [ZaE]
theorem Zeg(f:Nat->Int)(n i:Nat)(h:i<n):nth (ZaE f n) i=f i:=by simp [nth,ZaE,List.getD,h]
theorem Zgj(f:Nat->Int)(n:Nat):ZaE f (n+1)=ZaE f n++[f n]:=by simp [ZaE,List.range_succ]
theorem Zc1(f g:Nat->Int)(n:Nat)(h:∀i,i<n->f i=g i):ZH f n=ZH g n:=by
 induction n with
 | zero=>rfl
 | succ n ih=>simp only [ZH];rw [ih (fun i a=>h i (by omega)),h n (by omega)]
theorem Zei{a b:List Int}(ha:okB a=true)(hb:okB b=true)(hl:a.length=b.length):Zb0 a b=true:=by simp [Zb0,ha,hb,hl]
theorem Zgl{a b:List Int}(ha:okB a=false):Zb0 a b=false:=by simp [Zb0,ha]
theorem Zfq{a b:List Int}(hb:okB b=false):Zb0 a b=false:=by simp [Zb0,hb]
theorem ZhF{a b:List Int}(hl:¬a.length=b.length):Zb0 a b=false:=by simp [Zb0,hl]
set_option linter.unusedSimpArgs false
theorem ZfZ{xs ys:List Int}(hl:xs.length=ys.length)(h:∀j,j<xs.length->nth xs j=nth ys j):xs=ys:=by
 apply List.ext_getElem hl
 intro i a b
 have:=h i a
 simpa [nth,List.getD,a,b] using this
theorem Zov(a b:List Int)(i:Nat):sqF a b i=Zbh a b i*Zbh a b i:=by
 unfold sqF Zbh
 rcases Int.le_total (nth a i-nth b i) (nth b i-nth a i) with h | h
 · rw [Int.max_eq_right h,show nth b i-nth a i= -(nth a i-nth b i) by omega,Int.neg_mul_neg]
 · rw [Int.max_eq_left h]
theorem Zlm(f g h:Nat->Int)(H:∀i,f i<=g i+h i)(n:Nat):ZH f n<=ZH g n+ZH h n:=by
 induction n with
 | zero=>simp [ZH]
 | succ n ih=>have:=H n;simp only [ZH];omega
theorem Zln(f g h:Nat->Int)(H:∀i,f i<=g i+h i)(n:Nat):ZaC f n<=ZaC g n+ZaC h n:=by
 induction n with
 | zero=>simp [ZaC]
 | succ n ih=>have:=H n;simp only [ZaC];omega
theorem ZgK(a b c:List Int)(i:Nat):Zbh a b i<=Zbh a c i+Zbh c b i:=by unfold Zbh;omega
theorem ZjC(g:Nat->Int)(h:∀i,0<=g i)(n:Nat):ZaC g n<=ZH g n:=by
 have a:∀n,0<=ZH g n:=fun n=>by
  induction n with
  | zero=>simp [ZH]
  | succ n ih=>have:=h n;simp only [ZH];omega
 induction n with
 | zero=>simp [ZaC,ZH]
 | succ n ih=>have:=h n;have:=a n;simp only [ZaC,ZH];omega
theorem ZjD(g:Nat->Int)(n:Nat):ZH g n<=n*ZaC g n:=by
 induction n with
 | zero=>simp [ZH]
 | succ n ih=>
   simp only [ZH,ZaC]
   have a:(n:Int)*ZaC g n<=n*max (ZaC g n) (g n):=Int.mul_le_mul_of_nonneg_left (by omega) (by omega)
   rw [show ((n+1:Nat):Int)=(n:Int)+1 by omega,Int.add_mul]
   omega
theorem Zhl(g:Nat->Int)(n:Nat):0<=ZH (fun i=>g i*g i) n:=by
 induction n with
 | zero=>simp [ZH]
 | succ n ih=>have:=Zdq (g n);simp only [ZH];omega
theorem ZpC(g:Nat->Int)(n:Nat):ZaC g n*ZaC g n<=ZH (fun i=>g i*g i) n:=by
 induction n with
 | zero=>simp [ZaC,ZH]
 | succ n ih=>
   simp only [ZaC,ZH]
   have a:=Zdq (g n)
   have b:=Zhl g n
   rcases Int.le_total (ZaC g n) (g n) with h | h
   · rw [Int.max_eq_right h];omega
   · rw [Int.max_eq_left h];omega
theorem Ziz(g:Nat->Int)(h:∀i,0<=g i)(n:Nat):0<=ZH g n/\ZH (fun i=>g i*g i) n<=ZH g n*ZH g n:=by
 induction n with
 | zero=>simp [ZH]
 | succ n ih=>
   have a:=h n
   have b:=Int.mul_nonneg ih.1 a
   simp only [ZH]
   refine⟨by omega,?_⟩
   rw [Int.mul_add,Int.add_mul,Int.add_mul,Int.mul_comm (g n) (ZH g n)]
   omega
theorem Zlo(g:Nat->Int)(n:Nat):ZH g n*ZH g n<=n*ZH (fun i=>g i*g i) n:=by
 induction n with
 | zero=>simp [ZH]
 | succ n ih=>
   simp only [ZH]
   generalize hs:ZH g n=s at *
   generalize hq:ZH (fun i=>g i*g i) n=q at *
   generalize hx:g n=x at *
   rcases Nat.eq_zero_or_pos n with h0 | h0
   · subst h0
     have b:s=0:=by rw [<-hs];rfl
     have a:q=0:=by rw [<-hq];rfl
     rw [b,a];simp
   · have c:(0:Int)<(n:Int):=by omega
     rw [show ((n+1:Nat):Int)=(n:Int)+1 by omega]
     generalize (n:Int)=k at *
     have d:0<=k*(q+k*(x*x)-2*(s*x)):=by
      have:=Zdq (s-k*x)
      have e:(s-k*x)*(s-k*x)=s*s+k*(k*(x*x)-2*(s*x)):=by (try simp only [Int.two_mul]);simp only [Int.mul_add,Int.add_mul,Int.mul_sub,Int.sub_mul,Int.one_mul,Int.mul_one,Int.mul_comm,Int.mul_left_comm,Int.mul_assoc];omega
      have a:k*(q+k*(x*x)-2*(s*x))=k*q+k*(k*(x*x)-2*(s*x)):=by (try simp only [Int.two_mul]);simp only [Int.mul_add,Int.add_mul,Int.mul_sub,Int.sub_mul,Int.one_mul,Int.mul_one,Int.mul_comm,Int.mul_left_comm,Int.mul_assoc];omega
      omega
     have j:0<=q+k*(x*x)-2*(s*x):=by
      rcases Int.lt_or_le (q+k*(x*x)-2*(s*x)) 0 with h | h
      · have:=Int.mul_lt_mul_of_pos_left h c
        omega
      · exact h
     have l:(s+x)*(s+x)=s*s+2*(s*x)+x*x:=by (try simp only [Int.two_mul]);simp only [Int.mul_add,Int.add_mul,Int.mul_sub,Int.sub_mul,Int.one_mul,Int.mul_one,Int.mul_comm,Int.mul_left_comm,Int.mul_assoc];omega
     have f:(k+1)*(q+x*x)=k*q+q+k*(x*x)+x*x:=by (try simp only [Int.two_mul]);simp only [Int.mul_add,Int.add_mul,Int.mul_sub,Int.sub_mul,Int.one_mul,Int.mul_one,Int.mul_comm,Int.mul_left_comm,Int.mul_assoc];omega
     omega
theorem Znd(g:Nat->Int)(h:∀i,0<=g i)(n:Nat)(hz:ZH g n=0):∀i,i<n->g i=0:=by
 induction n with
 | zero=>intro i a;omega
 | succ n ih=>
   have b:=h n
   have c:=(Ziz g h n).1
   simp only [ZH] at hz
   intro i a
   rcases Nat.lt_or_ge i n with h3 | h3
   · exact ih (by omega) i h3
   · rw [show i=n by omega];omega
theorem third{a b c:List Int}(hab:Zb0 a b=true)(hac:Zb0 a c=true):
 0<=Zas a b/\Zas a b<=8000/\0<=ZaH a b/\ZaH a b<=2000/\0<=Zbj a b/\Zbj a b<=16000000/\
 0<=Zas a c/\Zas a c<=8000/\0<=Zas c b/\Zas c b<=8000/\0<=ZaH a c/\ZaH a c<=2000/\0<=ZaH c b/\ZaH c b<=2000/\
 (Zas a b=0↔a=b)/\Zas a b<=Zas a c+Zas c b/\ZaH a b<=ZaH a c+ZaH c b/\ZaH a b<=Zas a b/\
 Zas a b<=a.length*ZaH a b/\ZaH a b*ZaH a b<=Zbj a b/\Zbj a b<=Zas a b*Zas a b/\Zas a b*Zas a b<=a.length*Zbj a b:=by
 obtain⟨f,e,q⟩:=Zd0 hab
 obtain⟨_,l,k⟩:=Zd0 hac
 have h:Zb0 c b=true:=Zei l e (by omega)
 have C:=ZaP f
 have g:Zas a b=ZH (Zbh a b) a.length:=by unfold Zas;rw [if_pos hab]
 have m:ZaH a b=ZaC (Zbh a b) a.length:=by unfold ZaH;rw [if_pos hab]
 have n:Zbj a b=ZH (fun i=>Zbh a b i*Zbh a b i) a.length:=by unfold Zbj;rw [if_pos hab];exact Zc1 _ _ _ (fun i _=>Zov a b i)
 have o:Zas a c=ZH (Zbh a c) a.length:=by unfold Zas;rw [if_pos hac]
 have s:Zas c b=ZH (Zbh c b) a.length:=by unfold Zas;rw [if_pos h,k]
 have t:ZaH a c=ZaC (Zbh a c) a.length:=by unfold ZaH;rw [if_pos hac]
 have u:ZaH c b=ZaC (Zbh c b) a.length:=by unfold ZaH;rw [if_pos h,k]
 have A:Zbj a b=ZH (sqF a b) a.length:=by unfold Zbj;rw [if_pos hab]
 have d:=fun i=>(ZcS f e i).1
 have v:=Zce (Zbh a b) 0 2000 (ZcS f e) a.length
 have y:=ZfY (Zbh a b) 2000 (by omega) (fun i=>(ZcS f e i).2) a.length
 have z:=Zce (sqF a b) 0 4000000 (ZgZ f e) a.length
 have w:=Zce (Zbh a c) 0 2000 (ZcS f l) a.length
 have D:=Zce (Zbh c b) 0 2000 (ZcS l e) a.length
 have x:=ZfY (Zbh a c) 2000 (by omega) (fun i=>(ZcS f l i).2) a.length
 have B:=ZfY (Zbh c b) 2000 (by omega) (fun i=>(ZcS l e i).2) a.length
 refine⟨by omega,by omega,by omega,by omega,by omega,by omega,by omega,by omega,by omega,by omega,by omega,by omega,by omega,by omega,?_,?_,?_,?_,?_,?_,?_,?_⟩
 · rw [g]
   constructor
   · intro r
     refine ZfZ q (fun j p=>?_)
     have:=Znd (Zbh a b) d a.length r j p
     unfold Zbh at this;omega
   · rintro rfl
     have:ZH (Zbh a a) a.length=ZH (fun _=>0) a.length:=Zc1 _ _ _ (fun i _=>by unfold Zbh;omega)
     rw [this]
     have:=Zce (fun _=>(0:Int)) 0 0 (fun _=>⟨Int.le_refl _,Int.le_refl _⟩) a.length
     omega
 · rw [g,o,s];exact Zlm _ _ _ (ZgK a b c) _
 · rw [m,t,u];exact Zln _ _ _ (ZgK a b c) _
 · rw [g,m];exact ZjC _ d _
 · rw [g,m];exact ZjD _ _
 · rw [m,n];exact ZpC _ _
 · rw [g,n];exact (Ziz _ d _).2
 · rw [g,n];exact Zlo _ _
abbrev Mk:=Int×List Int
def mid(ms:List Mk)(i:Nat):Int:=(ms.getD i (0,[])).1
def mat(ms:List Mk)(i:Nat):List Int:=(ms.getD i (0,[])).2
def ZbZ(ms:List Mk)(i:Nat):Bool:=
 decide (1<=mid ms i) && decide (mid ms i<=1000000) && okB (mat ms i) && decide ((mat ms i).length=(mat ms 0).length) && (decide (i=0) || decide (mid ms (i-1)<mid ms i))
def Zt(ms:List Mk):Bool:=decide (ms.length<=60) && (List.range ms.length).all (ZbZ ms)
def ZoL(k:Int):Bool:=decide (1<=k) && decide (k<=3)
def betV(a b:List Int)(k:Int):Int:=if k=1 then Zbj a b else if k=2 then Zas a b else if k=3 then ZaH a b else -1
def betF(ms:List Mk)(p:List Int)(k:Int)(i:Nat):Int:=betV p (mat ms i) k
def mostV(ms:List Mk)(p:List Int)(k:Int):Int:=ZaC (betF ms p k) ms.length
def Zne(ms:List Mk)(k:Int)(i:Nat):Int:=mostV ms (mat ms i) k
def ZoM(ms:List Mk)(k:Int):Bool:=decide (ms.length=0) || !Zt ms || !ZoL k
def diaV(ms:List Mk)(k:Int):Int:=if ZoM ms k=true then -1 else ZaC (Zne ms k) ms.length
def Znf(ms:List Mk)(k:Int):Nat->Nat
 | 0=>0
 | n+1=>if Zne ms k n<Zne ms k (Znf ms k n) then n else Znf ms k n
def midV(ms:List Mk)(k:Int):Int:=if ZoM ms k=true then 0 else mid ms (Znf ms k ms.length)
theorem ZZ(ms:List Mk)(i:Nat):ZbZ ms i=true↔1<=mid ms i/\mid ms i<=1000000/\okB (mat ms i)=true/\(mat ms i).length=(mat ms 0).length/\(i=0\/mid ms (i-1)<mid ms i):=by
 simp [ZbZ,and_assoc]
theorem ZF{ms:List Mk}(h:Zt ms=true):ms.length<=60:=by simp [Zt] at h;exact h.1
theorem Zam{ms:List Mk}(h:Zt ms=true){i:Nat}(hi:i<ms.length):ZbZ ms i=true:=by
 simp only [Zt,Bool.and_eq_true,List.all_eq_true] at h
 exact h.2 i (List.mem_range.2 hi)
theorem ZeQ{ms:List Mk}(h:60<ms.length):Zt ms=false:=by simp [Zt];omega
theorem ZbD{ms:List Mk}{i:Nat}(hi:i<ms.length)(h:ZbZ ms i=false):Zt ms=false:=by
 rcases hb:Zt ms with _ | _
 · rfl
 · rw [Zam hb hi] at h;cases h
theorem ZgE{ms:List Mk}(hl:ms.length<=60)(h:∀i,i<ms.length->ZbZ ms i=true):Zt ms=true:=by
 simp only [Zt,Bool.and_eq_true,List.all_eq_true,decide_eq_true_eq]
 exact⟨hl,fun i a=>h i (List.mem_range.1 a)⟩
theorem Zdc(ms:List Mk)(i:Nat)(h:¬(1<=mid ms i/\mid ms i<=1000000/\okB (mat ms i)=true/\(mat ms i).length=(mat ms 0).length/\(i=0\/mid ms (i-1)<mid ms i))):ZbZ ms i=false:=by
 rcases hb:ZbZ ms i with _ | _
 · rfl
 · exact absurd ((ZZ ms i).1 hb) h
abbrev Ht:=Int×Int
def Zag(a b:Ht):Bool:=decide (a.2<b.2) || (decide (a.2=b.2) && decide (a.1<b.1))
def leH(a b:Ht):Prop:=a.2<b.2\/(a.2=b.2/\a.1<=b.1)
def Zx(hs:List Ht)(i:Nat):Ht:=hs.getD i (0,0)
def ZbV:List Ht->Ht->List Ht
 | [],h=>[h]
 | x::xs,h=>if Zag h x=true then h::x::xs else x::ZbV xs h
def Z4(l:List Ht):List Ht:=l.foldl ZbV []
def ZbK(l:List Ht):Prop:=l.Pairwise leH
theorem Zck(a b:Ht):Zag a b=true↔a.2<b.2\/(a.2=b.2/\a.1<b.1):=by simp [Zag]
theorem ZaM(a b:Ht):Zag a b=false↔leH b a:=by
 unfold leH
 rcases h:Zag a b with _ | _
 · have:¬(a.2<b.2\/(a.2=b.2/\a.1<b.1)):=fun c=>by rw [(Zck a b).2 c] at h;cases h
   constructor
   · intro _;omega
   · intro _;rfl
 · have:=(Zck a b).1 h
   constructor
   · intro c;cases c
   · intro c;omega
theorem ZcB(a:Ht):leH a a:=by unfold leH;omega
theorem ZcC{a b c:Ht}(h:leH a b)(k:leH b c):leH a c:=by unfold leH at *;omega
theorem Zhm{a b:Ht}(h:leH a b)(k:leH b a):a=b:=by
 unfold leH at *
 exact Prod.ext (by omega) (by omega)
theorem ZcP{a b:Ht}(h:Zag a b=true):leH a b:=by rw [Zck] at h;unfold leH;omega
theorem Zez(l:List Ht)(h:Ht):(ZbV l h).Perm (h::l):=by
 induction l with
 | nil=>exact List.Perm.refl _
 | cons x xs ih=>
   unfold ZbV
   split
   · exact List.Perm.refl _
   · exact (List.Perm.cons x ih).trans (List.Perm.swap h x xs)
theorem Zdd(l:List Ht)(h:Ht):(ZbV l h).length=l.length+1:=by rw [(Zez l h).length_eq];rfl
theorem ZiA{l:List Ht}(hl:ZbK l)(h:Ht):ZbK (ZbV l h):=by
 unfold ZbK at *
 induction l with
 | nil=>simp [ZbV]
 | cons x xs ih=>
   rw [List.pairwise_cons] at hl
   unfold ZbV
   split
   · rename_i ha
     have b:=ZcP ha
     exact List.pairwise_cons.2 ⟨fun y a=>by
      rcases List.mem_cons.1 a with rfl | a
      · exact b
      · exact ZcC b (hl.1 y a),List.pairwise_cons.2 hl⟩
   · rename_i ha
     have b:leH x h:=(ZaM h x).1 (by simpa using ha)
     refine List.pairwise_cons.2 ⟨fun y a=>?_,ih hl.2⟩
     rcases List.mem_cons.1 ((Zez xs h).mem_iff.1 a) with rfl | a
     · exact b
     · exact hl.1 y a
theorem Zlp(l acc:List Ht):(l.foldl ZbV acc).Perm (acc++l):=by
 induction l generalizing acc with
 | nil=>simp
 | cons x xs ih=>
   refine (ih (ZbV acc x)).trans ?_
   refine ((Zez acc x).append_right xs).trans ?_
   exact (List.perm_middle (a:=x) (l₁ :=acc) (l₂ :=xs)).symm
theorem ZiB(l acc:List Ht)(h:ZbK acc):ZbK (l.foldl ZbV acc):=by
 induction l generalizing acc with
 | nil=>exact h
 | cons x xs ih=>exact ih _ (ZiA h x)
theorem ZaN(l:List Ht):(Z4 l).Perm l:=by simpa [Z4] using Zlp l []
theorem Zb4(l:List Ht):ZbK (Z4 l):=ZiB l [] List.Pairwise.nil
theorem Zeb(l:List Ht):(Z4 l).length=l.length:=(ZaN l).length_eq
theorem ZjE(l:List Ht)(h:Ht):Z4 (l++[h])=ZbV (Z4 l) h:=by simp [Z4,List.foldl_append]
theorem ZdF{l m:List Ht}(hl:ZbK l)(hm:ZbK m)(hp:l.Perm m):l=m:=by
 unfold ZbK at *
 induction l generalizing m with
 | nil=>exact (List.nil_perm.1 hp).symm
 | cons x xs ih=>
   cases m with
   | nil=>exact absurd hp.length_eq (by simp)
   | cons y ys=>
     rw [List.pairwise_cons] at hl hm
     have b:leH x y:=by
      rcases List.mem_cons.1 (hp.mem_iff.2 (List.mem_cons_self ..):y∈x::xs) with h | h
      · rw [h];exact ZcB x
      · exact hl.1 y h
     have a:leH y x:=by
      rcases List.mem_cons.1 (hp.mem_iff.1 (List.mem_cons_self ..):x∈y::ys) with h | h
      · rw [h];exact ZcB y
      · exact hm.1 x h
     obtain rfl:=Zhm b a
     rw [ih hl.2 hm.2 (List.Perm.cons_inv hp)]
theorem Zhf{l m:List Ht}(hm:ZbK m)(hp:m.Perm l):m=Z4 l:=ZdF hm (Zb4 l) (hp.trans (ZaN l).symm)
theorem Zii{l m:List Ht}(hp:l.Perm m):Z4 l=Z4 m:=ZdF (Zb4 l) (Zb4 m) ((ZaN l).trans (hp.trans (ZaN m).symm))
def ZaI(ids:List Int)(x:Int):Bool:=ids.contains x
def ZcD(ids:List Int):List Ht->List Ht
 | []=>[]
 | x::xs=>if ZaI ids x.1=true then ZcD ids xs else x::ZcD (ids++[x.1]) xs
def Zih(l:List Ht):List Ht:=ZcD [] l
def Zbn(ms:List Mk)(q:List Int):Bool:=Zt ms && okB q && (decide (ms.length=0) || decide ((mat ms 0).length=q.length))
def hitF(q:List Int)(m:Mk):Ht:=(m.1,Zbj m.2 q)
def Zae(ms:List Mk)(q:List Int):List Ht:=ms.map (hitF q)
def ZaO(k:Int):Bool:=decide (1<=k) && decide (k<=60)
def Zav(ms:List Mk)(q:List Int)(k:Int):List Ht:=if Zbn ms q=true/\ZaO k=true then (Z4 (Zae ms q)).take k.toNat else []
theorem Zgy{ms:List Mk}{q:List Int}(h:Zt ms=false):Zbn ms q=false:=by simp [Zbn,h]
theorem Zin{ms:List Mk}{q:List Int}(h:okB q=false):Zbn ms q=false:=by simp [Zbn,h]
def ZoN(n d:Int):Int:=if n<0\/d<n then d else n
def zNear(D:Nat->Nat->Int)(i:Nat)(C:List Nat):Int:=C.foldl (fun n c=>ZoN n (D i c)) (-1)
def zRad(D:Nat->Nat->Int)(n:Nat)(C:List Nat):Int:=ZaC (fun i=>zNear D i C) n
def zD(ms:List Mk)(kd:Int)(i j:Nat):Int:=max 0 (betV (mat ms i) (mat ms j) kd)
def Z6(ms:List Mk)(id:Int):Nat->Int
 | 0=> -1
 | m+1=>if 0<=Z6 ms id m then Z6 ms id m else if mid ms m=id then (m:Int) else -1
def ZC(ms:List Mk)(id:Int):Int:=Z6 ms id ms.length
def ZD(ms:List Mk)(id:Int):Nat:=(ZC ms id).toNat
theorem ZjF(ms:List Mk)(id:Int)(m:Nat):-1<=Z6 ms id m/\Z6 ms id m<m/\(0<=Z6 ms id m->mid ms (Z6 ms id m).toNat=id):=by
 induction m with
 | zero=>simp [Z6]
 | succ m ih=>
   simp only [Z6]
   split
   · exact⟨ih.1,by omega,ih.2.2⟩
   · split
     · rename_i h
       exact⟨by omega,by omega,fun _=>by simpa using h⟩
     · exact⟨by omega,by omega,fun h=>by omega⟩
theorem Zfm{ms:List Mk}{id:Int}{m:Nat}(h:Z6 ms id m<0):∀j,j<m->mid ms j≠id:=by
 induction m with
 | zero=>intro j a;omega
 | succ m ih=>
   simp only [Z6] at h
   intro j a
   by_cases h0:0<=Z6 ms id m
   · rw [if_pos h0] at h;omega
   · rw [if_neg h0] at h
     rcases Nat.lt_or_ge j m with h1 | h1
     · exact ih (by omega) j h1
     · rw [show j=m by omega]
       intro e
       rw [if_pos e] at h
       omega
theorem Zab{ms:List Mk}{id:Int}(h:0<=ZC ms id):ZD ms id<ms.length/\((ZD ms id:Nat):Int)=ZC ms id/\mid ms (ZD ms id)=id:=by
 have:=ZjF ms id ms.length
 unfold ZD ZC at *
 exact⟨by omega,by omega,this.2.2 h⟩
theorem Zbz{ms:List Mk}(h:Zt ms=true){i j:Nat}(hij:i<j)(hj:j<ms.length):mid ms i<mid ms j:=by
 induction j with
 | zero=>omega
 | succ j ih=>
   have a:=((ZZ ms (j+1)).1 (Zam h hj)).2.2.2.2
   simp at a
   rcases Nat.lt_or_ge i j with h2 | h2
   · have:=ih h2 (by omega);omega
   · rw [show i=j by omega];exact a
theorem Zfz{ms:List Mk}(h:Zt ms=true){i j:Nat}(hi:i<ms.length)(hj:j<ms.length)(e:mid ms i=mid ms j):i=j:=by
 rcases Nat.lt_trichotomy i j with h1 | h1 | h1
 · have:=Zbz h h1 hj;omega
 · exact h1
 · have:=Zbz h h1 hi;omega
theorem ZaF{ms:List Mk}(h:Zt ms=true){i:Nat}(hi:i<ms.length):ZC ms (mid ms i)=i/\ZD ms (mid ms i)=i:=by
 have d:0<=ZC ms (mid ms i):=by
  rcases Int.lt_or_le (ZC ms (mid ms i)) 0 with h1 | h1
  · exact absurd rfl (Zfm h1 i hi)
  · exact h1
 obtain⟨a,b,c⟩:=Zab d
 have e:=Zfz h a hi c
 exact⟨by omega,e⟩
def zNearI(ms:List Mk)(kd:Int)(p:List Int)(ids:List Int):Int:=ids.foldl (fun n id=>ZoN n (betV p (mat ms (ZD ms id)) kd)) (-1)
def radB(ms:List Mk)(ids:List Int)(kd:Int):Bool:=Zt ms && decide (ids.length≠0) && ZoL kd && ids.all (fun id=>decide (0<=ZC ms id))
def radI(ms:List Mk)(ids:List Int)(kd:Int):Int:=if radB ms ids kd=true then zRad (zD ms kd) ms.length (ids.map (ZD ms)) else -1
def cn(cs:List (List Int))(i:Nat):List Int:=cs.getD i []
theorem cn_at{cs:List (List Int)}{i:Nat}(h:i<cs.length):cn cs i=cs[i]:=by simp [cn,List.getD,h]
def Zde(l:List Int):Nat->Bool
 | 0=>true
 | k+1=>Zde l k && decide (nth l k<nth l (k+1))
def Za0(l:List Int):Bool:=Zde l (l.length-1)
theorem Zhn(l:List Int)(n:Nat):Zde l n=true↔∀j,j<n->nth l j<nth l (j+1):=by
 induction n with
 | zero=>simp [Zde]
 | succ n ih=>
   simp only [Zde,Bool.and_eq_true,decide_eq_true_eq,ih]
   constructor
   · rintro⟨a,c⟩ j b
     rcases Nat.lt_or_ge j n with h | h
     · exact a j h
     · obtain rfl:j=n:=by omega
       exact c
   · exact fun h=>⟨fun j b=>h j (by omega),h n (by omega)⟩
theorem Zbb(l:List Int):Za0 l=true↔∀j,j+1<l.length->nth l j<nth l (j+1):=by
 unfold Za0
 rw [Zhn]
 exact⟨fun h j a=>h j (by omega),fun h j a=>h j (by omega)⟩
theorem Zli{l:List Int}{j:Nat}(hj:j+1<l.length)(h:nth l (j+1)<=nth l j):Za0 l=false:=by
 rcases e:Za0 l with _ | _
 · rfl
 · have:=(Zbb l).1 e j hj;omega
theorem Zlq{l:List Int}(h:Za0 l=true){i j:Nat}(hij:i<j)(hj:j<l.length):nth l i<nth l j:=by
 have a:=(Zbb l).1 h
 induction j with
 | zero=>omega
 | succ j ih=>
   have b:=a j hj
   rcases Nat.lt_or_ge i j with h2 | h2
   · have:=ih h2 (by omega);omega
   · obtain rfl:i=j:=by omega
     exact b
theorem Z3(l:List Int)(x:Int):ZaI l x=true↔x∈l:=by simp [ZaI]
theorem Zow(l:List Int)(x:Int):ZaI l x=false↔x ∉ l:=by
 rw [<-Z3];simp
theorem Zc5{l:List Int}{k:Nat}(h:k<l.length):ZaI l (nth l k)=true:=by
 rw [Z3]
 simp [nth,List.getD,h]
theorem Ze7{l:List Int}{x:Int}(h:x∈l):∃k,k<l.length/\nth l k=x:=by
 obtain⟨k,a,e⟩:=List.mem_iff_getElem.1 h
 exact⟨k,a,by simp [nth,List.getD,a,e]⟩
def Zch(ms:List Mk)(ls:List (List Int))(i:Nat)(x:Int):Bool:=
 decide (0<=ZC ms x) && decide (ZC ms x≠(i:Int)) && ZaI (cn ls (ZD ms x)) (mid ms i)
def ZbX(ms:List Mk)(ls:List (List Int))(i:Nat):Bool:=Za0 (cn ls i) && (cn ls i).all (Zch ms ls i)
def Zax(ms:List Mk)(ls:List (List Int)):Bool:=Zt ms && decide (ls.length=ms.length) && (List.range ls.length).all (ZbX ms ls)
theorem Zb9(ms:List Mk)(ls:List (List Int))(i:Nat)(x:Int):Zch ms ls i x=true↔0<=ZC ms x/\ZC ms x≠(i:Int)/\ZaI (cn ls (ZD ms x)) (mid ms i)=true:=by
 simp [Zch,and_assoc]
theorem Zca(ms:List Mk)(ls:List (List Int))(i:Nat):ZbX ms ls i=true↔Za0 (cn ls i)=true/\∀k,k<(cn ls i).length->Zch ms ls i (nth (cn ls i) k)=true:=by
 simp only [ZbX,Bool.and_eq_true,List.all_eq_true]
 constructor
 · rintro⟨a,c⟩
   exact⟨a,fun k b=>c _ ((Z3 _ _).1 (Zc5 b))⟩
 · rintro⟨a,c⟩
   refine⟨a,fun x d=>?_⟩
   obtain⟨k,b,rfl⟩:=Ze7 d
   exact c k b
theorem ZbM(ms:List Mk)(ls:List (List Int)):Zax ms ls=true↔Zt ms=true/\ls.length=ms.length/\∀i,i<ls.length->ZbX ms ls i=true:=by
 simp [Zax,and_assoc]
theorem Zd1{ms:List Mk}{ls:List (List Int)}{i:Nat}(hi:i<ls.length)(h:ZbX ms ls i=false):Zax ms ls=false:=by
 rcases e:Zax ms ls with _ | _
 · rfl
 · have:=((ZbM ms ls).1 e).2.2 i hi
   rw [this] at h;cases h
theorem ZdJ{ms:List Mk}{ls:List (List Int)}{i k:Nat}(hk:k<(cn ls i).length)(h:Zch ms ls i (nth (cn ls i) k)=false):ZbX ms ls i=false:=by
 rcases e:ZbX ms ls i with _ | _
 · rfl
 · have:=((Zca ms ls i).1 e).2 k hk
   rw [this] at h;cases h
theorem Zi8{ms:List Mk}{ls:List (List Int)}{i:Nat}(h:Za0 (cn ls i)=false):ZbX ms ls i=false:=by simp [ZbX,h]
theorem ZY{ms:List Mk}{ls:List (List Int)}(h:Zax ms ls=true):Zt ms=true:=((ZbM ms ls).1 h).1
theorem Zco{ms:List Mk}{ls:List (List Int)}(h:Zax ms ls=true):ls.length=ms.length:=((ZbM ms ls).1 h).2.1
theorem Zec{ms:List Mk}{ls:List (List Int)}(h:Zax ms ls=true){i:Nat}(hi:i<ms.length){x:Int}(hx:x∈cn ls i):0<=ZC ms x/\ZD ms x<ms.length/\mid ms (ZD ms x)=x/\ZD ms x≠i/\mid ms i∈cn ls (ZD ms x):=by
 obtain⟨k,f,rfl⟩:=Ze7 hx
 have g:=Zco h
 have d:=(Zb9 _ _ _ _).1 (((Zca _ _ _).1 (((ZbM ms ls).1 h).2.2 i (by omega))).2 k f)
 obtain⟨a,b,c⟩:=Zab d.1
 exact⟨d.1,a,c,fun e=>d.2.1 (by omega),(Z3 _ _).1 d.2.2⟩
theorem Zf0{ms:List Mk}{ls:List (List Int)}(h:Zax ms ls=true){i:Nat}(hi:i<ms.length):Za0 (cn ls i)=true:=
 ((Zca _ _ _).1 (((ZbM ms ls).1 h).2.2 i (by have:=Zco h;omega))).1
theorem ZdQ{l:List Int}(h:Za0 l=true):l.Pairwise (fun a b=>a<b):=by
 rw [List.pairwise_iff_getElem]
 intro i j d c e
 have:=Zlq h e c
 simpa [nth,List.getD,d,c] using this
theorem Zlr{n:Nat}(l:List Int)(f:Int->Nat)(hd:l.Nodup)(hf:∀x∈l,f x<n)(hi:∀x∈l,∀y∈l,f x=f y->x=y):l.length<=n:=by
 have c:(l.map f).Nodup:=by
  rw [List.Nodup,List.pairwise_map]
  exact List.Pairwise.imp_of_mem (fun {a b} i g d e=>d (hi a i b g e)) hd
 have j:=c.length_le_of_subset (l₂ :=List.range n) (fun y h=>by
  obtain⟨x,k,rfl⟩:=List.mem_map.1 h
  exact List.mem_range.2 (hf x k))
 simpa using j
theorem Zer{ms:List Mk}{l:List Int}(hd:l.Nodup)(hf:∀x∈l,0<=ZC ms x):l.length<=ms.length:=
 Zlr l (ZD ms) hd (fun x hx=>(Zab (hf x hx)).1) (fun x hx y hy e=>by
  have a:=(Zab (hf x hx)).2.2
  have b:=(Zab (hf y hy)).2.2
  rw [e] at a;omega)
theorem ZeS{ms:List Mk}{ls:List (List Int)}(h:Zax ms ls=true){i:Nat}(hi:i<ms.length):(cn ls i).length<=ms.length:=
 Zer (List.Pairwise.imp (fun {a b} hab e=>by omega) (ZdQ (Zf0 h hi))) (fun x hx=>(Zec h hi hx).1)
theorem ZaW{ms:List Mk}{ls:List (List Int)}(h:Zax ms ls=true):ms.length<=60/\(∀i,(mat ms i).length<=4)/\ls.length<=60/\∀i,(cn ls i).length<=60:=by
 have b:=ZY h
 have a:=ZF b
 have c:=Zco h
 refine⟨a,fun i=>?_,by omega,fun i=>?_⟩
 · rcases Nat.lt_or_ge i ms.length with hi | hi
   · have:=((ZZ ms i).1 (Zam b hi)).2.2.1
     exact (ZaP this).2
   · have:mat ms i=[]:=by simp [mat,List.getD,hi]
     rw [this];simp
 · rcases Nat.lt_or_ge i ms.length with hi | hi
   · have:=ZeS h hi;omega
   · have:cn ls i=[]:=by simp [cn,List.getD,show ls.length<=i by omega]
     rw [this];simp
def ZaA:List Int->Int->List Int
 | [],n=>[n]
 | x::l,n=>if x<n then x::ZaA l n else if x=n then x::l else n::x::l
def ZcZ(ids:List Int):List Int:=ids.foldl ZaA []
theorem ZiC(l:List Int)(n y:Int):y∈ZaA l n↔y=n\/y∈l:=by
 induction l with
 | nil=>simp [ZaA]
 | cons x l ih=>
   simp only [ZaA]
   by_cases h1:x<n
   · rw [if_pos h1,List.mem_cons,ih,List.mem_cons]
     constructor
     · rintro (h | h | h)
       · exact Or.inr (Or.inl h)
       · exact Or.inl h
       · exact Or.inr (Or.inr h)
     · rintro (h | h | h)
       · exact Or.inr (Or.inl h)
       · exact Or.inl h
       · exact Or.inr (Or.inr h)
   · rw [if_neg h1]
     by_cases h2:x=n
     · rw [if_pos h2,h2];simp
     · rw [if_neg h2];simp
theorem ZjG{l:List Int}(h:l.Pairwise (fun a b=>a<b))(n:Int):(ZaA l n).Pairwise (fun a b=>a<b):=by
 induction l with
 | nil=>simp [ZaA]
 | cons x l ih=>
   obtain⟨d,f⟩:=List.pairwise_cons.1 h
   simp only [ZaA]
   by_cases hx:x<n
   · rw [if_pos hx,List.pairwise_cons]
     refine⟨fun y c=>?_,ih f⟩
     rcases (ZiC l n y).1 c with e | e
     · rw [e];exact hx
     · exact d y e
   · rw [if_neg hx]
     by_cases he:x=n
     · rw [if_pos he];exact h
     · rw [if_neg he,List.pairwise_cons]
       refine⟨fun y c=>?_,h⟩
       rcases List.mem_cons.1 c with e | e
       · rw [e];omega
       · have:=d y e;omega
theorem ZeA(ids acc:List Int)(h:acc.Pairwise (fun a b=>a<b)):(ids.foldl ZaA acc).Pairwise (fun a b=>a<b)/\∀y,y∈ids.foldl ZaA acc↔y∈acc\/y∈ids:=by
 induction ids generalizing acc with
 | nil=>exact⟨h,fun y=>by simp⟩
 | cons x ids ih=>
   obtain⟨c,d⟩:=ih (ZaA acc x) (ZjG h x)
   refine⟨c,fun y=>?_⟩
   rw [List.foldl_cons,d,ZiC,List.mem_cons]
   constructor
   · rintro ((e | e) | e)
     · exact Or.inr (Or.inl e)
     · exact Or.inl e
     · exact Or.inr (Or.inr e)
   · rintro (e | e | e)
     · exact Or.inl (Or.inr e)
     · exact Or.inl (Or.inl e)
     · exact Or.inr e
theorem Zf1(ids:List Int)(y:Int):y∈ZcZ ids↔y∈ids:=by
 have:=(ZeA ids [] List.Pairwise.nil).2 y
 simpa [ZcZ] using this
theorem Zf2{l:List Int}(h:l.Pairwise (fun a b=>a<b)):Za0 l=true:=by
 rw [Zbb]
 intro j c
 have d:=List.pairwise_iff_getElem.1 h j (j+1) (by omega) c (by omega)
 have e:nth l j=l[j]:=by simp [nth,List.getD,show j<l.length by omega]
 have f:nth l (j+1)=l[j+1]:=by simp [nth,List.getD,c]
 rw [e,f]
 exact d
theorem Zls(ids:List Int):Za0 (ZcZ ids)=true:=Zf2 (ZeA ids [] List.Pairwise.nil).1
def Zcx(ms:List Mk)(ls:List (List Int))(ids:List Int)(x:Int)(i:Nat):List Int:=if ZaI ids (mid ms i)=true then cn ls i++[x] else cn ls i
def ZcY(ms:List Mk)(ls:List (List Int))(ids:List Int)(x:Int):List (List Int):=(List.range ms.length).map (Zcx ms ls ids x)++[ZcZ ids]
theorem Zd3(ms:List Mk)(ls:List (List Int))(ids:List Int)(x:Int):(ZcY ms ls ids x).length=ms.length+1:=by simp [ZcY]
theorem Ze9{ms:List Mk}{ls:List (List Int)}{ids:List Int}{x:Int}{i:Nat}(h:i<ms.length):cn (ZcY ms ls ids x) i=Zcx ms ls ids x i:=by
 simp [cn,ZcY,List.getD,h,List.getElem?_append_left]
theorem ZeB(ms:List Mk)(ls:List (List Int))(ids:List Int)(x:Int):cn (ZcY ms ls ids x) ms.length=ZcZ ids:=by
 simp [cn,ZcY,List.getD]
theorem Zf3{ms:List Mk}{ls:List (List Int)}{ids:List Int}{x y:Int}{i:Nat}:y∈Zcx ms ls ids x i↔y∈cn ls i\/(y=x/\ZaI ids (mid ms i)=true):=by
 unfold Zcx
 by_cases h:ZaI ids (mid ms i)=true
 · rw [if_pos h];simp [h]
 · rw [if_neg h];simp [h]
theorem Zdf{ms:List Mk}{m:Mk}{i:Nat}(h:i<ms.length):mid (ms++[m]) i=mid ms i:=by simp [mid,List.getD,h,List.getElem?_append_left]
theorem ZhQ{ms:List Mk}{m:Mk}{i:Nat}(h:i<ms.length):mat (ms++[m]) i=mat ms i:=by simp [mat,List.getD,h,List.getElem?_append_left]
theorem Zdg(ms:List Mk)(m:Mk):mid (ms++[m]) ms.length=m.1:=by simp [mid,List.getD]
theorem ZhR(ms:List Mk)(m:Mk):mat (ms++[m]) ms.length=m.2:=by simp [mat,List.getD]
theorem ZfA{ms:List Mk}{ls:List (List Int)}{ids:List Int}{m:Mk}(hw:Zax ms ls=true)(hm:Zt (ms++[m])=true)(hids:∀x∈ids,0<=ZC ms x):Zax (ms++[m]) (ZcY ms ls ids m.1)=true:=by
 have t:=ZY hw
 have q:=Zco hw
 have n:∀{j},j<ms.length->ZC (ms++[m]) (mid ms j)=(j:Int)/\ZD (ms++[m]) (mid ms j)=j:=fun {j} e=>by
  have:=ZaF hm (i:=j) (by simp;omega)
  rwa [Zdf e] at this
 have l:ZC (ms++[m]) m.1=(ms.length:Int)/\ZD (ms++[m]) m.1=ms.length:=by
  have:=ZaF hm (i:=ms.length) (by simp)
  rwa [Zdg] at this
 have g:∀x∈ids,∃j,j<ms.length/\mid ms j=x:=fun x c=>⟨ZD ms x,(Zab (hids x c)).1,(Zab (hids x c)).2.2⟩
 refine (ZbM _ _).2 ⟨hm,by rw [Zd3];simp,fun i s=>?_⟩
 rw [Zd3] at s
 refine (Zca _ _ _).2 ?_
 rcases Nat.lt_or_ge i ms.length with h | h
 · rw [Ze9 h]
   constructor
   · refine Zf2 ?_
     have p:=ZdQ (Zf0 hw h)
     unfold Zcx
     by_cases hb:ZaI ids (mid ms i)=true
     · rw [if_pos hb,List.pairwise_append]
       refine⟨p,by simp,fun a u b f=>?_⟩
       simp at f
       have d:=Zec hw h u
       have:=Zbz hm (i:=ZD ms a) (j:=ms.length) d.2.1 (by simp)
       rw [Zdf d.2.1,Zdg,d.2.2.1] at this
       rw [f]
       exact this
     · rw [if_neg hb];exact p
   · intro k o
     have c:nth (Zcx ms ls ids m.1 i) k∈Zcx ms ls ids m.1 i:=(Z3 _ _).1 (Zc5 o)
     generalize nth (Zcx ms ls ids m.1 i) k=x at c
     rw [Zb9,Zdf h]
     rcases Zf3.1 c with c | ⟨rfl,hxb⟩
     · have d:=Zec hw h c
       have r:=n d.2.1
       rw [d.2.2.1] at r
       refine⟨by omega,by have:=d.2.2.2.1;omega,?_⟩
       rw [r.2,Ze9 d.2.1,Z3]
       exact Zf3.2 (Or.inl d.2.2.2.2)
     · refine⟨by omega,by omega,?_⟩
       rw [l.2,ZeB,Z3,Zf1]
       exact (Z3 _ _).1 hxb
 · obtain rfl:i=ms.length:=by omega
   rw [ZeB]
   refine⟨Zls ids,fun k o=>?_⟩
   have c:nth (ZcZ ids) k∈ids:=(Zf1 _ _).1 ((Z3 _ _).1 (Zc5 o))
   generalize nth (ZcZ ids) k=x at c
   obtain⟨j,e,rfl⟩:=g x c
   rw [Zb9,Zdg,(n e).1,(n e).2,Ze9 e,Z3]
   exact⟨by omega,by omega,Zf3.2 (Or.inr ⟨rfl,(Z3 _ _).2 c⟩)⟩
def Zcg(ms:List Mk)(p:List Int)(most:Int):List Int:=(Zav ms p most).map (fun h=>h.1)
def Zgr(most:Int):Bool:=decide (1<=most) && decide (most<=8)
def ZaJ(ms:List Mk)(ls:List (List Int))(m:Mk)(most:Int):Bool:=Zax ms ls && Zgr most && Zt (ms++[m])
theorem ZcM{ms:List Mk}(hm:Zt ms=true){p:List Int}{most:Int}:∀x∈Zcg ms p most,0<=ZC ms x:=by
 intro x g
 obtain⟨h,a,rfl⟩:=List.mem_map.1 g
 unfold Zav at a
 split at a
 · have d:=(ZaN _).mem_iff.1 (List.mem_of_mem_take a)
   obtain⟨mk,b,rfl⟩:=List.mem_map.1 d
   obtain⟨i,c,e⟩:=List.mem_iff_getElem.1 b
   have f:mid ms i=mk.1:=by simp [mid,List.getD,c,e]
   show 0<=ZC ms mk.1
   rw [<-f,(ZaF hm c).1]
   omega
 · simp at a
theorem Zng(l:List Int)(n:Int):(ZaA l n).length<=l.length+1:=by
 induction l with
 | nil=>simp [ZaA]
 | cons x l ih=>
   simp only [ZaA]
   split
   · simp;omega
   · split <;> simp
theorem Zfw(ids acc:List Int):(ids.foldl ZaA acc).length<=acc.length+ids.length:=by
 induction ids generalizing acc with
 | nil=>simp
 | cons x ids ih=>
   have a:=ih (ZaA acc x)
   have b:=Zng acc x
   simp only [List.foldl_cons,List.length_cons]
   omega
def Zfv(ms:List Mk)(ls:List (List Int))(ids:List Int)(y:Int):List (List Int):=(List.range ms.length).map (Zcx ms ls ids y)
theorem Zed(ms:List Mk)(ls:List (List Int))(ids:List Int)(y:Int):(Zfv ms ls ids y).length=ms.length:=by simp [Zfv]
theorem Ze5{ms:List Mk}{ls:List (List Int)}{ids:List Int}{y:Int}{j:Nat}(h:j<ms.length):(Zfv ms ls ids y)[j]? =some (Zcx ms ls ids y j):=by simp [Zfv,h]
theorem Zmg{ms:List Mk}{ls:List (List Int)}(hl:ls.length=ms.length)(y:Int):Zfv ms ls [] y=ls:=by
 apply List.ext_getElem?
 intro k
 rcases Nat.lt_or_ge k ms.length with h | h
 · rw [Ze5 h]
   have a:k<ls.length:=by omega
   simp [Zcx,ZaI,cn,List.getD,a]
 · rw [List.getElem?_eq_none (by rw [Zed];exact h),List.getElem?_eq_none (by omega)]
theorem Zee{ids:List Int}{i:Nat}(h:i<ids.length)(z:Int):z∈ids.take (i+1)↔z∈ids.take i\/z=nth ids i:=by
 rw [List.take_add_one,List.mem_append]
 have e:ids[i]?.toList=[nth ids i]:=by simp [nth,List.getD,h]
 rw [e];simp
theorem Zf4{ids:List Int}(hd:ids.Nodup){i:Nat}(h:i<ids.length):nth ids i ∉ ids.take i:=by
 intro a
 obtain⟨k,b,e⟩:=List.mem_iff_getElem.1 a
 rw [List.length_take] at b
 rw [List.getElem_take] at e
 have c:nth ids i=ids[i]:=by simp [nth,List.getD,h]
 rw [c] at e
 have:=List.pairwise_iff_getElem.1 hd k i (by omega) h (by omega)
 exact this e
theorem Zgp{ms:List Mk}{ls:List (List Int)}(hm:Zt ms=true){ids:List Int}(hd:ids.Nodup){i j:Nat}(hi:i<ids.length)(hj:j<ms.length)(hx:nth ids i=mid ms j)(y:Int):
 Zcx ms ls (ids.take i) y j=cn ls j/\(Zfv ms ls (ids.take i) y).set j (cn ls j++[y])=Zfv ms ls (ids.take (i+1)) y:=by
 have a:ZaI (ids.take i) (mid ms j)=false:=by rw [Zow,<-hx];exact Zf4 hd hi
 refine⟨by simp [Zcx,a],?_⟩
 apply List.ext_getElem?
 intro k
 rcases Nat.lt_or_ge k ms.length with h | h
 · rw [Ze5 h]
   by_cases hk:j=k
   · subst hk
     rw [List.getElem?_set_self (by rw [Zed];exact h)]
     have:ZaI (ids.take (i+1)) (mid ms j)=true:=by rw [Z3,Zee hi];exact Or.inr hx.symm
     simp [Zcx,this]
   · rw [List.getElem?_set_ne hk,Ze5 h]
     have:ZaI (ids.take (i+1)) (mid ms k)=ZaI (ids.take i) (mid ms k):=by
      rw [Bool.eq_iff_iff,Z3,Z3,Zee hi,hx]
      constructor
      · rintro (e | e)
        · exact e
        · exact absurd (Zfz hm h hj e).symm hk
      · exact Or.inl
     simp [Zcx,this]
 · rw [List.getElem?_eq_none (by rw [List.length_set,Zed];exact h),List.getElem?_eq_none (by rw [Zed];exact h)]
theorem Zmh(ms:List Mk)(ls:List (List Int))(ids:List Int)(y:Int):Zfv ms ls ids y++[ZcZ ids]=ZcY ms ls ids y:=rfl
theorem ZeL{ms:List Mk}(hm:Zt ms=true)(p:List Int)(most:Int):(Zcg ms p most).Nodup:=by
 unfold Zcg Zav
 split
 · have d:((Zae ms p).map (fun h=>h.1)).Nodup:=by
    rw [Zae,List.map_map,List.Nodup,List.pairwise_map,List.pairwise_iff_getElem]
    intro i j c b a e
    have:=Zbz hm a b
    have l:mid ms i=ms[i].1:=by simp [mid,List.getD,c]
    have k:mid ms j=ms[j].1:=by simp [mid,List.getD,b]
    have g:ms[i].1=ms[j].1:=e
    omega
   have f:((Z4 (Zae ms p)).map (fun h=>h.1)).Nodup:=(((ZaN (Zae ms p)).map (fun h=>h.1)).nodup_iff).2 d
   rw [List.map_take]
   exact List.Nodup.sublist (List.take_sublist _ _) f
 · simp
theorem Zfu(ms:List Mk)(q:List Int)(k:Int):(Zav ms q k).length<=60:=by
 unfold Zav
 split
 · rename_i h
   rw [List.length_take]
   have:ZaO k=true:=h.2
   simp [ZaO] at this
   omega
 · simp
theorem Zgg{l m:List Ht}(hp:l.Perm m)(h:l.Pairwise (fun a b=>a.1≠b.1)):m.Pairwise (fun a b=>a.1≠b.1):=
 (hp.pairwise_iff (fun h e=>h e.symm)).1 h
theorem ZfR{ms:List Mk}(hm:Zt ms=true)(q:List Int):(Zae ms q).Pairwise (fun a b=>a.1≠b.1):=by
 rw [List.pairwise_iff_getElem]
 intro i j c d f
 simp only [Zae,List.length_map] at c d
 have g:mid ms i<mid ms j:=by
  clear c
  induction j with
  | zero=>omega
  | succ j ih=>
    have e:=((ZZ ms (j+1)).1 (Zam hm d)).2.2.2.2
    simp at e
    rcases Nat.lt_or_ge i j with h2 | h2
    · have:=ih (by omega) h2;omega
    · rw [show i=j by omega];exact e
 simp only [Zae,List.getElem_map,hitF]
 simp only [mid,List.getD,List.getElem?_eq_getElem c,List.getElem?_eq_getElem d,Option.getD_some] at g
 omega
theorem Zjs{ms:List Mk}{q:List Int}(ht:Zbn ms q=true):Zt ms=true:=by
 simp [Zbn] at ht;exact ht.1.1
def ZbP(l:List Ht)(i j:Nat):List Ht:=(l.set i (Zx l j)).set j (Zx l i)
theorem Zbm(l:List Ht)(i j:Nat):(ZbP l i j).length=l.length:=by simp [ZbP]
theorem ZiD(l:List Ht)(i k:Nat)(x:Ht)(hk:k<l.length):Zx (l.set i x) k=if k=i then x else Zx l k:=by
 unfold Zx
 by_cases h:k=i
 · subst h;simp [List.getD,hk]
 · simp [List.getD,h,Ne.symm h]
theorem Zd7(l:List Ht)(i j k:Nat)(_hi:i<l.length)(_hj:j<l.length)(hk:k<l.length):Zx (ZbP l i j) k=if k=j then Zx l i else if k=i then Zx l j else Zx l k:=by
 unfold ZbP
 rw [ZiD _ _ _ _ (by simp;exact hk)]
 split
 · rfl
 · rw [ZiD _ _ _ _ hk]
theorem ZfM(l:List Ht)(i j:Nat)(hi:i<l.length)(hj:j<l.length):(ZbP l i j).Perm l:=by
 have a:Zx l j=l[j]:=by simp [Zx,List.getD,hj]
 have b:Zx l i=l[i]:=by simp [Zx,List.getD,hi]
 unfold ZbP
 rw [a,b]
 exact List.set_set_perm hi hj
def par(c:Nat):Nat:=(c-1) / 2
def ZbQ(l:List Ht)(n:Nat):Prop:=∀c,0<c->c<n->leH (Zx l (par c)) (Zx l c)
def ZpD(l:List Ht)(n i:Nat):Prop:=(∀c,0<c->c<n->par c≠i->leH (Zx l (par c)) (Zx l c))/\∀c,0<c->c<n->par c=i->0<i->leH (Zx l (par i)) (Zx l c)
theorem Zjn{l:List Ht}{n:Nat}(h:ZbQ l n)(c:Nat)(hc:c<n):leH (Zx l 0) (Zx l c):=by
 induction c using Nat.strongRecOn with
 | _ c ih=>
   rcases Nat.eq_zero_or_pos c with h0 | h0
   · subst h0;exact ZcB _
   · have a:par c<c:=by unfold par;omega
     exact ZcC (ih (par c) a (by omega)) (h c h0 hc)
theorem ZjH{l:List Ht}{n:Nat}(h:ZbQ l (n+1))(hn:n<l.length):ZpD (ZbP l 0 n) n 0:=by
 have a:∀k,k<n->Zx (ZbP l 0 n) k=if k=n then Zx l 0 else if k=0 then Zx l n else Zx l k:=fun k j=>Zd7 l 0 n k (by omega) (by omega) (by omega)
 refine⟨fun c d e b=>?_,fun c d e i g=>by omega⟩
 have f:par c<c:=by unfold par;omega
 rw [a c e,a (par c) (by omega),if_neg (show ¬c=n by omega),if_neg (show ¬c=0 by omega),if_neg (show ¬par c=n by omega),if_neg b]
 exact h c d (by omega)
def Zgv(s:Nat)(l:List Ht)(n:Nat):Prop:=∀c,0<c->c<n->s<=par c->leH (Zx l (par c)) (Zx l c)
def ZfN(s:Nat)(l:List Ht)(n i:Nat):Prop:=(∀c,0<c->c<n->s<=par c->par c≠i->leH (Zx l (par c)) (Zx l c))/\∀c,0<c->c<n->par c=i->0<i->s<=par i->leH (Zx l (par i)) (Zx l c)
theorem ZfP{l:List Ht}{n:Nat}(h:Zgv 0 l n):ZbQ l n:=fun c h0 hc=>h c h0 hc (Nat.zero_le _)
theorem Zjj(l:List Ht)(n:Nat):Zgv (n / 2) l n:=fun c h0 hc hp=>by exfalso;unfold par at hp;omega
theorem Zjk{l:List Ht}{n i:Nat}(h:Zgv (i+1) l n):ZfN i l n i:=
 ⟨fun c h0 hc hp hne=>h c h0 hc (by omega),fun c h0 hc hp hi hs=>by exfalso;unfold par at hs;omega⟩
theorem ZkZ{l:List Ht}{n:Nat}(h:ZbQ l (n+1))(hn:n<l.length):ZfN 0 (ZbP l 0 n) n 0:=by
 obtain⟨f,i⟩:=ZjH h hn
 exact⟨fun c b d _ a=>f c b d a,fun c b d g e _=>i c b d g e⟩
theorem ZcO{s:Nat}{l:List Ht}{n i:Nat}(h:ZfN s l n i)(hc:∀c,0<c->c<n->par c=i->leH (Zx l i) (Zx l c)):Zgv s l n:=fun c h0 h1 h2=>by
 by_cases e:par c=i
 · rw [e];exact hc c h0 h1 e
 · exact h.1 c h0 h1 h2 e
theorem ZdO{s:Nat}{l:List Ht}{n i j:Nat}(h:ZfN s l n i)(hs:s<=i)(hn:n<=l.length)(hj:j<n)(hj0:0<j)(hp:par j=i)(hmin:∀c,0<c->c<n->par c=i->leH (Zx l j) (Zx l c))(ha:Zag (Zx l j) (Zx l i)=true):ZfN s (ZbP l i j) n j:=by
 have q:i<j:=by rw [<-hp];unfold par;omega
 have m:=ZcP ha
 have a:∀k,k<n->Zx (ZbP l i j) k=if k=j then Zx l i else if k=i then Zx l j else Zx l k:=fun k u=>Zd7 l i j k (by omega) (by omega) (by omega)
 refine⟨fun c b d f o=>?_,fun c b d g r t=>?_⟩
 · have g:par c<c:=by unfold par;omega
   rw [a c d,a (par c) (by omega),if_neg o]
   by_cases e1:c=j
   · rw [if_pos e1,if_pos (by rw [e1];exact hp)];exact m
   · rw [if_neg e1]
     by_cases e2:c=i
     · rw [if_pos e2]
       have e:par c≠i:=by omega
       rw [if_neg e]
       have:=h.2 j hj0 hj hp (by omega) (by rw [<-e2];exact f)
       rw [<-e2] at this
       exact this
     · rw [if_neg e2]
       by_cases e:par c=i
       · rw [if_pos e];exact hmin c b d e
       · rw [if_neg e];exact h.1 c b d f e
 · have p:par c<c:=by unfold par;omega
   rw [hp,a c d,a i (by omega),if_neg (show ¬c=j by omega),if_neg (show ¬c=i by omega),if_neg (show ¬i=j by omega),if_pos rfl]
   have:=h.1 c b d (by omega) (by omega)
   rw [g] at this
   exact this
theorem kids(c i:Nat)(h0:0<c)(hp:par c=i):c=2*i+1\/c=2*i+2:=by unfold par at hp;omega
end Go.Proofs.YtilkaeclgmcolaaGreat
namespace Go.Proofs.YtilkaeclgmcolaaGreat
open Go
end Go.Proofs.YtilkaeclgmcolaaGreat
