import Derived.Test.YtgcaionclkbehaaGreatDoorR4
set_option linter.all false
set_option maxHeartbeats 8000000
set_option maxRecDepth 100000
namespace Go.Proofs.YtgcaionclkbehaaGreatDoor
open Go.Conc Go.RowKit Go.Lib Tryz
variable [Inhabited KC]

def dF (g:Iq->Bool):Iq->Iq × Iq
 | []=>([],[])
 | x::l=>if g (x::l) then ([],x::l) else (x::(dF g l).1,(dF g l).2)
def ei (l:Iq):Int:=l.headD<|-1
def dm (st:Bq)(l:Iq):Iq × Iq:=dF (λl=>da (ei l) st) l
def fM (st:Bq)(l:Iq):Iq × Iq:=dF (λl=>!da (ei l) st) l
def dg:Iq->Bq->Bool
 | _,[]=>true
 | l,b::t=>(dC (ei l)==(b.toNat:Int))&&dg l.tail t
def M3 (l:Iq):Nat:=bif eW (ei l) then 2 else bif ei l==62 then 3 else bif l.isEmpty then 0 else 4
def dx (l:Iq):Nat:=bif ei l==60 then (bif eW (ei l.tail) then 1 else bif ei l.tail==47 then M3 l.tail.tail else bif dg l.tail [33,45,45] then 5 else bif dg l.tail JG then 6 else bif ei l.tail==33 then 7 else bif ei l.tail==63 then 8 else 0) else 0
def pK (l:Iq):Bq:=bif dg l [45,45,62] then [45,45,62] else bif dg l [45,45,33,62] then [45,45,33,62] else []
def fS (nm:Bq)(l:Iq):Bool:=dg l (60::47::nm)&&da (ei<|l.drop<|nm.length+2) [9,10,12,13,32,47,62]
section
variable (e:Iq->Bq)(lo:Bq->Bq)(wr:Bq->Int->Bq)
def nY (l:Iq):Bq × Iq :=
 if ei l=34 then (e (dm [34] l.tail).1,(dm [34] l.tail).2.tail)
 else if ei l=39 then (e (dm [39] l.tail).1,(dm [39] l.tail).2.tail)
 else (e (dm (aK++[62]) l).1,(dm (aK++[62]) l).2)
def jG(l:Iq):(Bq × Bq) × Iq :=
 if ei (fM aK (dm cz l.tail).2).2=61 then
  ((lo<|e<|l.take 1++(dm cz l.tail).1,wr (nY e (fM aK (fM aK (dm cz l.tail).2).2.tail).2).1 1),(nY e (fM aK (fM aK (dm cz l.tail).2).2.tail).2).2)
 else ((lo<|e<|l.take 1++(dm cz l.tail).1,[]),(fM aK (dm cz l.tail).2).2)
def iT:Nat->Iq->jE->Option (jE × Bool × Iq)
 | 0,_,_=>none
 | n+1,l,dE =>
  if (fM bL l).2=[] then none
  else if ei (fM bL l).2=62 then some (dE,(fM bL l).1.getLast?==some 47,(fM bL l).2.tail)
  else iT n (jG e lo wr (fM bL l).2).2 (jH dE (jG e lo wr (fM bL l).2).1)
structure SS where
 l:Iq
 tx:Bq
 us:List Tok
def ji(l:Iq):Bq:=lo<|e (dm bE l).1
def vr (l:Iq):Option (jE × Bool × Iq):=iT e lo wr (l.length+1) (dm bE l).2 []
def jy(x:SS):SS:=match vr e lo wr x.l.tail with
 | none=>⟨[],x.tx,x.us⟩
 | some (a,c,r) =>
  let us:=cZ x.tx x.us++[⟨2,[],ji e lo x.l.tail,a,c⟩];bif om (ji e lo x.l.tail) then ⟨(dF (fS<|ji e lo x.l.tail) r).2,bif ff (ji e lo x.l.tail) dW then wr (e (dF (fS<|ji e lo x.l.tail) r).1) 0 else e (dF (fS<|ji e lo x.l.tail) r).1,us⟩
  else ⟨r,[],us⟩
def lY(x:SS):SS:=match vr e lo wr x.l.tail.tail with
 | none=>⟨[],x.tx,x.us⟩
 | some (_,_,r)=>⟨r,[],cZ x.tx x.us++[⟨3,[],ji e lo x.l.tail.tail,[],false⟩]⟩
def tM (l:Iq)(x:SS):SS:=⟨(dm [62] l).2.tail,[],cZ x.tx x.us++[⟨4,e (dm [62] l).1,[],[],false⟩]⟩
def HY (x:SS):SS :=
 let p:=dF (λl=>!(pK l).isEmpty) (x.l.drop 2)
 ⟨p.2.drop (pK p.2).length,[],cZ x.tx x.us++[⟨4,e<|p.1.drop 2,[],[],false⟩]⟩
def H7 (x:SS):SS :=
 let p:=dm (aK++[62]) (fM aK<|x.l.drop 9).2
 ⟨(dm [62] p.2).2.tail,[],cZ x.tx x.us++[⟨5,[],lo<|e p.1,[],false⟩]⟩
def ze (l:Iq):Iq × Iq:=dF (λl=>dx l != 0) l
def gA(x:SS):SS:=match dx x.l with
 | 0=>⟨(ze x.l).2,x.tx++wr (e (ze x.l).1) 0,x.us⟩
 | 1=>jy e lo wr x
 | 2=>lY e lo wr x
 | 3=>⟨x.l.drop 3,x.tx,x.us⟩
 | 4=>tM e (x.l.drop 2) x
 | 5=>HY e x
 | 6=>H7 e lo x
 | 7=>tM e (x.l.drop 2) x
 | _=>tM e (x.l.drop 1) x
def lR:Nat->SS->SS
 | 0,x=>x
 | n+1,x=>if x.l=[] then x else lR n (gA e lo wr x)
def uS (l:Iq):List Tok:=cZ (lR e lo wr (l.length+1) ⟨l,[],[]⟩).tx (lR e lo wr (l.length+1) ⟨l,[],[]⟩).us
end
/-! ## the cut -/
def eg(g:Iq->Bool):∀l,(dF g l).1++(dF g l).2=l
 | []=>rfl
 | x::l=>by
  unfold dF;split
  .rfl
  .show x::((dF g l).1++(dF g l).2)=_;rw[eg g l]
def td(g:Iq->Bool)(l:Iq):(dF g l).2.length<=l.length:=by have:=congrArg List.length<|eg g l;simp at this;omega
def lW(g:Iq->Bool):∀l,(dF g l).2=[]\/g (dF g l).2=true
 | []=>.inl O
 | x::l=>by
  unfold dF;split
  .next h=>exact .inr h
  .exact lW g l
/-! ## letters and bytes -/
def ef (l:Iq):Iq:=(aG l).map λb=>(b.toNat:Int)
def dl (l:Iq):Bq:=l.map λx=>UInt8.ofNat x.toNat
def kj(l:Iq):dl (ef l)=aG l:=by
 unfold dl ef;rw[List.map_map];conv=>rhs;rw[<-List.map_id (aG l)]
 congr 1;funext b;simp
def Ox:ef []=[]:=O
def zO(a b:Iq):ef (a++b)=ef a++ef b:=by simp[ef,aG]
def ms{r:Int}(h:0<=r)(a:r<128):ef [r]=[r]:=by unfold ef aG;simp only[List.flatMap_cons,List.flatMap_nil,List.append_nil];unfold encodeRune;rw[encodeRuneZ_one h oq];simp;omega
theorem zX{r:Int}(h:128<=r):ef [r]≠[]/\∀y∈ef [r],128<=y:=by
 have e:∀x∈encodeRuneZ r,128<=x/\x<256:=by intro x a;refine⟨?_,(encodeRuneZ_byte r x a).2⟩;unfold encodeRuneZ at a;grind
 have b:=(encodeRuneZ_length r).1;unfold ef aG;simp only[List.flatMap_cons,List.flatMap_nil,List.append_nil];unfold encodeRune;refine⟨?_,?_⟩
 .intro d
  have:=congrArg List.length d;simp at this;rw[this] at b;simp at b
 .intro y c;simp only[List.map_map,List.mem_map,Function.comp] at c;obtain⟨x,a,rfl⟩:=c;obtain⟨f,g⟩:=e x a;have:x.toNat.toUInt8.toNat=x.toNat:=by simp;omega
  rw[this];omega
def bH (l:Iq):Prop:=∀r∈l,0<=r
def bH.tl{r:Int}{l:Iq}(h:bH (r::l)):bH l:=λx a=>h x<|Oa _ a
def bH.iO{g:Iq->Bool}{l:Iq}(h:bH l):bH (dF g l).2:=λx a=>h x<|by rw[<-eg g l];exact GF _ a
def bH.VJ{g:Iq->Bool}{l:Iq}(h:bH l):bH (dF g l).1:=λx a=>h x<|by rw[<-eg g l];exact yC _ a
def bH.tail{l:Iq}(h:bH l):bH l.tail:=λx a=>h x<|List.mem_of_mem_tail a
def bH.drop{l:Iq}(h:bH l)(n:Nat):bH (l.drop n):=λx a=>h x<|List.mem_of_mem_drop a
def fc(r:Int)(l:Iq):ef (r::l)=ef [r]++ef l:=zO [r] l
def vR{l:Iq}(h:bH l):ei (ef l)=ei l\/(128<=ei l/\128<=ei (ef l)):=by
 cases l with
 | nil=>exact .inl O
 | cons r l =>
  rw[fc];by_cases c:r<128
  .rw[ms (h r iq) c];exact .inl O
  .have⟨a,b⟩:=zX (r:=r) oq;refine .inr ⟨by show 128<=r;omega,?_⟩;cases hb:ef [r] with
   | nil=>exact absurd hb a
   | cons y t=>exact b y<|by rw[hb];simp
def fF{l:Iq}(h:bH l)(a:ei l<128):(ef l).tail=ef l.tail:=by
 cases l with
 | nil=>rfl
 | cons r l=>rw[fc,ms (h r iq) a];rfl
def nw{l:Iq}(h:bH l):ef l=[]↔l=[]:=by
 cases l with
 | nil=>simp[Ox]
 | cons r l =>
  rw[fc];by_cases a:r<128
  .rw[ms (h r iq) a];simp
  .have:=(zX (r:=r) oq).1;simp[this]
def vA{g:Iq->Bool}:∀(a b:Iq),(∀y∈a,128<=y)->(∀y t,128<=y->g (y::t)=false)->dF g (a++b)=(a++(dF g b).1,(dF g b).2)
 | [],b,_,_=>rfl
 | y::a,b,h,hg=>by
  rw[List.cons_append];conv=>lhs;unfold dF
  rw[iw (by rw[hg y _ (h y iq)];simp),(vA a b (λz c=>h z<|by simp[c]) hg)];rfl
def pJ{g g':Iq->Bool}(b:∀l,bH l->l≠[]->g' (ef l)=g l)(c:∀r l,128<=r->g (r::l)=false->∀y t,128<=y->g' (y::t)=false):∀l,bH l->dF g' (ef l)=(ef (dF g l).1,ef (dF g l).2)
 | [],_=>rfl
 | r::l,h=>by
  have e:=b (r::l) h iq;have f:=pJ b c l h.tl;by_cases a:r<128
  .rw[fc,ms (h r iq) a] at e |-;rw[List.singleton_append] at e |-;unfold dF;rw[e];split
   .rw[fc,ms (h r iq) a];rfl
   .rw[f,fc r,ms (h r iq) a];rfl
  .have d:=zX (r:=r) oq;cases Yn:g (r::l) with
   | true =>
    rw[Yn] at e;rw[fc] at e |-;cases hb:ef [r] with
    | nil=>exact absurd hb d.1
    | cons y t =>rw[hb,List.cons_append] at e;rw[List.cons_append];unfold dF;rw[ip e,ip Yn];show([],_)=(ef [],ef (r::l));rw[fc,hb];rfl
   | false =>
    rw[fc,vA _ _ d.2<|c r l oq Yn,f];conv=>rhs;unfold dF
    rw[iw (by rw[Yn];simp)];show _=(ef _,_);rw[fc r (dF g l).1]
/-! ## what is asked of the first signs -/
section
variable {l:Iq}
def jO{l:Bq}(h:(l.all λb=>decide (b.toNat<128))=true:=by decide):uh l:=λb a=>by have:=aT.1 h b a;simpa using this
def tG{x:Int}{b:UInt8}(a:b.toNat<128)(h:dC x=(b.toNat:Nat)):x<128:=by unfold dC at h;split at h<;>omega
def BZ(h:bH l){c:Int}(a:c<128):(ei (ef l)==c)=(ei l==c):=by
 rcases vR h with e|⟨h1,h2⟩
 .rw[e]
 .rw[bF.2 oq,bF.2 oq]
def z8(h:bH l){c:Int}(a:c<128):ei (ef l)=c↔ei l=c:=by
 rcases vR h with e|⟨h1,h2⟩
 .rw[e]
 .omega
def pT{x:Int}{st:Bq}(a:uh st)(d:128<=x):da x st=false:=by
 unfold da;rw[List.any_eq_false];intro b c
 have:=a b c;simp;omega
def EK{st:Bq}(a:uh st)(h:bH l):da (ei<|ef l) st=da (ei l) st:=by
 rcases vR h with e|⟨h1,h2⟩
 .rw[e]
 .rw[pT a h1,pT a h2]
def BD{x:Int}(a:128<=x):eW x=false:=by unfold eW dC;rw[iw oq];simp;omega
def BC(h:bH l):eW (ei<|ef l)=eW (ei l):=by
 rcases vR h with e|⟨h1,h2⟩
 .rw[e]
 .rw[BD h1,BD h2]
def tp:∀{t:Bq} {l:Iq},uh t->bH l->dg (ef l) t=dg l t
 | [],_,_,_=>rfl
 | b::t,l,ht,h=>by
  have hb:=ht b iq;unfold dg;rcases vR h with e|⟨h1,h2⟩
  .rw[e];by_cases a:dC (ei l)=(b.toNat:Nat)
   .rw[fF h (tG hb a),tp (λx f=>ht x<|by simp[f]) h.tail]
   .rw[bF.2 a];rfl
  .have c:¬dC (ei l)=(b.toNat:Nat):=λe=>by have:=tG hb e;omega
   have d:¬dC (ei<|ef l)=(b.toNat:Nat):=λe=>by have:=tG hb e;omega
   rw[bF.2 c,bF.2 d];rfl
def KJ(h:bH l):(ef l).isEmpty=l.isEmpty:=by
 have:=nw h;cases l with
 | nil=>rfl
 | cons x l=>cases hb:ef _ with
  | nil=>simp[hb] at this
  | cons y t=>rfl
def XG(h:bH l):M3 (ef l)=M3 l:=by unfold M3;rw[BC h,BZ h dq,KJ h]
def Kb(h:bH l):dx (ef l)=dx l:=by
 unfold dx;rw[BZ h dq];cases h1:ei l==60
 .rfl
 .have e:=eq_of_beq h1;have a:=fF h oq;rw[a,BC h.tail,BZ h.tail dq,tp jO h.tail,tp jO h.tail,BZ h.tail dq,BZ h.tail dq];cases h2:ei l.tail==47
  .rfl
  .rw[fF h.tail (by have:=eq_of_beq h2;omega),XG h.tail.tail]
def Gn{x:Int}{l:Iq}:ei (x::l)=x:=O
def R6{y:Int}{t:Iq}(a:128<=y):dx (y::t)=0:=by unfold dx;rw[Gn,bF.2 oq];rfl
def Ep{y:Int}{t:Iq}{b:UInt8}{u:Bq}(a:b.toNat<128)(c:128<=y):dg (y::t) (b::u)=false:=by
 unfold dg;have:¬dC (ei (y::t))=(b.toNat:Nat):=λe=>by have:=tG a e;rw[Gn] at this;omega
 rw[bF.2 this];rfl
def QU(h:bH l):pK (ef l)=pK l:=by unfold pK;rw[tp jO h,tp jO h]
def rG:∀{n:Nat} {l:Iq},bH l->(∀r∈l.take n,r<128)->(ef l).drop n=ef (l.drop n)
 | 0,_,_,_=>rfl
 | n+1,[],_,_=>rfl
 | n+1,r::l,h,hr=>by rw[fc,ms (h r iq)<|hr r iq];exact rG h.tl λx a=>hr x<|by simp[a]
def oW:∀{t:Bq} {l:Iq},uh t->dg l t=true->∀r∈l.take t.length,r<128
 | [],_,_,_,r,hr=>by simp at hr
 | b::t,l,ht,h,r,hr=>by
  unfold dg at h;rw[vy] at h;cases l with
  | nil=>simp at hr
  | cons x l =>
   have:=tG (ht b iq)<|eq_of_beq h.1;simp only[lC,List.take_succ_cons,pS] at hr;rcases hr with rfl|hr
   .exact this
   .exact oW (λy a=>ht y<|by simp[a]) h.2 r hr
def OP{nm:Bq}(d:uh nm)(h:bH l):fS nm (ef l)=fS nm l:=by
 have c:uh (60::47::nm):=by intro b a;simp at a;rcases a with rfl|rfl|a<;>first|decide|exact d b a
 unfold fS;rw[tp c h];cases h1:dg l _
 .rfl
 .rw[rG h (by have:=oW c h1;simpa using this),EK jO<|h.drop _]
/-! ## cuts -/
def sH{st:Bq}(a:uh st)(h:bH l):dm st (ef l)=(ef (dm st l).1,ef (dm st l).2) :=
 pJ (λl h _=>EK a h) (λ_ _ _ _ y t b=>by rw[Gn];exact pT a b) l h
def G5{st:Bq}(a:uh st)(h:bH l):fM st (ef l)=(ef (fM st l).1,ef (fM st l).2) :=
 pJ (λl h _=>by rw[EK a h]) (λr l c b=>by rw[Gn,pT a c] at b;cases b) l h
def XW(h:bH l):ze (ef l)=(ef (ze l).1,ef (ze l).2) :=
 pJ (λl h _=>by rw[Kb h]) (λ_ _ _ _ y t a=>by rw[R6 a];rfl) l h
def Sc(h:bH l):dF (λl=>!(pK l).isEmpty) (ef l)=(ef (dF (λl=>!(pK l).isEmpty) l).1,ef (dF (λl=>!(pK l).isEmpty) l).2) :=
 pJ (λl h _=>by rw[QU h]) (λ_ _ _ _ y t a=>by unfold pK;rw[Ep dq a,Ep dq a];rfl) l h
def Su{nm:Bq}(a:uh nm)(h:bH l):dF (fS nm) (ef l)=(ef (dF (fS nm) l).1,ef (dF (fS nm) l).2) :=
 pJ (λl h _=>OP a h) (λ_ _ _ _ y t b=>by unfold fS;rw[Ep dq b];rfl) l h
end
section
variable {l:Iq}{e:Iq->Bq}{lo:Bq->Bq}{wr:Bq->Int->Bq}
def GG{x:Int}{st:Bq}(a:uh st)(h:da x st=true):x<128:=by
 by_cases b:x<128
 .exact b
 .rw[pT a oq] at h;cases h
def Ht{st:Bq}(a:uh st):ei (dm st l).2<128:=by
 rcases lW (λl=>da _ st) l with h|h
 .show ei (dF _ l).2<128;rw[h];decide
 .exact GG a h
def UM(h:bH l):nY dl (ef l)=((nY aG l).1,ef (nY aG l).2):=by
 unfold nY;simp only[z8 h (show(34:Int)<128 by decide),z8 h<|show(39:Int)<128 by decide];split
 .have q:bH (dm [34] l.tail).2:=bH.iO h.tail;rw[fF h oq,sH jO h.tail,kj];exact Prod.ext O<|fF q<|Ht jO
 .split
  .have q:bH (dm [39] l.tail).2:=bH.iO h.tail;rw[fF h oq,sH jO h.tail,kj];exact Prod.ext O<|fF q<|Ht jO
  .rw[sH jO h,kj]
def K0{st:Bq}(a:uh st)(h:bH l):(ef l).take 1++(dm st (ef l).tail).1=ef (l.take 1++(dm st l.tail).1)/\(dm st (ef l).tail).2=ef (dm st l.tail).2:=by
 cases l with
 | nil=>exact⟨O,O⟩
 | cons r l =>
  have d:=sH a h.tl;by_cases c:r<128
  .rw[fc,ms (h r iq) c];show[r]++(dm st<|ef l).1=ef ([r]++(dm st l).1)/\(dm st<|ef l).2=ef (dm st l).2;rw[d,zO,ms (h r iq) c];exact⟨O,O⟩
  .have b:=zX (r:=r) oq;rw[fc];show _=ef ([r]++(dm st l).1)/\_=ef (dm st l).2;rw[zO];cases hb:ef [r] with
   | nil=>exact absurd hb b.1
   | cons y t =>have f:=vA (g:=λl=>da (ei l) st) t (ef l) (λz j=>b.2 z<|by rw[hb];simp[j])<|λy t i=>pT a i;show[y]++(dm st<|t++ef l).1=y::t++ef (dm st l).1/\(dm st<|t++ef l).2=_;have e:dm st _=(t++(dm st<|ef l).1,(dm st<|ef l).2):=f;rw[e,d];exact⟨O,O⟩
def Oi(h:bH l):jG dl lo wr (ef l)=((jG aG lo wr l).1,ef (jG aG lo wr l).2):=by
 have⟨c,d⟩:=K0 (st:=cz) jO h;have b:bH (dm cz l.tail).2:=bH.iO h.tail;have a:bH (fM aK (dm cz l.tail).2).2:=bH.iO b;have e:=G5 (st:=aK) jO b;unfold jG;rw[c,d,kj,e];simp only[z8 a (show(61:Int)<128 by decide)];split
 .next g =>have f:=G5 (st:=aK) jO a.tail;rw[fF a oq,f];simp only[(UM (l:=(fM aK (fM aK (dm cz l.tail).2).2.tail).2)<|bH.iO a.tail)]
 .rfl
def Qs(h:bH l):bH (nY e l).2:=by
 unfold nY;split
 .exact(bH.iO h.tail).tail
 .split
  .exact(bH.iO h.tail).tail
  .exact bH.iO h
def BI(h:bH l):bH (jG e lo wr l).2:=by
 unfold jG;split
 .exact Qs<|bH.iO (bH.iO<|bH.iO h.tail).tail
 .exact bH.iO<|bH.iO h.tail
def FR:∀{a:Iq},bH a->(∀x∈a,x<128)->ef a=a
 | [],_,_=>rfl
 | r::a,h,h2=>by rw[fc,ms (h r iq)<|h2 r iq,FR h.tl λx b=>h2 x<|by simp[b]];rfl
def FP{g:Iq->Bool}{P:Int->Prop}(a:∀x l,g (x::l)=false->P x):∀l,∀x∈(dF g l).1,P x
 | [],x,hx=>by cases hx
 | y::l,x,hx=>by
  unfold dF at hx;split at hx
  .cases hx
  .next h =>
   rcases pS.1 hx with rfl|hx
   .exact a _ l<|by simpa using h
   .exact FP a l x hx
def Uk{st:Bq}(a:uh st):∀x∈(fM st l).1,x<128:=FP (λx l h=>GG a<|by simpa[ei] using h) l
def Np:∀{n:Nat} {l:Iq} {a:jE},bH l->iT dl lo wr n (ef l) a=(iT aG lo wr n l a).map λp=>(p.1,p.2.1,ef p.2.2)
 | 0,_,_,_=>rfl
 | n+1,l,a,h=>by
  have s1:=G5 (st:=bL) jO h;have b:bH (fM bL l).2:=bH.iO h;unfold iT;rw[s1];simp only[nw b,z8 b<|show(62:Int)<128 by decide];split
  .rfl
  .split
   .next d =>have c:ef (fM bL l).1=(fM bL l).1:=FR (bH.VJ h)<|Uk jO;rw[fF b oq,c];rfl
   .rw[Oi b];exact Np<|BI b
def ml{st:Bq}:(dm st l).2.length<=l.length:=td _ l
def sy{st:Bq}:(fM st l).2.length<=l.length:=td _ l
def RH:l.tail.length=l.length-1:=iq
def NS:(nY e l).2.length<=l.length:=by
 unfold nY;have a:=ml (l:=l.tail) (st:=[34]);have b:=ml (l:=l.tail) (st:=[39]);split
 .simp only[List.length_tail] at a |-;omega
 .split
  .simp only[List.length_tail] at b |-;omega
  .exact (ml)
def uZ(h:l≠[]):(jG e lo wr l).2.length<l.length:=by
 have c:=EA.2 h;have a:=ml (l:=l.tail) (st:=cz);have d:=sy (l:=(dm cz l.tail).2) (st:=aK);have b:=sy (l:=(fM aK (dm cz l.tail).2).2.tail) (st:=aK);have f:=NS (e:=e) (l:=(fM aK (fM aK (dm cz l.tail).2).2.tail).2);simp only[List.length_tail] at a b;unfold jG;split
 .show(nY e _).2.length<_;omega
 .show(fM aK _).2.length<_;omega
def C6:∀(n m:Nat) (l:Iq) (c:jE),l.length<n->l.length<m->iT e lo wr n l c=iT e lo wr m l c
 | 0,_,_,_,h,_=>by omega
 | _+1,0,_,_,_,h=>by omega
 | n+1,m+1,l,c,h,h2=>by
  unfold iT;split
  .rfl
  .next h3 =>
   split
   .rfl
   .have a:=uZ (e:=e) (lo:=lo) (wr:=wr) h3;have b:=sy (l:=l) (st:=bL);exact C6 n m _ _ oq oq
def Nr:∀{n:Nat} {l:Iq} {c:jE} {p:jE × Bool × Iq},iT e lo wr n l c=some p->p.2.2.length<l.length
 | 0,_,_,_,h=>by cases h
 | n+1,l,c,p,h=>by
  have b:=sy (l:=l) (st:=bL);unfold iT at h;split at h
  .cases h
  .next d =>
   have f:=EA.2 d;split at h
   .cases h;show(fM bL l).2.tail.length<_;simp only[List.length_tail];omega
   .have a:=uZ (e:=e) (lo:=lo) (wr:=wr) d
    have:=Nr h;omega
def vq:∀{n:Nat} {l:Iq} {a:jE} {p:jE × Bool × Iq},bH l->iT e lo wr n l a=some p->bH p.2.2
 | 0,_,_,_,_,h=>by cases h
 | n+1,l,a,p,hp,h=>by
  have p1:bH (fM bL l).2:=bH.iO hp;unfold iT at h;split at h
  .cases h
  .split at h
   .cases h;exact p1.tail
   .exact vq (BI p1) h
def EE:∀{l:Iq},bH l->l.length<=(ef l).length
 | [],_=>l8 _
 | r::l,h=>by
  have:=EE h.tl;rw[fc,lA,lC];have:=EA.2 λe=>by have:=(nw (l:=[r])<|λx a=>h x<|by simp at a;simp[a]).1 e;cases this
  omega
def GI(h:bH l):ji dl lo (ef l)=ji aG lo l:=by unfold ji;rw[sH jO h,kj]
def RE(h:bH l):vr dl lo wr (ef l)=(vr aG lo wr l).map λp=>(p.1,p.2.1,ef p.2.2):=by have q:bH (dm bE l).2:=bH.iO h;have b:=ml (l:=l) (st:=bE);have c:=EE h;unfold vr;rw[sH jO h];show iT dl lo wr _ _ []=_;rw[Np q,C6 _ (l.length+1) _ _ oq oq]
end
def SS.im(x:SS):SS:=⟨ef x.l,x.tx,x.us⟩
section
variable {x:SS}{l:Iq}{e:Iq->Bq}{lo:Bq->Bq}{wr:Bq->Int->Bq}
def Kf{a b:Bq}(h:ce a b=true):a=b:=(eS a b).1 h
def Pf{nm:Bq}(h:om nm=true):uh nm:=by unfold om ff at h;simp only[qR,dW,List.any_cons,List.any_nil,Bool.or_false,FM] at h;rcases h with (h|h)|(h|h)<;>(rw[Kf h];exact jO)
def M9(h:bH x.l)(b:ei x.l<128):jy dl lo wr x.im=(jy aG lo wr x).im:=by
 unfold jy SS.im;simp only[fF h b,RE h.tail,GI h.tail];cases ht:vr aG lo wr x.l.tail with
 | none=>rfl
 | some p =>
  have⟨a,c,r⟩:=p;have d:=vq (bH.iO h.tail) ht;simp only[Option.map_some];cases hi:om _ with
  | false=>rfl
  | true =>simp only[Su (Pf hi) d,kj,cond_true]
def KU(h:bH x.l)(a:ei x.l<128)(b:ei x.l.tail<128):lY dl lo wr x.im=(lY aG lo wr x).im:=by
 unfold lY SS.im;simp only[fF h a,fF h.tail b,RE h.tail.tail,GI h.tail.tail];cases ht:vr aG lo wr x.l.tail.tail with
 | none=>rfl
 | some p=>rfl
def EN(h:bH l):tM dl (ef l) x.im=(tM aG l x).im:=by have q:bH (dm [62] l).2:=bH.iO h;unfold tM SS.im;simp only[sH (st:=[62]) jO h,kj,fF q<|Ht jO]
def vP{b:UInt8}{t:Bq}(a:b.toNat<128)(h:dg l (b::t)=true):ei l<128/\dg l.tail t=true:=by unfold dg at h;rw[vy] at h;exact⟨tG a<|eq_of_beq h.1,h.2⟩
def Hk:∀{n:Nat} {l:Iq},(∀i,i<n->ei (l.drop i)<128)->∀r∈l.take n,r<128
 | 0,_,_,r,hr=>by simp at hr
 | n+1,[],_,r,hr=>by simp at hr
 | n+1,y::l,h,r,hr=>by
  rcases pS.1 hr with rfl|hr
  .exact h 0 oq
  .exact Hk (λi a=>h (i+1) oq) r hr
def Sd(h:bH x.l)(u:ei x.l<128)(v:dg x.l.tail [33,45,45]=true):HY dl x.im=(HY aG x).im:=by
 have⟨e,j⟩:=vP dq v;have⟨f,k⟩:=vP dq j;have⟨g,_⟩:=vP dq k;have d:x.l.drop 2=x.l.tail.tail:=by cases hx:x.l with|nil=>rfl|cons y t=>cases t<;>rfl
 have s:(ef x.l).drop 2=ef (x.l.drop 2):=by
  have:(ef x.l).drop 2=(ef x.l).tail.tail:=by cases hx:ef x.l with|nil=>rfl|cons y t=>cases t<;>rfl
  rw[this,fF h u,fF h.tail e,d]
 have q:=h.drop 2;unfold HY SS.im;simp only[s,Sc q,QU<|bH.iO q];generalize c:dF (λl=>!(pK l).isEmpty) _=p;have b:p.1++p.2=x.l.drop 2:=by rw[<-c];exact eg _ _
 have z:bH p.1:=by rw[<-c];exact bH.VJ q
 have A:bH p.2:=by rw[<-c];exact bH.iO q
 have m:=rG z λr a=>by
  have:r∈(x.l.drop 2).take 2:=by rw[<-b,List.take_append];exact yC _ a
  refine Hk (n:=2) (λi w=>?_) r this;rw[d];match i,w with
  | 0,_=>exact f
  | 1,_=>rw[List.drop_one];exact g
 have o:(ef p.2).drop (pK p.2).length=ef _:=rG A λr a=>by
  unfold pK at a;cases g1:dg p.2 [45,45,62] with
  | true=>rw[g1] at a;exact oW jO g1 r a
  | false =>
   rw[g1] at a;cases g2:dg p.2 [45,45,33,62] with
   | true=>rw[g2] at a;exact oW jO g2 r a
   | false=>rw[g2] at a;simp at a
 rw[m,o,kj]
def So(h:bH x.l)(b:ei x.l<128)(c:dg x.l.tail JG=true):H7 dl lo x.im=(H7 aG lo x).im:=by
 have f:(ef x.l).drop 9=ef _:=rG h λr a=>by
  cases hx:x.l with
  | nil=>rw[hx] at a;simp at a
  | cons y t =>
   rw[hx] at a b c;rcases pS.1 a with rfl|a
   .exact b
   .exact oW jO c r a
 have q:=h.drop 9;have d:bH (fM aK<|x.l.drop 9).2:=bH.iO q;have e:bH (dm (aK++[62]) (fM aK<|x.l.drop 9).2).2:=bH.iO d;have g:bH (dm [62] (dm _ (fM aK<|x.l.drop 9).2).2).2:=bH.iO e;unfold H7 SS.im;simp only[f,G5 (st:=aK) jO q,sH (st:=aK++[62]) jO d,sH (st:=[62]) jO e,kj,fF g<|Ht jO]
def R5(h:dx l≠0):ei l=60:=by
 unfold dx at h;cases h1:ei l==60
 .rw[h1] at h;exact absurd O h
 .exact eq_of_beq h1
theorem Kd(h:dx l≠0):ei l=60/\((dx l=2\/dx l=3\/dx l=4)->ei l.tail=47)/\(dx l=3->ei l.tail.tail=62)/\(dx l=5->dg l.tail [33,45,45]=true)/\(dx l=6->dg l.tail JG=true)/\(dx l=7->ei l.tail=33):=by have a:=R5 h;refine⟨a,?_⟩;unfold dx M3;rw[a];simp only[BEq.rfl,cond_true];cases h1:eW _<;>cases h2:ei l.tail==47<;>cases h3:dg l.tail [33,45,45]<;>cases h4:dg l.tail JG<;>cases h5:ei l.tail==33<;>cases h6:ei l.tail==63<;>cases h7:eW _<;>cases h8:ei l.tail.tail==62<;>cases h9:l.tail.tail.isEmpty<;>simp_all
def Qb(h:bH x.l):gA dl lo wr x.im=(gA aG lo wr x).im:=by
 have p:dx x.im.l=dx x.l:=Kb h;have k:ei x.l<128->(ef x.l).drop 1=ef (x.l.drop 1):=λg=>by rw[List.drop_one,List.drop_one];exact fF h g
 have f:ei x.l<128->ei x.l.tail<128->(ef x.l).drop 2=ef (x.l.drop 2):=λg c=>by
  have a:∀l:Iq,l.drop 2=l.tail.tail:=λl=>by cases l with|nil=>rfl|cons y t=>cases t<;>rfl
  rw[a,a,fF h g,fF h.tail c]
 have m:ei x.l<128->ei x.l.tail<128->ei x.l.tail.tail<128->(ef x.l).drop 3=ef (x.l.drop 3):=λg c o=>by
  have a:∀l:Iq,l.drop 3=l.tail.tail.tail:=λl=>by cases l with|nil=>rfl|cons y t=>cases t with|nil=>rfl|cons z t=>cases t<;>rfl
  rw[a,a,fF h g,fF h.tail c,fF h.tail.tail o]
 unfold gA;rw[p];by_cases d:dx x.l=0
 .rw[d];unfold SS.im;simp only[XW h,kj]
 .have⟨r,b,c2,c3,i,j⟩:=Kd d;generalize s:dx x.l=n at *;match n with
  | 0=>exact absurd O d
  | 1=>exact M9 h oq
  | 2=>exact KU h oq<|by have:=b iq;omega
  | 3 =>have e:=b iq;show(⟨(ef x.l).drop 3,x.tx,x.us⟩:SS)=_;rw[m oq oq oq];rfl
  | 4 =>have e:=b iq;show tM dl ((ef x.l).drop 2) x.im=_;rw[f oq oq];exact EN<|h.drop 2
  | 5=>exact Sd h oq<|c3 O
  | 6=>exact So h oq<|i O
  | 7 =>have e:=j O;show tM dl ((ef x.l).drop 2) x.im=_;rw[f oq oq];exact EN<|h.drop 2
  | n+8 =>show tM dl ((ef x.l).drop 1) x.im=_;rw[k oq];exact EN<|h.drop 1
def At(h:bH l):bH (tM e l x).l:=(bH.iO h).tail
def I6(h:bH x.l):bH (jy e lo wr x).l:=by
 unfold jy;cases ht:vr e lo wr x.l.tail with
 | none=>intro r b;cases b
 | some p =>
  have⟨a,c,r⟩:=p;have b:=vq (bH.iO h.tail) ht;simp only;cases om _ with
  | false=>exact b
  | true=>exact bH.iO b
def OQ(h:bH x.l):bH (lY e lo wr x).l:=by
 unfold lY;cases ht:vr e lo wr x.l.tail.tail with
 | none=>intro r a;cases a
 | some p=>exact vq (bH.iO h.tail.tail) ht
def step_pos(h:bH x.l):bH (gA e lo wr x).l:=by
 unfold gA;split
 .exact bH.iO h
 .exact I6 h
 .exact OQ h
 .exact h.drop 3
 .exact At<|h.drop 2
 .exact(bH.iO<|h.drop 2).drop _
 .exact(bH.iO<|bH.iO<|bH.iO<|h.drop 9).tail
 .exact At<|h.drop 2
 .exact At<|h.drop 1
def MB:∀{n:Nat} {x:SS},bH x.l->lR dl lo wr n x.im=(lR aG lo wr n x).im
 | 0,_,_=>rfl
 | n+1,x,h=>by
  unfold lR;have e1:x.im.l=[]↔x.l=[]:=nw h;simp only[e1];split
  .rfl
  .rw[Qb h,MB<|step_pos h]
def Hl{p:jE × Bool × Iq}(h:vr e lo wr l=some p):p.2.2.length<l.length:=by
 have:=Nr h
 have:=ml (l:=l) (st:=bE);omega
def Na(h:x.l≠[]):(jy e lo wr x).l.length<x.l.length:=by
 have b:=EA.2 h;unfold jy;cases ht:vr e lo wr x.l.tail with
 | none=>exact b
 | some p =>
  have:=Hl ht;have⟨a,c,r⟩:=p;simp only[List.length_tail] at this |-;cases om _ with
  | false=>show r.length<_;omega
  | true=>have:=td (fS<|ji e lo x.l.tail) r;show(dF _ r).2.length<_;omega
def Sv(h:x.l≠[]):(lY e lo wr x).l.length<x.l.length:=by
 have b:=EA.2 h;unfold lY;cases ht:vr e lo wr x.l.tail.tail with
 | none=>exact b
 | some p =>have:=Hl ht;have⟨a,c,r⟩:=p;simp only[List.length_tail] at this;show r.length<_;omega
def EP{n:Nat}(h:x.l≠[])(b:0<n):(tM e (x.l.drop n) x).l.length<x.l.length:=by
 have a:=EA.2 h
 have:=ml (l:=x.l.drop n) (st:=[62]);show(dm [62]<|x.l.drop n).2.tail.length<_;simp only[List.length_tail,List.length_drop] at this |-;omega
def XX(h:l≠[])(a:dx l=0):(ze l).2.length<l.length:=by
 cases l with
 | nil=>exact absurd O h
 | cons y l =>
  unfold ze dF;rw[iw (by rw[a];simp)]
  have:=td (λl=>dx l != 0) l;show(dF _ l).2.length<_;simp only[lC];omega
def Hf(h:x.l≠[]):(gA e lo wr x).l.length<x.l.length:=by
 have f:=EA.2 h;unfold gA;split
 .next b=>exact XX h b
 .exact Na h
 .exact Sv h
 .show(x.l.drop 3).length<_;simp only[List.length_drop];omega
 .exact EP h dq
 .have:=td (λl=>!(pK l).isEmpty)<|x.l.drop 2;unfold HY;simp only[List.length_drop] at this |-;omega
 .have a:=sy (l:=x.l.drop 9) (st:=aK);have c:=ml (l:=(fM aK<|x.l.drop 9).2) (st:=aK++[62]);have d:=ml (l:=(dm (aK++[62]) (fM aK<|x.l.drop 9).2).2) (st:=[62]);unfold H7;simp only[List.length_drop,List.length_tail] at a |-;omega
 .exact EP h dq
 .exact EP h dq
def wH:∀(n m:Nat) (x:SS),x.l.length<n->x.l.length<m->lR e lo wr n x=lR e lo wr m x
 | 0,_,_,h,_=>by omega
 | _+1,0,_,_,h=>by omega
 | n+1,m+1,x,h,h2=>by
  unfold lR;split
  .rfl
  .next h3 =>have:=Hf (e:=e) (lo:=lo) (wr:=wr) h3;exact wH n m _ oq oq
def UA(h:bH l):uS dl lo wr (ef l)=uS aG lo wr l:=by
 have c:=wH (e:=aG) (lo:=lo) (wr:=wr) ((ef l).length+1) (l.length+1) ⟨l,[],[]⟩ (by have:=EE h;show l.length<_;omega) (by show l.length<_;omega);unfold uS;show cZ (lR dl lo wr _<|SS.im ⟨l,[],[]⟩).tx _=_;have a:lR dl lo wr ((ef l).length+1) ⟨ef l,[],[]⟩=(lR aG lo wr (l.length+1) ⟨l,[],[]⟩).im:=by rw[<-c];exact (MB (x:=⟨l,[],[]⟩) h)
 show cZ (lR dl lo wr _ ⟨ef l,[],[]⟩).tx _=_;rw[a];rfl
end
section
variable {all:Iq}{k:Nat}{st nm:Bq}{lo:Bq->Bq}{wr:Bq->Int->Bq}
def j9:ei (all.drop k)=dG all k:=by unfold ei dG;rw[List.headD_eq_head?_getD,List.head?_drop]
def tail_drop:(all.drop k).tail=all.drop (k+1):=by rw[List.tail_drop]
def LR(h:bH all):dG all k = -1↔all.drop k=[]:=by
 unfold dG;cases hk:all[k]? with
 | none =>simp only[Option.getD_none,true_iff];exact List.drop_eq_nil_of_le<|List.getElem?_eq_none_iff.1 hk
 | some r =>
  have b:=h r<|mG hk;have⟨a,_⟩:=gS.1 hk;constructor
  .intro e;simp at e;omega
  .intro e
   have:=congrArg List.length e;simp at this;omega
def gL(g:Iq->Bool):cV all k (k+(dF g<|all.drop k).1.length)=aG (dF g<|all.drop k).1/\all.drop (k+(dF g<|all.drop k).1.length)=(dF g<|all.drop k).2:=by have h:=eg g<|all.drop k;generalize dF g _=p at h;unfold cV;rw[Nat.add_sub_cancel_left,<-List.drop_drop,<-h];simp
def D3(f:Int->Bool)(a:∀x,f x=true\/f x=false):∀l:Iq,(dF (λl=>!f (ei l)) l).1=l.takeWhile f
 | []=>rfl
 | x::l=>by
  unfold dF;rw[List.takeWhile_cons];show(if (!f x)=true then (([],x::l):Iq × Iq) else _).1=_;cases f x
  .rfl
  .show x::_=x::_;rw[D3 f a l]
def NO:gR all st k=k+(dm st<|all.drop k).1.length:=by
 unfold gR dm
 have:=D3 (λx=>!da x st) (λx=>by cases da x st<;>simp)<|all.drop k;simp only[Bool.not_not] at this;rw[this]
def Rx:mA all st k=k+(fM st<|all.drop k).1.length:=by unfold mA fM;rw[D3 (λx=>da x st) (λx=>by cases da x st<;>simp) _]
def sI:all.drop (gR all st k)=(dm st<|all.drop k).2:=by rw[NO];exact(gL _).2
def y8:cV all k (gR all st k)=aG (dm st<|all.drop k).1:=by rw[NO];exact(gL _).1
def G6:all.drop (mA all st k)=(fM st<|all.drop k).2:=by rw[Rx];exact(gL _).2
def tt:∀{t:Bq} {k:Nat},kS all k t=dg (all.drop k) t
 | [],_=>rfl
 | b::t,k=>by unfold kS dg;rw[j9,tail_drop,tt]
def XH(h:bH all):Ve all k=M3 (all.drop<|k+2):=by
 unfold Ve M3;rw[j9];have:(dG all (k+2) == -1)=(all.drop<|k+2).isEmpty:=by
  have:=LR (k:=k+2) h;cases hd:all.drop _ with
  | nil=>rw[this.2 hd];rfl
  | cons x l=>rw[bF.2 (λe=>by rw[this.1 e] at hd;cases hd)];rfl
 rw[this]
def Ke(h:bH all):mI all k=dx (all.drop k):=by unfold mI dx;rw[tail_drop,tail_drop,j9,j9,XH h,tt,tt]
def QV:Bf all k=pK (all.drop k):=by unfold Bf pK;rw[tt,tt]
def Sw:Eg all k nm=fS nm (all.drop k):=by unfold Eg fS;rw[tt,List.drop_drop,j9]
def vu(h:bH all){g:Nat->Bool}{G:Iq->Bool}(a:∀j,g j=G (all.drop j)):∀(n k:Nat),all.length<k+n->Qq (λj=>dG all j == -1||g j) n k=k+(dF G<|all.drop k).1.length
 | 0,k,hk=>by rw[List.drop_eq_nil_of_le oq];rfl
 | n+1,k,hk=>by
  unfold Qq;cases hd:all.drop k with
  | nil=>rw[(LR h).2 hd];rfl
  | cons x l =>
   have hn:dG all k ≠ -1:=λe=>by rw[(LR h).1 e] at hd;cases hd
   rw[bF.2 hn,Bool.false_or,a,hd];unfold dF;split
   .rfl
   .have e:l=all.drop (k+1):=by rw[<-tail_drop,hd];rfl
    rw[vu h a n _ oq,e];show _=k+(x::_).length;rw[lC];omega
def AU(h:bH all){g:Nat->Bool}{G:Iq->Bool}(a:∀j,g j=G (all.drop j)):wT all g k=k+(dF G<|all.drop k).1.length:=vu h a _ k oq
def UN:(kH all k).1=(nY aG<|all.drop k).1/\all.drop (kH all k).2=(nY aG<|all.drop k).2:=by
 unfold kH nY;rw[j9,tail_drop];split
 .exact⟨y8,by show all.drop _=_;rw[<-tail_drop,sI]⟩
 .split
  .exact⟨y8,by show all.drop _=_;rw[<-tail_drop,sI]⟩
  .exact⟨y8,sI⟩
def Oj:(jF all lo wr k).1=(jG aG lo wr<|all.drop k).1/\all.drop (jF all lo wr k).2=(jG aG lo wr<|all.drop k).2:=by
 have b:cV all k (nk all k)=aG ((all.drop k).take 1++(dm cz<|all.drop<|k+1).1):=by have h:=eg (λl=>da (ei l) cz)<|all.drop<|k+1;unfold nk;rw[NO];show cV all k (k+1+(dF _ _).1.length)=aG (_++(dF _ _).1);generalize dF (λl=>da (ei l) cz) _=p at h;unfold cV;congr 1;rw[show k+1+p.1.length-k=1+p.1.length by omega,List.take_add,List.drop_drop,<-h];simp
 have a:all.drop (xK all k)=(fM aK (dm cz<|all.drop<|k+1).2).2:=by unfold xK nk;rw[G6,sI]
 have c:all.drop (uX all k)=(fM aK (fM aK (dm cz<|all.drop<|k+1).2).2.tail).2:=by unfold uX;rw[G6,<-tail_drop,a]
 have⟨d,e⟩:=UN (all:=all) (k:=uX all k);unfold jF jG;rw[tail_drop,b,<-a,j9];split
 .rw[a,<-c,d];exact⟨O,e⟩
 .exact⟨O,O⟩
def M4:tR all k=((fM bL<|all.drop k).1.getLast?==some 47):=by
 have h:=eg (λl=>!da (ei l) bL)<|all.drop k;unfold tR;rw[show mA all _ k=k+(fM bL<|all.drop k).1.length from Rx];unfold fM;generalize dF (λl=>!da _ bL) _=p at h;have⟨a,b⟩:=p;simp only at h;cases ha:a with
 | nil=>simp
 | cons x t =>
  have e:dG all (k+(x::t).length-1)=(x::t).getLast iq:=by unfold dG;rw[show k+(x::t).length-1=k+t.length by simp,<-OG,<-h,ha,UY iq];rw[List.getLast_eq_getElem];simp
  rw[e,List.getLast?_eq_getLast iq];simp
def Ns(h:bH all):∀{n k:Nat} {b:jE} {m:Nat} {a:jE} {c w:Bool} {k':Nat},(all.drop k).length<m->ou all lo wr n k b=some (a,c,w,k')->(w=true->iT aG lo wr m (all.drop k) b=some (a,c,all.drop k'))/\(w=false->iT aG lo wr m (all.drop k) b=none/\all.drop k'=[])
 | 0,_,_,_,_,_,_,_,_,ht=>by cases ht
 | _+1,_,_,0,_,_,_,_,hm,_=>by omega
 | n+1,k,b,m+1,a,c,w,k',hm,ht=>by
  have e1:all.drop (mA all bL k)=(fM bL<|all.drop k).2:=G6;unfold ou at ht;unfold iT;rw[<-e1,j9];have f:=LR (k:=mA all bL k) h;split at ht
  .next d =>cases ht;rw[ip (f.1 d)];exact⟨λe=>(by cases e),λ_=>⟨O,f.1 d⟩⟩
  .next d =>
   rw[iw (λe=>d<|f.2 e)];split at ht
   .next g =>cases ht;rw[ip g,tail_drop,M4];exact⟨λ_=>O,λe=>(by cases e)⟩
   .next g =>rw[iw g];have⟨j,o⟩:=Oj (all:=all) (lo:=lo) (wr:=wr) (k:=mA all bL k);have i:all.drop _≠[]:=λe=>d<|f.2 e;have p:=uZ (e:=aG) (lo:=lo) (wr:=wr) i;have q:=sy (l:=all.drop k) (st:=bL);rw[<-j,<-o] at *;exact Ns h (by rw[e1] at p;omega) ht
def St.im(all:Iq)(x:St):SS:=⟨all.drop x.k,x.tx,x.us⟩
def GJ:jh all lo k=ji aG lo (all.drop k):=by unfold jh ji;rw[y8]
def RF(h:bH all)(a:k<=all.length):((fN all lo wr k).2.2.1=true->vr aG lo wr (all.drop k)=some ((fN all lo wr k).1,(fN all lo wr k).2.1,all.drop (fN all lo wr k).2.2.2))/\((fN all lo wr k).2.2.1=false->vr aG lo wr (all.drop k)=none/\all.drop (fN all lo wr k).2.2.2=[]):=by
 have⟨b,_⟩:=mZ (lo:=lo) (wr:=wr) a;have c:=ml (l:=all.drop k) (st:=bE)
 have:=Ns (m:=(all.drop k).length+1) h (by rw[sI];omega) b;rw[sI] at this;exact this
def Nb(h:bH all){x:St}(m:x.k+1<=all.length):(wS all lo wr x).im all=jy aG lo wr (x.im all):=by
 have⟨d,e⟩:=RF (lo:=lo) (wr:=wr) h m;unfold wS jy St.im;simp only[tail_drop,<-GJ];generalize o:fN all lo wr _=T at *;have⟨a,c,w,b⟩:=T;simp only at d e |-;cases w with
 | false =>obtain⟨i,l⟩:=e O;rw[i];simp only[Bool.false_and,cond_false,l]
 | true =>
  rw[d O];simp only[Bool.true_and,cond_true];cases hi:om _ with
  | false=>rfl
  | true =>have n:qK all (jh all lo<|x.k+1) b=b+(dF _<|all.drop b).1.length:=AU h λj=>Sw;have⟨f,g⟩:=gL (all:=all) (k:=b)<|fS<|jh all lo<|x.k+1;unfold xr;simp only[n,cond_true,f,g]
def ON(h:bH all){x:St}(g:x.k+2<=all.length):(KO all lo wr x).im all=lY aG lo wr (x.im all):=by
 have⟨b,d⟩:=RF (lo:=lo) (wr:=wr) h g;unfold KO lY St.im;simp only[tail_drop,<-GJ];generalize i:fN all lo wr _=T at *;have⟨a,c,w,j⟩:=T;simp only at b d |-;cases w with
 | false =>obtain⟨e,f⟩:=d O;rw[e];simp only[cond_false,f]
 | true =>rw[b O];rfl
def EQ{x:St}{w:Nat}:(v9 all w x).im all=tM aG ((all.drop x.k).drop w) (x.im all):=by unfold v9 tM St.im;rw[List.drop_drop,y8,<-sI,tail_drop]
def Qc(h:bH all){x:St}(o:dG all x.k ≠ -1):(jM all lo wr x).im all=gA aG lo wr (x.im all):=by
 have s:=jw o;unfold jM gA;rw[show dx (x.im all).l=mI all x.k from(Ke h).symm];have g:mI all x.k=2->x.k+2<=all.length:=λe=>by have:=zI e;have:=jw (by rw[this];decide);omega
 generalize r:mI all x.k=b at *;match b with
 | 0 =>
  have c:Jy all x.k=x.k+(dF (λl=>dx l != 0)<|all.drop x.k).1.length:=AU h λj=>by rw[Ke h]
  have⟨d,a⟩:=gL (all:=all) (k:=x.k)<|λl=>dx l != 0;unfold St.im ze;simp only[c,d,a]
 | 1=>exact Nb h oq
 | 2=>exact ON h<|g O
 | 3 =>unfold St.im;simp only[List.drop_drop]
 | 4=>exact EQ
 | 5 =>
  have c:Dv all x.k=x.k+2+(dF (λl=>!(pK l).isEmpty)<|all.drop<|x.k+2).1.length:=AU h λj=>by rw[QV]
  have⟨d,a⟩:=gL (all:=all) (k:=x.k+2)<|λl=>!(pK l).isEmpty;have i:=eg (λl=>!(pK l).isEmpty)<|all.drop<|x.k+2;rw[<-c] at a;have f:all.drop (Dv all x.k+(Bf all<|Dv all x.k).length)=(dF (λl=>!(pK l).isEmpty)<|all.drop<|x.k+2).2.drop (pK (dF (λl=>!(pK l).isEmpty)<|all.drop<|x.k+2).2).length:=by rw[QV,<-List.drop_drop,a]
  have q:cV all (x.k+4) (Dv all x.k)=aG ((dF (λl=>!(pK l).isEmpty)<|all.drop<|x.k+2).1.drop 2):=by
   rw[c];generalize dF (λl=>!(pK l).isEmpty) _=p at *;unfold cV;congr 1;rw[show x.k+4=x.k+2+2 by omega,<-List.drop_drop,<-i,show x.k+2+p.1.length-(x.k+2+2)=p.1.length-2 by omega];by_cases m:2<=p.1.length
   .rw[List.drop_append_of_le_length m,List.take_append_of_le_length iq,tL iq]
   .rw[show p.1.length-2=0 by omega,List.take_zero,List.drop_eq_nil_of_le oq]
  show(⟨all.drop<|Dv all x.k+(Bf all<|Dv all x.k).length,[],cZ x.tx x.us++[⟨4,cV all (x.k+4)<|Dv all x.k,[],[],false⟩]⟩:SS)=_;unfold HY St.im;rw[f,q];simp only[List.drop_drop]
 | 6 =>unfold H7 St.im Bg F8;simp only[List.drop_drop];rw[y8,<-tail_drop,sI,sI,G6]
 | 7=>exact EQ
 | n+8=>exact EQ
def MC(h:bH all):∀{n:Nat} {x:St},(runK all lo wr n x).im all=lR aG lo wr n (x.im all)
 | 0,_=>rfl
 | n+1,x=>by
  unfold runK lR;have e:(x.im all).l=[]↔dG all x.k = -1:=(LR h).symm;simp only[e];split
  .rfl
  .next a=>rw[MC h,Qc h a]
def UC(h:bH all):wW all lo wr=uS aG lo wr all:=by have:=MC (lo:=lo) (wr:=wr) h (n:=all.length+1) (x:=⟨0,[],[]⟩);unfold wW uS;show cZ _ _=cZ (lR aG lo wr _<|St.im all ⟨0,[],[]⟩).tx (lR aG lo wr _<|St.im all ⟨0,[],[]⟩).us;rw[<-this];rfl
def Jt(h:bH all):wW all lo wr=uS dl lo wr (ef all):=by rw[UA h,UC h]
end
def uR (lo:Bq->Bq)(wr:Bq->Int->Bq)(x:SS):List Tok:=cZ (lR dl lo wr (x.l.length+1) x).tx (lR dl lo wr (x.l.length+1) x).us
def eG (lo:Bq->Bq)(wr:Bq->Int->Bq)(T:List Tok)(l:Iq)(b:List Tok)(a t:Bq):Prop:=uR lo wr ⟨(ze l).2,a++wr (t++dl (ze l).1) 0,b⟩=T
section
variable {T:List Tok}{x:SS}{l:Iq}{out us:List Tok}{told t tx:Bq}{lo:Bq->Bq}{wr:Bq->Int->Bq}
def pY(h:x.l≠[]):uR lo wr x=uR lo wr (gA dl lo wr x):=by
 have a:=Hf (e:=dl) (lo:=lo) (wr:=wr) h;have e:lR dl lo wr (x.l.length+1) x=lR dl lo wr x.l.length (gA dl lo wr x):=by
  conv=>lhs;unfold lR
  rw[iw h]
 unfold uR;rw[e,wH x.l.length ((gA dl lo wr x).l.length+1) _ a oq]
def Da:uR lo wr ⟨[],tx,us⟩=cZ tx us:=O
def UP(h:dx l≠0):ze l=([],l):=by
 cases l with
 | nil=>rfl
 | cons y l =>unfold ze dF;rw[ip (by simpa using h)]
def Qw{c:Int}(h:dx (c::l)=0):ze (c::l)=(c::(ze l).1,(ze l).2):=by
 conv=>lhs;unfold ze dF
 rw[iw (by rw[h];simp)];rfl
def Gw(h:dx l≠0):eG lo wr T l out told t↔uR lo wr ⟨l,told++wr t 0,out⟩=T:=by unfold eG;rw[UP h];show uR lo wr ⟨l,told++wr (t++[]) 0,out⟩=T↔_;rw[List.append_nil]
def Gx:eG lo wr T [] out told t↔cZ (told++wr t 0) out=T:=by unfold eG;show uR lo wr ⟨[],told++wr (t++[]) 0,out⟩=T↔_;rw[List.append_nil,Da]
def Lr{c:Int}(h:dx (c::l)=0)(a:eG lo wr T (c::l) out told t):eG lo wr T l out told (t++[UInt8.ofNat c.toNat]):=by
 unfold eG at a |-;rw[Qw h] at a;have:t++dl (c::(ze l).1)=t++[UInt8.ofNat c.toNat]++dl (ze l).1:=by simp[dl]
 rw[<-this];exact a
def inv_of(a:wr [] 0=[]):eG lo wr T l out told []↔uR lo wr ⟨l,told,out⟩=T:=by
 by_cases h:dx l=0
 .cases l with
  | nil=>rw[Gx,a,List.append_nil,Da]
  | cons c l =>
   unfold eG;rw[pY (x:=⟨c::l,told,out⟩) iq];have:gA dl lo wr ⟨c::l,told,out⟩=⟨(ze (c::l)).2,told++wr (dl (ze (c::l)).1) 0,out⟩:=by unfold gA;rw[show dx (SS.mk _ told out).l=0 from h];rfl
   rw[this,List.nil_append]
 .rw[Gw h,a,List.append_nil]
def aaf(a:wr [] 0=[]):eG lo wr (uS dl lo wr l) l [] [] []:=(inv_of a).2 O
def iR(h:dx l≠0)(a:eG lo wr T l out told t):uR lo wr (gA dl lo wr ⟨l,told++wr t 0,out⟩)=T:=by rw[Gw h] at a;rw[<-pY (by intro e;rw[show l=[] from e] at h;exact h O)];exact a
def AQ(h:dx x.l=1):gA dl lo wr x=jy dl lo wr x:=by unfold gA;rw[h];rfl
def vo(h:dx x.l=2):gA dl lo wr x=lY dl lo wr x:=by unfold gA;rw[h];rfl
def Lq(b:wr [] 0=[])(h:dx l=3)(a:eG lo wr T l out told t):eG lo wr T (l.drop 3) out (told++wr t 0) []:=by have:=iR (by rw[h];decide) a;rw[inv_of b];unfold gA at this;rw[show dx (SS.mk l _ out).l=3 from h] at this;exact this
def Gy(b:wr [] 0=[])(h:dx l=4\/dx l=7)(a:eG lo wr T l out told t):eG lo wr T (dm [62]<|l.drop 2).2.tail (cZ (told++wr t 0) out++[⟨4,dl (dm [62]<|l.drop 2).1,[],[],false⟩]) [] []:=by
 rw[inv_of b];rcases h with h|h <;>
 .have:=iR (by rw[h];decide) a;unfold gA at this;rw[show dx (SS.mk l _ out).l=_ from h] at this;exact this
def Lp(b:wr [] 0=[])(h:dx l=8)(a:eG lo wr T l out told t):eG lo wr T (dm [62]<|l.drop 1).2.tail (cZ (told++wr t 0) out++[⟨4,dl (dm [62]<|l.drop 1).1,[],[],false⟩]) [] []:=by
 rw[inv_of b]
 have:=iR (by rw[h];decide) a;unfold gA at this;rw[show dx (SS.mk l _ out).l=8 from h] at this;exact this
def Pj(c:wr [] 0=[])(h:dx l=5)(a:eG lo wr T l out told t){p:Iq × Iq}(b:dF (λl=>!(pK l).isEmpty) (l.drop 2)=p):eG lo wr T (p.2.drop (pK p.2).length) (cZ (told++wr t 0) out++[⟨4,dl<|p.1.drop 2,[],[],false⟩]) [] []:=by
 subst b;rw[inv_of c]
 have:=iR (by rw[h];decide) a;unfold gA at this;rw[show dx (SS.mk l _ out).l=5 from h] at this;exact this
def Pk(c:wr [] 0=[])(h:dx l=6)(a:eG lo wr T l out told t){p:Iq × Iq}(b:dm (aK++[62]) (fM aK<|l.drop 9).2=p):eG lo wr T (dm [62] p.2).2.tail (cZ (told++wr t 0) out++[⟨5,[],lo<|dl p.1,[],false⟩]) [] []:=by
 subst b;rw[inv_of c]
 have:=iR (by rw[h];decide) a;unfold gA at this;rw[show dx (SS.mk l _ out).l=6 from h] at this;exact this
def Ev(c:wr [] 0=[])(h:dx l=1)(a:eG lo wr T l out told t)(b:vr dl lo wr l.tail=none):eG lo wr T [] (cZ (told++wr t 0) out) [] []:=by have:=iR (by rw[h];decide) a;rw[AQ h] at this;unfold jy at this;rw[show(SS.mk l _ out).l.tail=l.tail from O,b] at this;rw[inv_of c];exact this
def Ln(c:wr [] 0=[])(h:dx l=2)(a:eG lo wr T l out told t)(b:vr dl lo wr l.tail.tail=none):eG lo wr T [] (cZ (told++wr t 0) out) [] []:=by have:=iR (by rw[h];decide) a;rw[vo h] at this;unfold lY at this;rw[show(SS.mk l _ out).l.tail.tail=l.tail.tail from O,b] at this;rw[inv_of c];exact this
def Lo(e:wr [] 0=[])(h:dx l=2)(b:eG lo wr T l out told t){a:jE}{c:Bool}{r:Iq}(d:vr dl lo wr l.tail.tail=some (a,c,r)):eG lo wr T r (cZ (told++wr t 0) out++[⟨3,[],ji dl lo l.tail.tail,[],false⟩]) [] []:=by have:=iR (by rw[h];decide) b;rw[vo h] at this;unfold lY at this;rw[show(SS.mk l _ out).l.tail.tail=l.tail.tail from O,d] at this;rw[inv_of e];exact this
def Ey(f:wr [] 0=[])(h:dx l=1)(b:eG lo wr T l out told t){a:jE}{c:Bool}{r:Iq}(e:vr dl lo wr l.tail=some (a,c,r))(d:om (ji dl lo l.tail)=false):eG lo wr T r (cZ (told++wr t 0) out++[⟨2,[],ji dl lo l.tail,a,c⟩]) [] []:=by have:=iR (by rw[h];decide) b;rw[AQ h] at this;unfold jy at this;rw[show(SS.mk l _ out).l.tail=l.tail from O,e] at this;simp only[d,cond_false] at this;rw[inv_of f];exact this
def Nz(h:l=[]\/dx l=2):uR lo wr ⟨l,tx,us⟩=uR lo wr ⟨l,[],cZ tx us⟩:=by
 rcases h with rfl|h
 .rfl
 .have a:l≠[]:=by intro e;rw[e] at h;cases h
  rw[pY a,pY (x:=⟨l,[],cZ tx us⟩) a,vo h,vo h];unfold lY;simp only;cases vr dl lo wr l.tail.tail with
  | none=>rfl
  | some p=>rfl
def KQ{nm:Bq}(c:om nm=true)(h:fS nm l=true):dx l=2:=by
 unfold fS at h;rw[vy] at h;have d:=h.1;unfold om ff at c;simp only[qR,dW,List.any_cons,List.any_nil,Bool.or_false,FM] at c;have a:∀{y:Int} {b:UInt8},(dC y==(b.toNat:Int))=true->b.toNat<65->y=(b.toNat:Nat):=λ{y b} e hb=>by have:=eq_of_beq e;unfold dC at this;split at this<;>omega
 unfold dg at d;rw[vy] at d;have f:=d.2;unfold dg at f;rw[vy] at f;have i:=a d.1 dq;have j:=a f.1 dq;have g:=f.2;have k:eW (ei l.tail.tail)=true:=by
  rcases c with (c|c)|(c|c) <;>
  .have:=Kf c;subst this;unfold dg at g;rw[vy] at g
   have:=eq_of_beq g.1;unfold eW;rw[this];decide
 unfold dx M3;rw[i,j,k];rfl
def Ez(i:wr [] 0=[])(h:dx l=1)(f:eG lo wr T l out told t){a:jE}{c:Bool}{r:Iq}(g:vr dl lo wr l.tail=some (a,c,r))(d:om (ji dl lo l.tail)=true){p:Iq × Iq}(b:dF (fS<|ji dl lo l.tail) r=p) :
  eG lo wr T p.2 (cZ (bif ff (ji dl lo l.tail) dW then wr (dl p.1) 0 else dl p.1)<|cZ (told++wr t 0) out++[⟨2,[],ji dl lo l.tail,a,c⟩]) [] []:=by
 have:=iR (by rw[h];decide) f;rw[AQ h] at this;unfold jy at this;rw[show(SS.mk l _ out).l.tail=l.tail from O,g] at this;simp only[d,cond_true,b] at this;rw[inv_of i,<-Nz]
 .exact this
 .rcases lW _ r with e|e
  .left;rw[<-b];exact e
  .right;rw[<-b];exact KQ d e
def Pl(a:eG lo wr T [] out told t):T=cZ (told++wr t 0) out:=(Gx.1 a).symm
end
section
variable {t r:Bq}{w:Int}{n m:Nat}
def w8:∀(n m:Nat) (t:Bq),t.length<n->t.length<m->DD n t w=DD m t w
 | 0,_,_,h,_=>by omega
 | _+1,0,_,_,h=>by omega
 | n+1,m+1,t,h,h2=>by
  unfold DD;cases hc:rC 38 t with
  | none=>rfl
  | some p =>obtain⟨_,e⟩:=rD hc;have c:=congrArg List.length e;simp only[lA,lC] at c;simp only;rw[w8 n m _ (by simp only[List.length_drop];omega) (by simp only[List.length_drop];omega)]
def Qz:e8 [] w=[]:=O
def NU{c:UInt8}(h:c≠38):e8 (c::r) w=c::e8 r w:=by
 have e:∀n,DD (n+1) (c::r) w=c::DD (n+1) r w:=λn=>by
  unfold DD;conv=>lhs;unfold rC
  rw[iw h];cases hc:rC 38 r with
  | none=>rfl
  | some p=>rfl
 unfold e8;rw[show(c::r).length+1=(r.length+1)+1 from O,e,w8 _ (r.length+1) r oq oq]
def A6:e8 (38::r) w=encodeRune (gY r w).1++e8 (r.drop (gY r w).2) w:=by
 unfold e8;show DD _ _ w=_;conv=>lhs;unfold DD rC
 rw[ip O];show[]++(encodeRune (gY r w).1++DD (r.length+1) (r.drop (gY r w).2) w)=_;rw[List.nil_append,w8 _ ((r.drop (gY r w).2).length+1) _ (by simp only[List.length_drop];omega) oq]
def VX:encodeRune 38=[38]:=by unfold encodeRune;rw[encodeRuneZ_one dq dq];rfl
def Dn(h:gY r w=(38,0)):e8 (38::r) w=38::e8 r w:=by rw[A6,h,VX];rfl
/-! ## numbers -/
def kO (base:Nat):Bq->Nat->Nat × Nat
 | [],v=>(v,0)
 | b::l,v=>if lu (b.toNat:Int)<base then ((kO base l<|min (v*base+lu (b.toNat:Int)) 2000000).1,(kO base l<|min (v*base+lu (b.toNat:Int)) 2000000).2+1) else (v,0)
def Hz (v u:Nat):Prop:=(v=u/\v<=1114111)\/(v=1114112/\1114111<u)
def Cv{a:Nat}(c:1<=a):∀{l:Bq} {v u:Nat},Hz v u->(iS a l v).2=(kO a l u).2/\Hz (iS a l v).1 (kO a l u).1
 | [],_,_,h=>⟨O,h⟩
 | b::l,v,u,h=>by
  unfold iS kO;generalize lu (b.toNat:Int)=d;split
  .have hs:Hz (min (v*a+d) 1114112) (min (u*a+d) 2000000):=by
    unfold Hz at h |-;rcases h with ⟨rfl,h⟩|⟨rfl,h⟩
    .by_cases g:v*a+d<=1114111
     .left;omega
     .right;omega
    .right;have e:1114112<=1114112*a:=Nat.le_mul_of_pos_right _ c;have f:u<=u*a:=Nat.le_mul_of_pos_right _ c;omega
   have:=Cv c (l:=l) hs;exact⟨by simp[this.1],this.2⟩
  .exact⟨O,h⟩
def vX (v:Nat):Int:=match v with
 | 128=>8364
 | 130=>8218
 | 133=>8230
 | 145=>8216
 | 146=>8217
 | 147=>8220
 | 148=>8221
 | 149=>8226
 | 150=>8211
 | 151=>8212
 | 153=>8482
 | v=>if v=0\/(55296<=v/\v<=57343)\/1114111<v then 65533 else v
theorem Pq{v u:Nat}(h:Hz v u):EG v=vX u:=by
 unfold Hz at h;by_cases a:128<=u/\u<=159
 .have:v=u:=oq
  subst this;have⟨b,c⟩:=a;obtain rfl|rfl|rfl|rfl|rfl|rfl|rfl|rfl|rfl|rfl|rfl|rfl|rfl|rfl|rfl|rfl|rfl|rfl|rfl|rfl|rfl|rfl|rfl|rfl|rfl|rfl|rfl|rfl|rfl|rfl|rfl|rfl:v=128\/v=129\/v=130\/v=131\/v=132\/v=133\/v=134\/v=135\/v=136\/v=137\/v=138\/v=139\/v=140\/v=141\/v=142\/v=143\/v=144\/v=145\/v=146\/v=147\/v=148\/v=149\/v=150\/v=151\/v=152\/v=153\/v=154\/v=155\/v=156\/v=157\/v=158\/v=159:=oq
  all_goals rfl
 .have e:vX u=if u=0\/(55296<=u/\u<=57343)\/1114111<u then 65533 else (u:Int):=by unfold vX;split<;>first|rfl|(exfalso;omega)
  rw[e];unfold EG;rcases h with ⟨rfl,h⟩|⟨rfl,h⟩
  .split
   .rfl
   .first|rfl|rw[iw a]
  .rw[ip oq,ip oq]
def Ow(t:Bq):fR t=if (kO (nu t) (t.drop<|jD t) 0).2=0 then (0,0) else (vX (kO (nu t) (t.drop<|jD t) 0).1,(kO (nu t) (t.drop<|jD t) 0).2+jD t+bif lg 59 (t.drop<|(kO (nu t) (t.drop<|jD t) 0).2+jD t) then 1 else 0):=by
 have c:1<=nu t:=by unfold nu;cases lg 120 t||lg 88 t<;>decide
 have⟨a,b⟩:=Cv c (l:=t.drop<|jD t) (v:=0)<|.inl ⟨O,oq⟩;unfold fR;rw[a,Pq b]
end
def iJ (t:Bq):Nat->Nat->Int × Nat->(Int × Nat) ⊕ (Int × Nat)
 | 0,_,a=>.inr a
 | n+1,k,a=>match jr (jC k) t with
  | none=>iJ t n (k+1) a
  | some r=>bif lg 59 r then .inl ((fT k).2.1,(jC k).length+1) else bif (fT k).2.2&&decide (a.2<(jC k).length) then iJ t n (k+1) ((fT k).2.1,(jC k).length) else iJ t n (k+1) a
def l9(t:Bq)(w:Int):Int × Nat:=match iJ t 18 0 (0,0) with
 | .inl a=>a
 | .inr a=>if a.2=0 then (0,0) else bif jo (t.drop a.2) w then a else (0,0)
section
variable {t r:Bq}{w:Int}
def Ct:∀i,i<18->∀j,j<18->i≠j->(fT i).2.2=true->(fT j).2.2=true->jr (jC i) (jC j)=none:=dq
def Ao:∀i,i<18->0<(jC i).length:=dq
def zV:∀{p l:Bq},jr p (p++l)=some l
 | [],_=>rfl
 | a::p,l=>by rw[List.cons_append];unfold jr;rw[ip (Nat.beq_refl _),zV]
def IF{i j:Nat}{r n:Bq}(h:i<18)(k:j<18)(c:i≠j)(d:(fT i).2.2=true)(e:(fT j).2.2=true)(l:jr (jC i) t=some r)(m:jr (jC j) t=some n):False:=by
 have f:=iv l;have g:=iv m;rcases Nat.le_total (jC i).length (jC j).length with hl|hl
 .have:jC j=jC i++(jC j).drop (jC i).length:=by
   have a:=congrArg (List.take (jC i).length)<|f.symm.trans g;rw[List.take_left',List.take_append_of_le_length hl] at a
   .conv=>lhs;rw[<-List.take_append_drop (jC i).length (jC j),<-a]
   .rfl
  have b:=Ct i h j k c d e;rw[this,zV] at b;cases b
 .have:jC i=jC j++(jC i).drop (jC j).length:=by
   have a:=congrArg (List.take (jC j).length)<|g.symm.trans f;rw[List.take_left',List.take_append_of_le_length hl] at a
   .conv=>lhs;rw[<-List.take_append_drop (jC j).length (jC i),<-a]
   .rfl
  have b:=Ct j k i h (Ne.symm c) e d;rw[this,zV] at b;cases b
def Y0 (t:Bq)(w:Int)(k:Nat)(a b:Int × Nat):Prop :=
 (a=(38,0)/\b=(0,0))\/∃j r,j<k/\j<18/\(fT j).2.2=true/\jr (jC j) t=some r/\b=((fT j).2.1,(jC j).length)/\a=(bif jo r w then b else (38,0))
def V1 (t:Bq)(w:Int):(Int × Nat) ⊕ (Int × Nat)->Int × Nat
 | .inl a=>a
 | .inr a=>if a.2=0 then (0,0) else bif jo (t.drop a.2) w then a else (0,0)
def J0(a b:Int × Nat):Prop:=a.2=b.2/\(a.2=0->a=(38,0))/\(a.2≠0->a=b)
def rJ:∀{n k:Nat} {a b:Int × Nat},n+k=18->Y0 t w k a b->J0 (qI t w n k a) (V1 t w<|iJ t n k b)
 | 0,k,a,b,_,h=>by
  unfold qI iJ V1 J0;rcases h with ⟨rfl,rfl⟩|⟨j,r,_,hj,_,hc,rfl,rfl⟩
  .exact⟨O,λ_=>O,λh=>absurd O h⟩
  .have c:=Ao j hj;have d:t.drop (jC j).length=r:=by rw[iv hc];simp
   simp only[d];rw[iw oq];cases jo r w
   .exact⟨O,λ_=>O,λh=>absurd O h⟩
   .exact⟨O,λh=>absurd h<|by show(jC j).length≠0;omega,λ_=>O⟩
 | n+1,k,a,b,hn,h=>by
  unfold qI iJ;cases hc:jr (jC k) t with
  | none =>
   refine rJ oq ?_;rcases h with h|⟨j,r,h1,h2⟩
   .exact .inl h
   .exact .inr ⟨j,r,oq,h2⟩
  | some r =>
   simp only;cases U3:lg 59 r with
   | true =>simp only[cond_true];exact⟨O,λh=>by simp at h,λ_=>O⟩
   | false =>
    simp only[cond_false];cases ha:(fT k).2.2 with
    | false =>
     simp only[Bool.false_and,cond_false];refine rJ oq ?_;rcases h with h|⟨j,r',h1,h2⟩
     .exact .inl h
     .exact .inr ⟨j,r',oq,h2⟩
    | true =>
     simp only[Bool.true_and];rcases h with ⟨rfl,rfl⟩|⟨j,r',h1,h2,h3,h4,_⟩
     .have c:=Ao k oq;rw[show decide _=true from tD c];simp only[Bool.true_and,cond_true];cases hb:jo r w with
      | true =>simp only[cond_true];exact rJ oq<|.inr ⟨k,r,oq,oq,ha,hc,O,by rw[hb];rfl⟩
      | false =>simp only[cond_false];exact rJ oq<|.inr ⟨k,r,oq,oq,ha,hc,O,by rw[hb];rfl⟩
     .exact(IF h2 oq oq h3 ha h4 hc).elim
def TO:J0 (qh t w) (l9 t w):=rJ O<|.inl ⟨O,O⟩
end
def BB (Q:Nat->Prop):Nat->Prop
 | 0=>True
 | n+1=>BB Q n/\Q n
def lj{Q:Nat->Prop}:∀{n k:Nat},BB Q n->k<n->Q k
 | 0,_,_,h=>by omega
 | n+1,k,h,hk=>by
  by_cases e:k=n
  .rw[e];exact h.2
  .exact lj h.1 oq
def AN (n:Nat):Bool:=n==9||n==10||n==12||n==13||n==32
def DU (n:Nat):Bool:=decide (97<=n)&&decide (n<=122)||decide (65<=n)&&decide (n<=90)
def VQ (n:Nat):Bool:=decide (48<=n)&&decide (n<=57)
section
variable {pr:Prim}{s:AS}
def OJ(h:pr 279=none)(c:UInt8):Ef pr 279 #[.int .u8 (c.toNat:Int)] s (.bool<|VQ c.toNat) s:=by
 have k:BB (λn=>Ef pr 279 #[.int .u8 (n:Int)] s (.bool<|VQ n) s) 256:=by
  iterate 256 refine⟨?_,fH 9<|by unfold bW;rw[h];kernel_rfl⟩
  trivial
 exact lj k c.toNat_lt
def sD(h:pr 284=none)(c:UInt8):Ef pr 284 #[.int .u8 (c.toNat:Int)] s (.bool<|AN c.toNat) s:=by
 have k:BB (λn=>Ef pr 284 #[.int .u8 (n:Int)] s (.bool<|AN n) s) 256:=by
  iterate 256 refine⟨?_,fH 30<|by unfold bW;rw[h];kernel_rfl⟩
  trivial
 exact lj k c.toNat_lt
def zC(h:pr 278=none)(c:UInt8):Ef pr 278 #[.int .u8 (c.toNat:Int)] s (.bool<|DU c.toNat) s:=by
 have k:BB (λn=>Ef pr 278 #[.int .u8 (n:Int)] s (.bool<|DU n) s) 256:=by
  iterate 256 refine⟨?_,fH 30<|by unfold bW;rw[h];kernel_rfl⟩
  trivial
 exact lj k c.toNat_lt
end
def Ic (t w:Bq)(i:Nat):Bool:=decide (t.length<i+w.length)||ce ((t.take<|i+w.length).drop i) w
def VZ (t w:Bq)(k:Nat):Nat:=Qq (Ic t w) (t.length+1) k
def Bh (t w:Bq)(k:Nat):Int:=if VZ t w k+w.length<=t.length then (VZ t w k:Int) else -1
def B4(t w:Bq)(k:Nat):∃m,VZ t w k=k+m/\m<=t.length+1/\(∀j,j<m->Ic t w (k+j)=false)/\Ic t w (k+m)=true:=by
 have⟨m,a,b,c,d⟩:=py (Ic t w) (t.length+1) k;refine⟨m,a,b,c,?_⟩;by_cases h:m<t.length+1
 .exact d h
 .unfold Ic;rw[tD oq];rfl
def MR(t w:Bq)(k i:Nat)(x:Nq):TL:=[str t,num k,str w,x 3,x 4,x 5,x 6,num i]++fW x 8 20
section
variable {pr:Prim}{s:AS}{t w:Bq}{k:Nat}
theorem zM{n c:Nat}{a b:IntKind}{i j:Nat}(d:i<=j)(e:j<=c):bM n c (some<|.int a (i:Int)) (some<|.int b (j:Int))=some (i,j):=by unfold bM;simp only;grind
def El(h:pr 294=none)(A:t.length<=1000000)(z:k<=1000000)(C:w.length<=1000):Ef pr 294 #[str t,num k,str w] s (num<|Bh t w k) s:=by
 have⟨m,o,v,p,f⟩:=B4 t w k;unfold Bh;rw[o];refine aQ h func294 O<|zs<|EW.seq<|zs<|EW.fill (MR t w k k) kq ?_;intro r;refine EW.block<|EW.mono (aZ (Q:=λe a d=>d=s/\((e=.exit 0/\t.length<k+m+w.length/\∃x,a=MR t w k (k+m) x)\/(e=.ret/\k+m+w.length<=t.length/\cN prog f294 a d=some (num ((k+m:Nat):Int))))) (λu a d=>d=s/\∃j,u+j=m/\∃x,a=MR t w k (k+j) x) ?_ m _ _ ⟨O,0,O,r,O⟩) ?_
 .rintro u a S ⟨rfl,j,B,x,rfl⟩;have y:j<=m:=oq
  have c:Ic t w (k+j)=true->j=m:=λe=>by
   by_cases g:j<m
   .rw[p j g] at e;cases e
   .omega
  refine EW.seq<|zr<|zk 2<|zp (di (l:=w) O underlying9 kq)<|zp (yp ((k+j:Nat):Int) (w.length:Int) ((k+j+w.length:Nat):Int) oq oq)<|zk 1<|zp (di (l:=t) O underlying9 kq) ?_;by_cases n:k+j+w.length<=t.length
  .refine zp (aI (u:=num ((k+j+w.length:Nat):Int)) (w:=num (t.length:Int)) O kq kq<|j7 (b:=true)<|tD oq)<|EO.nil<|bU kq<|EW.skip<|EW.seq<|EW.block<|zr<|zk 4<|zp (di (l:=w) O underlying9 kq)<|zp (yp ((k+j:Nat):Int) (w.length:Int) ((k+j+w.length:Nat):Int) oq oq)<|zp (Ay (l:=t) (i:=k+j) O underlying9 kq<|(show _=bM t.length t.length (some<|num ((k+j:Nat):Int)) (some<|num _) from kq).trans<|zM oq n)<|zk 1 ?_;cases hb:ce _ w with
   | true =>refine zp (aI (w:=str w) O kq kq<|nt hb)<|EO.nil<|bU kq<|zs<|EW.ret ?_;obtain rfl:=c (by unfold Ic;rw[hb,Bool.or_true]);exact⟨O,.inr ⟨O,n,kq⟩⟩
   | false =>
    refine zp (aI (w:=str w) O kq kq<|nt hb)<|EO.nil<|aJ kq<|EW.skip ?_;have q:j<m:=by
     by_cases g:j<m
     .exact g
     .have:j=m:=oq
      subst this;unfold Ic at f;rw[hb,Bool.or_false] at f
      have:=of_decide_eq_true f;omega
    exact zx<|zk 1<|zp (yp ((k+j:Nat):Int) 1 ((k+(j+1):Nat):Int) oq oq)<|zf ⟨u-1,oq,O,j+1,oq,aP kq⟩
  .refine zp (aI (u:=num ((k+j+w.length:Nat):Int)) (w:=num (t.length:Int)) O kq kq<|j7 (b:=false)<|fD oq)<|EO.nil<|aJ kq<|EW.exit ?_;obtain rfl:=c (by unfold Ic;rw[tD oq];rfl);exact⟨O,.inl ⟨O,oq,aP kq⟩⟩
 .rintro e a S ⟨rfl,h⟩;rcases h with ⟨rfl,h5,x,rfl⟩|⟨rfl,h5,h6⟩
  .rw[iw oq];exact zs<|EW.ret ⟨.inr O,kq,O⟩
  .rw[ip h5];exact⟨.inr O,h6,O⟩
end
def JK (b:UInt8)(w:Bq):Bool:=w.any λc=>((b.toNat:Int)==(c.toNat:Int))
def Hp (t w:Bq)(i:Nat):Bool:=match t[i]? with
 | none=>true
 | some b=>JK b w
def uE (t w:Bq)(k:Nat):Nat:=Qq (Hp t w) (t.length+1) k
def Di(t w:Bq)(k:Nat):∃m,uE t w k=k+m/\m<=t.length+1/\(∀j,j<m->Hp t w (k+j)=false)/\Hp t w (k+m)=true:=by
 have⟨m,a,b,c,d⟩:=py (Hp t w) (t.length+1) k;refine⟨m,a,b,c,?_⟩;by_cases h:m<t.length+1
 .exact d h
 .unfold Hp;rw[List.getElem?_eq_none oq]
def MO(t w:Bq)(i:Nat)(x:Nq):TL:=[str t,num i,str w]++fW x 3 26
def Ff(t w:Bq)(i j:Nat)(x:Nq):TL:=[str t,num i,str w,x 3,x 4,x 5,x 6,num j]++fW x 8 21
section
variable {pr:Prim}{s:AS}{t w:Bq}{k:Nat}
def pZ(h:pr 186=none)(O:t.length<=1000000)(N:k<=1000000)(R:w.length<=1000):Ef pr 186 #[str t,num k,str w] s (num (uE t w k:Nat)) s:=by
 have⟨m,D,L,E,g⟩:=Di t w k;rw[D];refine aQ h func186 Y<|zs<|EW.fill (MO t w k) kq ?_;intro J;refine EW.seq<|EW.block<|EW.mono (aZ (Q:=λe a d=>d=s/\((e=.exit 0/\∃x,a=MO t w (k+m) x)\/(e=.ret/\cN prog f186 a d=some (num ((k+m:Nat):Int))))) (λu a d=>d=s/\∃j,u+j=m/\∃x,a=MO t w (k+j) x) ?_ m _ _ ⟨Y,0,Y,J,Y⟩) ?_
 .rintro u a S ⟨rfl,j,P,x,rfl⟩;have o:Hp t w (k+j)=true->j=m:=λe=>by
   by_cases v:j<m
   .rw[E j v] at e;cases e
   .omega
  refine EW.seq<|zr<|zk 2<|zp (di (l:=t) Y underlying9 kq) ?_;by_cases G:k+j<t.length
  .refine zp (aI (u:=num ((k+j:Nat):Int)) (w:=num (t.length:Int)) Y kq kq<|cj (b:=true)<|tD oq)<|EO.nil<|bU kq<|EW.skip<|EW.block<|EW.seq<|zs<|EW.fill (Ff t w (k+j) 0) kq ?_;intro K;have r:t[k+j]?=some t[k+j]:=gE G;generalize t[k+j]=b at r;refine EW.block<|EW.mono (aZ (Q:=λe a d=>d=S/\((e=.exit 2/\JK b w=false/\∃i x,a=Ff t w (k+j) i x)\/(e=.ret/\JK b w=true/\cN prog f186 a d=some (num ((k+j:Nat):Int))))) (λu a d=>d=S/\∃i,u+i=w.length/\JK b (w.take i)=false/\∃x,a=Ff t w (k+j) i x) ?_ w.length _ _ ⟨Y,0,Y,Y,K,Y⟩) ?_
   .rintro I C B ⟨rfl,i,M,z,x,rfl⟩;refine EW.seq<|zr<|zk 2<|zp (di (l:=w) Y underlying9 kq) ?_;by_cases p:i<w.length
    .refine zp (aI (u:=num (i:Int)) (w:=num (w.length:Int)) Y kq kq<|cj (b:=true)<|tD oq)<|EO.nil<|bU kq<|EW.skip ?_;have A:w[i]?=some w[i]:=gE p;have f:JK b (w.take<|i+1)=(JK b (w.take i)||((b.toNat:Int)==(w[i].toNat:Int))):=by unfold JK;rw[List.take_succ_eq_append_getElem p,List.any_append];simp only[List.any_cons,List.any_nil,Bool.or_false]
     rw[z,Bool.false_or] at f;generalize w[i]=c at A f;refine EW.seq<|EW.block<|EW.seq<|bO kq kq kq<|zq<|zq<|zu (gp (k:=.i64) (l:=t) (n:=((k+j:Nat):Int)) (b:=b) Y underlying9 kq kq oq<|by rw[Iu];exact r)<|zq<|zq<|zu (gp (k:=.i64) (l:=w) (n:=(i:Int)) (b:=c) Y underlying9 kq kq oq<|by rw[Iu];exact A)<|zu (aI (u:=.int .u8 (b.toNat:Int)) Y kq kq<|cQ f.symm)<|cg ⟨dh [] kq iq,_,_,_,_,_,_,Y,Y,?_⟩;cases xq:JK b (w.take<|i+1) with
     | true =>refine bU kq<|zs<|EW.ret ⟨Y,.inr ⟨Y,?_,kq⟩⟩;unfold JK at xq |-;rw[List.any_eq_true] at xq |-;have⟨y,H,e⟩:=xq;exact⟨y,List.mem_of_mem_take H,e⟩
     | false =>exact aJ kq<|EW.skip<|zx<|zk 1<|zp (yp (i:Int) 1 ((i+1:Nat):Int) oq oq)<|zf ⟨I-1,oq,Y,i+1,oq,xq,aP kq⟩
    .exact zp (aI (u:=num (i:Int)) (w:=num (w.length:Int)) Y kq kq<|cj (b:=false)<|fD oq)<|EO.nil<|aJ kq<|EW.exit ⟨Y,.inl ⟨Y,by rw[tL oq] at z;exact z,i,aP kq⟩⟩
   .rintro e C B ⟨rfl,q⟩;rcases q with ⟨rfl,q,i,x,rfl⟩|⟨rfl,q,Eu⟩
    .have F:j<m:=by
      by_cases v:j<m
      .exact v
      .have:j=m:=oq
       subst this;unfold Hp at g;rw[r] at g;simp only at g;rw[q] at g;cases g
     exact zx<|zk 1<|zp (yp ((k+j:Nat):Int) 1 ((k+(j+1):Nat):Int) oq oq)<|zf ⟨u-1,oq,Y,j+1,oq,aP kq⟩
    .obtain rfl:=o (by unfold Hp;rw[r];exact q);exact⟨Y,.inr ⟨Y,Eu⟩⟩
  .refine zp (aI (u:=num ((k+j:Nat):Int)) (w:=num (t.length:Int)) Y kq kq<|cj (b:=false)<|fD oq)<|EO.nil<|aJ kq<|EW.exit ?_;obtain rfl:=o (by unfold Hp;rw[List.getElem?_eq_none oq]);exact⟨Y,.inl ⟨Y,aP kq⟩⟩
 .rintro e a S ⟨rfl,h⟩;rcases h with ⟨rfl,x,rfl⟩|⟨rfl,h6⟩
  .exact zs<|EW.ret ⟨.inr Y,kq,Y⟩
  .exact⟨.inr Y,h6,Y⟩
end
