import Derived.Test.YtgcaionclkbehaaGreatDoorM5
import Derived.Lib.MapLaws
set_option linter.all false
set_option maxHeartbeats 4000000
set_option maxRecDepth 100000
namespace Go.Proofs.YtgcaionclkbehaaGreatDoor
open Go.Conc Go.RowKit Go.Lib Tryz
section
variable {jH:List Nat}{B j off sz:Nat}{l:List (Bq)}{n stops tx w:Bq}
def m9 (a:kH):Prop:=a.length<=20/\(a.map (·.1)).Nodup
def zN (ks:List Sk)(k:Nat):Bq:=match ks[k]? with
 | some x=>x.2
 | none=>[]
def jO (ks:List Sk)(k:Nat):Bool:=aW (zN ks k) bX
def Zv (w:Int)(row:List Nat)(ks:List Sk):Prop:=(w=0/\row=[0])\/(w=1/\(∃k,row[1]?=some k/\ks[k]?=some (1,lN))/\∀(j k:Nat),2<=j->row[j]?=some k->zN ks k≠lN)\/(w=2/\∃k,row[1]?=some k/\ks[k]?=some (1,Cr))
structure Gs(ks:List Sk)(row again:List Nat)(w:Int):Prop where
 c:Gc ks row
 ph:Zv w row ks
 fo:again.length+(row.filter<|jO ks).length<=40
 ag:∀k∈again,k<ks.length/\jO ks k=true
variable {i k:Nat}
section
variable {ks:List Sk}{row again:List Nat}{w:Int}{x:Sk}
def Dy(h:k<ks.length):zN (ks++[x]) k=zN ks k:=by unfold zN;rw[Cg h]
def lM(h:k<ks.length):jO (ks++[x]) k=jO ks k:=by unfold jO;rw[Dy h]
def uR(h:∀k∈row,k<ks.length):row.filter (jO<|ks++[x])=row.filter (jO ks):=List.filter_congr λk hk=>lM<|h k hk
def Gs.two(h:Gs ks row again w)(d:w≠0):2<=row.length:=by
 rcases h.ph with q|⟨_,⟨k,e,_⟩,_⟩|⟨_,k,e,_⟩
 .exact absurd q.1 d
 iterate 2
  .have:=(gS.1 e).1;omega
def Gs.TC(h:Gs ks row again w):zN ks 0=xm:=by unfold zN;rw[h.c.n0]
def Gs.put(h:Gs ks row again w):Gs (ks++[x]) row again w:=by
 refine⟨h.c.put,?_,by rw[uR h.c.lt];exact h.fo,λk a=>?_⟩
 .unfold Zv;have d:∀k y,ks[k]?=some y->(ks++[x])[k]?=some y:=λk y g=>by rw[Cg (gS.1 g).1];exact g
  rcases h.ph with q|⟨q1,⟨k,q3,q4⟩,q5⟩|⟨q1,k,q3,q4⟩
  .exact .inl q
  .exact .inr<|.inl ⟨q1,⟨k,q3,d _ _ q4⟩,λj p n U=>by rw[Dy<|h.c.lt _<|mG U];exact q5 j p n U⟩
  .grind
 .have⟨i,l⟩:=h.ag k a;exact⟨by simp;omega,by rw[lM i];exact l⟩
theorem Gs.push(h:Gs ks row again w)(l:row.length<40)(U:x.1=1)(a:w≠0)(i:w=1->x.2≠lN)(p:aW x.2 bX=true->again=[]):Gs (ks++[x]) (row++[ks.length]) again w:=by
 have d:=h.two a;have g:=h.put (x:=x);have s:zN (ks++[x]) ks.length=x.2:=by unfold zN;rw[EN lr,Nat.sub_self];rfl
 refine⟨h.c.push U,?_,?_,g.ag⟩
 .have e1:(row++[ks.length])[1]?=row[1]?:=Cg oq;unfold Zv;rw[e1];rcases g.ph with ⟨e,_⟩|⟨q1,q3,q4⟩|q
  .exact absurd e a
  .refine .inr<|.inl ⟨q1,q3,λj k s U=>?_⟩;rcases Nat.lt_trichotomy j row.length with r|r|r
   .grind
   .subst r;rw[EN lr,Nat.sub_self] at U;cases U;grind
   .grind
  .exact .inr<|.inr q
 .rw[List.filter_append,uR h.c.lt,lA];have n:jO (ks++[x]) ks.length=aW x.2 bX:=by unfold jO;rw[s]
  have o:=h.fo;grind
def Gs.mono(h:Gs ks row again w)(d:jH.length<=again.length)(b:∀k∈jH,k∈again):Gs ks row jH w:=⟨h.c,h.ph,by have:=h.fo;omega,λk a=>h.ag k<|b k a⟩
def nW(ks:List Sk)(row again:List Nat)(i:Nat):List Nat:=again++((row.drop i).drop 1).filter (jO ks)
def uL(h:Gs ks row again w)(i:Nat):(nW ks row again i).length+((row.take i).filter<|jO ks).length<=40/\∀k∈nW ks row again i,k<ks.length/\jO ks k=true:=by
 have h1:(row.filter<|jO ks).length=((row.take i).filter<|jO ks).length+((row.drop i).filter<|jO ks).length:=by rw[<-lA,<-List.filter_append,List.take_append_drop]
 have h2:(((row.drop i).drop 1).filter<|jO ks).length<=((row.drop i).filter<|jO ks).length:=((List.drop_sublist 1 _).filter _).length_le
 have:=h.fo;refine⟨by unfold nW;rw[lA];omega,λk a=>?_⟩;rcases List.mem_append.1 a with q|q
 .exact h.ag k q
 .have⟨b,d⟩:=List.mem_filter.1 q;exact⟨h.c.lt k<|List.mem_of_mem_drop<|List.mem_of_mem_drop b,d⟩
theorem Gs.close(h:Gs ks row again w)(hi:2<=i)(a:jH=[]\/jH=nW ks row again i):Gs ks (row.take i) jH w:=by
 have⟨d,e⟩:=uL h i;refine⟨h.c.take oq,?_,?_,λk b=>?_⟩
 .have e1:(row.take i)[1]?=row[1]?:=by rw[HA,ip oq]
  unfold Zv;rw[e1];rcases h.ph with ⟨U,q2⟩|⟨U,q3,q4⟩|q
  .refine .inl ⟨U,?_⟩;rw[q2];exact tL<|by simp;omega
  .grind
  .exact .inr<|.inr q
 .grind
 .grind
def Gs.one(h:Gs ks row again w):row.take 1=[0]:=by
 have a:=h.c.r0;cases row with
 | nil=>cases a
 | cons y l=>cases a;rfl
theorem Gs.body(h:Gs ks row again w)(i:jH=[]\/jH=nW ks row again 1):Gs (ks++[(1,Cr)]) [0,ks.length] jH 2:=by
 have⟨j,l⟩:=uL h 1;have a:=h.c.take<|iz 1;rw[h.one] at a j;have b:=a.lt 0 iq;have m:jO (ks++[(1,Cr)]) 0=false:=by rw[lM b];unfold jO;rw[h.TC];decide
 have e1:jO (ks++[(1,Cr)]) ks.length=false:=by unfold jO zN;rw[EN lr,Nat.sub_self];decide
 refine⟨a.push O,.inr<|.inr ⟨O,ks.length,O,?_⟩,?_,λk U=>?_⟩
 .grind
 .grind
 .rcases i with rfl|rfl
  .cases U
  .have⟨d,f⟩:=l k U;exact⟨by simp;omega,by rw[lM d];exact f⟩
theorem Gs.head(h:Gs ks row again w)(l:row=[0]):Gs (ks++[(1,lN)]) [0,ks.length] again 1:=by
 have a:=h.c;rw[l] at a;have b:=a.lt 0 iq;have n:jO (ks++[(1,lN)]) 0=false:=by rw[lM b];unfold jO;rw[h.TC];decide
 have e1:jO (ks++[(1,lN)]) ks.length=false:=by unfold jO zN;rw[EN lr,Nat.sub_self];decide
 have m:=h.fo;refine⟨a.push O,.inr<|.inl ⟨O,⟨ks.length,O,?_⟩,λj k i U=>by match j,i with
  | j+2,_=>cases U⟩,?_,λk U=>?_⟩
 .grind
 .grind
 .have⟨d,f⟩:=h.ag k U;exact⟨by simp;omega,by rw[lM d];exact f⟩
end
def ml(l:List Nd):(pQ l).length=l.length:=by unfold pQ;simp
def wq(l:List Nd)(k:Nat):(pQ l)[k]?=(l[k]?).map VX:=by unfold pQ;simp
structure Gv(acc:Nat)(σ:TS):Prop where
 g:Gs (pQ σ.nodes) σ.row σ.again σ.w
 pn:∀u∈σ.nodes,m9 u.bC/\u.text.length<=acc
variable {acc Wk:Nat}{σ:TS}{u:Nd}{nm:Bq}{aY:kH}
section
def H7(σ:TS)(k:Nat):σ.fs k=zN (pQ σ.nodes) k:=by unfold TS.fs zN;rw[wq];cases σ.nodes[k]?<;>rfl
def WR(σ:TS):σ.wV=jO (pQ σ.nodes):=by funext k;unfold TS.wV jO;rw[H7]
def sV(σ:TS)(h:σ.row[j]?=some k):nameAt σ j=zN (pQ σ.nodes) k:=by unfold nameAt;rw[h,<-H7];rfl
def th(σ:TS)(u:Nd):pQ (σ.put u).nodes=pQ σ.nodes++[(u.kind,u.name)]:=by unfold TS.put pQ;simp[VX]
def Gv.mono(h:Gv acc σ)(e:acc<=Wk):Gv Wk σ:=⟨h.g,λu d=>by have⟨b,c⟩:=h.pn u d;exact⟨b,oq⟩⟩
def Gv.put(h:Gv acc σ)(c:m9 u.bC)(d:u.text.length<=acc):Gv acc (σ.put u):=by
 refine⟨?_,λv U=>?_⟩
 .show Gs _ σ.row σ.again σ.w;rw[th];exact h.g.put
 .have U:=U;rcases List.mem_append.1 U with q|q
  .exact h.pn v q
  .grind
section
variable (h:Gv acc σ)
def Gv.open_(b:σ.w≠0)(f:σ.w=1->nm≠lN)(d:aW nm bX=true->σ.again=[])(c:m9 aY):Gv acc (σ.open_ nm aY):=by
 have a:=h.put (u:=⟨1,0,nm,[],aY⟩) c<|Nat.zero_le _;unfold TS.open_;split
 .next i =>refine⟨?_,a.pn⟩;show Gs _ _ σ.again σ.w;rw[th,<-ml];exact h.g.push i O b f d
 .exact a
def Gv.fS(b:σ.w≠0)(d:σ.w=1->nm≠lN)(c:aW nm bX=true->σ.again=[])(a:m9 aY):Gv acc (σ.fS nm aY):=by
 unfold TS.fS;split
 .exact h.put a<|Nat.zero_le _
 .exact h.open_ b d c a
def qF(σ:TS)(i:Nat):(σ.gH i).again=[]\/(σ.gH i).again=nW (pQ σ.nodes) σ.row σ.again i:=by
 unfold TS.gH nW;simp only;split
 .exact .inl O
 .rw[<-WR];exact .inr O
def Gv.close(hi:2<=i):Gv acc (σ.gH i):=⟨h.g.close hi<|qF σ i,h.pn⟩
end
def nodup_nil:m9 []:=⟨Nat.zero_le _,List.nodup_nil⟩
theorem Gv.jP(h:Gv acc σ)(b:σ.w=0)(c:m9 aY):Gv acc (σ.jP aY)/\(σ.jP aY).w=1:=by
 have a:σ.row=[0]:=by
  rcases h.g.ph with ⟨_,q⟩|⟨e,_⟩|⟨e,_⟩
  .exact q
  .omega
  .omega
 refine⟨⟨?_,?_⟩,O⟩
 .have:=h.g.head a;rw[ml] at this;unfold TS.jP TS.open_;rw[ip gq,th,a];exact this
 .intro v U;have U:=U;rcases List.mem_append.1 U with q|q
  .exact h.pn v q
  .grind
theorem sL(σ:TS)(l:List (Bq)):∀(n j:Nat),nE σ l n=(j:Int)->aW (nameAt σ j) l=true/\j<n
 | 0,j,h=>by unfold nE at h;omega
 | n+1,j,h=>by
  unfold nE at h;split at h
  .grind
  .have:=sL σ l n j h;exact⟨this.1,oq⟩
def xf(σ:TS)(l:List (Bq)):∀(n j:Nat),j<n->aW (nameAt σ j) l=true->(j:Int)<=nE σ l n
 | 0,j,h,_=>oq
 | n+1,j,h,hj=>by
  unfold nE;split
  .omega
  .next q =>have:j≠n:=λe=>q<|e▸hj;exact xf σ l n j oq hj
section
variable (h:Gv acc σ)
def Gv.H6:nameAt σ 0=xm:=by rw[sV σ h.g.c.r0,h.g.TC]
def Gv.ME(a:σ.w=2):nameAt σ 1=Cr/\2<=σ.row.length:=by
 rcases h.g.ph with ⟨e,_⟩|⟨e,_⟩|⟨_,k,e1,e2⟩
 .omega
 .omega
 .refine⟨?_,by have:=(gS.1 e1).1;omega⟩;rw[sV σ e1];unfold zN;rw[e2]
def Gv.Rw(a:σ.w=1):nameAt σ 1=lN/\2<=σ.row.length:=by
 rcases h.g.ph with ⟨e,_⟩|⟨_,⟨k,e1,e2⟩,_⟩|⟨e,_⟩
 .omega
 .refine⟨?_,by have:=(gS.1 e1).1;omega⟩;rw[sV σ e1];unfold zN;rw[e2]
 .omega
end
end
def It (c:Nat):Prop:=c<128\/c=233
variable {s:AS}{pr:Prim}
section
variable {rn:Nat}{all:Iq}
theorem v6{l:Int}(h:l<0\/127<l)(a:I0 stops):gL l stops=false:=by
 unfold gL;rw[List.any_eq_false];intro b U
 have:=a b U;grind
def Mh(c:pr 264=none)(d:pr 335=none)(e:stops.length<=1):Ef pr 264 #[str stops,.int .i32 233] s (num<|-1) s:=by
 have a:Ef pr 335 #[.int .i32 233] s (.bool true) s:=by exact aH d func335 O<|zs<|aB<|aF<|zr<|zf<|za s<|zH<|zs<|aD ⟨.inr O,kq,kq⟩
 refine aH c func264 O<|zs<|aF ?_;iterate 2
  refine zr ?_
  refine zf ?_
  refine za s ?_
  refine zG ?_
 refine zr<|zc 1 a<|zf<|za s<|zG<|EW.scope ?_;iterate 4 refine zs ?_
 exact za s<|aB<|aF<|ic<|aB<|zr<|zk 2<|zp (dL (l:=stops) O underlying9 kq)<|zp (bz (u:=num 1) (w:=num stops.length) O kq kq<|bE (b:=false)<|fD oq)<|am<|za s<|zG<|aR<|aB<|zs<|aD ⟨.inr O,kq,kq⟩
theorem MR(a:Zw rn all pr)(U:pr 335=none){l:Int}(n:l = -1\/∃c:Nat,It c/\l=(c:Int))(g:I0 stops):Ef pr 328 #[.int .i32 l,str stops] s (.bool<|gL l stops) s:=by
 have f:Ef pr 264 #[str stops,.int .i32 l] s (num<|-1) s->Ef pr 328 #[.int .i32 l,str stops] s (.bool false) s:=by
  intro m;have d:Ef pr 160 #[str stops,.int .i32 l] s (.bool false) s:=by exact aH (a.no 160 dq) func160 O<|zs<|zr<|zc 2 m<|zf yR
  exact aH (a.no 328 dq) func328 O<|zs<|zr<|zc 2 d<|zf yR
 rcases n with rfl|⟨c,hc|rfl,rfl⟩
 .rw[v6 (.inl dq) g];exact f<|by
   have p:Ef pr 335 #[.int .i32 (-1)] s (.bool false) s:=by exact aH U func335 O<|zs<|aB<|aF<|zr<|zf<|za s<|zG<|zr<|zf<|za s<|zF<|zs<|aD ⟨.inr O,kq,kq⟩
   refine aH (a.no 264 dq) func264 O<|zs<|aF ?_;iterate 2
    refine zr ?_
    refine zf ?_
    refine za s ?_
    refine zG ?_
   exact zr<|zc 1 p<|zf<|za s<|zH<|zs<|aD ⟨.inr O,kq,kq⟩
 .have j:(UInt8.ofNat c).toNat=c:=by rw[UInt8.toNat_ofNat'];omega
  have o:gL (c:Int) stops=decide (UInt8.ofNat c∈stops):=by
   unfold gL;rw[Bool.eq_iff_iff,List.any_eq_true,decide_eq_true_iff];constructor
   .rintro⟨b,a4,a5⟩;have:b.toNat=c:=gq
    rw[<-this,UInt8.ofNat_toNat];exact a4
   .grind
  rw[o];by_cases i:UInt8.ofNat c∈stops
  .have:=JE a (s:=s) (b:=UInt8.ofNat c) oq i;grind
  .have:=Mk a (s:=s) oq i;grind
 .rw[v6 (.inr dq) g];refine f ?_;have k:∀b∈stops,b≠169:=λb j e=>by have:=g b j;rw[e] at this;revert this;decide
  match stops,k with
  | [],_=>exact Mh (a.no 264 dq) U dq
  | [b0],_=>exact Mh (a.no 264 dq) U<|iz 1
  | b0::b1::r,h=>have o:Ef pr 373 #[str r,.int .u8 169] s (num<|-1) s:=by obtain⟨g,c⟩:∃g,bP 373=some g:=⟨_,O⟩;have B:=iQ (P:=prog) (kt:=kg) (pr:=bP) (f:=373) (args:=#[str r,.int .u8 169]) (s:=s) (v:=num<|km (169:UInt8).toNat r 0) (s':=s) 1 kq;rw[sF (λz=>h 169 (by simp[z]) O)] at B;have⟨m,B⟩:=B;refine gp (a.MZ.trans c) ?_;unfold ck at B;rw[c] at B;exact B
                 have d:Ef pr 334 #[str r,.int .u8 169] s (num<|-1) s:=by exact aH (a.no 334 dq) func334 O<|zs<|zr<|zc 2 o<|zf<|aD ⟨.inr O,kq,kq⟩
                 have C:Ef pr 335 #[.int .i32 233] s (.bool true) s:=by exact aH U func335 O<|zs<|aB<|aF<|zr<|zf<|za s<|zH<|zs<|aD ⟨.inr O,kq,kq⟩
                 have D:str (((b0::b1::r).take (b0::b1::r).length).drop 2)=str r:=gq
                 refine aH (a.no 264 dq) func264 O<|zs<|aF ?_;iterate 2
                  refine zr ?_
                  refine zf ?_
                  refine za s ?_
                  refine zG ?_
                 refine zr<|zc 1 C<|zf<|za s<|zG<|EW.scope ?_;iterate 4 refine zs ?_
                 exact za s<|aB<|aF<|ic<|aB<|zr<|zk 2<|zp (dL (l:=b0::b1::r) O underlying9 kq)<|zp (bz (u:=num 1) (w:=num ((b0::b1::r).length:Nat)) O kq kq<|bE (b:=true)<|tD gq)<|am<|za s<|zT<|aF<|EW.scope<|aB<|aB<|aP kq kq kq<|zq<|zq<|zu (li (l:=b0::b1::r) (k:=.i64) (n:=1) (b:=b1) O underlying9 kq kq dq O)<|zq<|zq<|zq<|zu (bz (u:=.int .u8 b1.toNat) (w:=.int .u8 169) O kq kq<|cM (b:=true)<|bne_iff_ne.2<|λe=>(h b1 iq)<|UInt8.toNat_inj.1 gq)<|bq ⟨fY [] kq iq,_,_,_,_,_,_,O,O,za s<|zH<|aB<|aP kq kq kq (zq<|zq<|zq (zt s<|ET.op (v:=str r) (s1:=s) kq ((Bx (l:=b0::b1::r) (i:=2) (j:=(b0::b1::r).length) O underlying9 kq<|(show _=bS (b0::b1::r).length (b0::b1::r).length (some<|num 2) none by kernel_rfl).trans<|ig dq gq).trans<|congrArg (λx=>some (x,s)) D) (zq<|zq<|zq (zt s<|ET.y6 #[str r,.int .u8 169] kq O O kq kq d<|zq<|bq ⟨fY [] kq iq,_,_,_,_,_,_,O,O,za s<|aB<|zr<|zf<|za s<|zH<|zs<|aD ⟨.inr O,kq,kq⟩⟩))))⟩
end
def Kl (b:UInt8):Bool:=[9,10,12,13,32].contains b.toNat
def uC (l:Bq):Bq:=l.dropWhile Kl
def yP (l:Bq):Bq:=(l.reverse.dropWhile Kl).reverse
def Eu(l:Bq)(b:UInt8):yP (l++[b])=if Kl b=true then yP l else l++[b]:=by
 unfold yP;rw[List.reverse_append,List.reverse_singleton,List.singleton_append,List.dropWhile_cons];split
 .rfl
 .simp
def Qy(l:Bq):(yP l).length<=l.length:=by
 unfold yP
 have:=(List.dropWhile_sublist (l:=l.reverse) Kl).length_le;simp at this |-;exact this
def lH:Array Value:=((List.range 256).map λi=>Value.bool<|[9,10,12,13,32].contains i).toArray
section
def U6(b:UInt8):lH[b.toNat]?=some (.bool<|Kl b):=by have a:=UInt8.toNat_lt b;unfold lH Kl;simp[List.getElem?_map,List.getElem?_range a]
theorem Ih{P:Program}{kt:TypeId->Bool}{c:gX}{a:TL}{o:Oper}{t e:TypeId}{x i:Operand}{b n:Nat}{k:IntKind}{j:Int}(U:o.op=.indexAddr t x i)(d:P.underlying t=some (.array n e))(g:cz P e=some sz)(f:a.at x=aC b off)(hi:a.at i=.int k j)(h:0<=j)(h1:j<n):cf P kt c a o s=some (aC b<|off+j.toNat*sz,s):=by refine eG (by rw[U];rfl) gq ?_;unfold cI;rw[U];simp only;rw[d,f,hi];simp only[aC];grind
theorem L6(U:pr 356=none)(a:s.get B=some (.cells lH 285))(b:UInt8):Ef pr 356 #[aC B 0,.int .u8 b.toNat] s (.bool<|Kl b) s:=by have c:=U6 b;generalize Kl b=t at c;have d:=UInt8.toNat_lt b;exact aH U func356 O<|zs<|zr<|zg 3 s<|zp (Ih (b:=B) (off:=0) (k:=.u8) (j:=(b.toNat:Nat)) (sz:=1) O underlying285 kq kq kq oq oq)<|zp (yl B (0+(b.toNat:Int).toNat*1) (.bool t) a (i:=gq))<|zf yR
def NF(l:Bq)(B:Nat)(x:Nq):TL:=[str l,aC B 0,x 2,x 3,str []]++gG x 5 11
theorem Am(o:pr 299=none)(p:pr 356=none)(z:s.get B=some (.cells lH 285)){l:Bq}(E:l.length<=1000000):Ef pr 299 #[str l,aC B 0] s (str<|uC l) s:=by
 suffices h:Ew pr (match f299.body with|some c=>c|none=>.skip) ((#[str l,aC B 0]:Aq).toList++List.replicate (f299.ntmps-(#[str l,aC B 0]:Aq).toList.length) undef) s (λe a s1=>(e=.normal\/e=.ret)/\s1=s/\di prog f299 a s1=some (str<|uC l)) by have⟨m,e,a,s1,h1,A,h2,y⟩:=h;exact aH o func299 O ⟨m,e,a,s1,h1,A,y,h2⟩
 refine zs<|aV (NF l B) kq ?_;intro D;refine aB<|aF<|bn (bw (Q:=λe a s1=>e=.exit 0/\s1=s/\∃x,a=NF (uC l) B x) (λm a s1=>s1=s/\∃U:Bq,U.length=m/\uC U=uC l/\U.length<=l.length/\∃x,a=NF U B x) ?_ l.length _ _ ⟨O,l,O,O,lr,D,O⟩) ?_
 .rintro m a S ⟨rfl,U,rfl,d,q,x,rfl⟩;by_cases C:0<U.length
  .refine aB<|zr<|zk 1<|zp (dL (l:=U) O underlying9 kq)<|zp (bz (u:=num U.length) (w:=num 0) O kq kq<|fA<|tD oq)<|am<|za S<|zT<|aF ?_;obtain⟨b,r,rfl⟩:∃b r,U=b::r:=by cases U with
    | nil=>simp at C
    | cons b r=>exact⟨b,r,O⟩
   have g:=L6 p z b;generalize f:Kl b=t at g;refine aB<|zr<|zk 2<|zp (li (l:=b::r) (k:=.i64) (n:=0) (b:=b) O underlying9 kq kq dq O)<|zo S<|zc 0 g ?_;cases t with
   | false =>refine zf<|za S<|zH<|aR ?_;rw[show uC l=b::r by rw[<-d];unfold uC;rw[List.dropWhile_cons,iw gq]];exact⟨O,O,bu kq⟩
   | true =>exact zf<|za S<|zF<|zx<|zk 1<|bU (s1:=S) kq ((Bx (i:=1) (j:=(b::r).length) O underlying9 kq<|(show _=bS (b::r).length (b::r).length (some<|num 1) none by kernel_rfl).trans<|ig dq gq).trans<|congrArg (λx=>some (x,S))<|show str _=str r by rw[List.take_length];rfl)<|zf ⟨r.length,by simp,O,r,O,by rw[<-d];unfold uC;rw[List.dropWhile_cons,ip f],by simp at q;omega,bu kq⟩
  .obtain rfl:U=[]:=List.length_eq_zero_iff.1 oq;refine aB<|zr<|zf<|za S<|zG<|aR ?_;rw[<-d];exact⟨O,O,bu kq⟩
 .rintro e a S ⟨rfl,rfl,x,rfl⟩;exact zs<|aD ⟨.inr O,kq,kq⟩
def NG(l:Bq)(B:Nat)(x:Nq):TL:=[str l,aC B 0,x 2,x 3,str []]++gG x 5 17
theorem Kq(q:pr 300=none)(y:pr 356=none)(A:s.get B=some (.cells lH 285)){l:Bq}(H:l.length<=1000000):Ef pr 300 #[str l,aC B 0] s (str<|yP l) s:=by
 suffices h:Ew pr (match f300.body with|some c=>c|none=>.skip) ((#[str l,aC B 0]:Aq).toList++List.replicate (f300.ntmps-(#[str l,aC B 0]:Aq).toList.length) undef) s (λe d s1=>(e=.normal\/e=.ret)/\s1=s/\di prog f300 d s1=some (str<|yP l)) by have⟨m,e,d,s1,h1,D,h2,z⟩:=h;exact aH q func300 O ⟨m,e,d,s1,h1,D,z,h2⟩
 refine zs<|aV (NG l B) kq ?_;intro F;refine aB<|aF<|bn (bw (Q:=λe d s1=>e=.exit 0/\s1=s/\∃x,d=NG (yP l) B x) (λm d s1=>s1=s/\∃U:Bq,U.length=m/\yP U=yP l/\U.length<=l.length/\∃x,d=NG U B x) ?_ l.length _ _ ⟨O,l,O,O,lr,F,O⟩) ?_
 .rintro m d S ⟨rfl,U,rfl,f,G,x,rfl⟩;by_cases E:0<U.length
  .refine aB<|zr<|zk 1<|zp (dL (l:=U) O underlying9 kq)<|zp (bz (u:=num U.length) (w:=num 0) O kq kq<|fA<|tD oq)<|am<|za S<|zT<|aF ?_;obtain⟨b,C⟩:∃b,U[U.length-1]?=some b:=⟨_,gE oq⟩;have p:=L6 (pr:=pr) y A b;generalize g:Kl b=t at p;have a:U.take (U.length-1)++[b]=U:=by have h1:=List.take_succ (l:=U) (i:=U.length-1);grind
   generalize o:U.length=n at *;refine aB<|zr<|zk 3<|zp (dL (l:=U) O underlying9 kq) ?_;rw[o];refine zp (gO (i:=(n:Int)) (j:=1) (r:=((n-1:Nat):Int)) O kq kq oq oq)<|zp (li (l:=U) (k:=.i64) (n:=((n-1:Nat):Int)) (b:=b) O underlying9 kq kq oq gq)<|zo S<|zc 0 p ?_;cases t with
   | false =>refine zf<|za S<|zH<|aR ?_;rw[show yP l=U by rw[<-f];rw[<-a,Eu,iw gq]];exact⟨O,O,bu kq⟩
   | true =>refine zf<|za S<|zF<|zx<|zk 2<|zp (dL (l:=U) O underlying9 kq) ?_;rw[o];exact zp (gO (i:=(n:Int)) (j:=1) (r:=((n-1:Nat):Int)) O kq kq oq oq)<|bU (s1:=S) kq ((Bx (l:=U) (i:=0) (j:=n-1) O underlying9 kq<|(show _=bS U.length U.length none (some<|num ((n-1:Nat):Int)) by kernel_rfl).trans<|(nV oq oq).trans gq).trans<|congrArg (λx=>some (x,S))<|show str _=_ by rw[List.drop_zero])<|zf ⟨n-1,by omega,O,U.take<|n-1,by rw[List.length_take];omega,by rw[<-f,<-a,Eu,ip g,a],by rw[List.length_take];omega,bu kq⟩
  .obtain rfl:U=[]:=List.length_eq_zero_iff.1 oq;refine aB<|zr<|zf<|za S<|zG<|aR ?_;rw[<-f];exact⟨O,O,bu kq⟩
 .rintro e d S ⟨rfl,rfl,x,rfl⟩;exact zs<|aD ⟨.inr O,kq,kq⟩
def Yw:List FuncId:=[198,298,299,300,356]
def Yv:List FuncId:=[298,299,316,356]
abbrev Su:Bq:=[9,10,12,13,32]
def Cu (k:Nat):Aq:=(Su.take k).foldl (λa c=>putAt a c.toNat [.bool true]) (List.replicate 256<|Value.bool false).toArray
def NE (b k:Nat)(x:Nat->Value):TL:=[str Su,x 1,aC b 0,.bool false,num k]++gG x 5 16
def Za(k:Nat)(h:k<5):∃c:UInt8,Su[k]?=some c/\c.toNat<128/\Cu (k+1)=putAt (Cu k) c.toNat [.bool true]/\(Cu k).size=256:=match k with
 | 0=>⟨9,O,dq,O,O⟩
 | 1=>⟨10,O,dq,O,O⟩
 | 2=>⟨12,O,dq,O,O⟩
 | 3=>⟨13,O,dq,O,O⟩
 | 4=>⟨32,O,dq,O,O⟩
def vN(s:AS)(o p:Obj):(s.add o).set s.nx (some p)=s.add p:=AS.set_set ⟨s.hp,s.nx+1⟩ s.nx _<|some p
def Js{P:Program}{fn:Func}{a:TL}{s:AS}{p q:ResultVar}{v w:Value}(h:fn.results.toList=[p,q])(d:mS P a s p=some v)(e:mS P a s q=some w):di P fn a s=some (.tuple #[v,w]):=by unfold di;rw[h];simp[d,e]
theorem zK{s:AS}{pr:Prim}(h:pr 298=none):Ef pr 298 #[str Su] s (.tuple #[.agg lH,.bool true]) (s.add<|.cells lH 285):=by
 refine aH h func298 O<|zs<|za (s.add<|.cells (Cu 0) 285)<|aB<|zs<|za (s.add<|.cells (Cu 0) 285)<|aV (NE s.nx 0) kq ?_;intro x0;refine aF<|bn (bw (Q:=λe j f=>e=.exit 0/\f=s.add (.cells lH 285)/\∃x,j=NE s.nx 5 x) (λm j f=>∃k,k+m=5/\f=s.add (.cells (Cu k) 285)/\∃x,j=NE s.nx k x) ?_ 5 _ _ ⟨0,by omega,O,x0,O⟩) ?_
 .rintro m j f ⟨k,g,rfl,x,rfl⟩;by_cases n:0<m
  .obtain⟨c,h1,h2,h3,z⟩:=Za k oq;have B:=aI s<|.cells (Cu k) 285;have S:=vN s (.cells (Cu k) 285)<|.cells (Cu<|k+1) 285;rw[h3] at S;have i:=h3;generalize Cu k=T at *;generalize Cu (k+1)=U at *;generalize s.add (.cells T 285)=V at *;refine aB<|zr<|zg 3 V<|zp (bz (u:=num k) (w:=num 5) O kq kq<|bE (b:=true)<|tD oq)<|am<|zT<|aB<|aF<|zr<|zg 2 V<|zp (li (l:=Su) (k:=.i64) (n:=(k:Nat)) (b:=c) O underlying9 kq kq oq<|by rw[Int.toNat_natCast];exact h1)<|zf<|za V<|aB<|zr<|zg 1 V<|zp (bz (u:=.int .u8 c.toNat) (w:=.int .u8 128) O kq kq<|wE<|fD oq)<|am<|zF<|zx<|zg 1 V<|zp (Ih (b:=s.nx) (off:=0) (n:=256) (k:=.u8) (j:=(c.toNat:Int)) (sz:=1) O underlying285 kq kq kq oq oq) ?_;rw[show 0+((c.toNat:Int)).toNat*1=c.toNat by rw[Int.toNat_natCast];omega];exact zp (iH (b:=s.nx) (off:=c.toNat) (w:=.bool true) O kq kq O O kq B.2 oq)<|am<|fe (s.add<|.cells U 285) ((show _=V.set s.nx _ by kernel_rfl).trans<|S.trans<|by rw[i])<|zx<|zg 1 (s.add<|.cells U 285)<|zp (jY (i:=(k:Nat)) (j:=1) (r:=((k+1:Nat):Int)) O kq kq oq oq)<|zf ⟨m-1,by omega,k+1,by omega,kq,bu kq⟩
  .obtain rfl:k=5:=oq
   rw[show Cu 5=lH by kernel_rfl];generalize s.add (.cells lH 285)=S;exact aB<|zr<|zf<|zG<|aR ⟨O,kq,bu kq⟩
 .rintro e j f ⟨rfl,rfl,x,rfl⟩;have B:=aI s<|.cells lH 285;have S:=vN s (.cells lH 285)<|.cells lH 285;have l:=fX (P:=prog) (t:=285) (off:=0) (n:=256) underlying285 O kq B.2 lr;refine zr ?_;generalize s.add (.cells lH 285)=V at *;refine zp (jq (b:=s.nx) (off:=0) (n:=256) (r:=lH) O underlying285 O kq kq B.2 lr kq)<|zp (eX (b:=s.nx) (off:=0) (w:=.agg lH) O kq kq O O kq B.2<|by decide)<|zf<|fe V ((show _=V.set s.nx _ by kernel_rfl).trans S)<|aD ⟨.inr O,Js O ((show _=bV prog 285 (aC s.nx 0) V by kernel_rfl).trans<|l.trans kq) kq,O⟩
def Vg{s:AS}(a:∀f,f∈Yw->pr f=none)(i:w.length<=1000000):∃m,Ef pr 198 #[str w,str Su] s (str<|uC<|yP w) m:=by
 by_cases d:w=[]
 .subst d;exact⟨s,aH (a 198 dq) func198 O<|zs<|aB<|zr<|zf<|za s<|zH<|zs<|aD ⟨.inr O,kq,kq⟩⟩
 .have c:=zK (s:=s)<|a 298 dq;generalize s.add _=S at c;have h:=aI S<|.cells (Cu 0) 285;have g:=vN S (.cells (Cu 0) 285)<|.cells lH 285;have e:=aI S<|.cells lH 285;have j:=Kq (a 300 dq) (a 356 dq) e.2 i;have k:=Am (a 299 dq) (a 356 dq) e.2 (l:=yP w) (by have:=Qy w;omega);generalize S.add (.cells lH 285)=Z at *;refine⟨Z,aH (a 198 dq) func198 O<|zs<|aB<|zr<|zk 1<|zp (bz (u:=str w) (w:=str []) O kq kq<|by unfold dV; simp only; rw[p9 d]) ?_⟩;iterate 2
   refine zf ?_
   refine za s ?_
   refine zF ?_
   refine aB<|zr ?_
  exact zc 1 c<|zg 4 _<|zp (eX (off:=0) (w:=.agg lH) O kq kq O O kq h.2<|by decide)<|zf<|fe Z ((show _=(S.add<|.cells (Cu 0) 285).set S.nx _ by kernel_rfl).trans g)<|zr<|zf<|za Z<|zH<|zr<|zc 1 j<|zc 0 k<|zf<|aD ⟨.inr O,kq,kq⟩
def QA{s:AS}(a:∀f,f∈Yv->pr f=none)(i:w.length<=1000000):∃m,Ef pr 316 #[str w,str Su] s (str<|uC w) m:=by
 by_cases d:w=[]
 .subst d;exact⟨s,aH (a 316 dq) func316 O<|zs<|aB<|zr<|zf<|za s<|zH<|zs<|aD ⟨.inr O,kq,kq⟩⟩
 .have c:=zK (s:=s)<|a 298 dq;generalize s.add _=S at c;have h:=aI S<|.cells (Cu 0) 285;have g:=vN S (.cells (Cu 0) 285)<|.cells lH 285;have e:=aI S<|.cells lH 285;have j:=Am (a 299 dq) (a 356 dq) e.2 i;generalize S.add (.cells lH 285)=Z at *;refine⟨Z,aH (a 316 dq) func316 O<|zs<|aB<|zr<|zk 1<|zp (bz (u:=str w) (w:=str []) O kq kq<|by unfold dV; simp only; rw[p9 d]) ?_⟩;iterate 2
   refine zf ?_
   refine za s ?_
   refine zF ?_
   refine aB<|zr ?_
  exact zc 1 c<|zg 4 _<|zp (eX (off:=0) (w:=.agg lH) O kq kq O O kq h.2<|by decide)<|zf<|fe Z ((show _=(S.add<|.cells (Cu 0) 285).set S.nx _ by kernel_rfl).trans g)<|zr<|zf<|za Z<|zH<|zr<|zc 1 j<|zf<|aD ⟨.inr O,kq,kq⟩
end
section
def Eh{l:List Nd}{v:Nd}(h:l[k]?=some u)(b:VX v=VX u):pQ (l.set k v)=pQ l:=by unfold pQ;rw[List.map_set,b];have a:=gS.1 h;have⟨h1,h2⟩:=a;rw[<-h2,<-List.getElem_map VX (h:=by simpa using h1)];exact List.set_getElem_self _
def Dk{a:kH}{x:Bq × Bq}(h:m9 a):m9 (fc a x):=by
 unfold fc;split
 .next b =>
  simp only[nU,decide_eq_true_eq,Bool.not_eq_true'] at b;refine⟨by simp;omega,?_⟩;rw[Bf];refine List.nodup_append.2 ⟨h.2,iq,λy f z c=>?_⟩;simp at c;subst c;rintro rfl;have⟨p,d,e⟩:=List.mem_map.1 f
  have:=List.any_eq_false.1 b.2 p d;exact this<|(dP _ _).2 e
 .exact h
def L3(l:kH):∀{a:kH},m9 a->m9 (l.foldl fc a):=by
 induction l with
 | nil=>intro a h;exact h
 | cons x l b=>intro a h;exact b<|Dk h
def Gv.j8(h:Gv acc σ)(d:σ.nodes[k]?=some u)(i:m9 aY):Gv acc (σ.j8 k aY):=by
 have e:(σ.j8 k aY).nodes=σ.nodes.set k { u with bC:=aY }:=by unfold TS.j8;rw[jU d]
 refine⟨?_,λv f=>?_⟩
 .rw[e,Eh (v:={ u with bC:=aY }) d O];exact h.g
 .rw[e] at f;rcases List.mem_or_eq_of_mem_set f with q|q
  .exact h.pn v q
  .subst q;exact⟨i,(h.pn u<|mG d).2⟩
theorem Gv.node(h:Gv acc σ)(U:j<σ.row.length):∃u,σ.nodes[σ.row.getD j 0]?=some u/\u.name=nameAt σ j/\u.kind=1:=by
 have h1:=gE U;have h2:σ.row.getD j 0=σ.row[j]:=gq
 have⟨n,e1⟩:=h.g.c.el _<|mG h1;rw[wq] at e1;rw[h2];cases hu:σ.nodes[σ.row[j]]? with
 | none=>rw[hu] at e1;cases e1
 | some u =>
  rw[hu] at e1;refine⟨u,O,?_,?_⟩
  .unfold nameAt;rw[h1];simp only[hu]
  .exact congrArg Prod.fst<|Kh e1
def Gv.give(h:Gv acc σ)(hi:i<σ.row.length):Gv acc (σ.give i aY):=by have⟨u,h1,_⟩:=h.node hi;unfold TS.give;rw[jU h1];exact h.j8 h1<|L3 aY (h.pn u<|mG h1).1
def wW(σ:TS)(i:Nat)(aY:kH):(σ.give i aY).nodes.length=σ.nodes.length/\(σ.give i aY).w=σ.w:=by unfold TS.give TS.j8;simp
theorem Gv.words(h:Gv acc σ):Gv (acc+tx.length) (σ.words tx)/\(σ.words tx).w=σ.w/\(σ.words tx).nodes.length<=σ.nodes.length+1:=by
 have m:0<σ.nodes.length:=by have:=h.g.c.lt 0<|mG h.g.c.r0;rw[ml] at this;omega
 have U:σ.nodes[σ.nodes.length-1]?=some σ.nodes[σ.nodes.length-1]:=gE oq;generalize σ.nodes[σ.nodes.length-1]=u at U;unfold TS.words;split
 .unfold TS.join;rw[jU U];refine⟨⟨?_,λv k=>?_⟩,O,iq⟩
  .rw[Eh (v:={ u with text:=u.text++tx }) U O];exact h.g
  .rcases List.mem_or_eq_of_mem_set k with q|q
   .have⟨b,c⟩:=h.pn v q;exact⟨b,oq⟩
   .subst q;have⟨b,c⟩:=h.pn u<|mG U;exact⟨b,gq⟩
 .exact⟨(h.mono oq).put nodup_nil gq,O,by unfold TS.put;simp⟩
theorem SW:∀a,aW a bX=true->aW a eE=false/\jR a=false:=by
 intro a h;have b:bX.all (λn=>!aW n eE&&!jR n)=true:=dq
 have⟨y,U,e⟩:=List.any_eq_true.1 h;have e:=(dP _ _).1 e;grind
def DN(σ:TS)(k:Nat)(l:List Nat):{ σ with again:=l }.fJ k={ σ.fJ k with again:=l }:=rfl
def Dg(l:List Nat):∀(σ:TS) (m:List Nat),l.foldl TS.fJ { σ with again:=m }={ l.foldl TS.fJ σ with again:=m }:=by
 induction l with
 | nil=>intro σ m;rfl
 | cons k l a=>intro σ m;rw[List.foldl_cons,List.foldl_cons,DN,a]
def F2(σ:TS):σ.dZ=(σ.again.take<|40-σ.row.length).foldl TS.fJ { σ with again:=[] }:=by rw[Dg];rfl
theorem Gv.dZ(h:Gv acc σ)(D:σ.w≠0):Gv acc σ.dZ/\σ.dZ.w=σ.w/\σ.dZ.again=[]/\σ.dZ.nodes.length<=σ.nodes.length+40/\∀k<σ.nodes.length,σ.dZ.nodes[k]?=σ.nodes[k]?:=by
 have A:Gv acc { σ with again:=[] }:=⟨h.g.mono (Nat.zero_le _) (λk j=>by cases j),h.pn⟩;rw[F2];have p:∀(l:List Nat) (a:TS),Gv acc a->a.again=[]->a.w=σ.w->σ.nodes.length<=a.nodes.length->(∀k<σ.nodes.length,a.nodes[k]?=σ.nodes[k]?)->(∀k∈l,k∈σ.again)->Gv acc (l.foldl TS.fJ a)/\(l.foldl TS.fJ a).w=σ.w/\(l.foldl TS.fJ a).again=[]/\(l.foldl TS.fJ a).nodes.length=a.nodes.length+l.length/\∀k<σ.nodes.length,(l.foldl TS.fJ a).nodes[k]?=σ.nodes[k]?:=by
  intro l;induction l with
  | nil=>intro a h1 h2 h3 B d _;exact⟨h1,h3,h2,rfl,d⟩
  | cons k l C =>
   intro a h1 h2 h3 B d y;have⟨f,i⟩:=h.g.ag k (y k (List.mem_cons_self ..));rw[ml] at f;obtain⟨u,o⟩:∃u,σ.nodes[k]?=some u:=⟨_,gE f⟩;have m:=jU ((d k f).trans o);have b:aW u.name bX=true:=by unfold jO zN at i;rw[wq,o] at i;exact i
   have z:=h1.open_ gq (λ_ e=>by have:=(show aW lN bX=true from e▸b);revert this;decide) (λ_=>h2) (h.pn u (mG o)).1;have c:(a.open_ u.name u.bC).nodes.length=a.nodes.length+1:=by unfold TS.open_ TS.put;simp
   have U:a.fJ k=a.open_ u.name u.bC:=by unfold TS.fJ;rw[m]
   rw[List.foldl_cons,U];have⟨r,s,t,v,x⟩:=C _ z h2 h3 oq (λq n=>by rw[<-d q n];show(a.nodes++[_])[q]?=_;rw[Cg oq]) (λq n=>y q (Dv _ n));exact⟨r,s,t,by rw[v,c,lC];omega,x⟩
 have⟨r,s,t,v,x⟩:=p (σ.again.take (40-σ.row.length)) { σ with again:=[] } A rfl rfl lr (λ_ _=>rfl) (λk j=>List.mem_of_mem_take j);refine⟨r,s,t,?_,x⟩;rw[v,List.length_take];show σ.nodes.length+_<=_;omega
section
variable (h:Gv acc σ)
def Gv.forget(nm:Bq):Gv acc (σ.forget nm)/\(σ.forget nm).nodes=σ.nodes/\(σ.forget nm).w=σ.w:=by
 unfold TS.forget;split
 .exact⟨h,O,O⟩
 .exact⟨⟨h.g.mono (List.length_eraseIdx_le _ _)<|λk a=>List.mem_of_mem_eraseIdx a,h.pn⟩,O,O⟩
def Gv.jp(hi:2<=i):Gv acc (σ.jp i)/\(σ.jp i).nodes=σ.nodes/\(σ.jp i).w=σ.w:=by
 unfold TS.jp;split
 .exact⟨h.close hi,O,O⟩
 .exact⟨h,O,O⟩
def Gv.dx{j:Int}(a:j<1\/2<=j):Gv acc (σ.dx j)/\(σ.dx j).nodes=σ.nodes/\(σ.dx j).w=σ.w:=by
 unfold TS.dx;split
 .exact⟨h,O,O⟩
 .exact⟨h.close oq,O,O⟩
def Gv.Rt(g:σ.w=2)(c:aW xm l=false)(h1:aW Cr l=false):dg σ l = -1\/2<=dg σ l:=by
 have e:=pB σ l;by_cases f:dg σ l = -1
 .exact .inl f
 .have⟨j,d⟩:=Int.eq_ofNat_of_zero_le (show 0<=dg σ l by omega);have a:=(sL σ l _ j d).1;have b:=(h.ME g).1;match j with
  | 0=>rw[h.H6,c] at a;cases a
  | 1=>rw[b,h1] at a;cases a
  | j+2=>right;omega
def Gv.rY(b:σ.w=2){m:List (Bq)}(a:aW xm m=false)(h1:aW Cr m=false):cj σ l m = -1\/2<=cj σ l m:=by
 unfold cj;split
 .exact .inl O
 .exact h.Rt b a h1
end
def Gv.opens(ls:List (List<|Bq))(a:∀l∈ls,aW (l.headD []) eE=false/\aW (l.headD []) bX=false):∀{σ:TS},Gv acc σ->σ.w=2->Gv acc (σ.opens ls)/\(σ.opens ls).w=σ.w:=by
 induction ls with
 | nil=>intro σ h _;exact⟨h,O⟩
 | cons l ls f =>
  intro σ h d;have b:=a l<|List.mem_cons_self ..
  have:=h.open_ oq (λe=>oq) (λe=>by rw[b.2] at e;cases e) nodup_nil;have r:=f (λg c=>a g<|Dv _ c) this d;exact⟨r.1,r.2⟩
def Gv.part(h:Gv acc σ)(a:σ.w=2){ls:List (List<|Bq)}(g:∀l∈ls,aW (l.headD []) eE=false/\aW (l.headD []) bX=false):Gv acc (σ.part ls)/\(σ.part ls).w=2/\(σ.part ls).nodes.length<=σ.nodes.length+ls.length:=by
 unfold TS.part;split
 .exact⟨h,a,by omega⟩
 .next j =>have c:=(h.Rt a dq dq).resolve_left j;unfold TS.Ij;have⟨e,f,d⟩:=h.jp (i:=(dg σ [FO]).toNat+1+σ.pL ((dg σ [FO]).toNat+1) ls) oq;have⟨k,m⟩:=Gv.opens (ls.drop<|σ.pL ((dg σ [FO]).toNat+1) ls) (λl b=>g l<|List.mem_of_mem_drop b) e (by rw[d,a]);exact⟨k,by rw[m,d,a],by rw[zX,f,List.length_drop];omega⟩
def TS.Hb(σ:TS)(l:List (Bq)):TS:=if aW (nameAt σ<|σ.row.length-1) l=true then σ.gH (σ.row.length-1) else σ
theorem Gv.Hb(h:Gv acc σ)(d:aW xm l=false)(h1:aW Cr l=false)(h2:aW lN l=false):Gv acc (σ.Hb l)/\(σ.Hb l).nodes=σ.nodes/\(σ.Hb l).w=σ.w/\(aW (nameAt σ<|σ.row.length-1) l=true->3<=σ.row.length):=by
 have b:aW (nameAt σ<|σ.row.length-1) l=true->3<=σ.row.length:=λU=>by
  have e:=HU.2 h.g.c.ne;by_cases e1:σ.row.length=1
  .rw[e1,h.H6,d] at U;cases U
  .by_cases a:σ.row.length=2
   .rw[a] at U;rcases h.g.ph with ⟨_,q⟩|⟨q,_⟩|⟨q,_⟩
    .rw[q] at a;cases a
    .rw[(h.Rw q).1,h2] at U;cases U
    .rw[(h.ME q).1,h1] at U;cases U
   .omega
 unfold TS.Hb;split
 .next U =>have:=b U;exact⟨h.close oq,O,O,λ_=>this⟩
 .grind
theorem Gv.jd(h:Gv acc σ)(k:σ.w=1):Gv acc σ.jd/\σ.jd.w=2/\dg σ [lN]≠0/\σ.jd.nodes.length=σ.nodes.length+1/\(1<=dg σ [lN]):=by
 have⟨p,s⟩:=h.Rw k;have n:=xf σ [lN] σ.row.length 1 oq (by rw[p];decide);have a:dg σ [lN]=1:=by
  have⟨j,i⟩:=Int.eq_ofNat_of_zero_le (show 0<=dg σ [lN] by unfold dg;omega);have⟨d,b⟩:=sL σ [lN] _ j i;have o:1<=j:=by unfold dg at i;omega
  by_cases h2:2<=j
  .exfalso;have l:=gE b;rcases h.g.ph with ⟨e,_⟩|⟨_,_,q4⟩|⟨e,_⟩
   .omega
   .have:=q4 j _ h2 l;rw[sV σ l] at d;have e:zN (pQ σ.nodes) σ.row[j]=lN:=by
     have:cZ (zN (pQ σ.nodes) σ.row[j]) lN=true:=by simpa[aW] using d
     exact(dP _ _).1 this
    exact this e
   .omega
  .omega
 refine⟨?_,O,oq,ua σ,oq⟩;have m:σ.dx (dg σ [lN])=σ.gH 1:=by rw[a];rfl
 have f:=h.g.body<|qF σ 1;rw[ml] at f;have h1:=h.g.one;unfold TS.jd;rw[m];refine⟨?_,λv c=>?_⟩
 .unfold TS.open_;have U:(σ.gH 1).row=[0]:=h1;rw[ip gq,th,U];exact f
 .have c:=c;rcases List.mem_append.1 c with q|q
  .exact h.pn v q
  .simp at q;subst q;exact⟨nodup_nil,Nat.zero_le _⟩
theorem Gv.cT(h:Gv acc σ):Gv acc σ.cT/\σ.cT.w=2/\σ.cT.nodes.length<=σ.nodes.length+2:=by
 have U:=sI σ;unfold TS.cT at U |-;split
 .grind
 .split
  .next e =>obtain⟨h1,h2⟩:=h.jP e nodup_nil;have⟨a,b,_,c,_⟩:=h1.jd h2;grind
  .next e1 f =>
   have d:σ.w=1:=by rcases h.g.ph with ⟨q,_⟩|⟨q,_⟩|⟨q,_⟩<;>omega
   have⟨a,b,_,c,_⟩:=h.jd d;exact⟨a,b,oq⟩
def Gv.w3(h:Gv acc σ):σ.w=0\/σ.w=1\/σ.w=2:=by rcases h.g.ph with ⟨q,_⟩|⟨q,_⟩|⟨q,_⟩<;>omega
theorem Gv.mU(h:Gv acc σ):Gv acc σ.mU/\σ.mU.w≠0/\σ.mU.nodes.length<=σ.nodes.length+1:=by
 unfold TS.mU;split
 .next e =>obtain⟨h1,h2⟩:=h.jP e nodup_nil;exact⟨h1,by rw[h2];decide,by unfold TS.jP TS.open_ TS.put;simp⟩
 .grind
theorem Gv.text(h:Gv acc σ):Gv (acc+tx.length) (σ.text (λx=>uC<|yP x) uC tx)/\(σ.text (λx=>uC<|yP x) uC tx).nodes.length<=σ.nodes.length+50:=by
 have i:∀{d:TS} {x y:Bq},Gv acc d->d.w=2->y.length<=tx.length->Gv (acc+tx.length) (d.fin x y)/\(d.fin x y).nodes.length<=d.nodes.length+41:=by
  intro d x y f j s;unfold TS.fin;split
  .have⟨a,b,c⟩:=f.words (tx:=y);exact⟨a.mono oq,oq⟩
  .have⟨p,t,u,v,_⟩:=f.dZ oq;have⟨a,b,c⟩:=p.words (tx:=y);exact⟨a.mono oq,oq⟩
 unfold TS.text;split
 .have⟨a,b,c⟩:=h.words (tx:=tx);exact⟨a,oq⟩
 .split
  .next q=>have⟨a,b⟩:=i (x:=uC<|yP tx) h q lr;exact⟨a,Nat.le_trans b oq⟩
  .split
   .exact⟨h.mono oq,oq⟩
   .have⟨m,n,r⟩:=h.cT;have⟨a,b⟩:=i (x:=uC<|yP<|uC tx) m n (List.dropWhile_sublist Kl).length_le;exact⟨a,Nat.le_trans b oq⟩
end
structure GZ(pr:Prim):Prop where
 no:∀f,f∈fI->pr f=none
 nA:∀f,f∈Ia->pr f=none
 xl:pr 320=none
 Ym:pr 236=none
 Yn:pr 237=none
 Ue:pr 241=none
 Yo:pr 242=none
 Yp:pr 245=none
 fM:pr 127=bP 127
 del:QM pr
 tr:∀x:Bq,x.length<=1000000->∀s,EF prog kg pr 198 #[str x,str [9,10,12,13,32]] s (str<|uC<|yP x) s
 tl:∀x:Bq,x.length<=1000000->∀s,EF prog kg pr 316 #[str x,str [9,10,12,13,32]] s (str<|uC x) s
def Jl (nm:Bq)(aY:kH)(σ:TS)(d:DC):TS × Bool :=
 if d.f=224 then (σ.give (dg σ d.a).toNat aY,false)
 else if d.f=230 then (σ.Hb d.a,true)
 else if d.f=233 then (σ,false)
 else if d.f=234 then (σ.dx<|cj σ d.a d.b,true)
 else if d.f=236 then (σ.part<|lp d.a d.b,decide (dg σ [FO] ≠ -1))
 else if d.f=238 then (σ.dZ,true)
 else (σ,true)
def kY (nm:Bq)(aY:kH):List DC->TS->TS × Bool
 | [],σ=>(σ,true)
 | d::ds,σ=>if (Jl nm aY σ d).2=true then kY nm aY ds (Jl nm aY σ d).1 else ((Jl nm aY σ d).1,false)
def PI (d:DC):Bool :=
 if d.f=224 then (d.a==[xm]||d.a==[Cr])&&d.b.isEmpty
 else if d.f=230 then !aW xm d.a&&!aW Cr d.a&&!aW lN d.a&&d.b.isEmpty
 else if d.f=233 then d.a.isEmpty&&d.b.isEmpty
 else if d.f=234 then !aW xm d.b&&!aW Cr d.b
 else if d.f=236 then (lp d.a d.b).all λl=>!l.isEmpty&&!aW (l.headD []) eE&&!aW (l.headD []) bX
 else if d.f=238 then d.a.isEmpty&&d.b.isEmpty
 else d.f=240&&d.a.isEmpty&&d.b.isEmpty
variable {my:TS}{b:Nat}{t:jm}{d:DC}
section
def nz{m:Bq}(h:aW n [m]=true):n=m:=by
 have:cZ n m=true:=by simpa[aW] using h
 exact(dP _ _).1 this
def Gv.wB(h:Gv acc σ):σ.again.length<=50000:=by have:=h.g.fo;omega
def Gv.Xn(h:Gv acc σ):∀k∈σ.again,jR (σ.mA k).name=false:=λk d=>by have⟨b,a⟩:=h.g.ag k d;rw[ml] at b;have c:=gE b;unfold jO zN at a;rw[wq,c] at a;rw[jU c];exact(SW _ a).2
def Gv.TY(h:Gv acc σ)(c:j<σ.row.length)(d:nameAt σ j=n):∃i:Nat,dg σ [n]=(i:Int)/\i<σ.row.length/\nameAt σ i=n:=by have b:=xf σ [n] σ.row.length j c (by rw[d];simp[aW,(dP n n).2 O]);have⟨i,a⟩:=Int.eq_ofNat_of_zero_le (show 0<=dg σ [n] by unfold dg;omega);have⟨e,f⟩:=sL σ [n] _ i a;exact⟨i,a,f,nz e⟩
theorem A7(a:GZ pr)(h:Gv acc σ)(m:jR n=true)(l:j<σ.row.length)(g:nameAt σ j=n)(d:m9 aY):dz pr b t aY ⟨224,[n],[]⟩ σ (σ.give (dg σ [n]).toNat aY) false/\Gv acc (σ.give (dg σ [n]).toNat aY):=by
 have⟨i,k,U,f⟩:=h.TY l g;have e:(dg σ [n]).toNat=i:=gq
 rw[e];have⟨u,c,o,p⟩:=h.node U
 have:=(h.pn u<|mG c).1.1
 have:=d.1;exact⟨(by
                  intro z s x h Y c5;have⟨x',Q,P,d2,d3,d4,_⟩:=Y;cases Q;have⟨g,j,q,p,e⟩:=t;have c5:=c5;have⟨a5,d,v⟩:=c5.len;subst v;have G:=h.add<|fp ⟨g,j,q,.slice a5 aY.length d,e⟩;have y:=aI s<|fp ⟨g,j,q,.slice a5 aY.length d,e⟩;have H:=(h.fk<|(aE s).add<|fp ⟨g,j,q,.slice a5 aY.length d,e⟩).2;have I:dI (s.add<|fp ⟨g,j,q,.slice a5 aY.length d,e⟩) _ aY:=c5.fk ((aE s).add _) λ_ _=>id;obtain⟨B,nm',q1,rfl,W⟩:=P<|.inl rfl;cases q1;have l:=W.add<|fp ⟨g,j,q,.slice a5 aY.length d,e⟩;generalize X:s.add _=S at *;have w:i<σ.row.length:=by have:=pB σ [n];rw[k] at this;omega
                  have⟨nv,rv,av,xs,u⟩:=G;have A:=u.add<|.cells ([n].map str).toArray 9;have C:=c9 u<|.cells ([n].map str).toArray 9;have D:=xg (a.no 222 dq) (a.no 231 dq) (a.no 232 dq) a.fM A<|bR S [n] 1 rfl gq;rw[k] at D;have E:=y.add<|.cells ([n].map str).toArray 9;have Z:=jS underlying9 rfl l.2 (off:=0) rfl;have l2:=jS underlying42 rfl y.2 (off:=3) rfl;have l3:=jS underlying42 rfl E.2 (off:=3) rfl;generalize r:S.add _=b5 at *;have J:=I.fb z ⟨_,_,_,_,u⟩ C;have⟨U,R,T,V⟩:=SZ (a.no 225 dq) a.nA (⟨_,_,_,_,A⟩:BX b5 b σ) w (by rw[jU c,o,f];exact m) (by rw[jU c];omega) J z oq;generalize aY.length=d5 at *;refine aX (a.no 224 dq) func224 rfl<|zs<|za (s.add<|fp ⟨g,j,q,.slice a5 d5 d,e⟩) ?_;rw[X];refine aB<|aP kq kq kq<|zq<|zq<|zt S<|zu (yl B 0 (str n) l.2)<|zq<|zt (S.add<|.cells ([n].map str).toArray 9) ?_;rw[r];exact yt D (zq (zt b5 (zu (yl s.nx 3 (.slice a5 d5 d) E.2) (yt R (bq ⟨kN<|vD Z l2 l3 rfl (by cases a5<;>rfl) (by cases a5<;>rfl),_,_,_,_,_,_,rfl,rfl,za U<|zs<|za U (aD ⟨.inr rfl,kq,T,(H.trans C).trans V⟩)⟩)))))),h.give U⟩
def Lw(a:GZ pr)(h:Gv acc σ)(i:aW xm l=false)(h1:aW Cr l=false)(h2:aW lN l=false):dz pr b t aY ⟨230,l,[]⟩ σ (σ.Hb l) true:=by
 have⟨_,_,_,e⟩:=h.Hb i h1 h2;have f:=HU.2 h.g.c.ne;have⟨u,d,m,_⟩:=h.node (j:=σ.row.length-1) oq;have k:σ.row.getD (σ.row.length-1) 0=σ.cur:=by rw[Dj,TS.nX h.g.c.ne];rfl
 rw[k] at d;unfold TS.Hb;rw[<-m] at e |-;cases hl:aW u.name l with
 | true =>have h3:=e hl;rw[ip O,TS.r8 oq];exact tH a.no a.fM d hl oq
 | false =>exact rJ a.no a.fM d hl
theorem YV(U:GZ pr)(h:Gv acc σ)(g:σ.w=2)(c:PI d=true)(A:m9 aY)(G:σ.nodes.length+100<400000000):dz pr b t aY d σ (Jl nm aY σ d).1 (Jl nm aY σ d).2/\Gv acc (Jl nm aY σ d).1/\(Jl nm aY σ d).1.w=2/\(Jl nm aY σ d).1.nodes.length<=σ.nodes.length+50:=by
 have⟨f,a,p⟩:=d;have⟨D,J⟩:=h.ME g;unfold PI at c;unfold Jl;simp only at c |-;by_cases e:f=224
 .subst e;rw[ip O] at c |-;simp only[nU,G6,beq_iff_eq,List.isEmpty_iff] at c;obtain⟨B,rfl⟩:=c;have I:=λi=>wW σ i aY;rcases B with rfl|rfl
  .have⟨E,F⟩:=A7 (b:=b) (t:=t) U h dq (j:=0) oq h.H6 A;grind
  .have⟨E,F⟩:=A7 (b:=b) (t:=t) U h dq (j:=1) oq D A;grind
 rw[iw e] at c |-;by_cases u:f=230
 .subst u;rw[ip O] at c |-;simp only[nU,Bool.not_eq_true',List.isEmpty_iff] at c;obtain⟨⟨⟨q,h1⟩,h2⟩,rfl⟩:=c;have⟨k,m,o,_⟩:=h.Hb q h1 h2;exact⟨Lw U h q h1 h2,k,by rw[o];exact g,by rw[m];omega⟩
 rw[iw u] at c |-;by_cases v:f=233
 .subst v;rw[ip O] at c |-;simp only[nU,List.isEmpty_iff] at c;obtain⟨rfl,rfl⟩:=c;exact⟨eV U.no,h,g,by show σ.nodes.length<=_;omega⟩
 rw[iw v] at c |-;by_cases x:f=234
 .subst x;rw[ip O] at c |-;simp only[nU,Bool.not_eq_true'] at c;have⟨q,h1⟩:=c;have H:=h.rY (l:=a) g q h1;have⟨k,m,o⟩:=h.dx (j:=cj σ a p) oq;exact⟨mo U.no U.xl U.fM oq h.wB,k,by rw[o];exact g,by rw[m];omega⟩
 rw[iw x] at c |-;by_cases y:f=236
 .subst y;rw[ip O] at c |-;have s:∀l∈lp a p,l≠[]/\aW (l.headD []) eE=false/\aW (l.headD []) bX=false:=λl s=>by grind
  have⟨k,m,o⟩:=h.part g<|λl r=>(s l r).2;have C:(lp a p).length<=2:=by unfold lp;split<;>split<;>simp
  exact⟨dz.part U.no U.xl U.Ym U.Yn U.fM (λl r=>(s l r).1) h.wB oq,k,m,by show(σ.part<|lp a p).nodes.length<=_;omega⟩
 rw[iw y] at c |-;by_cases z:f=238
 .subst z;rw[ip O] at c |-;simp only[nU,List.isEmpty_iff] at c;obtain⟨rfl,rfl⟩:=c;have⟨k,m,o,K,_⟩:=h.dZ oq;exact⟨(by refine dw (U.no 238 dq) func238 O λs S x w z d g y i M v q A r e B u=>?_;subst v;have⟨F,l,C,D,E,j,_⟩:=r;cases l;obtain rfl:=j dq;have⟨L,m,n,o⟩:=G3 (U.no 239 dq) (U.no 223 dq) (U.no 217 dq) (U.no 232 dq) e h.Xn oq;refine zs<|za (s.add<|fp ⟨w,z,d,.slice g y i,M⟩) ?_;rw[q];exact zr<|zc 1 m<|am<|za L<|zs<|za L<|aD ⟨.inr O,kq,n,o⟩),k,by rw[m];exact g,by show σ.dZ.nodes.length<=_;omega⟩
 rw[iw z] at c |-;simp only[nU,List.isEmpty_iff,decide_eq_true_eq] at c;obtain⟨⟨rfl,rfl⟩,rfl⟩:=c;exact⟨(by refine dw (U.no 240 dq) func240 O λs S x o q c e p h g n k r l d u m=>?_;subst n;have⟨z,j,v,w,y,i,_⟩:=l;cases j;obtain rfl:=i dq;refine zs<|za (s.add<|fp ⟨o,q,c,.slice e p h,g⟩) ?_;rw[k];exact zs<|za S<|aD ⟨.inr O,kq,d,dU S⟩),h,g,by show σ.nodes.length<=_;omega⟩
theorem Hp(e:GZ pr)(l:nm=t.name)(c:m9 aY):∀(U:List DC) {σ:TS},(∀d∈U,PI d=true)->Gv acc σ->σ.w=2->σ.nodes.length+50*U.length+100<400000000->e9 pr b t aY U σ (kY nm aY U σ).1 (kY nm aY U σ).2/\Gv acc (kY nm aY U σ).1/\(kY nm aY U σ).1.w=2/\(kY nm aY U σ).1.nodes.length<=σ.nodes.length+50*U.length
 | [],σ,_,h,hw,_=>⟨e9.nil,h,hw,by unfold kY;simp⟩
 | d::U,σ,hd,h,hw,hN=>by
  rw[lC] at hN;have⟨r1,r2,r3,f⟩:=YV (b:=b) (t:=t) (nm:=nm) e h hw (hd d<|List.mem_cons_self ..) c oq;unfold kY;generalize Jl nm aY σ d=q at *;have⟨a,g⟩:=q;have f:a.nodes.length<=σ.nodes.length+50:=f;rw[lC];cases g with
  | true =>rw[ip O];have⟨m,n,o,i⟩:=Hp e l c U (λj k=>hd j<|Dv _ k) r2 r3 gq;have i:(kY nm aY U a).1.nodes.length<=a.nodes.length+50*U.length:=i;exact⟨e9.ok r1 m,n,o,by show(kY nm aY U a).1.nodes.length<=_;omega⟩
  | false =>rw[iw iq];exact⟨gd r1,r2,r3,by show a.nodes.length<=_;omega⟩
theorem ze{l:List rS}(h:d∈cF nm l):∃r∈l,r.1=d:=by
 unfold cF at h;split at h
 .unfold tc at h;grind
 .unfold nI at h;grind
def MP:(gm.all λr=>PI r.1)=true:=dq
def TS.mm(σ:TS)(nm:Bq)(aY:kH):TS:=if (kY nm aY (cF nm gm) σ).2=true then (kY nm aY (cF nm gm) σ).1.fS nm aY else (kY nm aY (cF nm gm) σ).1
def acK(h:jR nm=true)(σ:TS)(aY:kH):(kY nm aY (cF nm gm) σ).2=false:=by
 unfold jR at h;rw[G6] at h;rcases h with h|h
 iterate 2
  .obtain rfl:=(dP _ _).1 h;kernel_rfl
def El:(bX.all λn=>(cF n gm).getLast?.any λd=>d.f.beq 238)=true:=dq
theorem U4(U:List DC):∀(σ:TS),(U.getLast?.any λd=>d.f.beq 238)=true->(kY nm aY U σ).2=true->(kY nm aY U σ).1.again=[]:=by
 induction U with
 | nil=>intro σ h _;cases h
 | cons d U c =>
  intro σ h a;unfold kY at a |-;split
  .next q =>
   rw[ip q] at a;cases U with
   | nil =>have b:=iC (by simpa using h);unfold kY Jl;simp only[b];rfl
   | cons g e=>exact c _ gq a
  .grind
def pH(σ:TS)(nm:Bq)(aY:kH):(σ.fS nm aY).nodes.length=σ.nodes.length+1/\(σ.fS nm aY).w=σ.w:=by unfold TS.fS TS.open_ TS.put;split<;>simp
def Ae(g:GZ pr)(h:Gv acc σ)(i:σ.w=2)(c:m9 aY)(q:σ.nodes.length+1000<400000000):fU pr 218 b t aY σ (σ.mm t.name aY)/\e9 pr b t aY (cF t.name gm) σ (kY t.name aY (cF t.name gm) σ).1 (kY t.name aY (cF t.name gm) σ).2/\((kY t.name aY (cF t.name gm) σ).2=true->jR t.name=false)/\(kY t.name aY (cF t.name gm) σ).1.nodes.length<400000000/\Gv acc (σ.mm t.name aY)/\(σ.mm t.name aY).w=2/\(σ.mm t.name aY).nodes.length<=σ.nodes.length+801:=by
 have r:(cF t.name gm).length<=gm.length:=by unfold cF tc nI;grind
 have p:gm.length=15:=O;have⟨j,k,l,s⟩:=Hp (b:=b) (nm:=t.name) g O c (cF t.name gm) (λd m=>by obtain⟨r,a,rfl⟩:=ze m;exact aT.1 MP r a) h i oq;have a:(kY t.name aY _ σ).2=true->jR t.name=false:=λe=>by
  cases hb:jR t.name with
  | false=>rfl
  | true=>rw[acK hb] at e;cases e
 have f:=NR g.no g.fM i j a oq;refine⟨f,j,a,oq,?_,?_,?_⟩
 .unfold TS.mm;split
  .next o=>exact k.fS oq (λe=>oq) (λn=>by have⟨y,b,e⟩:=List.any_eq_true.1 n;obtain rfl:=(dP _ _).1 e;exact U4 _ σ (aT.1 El _ b) o) c
  .exact k
 .unfold TS.mm;split
  .rw[(pH _ _ _).2];exact l
  .exact l
 .unfold TS.mm;split
  .rw[(pH _ _ _).1];omega
  .omega
end
abbrev qI:List (Bq):=[[115,99,114,105,112,116],[115,116,121,108,101],[116,105,116,108,101]]
abbrev xn:List (Bq):=[Cr,xm,[98,114],[112]]
def TS.start(σ:TS)(nm:Bq)(aY:kH):TS :=
 if σ.w=2 then σ.mm nm aY
 else if aW nm [xm]=true then σ.give (dg σ [xm]).toNat aY
 else if aW nm [lN]=true then (if σ.w=0 then σ.jP aY else σ)
 else if aW nm jj=true then σ.mU.fS nm aY
 else σ.cT.mm nm aY
section
def vO(h:aW n l=true):n∈l:=by have⟨y,a,e⟩:=List.any_eq_true.1 h;rw[(dP _ _).1 e];exact a
def Tk:(jj.all λn=>(cF n mi).map (·.f)==[227]&&!jR n&&!aW n bX&&!aW n [lN])=true:=dq
def esH:cF xm mi=[⟨224,[xm],[]⟩]:=rq
def WL:cF lN mi=[⟨226,[],[]⟩]:=rq
def aaV(h:aW nm jj=true):∃a,cF nm mi=⟨227,[],[]⟩::a:=by have:=vO h;simp[jj,oc,zL,or_false] at this;rcases this with rfl|rfl|rfl|rfl|rfl|rfl<;>exact⟨[],by rfl⟩
def esO(h1:aW nm [xm]=false)(h2:aW nm [lN]=false)(h3:aW nm jj=false):cF nm mi=[⟨229,[],[]⟩]:=by
 have e:mi=[(⟨224,[xm],[]⟩,[xm]),(⟨226,[],[]⟩,[lN]),(⟨227,[],[]⟩,jj),(⟨229,[],[]⟩,[[]])]:=O;rw[e];unfold cF tc nI;simp only[List.filter_cons,List.filter_nil,h1,h2,h3];cases h4:aW nm [[]] with
 | true=>rfl
 | false=>rfl
theorem xO(U:GZ pr)(h:Gv acc σ)(f:m9 aY)(F:σ.nodes.length+1010<400000000):fU pr 218 b t aY σ (σ.start t.name aY)/\Gv acc (σ.start t.name aY)/\(σ.w=2->(σ.start t.name aY).w=2)/\(σ.start t.name aY).nodes.length<=σ.nodes.length+803:=by
 unfold TS.start;by_cases a:σ.w=2
 .rw[ip a];have⟨m,_,_,_,q,B,C⟩:=Ae (b:=b) (t:=t) U h a f oq;grind
 rw[iw a];have r:=HU.2 h.g.c.ne;have k:=h.w3;by_cases h1:aW t.name [xm]=true
 .rw[ip h1];have e:=nz h1;have⟨m,o⟩:=A7 (b:=b) (t:=t) U h dq (j:=0) r h.H6 f;refine⟨tp U.no U.fM a ?_,o,λz=>absurd z a,by rw[(wW _ _ _).1];omega⟩;rw[e,esH];exact gd m
 rw[iw h1];by_cases h2:aW t.name [lN]=true
 .rw[ip h2];have e:=nz h2;by_cases i:σ.w=0
  .rw[ip i];have⟨g1,g2⟩:=h.jP i f;refine⟨tp U.no U.fM a ?_,g1,λz=>absurd z a,by unfold TS.jP TS.open_ TS.put;simp⟩;rw[e,WL];exact gd<|dz.head U.no i oq
  .rw[iw i];refine⟨tp U.no U.fM a ?_,h,λz=>absurd z a,oq⟩;rw[e,WL];exact gd<|by refine dw (U.no 226 dq) func226 O λs S x v z c j y l k u o A q d B r=>?_;subst u;have⟨I,n,D,E,F,m,_⟩:=q;cases n;obtain rfl:=m dq;have w:=d;have⟨G,H,C,J,p⟩:=d;have g:=p.b;generalize σ.w=h at g i;refine zs<|za (s.add<|fp ⟨v,z,c,.slice j y l,k⟩) ?_;rw[o];exact aB<|zr<|zg 3 S<|zp (yl b 3 (num h) g.2)<|zp (yb (num h) (num 0)<|cW<|bF.2 i)<|am<|za S<|zF<|zs<|za S<|aD ⟨.inr O,kq,w,dU S⟩
 rw[iw h2];by_cases h3:aW t.name jj=true
 .rw[ip h3];have⟨E,e⟩:=aaV h3;have d:=aT.1 Tk _<|vO h3;simp only[nU,Bool.not_eq_true'] at d;obtain⟨⟨⟨_,v⟩,x⟩,p⟩:=d;have⟨g1,g2,g3⟩:=h.mU;refine⟨tp U.no U.fM a ?_,g1.fS g2 (λ_ l=>by rw[l] at p;exact absurd p dq) (λl=>by rw[x] at l;cases l) f,λz=>absurd z a,by rw[(pH _ _ _).1];omega⟩;rw[e];exact gd<|tI U.no U.fM k v oq
 rw[iw h3];have⟨s,u,D⟩:=h.cT;have⟨m,o,y,A,q,B,C⟩:=Ae (b:=b) (t:=t) U s u f oq;refine⟨NS U.no U.fM a ?_ o y A,q,λz=>absurd z a,oq⟩;rw[esO gq gq gq];refine e9.ok (oH U.no U.xl U.fM k (λe=>(h.jd e).2.2.1) (λe=>?_) h.wB oq) e9.nil;have⟨g1,g2⟩:=h.jP e nodup_nil;exact(g1.jd g2).2.2.1
end
def KC (nm:Bq)(σ:TS)(d:DC):TS × Bool :=
 if d.f=233 then (σ,false)
 else if d.f=241 then (σ.start (d.a.headD []) [],true)
 else if d.f=242 then (let τ:=if cj σ bG [[112]] = -1 then σ.start [112] [] else σ; (τ.dx<|cj τ bG [[112]],true))
 else if d.f=234 then (σ.dx<|cj σ d.a d.b,true)
 else if d.f=244 then (if cj σ bG d.a = -1 then σ.forget (d.a.headD []) else σ.dx (cj σ bG d.a),false)
 else (σ.dx<|cj σ bG [nm],false)
def sg (nm:Bq):List DC->TS->TS × Bool
 | [],σ=>(σ,true)
 | d::ds,σ=>if (KC nm σ d).2=true then sg nm ds (KC nm σ d).1 else ((KC nm σ d).1,false)
def oC(d:DC):Nat:=if d.f=241\/d.f=242 then 850 else 0
theorem Dc{U:Type}(f:U->Nat)(p:U->Bool):∀l:List U,((l.filter p).map f).sum<=(l.map f).sum
 | []=>iz _
 | x::l=>by have:=Dc f p l;grind
def PH (d:DC):Bool :=
 if d.f=233 then d.a.isEmpty&&d.b.isEmpty
 else if d.f=241 then d.a.length.beq 1&&d.b.isEmpty
 else if d.f=242 then d.a.isEmpty&&d.b.isEmpty
 else if d.f=234 then !aW xm d.b&&!aW Cr d.b
 else if d.f=244 then d.a.length.beq 1&&!aW xm d.a&&!aW Cr d.a&&d.b.isEmpty
 else d.f=246&&d.a.isEmpty&&d.b.isEmpty
section
def Ye(h:l.length.beq 1=true):∃x,l=[x]:=by
 have:=iC h;match l,this with
 | [x],_=>exact⟨x,O⟩
theorem YU(U:GZ pr)(h:Gv acc σ)(g:σ.w=2)(c:PH d=true)(r:jR nm=false)(P:nm=t.name)(R:σ.nodes.length+1100<400000000):dz pr b t aY d σ (KC nm σ d).1 (KC nm σ d).2/\Gv acc (KC nm σ d).1/\(KC nm σ d).1.w=2/\(KC nm σ d).1.nodes.length<=σ.nodes.length+oC d:=by
 have⟨f,a,L⟩:=d;unfold PH at c;unfold KC;simp only at c |-;by_cases n:f=233
 .subst n;rw[ip Y] at c |-;simp only[nU,List.isEmpty_iff] at c;obtain⟨rfl,rfl⟩:=c;exact⟨eV U.no,h,g,Nat.le_add_right _ _⟩
 rw[iw n] at c |-;by_cases B:f=241
 .subst B;rw[ip Y] at c |-;simp only[nU,List.isEmpty_iff] at c;obtain⟨u,rfl⟩:=c;obtain⟨x,rfl⟩:=Ye u;have⟨H,I,J,K⟩:=xO (b:=b) (t:=⟨2,[],x,aO,false⟩) (aY:=[]) U h nodup_nil oq;exact⟨mM U.Ue H,I,J g,lT K<|by show _<=σ.nodes.length+850;omega⟩
 rw[iw B] at c |-;by_cases C:f=242
 .subst C;rw[ip Y] at c |-;simp only[nU,List.isEmpty_iff] at c;obtain⟨rfl,rfl⟩:=c;have⟨H,I,J,K⟩:=xO (b:=b) (t:=⟨2,[],[112],aO,false⟩) (aY:=[]) U h nodup_nil oq;have Q:∀e:TS,Gv acc e->e.w=2->e.nodes.length<=σ.nodes.length+803->(cj σ bG [[112]] = -1->fU pr 218 b ⟨2,[],[112],aO,false⟩ [] σ e)->(cj σ bG [[112]] ≠ -1->e=σ)->dz pr b t aY ⟨242,[],[]⟩ σ (e.dx<|cj e bG [[112]]) true/\Gv acc (e.dx<|cj e bG [[112]])/\(e.dx<|cj e bG [[112]]).w=2/\(e.dx<|cj e bG [[112]]).nodes.length<=σ.nodes.length+oC ⟨242,[],[]⟩:=by intro e p o G i k;have v:=p.rY (l:=bG) (m:=[[112]]) o dq dq;have⟨M,N,O⟩:=p.dx (j:=cj e bG [[112]]) oq;exact⟨yd U.no U.xl U.Ue U.Yo U.fM i k oq p.wB,M,by rw[O];exact o,by rw[N];show _<=σ.nodes.length+850;omega⟩
  grind
 rw[iw C] at c |-;by_cases A:f=234
 .subst A;rw[ip Y] at c |-;simp only[nU,Bool.not_eq_true'] at c;have⟨s,h1⟩:=c;have v:=h.rY (l:=a) g s h1;have⟨i,k,q⟩:=h.dx (j:=cj σ a L) oq;exact⟨mo U.no U.xl U.fM oq h.wB,i,by rw[q];exact g,by rw[k];exact Nat.le_add_right _ _⟩
 rw[iw A] at c |-;by_cases D:f=244
 .subst D;rw[ip Y] at c |-;simp only[nU,Bool.not_eq_true',List.isEmpty_iff] at c;obtain⟨⟨⟨u,s⟩,h1⟩,rfl⟩:=c;obtain⟨x,rfl⟩:=Ye u;have v:=h.rY (l:=bG) g s h1;by_cases z:cj σ bG [x] = -1
  .rw[ip z];have⟨i,k,q⟩:=h.forget x;exact⟨(by refine dw (U.no 244 dq) func244 rfl λs S c5 K O r u L y w J H P I d Q R=>?_;subst J;have⟨x',A,d5,V,W,X,_⟩:=I;cases A;obtain⟨B,M,N,rfl,g⟩:=d5<|.inr<|.inr rfl;cases N;have⟨Y,Z,T,xs,i⟩:=d;have d:BX S b σ:=⟨_,_,_,_,i⟩;have e:=i.add<|.cells ([x].map str).toArray 9;have j:=c9 i<|.cells ([x].map str).toArray 9;have k:=Bl (U.no 243 dq) (U.no 131 dq) (U.no 235 dq) (U.no 222 dq) (U.no 231 dq) (U.no 232 dq) U.fM e<|bR S [x] 1 rfl gq;rw[z] at k;generalize b5:S.add _=n at *;have v:=e.add<|.cells (bG.map str).toArray 9;have l:=c9 e<|.cells (bG.map str).toArray 9;generalize n.add _=c at *;have m:=g.fr (j.trans l).1<|d.no g dq dq dq;have⟨a5,C,D,E⟩:=LW (nm:=x) U.Yp U.del (⟨_,_,_,_,v⟩) h.wB;refine zs<|za (s.add<|fp ⟨K,O,r,.slice u L y,w⟩) ?_;rw[H];refine aB<|zr<|zg 1 S<|zp (yl B 0 (str x) g.2)<|zk 1<|zo (S.add<|.cells ([x].map str).toArray 9) ?_;rw[b5];exact zc 0 k<|zf<|za c<|zr<|zf<|za c<|zG<|zx<|zg 1 c<|zp (yl B 0 (str x) m.2)<|zc 0 C<|am<|za a5<|zs<|za a5<|aD ⟨.inr rfl,kq,D,(j.trans l).trans E⟩),i,by show(σ.forget x).w=2;rw[q];exact g,by show(σ.forget x).nodes.length<=_;rw[k];exact Nat.le_add_right _ _⟩
  .rw[iw z];have⟨i,k,q⟩:=h.dx (j:=cj σ bG [x]) oq;exact⟨vI U.no U.xl U.fM oq h.wB,i,by rw[q];exact g,by rw[k];exact Nat.le_add_right _ _⟩
 rw[iw D] at c |-;simp only[nU,List.isEmpty_iff,decide_eq_true_eq] at c;obtain⟨⟨rfl,rfl⟩,rfl⟩:=c;unfold jR at r;rw[Bool.or_eq_false_iff] at r;have F:∀x y:Bq,cZ x y=false->aW y [x]=false:=λx y E=>by
  cases hq:aW y [x] with
  | false=>rfl
  | true=>rw[nz hq,(dP x x).2 Y] at E;cases E
 have v:=h.rY (l:=bG) (m:=[nm]) g (F _ _ r.1)<|F _ _ r.2;have⟨i,k,q⟩:=h.dx (j:=cj σ bG [nm]) oq;subst P;exact⟨ya U.no U.xl U.fM oq h.wB,i,by rw[q];exact g,by rw[k];exact Nat.le_add_right _ _⟩
theorem Ho(f:GZ pr)(e:nm=t.name)(c:jR nm=false):∀(U:List DC) {σ:TS},(∀d∈U,PH d=true)->Gv acc σ->σ.w=2->σ.nodes.length+(U.map oC).sum+1100<400000000->e9 pr b t aY U σ (sg nm U σ).1 (sg nm U σ).2/\Gv acc (sg nm U σ).1/\(sg nm U σ).1.w=2/\(sg nm U σ).1.nodes.length<=σ.nodes.length+(U.map oC).sum
 | [],σ,_,h,hw,_=>⟨e9.nil,h,hw,by unfold sg;simp⟩
 | d::U,σ,hd,h,hw,hN=>by
  rw[rj,List.sum_cons] at hN;have⟨r1,r2,r3,i⟩:=YU (b:=b) (aY:=aY) (nm:=nm) f h hw (hd d<|List.mem_cons_self ..) c e oq;unfold sg;generalize KC nm σ d=q at *;have⟨a,g⟩:=q;have i:a.nodes.length<=σ.nodes.length+oC d:=i;rw[rj,List.sum_cons];cases g with
  | true =>rw[ip O];have⟨m,n,o,j⟩:=Ho f e c U (λk l=>hd k<|Dv _ l) r2 r3 gq;have j:(sg nm U a).1.nodes.length<=a.nodes.length+(U.map oC).sum:=j;exact⟨e9.ok r1 m,n,o,by show(sg nm U a).1.nodes.length<=_;omega⟩
  | false =>rw[iw iq];exact⟨gd r1,r2,r3,by show a.nodes.length<=_;omega⟩
def MO:(iZ.all λr=>PH r.1)=true:=kq
def TS.Jp(σ:TS)(nm:Bq):TS:=(sg nm (cF nm iZ) σ).1
def aaU(h:jR nm=true):cF nm iZ=[⟨233,[],[]⟩]:=by
 unfold jR at h;rw[G6] at h;rcases h with h|h
 iterate 2
  .obtain rfl:=(dP _ _).1 h;rfl
def Hr(a:GZ pr)(h:Gv acc σ)(g:σ.w=2)(k:σ.nodes.length+3000<400000000):e9 pr b t aY (cF t.name iZ) σ (σ.Jp t.name) (sg t.name (cF t.name iZ) σ).2/\Gv acc (σ.Jp t.name)/\(σ.Jp t.name).nodes.length<=σ.nodes.length+1700:=by
 have l:((cF t.name iZ).map oC).sum<=(iZ.map λr=>oC r.1).sum:=by
  have a:∀p:rS->Bool,(((iZ.filter p).map (·.1)).map oC).sum<=(iZ.map λr=>oC r.1).sum:=λp=>by rw[List.map_map];exact Dc (λr=>oC r.1) p iZ
  unfold cF tc nI;grind
 have e:(iZ.map λr=>oC r.1).sum=1700:=kq
 unfold TS.Jp;cases hb:jR t.name with
 | true =>rw[aaU hb];exact⟨gd<|eV a.no,h,by show σ.nodes.length<=_;omega⟩
 | false =>obtain⟨i,j,m,n⟩:=Ho a O hb (cF t.name iZ) (λd c=>by obtain⟨r,f,rfl⟩:=ze c;exact aT.1 MO r f) h g oq;exact⟨i,j,oq⟩
def TS.Ft(σ:TS)(nm:Bq):TS :=
 if σ.w=2 then σ.Jp nm
 else if aW nm qI=true then σ.Hb qI
 else if aW nm [lN]=true then σ.cT
 else if aW nm xn=true then σ.cT.Jp nm
 else σ
def eeS(h:aW nm qI=true):cF nm mZ=[⟨230,qI,[]⟩,⟨233,[],[]⟩]:=by have:=vO h;simp[qI,oc,zL,or_false] at this;rcases this with rfl|rfl|rfl<;>rfl
def aaT:cF lN mZ=[⟨229,[],[]⟩,⟨233,[],[]⟩]:=rq
def eeB(h:aW nm xn=true):cF nm mZ=[⟨229,[],[]⟩]:=by have:=vO h;simp[xn,oc,zL,or_false] at this;rcases this with rfl|rfl|rfl|rfl<;>rfl
theorem eeO(h1:aW nm qI=false)(h2:aW nm [lN]=false)(h3:aW nm xn=false):cF nm mZ=[⟨233,[],[]⟩]:=by
 have b1:=h1;have b2:aW nm ZX=false:=by simp only[aW,List.any_cons,List.any_nil,Bool.or_false,Bool.or_eq_false_iff] at h2 h3 |-;exact⟨h2,h3⟩
 have b3:aW nm [T7,T8,T6,KI,[]]=aW nm [[]]:=by simp only[aW,List.any_cons,List.any_nil,Bool.or_false,Bool.or_eq_false_iff] at h1 h2 |-;grind
 have e:mZ=[(⟨230,qI,[]⟩,qI),(⟨229,[],[]⟩,ZX),(⟨233,[],[]⟩,[T7,T8,T6,KI,[]])]:=O;rw[e];unfold cF tc nI;simp only[List.filter_cons,List.filter_nil,b1,b2,b3];cases aW nm [[]] with
 | true=>rfl
 | false=>rfl
theorem SI(U:GZ pr)(h:Gv acc σ)(p:σ.nodes.length+3010<400000000):fU pr 219 b t aY σ (σ.Ft t.name)/\Gv acc (σ.Ft t.name)/\(σ.Ft t.name).nodes.length<=σ.nodes.length+1703:=by
 unfold TS.Ft;by_cases c:σ.w=2
 .rw[ip c];have⟨d,f,n⟩:=Hr (b:=b) (t:=t) (aY:=aY) U h c oq;exact⟨SG U.no U.fM c d,f,oq⟩
 rw[iw c];have i:=h.w3;have a:dz pr b t aY ⟨229,[],[]⟩ σ σ.cT true:=by refine oH U.no U.xl U.fM i (λe=>(h.jd e).2.2.1) (λe=>?_) h.wB oq;have⟨g1,g2⟩:=h.jP e nodup_nil;exact(g1.jd g2).2.2.1
 have⟨g,j,o⟩:=h.cT;by_cases h1:aW t.name qI=true
 .rw[ip h1];have⟨k,m,q,_⟩:=h.Hb (l:=qI) dq dq dq;refine⟨Fs U.no U.fM c ?_,k,by rw[m];omega⟩;rw[eeS h1];exact e9.ok (Lw U h dq dq dq)<|gd<|eV U.no
 rw[iw h1];by_cases h2:aW t.name [lN]=true
 .rw[ip h2];refine⟨Fs U.no U.fM c ?_,g,oq⟩;rw[nz h2,aaT];exact e9.ok a<|gd<|eV U.no
 rw[iw h2];by_cases h3:aW t.name xn=true
 .rw[ip h3];have⟨d,f,n⟩:=Hr (b:=b) (t:=t) (aY:=aY) U g j oq;refine⟨SH U.no U.fM c ?_ d,f,oq⟩;rw[eeB h3];exact e9.ok a e9.nil
 rw[iw h3];refine⟨Fs U.no U.fM c ?_,h,oq⟩;rw[eeO gq gq gq];exact gd<|eV U.no
def TS.step(σ:TS)(u:Tok):TS :=
 if u.kind=1 then σ.text (λx=>uC<|yP x) uC u.text
 else if u.kind=2 then σ.start u.name u.bC
 else if u.kind=3 then σ.Ft u.name
 else if u.kind=4 then σ.put ⟨3,0,[],u.text,[]⟩
 else σ
def oX(u:Tok):Prop:=(u.kind=1\/u.kind=2\/u.kind=3\/u.kind=4\/u.kind=5)/\(u.kind=1->u.text≠[])/\m9 u.bC
theorem BA(h:∀u∈σ.nodes,u.text.length<=acc):∀u∈σ.dZ.nodes,u.text.length<=acc:=by
 have b:∀(l:List Nat) a,(∀u∈a.nodes,u.text.length<=acc)->∀u∈(l.foldl TS.fJ a).nodes,u.text.length<=acc:=by
  intro l;induction l with
  | nil=>intro a h;exact h
  | cons k l U =>intro a h;refine U _ λv c=>?_;have c:v∈a.nodes++[⟨1,a.cur,(a.mA k).name,[],(a.mA k).bC⟩]:=c;grind
 exact b _ σ h
def ndT(h:Gv acc σ)(k:Nat):(σ.mA k).text.length<=acc:=by
 unfold TS.mA;rw[Dj];cases hu:σ.nodes[k]? with
 | none=>exact Nat.zero_le _
 | some u=>exact(h.pn u<|mG hu).2
theorem Qi(a:GZ pr)(h:Gv acc σ){u:Tok}(o:oX u)(y:σ.nodes.length+3100<400000000)(z:acc+u.text.length<=1000000)(at_:Value):fU pr 119 b ⟨u.kind,u.text,u.name,at_,u.closed⟩ u.bC σ (σ.step u)/\Gv (acc+u.text.length) (σ.step u)/\(σ.step u).nodes.length<=σ.nodes.length+1703:=by
 have⟨U,h1,l⟩:=o;unfold TS.step;rcases U with U|U|U|U|U
 .rw[ip U];have⟨g1,g2⟩:=h.text (tx:=u.text);refine⟨Qt a.no a.fM U λs n=>?_,g1,oq⟩;have m:(uC u.text).length<=u.text.length:=(List.dropWhile_sublist Kl).length_le;have⟨f,r,w⟩:=h.cT;refine Qu a.no a.xl a.fM (a.tr u.text oq) (a.tr (uC u.text) oq) (a.tl u.text oq) n (λq c=>?_) oq gq gq (λq c=>?_) h.w3 (λe=>(h.jd e).2.2.1) (λe=>?_) h.wB
  .simp only[oc,zL,or_false] at c;rcases c with rfl|rfl
   .exact h.Xn
   .exact f.Xn
  .simp only[oc,zL,or_false] at c;have g:∀{yr:TS},Gv acc yr->(yr.mA<|yr.nodes.length-1).text.length<=500000000:=λ{yr} k=>by have:=ndT k<|yr.nodes.length-1;omega
   rcases c with rfl|rfl|rfl|rfl
   .exact g h
   .have k:=BA (σ:=σ)<|λv p=>(h.pn v p).2;unfold TS.mA;grind
   .exact g f
   .exact g (f.dZ oq).1
  .have⟨g1,g2⟩:=h.jP e nodup_nil;exact(g1.jd g2).2.2.1
 .rw[iw oq,ip U];have⟨i,j,_,d⟩:=xO (b:=b) (t:=⟨u.kind,u.text,u.name,at_,u.closed⟩) a h l oq;exact⟨Qs a.no a.fM U i,j.mono oq,by have d:(σ.start u.name u.bC).nodes.length<=_:=d;omega⟩
 .rw[iw oq,iw oq,ip U];have⟨i,j,d⟩:=SI (b:=b) (t:=⟨u.kind,u.text,u.name,at_,u.closed⟩) (aY:=u.bC) a h oq;exact⟨Qr a.no a.fM U i,j.mono oq,d⟩
 .rw[iw oq,iw oq,iw oq,ip U];exact⟨Qp a.no U oq,(h.mono oq).put nodup_nil gq,by unfold TS.put;simp⟩
 .rw[iw oq,iw oq,iw oq,iw oq];exact⟨Qq a.no U,h.mono oq,oq⟩
def jF (us:List Tok):Nat:=(us.map λu=>u.text.length).sum
def BV(d:GZ pr):∀(a:List Tok) {acc:Nat} {σ:TS},(∀u∈a,oX u)->Gv acc σ->acc+jF a<=1000000->σ.nodes.length+1703*a.length+3100<400000000->vM pr a σ (a.foldl TS.step σ)/\Gv (acc+jF a) (a.foldl TS.step σ)/\(a.foldl TS.step σ).nodes.length<=σ.nodes.length+1703*a.length
 | [],acc,σ,_,h,_,_=>⟨O,h,lr⟩
 | u::a,acc,σ,hu,h,ha,hN=>by
  have e:jF (u::a)=u.text.length+jF a:=by unfold jF;rw[rj,List.sum_cons]
  rw[e] at ha |-;rw[lC] at hN |-;have r:=λb c=>Qi (b:=b) d h (hu u<|List.mem_cons_self ..) oq oq c;have⟨_,g2,g3⟩:=r 0 aO;have⟨g,i,j⟩:=BV d a (λv f=>hu v<|Dv _ f) g2 oq oq;rw[List.foldl_cons];exact⟨⟨_,λb c=>(r b c).1,g⟩,by rw[<-Nat.add_assoc];exact i,oq⟩
def Gv.zero:Gv 0 TS.zero:=⟨⟨Gc.zero,.inl ⟨O,O⟩,dq,λk b=>by cases b⟩,λu a=>by
 have a:u=⟨1,-1,xm,[],[]⟩:=by simpa[TS.zero] using a
 subst a;exact⟨nodup_nil,lr⟩⟩
end
end
section
variable {s s':AS}{nm:Bq}{wr:Bq->Int->Bq}
variable {all:Iq}{B k2 n w:Nat}{stops tx2:Bq}{aY:kH}{cl wh:Bool}
def LM (all:Iq)(k:Nat)(nm:Bq):Bool:=mz all k (60::47::nm)&&gL (fF all<|k+(nm.length+2)) [9,10,12,13,32,47,62]
def GH(c:Nat)(nm:Bq)(k:Nat)(x:Nq):TL:=[aC c 0,str nm,x 2,x 3,num k]++gG x 5 40
def TX(k:Nat):fF all k = -1\/fF all k∈all:=by
 unfold fF;cases h:all[k]? with
 | none=>exact .inl O
 | some x=>exact .inr<|mG h
variable {rn c k k':Nat}{tx:Bq}{ts:List jm}{us:List Tok}{p q r:Value}{pr:Prim}{lo:Bq->Bq}{T:Bq->Prop}{W:Bq->Int->Prop}
section
variable {all:Iq}
def SC.Hy(h:SC rn c s k tx ts)(a:kU s.nx s s'):SC rn c s' k tx ts/\iU c s s':=by have⟨p,q,r,h1,h2,h3,d⟩:=h;have f:cL (λb=>b=c) s s':=⟨a.1,λb e _=>a.2 b e⟩;exact IZ h1 h2 h3 d f ⟨by have:=h1.1;have:=a.1;omega,(a.2 c h1.1).trans h1.2⟩
theorem SK(d:K3 rn all lo wr T W pr)(u:CG rn all pr)(U:pr 327=none)(x:∀b∈nm,b.toNat<128)(z:nm.length<14)(y:k<=200000)(h:SC rn c s k tx ts):∃i,Ef pr 327 #[aC c 0,str nm] s (.bool<|LM all k nm) i/\SC rn c i k tx ts/\iU c s i:=by
 have f:=h;have⟨p,q,r,h1,_⟩:=f;have⟨S,e1,t⟩:=Dm u d.at (p:=0) (sm:=60::47::nm) (by simp_all) (by simp;omega) h1.1 h1.2 O O oq;have⟨n,v⟩:=h.Hy t;have j:((60::47::nm).length:Nat)=nm.length+2:=iq
 have f:=n;have⟨A,B,C,h2,_⟩:=f;have e:=p6 (d.h.g.no 70 dq) d.h.g.BC (p:=(60::47::nm).length) h2.2 O O oq;have a:=d.h.g.one S (fF all<|k+(60::47::nm).length) [9,10,12,13,32,47,62] (TX _) (show ∀b∈([9,10,12,13,32,47,62]:Bq),b.toNat<128 by decide);unfold LM;rw[j] at e a;generalize mz all k _=o at e1 |-;refine⟨S,aH U func327 O<|zs<|zr<|zk 1<|zp (Ie (l:=[60,47]) (m:=nm) O kq kq<|by simp;omega)<|zf<|za s<|zr ?_,n,v⟩;cases o with
 | false =>exact zc 2 e1<|zf<|za S yR
 | true =>refine zc 2 e1<|zk 3<|zp (dL (l:=60::47::nm) O underlying9 kq) ?_;exact zc 0 e<|zc 0 a<|zf<|za S yR
end
def pW{P:Program}{kt:TypeId->Bool}{pr:Prim}{f:FuncId}{fn:Func}{b:Code}{args:Aq}{G:Value->AS->Prop}(k:pr f=none)(j:P.funcs[f]?=some fn)(g:fn.body=some b)(h:EW P kt pr b (args.toList++List.replicate (fn.ntmps-args.toList.length) undef) s (λe c a=>(e=.normal\/e=.ret)/\∃v,di P fn c a=some v/\G v a)):∃v d,EF P kt pr f args s v d/\G v d:=by have⟨n,e,c,a,h1,i,v,h2,h3⟩:=h;exact⟨v,a,aH k j g ⟨n,e,c,a,h1,i,h2,O⟩,h3⟩
def Z9 (all:Iq)(k:Nat):Nat:=bif mP (fF all<|k+2) then 2 else bif fF all (k+2)==62 then 3 else bif fF all (k+2) == -1 then 0 else 4
abbrev dtB:Bq:=[33,100,111,99,116,121,112,101]
def tZ (all:Iq)(k:Nat):Nat:=bif fF all k==60 then (bif mP (fF all<|k+1) then 1 else bif fF all (k+1)==47 then Z9 all k else bif mz all (k+1) [33,45,45] then 5 else bif mz all (k+1) dtB then 6 else bif fF all (k+1)==33 then 7 else bif fF all (k+1)==63 then 8 else 0) else 0
def KZ (s:AS)(c:Nat):Nat->Value->Prop
 | 0,v=>v=.nilFunc
 | 1,v=>v=.func (.func 148) #[aC c 0] #[]
 | 2,v=>v=.func (.func 253) #[aC c 0] #[]
 | 3,v=>∃B,v=.func (.func 254) #[] #[aC B 0]/\Has s B (Cj c)
 | 4,v=>∃B,v=.func (.func 255) #[] #[aC B 0]/\Has s B (Cj c)
 | 5,v=>v=.func (.func 151) #[aC c 0] #[]
 | 6,v=>v=.func (.func 152) #[aC c 0] #[]
 | 7,v=>∃B,v=.func (.func 153) #[] #[aC B 0]/\Has s B (Cj c)
 | _,v=>∃B,v=.func (.func 155) #[] #[aC B 0]/\Has s B (Cj c)
def Has.Hy{b:Nat}{o:Obj}(h:Has s b o)(a:kU s.nx s s'):Has s' b o:=⟨by have:=h.1;have:=a.1;omega,(a.2 b h.1).trans h.2⟩
section
variable {all:Iq}
section
variable (hp:K3 rn all lo wr T W pr)
def Qg(h1:Has s c (ja rn k p q r))(m:k<=800000):∃v j,Ef pr 149 #[aC c 0] s v j/\KZ j c (Z9 all k) v/\kU s.nx s j:=by
 have d:kU s.nx s (s.add<|Cj c):=kU.add lr;have i:=h1.add<|Cj c;have a:=aI s<|Cj c;have e:=p6 (hp.h.g.no 70 dq) hp.h.g.BC (p:=2) i.2 O O oq;have f:=rh (s:=s.add<|Cj c) hp.Ud hp.MD<|hp.at<|k+2;unfold Z9;generalize fF all (k+2)=l at *;generalize mP l=b at *;refine pW (hp.h.g.no 149 dq) func149 O<|zs<|za (s.add<|Cj c) ?_;generalize s.add (Cj c)=S at *;refine aB<|zr<|zp (yl s.nx 0 _ a.2)<|zc 0 e<|zf<|za S<|aF<|zr<|zc 1 f<|zf<|za S ?_;cases b with
 | true =>exact zH<|zr<|zp (yl s.nx 0 _ a.2)<|zf<|aD ⟨.inr O,.func _ _ #[],kq,O,d⟩
 | false =>
  refine zG<|zr<|zk 1<|zp (yb (.int .i32 l) (.int .i32 62)<|dp O)<|zf<|za S ?_;cases h62:(l==(62:Int)) with
  | true =>exact zH<|zr<|zf<|aD ⟨.inr O,.func _ #[] _,kq,⟨_,O,a⟩,d⟩
  | false =>
   refine zG<|zr<|zk 1<|zp (yb (.int .i32 l) (.int .i32<|-1)<|dp O)<|zf<|za S ?_;cases h01:(l==(-1:Int)) with
   | true =>exact zH<|zr<|zf<|aD ⟨.inr O,.nilFunc,kq,O,d⟩
   | false =>exact zF<|zr<|zf<|aD ⟨.inr O,.func _ #[] _,kq,⟨_,O,a⟩,d⟩
def Q1(J:CG rn all pr)(h1:Has s c (ja rn k p q r))(O:k<=800000):∃v H,Ef pr 71 #[aC c 0] s v H/\KZ H c (tZ all k) v/\kU s.nx s H:=by
 have z:kU s.nx s (s.add<|Cj c):=kU.add lr;have d:=h1.add<|Cj c;have e:=aI s<|Cj c;have P:s.nx<=(s.add<|Cj c).nx:=iq
 have t:=p6 (rn:=rn) (all:=all) (pr:=pr) (hp.h.g.no 70 dq) hp.h.g.BC (p:=0) d.2 Y Y oq;have A:=p6 (rn:=rn) (all:=all) (pr:=pr) (hp.h.g.no 70 dq) hp.h.g.BC (p:=1) d.2 Y Y oq;have D:=rh (pr:=pr) (s:=s.add<|Cj c) hp.Ud hp.MD<|hp.at<|k+1;have⟨Q,L,E,F,u⟩:=Qg hp d O;have⟨I,B,i⟩:=Dm J hp.at (p:=1) (k:=k) (sm:=[33,45,45]) dq dq d.1 d.2 Y Y oq;have x:=d.Hy i;have n:=e.Hy i;have f:=z.trans ⟨i.1,λj K=>i.2 j oq⟩;have⟨y,C,m⟩:=Dm J hp.at (p:=1) (k:=k) (sm:=dtB) dq dq x.1 x.2 Y Y oq;have o:=n.Hy m;have a:=f.trans ⟨m.1,λj K=>m.2 j<|by have:=f.1;omega⟩;have w:=z.trans ⟨u.1,λj K=>u.2 j oq⟩;unfold tZ;rw[Nat.add_zero] at t;generalize Z9 all k=R at *;generalize mz all (k+1) [33,45,45]=M at *;generalize mz all (k+1) dtB=N at *;generalize fF all (k+1)=l at *;generalize fF all k=G at *;generalize mP l=b at *;refine pW (hp.h.g.no 71 dq) func71 Y<|zs<|za (s.add<|Cj c) ?_;generalize s.add (Cj c)=S at *;refine aB<|zr<|zp (yl s.nx 0 (aC c 0) e.2)<|zc 0 t<|zp (yb (.int .i32 G) (.int .i32 60)<|cM (b:=!(G==60)) Y)<|am ?_;cases h60:(G==(60:Int)) with
 | false =>exact zH<|zr<|zf<|aD ⟨.inr Y,.nilFunc,kq,Y,z⟩
 | true =>
  refine zF<|aB<|zr<|zp (yl s.nx 0 (aC c 0) e.2)<|zc 0 A<|zf<|za S<|aF<|zr<|zc 1 D<|zf<|za S ?_;cases b with
  | true =>exact zH<|zr<|zp (yl s.nx 0 (aC c 0) e.2)<|zf<|aD ⟨.inr Y,.func (.func 148) #[aC c 0] #[],kq,Y,z⟩
  | false =>
   refine zG<|zr<|zk 1<|zp (yb (.int .i32 l) (.int .i32 47)<|dp (b:=l==47) Y)<|zf<|za S ?_;cases h47:(l==(47:Int)) with
   | true =>exact zH<|zr<|zp (yl s.nx 0 (aC c 0) e.2)<|zc 0 E<|zf<|aD ⟨.inr Y,Q,kq,F,w⟩
   | false =>
    refine zG<|zr<|zp (yl s.nx 0 (aC c 0) e.2)<|zc 0 B<|zf<|za I ?_;cases M with
    | true =>exact zH<|zr<|zp (yl s.nx 0 (aC c 0) n.2)<|zf<|aD ⟨.inr Y,.func (.func 151) #[aC c 0] #[],kq,Y,f⟩
    | false =>
     refine zG<|zr<|zp (yl s.nx 0 (aC c 0) n.2)<|zc 0 C<|zf<|za y ?_;cases N with
     | true =>exact zH<|zr<|zp (yl s.nx 0 (aC c 0) o.2)<|zf<|aD ⟨.inr Y,.func (.func 152) #[aC c 0] #[],kq,Y,a⟩
     | false =>
      refine zG<|zr<|zk 1<|zp (yb (.int .i32 l) (.int .i32 33)<|dp (b:=l==33) Y)<|zf<|za y ?_;cases h33:(l==(33:Int)) with
      | true =>exact zH<|zr<|zf<|aD ⟨.inr Y,.func (.func 153) #[] #[aC s.nx 0],kq,⟨_,Y,o⟩,a⟩
      | false =>
       refine zG<|zr<|zk 1<|zp (yb (.int .i32 l) (.int .i32 63)<|dp (b:=l==63) Y)<|zf<|za y ?_;cases h63:(l==(63:Int)) with
       | true =>exact zH<|zr<|zf<|aD ⟨.inr Y,.func (.func 155) #[] #[aC s.nx 0],kq,⟨_,Y,o⟩,a⟩
       | false =>exact zF<|zr<|zf<|aD ⟨.inr Y,.nilFunc,kq,Y,a⟩
end
end
def upW (f:Nat->Bool):Nat->Nat->Nat
 | 0,k=>k
 | n+1,k=>if f k then k else upW f n (k+1)
theorem Ev(f:Nat->Bool):∀(n k:Nat),∃m,upW f n k=k+m/\m<=n/\(∀j,j<m->f (k+j)=false)/\(m<n->f (k+m)=true)
 | 0,k=>⟨0,O,lr,λj U=>by omega,λh=>by omega⟩
 | n+1,k=>by
  unfold upW;split
  .grind
  .next h =>
   have⟨m,h1,h2,h3,h4⟩:=Ev f n<|k+1;refine⟨m+1,by omega,by omega,λj U=>?_,λa=>?_⟩
   .cases j with
    | zero=>simpa using h
    | succ j=>have:=h3 j oq;rwa [show k+1+j=k+(j+1) by omega] at this
   .grind
def BQ(all:Iq)(g:Nat->Bool)(k:Nat):Nat:=upW (λj=>fF all j == -1||g j) (all.length+1) k
def HT{k:Nat}(h:all.length<=k):fF all k = -1:=by unfold fF;rw[List.getElem?_eq_none h];rfl
theorem gD(all:Iq)(g:Nat->Bool)(k:Nat):∃m,BQ all g k=k+m/\(∀j,j<m->fF all (k+j) ≠ -1/\g (k+j)=false)/\(fF all (k+m) = -1\/(fF all (k+m) ≠ -1/\g (k+m)=true))/\(m=0\/k+m<=all.length):=by
 have⟨m,h1,h2,h3,a⟩:=Ev (λj=>fF all j == -1||g j) (all.length+1) k;have U:∀j,j<m->fF all (k+j) ≠ -1/\g (k+j)=false:=λj h=>gq
 have b:m=0\/k+m<=all.length:=by
  by_cases f:m=0
  .exact .inl f
  .refine .inr ?_
   have:=(U (m-1) oq).1;by_cases e:all.length<=k+(m-1)
   .exact absurd (HT e) this
   .omega
 have c:m<all.length+1:=oq
 have d:=a c;refine⟨m,h1,U,?_,b⟩;grind
def EP (all:Iq)(k:Nat):Bq:=bif mz all k [45,45,62] then [45,45,62] else bif mz all k [45,45,33,62] then [45,45,33,62] else []
def Nx(c k:Nat)(x:Nq):TL:=[aC c 0,x 1,num k]++gG x 3 52
section
variable {all:Iq}
def oO.open(h:oO rn c s k tx us):∃p q r,Has s c (ja rn k p q r)/\sp s c rn p q r k=s/\∀a,oO rn c (sp s c rn p q r a) a tx us/\iU c s (sp s c rn p q r a):=by obtain⟨e,⟨p,q,r,h1,h2,h3,b⟩,d⟩:=h;exact⟨p,q,r,h1,om h1.2,λa=>⟨⟨e,SC.sp h1 h2 h3 b,d.fr ⟨p,q,r,h1,h2,h3,b⟩<|iU.sp h1⟩,iU.sp h1⟩⟩
def oO.Hy(h:oO rn c s k tx us)(b:kU s.nx s s'):oO rn c s' k tx us/\iU c s s':=by have⟨f,h1,d⟩:=h;have⟨e,a⟩:=h1.Hy b;exact⟨⟨f,e,d.fr h1 a⟩,a⟩
def oO.ahead(b:K2 rn all pr)(h:oO rn c s k tx us)(a:k<=900000):Ef pr 70 #[aC c 0,num 0] s (.int .i32<|fF all k) s:=by have⟨d,h1,_⟩:=h;exact h1.ahead b a
def qT.frS(h:qT rn c s)(b:oO rn c s k tx us)(a:iU c s s'):qT rn c s':=by have⟨d,h1,_⟩:=b;exact h.fr h1 a
def AA(b:∀f,f∈zR->pr f=none)(h:oO rn c s k tx us)(l:tx.length<=1000000)(m:us.length<=900000)(kd:Int)(e d:Bq):∃a,Ef pr 249 #[aC c 0,.agg #[num kd,str e,str d,aO,.bool false]] s (.tuple #[]) a/\oO rn c a k [] (jK tx us++[⟨kd,e,d,[],false⟩])/\iU c s a:=by have⟨n,h1,i⟩:=h;have⟨a,e1,j,g⟩:=QU b h1 l (by have:=i.1;omega) ⟨kd,e,d,aO,false⟩ O O;exact⟨a,e1,⟨_,j,j9.snoc ((i.fr h1 g).vy) ⟨O,O,O,O,.inl ⟨O,O⟩⟩⟩,g⟩
def Hc(l:K3 rn all lo wr T W pr)(i:CG rn all pr)(a:pr 256=none)(h1:Has s c (ja rn k p q r))(u:k<=800000):∃m,Ef pr 256 #[aC c 0] s (str<|EP all k) m/\kU s.nx s m:=by
 have⟨e,e1,d⟩:=Dm i l.at (p:=0) (sm:=[45,45,62]) dq dq h1.1 h1.2 O O oq;have h2:=h1.Hy d;have⟨b,f,g⟩:=Dm i l.at (p:=0) (sm:=[45,45,33,62]) dq dq h2.1 h2.2 O O oq;have h:=d.trans ⟨g.1,λj t=>g.2 j<|by have:=d.1;omega⟩;unfold EP;generalize mz all k [45,45,62]=n at *;generalize mz all k [45,45,33,62]=o at *;refine aX a func256 O<|zs<|aB<|zs<|aF<|ic ?_;iterate 2 refine zs ?_
 refine aB<|aF<|zs<|zr<|zc 2 e1<|am ?_;cases n with
 | true =>exact zH<|zr<|zf<|za e<|aD ⟨.inr O,kq,d⟩
 | false =>
  refine zF<|eJ 5 kq<|za e<|ic ?_;iterate 2 refine zs ?_
  refine aB<|aF<|zs<|zr<|zc 2 f<|am ?_;cases o with
  | true =>exact zH<|zr<|zf<|za b<|aD ⟨.inr O,kq,h⟩
  | false =>exact zF<|eJ 5 kq<|za b<|ic<|zs<|aB<|zG<|aR<|zs<|za b<|aD ⟨.inr O,kq,h⟩
def Jh (all:Iq)(k:Nat):Nat:=BQ all (λj=>!(EP all j).isEmpty)<|k+2
theorem Ji(A:K3 rn all lo wr T W pr)(O:CG rn all pr)(N:pr 256=none)(X:pr 151=none)(hk:k<=100000)(h:oO rn c s k tx us)(hx:tx.length<=1000000)(R:us.length<=900000) :
  ∃o,Ef pr 151 #[aC c 0] s (.tuple #[]) o/\oO rn c o (Jh all k+(EP all<|Jh all k).length) [] (jK tx us++[⟨4,ek all (k+4)<|Jh all k,[],[],false⟩])/\iU c s o:=by
 have a8:=A.h.g.len;have⟨m,F,I,Z,hm4⟩:=gD all (λj=>!(EP all j).isEmpty)<|k+2;have hkm:k+2+m<=200002:=oq
 unfold Jh;rw[F];clear F;have⟨p,q,r,h1,a9,a6⟩:=h.open;have⟨G,E⟩:=a6<|k+2;refine aX X func151 rfl<|zr<|zg 3 s<|zp (yl c 1 (num k) h1.2)<|zp (yp k 4 ((k+4:Nat):Int) oq oq)<|zf<|za s<|zr<|zg 3 s<|zp (yl c 1 (num k) h1.2)<|zp (yp k 2 ((k+2:Nat):Int) oq oq)<|zg 2 s<|zp (ys c 1 (num ((k+2:Nat):Int)) h1.2 iq)<|am<|za (sp s c rn p q r<|k+2)<|aV (Nx c<|k+4) kq ?_;intro x0;generalize sp s c rn p q r (k+2)=S0 at G E;refine aB<|aF<|bn (bw (Q:=λe B o=>e=.exit 0/\oO rn c o (k+2+m) tx us/\iU c s o/\∃x,B=Nx c (k+4) x) (λu B o=>∃j,u+j=m/\oO rn c o (k+2+j) tx us/\iU c s o/\∃x,B=Nx c (k+4) x) ?_ m _ _ ⟨0,oq,G,E,x0,rfl⟩) ?_
 .rintro u B S ⟨j,R,w,D,x,rfl⟩;have U:=w.ahead A.h.g oq;have⟨K,L,M,g1,_,_⟩:=w.open;have⟨d,a,y⟩:=Hc A O N g1 oq;have⟨f,i⟩:=w.Hy y;by_cases hj:j<m
  .have⟨C,z⟩:=I j hj;have z:EP all (k+2+j)=[]:=gq
   rw[z] at a;generalize fF all (k+2+j)=l at U C;refine aB<|zr<|zc 1 U<|zp (yb (.int .i32 l) (.int .i32<|-1)<|cM (b:=true)<|bne_iff_ne.2 C)<|zc 2 a<|zf<|za d<|zT<|aF ?_;have⟨p,q,r,n,_,q3⟩:=f.open;have⟨q4,q5⟩:=q3<|k+2+(j+1);exact zx<|zg 3 d<|zp (yl c 1 (num ((k+2+j:Nat):Int)) n.2)<|zp (yp ((k+2+j:Nat):Int) 1 ((k+2+(j+1):Nat):Int) oq oq)<|zg 2 d<|zp (ys c 1 (num ((k+2+(j+1):Nat):Int)) n.2 iq)<|am ⟨u-1,oq,j+1,oq,q4,(D.trans i).trans q5,bu kq⟩
  .obtain rfl:j=m:=oq
   rcases Z with e|⟨C,z⟩
   .rw[e] at U;exact aB<|zr<|zc 1 U<|zf<|za S<|zG<|aR ⟨rfl,w,D,bu kq⟩
   .have z:EP all (k+2+j)≠[]:=by simpa using z
    generalize fF all (k+2+j)=l at U C;refine aB<|zr<|zc 1 U<|zp (yb (.int .i32 l) (.int .i32<|-1)<|cM (b:=true)<|bne_iff_ne.2 C) ?_;have⟨x1,J,e1⟩:=List.exists_cons_of_ne_nil z;rw[e1] at a;exact zc 2 a<|zp (yb (str (x1::J)) (str [])<|lw (b:=false) rfl)<|zf<|za d<|zG<|aR ⟨rfl,f,D.trans i,bu kq⟩
 rintro e B S ⟨rfl,w,D,x,rfl⟩;have H:=tg A.h.g (s:=S) (k:=k+4) (j:=k+2+m) oq;generalize ek all (k+4) (k+2+m)=t at H |-;have⟨p,q,r,n,_,_⟩:=w.open;have⟨d,a,y⟩:=Hc A O N n oq;have⟨f,i⟩:=w.Hy y;have KF:(EP all<|k+2+m).length<=4:=by unfold EP;cases mz all (k+2+m) [45,45,62]<;>cases mz all (k+2+m) [45,45,33,62]<;>decide
 generalize EP all (k+2+m)=v at *;have⟨K,L,M,g1,_,g3⟩:=f.open;have⟨g4,g5⟩:=g3<|k+2+m+v.length;have J:bV prog 84 (aC c 0) S=some (aC rn 0):=gW 84 n.2 (off:=0) rfl;have V:bV prog 3 (aC c 1) S=some (num ((k+2+m:Nat):Int)):=gW 3 n.2 (off:=1) rfl;have l3:bV prog 3 (aC c 1) d=some (num ((k+2+m:Nat):Int)):=gW 3 g1.2 (off:=1) rfl;refine aB<|aP kq kq kq<|zq<|zq<|zq<|zt S<|zu (yl c 0 (aC rn 0) n.2)<|zq<|zq<|zq<|zq<|zt S<|zu (yl c 1 (num ((k+2+m:Nat):Int)) n.2)<|yt H<|zq<|bq ⟨kN<|jT J V,_,_,_,_,_,_,rfl,rfl,za S<|aB<|aP kq kq kq (zq<|zq<|zq (zt S<|zu (yl c 1 (num ((k+2+m:Nat):Int)) n.2)<|zq<|yt a<|zu (dL (l:=v) rfl underlying9 kq)<|zu (yp ((k+2+m:Nat):Int) (v.length:Int) ((k+2+m+v.length:Nat):Int) oq oq) (zq<|zq (zt d<|zu (ys c 1 (num ((k+2+m+v.length:Nat):Int)) g1.2 iq)<|bq ⟨kN<|jT V l3,_,_,_,_,_,_,rfl,rfl,za (sp d c rn K L M<|k+2+m+v.length) ?_⟩))))⟩;generalize sp d c rn K L M (k+2+m+v.length)=S3 at g4 g5;have⟨S4,ha,a7,Y⟩:=AA A.h.g.no g4 hx R 4 t [];exact zx<|zc 3 ha<|am ⟨.inl rfl,kq,a7,((D.trans i).trans g5).trans Y⟩
section
variable (hp:K3 rn all lo wr T W pr)
def FU(a:pr 154=none){F:Nat}(e:Has s B (Cj c))(i:(F=153/\w=2)\/(F=155/\w=1)\/(F=255/\w=2))(d:pr F=none)(j:k<=100000)(h:oO rn c s k tx us)(m:tx.length<=1000000)(l:us.length<=900000) :
  ∃b,Ef pr F #[aC B 0] s (.tuple #[]) b/\oO rn c b (ib all [62] (k+w)+1) [] (jK tx us++[⟨4,ek all (k+w)<|ib all [62]<|k+w,[],[],false⟩])/\iU c s b:=by
 have⟨b,e1,f,g⟩:∃i,Ef pr 154 #[aC c 0,num w] s (.tuple #[]) i/\oO rn c i (ib all [62] (k+w)+1) [] (jK tx us++[⟨4,ek all (k+w)<|ib all [62]<|k+w,[],[],false⟩])/\iU c s i:=by have A:=hp.h.g.len;have⟨p,q,r,h1,C,e⟩:=h.open;have b:=IP (s:=s) (c:=c) (p:=p) (q:=q) (r:=r) hp.h.g (b0:=62) dq (k:=k+w) oq;have⟨g1,g2⟩:=e<|ib all [62] (k+w)+1;generalize ek all (k+w) _=t at b |-;generalize ib all [62] (k+w)+1=u at *;have⟨y,z,f,d⟩:=AA hp.h.g.no g1 m l 4 t [];refine aX a func154 O<|zr<|zg 3 s<|zp (yl c 1 (num k) h1.2)<|zk 1<|zp (yp k (w:Nat) (k+w:Nat) oq oq)<|zg 2 s<|zp (ys c 1 (num (k+w:Nat)) h1.2 iq)<|am<|za (sp s c rn p q r<|k+w) ?_;exact zx<|zc 2 b<|zc 1 z<|am ⟨.inl O,kq,f,g2.trans d⟩
 refine⟨b,?_,f,g⟩;rcases i with ⟨rfl,rfl⟩|⟨rfl,rfl⟩|⟨rfl,rfl⟩
 .exact aH d func153 O<|zx<|zp (yl B 0 _ e.2)<|zc 0 e1<|am ⟨.inl O,kq,O⟩
 .exact aH d func155 O<|zx<|zp (yl B 0 _ e.2)<|zc 0 e1<|am ⟨.inl O,kq,O⟩
 .exact aH d func255 O<|zx<|zp (yl B 0 _ e.2)<|zc 0 e1<|am ⟨.inl O,kq,O⟩
end
def IA:pP all stops k<=max k all.length:=by
 by_cases h:k<=all.length
 .have:=wo (stops:=stops) h;omega
 .unfold pP;rw[Jk oq];simp;omega
def wx:ib all stops k<=max k all.length:=by
 by_cases h:k<=all.length
 .have:=ow (stops:=stops) h;omega
 .unfold ib;rw[Jk oq];simp;omega
def Fp (all:Iq)(k:Nat):Nat:=pP all dh<|k+9
def yo (all:Iq)(k:Nat):Nat:=ib all (dh++[62])<|Fp all k
def Jo(a:K3 rn all lo wr T W pr)(d:pr 152=none)(I:k<=100000)(u:T (ek all (Fp all k)<|yo all k))(h:oO rn c s k tx us)(z:tx.length<=1000000)(y:us.length<=900000) :
  ∃o,Ef pr 152 #[aC c 0] s (.tuple #[]) o/\oO rn c o (ib all [62] (yo all k)+1) [] (jK tx us++[⟨5,[],lo<|ek all (Fp all k)<|yo all k,[],false⟩])/\iU c s o:=by have w:=a.h.g.len;have⟨p,q,r,h1,x,m⟩:=h.open;have G:Fp all k<=max (k+9) all.length:=IA;have H:yo all k<=max (Fp all k) all.length:=wx;have e:=GF (s:=s) (c:=c) (p:=p) (q:=q) (r:=r) a.h.g (k:=k+9) oq;have i:=N8 (s:=s) (c:=c) (p:=p) (q:=q) (r:=r) a.h.g (stops:=dh++[62]) (by intro b h;simp at h;rcases h with rfl|rfl|rfl|rfl|rfl|rfl<;>decide) (k:=Fp all k) oq;have f:=IP (s:=s) (c:=c) (p:=p) (q:=q) (r:=r) a.h.g (b0:=62) dq (k:=yo all k) oq;have l:=a.h.low (sp s c rn p q r<|yo all k) _ u;have⟨g1,g2⟩:=m<|ib all [62] (yo all k)+1;generalize ib all [62] (yo all k)+1=A at *;generalize lo _=B at *;have⟨E,v,n,j⟩:=AA a.h.g.no g1 z y 5 [] B;refine aX d func152 O<|zr<|zg 3 s<|zp (yl c 1 (num k) h1.2)<|zp (yp k 9 ((k+9:Nat):Int) oq oq)<|zg 2 s<|zp (ys c 1 (num ((k+9:Nat):Int)) h1.2 iq)<|am<|za (sp s c rn p q r<|k+9) ?_;generalize sp s c rn p q r (yo all k)=t at *;exact zr<|zc 1 e<|am<|zr<|zc 1 i<|zc 0 l<|zf<|za t<|zr<|zc 1 f<|am<|zx<|zc 3 v<|am ⟨.inl O,kq,n,g2.trans j⟩
end
def pw (all:Iq)(nm:Bq)(k:Nat):Nat:=BQ all (λj=>LM all j nm) k
def yF (all:Iq)(wr:Bq->Int->Bq)(nm:Bq)(k:Nat):Bq:=bif aW nm gP then wr (ek all k<|pw all nm k) 0 else ek all k (pw all nm k)
section
variable {all:Iq}
def xa:k<=pw all nm k/\pw all nm k<=max k all.length:=by have⟨m,h1,_,_,a⟩:=gD all (λj=>LM all j nm) k;unfold pw;omega
section
variable (hp:K3 rn all lo wr T W pr)
def Pd(hT:CG rn all pr)(F:pr 327=none)(V:(aW nm ux||aW nm gP)=true)(hk:k<=120000)(Z:aW nm gP=true->W (ek all k<|pw all nm k) 0)(h:oO rn c s k tx us)(he:qT rn c s)(hl:tx.length+(yF all wr nm k).length<=1000000) :
  ∃z,Ef pr 252 #[aC c 0,str nm] s (.tuple #[]) z/\oO rn c z (pw all nm k) (tx++yF all wr nm k) us/\iU c s z:=by
 have hal:=hp.h.g.len;have⟨ha,V⟩:(∀b∈nm,b.toNat<128)/\nm.length<14:=by rw[G6] at V;simp only[aW,List.any_cons,List.any_nil,G6,Bool.or_false] at V;rcases V with (V|V)|(V|V)<;>(have:=(dP _ _).1 V;subst this;decide)
 have⟨m,I,M,H,hm4⟩:=gD all (λj=>LM all j nm) k;change pw all nm k=k+m at I;unfold yF at *;rw[I] at Z hl |-;have hm:k+m<=150000:=oq
 have⟨ts,h,T⟩:=h;have O:=h;have⟨p,q,r,h1,_⟩:=O;refine aX (hp.h.g.no 252 dq) func252 rfl<|zr<|zg 3 s<|zp (yl c 1 (num k) h1.2)<|zf<|za s<|aV (GH c nm k) kq ?_;intro x0;refine aB<|aF ?_;clear h1;refine bn (bw (Q:=λe E z=>e=.exit 0/\SC rn c z (k+m) tx ts/\iU c s z/\∃x,E=GH c nm k x) (λu E z=>∃j,u+j=m/\SC rn c z (k+j) tx ts/\iU c s z/\∃x,E=GH c nm k x) ?_ m _ _ ⟨0,oq,h,iU.refl s,x0,rfl⟩) ?_
 .rintro u E S ⟨j,hu,n,A,x,rfl⟩;have d:=n.ahead hp.h.g oq;have⟨C,o,a,f⟩:=SK hp hT F ha V oq n;by_cases hj:j<m
  .have⟨i,L⟩:=M j hj;rw[L] at o;generalize fF all (k+j)=l at d i;refine aB<|zr<|zc 1 d<|zp (yb (.int .i32 l) (.int .i32<|-1)<|cM (b:=true)<|bne_iff_ne.2 i)<|zc 3 o<|zf<|za C<|zT<|aF ?_;have⟨p,q,r,y,q2,q3,q4⟩:=a;exact zx<|zg 3 C<|zp (yl c 1 (num ((k+j:Nat):Int)) y.2)<|zp (yp ((k+j:Nat):Int) 1 ((k+(j+1):Nat):Int) oq oq)<|zg 2 C<|zp (ys c 1 _ y.2 iq)<|am ⟨u-1,oq,j+1,oq,SC.sp y q2 q3 q4,(A.trans f).trans<|iU.sp y,bu kq⟩
  .obtain rfl:j=m:=oq
   rcases H with e|⟨i,L⟩
   .rw[e] at d;exact aB<|zr<|zc 1 d<|zf<|za S<|zG<|aR ⟨rfl,n,A,bu kq⟩
   .rw[L] at o;generalize fF all (k+j)=l at d i;exact aB<|zr<|zc 1 d<|zp (yb (.int .i32 l) (.int .i32<|-1)<|cM (b:=true)<|bne_iff_ne.2 i)<|zc 3 o<|zf<|za C<|zG<|aR ⟨rfl,a,A.trans f,bu kq⟩
 rintro e E S ⟨rfl,n,A,x,rfl⟩;have U:=tg hp.h.g (s:=S) (k:=k) (j:=k+m) oq;have R:=T.fr h A;have X:=n.add<|.cells (gP.map str).toArray 9;have J:=iU.add n<|.cells (gP.map str).toArray 9;have b3:=R.fr n J;have N:=Ik (pr:=pr) (s:=S) hp.fM hp.Uf nm;have G:=(he.fr h A).fr n J;have K:=n;generalize S.add _=D at *;generalize ek all k (k+m)=t at *;have⟨v,C,B,a,f⟩:=EI (pr:=pr) (hp.h.g.no 261 dq) (hp.h.g.no 156 dq) X hl;have Y:=b3.fr X f;have⟨p,q,r,y,_⟩:=K;have l1:=gW 84 y.2 (off:=0) rfl;have l2:=gW 3 y.2 (off:=1) rfl;refine aB<|aP kq kq kq<|zq<|zq<|zq<|zt S<|zu (yl c 0 (aC rn 0) y.2)<|zq<|zq<|zq<|zq<|zt S<|zu (yl c 1 (num ((k+m:Nat):Int)) y.2)<|yt U<|zq<|bq ⟨kN<|jT l1 l2,_,_,_,_,_,_,rfl,rfl,za S<|aB<|zr<|zc 1 N<|am<|za D ?_⟩;generalize aW nm gP=b at *;cases b with
 | true =>have hw:=hp.h.wrs D _ 0 (Z rfl) G.1.2 G.2.1;change EF _ _ _ _ #[_,str<|wr t 0] _ _ _ at B;change SC rn c C _ (tx++wr t 0) _ at a;generalize wr t 0=w at *;exact zH<|zx<|zc 1 hw<|zf<|za D<|zx<|zk 4<|zo D<|zc 0 B<|am ⟨.inl rfl,kq,⟨_,a,Y⟩,(A.trans J).trans f⟩
 | false =>exact zF<|zx<|zk 4<|zo D<|zc 0 B<|am ⟨.inl rfl,kq,⟨_,a,Y⟩,(A.trans J).trans f⟩
def Qh(hk:k+1<=all.length)(hT:T (ek all (k+1)<|ib all eF<|k+1))(U:lo (ek all (k+1)<|ib all eF<|k+1)=nm)(G:tz all lo wr n (ib all eF<|k+1) []=some (aY,cl,wh,k'))(V:uI all lo wr T W n (ib all eF<|k+1))(h:oO rn c s k tx us)(he:qT rn c s)(hx:tx.length<=500000)(hu:us.length<=500000)(m:wh=true->(aW nm ux||aW nm gP)=true->∀S vs,oO rn c S k' [] vs->qT rn c S->∃O,Ef pr 252 #[aC c 0,str nm] S (.tuple #[]) O/\oO rn c O k2 tx2 vs/\iU c S O) :
  ∃Y,Ef pr 148 #[aC c 0] s (.tuple #[]) Y/\oO rn c Y (bif wh&&(aW nm ux||aW nm gP) then k2 else k') (bif wh then (bif aW nm ux||aW nm gP then tx2 else []) else tx) (bif wh then jK tx us++[⟨2,[],nm,aY,cl⟩] else us)/\iU c s Y:=by
 have hal:=hp.h.g.len;have⟨f,av,M,m1,m2,X,N⟩:=NX hp hk hT G V h he;obtain⟨ts0,⟨p0,q0,r0,h1,_⟩,_⟩:=h;rw[h1.2] at M;have⟨ts,Ot,Z⟩:=m1;rw[U] at M;obtain⟨j,i,rfl⟩:=X.len;obtain⟨a,l⟩:∃a,a=if wh=true then nm else []:=⟨_,rfl⟩;rw[<-l] at M;have o:=Ot.add<|ku a (.slice j aY.length i) cl;have y:=aI f<|ku a (.slice j aY.length i) cl;have p:=iU.add Ot<|ku a (.slice j aY.length i) cl;have J:=Z.fr Ot p;have P:dI (f.add<|ku a (.slice j aY.length i) cl) (.slice j aY.length i) aY:=X.fk ((aE f).add _) λ_ _=>id;have hZ:=aI f<|ku [] aO false;have E:(f.add<|ku [] aO false).set f.nx _=f.add _:=AS.set_set (⟨f.hp,f.nx+1⟩:AS) f.nx (some<|ku [] aO false)<|some<|ku a (.slice j aY.length i) cl;generalize f.add _=B at o y p J P E;have v:=X.qB;have⟨H,F,C,q⟩:=QU hp.h.g.no o oq (by have:=J.1;omega) ⟨2,[],a,(.slice j aY.length i),cl⟩ v.2.2.1 v.2.1;have c3:=y.fr q.1<|o.no y dq dq dq;have c4:j9 H (vy tx ts++[⟨2,[],a,(.slice j aY.length i),cl⟩]) (jK tx us++[⟨2,[],a,aY,cl⟩]):=by
  refine j9.snoc ((J.fr o q).vy) ⟨rfl,rfl,rfl,rfl,P.fk q.1 λb z=>?_⟩;rcases P with ⟨e,_⟩|⟨d,i,fz,e,q1,q2⟩
  .rw[e] at z;exact(cw z).elim
  .rw[e] at z;rw[dk z];exact o.no (⟨q1,q2⟩:Has B d _) dq dq dq
 have u:Ef pr 250 #[str a] H (.bool<|aW a ux) (H.add<|.cells (ux.map str).toArray 9):=by have b:=re (s:=H.add<|.cells (ux.map str).toArray 9) hp.fM (nm:=a) (c:=2) (aI H _).2 dq O;generalize aW a ux=bb at b |-;exact aH hp.Yq func250 O<|zs<|zr<|zc 2 b<|zf yR
 have A:=C.add<|.cells (ux.map str).toArray 9;have r:=iU.add C<|.cells (ux.map str).toArray 9;have Q:=c4.fr C r;have L:=c3.add<|.cells (ux.map str).toArray 9;generalize H.add _=x at u A r Q L;have t:=Ik (pr:=pr) (s:=x) hp.fM hp.Uf a;have e1:=A.add<|.cells (gP.map str).toArray 9;have D:=iU.add A<|.cells (gP.map str).toArray 9;have R:=Q.fr A D;have e4:=L.add<|.cells (gP.map str).toArray 9;generalize x.add _=I at t e1 D R e4;refine aX (hp.h.g.no 148 dq) func148 rfl<|zr<|zg 3 s<|zp (yl c 1 (num k) h1.2)<|zp (yp k 1 ((k+1:Nat):Int) oq oq)<|zg 2 s<|zp (ys c 1 (num ((k+1:Nat):Int)) h1.2 iq)<|am<|zr<|zc 1 M<|zg 4 (f.add<|ku [] aO false)<|zp (eX (b:=f.nx) (off:=0) (w:=.agg #[str a,(.slice j aY.length i),.bool cl]) rfl kq kq rfl (by show((str a).oneCell'&&((Value.slice j aY.length i).oneCell'&&((Value.bool cl).oneCell'&&true)))=true;rw[v.2.2.1];rfl) kq hZ.2 iq)<|zf<|za ((f.add<|ku [] aO false).set f.nx<|some<|ku a (.slice j aY.length i) cl) ?_;rw[E];refine aB<|zs<|za B ?_;cases wh with
 | false =>exact zH<|aD ⟨.inr rfl,kq,⟨_,o,J⟩,N.trans p⟩
 | true =>
  rw[ip rfl] at l;subst l;refine zF<|zr<|zg 2 B<|zp (yl f.nx 0 (str a) y.2)<|zg 1 B<|zp (yl f.nx 1 (.slice j aY.length i) y.2)<|zg 1 B<|zp (yl f.nx 2 (.bool cl) y.2)<|zc 1 F<|am<|zr<|zg 1 H<|zp (yl f.nx 0 (str a) c3.2) ?_;have m:=m rfl;generalize aW a ux=br at *;cases br with
  | true =>obtain⟨S6,w1,w2,w3⟩:=m rfl x _ ⟨_,A,Q⟩<|((m2.fr Ot p).fr o q).fr C r;exact zc 0 u<|zf<|za x<|zH<|zx<|zg 2 x<|zp (yl f.nx 0 (str a) L.2)<|zc 0 w1<|am ⟨.inl rfl,kq,w2,(((N.trans p).trans q).trans r).trans w3⟩
  | false =>
   refine zc 0 u<|zg 2 x<|zp (yl f.nx 0 (str a) L.2) ?_;generalize aW a gP=bp at *;cases bp with
   | false =>exact zc 0 t<|zf<|za I<|zF ⟨.inl rfl,kq,⟨_,e1,R⟩,(((N.trans p).trans q).trans r).trans D⟩
   | true =>obtain⟨S6,w1,w2,w3⟩:=m rfl I _ ⟨_,e1,R⟩<|(((m2.fr Ot p).fr o q).fr C r).fr A D;exact zc 0 t<|zf<|za I<|zH<|zx<|zg 2 I<|zp (yl f.nx 0 (str a) e4.2)<|zc 0 w1<|am ⟨.inl rfl,kq,w2,((((N.trans p).trans q).trans r).trans D).trans w3⟩
def WG(H:k+2<=all.length)(D:T (ek all (k+2)<|ib all eF<|k+2))(t:lo (ek all (k+2)<|ib all eF<|k+2)=nm)(l:tz all lo wr n (ib all eF<|k+2) []=some (aY,cl,wh,k'))(u:uI all lo wr T W n (ib all eF<|k+2))(h:oO rn c s k tx us)(G:qT rn c s)(O:tx.length<=500000)(N:us.length<=500000) :
  ∃x,Ef pr 253 #[aC c 0] s (.tuple #[]) x/\oO rn c x k' (bif wh then [] else tx) (bif wh then jK tx us++[⟨3,[],nm,[],false⟩] else us)/\iU c s x:=by
 have F:=hp.h.g.len;have⟨d,e,o,I,P,J,A⟩:=NX hp H D l u h G;obtain⟨L,⟨Q,R,S,h1,_⟩,_⟩:=h;rw[h1.2] at o;have⟨K,Ot,y⟩:=I;rw[t] at o;obtain⟨a,f⟩:∃a,a=if wh=true then nm else []:=⟨_,Y⟩;rw[<-f] at o;have q:=Ot.add<|ku a e cl;have z:=aI d<|ku a e cl;have m:=iU.add Ot<|ku a e cl;have r:=y.fr Ot m;have i:(d.add<|ku [] aO false).set d.nx _=d.add (ku a e cl):=AS.set_set (⟨d.hp,d.nx+1⟩:AS) d.nx _<|some<|ku a e cl;generalize d.add (ku a e cl)=p at q z m r i;have v:=J.qB;have⟨M,j,B,C⟩:=AA hp.h.g.no (⟨_,q,r⟩) oq oq 3 [] a;refine aX (hp.h.g.no 253 dq) func253 Y<|zr<|zg 3 s<|zp (yl c 1 (num k) h1.2)<|zp (yp k 2 ((k+2:Nat):Int) oq oq)<|zg 2 s<|zp (ys c 1 (num ((k+2:Nat):Int)) h1.2 iq)<|am<|zr<|zc 1 o<|zg 4 _<|zp (eX (off:=0) (w:=.agg #[str a,e,.bool cl]) Y kq kq Y (by show((str a).oneCell'&&(e.oneCell'&&((Value.bool cl).oneCell'&&true)))=true;rw[v.2.2.1];rfl) kq (aI d<|ku [] aO false).2 iq)<|zf<|za ((d.add<|ku [] aO false).set d.nx<|some<|ku a e cl) ?_;rw[i];refine zs<|za p ?_;cases wh with
 | false =>exact zF ⟨.inl Y,kq,⟨_,q,r⟩,A.trans m⟩
 | true =>rw[ip Y] at f;subst f;exact zH<|zx<|zg 2 p<|zp (yl d.nx 0 (str a) z.2)<|zc 1 j<|am ⟨.inl Y,kq,B,(A.trans m).trans C⟩
end
end
def Kt (all:Iq)(k:Nat):Nat:=BQ all (λj=>tZ all j != 0) k
theorem KZ.some{c:Nat}{v:Value}(h:KZ s c n v)(b:(n != 0)=true):∃f a U,v=.func (.func f) a U:=by unfold KZ at h;grind
section
variable {all:Iq}
def IU:k<=Kt all k/\Kt all k<=max k all.length:=by have⟨m,h1,_,_,a⟩:=gD all (λj=>tZ all j != 0) k;unfold Kt;omega
theorem QF(o:K3 rn all lo wr T W pr)(X:CG rn all pr)(hk:k<=120000)(N:W (ek all k<|Kt all k) 0)(h:oO rn c s k tx us)(Y:qT rn c s)(O:tx.length+(wr (ek all k<|Kt all k) 0).length<=1000000) :
  ∃n,Ef pr 72 #[aC c 0] s (.tuple #[]) n/\oO rn c n (Kt all k) (tx++wr (ek all k<|Kt all k) 0) us/\iU c s n:=by
 have a3:=o.h.g.len;have⟨m,F,J,R,hm4⟩:=gD all (λj=>tZ all j != 0) k;change Kt all k=k+m at F;rw[F] at N O |-;have hm:k+m<=150000:=oq
 have⟨p,q,r,h1,_⟩:=h.open;refine aX (o.h.g.no 72 dq) func72 rfl<|zr<|zg 3 s<|zp (yl c 1 (num k) h1.2)<|zf<|za s<|aV (NN c k) kq ?_;intro x0;refine aB<|aF ?_;clear h1;refine bn (bw (Q:=λe B n=>e=.exit 0/\oO rn c n (k+m) tx us/\iU c s n/\∃x,B=NN c k x) (λu B n=>∃j,u+j=m/\oO rn c n (k+j) tx us/\iU c s n/\∃x,B=NN c k x) ?_ m _ _ ⟨0,oq,h,iU.refl s,x0,rfl⟩) ?_
 .rintro u B S ⟨j,hu,d,z,x,rfl⟩;have U:=d.ahead o.h.g oq;have⟨p,q,r,g1,_⟩:=d.open;have⟨v,A,D,L,I⟩:=Q1 o X g1 oq;have⟨i,a⟩:=d.Hy I;by_cases Z:j<m
  .have⟨C,G⟩:=J j Z;have G:tZ all (k+j)=0:=gq
   rw[G] at L;cases L;generalize fF all (k+j)=l at U C;have⟨p,q,r,y,_,q3⟩:=i.open;have⟨q4,q5⟩:=q3<|k+(j+1);exact aB<|zr<|zc 1 U<|zp (yb (.int .i32 l) (.int .i32<|-1)<|cM (b:=true)<|bne_iff_ne.2 C)<|zc 2 D<|zf<|za A<|zT<|aF<|zx<|zg 3 A<|zp (yl c 1 _ y.2)<|zp (yp ((k+j:Nat):Int) 1 ((k+(j+1):Nat):Int) oq oq)<|zg 2 A<|zp (ys c 1 _ y.2 iq)<|am ⟨u-1,oq,j+1,oq,q4,(z.trans a).trans q5,bu kq⟩
  .obtain rfl:j=m:=oq
   rcases R with e|⟨C,G⟩
   .rw[e] at U;exact aB<|zr<|zc 1 U<|zf<|za S<|zG<|aR ⟨rfl,d,z,bu kq⟩
   .obtain⟨f,fi,ca,rfl⟩:=L.some G;generalize fF all (k+j)=l at U C;exact aB<|zr<|zc 1 U<|zp (yb (.int .i32 l) (.int .i32<|-1)<|cM (b:=true)<|bne_iff_ne.2 C)<|zc 2 D<|zf<|za A<|zG<|aR ⟨rfl,i,z.trans a,bu kq⟩
 rintro e B S ⟨rfl,d,z,x,rfl⟩;have K:=tg o.h.g (s:=S) (k:=k) (j:=k+m) oq;have E:=Y.frS h z;have hw:=o.h.wrs S _ 0 N E.1.2 E.2.1;have⟨ts,d,V⟩:=d;have⟨v,A,M,i,a⟩:=EI (pr:=pr) (o.h.g.no 261 dq) (o.h.g.no 156 dq) d O;have H:=V.fr d a;generalize wr (ek all k<|k+m) 0=w at *;generalize ek all k (k+m)=t at *;have⟨p,q,r,y,_⟩:=d;have l1:=gW 84 y.2 (off:=0) rfl;have l2:=gW 3 y.2 (off:=1) rfl;exact aP kq kq kq<|zq<|zq<|zq<|zq<|zq<|zq<|zt S<|zu (yl c 0 (aC rn 0) y.2)<|zq<|zq<|zq<|zq<|zt S<|zu (yl c 1 (num ((k+m:Nat):Int)) y.2)<|yt K<|yt hw<|yt M<|bq ⟨kN<|jT l1 l2,_,_,_,_,_,_,rfl,rfl,⟨.inl rfl,kq,⟨_,i,H⟩,z.trans a⟩⟩
def QS(pr:Prim)(rn c:Nat)(all:Iq)(x y:St):Prop:=fF all x.k ≠ -1/\∀s,Wh rn c s x->qT rn c s ->
 (∃f e d b a,EF prog kg pr 71 #[aC c 0] s (.func (.func f) e d) b/\EF prog kg pr f (e++d) b (.tuple #[]) a/\Wh rn c a y/\iU c s a) \/
 (∃b a,EF prog kg pr 71 #[aC c 0] s .nilFunc b/\EF prog kg pr 72 #[aC c 0] b (.tuple #[]) a/\Wh rn c a y/\iU c s a)
theorem acr(T:K2 rn all pr){st:Nat->St}(h0:st 0=⟨0,[],[]⟩)(aa:∀i,i<n->QS pr rn s.nx all (st i) (st<|i+1))(a7:fF all (st n).k = -1)(D:∀i,i<=n->(st i).k<=150000/\(st i).tx.length<=500000/\(st i).us.length<=500000)(h1:Has s 1 (.cells dy.toArray 335))(hr:rn<s.nx) :
  ∃y v o,Ef pr 40 #[aC rn 0] s v y/\vr y v o/\j9 y o (jK (st n).tx (st n).us)/\cL (λ_=>False) s y/\(∀b,blk v b->s.nx<b):=by
 suffices h:Ew pr (match f40.body with|some c=>c|none=>.skip) ((#[aC rn 0]:Aq).toList++List.replicate (f40.ntmps-(#[aC rn 0]:Aq).toList.length) undef) s (λe U a=>(e=.normal\/e=.ret)/\∃v o,di prog f40 U a=some v/\vr a v o/\j9 a o (jK (st n).tx (st n).us)/\cL (λ_=>False) s a/\(∀b,blk v b->s.nx<b)) by have⟨m,e,U,a,h1,P,v,o,h2,h3⟩:=h;exact⟨a,v,o,aH (T.no 40 dq) func40 rfl ⟨m,e,U,a,h1,P,h2,rfl⟩,h3⟩
 have J:=aI s<|ja rn 0 (.pointer none) aO aO;have L:SC rn s.nx (s.add<|ja rn 0 (.pointer none) aO aO) 0 [] []:=⟨_,_,_,J,.inl rfl,.inl ⟨rfl,rfl⟩,.inl ⟨rfl,rfl⟩⟩;have X:qT rn s.nx (s.add<|ja rn 0 (.pointer none) aO aO):=⟨h1.add _,by simp;omega,by have:=h1.1;omega⟩;have Y:=(aE (K:=λ_=>False) s).add<|ja rn 0 (.pointer none) aO aO;have O:(s.add<|.cells _ 121).set s.nx _=s.add _:=AS.set_set (⟨s.hp,s.nx+1⟩:AS) s.nx (some<|.cells #[.pointer none,num 0,.pointer none,aO,aO] 121)<|some<|ja rn 0 (.pointer none) aO aO;have a9:(s.add<|ja rn 0 (.pointer none) aO aO).nx=s.nx+1:=rfl;have W:∀b,b<s.nx->¬KS s.nx _ b:=λb D z=>by
  rcases(kG J.2).1 z with z|z|z
  .omega
  iterate 2
   .exact cw z
 refine zs<|zr<|zg 3 _<|zp (eX (b:=s.nx) (off:=0) (w:=.agg #[aC rn 0,num 0,.pointer none,aO,aO]) rfl kq kq rfl rfl kq (aI s<|.cells #[.pointer none,num 0,.pointer none,aO,aO] 121).2 iq)<|am<|za ((s.add<|.cells #[.pointer none,num 0,.pointer none,aO,aO] 121).set s.nx<|some<|ja rn 0 (.pointer none) aO aO) ?_;rw[O];generalize s.add (ja rn 0 (.pointer none) aO aO)=H at L X Y a9 W J |-;refine aV (UY rn s.nx) kq ?_;intro x0;refine aB<|aF<|bn (bw (Q:=λe U y=>e=.exit 0/\Wh rn s.nx y (st n)/\iU s.nx H y/\∃x,U=UY rn s.nx x) (λu U y=>∃j,u+j=n/\Wh rn s.nx y (st j)/\iU s.nx H y/\∃x,U=UY rn s.nx x) ?_ n _ _ ⟨0,oq,by rw[h0];exact⟨[],L,rfl,λi t u h=>by simp at h⟩,iU.refl H,x0,rfl⟩) ?_
 .rintro u U S ⟨j,hu,⟨o,A,C⟩,B,x,rfl⟩;have hbj:=D j oq;have d:=A.ahead T oq;by_cases hj:j<n
  .have⟨I,a4⟩:=aa j hj;have P:=X.fr L B;have G:=a4 S ⟨o,A,C⟩ P;generalize fF all (st j).k=l at d I;rcases G with ⟨f,fi,ca,a,s2,g1,g2,g3,g4⟩|⟨a,s2,g1,g2,g3,g4⟩
   .exact aB<|zr<|zc 0 d<|zp (yb (.int .i32 l) (.int .i32<|-1)<|cM (b:=true)<|bne_iff_ne.2 I)<|am<|za S<|zT<|aF<|zr<|zc 0 g1<|zf<|za a<|zs<|za a<|zH<|zx<|zg 1 a<|EO.call (f:=.tmp 12) (g:=f) (first:=fi) (cap:=ca) (args:=fi++ca) kq rfl rfl kq kq iq g2<|am ⟨u-1,oq,j+1,oq,g3,B.trans g4,bu kq⟩
   .exact aB<|zr<|zc 0 d<|zp (yb (.int .i32 l) (.int .i32<|-1)<|cM (b:=true)<|bne_iff_ne.2 I)<|am<|za S<|zT<|aF<|zr<|zc 0 g1<|zf<|za a<|zs<|za a<|zG<|zx<|zc 0 g2<|am ⟨u-1,oq,j+1,oq,g3,B.trans g4,bu kq⟩
  .obtain rfl:j=n:=oq
   rw[a7] at d;exact aB<|zr<|zc 0 d<|zf<|za S<|zG<|aR ⟨rfl,⟨o,A,C⟩,B,bu kq⟩
 rintro e U S ⟨rfl,⟨o,A,C⟩,B,x,rfl⟩;have VL:=D n<|iz n;have⟨S2,hE,N,E⟩:=zh T.no A oq (by have:=C.1;omega);have F:=B.trans E;have⟨p,q,r,V,q2,q3,q4⟩:=N;refine zr<|zc 0 hE<|am<|zr<|zg 1 S2<|zp (yl s.nx 4 r V.2)<|zf<|aD ⟨.inr rfl,r,_,kq,q4,((C.fr A E).vy (tx:=(st n).tx)),Y.trans F.1 λb D z=>W b D z,λb z=>?_⟩;by_cases R:b<H.nx
 .have:=F.2 b R<|(kG V.2).2<|.inr<|.inr z;by_cases abj:b<s.nx
  .grind
  .have⟨_,_,w⟩:=q4.blk z;have Z:b≠s.nx:=w.ne V dq;omega
 .omega
end
section
variable {all:Iq}
theorem Aj:∀(n k:Nat) (aY:kH),k<=all.length+1->all.length+2-k<=n->∃a c d b,tz all lo wr n k aY=some (a,c,d,b)/\b<=all.length+1/\k<=b
 | 0,k,aY,h1,h2=>oq
 | n+1,k,aY,h1,h2=>by
  have hs:=Iz (stops:=js) h1;unfold tz;split
  .grind
  .next g =>
   have f:=l6 g;split
   .grind
   .have U:=yX (lo:=lo) (wr:=wr) f;have⟨a,c,d,b,e,h3,h⟩:=Aj n (nh all lo wr<|pP all js k).2 (fc aY (nh all lo wr<|pP all js k).1) U.2 oq;grind
def Oa(k:Nat):∃i j,(m7 all k).1=ek all i j:=by
 unfold m7;split
 .exact⟨_,_,O⟩
 .split<;>exact⟨_,_,O⟩
structure yu(all:Iq)(wr:Bq->Int->Bq)(T:Bq->Prop)(W:Bq->Int->Prop):Prop where
 t:∀i j,T (ek all i j)
 w:∀i j n,W (ek all i j) n
 l:∀i j n,(wr (ek all i j) n).length<=4*(ek all i j).length
def uz(ht:yu all wr T W):∀(n k),uI all lo wr T W n k
 | 0,_=>trivial
 | n+1,k=>λ_ _=>⟨⟨ht.t _ _,λ_=>by have⟨i,j,e⟩:=Oa (all:=all)<|Ci all<|pP all js k;rw[e];exact ht.w _ _ _⟩,uz ht n _⟩
def nM(i j:Nat):(ek all i j).length<=4*(j-i):=by
 have h1:=jg<|(all.drop i).take<|j-i;have h2:((all.drop i).take<|j-i).length<=j-i:=by simp;omega
 unfold ek;omega
def yu.wl(a:yu all wr T W)(i j:Nat)(n:Int):(wr (ek all i j) n).length<=16*(j-i):=by
 have:=a.l i j n
 have:=nM (all:=all) i j;omega
def fO (all:Iq)(lo:Bq->Bq)(wr:Bq->Int->Bq)(k:Nat):kH × Bool × Bool × Nat:=(tz all lo wr (all.length+2) (ib all eF k) []).getD ([],false,false,k)
theorem lO(U:k<=all.length):tz all lo wr (all.length+2) (ib all eF k) []=some ((fO all lo wr k).1,(fO all lo wr k).2.1,(fO all lo wr k).2.2.1,(fO all lo wr k).2.2.2)/\(fO all lo wr k).2.2.2<=all.length+1/\k<=(fO all lo wr k).2.2.2:=by have c:=ow (stops:=eF) U;have⟨a,b,f,d,e,h1,h2⟩:=Aj (all:=all) (lo:=lo) (wr:=wr) (all.length+2) (ib all eF k) [] oq oq;unfold fO;grind
section
variable (all:Iq)
section
variable (lo:Bq->Bq)
def fs(k:Nat):Bq:=lo<|ek all k<|ib all eF k
def TR (nm:Bq):Bool:=aW nm ux||aW nm gP
def BN(wr:Bq->Int->Bq)(x:St):St :=
 ⟨bif (fO all lo wr<|x.k+1).2.2.1&&TR (fs all lo<|x.k+1) then pw all (fs all lo<|x.k+1) (fO all lo wr<|x.k+1).2.2.2 else (fO all lo wr<|x.k+1).2.2.2,
 bif (fO all lo wr<|x.k+1).2.2.1 then (bif TR (fs all lo<|x.k+1) then yF all wr (fs all lo<|x.k+1) (fO all lo wr<|x.k+1).2.2.2 else []) else x.tx,
 bif (fO all lo wr<|x.k+1).2.2.1 then jK x.tx x.us++[⟨2,[],fs all lo<|x.k+1,(fO all lo wr<|x.k+1).1,(fO all lo wr<|x.k+1).2.1⟩] else x.us⟩
def OQ(wr:Bq->Int->Bq)(x:St):St :=
 ⟨(fO all lo wr<|x.k+2).2.2.2,bif (fO all lo wr<|x.k+2).2.2.1 then [] else x.tx,bif (fO all lo wr<|x.k+2).2.2.1 then jK x.tx x.us++[⟨3,[],fs all lo<|x.k+2,[],false⟩] else x.us⟩
end
def yH(w:Nat)(x:St):St:=⟨ib all [62] (x.k+w)+1,[],jK x.tx x.us++[⟨4,ek all (x.k+w)<|ib all [62]<|x.k+w,[],[],false⟩]⟩
end
def lq(all:Iq)(lo:Bq->Bq)(wr:Bq->Int->Bq)(x:St):St:=match tZ all x.k with
 | 0=>⟨Kt all x.k,x.tx++wr (ek all x.k<|Kt all x.k) 0,x.us⟩
 | 1=>BN all lo wr x
 | 2=>OQ all lo wr x
 | 3=>⟨x.k+3,x.tx,x.us⟩
 | 4=>yH all 2 x
 | 5=>⟨Jh all x.k+(EP all<|Jh all x.k).length,[],jK x.tx x.us++[⟨4,ek all (x.k+4)<|Jh all x.k,[],[],false⟩]⟩
 | 6=>⟨ib all [62] (yo all x.k)+1,[],jK x.tx x.us++[⟨5,[],lo<|ek all (Fp all x.k)<|yo all x.k,[],false⟩]⟩
 | 7=>yH all 2 x
 | _=>yH all 1 x
theorem AB(h:tZ all k=2):fF all (k+1)=47:=by
 unfold tZ at h;cases h1:(fF all k==60)<;>rw[h1] at h
 .cases h
 cases h2:mP _<;>rw[h2] at h
 .grind
 .cases h
def Ys:List FuncId:=[151,152,153,154,155,254,255,256,327]
structure PrK(rn:Nat)(all:Iq)(lo:Bq->Bq)(wr:Bq->Int->Bq)(T:Bq->Prop)(W:Bq->Int->Prop)(pr:Prim):Prop where
 j:K3 rn all lo wr T W pr
 t:CG rn all pr
 no:∀f,f∈Ys->pr f=none
 a:yu all wr T W
 len:all.length<=20000
theorem U5(b:PrK rn all lo wr T W pr)(x:St)(y:fF all x.k ≠ -1)(R:x.tx.length<=400000)(P:x.us.length<=400000):QS pr rn c all x (lq all lo wr x):=by
 refine⟨y,λs o F=>?_⟩;have E:=b.len;have z:=l6 y;have⟨p,q,r,h1,_,_⟩:=o.open;have⟨v,h,e1,g,G⟩:=Q1 b.j b.t h1 oq;have⟨e,d⟩:=o.Hy G;have l:=F.frS o d;unfold lq;generalize A:tZ all x.k=n at *;rcases n with _|_|_|_|_|_|_|_|n
 .cases g;have Q:=IU (all:=all) (k:=x.k);have⟨f,U,g1,g2⟩:=QF b.j b.t oq (b.a.w _ _ _) e l (by have:=b.a.wl x.k (Kt all x.k) 0;omega);exact .inr ⟨h,f,e1,U,g1,d.trans g2⟩
 .cases g;have⟨u,I,J⟩:=lO (lo:=lo) (wr:=wr) (k:=x.k+1) z;have⟨f,U,g1,g2⟩:=Qh (k2:=pw all (fs all lo<|x.k+1) (fO all lo wr<|x.k+1).2.2.2) (tx2:=yF all wr (fs all lo<|x.k+1) (fO all lo wr<|x.k+1).2.2.2) b.j z (b.a.t _ _) Y u (uz b.a _ _) e l oq oq λ_ H S V D C=>by
   have O:=xa (all:=all) (nm:=fs all lo<|x.k+1) (k:=(fO all lo wr<|x.k+1).2.2.2);have N:(yF all wr (fs all lo<|x.k+1) (fO all lo wr<|x.k+1).2.2.2).length<=400000:=by
    have L:=b.a.wl (fO all lo wr<|x.k+1).2.2.2 (pw all (fs all lo<|x.k+1) (fO all lo wr<|x.k+1).2.2.2) 0;have M:=nM (all:=all) (fO all lo wr<|x.k+1).2.2.2 (pw all (fs all lo<|x.k+1) (fO all lo wr<|x.k+1).2.2.2);unfold yF;cases aW _ gP
    .grind
    .grind
   exact Pd b.j b.t (b.no 327 dq) H oq (λ_=>b.a.w _ _ _) D C<|by rw[List.length_nil];change 0+(yF all wr (fs all lo<|x.k+1) _).length<=_;omega
  exact .inl ⟨_,_,_,h,f,e1,U,g1,d.trans g2⟩
 .cases g;have K:=AB A;have m:x.k+1<all.length:=l6 gq;have⟨u,I,J⟩:=lO (lo:=lo) (wr:=wr) m;have⟨f,U,g1,g2⟩:=WG b.j m (b.a.t _ _) Y u (uz b.a _ _) e l oq oq;exact .inl ⟨_,_,_,h,f,e1,U,g1,d.trans g2⟩
 .obtain⟨B,rfl,i⟩:=g;have⟨f,U,g1,g2⟩:∃j,Ef pr 254 #[aC B 0] h (.tuple #[]) j/\oO rn c j (x.k+3) x.tx x.us/\iU c h j:=by have⟨p,q,r,h1,f,a⟩:=e.open;have⟨g1,g2⟩:=a<|x.k+3;exact⟨_,aH (b.no 254 dq) func254 O<|zx<|zp (yl B 0 (aC c 0) i.2)<|zg 2 h<|zp (yl c 1 (num x.k) h1.2)<|zp (yp x.k 3 ((x.k+3:Nat):Int) oq oq)<|zg 2 h<|zp (ys c 1 (num ((x.k+3:Nat):Int)) h1.2 iq)<|am ⟨.inl O,kq,O⟩,g1,g2⟩
  exact .inl ⟨_,_,_,h,f,e1,U,g1,d.trans g2⟩
 .obtain⟨B,rfl,i⟩:=g;have⟨f,U,g1,g2⟩:=FU b.j (b.no 154 dq) i (.inr<|.inr ⟨Y,Y⟩) (b.no 255 dq) oq e oq oq;exact .inl ⟨_,_,_,h,f,e1,U,g1,d.trans g2⟩
 .cases g;have⟨f,U,g1,g2⟩:=Ji b.j b.t (b.no 256 dq) (b.no 151 dq) oq e oq oq;exact .inl ⟨_,_,_,h,f,e1,U,g1,d.trans g2⟩
 .cases g;have⟨f,U,g1,g2⟩:=Jo b.j (b.no 152 dq) oq (b.a.t _ _) e oq oq;exact .inl ⟨_,_,_,h,f,e1,U,g1,d.trans g2⟩
 .obtain⟨B,rfl,i⟩:=g;have⟨f,U,g1,g2⟩:=FU b.j (b.no 154 dq) i (.inl ⟨Y,Y⟩) (b.no 153 dq) oq e oq oq;exact .inl ⟨_,_,_,h,f,e1,U,g1,d.trans g2⟩
 .obtain⟨B,rfl,i⟩:=g;have⟨f,U,g1,g2⟩:=FU b.j (b.no 154 dq) i (.inr<|.inl ⟨Y,Y⟩) (b.no 155 dq) oq e oq oq;exact .inl ⟨_,_,_,h,f,e1,U,g1,d.trans g2⟩
def C3(tx:Bq)(a:List Tok):(jK tx a).length<=a.length+1:=by
 unfold jK;split
 .omega
 .simp
def OK(k:Nat):(EP all k).length<=4:=by unfold EP;cases mz all k [45,45,62]<;>cases mz all k [45,45,33,62]<;>decide
theorem Ep(c:yu all wr T W)(x:St)(f:fF all x.k ≠ -1)(u:x.tx.length<=16*x.k)(s:x.us.length<=2*x.k) :
  x.k<(lq all lo wr x).k/\(lq all lo wr x).k<=all.length+20/\(lq all lo wr x).tx.length<=16*(lq all lo wr x).k/\(lq all lo wr x).us.length<=2*(lq all lo wr x).k:=by
 have i:=l6 f;have r:=C3 x.tx x.us;have a:∀w,w<=4->x.k<(yH all w x).k/\(yH all w x).k<=all.length+20/\(yH all w x).tx.length<=16*(yH all w x).k/\(yH all w x).us.length<=2*(yH all w x).k:=λw t=>by
  have h1:=wx (all:=all) (stops:=[62]) (k:=x.k+w);have h2:x.k+w<=ib all [62] (x.k+w):=by unfold ib;omega
  refine⟨?_,?_,Nat.zero_le _,?_⟩
  .show x.k<ib all [62] (x.k+w)+1;omega
  .show ib all [62] (x.k+w)+1<=_;omega
  .show(jK x.tx x.us++[_]).length<=2*(ib all [62] (x.k+w)+1);simp;omega
 unfold lq;generalize h:tZ all x.k=n;rcases n with _|_|_|_|_|_|_|_|n
 .have⟨m,h1,h2,h3,b⟩:=gD all (λj=>tZ all j != 0) x.k;change Kt all x.k=x.k+m at h1;have l:m≠0:=λe=>gq
  have U:=c.wl x.k (x.k+m) 0;grind
 .have⟨o,p,q⟩:=lO (lo:=lo) (wr:=wr) i;have l:=xa (all:=all) (nm:=fs all lo<|x.k+1) (k:=(fO all lo wr<|x.k+1).2.2.2);have U:=c.wl (fO all lo wr<|x.k+1).2.2.2 (pw all (fs all lo<|x.k+1) (fO all lo wr<|x.k+1).2.2.2) 0;have g:=nM (all:=all) (fO all lo wr<|x.k+1).2.2.2 (pw all (fs all lo<|x.k+1) (fO all lo wr<|x.k+1).2.2.2);unfold BN yF;grind
 .have d:=l6 (by rw[AB h];decide);have⟨o,p,q⟩:=lO (lo:=lo) (wr:=wr) d;unfold OQ;grind
 .grind
 .exact a 2 oq
 .have⟨m,h1,h2,h3,b⟩:=gD all (λj=>!(EP all j).isEmpty)<|x.k+2;change Jh all x.k=x.k+2+m at h1;have U:=OK (all:=all)<|Jh all x.k;grind
 .have h1:Fp all x.k<=max (x.k+9) all.length:=IA;have h2:yo all x.k<=max (Fp all x.k) all.length:=wx;have h3:=wx (all:=all) (stops:=[62]) (k:=yo all x.k);have b:x.k+9<=Fp all x.k:=by unfold Fp pP;omega
  have U:Fp all x.k<=yo all x.k:=by unfold yo ib;omega
  have g:yo all x.k<=ib all [62] (yo all x.k):=by unfold ib;omega
  grind
 .exact a 2 oq
 .exact a 1 oq
def runK (all:Iq)(lo:Bq->Bq)(wr:Bq->Int->Bq):Nat->St->St
 | 0,x=>x
 | n+1,x=>if fF all x.k = -1 then x else runK all lo wr n (lq all lo wr x)
def TT (all:Iq)(lo:Bq->Bq)(wr:Bq->Int->Bq)(x:St):Nat->St
 | 0=>x
 | n+1=>lq all lo wr<|TT all lo wr x n
def pz(x:St):∀n,TT all lo wr x (n+1)=TT all lo wr (lq all lo wr x) n
 | 0=>rfl
 | n+1=>by show lq all lo wr _=_;rw[pz x n];rfl
def Oz (all:Iq)(x:St):Prop:=x.k<=all.length+20/\x.tx.length<=16*x.k/\x.us.length<=2*x.k
def Nn(ht:yu all wr T W):∀(m:Nat) (x:St),Oz all x->all.length<x.k+m->∃n,(∀i,i<n->fF all (TT all lo wr x i).k ≠ -1)/\fF all (TT all lo wr x n).k = -1/\(∀i,i<=n->Oz all (TT all lo wr x i))/\runK all lo wr m x=TT all lo wr x n
 | 0,x,hI,hm=>⟨0,λi hi=>oq,HT<|by show all.length<=x.k;omega,λi hi=>by rw[Nat.le_zero.1 hi];exact hI,O⟩
 | m+1,x,hI,hm=>by
  by_cases hl:fF all x.k = -1
  .exact⟨0,λi hi=>oq,hl,λi hi=>by rw[Nat.le_zero.1 hi];exact hI,by unfold runK;rw[ip hl];rfl⟩
  .have⟨a1,a2,a3,a4⟩:=Ep (lo:=lo) ht x hl hI.2.1 hI.2.2;have⟨n,h1,h2,h3,h4⟩:=Nn ht m (lq all lo wr x) ⟨a2,a3,a4⟩ oq;refine⟨n+1,λi hi=>?_,?_,λi hi=>?_,?_⟩
   .cases i with
    | zero=>exact hl
    | succ i=>rw[pz];exact h1 i oq
   .rw[pz];exact h2
   .cases i with
    | zero=>exact hI
    | succ i=>rw[pz];exact h3 i oq
   .unfold runK;rw[iw hl,pz];exact h4
def xW (all:Iq)(lo:Bq->Bq)(wr:Bq->Int->Bq):List Tok:=jK (runK all lo wr (all.length+1) ⟨0,[],[]⟩).tx (runK all lo wr (all.length+1) ⟨0,[],[]⟩).us
theorem PG(d:PrK rn all lo wr T W pr)(h1:Has s 1 (.cells dy.toArray 335))(q:rn<s.nx) :
  ∃e v l,Ef pr 40 #[aC rn 0] s v e/\vr e v l/\j9 e l (xW all lo wr)/\cL (λ_=>False) s e/\(∀b,blk v b->s.nx<b):=by
 have U:=d.len;have⟨n,m,o,k,p⟩:=Nn (lo:=lo) d.a (all.length+1) ⟨0,[],[]⟩ ⟨Nat.zero_le _,Nat.zero_le _,Nat.zero_le _⟩ gq
 have:=acr d.j.h.g O (λi f=>by have c:=k i oq;exact U5 d _ (m i f) (by have:=c.1;have:=c.2.1;omega)<|by have:=c.1;have:=c.2.2;omega) o (λi f=>by have c:=k i f;exact⟨by have:=c.1;omega,by have:=c.1;have:=c.2.1;omega,by have:=c.1;have:=c.2.2;omega⟩) h1 q;unfold xW;rw[p];exact this
end
end
section
variable {m n:Nat}{s:AS}{f:FuncId}{pr:Prim}{ι:Type}{N0:ι->Nat}{M:ι->World->Nat->Prop}{R:ι->Wq}{D:ι->World->World->Array Event->Prop}{X:ι->Gq}{Hd:ι->Hq->World->Prop}
variable {r:Int}{N b b0 b1 b2 b3 e e2 e3 j j' k nm off pos v z z2 z3:Nat}{a en l post pre stops t:Bq}{x:Operand}{p:Value}{c:UInt8}{s' s1:AS}
def Fq (r:Int):Bq:=(Utf8.encode r).data.toList
theorem LK(r:Int):Value.string (Utf8.encode r)=str (Fq r):=by unfold Fq;grind
def OP(h:128<=r):∃(n:Nat) (z:UInt8),(Fq r).length=n+1/\n<=3/\1<=n/\(Fq r)[n]?=some z/\128<=z.toNat:=by
 have a:∀c,128<=(UInt8.ofNat<|128+c % 64).toNat:=λc=>by rw[UInt8.toNat_ofNat'];omega
 unfold Fq Utf8.encode;generalize b:(if Utf8.valid r=true then r.toNat else Utf8.runeError)=c;have h1:128<=c:=by
  rw[<-b];split
  .omega
  .decide
 rw[iw oq];split
 .exact⟨1,_,I,oq,oq,I,a c⟩
 .split
  .exact⟨2,_,I,oq,oq,I,a c⟩
  .exact⟨3,_,I,oq,oq,I,a c⟩
def GI(stops:Bq)(b:Nat)(x:Nq):TL:=[str stops,.int .i32 65533]++gG x 2 173++[aC b 0]++gG x 176 11
variable {rn:Nat}{all:Iq}
def QC(a:pr 335=none)(h:128<=r/\r<=1114111):Ef pr 335 #[.int .i32 r] s (.bool<|decide (r<55296\/57343<r)) s:=by
 refine aH a func335 I<|zs<|aB<|aF<|zr<|zk 1<|zp (bz (u:=.int .i32 0) (w:=.int .i32 r) I kq kq<|cx<|tD oq)<|zk 2 ?_;by_cases h1:r<55296
 .rw[tD (.inl h1)];exact zp (bz (w:=.int .i32 55296) I kq kq<|eO<|tD h1)<|zf<|za s<|zH<|zs<|aD ⟨.inr I,kq,kq⟩
 .refine zp (bz (u:=.int .i32 r) I kq kq<|eO<|fD h1)<|zf<|za s<|zG<|zr<|zk 1 ?_;by_cases h2:57343<r
  .rw[tD (.inr h2)];exact zp (bz (w:=.int .i32 r) I kq kq<|eO (b:=true)<|tD h2)<|zk 2<|zp (bz (u:=.int .i32 r) I kq kq<|cx (b:=true)<|tD h.2)<|zf<|za s<|zH<|zs<|aD ⟨.inr I,kq,kq⟩
  .rw[fD oq];exact zp (bz (u:=.int .i32 57343) I kq kq<|eO (b:=false)<|fD h2)<|zf<|za s<|zF<|zs<|aD ⟨.inr I,kq,kq⟩
def MG(c:pr 334=none)(d:pr 373=bP 373){r:Bq}{z:UInt8}(h:z∉r):Ef pr 334 #[str r,.int .u8 (z.toNat:Int)] s (num<|-1) s:=by
 have b:Ef pr 373 #[str r,.int .u8 (z.toNat:Int)] s (num<|-1) s:=by obtain⟨g,e⟩:∃g,bP 373=some g:=⟨_,I⟩;have a:=iQ (P:=prog) (kt:=kg) (pr:=bP) (f:=373) (args:=#[str r,.int .u8 (z.toNat:Int)]) (s:=s) (v:=num<|km ((z.toNat:Int).toNat % 256) r 0) (s':=s) 1 kq;rw[toNat_mod,sF h] at a;have⟨m,a⟩:=a;refine gp (d.trans e) ?_;unfold ck at a;rw[e] at a;exact a
 exact aH c func334 I<|zs<|zr<|zc 2 b<|zf yR
def HO(o:pr 264=none)(t:pr 335=none)(p:pr 334=none)(x:pr 373=bP 373)(I:I0 stops)(H:128<=r/\r<=1114111)(D:r≠65533):Ef pr 264 #[str stops,.int .i32 r] s (num<|-1) s:=by
 have f:=QC (s:=s) t H;have⟨n,z,L,M,N,K,O⟩:=OP H.1;have F:∀l:Bq,(∀b∈l,b∈stops)->z∉l:=λl B h=>by have:=I z<|B z h;omega
 have d:=λ(l:Bq) (h:∀b∈l,b∈stops)=>MG (s:=s) p x<|F l h;refine aH o func264 W<|zs<|aF<|zr<|zk 1<|zp (bz (u:=.int .i32 0) (w:=.int .i32 r) W kq kq<|cx (b:=true)<|tD oq)<|zk 2<|zp (bz (u:=.int .i32 r) (w:=.int .i32 128) W kq kq<|eO (b:=false)<|fD oq)<|zf<|za s<|zG<|zr<|zk 1<|zp (bz (u:=.int .i32 r) (w:=.int .i32 65533) W kq kq<|dp (b:=false)<|bF.2 D)<|zf<|za s<|zG<|zr<|zc 1 f ?_;by_cases J:r<55296\/57343<r
 .rw[tD J];refine zf<|za s<|zG<|EW.scope<|zr<|zk 1<|bU (v:=str<|Fq r) (s1:=s) kq ((show _=some (Value.string<|Utf8.encode r,s) by kernel_rfl).trans<|by rw[LK]) ?_;generalize Fq r=e at *;refine zf<|za s<|zr<|zk 1<|zp (dL (l:=e) W underlying9 kq)<|zp (PV (i:=(e.length:Nat)) (j:=1) (r:=(n:Nat)) W kq kq oq oq)<|zf<|za s ?_;iterate 2 refine zs ?_
  refine za s<|aB<|aF<|ic<|aB<|zr<|zk 2<|zp (dL (l:=stops) W underlying9 kq) ?_;by_cases B:n<stops.length
  .have A:=gE B;have C:=I _<|zB B;generalize stops[n]=y at A C;have E:bS stops.length stops.length (some<|num ((n+1:Nat):Int)) none=some (n+1,stops.length):=ig oq oq;have g:=d ((stops.take stops.length).drop<|n+1) (λb G=>by rw[List.take_length] at G;exact List.mem_of_mem_drop G);generalize c:(stops.take stops.length).drop (n+1)=a at g;exact zp (bz (u:=num n) (w:=num stops.length) W kq kq<|bE (b:=true)<|tD oq)<|am<|za s<|zT<|aF<|EW.scope<|aB<|aB<|aP kq kq kq<|zq<|zq<|zu (li (l:=stops) (k:=.i64) (n:=(n:Nat)) (b:=y) W underlying9 kq kq oq A)<|zq<|zq<|zu (li (l:=e) (k:=.i64) (n:=(n:Nat)) (b:=z) W underlying9 kq kq oq K)<|zu (bz (u:=.int .u8 y.toNat) (w:=.int .u8 z.toNat) W kq kq<|cM (b:=true)<|bne_iff_ne.2 oq)<|bq ⟨fY [] kq iq,_,_,_,_,_,_,W,W,za s<|zH<|aB<|aP kq kq kq (zq<|zq (zu (jY (i:=(n:Nat)) (j:=1) (r:=((n+1:Nat):Int)) W kq kq oq oq)<|zu (jr (l:=stops) (m:=a) (i:=n+1) (j:=stops.length) W underlying9 kq ((show _=bS stops.length stops.length (some<|num ((n+1:Nat):Int)) none by kernel_rfl).trans E) c) (zq<|zq (zu (li (l:=e) (k:=.i64) (n:=(n:Nat)) (b:=z) W underlying9 kq kq oq K)<|zt s<|ET.y6 #[str a,.int .u8 (z.toNat:Int)] kq W W kq kq g<|zq<|bq ⟨fY [] kq iq,_,_,_,_,_,_,W,W,za s<|aB<|zr<|zf<|za s<|zH<|zs<|aD ⟨.inr W,kq,kq⟩⟩))))⟩
  .exact zp (bz (u:=num n) (w:=num stops.length) W kq kq<|bE (b:=false)<|fD oq)<|am<|za s<|zG<|aR<|aB<|zs<|aD ⟨.inr W,kq,kq⟩
 .rw[fD J];exact zf<|za s<|zH<|zs<|aD ⟨.inr W,kq,kq⟩
def qy (s:AS)(l:Bq)(j:Nat):AS:=s.add<|.stringIter ⟨l.toArray⟩ j
def sJ:(qy s l j).set s.nx (some<|.stringIter ⟨l.toArray⟩ j')=qy s l j':=AS.set_set (⟨s.hp,s.nx+1⟩) s.nx _<|some<|.stringIter ⟨l.toArray⟩ j'
def lD:(qy s l j).get s.nx=some (.stringIter ⟨l.toArray⟩ j):=by unfold qy;rw[AS.aZ,ip I]
def Mg(c:pr 264=none)(k:I0 stops)(i:kg (1000+stops.length)=false):Ef pr 264 #[str stops,.int .i32 65533] s (num<|-1) (qy s stops stops.length):=by
 refine aH c func264 I<|zs<|aF<|zr<|zf<|za s<|zG<|zr<|zf<|za s<|zH<|aB<|zr<|zg 1 s<|zp (zW I underlying9 kq i)<|am<|za (qy s stops 0)<|aV (GI stops s.nx) kq ?_;intro m;refine aF<|bn (bw (Q:=λe a g=>e=.exit 9/\g=qy s stops stops.length/\∃x,a=GI stops s.nx x) (λu a g=>∃j,u+j=stops.length/\g=qy s stops j/\∃x,a=GI stops s.nx x) ?_ stops.length _ _ ⟨0,oq,I,m,I⟩) ?_
 .rintro u a g ⟨j,n,rfl,x,rfl⟩;by_cases h:j<stops.length
  .have d:=gE h;have f:=k _<|zB h;generalize stops[j]=y at d f;refine zr<|zp (MU I kq lD d f i) ?_;rw[sJ];exact zf<|za (qy s stops<|j+1)<|aB<|zT<|aF<|zs<|zr<|zk 1<|zp (bz (u:=.int .i32 y.toNat) (w:=.int .i32 65533) I kq kq<|dp<|bF.2 oq)<|am<|za _<|zF ⟨u-1,oq,j+1,oq,I,bu kq⟩
  .obtain rfl:j=stops.length:=oq
   exact zr<|zp (ut I kq lD lr)<|zf<|za _<|aB<|zG<|aR ⟨I,I,bu kq⟩
 rintro e a g ⟨rfl,rfl,x,rfl⟩;exact zs<|aD ⟨.inr I,kq,kq⟩
def YB(b:Zw rn all pr)(a:pr 335=none){l:Int}(i : -1<=l/\l<=1114111)(f:I0 stops)(h:kg (1000+stops.length)=false):∃c,Ef pr 328 #[.int .i32 l,str stops] s (.bool<|gL l stops) c:=by
 by_cases h1:l<128
 .by_cases g:l = -1
  .exact⟨s,MR b a (.inl g) f⟩
  .exact⟨s,MR b a (.inr ⟨l.toNat,.inl oq,oq⟩) f⟩
 .rw[v6 (.inr oq) f];obtain⟨c,e⟩:∃c,Ef pr 264 #[str stops,.int .i32 l] s (num<|-1) c:=by
   by_cases h2:l=65533
   .subst h2;exact⟨_,Mg (b.no 264 dq) f h⟩
   .exact⟨s,HO (b.no 264 dq) a (b.no 334 dq) b.MZ f ⟨oq,i.2⟩ h2⟩
  refine⟨c,?_⟩;have d:Ef pr 160 #[str stops,.int .i32 l] s (.bool false) c:=by exact aH (b.no 160 dq) func160 I<|zs<|zr<|zc 2 e<|zf yR
  exact aH (b.no 328 dq) func328 I<|zs<|zr<|zc 2 d<|zf yR
def Ov{z:Int}(h:0<=z/\z<256):(z.toNat.toUInt8).toNat=z.toNat:=by rw[Nat.toUInt8_eq,UInt8.toNat_ofNat'];omega
theorem LF(U:Good r)(post:Bq):decodeL (encodeRune r++post)=(r.toNat,(encodeRune r).length):=by
 have a:(0<=r/\r<55296)\/(57343<r/\r<=1114111):=U;rw[decodeL_N];unfold encodeRune;by_cases h1:r<=127
 .rw[encodeRuneZ_one oq h1];show decodeN _ (r.toNat.toUInt8).toNat _ _ _=(_,1);rw[Ov oq];unfold decodeN;rw[ip oq]
 by_cases h2:r<=2047
 .rw[encodeRuneZ_two oq h2];show decodeN (_+1+1) ((192+r / 64).toNat.toUInt8).toNat ((128+r % 64).toNat.toUInt8).toNat _ _=(_,2);rw[Ov oq,Ov oq];unfold decodeN;grind
 by_cases h3:r<=65535
 .rw[encodeRuneZ_three oq];show decodeN (_+1+1+1) ((224+r / 4096).toNat.toUInt8).toNat ((128+r / 64 % 64).toNat.toUInt8).toNat ((128+r % 64).toNat.toUInt8).toNat _=(_,3);rw[Ov oq,Ov oq,Ov oq];unfold decodeN;grind
 .rw[encodeRuneZ_four oq oq];show decodeN (_+1+1+1+1) ((240+r / 262144).toNat.toUInt8).toNat ((128+r / 4096 % 64).toNat.toUInt8).toNat ((128+r / 64 % 64).toNat.toUInt8).toNat ((128+r % 64).toNat.toUInt8).toNat=(_,4);rw[Ov oq,Ov oq,Ov oq,Ov oq];unfold decodeN;rw[iw oq,iw oq,iw oq,ip oq,ip oq];congr 1;omega
variable {P:Program}{kt:TypeId->Bool}{o:Oper}
section
variable {c:gX}{a:TL}
def F0(g:t=pre++(encodeRune r++post))(f:Good r)(d:o.op=.next x true)(n:a.at x=aC b 0)(m:s.get b=some (.stringIter ⟨t.toArray⟩ pre.length))(i:kt (1000+t.length)=false) :
  cf P kt c a o s=some (.tuple #[.bool true,num pre.length,.int .i32 r],s.set b<|some<|.stringIter ⟨t.toArray⟩<|pre.length+(encodeRune r).length):=by
 have e:ByteArray.size ⟨t.toArray⟩=t.length:=by simp[ByteArray.size]
 have h:Utf8.decode ⟨t.toArray⟩ pre.length=(r.toNat,(encodeRune r).length):=by rw[<-decodeL_drop];rw[g,List.drop_left,LF f]
 have p:=encodeRuneZ_length r;have j:(encodeRune r).length=(encodeRuneZ r).length:=by simp[encodeRune]
 have k:t.length=pre.length+((encodeRune r).length+post.length):=by rw[g];simp
 have l:r.toNat=r:=by unfold Good at f;omega
 unfold cf;rw[iw (by rw[d];simp[fR]),d];simp only[n,aC,m,e,h,l];rw[ip oq,iw<|by rw[i];simp];rfl
end
def S7 {K:Nat} (e:pr 261=none) (f:pr 272=none) (a:pr 344=bP 344)(m:N<=b) (w:b<s.nx) (t:s.get b=some (.cells #[p,.slice none 0 0] 119)) (r:p=.pointer none\/p=aC b 0) (v:K<=1000000):∃j,EF prog kg pr 272 #[aC b 0,num ((K+1:Nat):Int)] s (.tuple #[]) j/\BW j N b []/\kU N s j:=by
 obtain ⟨c,o,u,h,l⟩:=ud e t r
 have i:bV prog 55 (aC b 1) c=some (.slice none 0 0):=by
  unfold bV
  simp only [aC,h,underlying55]
  rfl
 refine aX f func272 I ?_
 refine zr ?_
 refine zk 1 ?_
 refine zo s ?_
 refine yf o ?_
 refine am ?_
 refine zs ?_
 refine za c ?_
 refine aB<|aP kq kq kq ?_
 iterate 2
  refine zq ?_
  refine zq ?_
  refine zq ?_
  refine zt c ?_
  refine zu (yl b 1 _ h) ?_
  refine zq ?_
 iterate 2
  refine zq ?_
 refine zu (yb (num 0) (num ((K+1:Nat):Int))<|bE<|tD oq) ?_
 refine bq ⟨fY [(bV prog 55 (aC b 1) c,.slice none 0 0),(bV prog 55 (aC b 1) c,.slice none 0 0)] kq<|by simp [bQ,i],_,_,_,_,_,_,I,I,?_⟩
 refine zH ?_
 refine zx ?_
 refine zk 2 ?_
 refine zo c ?_
 have a:EF prog kg pr 344 #[aC b 0,num ((K+1:Nat):Int)] c (.tuple #[]) ((c.set b<|some<|.cells #[aC b 0,.slice (some ⟨c.nx,0,none⟩) 0 0] 119 (0,0)).add<|.cells #[] 5 (1,1)):=by
  refine gp (g:=λd s=>match d.toList with
   | [.pointer (some ⟨b,0,none⟩),.int .i64 n]=>match s.get b with
    | some (.cells cs 119 (0,0))=>match cs.toList with
     | [p,.slice none 0 0]=>if 0<=n/\n<=1000000000 then some (.tuple #[],(s.set b<|some<|.cells #[p,.slice (some ⟨s.nx,0,none⟩) 0 0] 119 (0,0)).add<|.cells #[] 5 (1,1)) else none
     | _=>none
    | _=>none
   | _=>none) (a.trans kq) ?_
  simp only [aC]
  rw [h]
  simp only
  rw [ip ⟨oq,oq⟩]
  rfl
 refine yf a ?_
 refine am ⟨.inl I,kq,?_⟩
 refine ⟨⟨m,by simp;omega,aC b 0,.slice _ 0 0,by rw [AS.aZ,iw<|by simp;omega,AS.aN,ip I],.inr I,.inr ⟨c.nx,(1,1),I,oq,iq,oq,by rw [AS.aZ,ip iq];rfl⟩⟩,by simp;omega,λk x=>?_⟩
 rw [AS.aZ,iw<|by simp;omega,AS.aN,iw oq,l k oq]
def UL(a:pr 367=none)(h:0<=r/\r<=127):Ef pr 367 #[.int .i32 r] s (num 1) s:=by exact aH a func367 I<|zs<|aB<|aF<|zr<|zk 1<|zp (bz (u:=.int .i32 r) (w:=.int .i32 0) I kq kq<|eO<|fD oq)<|zf<|za s<|zG<|zr<|zk 1<|zp (bz (u:=.int .i32 r) I kq kq<|cx<|tD h.2)<|zf<|za s<|zH<|zs<|aD ⟨.inr I,kq,kq⟩
def FrI (s s':AS):Prop:=s.nx<=s'.nx/\∀k x p,k<s.nx->s.get k=some (.stringIter x p)->s'.get k=some (.stringIter x p)
theorem QD{x:UInt8}(H:pr 261=none)(I:pr 369=none)(h:BW s N b l)(hl:l.length<=900000):∃v t,Ef pr 369 #[aC b 0,.int .u8 (x.toNat:Int)] s v t/\BW t N b (l++[x])/\kU N s t/\FrI s t:=by
 have⟨T,Z,p,e,X,W,Q⟩:=h;have⟨c,z,Y,C,D⟩:=ud H X W;have a:qU c e l:=by
  rcases Q with h|⟨d,fz,q1,q2,q3,q4,q5⟩
  .exact .inl h
  .exact .inr ⟨d,fz,q1,oq,(D d q4).trans q5⟩
 have P:∀n k,e≠.slice (sq b) n k:=gq
 have K:∀k,k<N->∀n j,e≠.slice (sq k) n j:=gq
 have O:∀k y i,s.get k=some (.stringIter y i)->k≠b/\∀n j,e≠.slice (sq k) n j:=gq
 obtain⟨w,f,M,g,rfl,g1,g2,g3,g4⟩:=K8 (m:=[x]) (a.add<|.cells (qY [x]) 5) iq (by simp;omega);have o:(c.add<|.cells (qY [x]) 5).get c.nx=some (.cells (qY [x]) 5):=by rw[AS.aZ,ip rfl]
 have U:=ng a<|iz c.nx;have R:f.get b=some (.cells #[aC b 0,e] 119):=(g4 b (by simp;omega) P).trans (by rw[AS.aZ,iw oq];exact C);have E:∀k,k<s.nx->k≠b->(∀n j,e≠.slice (sq k) n j)->f.get k=s.get k:=λk r A B=>(g4 k (by simp;omega) B).trans (by rw[AS.aZ,iw oq];exact D k A);have V:s.nx<f.nx:=by simp at g1;omega
 refine pW I func369 rfl<|zs<|zr<|zc 1 z<|am<|za c ?_;have J:∃q n u,e=.slice q n u:=gq
 obtain⟨q,n,u,rfl⟩:=J;refine zr<|zg 4 c<|zp (yl b 1 (.slice q n u) C)<|zg 2 (c.add<|.cells (qY [x]) 5)<|zp (sZ (m:=[x]) (d:=c.nx) (k:=1) rfl kq kq rfl o U iq M)<|zg 2 f ?_;generalize S:(l++[x]).length=L at *;refine zp (ys b 1 (.slice (sq g) L L) R iq)<|am<|za (f.set b<|some<|.cells #[aC b 0,.slice (sq g) L L] 119)<|zs<|za (f.set b<|some<|.cells #[aC b 0,.slice (sq g) L L] 119)<|aD ⟨.inr rfl,.nilIface,kq,⟨T,by simp;omega,_,_,by rw[AS.aN,ip rfl],.inr rfl,.inr ⟨g,(1,1),by rw[S],by simp at g1;omega,by simpa using g2,by simp at g1;omega,by rw[AS.aN,iw gq];exact g3⟩⟩,⟨by simp;omega,λk r=>?_⟩,by simp;omega,λk y i r F=>?_⟩
 .rw[AS.aN,iw oq];exact E k oq oq<|K k r
 .have⟨G,i2⟩:=O k y i F;rw[AS.aN,iw G,E k r G i2];exact F
theorem Kb{c:Int}(J:pr 261=none)(I:pr 180=none)(h:BW s N b l)(K:∀(s:AS) (sl:Value),qU s sl l->∃j,∃w,Ef pr 275 #[sl,.int .i32 c] s w j/\wz s sl l en j w):∃j v,Ef pr 180 #[aC b 0,.int .i32 c] s v j/\BW j N b (l++en)/\kU N s j/\FrI s j:=by
 have⟨V,hb,p,sl,Z,X,S⟩:=h;have⟨f,C,c1,z,A⟩:=ud J Z X;have r:qU f sl l:=by
  rcases S with h|⟨d,fz,q1,q2,q3,q4,q5⟩
  .exact .inl h
  .exact .inr ⟨d,fz,q1,oq,(A d q4).trans q5⟩
 have R:∀n k,sl≠.slice (sq b) n k:=gq
 have O:∀k,k<N->∀n B,sl≠.slice (sq k) n B:=gq
 have M:∃n t,sl=.slice (match sl with|.slice a _ _=>a|_=>none) n t/\n=l.length:=gq
 have Q:∀k y i,s.get k=some (.stringIter y i)->k≠b/\∀n B,sl≠.slice (sq k) n B:=gq
 obtain⟨o,w,P,g,rfl,g1,g2,g3,g4⟩:=K f sl r;have T:=(g4 b oq R).trans z;suffices hh:Ew pr (match f180.body with|some c=>c|none=>.skip) ((#[aC b 0,.int .i32 c]:Aq).toList++List.replicate (f180.ntmps-(#[aC b 0,.int .i32 c]:Aq).toList.length) undef) s (λe u f=>(e=.normal\/e=.ret)/\f=o.set b (some<|.cells #[aC b 0,.slice (sq g) (l++en).length (l++en).length] 119)/\∃w,di prog f180 u f=some w) by
  have⟨m,e,u,H,h1,W,h2,w,h3⟩:=hh;refine⟨H,w,aH I func180 rfl ⟨m,e,u,H,h1,W,h3,rfl⟩,?_,?_,?_⟩
  .rw[h2];refine⟨V,by simp;omega,_,_,by rw[AS.aN,ip rfl],.inr rfl,.inr ⟨g,(1,1),rfl,oq,by simpa using g2,oq,by rw[AS.aN,iw oq];exact g3⟩⟩
  .rw[h2];exact⟨by simp;omega,λk E=>by rw[AS.aN,iw oq,g4 k oq<|O k E,A k oq]⟩
  .rw[h2];exact⟨by simp;omega,λk x p E F=>by have⟨G,i2⟩:=Q k x p F;rw[AS.aN,iw G,g4 k oq i2,A k G];exact F⟩
 refine zs<|zr<|zc 1 C<|am ?_;obtain⟨n,t,U,rfl⟩:=M;generalize Y:(match sl with|.slice a _ _=>a|_=>none)=q at U;clear Y;subst U;refine zr<|zg 3 f<|zp (yl b 1 _ z)<|zf<|za f<|zr<|zg 4 f<|zp (yl b 1 _ z)<|zc 1 P<|zg 2 o ?_;generalize (l++en).length=L;refine zp (ys b 1 (.slice (sq g) L L) T iq)<|am<|za (o.set b<|some<|.cells #[aC b 0,.slice (sq g) L L] 119) ?_;have D:(o.set b<|some<|.cells #[aC b 0,.slice (sq g) L L] 119).get b=some (.cells #[aC b 0,.slice (sq g) L L] 119):=by rw[AS.aN,ip rfl]
 generalize o.set b _=s4 at D;exact zr<|zg 3 s4<|zp (yl b 1 _ D)<|zf<|aD ⟨.inr rfl,kq,.tuple #[.int .i64 (eU .i64<|(L:Int)-(l.length:Int)),.nilIface],kq⟩
def xD(e:pr 261=none)(d:pr 180=none)(f:pr 346=none)(a:pr 275=none)(h:BW s N b l)(m:Good r)(n:l.length<=900000):∃g v,Ef pr 180 #[aC b 0,.int .i32 r] s v g/\BW g N b (l++encodeRune r)/\kU N s g/\FrI s g:=by
 obtain⟨c,rfl,j,k⟩:=sv m;rw[k];refine Kb e d h λ_ _ i=>?_;unfold AQ;split
 .next h1=>exact tV h1 i oq a
 .next h1=>exact wC (j.resolve_left h1) i oq f a
def Yu:List FuncId:=[84,156,180,247,261,272,275,329,346,367,368,369]
structure PrM(pr:Prim):Prop where
 no:∀f,f∈Yu->pr f=none
 acw:pr 344=bP 344
 sub:∀(s:AS) (q:Bq),EF prog kg pr 357 #[str (encodeRune 65533++q)] s (.tuple #[.int .i32 65533,num 3]) s
 kt:∀n:Nat,kg (1000+n)=false
abbrev f247:Value:=.func (.func 247) #[] #[]
def IB(t:Bq)(b it:Nat)(x:Nq):TL:=[f247,str t,x 2,x 3,x 4,aC b 0,x 6,x 7,x 8,x 9,x 10,x 11,x 12,x 13,aC it 0]++gG x 15 70
def GJ(t:Bq)(b it:Nat)(x:Nq):TL:=[f247,str t,x 2,x 3,x 4,aC b 0]++gG x 6 62++[aC it 0]++gG x 69 16
def mn(A:Iq)(l:Int)(B:Iq):aS (A++l::B)=aS A++(encodeRune l++aS B):=by simp[aS]
def rH(A:Iq)(l:Int):aS (A++[l])=aS A++encodeRune l:=by simp[aS]
def Sw(a:pr 368=none)(c:s.get b=some (.cells #[p,aO] 119)):Ef pr 368 #[aC b 0] s (num 0) s:=by exact aH a func368 I<|zs<|zr<|zg 3 s<|zp (yl b 1 aO c)<|zf yR
theorem BW.acJ{y:ByteArray}{i:Nat}{x:Obj}(h:BW s N b l)(c:s.get k=some (.stringIter y i)):BW (s.set k<|some x) N b l:=by
 have⟨h1,h2,p,g,h3,f,U⟩:=h;have a:b≠k:=λe=>gq;refine⟨h1,h2,p,g,by rw[AS.aN,iw a];exact h3,f,?_⟩;rcases U with U|⟨d,fz,q1,q2,q3,q4,q5⟩
 .exact .inl U
 .exact .inr ⟨d,fz,q1,q2,q3,q4,by rw[AS.aN,iw<|λe=>by subst e;rw[q5] at c;cases c];exact q5⟩
theorem Yl(M:PrM pr){ls:Iq}(hg:∀l∈ls,Good l)(hl:ls.length<=100000):∃s1,Ef pr 329 #[f247,str<|aS ls] s (str<|aS<|ls.map eT) s1:=by
 have U:=M.no;have F:∀(S:AS) (l:Int),Good l->Ef pr 247 #[.int .i32 l] S (.int .i32<|eT l) S:=λS l h=>FM (U 247 dq) (by unfold Good at h;omega);have av:=jg ls;obtain⟨A,B,H,hA,hB⟩:∃A B,ls=A++B/\(∀l∈A,eT l=l)/\(B=[]\/∃c g,B=c::g/\65<=c/\c<=90):=by
  clear hg hl av;induction ls with
  | nil=>exact⟨[],[],rfl,by simp,.inl rfl⟩
  | cons l ls ih =>
   by_cases h:65<=l/\l<=90
   .exact⟨[],l::ls,rfl,by simp,.inr ⟨l,ls,rfl,h⟩⟩
   .have⟨A,B,h1,h2,h3⟩:=ih;refine⟨l::A,B,by rw[h1];rfl,λx hx=>?_,h3⟩;rcases oc.1 hx with rfl|hx
    .unfold eT;rw[iw h]
    .exact h2 x hx
 have a7:ls.map eT=A++B.map eT:=by rw[H,Bf,List.map_congr_left hA,List.map_id']
 generalize ht:aS ls=t at av;have hz:=aI s<|.cells #[.pointer none,aO] 119;suffices h:∃v s1,Ef pr 329 #[f247,str t] s v s1/\v=str (aS<|ls.map eT) by grind
 refine pW (U 329 dq) func329 rfl ?_;iterate 2 refine zs ?_
 refine za (s.add<|.cells #[.pointer none,aO] 119) ?_;generalize ax:s.add (.cells #[.pointer none,aO] 119)=o at hz;have bf:o.nx=s.nx+1:=by rw[<-ax];rfl
 refine aB<|zr<|zg 1 o<|zp (zW (l:=t) rfl underlying9 kq<|M.kt _)<|am<|za (qy o t 0)<|aV (IB t s.nx o.nx) kq ?_;intro x0;refine aF<|bn (bw (Q:=λe D f=>e=.exit 0/\((B=[]/\f=qy o t t.length/\∃x,D=IB t s.nx o.nx x)\/(∃c g,B=c::g/\65<=c/\c<=90/\BW f s.nx s.nx (aS A++encodeRune (c+32))/\∃x,D=IB (aS g) s.nx o.nx x))) (λu D f=>∃C w,A=C++w/\u=w.length/\f=qy o t (aS C).length/\∃x,D=IB t s.nx o.nx x) ?_ A.length _ _ ⟨[],A,rfl,rfl,rfl,x0,rfl⟩) ?_
 .rintro u D f ⟨C,w,af,rfl,rfl,x,rfl⟩;cases w with
  | cons l w =>
   have b8:ls=C++l::(w++B):=gq
   have G:t=aS C++(encodeRune l++aS (w++B)):=by rw[<-ht,b8,mn]
   have P:=hg l gq;have hll:=hA l gq;have I:=F (qy o t (aS<|C++[l]).length) l P;rw[hll] at I;have a9:(aS C).length+(encodeRune l).length=(aS<|C++[l]).length:=by rw[rH,lA]
   generalize T:qy o t (aS<|C++[l]).length=a at I;refine zr<|zp (F0 (b:=o.nx) (t:=t) (pre:=aS C) (post:=aS<|w++B) (r:=l) G P rfl kq lD<|M.kt _) ?_;rw[sJ,a9,T];generalize Tz:(aS C).length=E;refine zf<|za a<|aB<|zT<|aF<|zs<|za a<|zr<|zg 2 a<|yc #[] #[] I<|zf<|za a<|aB<|zr<|zk 2<|zp (yb (.int .i32 l) (.int .i32 l)<|dp (b:=true)<|beq_self_eq_true _)<|zk 2<|zp (yb (.int .i32 l) (.int .i32 65533)<|cM (b:=!(l==65533)) rfl) ?_;cases h65:(l==(65533:Int)) with
   | false =>exact zf<|za a<|zH<|aR ⟨w.length,by simp,C++[l],w,by rw[af];simp,rfl,T.symm,bu kq⟩
   | true =>
    obtain rfl:l=65533:=eq_of_beq h65;have hd:=M.sub a<|aS<|w++B;have ao:(t.take t.length).drop E=encodeRune 65533++aS (w++B):=gq
    have be:E<=t.length:=gq
    generalize encodeRune 65533++aS (w++B)=tq at hd ao;exact zf<|za a<|zF<|zs<|aB<|zr<|zf<|za a<|zH<|zr<|zg 2 a<|zp (jr (l:=t) (m:=tq) (i:=E) (j:=t.length) rfl underlying9 kq ((show _=bS t.length t.length (some<|num E) none by kernel_rfl).trans<|ig oq oq) ao)<|zc 0 hd<|zf<|za a<|zr<|zf<|za a<|zH<|aR ⟨w.length,by simp,C++[65533],w,by rw[af];simp,rfl,T.symm,bu kq⟩
  | nil =>
   obtain rfl:A=C:=gq
   rcases hB with rfl|⟨c,g,rfl,aa,ab⟩
   .have G:t=aS A:=by rw[<-ht,H,List.append_nil]
    exact zr<|zp (ut (b:=o.nx) (pos:=(aS A).length) (l:=t) rfl kq lD gq)<|zf<|za (qy o t (aS A).length)<|aB<|zG<|aR ⟨rfl,.inl ⟨rfl,by rw[G],bu kq⟩⟩
   .have G:t=aS A++(encodeRune c++aS g):=by rw[<-ht,H,mn]
    have al:Good c:=.inl ⟨oq,by omega⟩;have V:(encodeRune c).length=1:=by unfold encodeRune;rw[encodeRuneZ_one oq oq];rfl
    have b6:eT c=c+32:=by unfold eT;rw[ip ⟨aa,ab⟩]
    have I:=F (qy o t<|(aS A).length+1) c al;rw[b6] at I;have hZ:(qy o t<|(aS A).length+1).get s.nx=some (.cells #[.pointer none,aO] 119):=by unfold qy;rw[AS.aZ,iw oq];exact hz.2
    have ay:s.nx<(qy o t<|(aS A).length+1).nx:=by show s.nx<o.nx+1;omega
    have ba:=UL (pr:=pr) (s:=qy o t<|(aS A).length+1) (r:=c) (U 367 dq) oq;have⟨R,hgw,hw1,XU⟩:=S7 (pr:=pr) (N:=s.nx) (K:=t.length+3) (U 261 dq) (U 272 dq) M.acw lr ay hZ (.inl rfl) oq;have HK:(aS A).length+(1+(aS g).length)=t.length:=gq
    have⟨S3,bc,aw,bg⟩:=B8 (pr:=pr) (m:=aS A) (U 261 dq) (U 156 dq) hw1 (by simp;omega);rw[List.nil_append] at aw;have⟨S4,v4,hpt,hw5,_,_⟩:=xD (pr:=pr) (r:=c+32) (U 261 dq) (U 180 dq) (U 346 dq) (U 275 dq) aw (.inl ⟨oq,by omega⟩) oq;have X:(t.take (aS A).length).drop 0=aS A:=gq
    have aq:(t.take t.length).drop ((aS A).length+1)=aS g:=by rw[List.take_length,G,<-vt,List.drop_left'<|by rw[lA,V]]
    generalize T:qy o t ((aS A).length+1)=a at *;refine zr<|zp (F0 (b:=o.nx) (t:=t) (pre:=aS A) (post:=aS g) (r:=c) G al rfl kq lD<|M.kt _) ?_;rw[sJ,V,T];generalize aS g=q at *;generalize aS A=tA at *;generalize Tz:tA.length=E at *;exact zf<|za a<|aB<|zT<|aF<|zs<|za a<|zr<|zg 2 a<|yc #[] #[] I<|zf<|za a<|aB<|zr<|zk 2<|zp (yb (.int .i32<|c+32) (.int .i32 c)<|dp (b:=false)<|bF.2 oq)<|zf<|za a<|zF<|zs<|aB<|zr<|zk 1<|zp (yb (.int .i32 c) (.int .i32 65533)<|dp (b:=false)<|bF.2 oq)<|am<|za a<|zG<|zx<|zc 1 ba<|zf<|za a<|zr<|zk 1<|zp (dL (l:=t) rfl underlying9 kq)<|zp (yp t.length 4 ((t.length+3+1:Nat):Int) oq oq)<|zo a<|zc 0 hgw<|am<|za R<|zr<|zk 2<|zo R<|zp (jr (l:=t) (m:=tA) (i:=0) (j:=E) rfl underlying9 kq ((show _=bS t.length t.length none (some<|num E) by kernel_rfl).trans<|nV oq oq) X)<|zc 0 bc<|am<|za S3<|aB<|zr<|zk 1<|zp (yb (.int .i32<|c+32) (.int .i32 0)<|wE (b:=true)<|tD oq)<|am<|za S3<|zH<|zx<|zc 1 hpt<|am<|za S4<|zr<|zk 3<|zp (yp E 1 ((E+1:Nat):Int) oq oq)<|zo S4<|zp (jr (l:=t) (m:=q) (i:=E+1) (j:=t.length) rfl underlying9 kq ((show _=bS t.length t.length (some<|num ((E+1:Nat):Int)) none by kernel_rfl).trans<|ig oq oq) aq)<|zf<|za S4<|aR ⟨rfl,.inr ⟨c,g,rfl,aa,ab,hw5,bu kq⟩⟩
 rintro e D f ⟨rfl,h⟩;rcases h with ⟨rfl,rfl,x,rfl⟩|⟨c,g,rfl,aa,ab,hW,x,rfl⟩
 .have G:ls.map eT=ls:=by rw[a7,H];simp
  have hZ:(qy o t t.length).get s.nx=some (.cells #[.pointer none,aO] 119):=by unfold qy;rw[AS.aZ,iw oq];exact hz.2
  have b4:=Sw (pr:=pr) (U 368 dq) hZ;generalize qy o t t.length=a at *;exact aB<|zr<|zc 0 b4<|zf<|za a<|zH<|zr<|zf<|aD ⟨.inr rfl,str t,kq,by rw[G,ht]⟩
 .have a8:aS (ls.map eT)=aS A++encodeRune (c+32)++aS (g.map eT):=by rw[a7,rj,show eT c=c+32 by unfold eT;rw[ip ⟨aa,ab⟩],mn,vt]
  have bd:ls.length=A.length+(g.length+1):=gq
  have ag:∀n z,g=n++z->(aS A++encodeRune (c+32)++aS (n.map eT)).length<=800000:=λn z e=>by have h1:=jg (A++(c+32)::n.map eT);rw[mn,<-vt] at h1;grind
  have b5:∀l∈g,Good l:=λl h=>hg l gq;have hl0:1<=(aS A++encodeRune (c+32)).length:=by
   have:=encodeRuneZ_length<|c+32;have h2:(encodeRune<|c+32).length=(encodeRuneZ<|c+32).length:=by simp[encodeRune]
   grind
  rw[a8];clear a8 a7;generalize aS A++encodeRune (c+32)=Y at *;have a6:∃k,Ef pr 368 #[aC s.nx 0] f (.map<|some<|k+1) f:=by
   have⟨_,_,p,sl,q1,q2,q3⟩:=hW;rcases q3 with ⟨rfl,rfl⟩|⟨d,fz,rfl,_⟩
   .simp at hl0
   .obtain⟨k,hk⟩:∃k,Y.length=k+1:=⟨Y.length-1,by omega⟩;rw[hk] at q1;exact⟨k,(by exact aH (U 368 dq) func368 I<|zs<|zr<|zg 3 f<|zp (yl s.nx 1 _ q1)<|zf yR)⟩
  have⟨k,a6⟩:=a6;have HK:=jg g;generalize htB:aS g=q at *;refine aB<|zr<|zc 0 a6<|zf<|za f<|zF<|aB<|zr<|zg 1 f<|zp (zW (l:=q) rfl underlying9 kq<|M.kt _)<|am<|za (qy f q 0)<|aV (GJ q s.nx f.nx) kq ?_;intro x1;refine aF<|bn (bw (Q:=λe D S=>e=.exit 2/\BW S s.nx s.nx (Y++aS (g.map eT))/\∃x,D=GJ q s.nx f.nx x) (λu D S=>∃n z,g=n++z/\u=z.length/\BW S s.nx s.nx (Y++aS (n.map eT))/\S.get f.nx=some (.stringIter ⟨q.toArray⟩ (aS n).length)/\f.nx<S.nx/\∃x,D=GJ q s.nx f.nx x) ?_ g.length _ _ ⟨[],g,rfl,rfl,by rw[List.map_nil,show aS []=[] from rfl,List.append_nil];exact hW.add _,lD,by show f.nx<f.nx+1;omega,x1,rfl⟩) ?_
  .rintro u D S ⟨n,z,O,rfl,hb,aj,b9,x,rfl⟩;cases z with
   | nil =>rw[List.append_nil] at O;subst O;exact zr<|zp (ut (b:=f.nx) (pos:=(aS g).length) (l:=q) rfl kq aj gq)<|zf<|za S<|aB<|zG<|aR ⟨rfl,hb,bu kq⟩
   | cons l z =>
    have P:=b5 l gq;have G:q=aS n++(encodeRune l++aS z):=by rw[<-htB,O,mn]
    have a9:(aS n).length+(encodeRune l).length=(aS<|n++[l]).length:=by rw[rH,lA]
    have ak:=hb.acJ aj (x:=.stringIter ⟨q.toArray⟩ (aS<|n++[l]).length);have L:(S.set f.nx<|some<|.stringIter ⟨q.toArray⟩ (aS<|n++[l]).length).get f.nx=some (.stringIter ⟨q.toArray⟩ (aS<|n++[l]).length):=by rw[AS.aN,ip rfl]
    have ai:f.nx<(S.set f.nx<|some<|.stringIter ⟨q.toArray⟩ (aS<|n++[l]).length).nx:=b9;have I:=F (S.set f.nx<|some<|.stringIter ⟨q.toArray⟩ (aS<|n++[l]).length) l P;have W:Good (eT l):=by
     unfold eT;split
     .exact .inl ⟨oq,by omega⟩
     .exact P
    have ah:0<=eT l:=by unfold Good at W;omega
    have ar:aS ((n++[l]).map eT)=aS (n.map eT)++encodeRune (eT l):=by rw[Bf,rj,List.map_nil,rH]
    have az:=ag n (l::z) O;refine zr<|zp (F0 (b:=f.nx) (t:=q) (pre:=aS n) (post:=aS z) (r:=l) G P rfl kq aj<|M.kt _) ?_;rw[a9];generalize S.set f.nx (some<|.stringIter ⟨q.toArray⟩ (aS<|n++[l]).length)=a at *;generalize (aS n).length=E at *;generalize eT l=r at *;refine zf<|za a<|aB<|zT<|aF<|zs<|za a<|zr<|zg 2 a<|yc #[] #[] I<|zf<|za a<|zr<|zk 1<|zp (yb (.int .i32 r) (.int .i32 0)<|wE (b:=true)<|tD ah)<|am<|za a<|zH<|zr<|zk 1 ?_;by_cases J:r<128
    .have⟨v2,R,Z,g1,g2,g3⟩:=QD (pr:=pr) (x:=UInt8.ofNat r.toNat) (U 261 dq) (U 369 dq) ak oq;have he:encodeRune r=[UInt8.ofNat r.toNat]:=by unfold encodeRune;rw[encodeRuneZ_one ah oq];simp
     have au:IntKind.u8.wrap r=(((UInt8.ofNat r.toNat).toNat:Nat):Int):=by rw[IntKind.wrap_u8,UInt8.toNat_ofNat'];omega
     rw[vt,<-he,<-ar] at g1;generalize UInt8.ofNat r.toNat=y at Z au;exact zp (yb (.int .i32 r) (.int .i32 128)<|eO (b:=true)<|tD J)<|am<|za a<|zH<|zx<|zg 1 a<|bU (v:=.int .u8 (y.toNat:Int)) (s1:=a) kq ((show _=some (Value.int .u8<|IntKind.u8.wrap r,a) by kernel_rfl).trans<|by rw[au])<|zo a<|zc 0 Z<|am ⟨z.length,by simp,n++[l],z,by rw[O];simp,rfl,g1,g3.2 _ _ _ ai L,by have:=g3.1;omega,bu kq⟩
    .have⟨R,v2,Z,g1,g2,g3⟩:=xD (pr:=pr) (r:=r) (U 261 dq) (U 180 dq) (U 346 dq) (U 275 dq) ak W oq;rw[vt,<-ar] at g1;exact zp (yb (.int .i32 r) (.int .i32 128)<|eO (b:=false)<|fD J)<|am<|za a<|zG<|zx<|zc 1 Z<|am ⟨z.length,by simp,n++[l],z,by rw[O];simp,rfl,g1,g3.2 _ _ _ ai L,by have:=g3.1;omega,bu kq⟩
  rintro e D S ⟨rfl,hb,x,rfl⟩;have az:=ag g [] iq;have⟨R,h84,_⟩:=xP (pr:=pr) (U 84 dq) hb (λe=>by have:=congrArg List.length e;simp only[lA,List.length_nil] at this;omega) oq;generalize Y++aS (g.map eT)=tx at *;exact zr<|zc 0 h84<|zf<|aD ⟨.inr rfl,str tx,kq,rfl⟩
def se (r:Int):Nat:=if 48<=r/\r<=57 then (r-48).toNat else if 97<=eT r/\eT r<=102 then (eT r-87).toNat else 16
theorem Hl(h:128<=r):se r=16:=by
 have e:eT r=r:=by unfold eT;rw[iw oq]
 unfold se;grind
def jX (base:Nat):Bq->Nat->Nat × Nat
 | [],v=>(v,0)
 | b::l,v=>if se (b.toNat:Int)<base then ((jX base l<|min (v*base+se (b.toNat:Int)) 1114112).1,(jX base l<|min (v*base+se (b.toNat:Int)) 1114112).2+1) else (v,0)
theorem Bp(a:Nat):∀(l:Bq) (v:Nat),v<=1114112->(jX a l v).1<=1114112/\(jX a l v).2<=l.length
 | [],v,h=>⟨h,lr⟩
 | b::l,v,h=>by
  unfold jX;split
  .have:=Bp a l (min (v*a+se b.toNat) 1114112) oq;grind
  .exact⟨h,Nat.zero_le _⟩
def PK:Int->Int
 | 128=>8364
 | 130=>8218
 | 133=>8230
 | 145=>8216
 | 146=>8217
 | 147=>8220
 | 148=>8221
 | 149=>8226
 | 150=>8211
 | 151=>8212
 | 153=>8482
 | v=>v
def Ms (v:Nat):Int:=if v=0\/(55296<=v/\v<=57343)\/1114111<v then 65533 else if 128<=v/\v<=159 then PK v else v
def JL:∀v:Nat,128<=v->v<=159->Good (PK v):=by
 intro v h1 h2;obtain rfl|rfl|rfl|rfl|rfl|rfl|rfl|rfl|rfl|rfl|rfl|rfl|rfl|rfl|rfl|rfl|rfl|rfl|rfl|rfl|rfl|rfl|rfl|rfl|rfl|rfl|rfl|rfl|rfl|rfl|rfl|rfl:v=128\/v=129\/v=130\/v=131\/v=132\/v=133\/v=134\/v=135\/v=136\/v=137\/v=138\/v=139\/v=140\/v=141\/v=142\/v=143\/v=144\/v=145\/v=146\/v=147\/v=148\/v=149\/v=150\/v=151\/v=152\/v=153\/v=154\/v=155\/v=156\/v=157\/v=158\/v=159:=oq
 all_goals exact .inl ⟨dq,dq⟩
section
variable {c:gX}{a:TL}
def MV(d:o.op=.next x true)(i:a.at x=aC b 0)(h:s.get b=some (.stringIter ⟨l.toArray⟩ pos))(g:pos<l.length)(f:kt (1000+l.length)=false) :
  cf P kt c a o s=some (.tuple #[.bool true,num pos,.int .i32 (Utf8.decode ⟨l.toArray⟩ pos).1],s.set b<|some<|.stringIter ⟨l.toArray⟩<|pos+(Utf8.decode ⟨l.toArray⟩ pos).2):=by
 have e:ByteArray.size ⟨l.toArray⟩=l.length:=by simp[ByteArray.size]
 unfold cf;rw[iw (by rw[d];simp[fR]),d];simp only[i,aC,h,e];rw[ip g,iw<|by rw[f];simp];rfl
end
theorem ON(h:128<=b0):128<=(decodeN n b0 b1 b2 b3).1:=by unfold decodeN;grind
def zS:List FuncId:=[84,89,147,156,157,178,180,247,261,262,263,275,331,332,335,339,341,346,370,371,372,384,385]
theorem zD(U:pr 339=none)(r:Int):Ef pr 339 #[.int .i32 r] s (.bool<|decide (48<=r/\r<=57)) s:=by
 refine aH U func339 I<|zs<|zr<|zk 1 ?_;by_cases h1:48<=r
 .refine zp (yb _ (.int .i32 r)<|cx<|tD h1)<|zk 2<|zp (yb (.int .i32 r) (.int .i32 57)<|cx (b:=decide (48<=r/\r<=57)) gq) ?_;exact zf yR
 .rw[fD oq];exact zp (yb _ (.int .i32 r)<|cx<|fD h1)<|zf yR
def Hm(a:∀f,f∈zS->pr f=none)(k : -1<=r/\r<=1114111):Ef pr 384 #[.int .i32 r] s (num (se r:Nat)) s:=by
 have h1:=FM (pr:=pr) (s:=s) (a 247 dq) k;have h2:=zD (pr:=pr) (s:=s) (a 339 dq) r;have h : -1<=eT r/\eT r<=1114111:=by unfold eT;split<;>omega
 unfold se;generalize eT r=w at *;refine aH (a 384 dq) func384 I<|zs<|zr<|zc 1 h1<|zf<|za s<|aB<|aF<|zr<|zc 1 h2 ?_;by_cases c:48<=r/\r<=57
 .rw[tD c,ip c];refine zf<|za s<|zH<|zr<|zg 1 s<|bU (v:=.int .i32<|r-48) (s1:=s) kq ((show _=some (Value.int .i32<|eU .i32<|r-48,s) by kernel_rfl).trans<|by rw[mL oq])<|zo s<|bU (v:=num ((r-48).toNat:Nat)) (s1:=s) kq ((show _=some (Value.int .i64<|eU .i64<|r-48,s) by kernel_rfl).trans<|by rw[show eU .i64 (r-48)=((r-48).toNat:Nat) by unfold eU;simp only;rw[ip oq];omega]) ?_;generalize (r-48).toNat=d;exact zf<|aD ⟨.inr I,kq,kq⟩
 .rw[fD c,iw c];refine zf<|za s<|zG<|zr<|zk 1 ?_;by_cases e:97<=w
  .refine zp (bz (u:=.int .i32 97) (w:=.int .i32 w) I kq kq<|cx (b:=true)<|tD e)<|zk 2 ?_;by_cases g:w<=102
   .rw[ip ⟨e,g⟩];refine zp (bz (u:=.int .i32 w) (w:=.int .i32 102) I kq kq<|cx (b:=true)<|tD g)<|zf<|za s<|zH<|zr<|zg 1 s<|bU (v:=.int .i32<|w-97) (s1:=s) kq ((show _=some (Value.int .i32<|eU .i32<|w-97,s) by kernel_rfl).trans<|by rw[mL oq])<|zo s<|bU (v:=num<|w-97) (s1:=s) kq ((show _=some (Value.int .i64<|eU .i64<|w-97,s) by kernel_rfl).trans<|by rw[show eU .i64 (w-97)=w-97 by unfold eU;simp only;rw[ip oq]])<|zp (jY (i:=w-97) (j:=10) (r:=(((w-87).toNat:Nat):Int)) I kq kq oq oq) ?_;generalize (w-87).toNat=d;exact zf<|aD ⟨.inr I,kq,kq⟩
   .rw[iw oq];exact zp (bz (u:=.int .i32 w) (w:=.int .i32 102) I kq kq<|cx (b:=false)<|fD g)<|zf<|za s<|zF<|zs<|aD ⟨.inr I,kq,kq⟩
  .rw[iw oq];exact zp (bz (u:=.int .i32 97) (w:=.int .i32 w) I kq kq<|cx (b:=false)<|fD e)<|zf<|za s<|zF<|zs<|aD ⟨.inr I,kq,kq⟩
def GL(t:Bq)(base v k b:Nat)(x:Nq):TL:=[str t,num base,x 2,x 3,num v,num k,x 6,x 7,x 8,x 9,aC b 0]++gG x 11 18
theorem MM(z:∀f,f∈zS->pr f=none)(w:∀n:Nat,kg (1000+n)=false){a:Nat}(R:a=10\/a=16)(t:Bq)(P:t.length<=1000000):∃s1,Ef pr 370 #[str t,num a] s (.tuple #[num ((jX a t 0).1:Nat),num ((jX a t 0).2:Nat)]) s1/\kU s.nx s s1:=by
 refine aX (z 370 dq) func370 W<|zs<|aB<|zr<|zg 1 s<|zp (zW (l:=t) W underlying9 kq<|w _)<|am<|za (qy s t 0)<|aV (GL t a 0 0 s.nx) kq ?_;intro M;refine aF<|bn (bw (Q:=λe k S=>e=.exit 0/\kU s.nx s S/\∃x,k=GL t a (jX a t 0).1 (jX a t 0).2 s.nx x) (λu k S=>∃A B v,t=A++B/\u=B.length/\(jX a t 0).1=(jX a B v).1/\(jX a t 0).2=(jX a B v).2+A.length/\v<=1114112/\S=qy s t A.length/\∃x,k=GL t a v A.length s.nx x) ?_ t.length _ _ ⟨[],t,0,W,W,W,W,by omega,W,M,W⟩) ?_
 .rintro u k S ⟨A,B,v,q,rfl,h1,h2,T,rfl,x,rfl⟩;rw[h1,h2];have h:∀j,kU s.nx s (qy s t j):=λj=>kU.add lr;cases B with
  | nil =>rw[List.append_nil] at q;subst q;exact zr<|zp (ut (b:=s.nx) (l:=t) W kq lD lr)<|zf<|za (qy s t t.length)<|aB<|zG<|aR ⟨W,h _,by rw[show jX a [] v=(v,0) from W,Nat.zero_add];exact bu kq⟩
  | cons y B =>
   have H:A.length<t.length:=gq
   have E:t[A.length]?=some y:=gq
   by_cases L:y.toNat<128
   .have p:=Hm (pr:=pr) (s:=qy s t<|A.length+1) z (r:=(y.toNat:Int)) oq;have i:jX a (y::B) v=if se (y.toNat:Int)<a then ((jX a B<|min (v*a+se (y.toNat:Int)) 1114112).1,(jX a B<|min (v*a+se (y.toNat:Int)) 1114112).2+1) else (v,0):=W;generalize se (y.toNat:Int)=d at *;refine zr<|zp (MU (b:=s.nx) (l:=t) (r:=y) W kq lD E L<|w _) ?_;rw[sJ];generalize c:qy s t (A.length+1)=U at *;refine zf<|za U<|aB<|zT<|aF<|zs<|za U<|zr<|zc 1 p<|zf<|za U<|aB<|zr<|zk 2 ?_;by_cases F:d<a
    .rw[ip F] at i;rw[i];refine zp (yb (num d) (num a)<|fQ (b:=false)<|fD oq)<|am<|za U<|zF ?_;have G:(v:Int)*(a:Nat)<=17825792/\0<=(v:Int)*(a:Nat):=gq
     have D:(if (1114112:Int)<(v:Int)*(a:Nat)+(d:Nat) then 1114112 else (v:Int)*(a:Nat)+(d:Nat))=((min (v*a+d) 1114112:Nat):Int):=gq
     generalize I:(v:Int)*(a:Nat)=o at G D;have J:min (v*a+d) 1114112<=1114112:=oq
     generalize O:min (v*a+d) 1114112=C at *;refine zr<|zk 2<|zo U<|bU (v:=num o) (s1:=U) kq ((show _=some (num<|IntKind.i64.wrap<|(v:Int)*(a:Nat),U) by kernel_rfl).trans<|by rw[I,R2 oq])<|zk 1<|zp (yp o (d:Nat) (o+(d:Nat)) W gq)<|zo U<|bU (v:=num C) (s1:=U) kq ((show _=some (num<|if (1114112:Int)<o+(d:Nat) then 1114112 else o+(d:Nat),U) by kernel_rfl).trans<|by rw[D])<|zf<|za U<|zx<|zk 1<|zp (yp A.length 1 ((A.length+1:Nat):Int) oq oq)<|zf ?_;have g:(A++[y]).length=A.length+1:=iq
     exact⟨B.length,by simp,A++[y],B,C,by rw[q];simp,W,W,by rw[g];show(jX a B C).2+1+A.length=_;omega,J,by rw[g];exact c.symm,by rw[g];exact bu kq⟩
    .rw[iw F] at i;rw[i,Nat.zero_add];exact zp (yb (num d) (num a)<|fQ (b:=true)<|tD oq)<|am<|za U<|zH<|aR ⟨W,by rw[<-c];exact h _,bu kq⟩
   .have N:128<=(Utf8.decode ⟨t.toArray⟩ (List.length A)).1/\(Utf8.decode ⟨t.toArray⟩ (List.length A)).1<=1114111:=by rw[<-decodeL_drop];refine⟨?_,decodeL_rune _⟩;rw[decodeL_N];refine ON ?_;grind
    have i:jX a (y::B) v=(v,0):=by
     have:¬se (y.toNat:Int)<a:=by rw[Hl oq];omega
     unfold jX;rw[iw this]
    rw[i,Nat.zero_add];have p:=Hm (pr:=pr) (s:=qy s t<|A.length+(Utf8.decode ⟨t.toArray⟩ A.length).2) z (r:=((Utf8.decode ⟨t.toArray⟩ A.length).1:Nat)) oq;have m:se ((Utf8.decode ⟨t.toArray⟩ A.length).1:Nat)=16:=Hl oq;rw[m] at p;refine zr<|zp (MV (b:=s.nx) (l:=t) W kq lD H<|w _) ?_;rw[sJ];generalize (Utf8.decode ⟨t.toArray⟩ A.length).1=V at *;generalize c:qy s t _=U at *;exact zf<|za U<|aB<|zT<|aF<|zs<|za U<|zr<|zc 1 p<|zf<|za U<|aB<|zr<|zk 2<|zp (yb (num 16) (num a)<|fQ (b:=true)<|tD oq)<|am<|za U<|zH<|aR ⟨W,by rw[<-c];exact h _,bu kq⟩
 rintro e k S ⟨rfl,K,x,rfl⟩;generalize (jX a t 0).1=v;generalize (jX a t 0).2=n;exact zs<|za S<|aD ⟨.inr W,kq,K⟩
def Vn(a:pr 335=none)(c:v<=1114112):Ef pr 335 #[.int .i32 (v:Int)] s (.bool<|decide (¬((55296<=v/\v<=57343)\/1114111<v))) s:=by
 refine aH a func335 I<|zs<|aB<|aF<|zr<|zk 1<|zp (bz (u:=.int .i32 0) (w:=.int .i32 (v:Int)) I kq kq<|cx<|tD oq)<|zk 2 ?_;by_cases h1:v<55296
 .rw[tD oq];exact zp (bz (u:=.int .i32 (v:Int)) (w:=.int .i32 55296) I kq kq<|eO<|tD oq)<|zf<|za s<|zH<|zs<|aD ⟨.inr I,kq,kq⟩
 .refine zp (bz (u:=.int .i32 (v:Int)) (w:=.int .i32 55296) I kq kq<|eO<|fD oq)<|zf<|za s<|zG<|zr<|zk 1 ?_;by_cases h2:57343<v
  .refine zp (bz (u:=.int .i32 57343) (w:=.int .i32 (v:Int)) I kq kq<|eO<|tD oq)<|zk 2 ?_;by_cases h3:v<=1114111
   .rw[tD oq];exact zp (bz (u:=.int .i32 (v:Int)) (w:=.int .i32 1114111) I kq kq<|cx<|tD oq)<|zf<|za s<|zH<|zs<|aD ⟨.inr I,kq,kq⟩
   .rw[fD oq];exact zp (bz (u:=.int .i32 (v:Int)) (w:=.int .i32 1114111) I kq kq<|cx<|fD oq)<|zf<|za s<|zF<|zs<|aD ⟨.inr I,kq,kq⟩
  .rw[fD oq];exact zp (bz (u:=.int .i32 57343) (w:=.int .i32 (v:Int)) I kq kq<|eO<|fD oq)<|zf<|za s<|zF<|zs<|aD ⟨.inr I,kq,kq⟩
def Mv(a:∀f,f∈zS->pr f=none)(i:v<=1114112):Ef pr 371 #[num v] s (.int .i32<|Ms v) s:=by
 unfold Ms;refine aH (a 371 dq) func371 I<|zs<|zr<|zg 1 s<|bU (v:=.int .i32 (v:Int)) (s1:=s) kq ((show _=some (Value.int .i32<|eU .i32 (v:Int),s) by kernel_rfl).trans<|by rw[mL oq])<|zf<|za s<|aB<|aF<|zr<|zk 1 ?_;by_cases h:v=0
 .subst h;rw[ip (.inl I)];exact zf<|za s<|zH<|zs<|aD ⟨.inr I,kq,kq⟩
 .refine zp (bz (u:=num v) (w:=num 0) I kq kq<|cW (b:=false)<|bF.2 oq)<|zk 2 ?_;have d:Ef pr 335 #[.int .i32 (v:Int)] s _ s:=Vn (a 335 dq) i;refine zo s<|zc 0 d ?_;by_cases c:(55296<=v/\v<=57343)\/1114111<v
  .rw[fD (λz=>z c),ip<|.inr c];exact zf<|za s<|zH<|zs<|aD ⟨.inr I,kq,kq⟩
  .rw[tD c,iw oq];refine zf<|za s<|zG<|zr<|zk 1 ?_;by_cases h3:128<=v
   .refine zp (bz (u:=num 128) (w:=num v) I kq kq<|vQ (b:=true)<|tD oq)<|zk 2 ?_;by_cases e:v<=159
    .rw[ip ⟨h3,e⟩];have g:Ef pr 385 #[.int .i32 (v:Nat)] s (.int .i32<|PK v) s:=by
      have b:=a 385 dq;obtain rfl|rfl|rfl|rfl|rfl|rfl|rfl|rfl|rfl|rfl|rfl|rfl|rfl|rfl|rfl|rfl|rfl|rfl|rfl|rfl|rfl|rfl|rfl|rfl|rfl|rfl|rfl|rfl|rfl|rfl|rfl|rfl:v=128\/v=129\/v=130\/v=131\/v=132\/v=133\/v=134\/v=135\/v=136\/v=137\/v=138\/v=139\/v=140\/v=141\/v=142\/v=143\/v=144\/v=145\/v=146\/v=147\/v=148\/v=149\/v=150\/v=151\/v=152\/v=153\/v=154\/v=155\/v=156\/v=157\/v=158\/v=159:=oq
      all_goals exact iQ 30<|by unfold ck;rw[b];kernel_rfl
     generalize PK v=j at g;exact zp (bz (u:=num v) (w:=num 159) I kq kq<|vQ (b:=true)<|tD oq)<|zf<|za s<|zH<|zr<|zc 1 g<|zf<|aD ⟨.inr I,kq,kq⟩
    .rw[iw oq];exact zp (bz (u:=num v) (w:=num 159) I kq kq<|vQ (b:=false)<|fD oq)<|zf<|za s<|zF<|zs<|aD ⟨.inr I,kq,kq⟩
   .rw[iw oq];exact zp (bz (u:=num 128) (w:=num v) I kq kq<|vQ (b:=false)<|fD oq)<|zf<|za s<|zF<|zs<|aD ⟨.inr I,kq,kq⟩
def wZ (c:UInt8):Bq->Bool
 | []=>false
 | y::_=>y.toNat.beq c.toNat
def HD(c:UInt8)(t:Bq):(decide (([c]:Bq).length<=t.length)&&cZ (t.take ([c]:Bq).length) [c])=wZ c t:=by
 cases t with
 | nil=>rfl
 | cons y t =>show(decide _&&(if y.toNat.beq c.toNat then cZ [] [] else false))=y.toNat.beq c.toNat;cases y.toNat.beq c.toNat<;>simp[cZ]
def wU (t:Bq):Nat:=bif wZ 120 t||wZ 88 t then 1 else 0
def E7 (t:Bq):Nat:=bif wZ 120 t||wZ 88 t then 16 else 10
def jo(t:Bq):Int × Nat :=
 if (jX (E7 t) (t.drop<|wU t) 0).2=0 then (0,0)
 else (Ms (jX (E7 t) (t.drop<|wU t) 0).1,(jX (E7 t) (t.drop<|wU t) 0).2+wU t+bif wZ 59 (t.drop<|(jX (E7 t) (t.drop<|wU t) 0).2+wU t) then 1 else 0)
def vZ(h:wZ c t=true):1<=t.length:=by
 cases t with
 | nil=>cases h
 | cons y t=>simp
def SX(t:Bq):wU t<=t.length/\wU t<=1:=by
 unfold wU;cases h:wZ 120 t||wZ 88 t with
 | false=>exact⟨Nat.zero_le _,Nat.zero_le _⟩
 | true =>rw[G6] at h;rcases h with h|h<;>exact⟨vZ h,lr⟩
theorem ML(t:Bq):(jX (E7 t) (t.drop<|wU t) 0).2+wU t<=t.length:=by have h1:=(Bp (E7 t) (t.drop<|wU t) 0 oq).2;have h2:=SX t;grind
theorem y5(t:Bq):(jo t).2<=t.length:=by
 unfold jo;split
 .exact Nat.zero_le _
 .cases h:wZ 59 _ with
  | false=>exact (ML t)
  | true =>have:=vZ h;grind
def UX(t:Bq)(bs fr:Nat)(x:Nq):TL:=[str t,x 1,x 2,x 3,num bs,num fr]++gG x 6 29
def BG(eo:∀f,f∈zS->pr f=none)(c:UInt8)(t:Bq):Ef pr 89 #[str t,str [c]] s (.bool<|wZ c t) s:=uT (eo 178 dq) (eo 89 dq)<|HD c t
theorem OE(U:∀f,f∈zS->pr f=none)(D:∀n:Nat,kg (1000+n)=false)(t:Bq)(I:t.length<=1000000):∃B,Ef pr 332 #[str t] s (.tuple #[.int .i32 (jo t).1,num ((jo t).2:Nat)]) B/\kU s.nx s B:=by
 have E:=ML t;have h:=(Bp (E7 t) (t.drop<|wU t) 0 oq).1;have r:E7 t=10\/E7 t=16:=by unfold E7;cases wZ 120 t||wZ 88 t<;>simp
 have⟨a,y,q⟩:=MM (pr:=pr) (s:=s) U D r (t.drop<|wU t) gq;have p:=BG (pr:=pr) (s:=s) U 120 t;have o:=BG (pr:=pr) (s:=s) U 88 t;refine aX (U 332 dq) func332 W ?_;iterate 2 refine zs ?_
 refine aB<|bn (Q:=λe w A=>e=.normal/\s=A/\∃x,w=UX t (E7 t) (wU t) x) ?_ ?_
 .unfold E7 wU;refine zr ?_;cases h1:wZ 120 t with
  | true =>rw[h1] at p;exact zc 1 p<|zf<|za s<|zH<|zx<|zf ⟨W,kq,bu kq⟩
  | false =>
   rw[h1] at p;refine zc 1 p ?_;cases h2:wZ 88 t with
   | true =>rw[h2] at o;exact zc 2 o<|zf<|za s<|zH<|zx<|zf ⟨W,kq,bu kq⟩
   | false =>rw[h2] at o;exact zc 2 o<|zf<|za s<|zF ⟨W,W,bu kq⟩
 rintro e w A ⟨rfl,rfl,x,rfl⟩;unfold jo;have g:=BG (pr:=pr) (s:=a) U 59<|t.drop<|(jX (E7 t) (t.drop<|wU t) 0).2+wU t;have d:=Mv (pr:=pr) (s:=a) U h;have u:(t.take t.length).drop (wU t)=t.drop (wU t):=gq
 have C:∀k,(t.take t.length).drop k=t.drop k:=λk=>by rw[List.take_length]
 generalize jX (E7 t) (t.drop<|wU t) 0=H at *;have⟨v,n⟩:=H;simp only at E h g d y |-;generalize t.drop (wU t)=G at *;generalize E7 t=J at *;generalize wU t=c at *;refine zr<|zg 2 s<|zp (jr (l:=t) (m:=G) (i:=c) W underlying9 kq ((show _=bS t.length t.length (some<|num c) none by kernel_rfl).trans<|ig oq oq) u)<|zc 1 y<|zf<|za a<|aB<|zr<|zk 1 ?_;by_cases z:n=0
 .subst z;rw[ip W];exact zf<|za a<|zH<|zr<|zf<|za a<|aD ⟨.inr W,kq,q⟩
 .rw[iw z];refine zp (yb (num n) (num 0)<|cW<|bF.2 oq)<|am<|za a<|zF<|zr<|zk 2<|zp (yp n (c:Nat) ((n+c:Nat):Int) oq oq)<|zf<|za a<|aB<|zr<|zg 2 a<|zp (jr (l:=t) (i:=n+c) W underlying9 kq ((show _=bS t.length t.length (some<|num ((n+c:Nat):Int)) none by kernel_rfl).trans<|ig oq oq)<|C _)<|zc 0 g ?_;generalize wZ 59 (t.drop<|n+c)=F at *;generalize Ms v=K at *;cases F with
  | true =>exact am<|za a<|zH<|zx<|zk 1<|zp (yp ((n+c:Nat):Int) 1 ((n+c+1:Nat):Int) oq oq)<|zf<|za a<|zr<|zc 1 d<|zf<|za a<|aD ⟨.inr W,kq,q⟩
  | false =>exact am<|za a<|zF<|zr<|zc 1 d<|zf<|za a<|aD ⟨.inr W,kq,q⟩
def oY(r:Bq)(w:Int):Bool:=(w==0)||match r with
 | []=>true
 | y::_=>!mP (y.toNat:Int)&&!decide (48<=(y.toNat:Int)/\(y.toNat:Int)<=57)&&(y.toNat:Int) != 61
def nk (k:Nat):ByteArray × Int × Bool:=SL.getD k (⟨#[]⟩,0,false)
def EY (k:Nat):Bq:=(nk k).1.data.toList
theorem PO{kt:TypeId->Bool}{c:gX}{a:TL}{o:Oper}{i:Operand}(U:o.op=.index 335 x i)(b:a.at x=.agg dy.toArray)(hi:a.at i=num k)(d:k<18):cf prog kt c a o s=some (.agg (LO<|nk k).toArray,s):=by
 refine eG (by rw[U];rfl) gq ?_;unfold cI;rw[U];unfold vA;rw[U];have h1:(Op.index 335 x i).operands.toList.all (λx=>q9<|a.at x)=true:=by show(q9 (a.at x)&&(q9 (a.at i)&&true))=true;rw[b,hi];kernel_rfl
 rw[ip h1];have h2:Vm (iy prog<|execOp a.at o)=some (.agg (LO<|nk k).toArray):=by
  unfold execOp;rw[U];simp only[b,hi];obtain rfl|rfl|rfl|rfl|rfl|rfl|rfl|rfl|rfl|rfl|rfl|rfl|rfl|rfl|rfl|rfl|rfl|rfl:k=0\/k=1\/k=2\/k=3\/k=4\/k=5\/k=6\/k=7\/k=8\/k=9\/k=10\/k=11\/k=12\/k=13\/k=14\/k=15\/k=16\/k=17:=oq
  all_goals kernel_rfl
 rw[h2];exact ip<|show q9 _=true from I
def vz (t:Bq)(w:Int):Nat->Nat->Int × Nat->Int × Nat
 | 0,_,a=>a
 | n+1,k,a=>match o9 (EY k) t with
  | none=>vz t w n (k+1) a
  | some r=>bif wZ 59 r then ((nk k).2.1,(EY k).length+1) else bif (nk k).2.2&&(decide (a.2<(EY k).length)&&oY r w) then vz t w n (k+1) ((nk k).2.1,(EY k).length) else vz t w n (k+1) a
def sj (t:Bq)(w:Int):Int × Nat:=vz t w 18 0 (38,0)
def Pz:∀k,k<18->(EY k).length<=10:=dq
def MJ:List FuncId:=[89,147,178,247,269,339,340,372]
abbrev SD(k:Nat):Obj:=.cells (LO<|nk k).toArray 334
def Ei(t:Bq)(w l:Int)(n k:Nat)(x:Nq):TL:=[str t,num w,x 2,x 3,.int .i32 l,num n,x 6,x 7,x 8,x 9,.agg dy.toArray,num k]++gG x 12 44
def Sz(a:pr 178=none)(c:pr 340=none)(b:pr 269=none)(l p:Bq):Ef pr 269 #[str l,str p] s (.tuple #[str ((o9 p l).getD l),.bool (o9 p l).isSome]) s:=by
 cases h:o9 p l with
 | none=>exact sb a c b<|.inl ⟨I,qa h,I⟩
 | some r=>exact sb a c b<|.inr ⟨I,nj h⟩
def Py(eo:∀f,f∈MJ->pr f=none)(t:Bq)(w:Int){c:Code}(hc:c=(match f333.body with|some (.seq _ (.seq _ (.seq (.seq _ (.block _ (.loop b))) _)))=>b|_=>.skip)) :
  ∀x,Ew pr (.loop c) (Ei t w 38 0 0 x) s (λe a' S=>kU s.nx s S/\(e=.exit 0\/e=.ret)/\∃k x,a'=Ei t w (sj t w).1 (sj t w).2 k x):=by
 intro x0;refine bw (λu a' S=>∃k l n,u+k=18/\vz t w u k (l,n)=sj t w/\n<=10/\kU s.nx s S/\∃x,a'=Ei t w l n k x) ?_ 18 _ _ ⟨0,38,0,rfl,rfl,oq,kU.refl,x0,rfl⟩;rintro u a' S ⟨k,l,n,hu,hn,Tx,hf,x,rfl⟩;subst hc;by_cases hk:k<18
 .obtain⟨u,rfl⟩:∃v,u=v+1:=⟨u-1,oq⟩;have uh:vz t w (u+1) k (l,n)=match o9 (EY k) t with
   | none=>vz t w u (k+1) (l,n)
   | some r=>bif wZ 59 r then ((nk k).2.1,(EY k).length+1) else bif (nk k).2.2&&(decide (n<(EY k).length)&&oY r w) then vz t w u (k+1) ((nk k).2.1,(EY k).length) else vz t w u (k+1) (l,n):=rfl
  rw[hn] at uh;clear hn;have hz:=aI S (.cells #[str [],.int .i32 0,.bool false] 334);have hN:=aI S (SD k);have Ri:kU s.nx s (S.add (SD k)):=hf.trans (kU.add (by have:=hf.1;omega));have hZs:=AS.set_set (⟨S.hp,S.nx+1⟩:AS) S.nx (some (.cells #[str [],.int .i32 0,.bool false] 334)) (some (SD k));have Tj:=Sz (pr:=pr) (s:=S.add (SD k)) (eo 178 dq) (eo 340 dq) (eo 269 dq) t (EY k);have VS:=Pz k hk;have hN:Has (S.add (SD k)) S.nx (.cells #[str (EY k),.int .i32 (nk k).2.1,.bool (nk k).2.2] 334):=hN;have hZs:(S.add _).set S.nx (some (.cells #[str (EY k),.int .i32 (nk k).2.1,.bool (nk k).2.2] 334))=S.add (SD k):=hZs;have hix:∀{c:gX} {a:TL} {o:Oper} {y i:Operand},o.op=.index 335 y i->a.at y=.agg dy.toArray->a.at i=num k->cf prog kg c a o S=some _:=λh1 h2 h3=>PO h1 h2 h3 hk;generalize EY k=nm at *;generalize (nk k).2.1=el at *;generalize (nk k).2.2=eb at *;generalize S.add (SD k)=S1 at *;refine zr (zk 0 (zp (yb (num k) (num 18) (bE (b:=true) (tD oq))) (am (za S (aB (zT (aB (aF (zr (zp (hix rfl kq kq) (zg 1 _ (zp (eX (b:=S.nx) (off:=0) (w:=.agg #[str nm,.int .i32 el,.bool eb]) rfl kq kq rfl rfl kq hz.2 iq) (am (za ((S.add (.cells #[str [],.int .i32 0,.bool false] 334)).set S.nx (some (.cells #[str nm,.int .i32 el,.bool eb] 334))) ?_))))))))))))));rw[hZs];refine zr (zg 2 S1 (zp (yl S.nx 0 (str nm) hN.2) (zc 0 Tj ?_)));cases hcr:o9 nm t with
  | none =>rw[hcr] at uh;simp only at uh;exact zf (za S1 (aF (zr (zf (za S1 (zT (zx (zp (yp k 1 ((k+1:Nat):Int) oq oq) (zf (⟨u,oq,k+1,l,n,oq,uh.symm,Tx,Ri,bu kq⟩))))))))))
  | some r =>
   rw[hcr] at uh;simp only at uh;have hba:Ef pr 372 #[str r,num w] S1 (.bool<|oY r w) S1:=by
    refine aH (eo 372 dq) func372 I<|zs<|aB<|zr<|zk 1<|zp (bz (u:=num w) (w:=num 0) I kq kq<|cW (b:=w==0) I) ?_;cases hw:(w==(0:Int)) with
    | true =>rw[show oY r w=true by unfold oY;rw[hw];rfl];exact zf<|za S1<|zH<|zs<|aD ⟨.inr I,kq,kq⟩
    | false =>
     cases r with
     | nil =>rw[show oY [] w=true by unfold oY;rw[hw];rfl];exact zf<|za S1<|zH<|zs<|aD ⟨.inr I,kq,kq⟩
     | cons y r =>
      rw[show oY (y::r) w=(!mP (y.toNat:Int)&&!decide (48<=(y.toNat:Int)/\(y.toNat:Int)<=57)&&(y.toNat:Int) != 61) by unfold oY;rw[hw];rfl];have g:=rh (pr:=pr) (s:=S1) (eo 147 dq) (eo 247 dq) (l:=(y.toNat:Int)) (by have:=y.toNat_lt;omega);have f:=zD (pr:=pr) (s:=S1) (eo 339 dq) (y.toNat:Int);have o:=y.toNat_lt;refine zf<|za S1<|zF<|zr<|zk 1<|zp (li (l:=y::r) (k:=.i64) (n:=0) (b:=y) I underlying9 kq kq oq I) ?_;generalize j:(y.toNat:Int)=yn at *;refine zo S1<|bU (v:=.int .i32 yn) (s1:=S1) kq ((show _=some (Value.int .i32<|eU .i32 yn,S1) by kernel_rfl).trans<|by rw[mL oq])<|zf<|za S1<|zr<|zc 1 g ?_;generalize mP yn=h at *;generalize decide (48<=yn/\yn<=57)=i at *;cases h with
      | true =>exact zf<|aD ⟨.inr I,kq,kq⟩
      | false =>
       refine zc 3 f ?_;cases i with
       | true =>exact zf<|aD ⟨.inr I,kq,kq⟩
       | false =>refine zk 4<|zp (bz (u:=.int .i32 yn) (w:=.int .i32 61) I kq kq<|cM (b:=yn != 61) I) ?_;generalize (yn != (61:Int))=m;exact zf<|aD ⟨.inr I,kq,kq⟩
   have l1:=gW 21 hN.2 (off:=1) rfl;have l2:=gW 9 hN.2 (off:=0) rfl;refine zf (za S1 (aF (zr (zf (za S1 (zG (zr (zc 1 (uT (pr:=pr) (s:=S1) (eo 178 dq) (eo 89 dq) (HD 59 r)) ?_))))))));cases h59:wZ 59 r with
   | true =>
    rw[h59] at uh;have uh:=uh;rw[uh];exact zf (za S1 (zH (aB (aP kq kq kq (zq (zt S1 (zu (yl S.nx 1 (.int .i32 el) hN.2) (zq (zt S1 (zu (yl S.nx 0 (str nm) hN.2) (zu (dL (l:=nm) rfl underlying9 kq) (zu (yp nm.length 1 ((nm.length+1:Nat):Int) oq oq) (zq<|zq (bq ⟨kN<|jT l1 l2,_,_,_,_,_,_,rfl,rfl,za S1 (aD ⟨Ri,.inr rfl,k,bu kq⟩)⟩))))))))))))))
   | false =>
    rw[h59] at uh;have uh:=uh;refine zf (za S1 (zG (zr (zg 1 S1 (zp (yl S.nx 2 (.bool eb) hN.2) ?_)))));cases eb with
    | false =>exact zf<|za S1 (zF (zx (zp (yp k 1 ((k+1:Nat):Int) oq oq) (zf (⟨u,oq,k+1,l,n,oq,uh.symm,Tx,Ri,bu kq⟩)))))
    | true =>
     refine zg 2 S1 (zp (yl S.nx 0 (str nm) hN.2) (zp (dL (l:=nm) rfl underlying9 kq) (zk 1 ?_)));by_cases mH:n<nm.length
     .rw[tD mH] at uh;refine zp (yb (num nm.length) (num n) (fA (b:=true) (tD oq))) (zo S1 (zc 4 hba ?_));cases hbk:oY r w with
      | true =>
       rw[hbk] at uh;have uh:=uh;exact zf (za S1 (zH (aP kq kq kq (zq (zt S1 (zu (yl S.nx 1 (.int .i32 el) hN.2) (zq (zt S1 (zu (yl S.nx 0 (str nm) hN.2) (zu (dL (l:=nm) rfl underlying9 kq) (zq<|zq (bq ⟨kN<|jT l1 l2,_,_,_,_,_,_,rfl,rfl,za S1 (zx (zp (yp k 1 ((k+1:Nat):Int) oq oq) (zf (⟨u,oq,k+1,el,nm.length,oq,uh.symm,VS,Ri,bu kq⟩))))⟩))))))))))))
      | false =>rw[hbk] at uh;have uh:=uh;exact zf (za S1 (zF (zx (zp (yp k 1 ((k+1:Nat):Int) oq oq) (zf (⟨u,oq,k+1,l,n,oq,uh.symm,Tx,Ri,bu kq⟩))))))
     .rw[fD mH] at uh;have uh:=uh;exact zp (yb (num nm.length) (num n) (fA (b:=false) (fD oq))) (zf (za S1 (zF (zx (zp (yp k 1 ((k+1:Nat):Int) oq oq) (zf (⟨u,oq,k+1,l,n,oq,uh.symm,Tx,Ri,bu kq⟩)))))))
 .obtain rfl:u=0:=oq
  have hn:(l,n)=sj t w:=hn;rw[<-hn];exact zr (zp (yb (num k) (num 18) (bE (b:=false) (fD oq))) (am (za S (aB (zG (aR ⟨hf,.inl rfl,k,bu kq⟩))))))
structure QP(pr:Prim):Prop where
 no:∀f,f∈zS->pr f=none
 MZ:pr 373=bP 373
 nm:∀(s:AS) (t:Bq) (w:Int),s.get 1=some (.cells dy.toArray 335)->EF prog kg pr 333 #[str t,num w] s (.tuple #[.int .i32 (sj t w).1,num ((sj t w).2:Nat)]) s
 kt:∀n:Nat,kg (1000+n)=false
def lk (t:Bq)(w:Int):Int × Nat:=bif wZ 35 t then (if (jo<|t.drop 1).2=0 then (38,0) else ((jo<|t.drop 1).1,(jo<|t.drop 1).2+1)) else sj t w
def yC (c:UInt8):Bq->Option (Bq × Bq)
 | []=>none
 | y::l=>if y=c then some ([],l) else (yC c l).map λp=>(y::p.1,p.2)
theorem Hh{c:UInt8}:∀{l:Bq},yC c l=none->c∉l
 | [],_=>iq
 | y::l,h=>by
  unfold yC at h;split at h
  .cases h
  .next U =>have:=Hh (by simpa using h);grind
theorem wN{c:UInt8}:∀{l a b:Bq},yC c l=some (a,b)->c∉a/\l=a++c::b
 | [],a,b,h=>by cases h
 | y::l,a,b,h=>by
  unfold yC at h;split at h
  .grind
  .next hy =>
   cases U:yC c l with
   | none=>rw[U] at h;cases h
   | some p =>rw[U] at h;cases h;have⟨h1,h2⟩:=wN U;grind
def Vt:Nat->Bq->Int->Bq
 | 0,_,_=>[]
 | n+1,t,w=>match yC 38 t with
  | none=>t
  | some p=>p.1++(encodeRune (lk p.2 w).1++Vt n (p.2.drop (lk p.2 w).2) w)
def KP (t:Bq)(w:Int):Bq:=Vt (t.length+1) t w
theorem IW:∀(n:Nat) (t:Bq) (w:Int),(Vt n t w).length<=4*t.length
 | 0,t,w=>Nat.zero_le _
 | n+1,t,w=>by
  unfold Vt;cases h:yC 38 t with
  | none=>show t.length<=_;omega
  | some p =>
   have⟨_,h2⟩:=wN h;have h3:=IW n (p.2.drop (lk p.2 w).2) w;have c:=encodeRuneZ_length (lk p.2 w).1;have d:(encodeRune (lk p.2 w).1).length=(encodeRuneZ (lk p.2 w).1).length:=by simp[encodeRune]
   grind
theorem vU(t:Bq)(w:Int):∀(n k:Nat) (a:Int × Nat),k+n<=18->Good a.1->a.2<=t.length->Good (vz t w n k a).1/\(vz t w n k a).2<=t.length
 | 0,k,a,hk,h1,h2=>⟨h1,h2⟩
 | n+1,k,a,hk,h1,h2=>by
  have U:Good (nk k).2.1:=by
   have:∀j,j<18->(0<=(nk j).2.1/\(nk j).2.1<55296):=dq
   exact .inl<|this k oq
  unfold vz;cases hc:o9 _ t with
  | none=>exact vU t w n (k+1) a oq h1 h2
  | some r =>
   have b:t.length=(EY k).length+r.length:=by rw[nj hc];simp
   simp only;cases hh:wZ 59 r with
   | true=>exact⟨U,by have:=vZ hh;show(EY k).length+1<=_;omega⟩
   | false =>
    cases (nk k).2.2&&(decide (a.2<(EY k).length)&&oY r w) with
    | true=>exact vU t w n (k+1) _ oq U gq
    | false=>exact vU t w n (k+1) a oq h1 h2
def RL(t:Bq)(w:Int)(b:Nat)(x:Nq):TL:=[str t,num w,x 2,x 3,x 4,aC b 0]++gG x 6 27
def BW.Hy(h:BW s N b l)(c:kU s.nx s s'):BW s' N b l:=by
 have⟨h1,h2,p,f,h3,e,a⟩:=h;have g:=c.1;refine⟨h1,oq,p,f,(c.2 b h2).trans h3,e,?_⟩;rcases a with a|⟨d,fz,q1,q2,q3,q4,q5⟩
 .exact .inl a
 .exact .inr ⟨d,fz,q1,q2,oq,q4,(c.2 d q3).trans q5⟩
def HR(a:QP pr)(l:Bq)(c:UInt8):Ef pr 341 #[str l,str [c]] s (num<|if cZ [c] l=true then 0 else km c.toNat l 0) s:=by
 have d:Ef pr 373 #[str l,.int .u8 (c.toNat:Int)] s (num<|km c.toNat l 0) s:=by obtain⟨g,b⟩:∃g,bP 373=some g:=⟨_,I⟩;have i:=iQ (P:=prog) (kt:=kg) (pr:=bP) (f:=373) (args:=#[str l,.int .u8 c.toNat]) (s:=s) (v:=num<|km ((c.toNat:Int).toNat % 256) l 0) (s':=s) 1 kq;rw[toNat_mod] at i;have⟨m,i⟩:=i;refine gp (a.MZ.trans b) ?_;unfold ck at i;rw[b] at i;exact i
 refine aH (a.no 341 dq) func341 I ?_;iterate 2 refine zs ?_
 refine aB<|aF<|zr<|zk 5<|zp (bz (u:=str [c]) (w:=str l) I kq kq<|lw (b:=cZ [c] l) I) ?_;cases h:cZ [c] l with
 | true =>rw[ip I];exact zf<|za s<|zH<|zs<|aD ⟨.inr I,kq,kq⟩
 | false =>rw[iw dq];exact zf<|za s<|zG<|zr<|zf<|za s<|zH<|zr<|zk 2<|zp (li (l:=[c]) (k:=.i64) (n:=0) (b:=c) I underlying9 kq kq oq I)<|zo s<|zc 0 d<|zf<|aD ⟨.inr I,kq,kq⟩
theorem Mi(U:QP pr)(h:c∉l):Ef pr 341 #[str l,str [c]] s (num<|-1) s:=by have:=HR (s:=s) U l c;rw[sF h,p9 gq] at this;exact this
theorem Mj(U:QP pr){b:Bq}(h:c∉a):Ef pr 341 #[str (a++c::b),str [c]] s (num a.length) s:=by
 have:=HR (s:=s) U (a++c::b) c;rw[w9 h] at this;by_cases d:cZ [c] (a++c::b)=true
 .have e:=(dP _ _).1 d;have f:a=[]:=by
   cases a with
   | nil=>rfl
   | cons x a=>simp at e
  grind
 .grind
def Sy(d:QP pr){x b:Bq}{t:Bool}(h:Wa c x a b t)(e:x.length<=1000000):Ef pr 331 #[str x,str [c]] s (.tuple #[str a,str b,.bool t]) s:=by
 refine aH (d.no 331 dq) func331 I<|zs<|aB<|zr<|zk 2 ?_;rcases h with ⟨rfl,h,rfl,rfl⟩|⟨rfl,h,rfl⟩
 .exact dF #[str a,str [c]] kq I I kq kq (Mi d h)<|zf<|eJ 50 kq<|kT 50 .ret kq ⟨.inr I,by kernel_rfl,by kernel_rfl⟩
 .have f:a.length+(b.length+1)<=1000000:=by simpa using e
  exact dF #[str (a++c::b),str [c]] kq I I kq kq (Mj d h)<|zf<|zs<|zH<|aB<|aP kq kq kq<|zq<|zq<|zu (jr (l:=a++c::b) (i:=0) (j:=a.length) I underlying9 kq ((show _=bS (a++c::b).length (a++c::b).length none (some<|num a.length) by kernel_rfl).trans<|nV oq<|by simp;omega)<|NZ _ _ _)<|zq<|zq<|zq<|zq<|zu (jY (i:=a.length) (j:=1) (r:=a.length+1) I kq kq I oq)<|zu (jr (l:=a++c::b) (i:=a.length+1) I underlying9 kq ((show _=bS (a++c::b).length (a++c::b).length (some<|num<|a.length+1) none by kernel_rfl).trans<|ig oq<|by simp;omega)<|LI _ _ _)<|zq<|zq<|zq<|bq ⟨kq,_,_,_,_,_,_,I,I,aD<|⟨.inr I,by kernel_rfl,by kernel_rfl⟩⟩
def Q3(d:QP pr){x b:Bq}{t:Bool}(h:Wa c x a b t)(e:x.length<=1000000):Ef pr 262 #[str x,str [c]] s (.tuple #[str a,str b,.bool t]) s:=by exact aH (d.no 262 dq) func262 I<|zs<|zr<|zc 2 (Sy (s:=s) d h e)<|zf yR
theorem YR(U:QP pr)(t:Bq)(v:t.length<=900000)(w:Int)(h1:Has s 1 (.cells dy.toArray 335)):∃n,Ef pr 263 #[str t,num w] s (.tuple #[.int .i32 (lk t w).1,num ((lk t w).2:Nat)]) n/\kU s.nx s n:=by
 have q:=BG (pr:=pr) (s:=s) U.no 35 t;have p:=U.nm s t w h1.2;have c:=y5<|t.drop 1;have⟨e,k,d⟩:=OE (pr:=pr) (s:=s) U.no U.kt (t.drop 1) gq;have g:(t.take t.length).drop 1=t.drop 1:=gq
 unfold lk;refine aX (U.no 263 dq) func263 I<|zs<|aB<|zr<|zc 1 q ?_;cases a0:wZ 35 t with
 | true =>
  have u:=vZ a0;rw[List.length_drop] at c;generalize jo (t.drop 1)=o at *;have⟨f,a⟩:=o;simp only at k c |-;generalize t.drop 1=r at *;refine zf<|za s<|zH<|zr<|zg 1 s<|zp (jr (l:=t) (m:=r) (i:=1) (j:=t.length) I underlying9 kq ((show _=bS t.length t.length (some<|num 1) none by kernel_rfl).trans<|ig oq oq) g)<|zc 0 k<|zf<|za e<|aB<|zr<|zk 1 ?_;by_cases h:a=0
  .subst h;exact zf<|za e<|zF<|zs<|za e<|aD ⟨.inr I,kq,d⟩
  .rw[show(bif true then (if a=0 then ((38:Int),0) else (f,a+1)) else sj t w)=(f,a+1) from iw h];exact zp (yb (num a) (num 0)<|fA (b:=true)<|tD oq)<|am<|za e<|zH<|zr<|zk 2<|zp (yp 1 (a:Nat) ((a+1:Nat):Int) oq oq)<|zf<|za e<|aD ⟨.inr I,kq,d⟩
 | false =>exact zf<|za s<|zF<|zr<|zc 2 p<|zf<|za s<|aD ⟨.inr I,kq,kU.refl⟩
theorem Vs(F:QP pr)(t:Bq)(ae:t.length<=100000)(w:Int)(h1:Has s 1 (.cells dy.toArray 335)):∃s1,Ef pr 157 #[str t,num w] s (str<|KP t w) s1/\kU s.nx s s1:=by
 have U:=F.no;have T:=aI s<|.cells #[.pointer none,aO] 119;have O:kU s.nx s (s.add<|.cells #[.pointer none,aO] 119):=kU.add lr;have L:BW _ s.nx s.nx []:=⟨lr,T.1,_,_,T.2,.inl rfl,.inl ⟨rfl,rfl⟩⟩;refine aX (U 157 dq) func157 rfl ?_;iterate 2 refine zs ?_
 refine za (s.add<|.cells #[.pointer none,aO] 119) ?_;generalize s.add _=S0 at *;refine aV (RL t w s.nx) kq ?_;intro x0;refine aF<|bw (λu W S=>∃f d n,u=f.length/\d++Vt n f w=KP t w/\f.length<n/\d.length+4*f.length<=400000/\BW S s.nx s.nx d/\(d=[]->∃p,S.get s.nx=some (.cells #[p,aO] 119)/\(p=.pointer none\/p=aC s.nx 0))/\kU s.nx s S/\∃x,W=RL f w s.nx x) ?_ t.length _ _ ⟨t,[],t.length+1,rfl,rfl,by omega,by simp;omega,L,λ_=>⟨_,T.2,.inl rfl⟩,O,x0,rfl⟩;rintro u W S ⟨f,d,n,rfl,q,hn,hl,Y,E,C,x,rfl⟩;obtain⟨n,rfl⟩:∃m,n=m+1:=⟨n-1,by omega⟩;have Q:Vt (n+1) f w=match yC 38 f with
  | none=>f
  | some p=>p.1++(encodeRune (lk p.2 w).1++Vt n (p.2.drop (lk p.2 w).2) w):=rfl
 rw[Q] at q;refine aF ?_;cases hc:yC 38 f with
 | none =>
  rw[hc] at q;have q:d++f=KP t w:=q;have H:=Q3 (pr:=pr) (s:=S) F (c:=38) (x:=f) (a:=f) (b:=[]) (t:=false) (.inl ⟨rfl,Hh hc,rfl,rfl⟩) oq;rw[<-q];refine zr<|zc 1 H<|zf<|za S ?_;by_cases Z:d++f=[]
  .obtain⟨rfl,rfl⟩:=List.append_eq_nil_iff.1 Z;have⟨p,q1,q2⟩:=E rfl;have⟨r,g0,g1,g2,g3⟩:=ud (pr:=pr) (U 261 dq) q1 q2;have R:∃v g,Ef pr 156 #[aC s.nx 0,str []] S v g/\(∃p,g.get s.nx=some (.cells #[p,aO] 119))/\kU s.nx s g:=by exact pW (U 156 dq) func156 rfl<|zs<|zr<|zc 1 g0<|am<|za r<|zr<|zg 4 r<|zp (yl s.nx 1 aO g2)<|zg 1 r<|zp (Bu (sl:=aO) (m:=[]) rfl kq kq underlying55 underlying9 kq kq dq rfl<|yW<|.inl rfl)<|zg 2 r<|zp (ys s.nx 1 aO g2 iq)<|am<|za (r.set s.nx<|some<|.cells #[aC s.nx 0,aO] 119)<|zs<|za (r.set s.nx<|some<|.cells #[aC s.nx 0,aO] 119)<|aD ⟨.inr rfl,.tuple #[num 0,.nilIface],kq,⟨_,by rw[AS.aN,ip rfl]⟩,⟨by show s.nx<=r.nx;have:=C.1;omega,λk hk=>by rw[AS.aN,iw oq,g3 k oq];exact C.2 k hk⟩⟩
   obtain⟨v,g,B,⟨p2,q3⟩,z⟩:=R;have y:=Ag (pr:=pr) (U 84 dq) q3;exact zr<|zc 1 B<|am<|za g<|aB<|zr<|zf<|za g<|zH<|zr<|zc 0 y<|zf<|za g<|aD ⟨.inr rfl,kq,z⟩
  .have⟨g,B,I,z⟩:=B8 (pr:=pr) (m:=f) (U 261 dq) (U 156 dq) Y oq;have⟨A,y,h⟩:=xP (pr:=pr) (U 84 dq) I Z gq;generalize d++f=tx at *;exact zr<|zc 1 B<|am<|za g<|aB<|zr<|zf<|za g<|zH<|zr<|zc 0 y<|zf<|za A<|aD ⟨.inr rfl,kq,(C.trans z).trans h⟩
 | some p =>
  have⟨a,b⟩:=p;rw[hc] at q;have q:=q;have⟨c1,X⟩:=wN hc;have mH:f.length=a.length+(b.length+1):=by rw[X];simp
  have H:=Q3 (pr:=pr) (s:=S) F (c:=38) (x:=f) (a:=a) (b:=b) (t:=true) (.inr ⟨rfl,c1,X⟩) oq;have⟨g,B,I,z⟩:=B8 (pr:=pr) (m:=a) (U 261 dq) (U 156 dq) Y oq;have o:=C.trans z;have K:Has g 1 (.cells dy.toArray 335):=⟨by have:=h1.1;have:=o.1;omega,(o.2 1 h1.1).trans h1.2⟩;have⟨A,a6,h⟩:=YR (s:=g) F b oq w K;have⟨r1,r2⟩:Good (lk b w).1/\(lk b w).2<=b.length:=by
   unfold lk;cases h:wZ 35 b with
   | false=>exact vU b w 18 0 _ oq (.inl ⟨dq,dq⟩)<|Nat.zero_le _
   | true =>
    have h2:=y5<|b.drop 1;rw[List.length_drop] at h2;show Good (if (jo<|b.drop 1).2=0 then (38,0) else ((jo<|b.drop 1).1,(jo<|b.drop 1).2+1)).1/\_;split
    .exact⟨.inl ⟨dq,dq⟩,Nat.zero_le _⟩
    .next U =>
     refine⟨?_,by show(jo<|b.drop 1).2+1<=_;omega⟩;show Good (jo<|b.drop 1).1;unfold jo at U |-;split
     .grind
     .unfold Ms;split
      .exact .inr ⟨oq,oq⟩
      .split
       .next h=>exact JL _ h.1 h.2
       .unfold Good;omega
  have M:=I.Hy h;have D:kU s.nx g A:=⟨h.1,λk hk=>h.2 k<|by have:=o.1;omega⟩;have⟨G,v4,a5,N,P,_⟩:=xD (pr:=pr) (U 261 dq) (U 180 dq) (U 346 dq) (U 275 dq) M r1 gq;have ZG:=encodeRuneZ_length (lk b w).1;have hel2:(encodeRune (lk b w).1).length=(encodeRuneZ (lk b w).1).length:=by simp[encodeRune]
  have a8:(b.take b.length).drop (lk b w).2=b.drop (lk b w).2:=gq
  have ab:(b.drop (lk b w).2).length<=b.length:=gq
  rw[<-vt,<-vt] at q;have a7:d++a++encodeRune (lk b w).1≠[]:=λe=>by have:=congrArg List.length e;simp only[lA,List.length_nil] at this;omega
  have a9:(d++a++encodeRune (lk b w).1).length<=d.length+a.length+4:=gq
  generalize encodeRune (lk b w).1=er at *;generalize (lk b w).1=rl at *;generalize (lk b w).2=V at *;generalize aa:b.drop V=J at *;exact zr<|zc 1 H<|zf<|za S<|zr<|zc 1 B<|am<|za g<|aB<|zr<|zf<|za g<|zF<|zr<|zc 2 a6<|zf<|za A<|zr<|zc 1 a5<|am<|za G<|zx<|zg 2 G<|zp (jr (l:=b) (m:=J) (i:=V) (j:=b.length) rfl underlying9 kq ((show _=bS b.length b.length (some<|num V) none by kernel_rfl).trans<|ig oq oq) a8)<|zg 1 G<|am ⟨J.length,by omega,J,d++a++er,n,rfl,q,by omega,by omega,N,λe=>absurd e a7,((C.trans z).trans D).trans P,bu kq⟩
variable {An:eN}
section
variable {KT:TypeId->Prop}{O:ι->Nat->Prop}{args:Aq}{v:Value}
def ym(Y:Cy P KT N0 M O R D X Hd)(g:∀b,k<=b->An b=none)(j:args.toList.all (gA m)=true)(p:gA m v=true)(h:lR P KT An R D X Hd f args ⟨[],k⟩ v s1):Sound P KT An R D X Hd f args s v s:=by
 intro S l q i w c u t r z;rw[aT] at j;have e:=r.C6 λx n y A=>iT (j x n) A;subst e;have d:∀b o,(⟨[],k⟩:AS).get b=some o->False:=λb o a=>by unfold AS.get at a;simp at a
 refine(h An [] _ i w c ⟨λb o a=>(d b o a).elim,λb F o I x N a=>(d b o a).elim,λb o a=>(d b o a).elim,aQ An⟩ t (j0 λx n=>eL<|j x n) λb a=>g b a).mono ?_;rintro G K L ⟨E,H,J,B,C⟩;refine⟨S,l,aQ S,λ_ _=>W,u,nw Y B,?_⟩;rw[iT p C];exact eL p
theorem yS(e:cR P KT An R D X Hd pr){V:Aq->Option Value}(i:∀a v s,V a=some v->Sound P KT An R D X Hd f a s v s):cR P KT An R D X Hd (kR f V pr):=by
 constructor
 .intro g h a s v c U b;unfold kR at U;split at U
  .grind
  .exact e.nx g h a s v c U b
 .intro g h a s v c U b;unfold kR at U;split at U
  .next d =>have d:=iC d;grind
  .exact e.sound g h a s v c U b
variable {aA:TL}{K:TL->AS->Prop}{ops:Array Oper}
def GX(Y:Cy P KT N0 M O R D X Hd)(G:ops[k]?=some o)(hw:Region.wanted o (cg ops aA)=true){t:TypeId}{d:TypeDesc}{q:Tmp}{g:Nat}{vs:Vq}(r:o.op=.load t (.tmp q))(hx:aA.at (.tmp q)=aC nm off)(y:An nm=some (g,z,e))(H:P.underlying t=some d)(p:d.isRow=true)(hi:(P.info? t).map (·.size)=some vs.length)(hv:gA m (.agg vs.toArray)=true)(j:∀i l w,Hd i l w->M i w g/\w.rangeAt g off vs)(kk:WO P KT An X Hd ops (k+1) (aA.put o.dst<|.agg vs.toArray) s K):WO P KT An X Hd ops k aA s K:=by
 intro N S l Q i w a I E B v V A kx;rw[rA (oF.1 G).1];have u:a.eval (.tmp q)=.pointer (some ⟨g,off,none⟩):=by have:=kX (x:=.tmp q) v rfl;rw[hx] at this;have⟨g',z',e',h1,h2⟩:=this.ptr;rw[E.an _ _ y] at h1;cases h1;exact h2
 refine aM Y.C G (by rw[kw v];exact hw) λb U Kx T=>?_;have c:=(Y.Z B).rely B U;have⟨n,F⟩:=j i _ b c;have h:=run_loadAt_mid b g off t vs d F H p hi;have hr:(execOp a.eval o).run P b=.ok (.value<|.agg vs.toArray) b:=by unfold execOp;simp only[r,u,Sem.run_bind,Sem.run_pure,Result.andThen_ok,h]
 have W:(execOp a.eval o).events P b #[]=(Instr.loadAt t<|.pointer<|some ⟨g,off,none⟩).events P b #[]:=by unfold execOp;simp only[r,u,Sem.events_bind,h,Result.evThen_ok,Sem.events_pure]
 rw[hr];refine T _ _ ⟨?_,kk N S l Q i b _ I E c (qo v (eL hv) _) ?_ A kx⟩
 .refine(Y.Z c).env.kZ ((Y.Z c).size c) (fw _) λL f=>?_;have f:=mem_listed f;rw[W] at f;have⟨J,h1,h2⟩:=jN b g off t vs d F H p hi L f;exact .inl ⟨J,h1,by rw[h2];exact n⟩
 .cases OZ:o.dst<;>exact V
end
def Vl (args:Aq):Option Value:=match args.toList with
 | [.string x]=>match x.data.toList with
  | 239::191::189::_=>some<|.tuple #[.int .i32 65533,num 3]
  | _=>none
 | _=>none
def Eg:AS:=⟨[],4⟩
def YZ:AS:=Eg.add<|.cells #[.int .u8 0,.int .u8 0] 344
def sDc:AS:=YZ.set 4<|some<|.cells #[.int .u8 128,.int .u8 191] 344
variable {O:ι->Nat->Prop}
theorem LD(Y:Cy prog fa N0 M O R D X Hd)(h2:An 2=some (2,z2,e2))(h3:An 3=some (3,z3,e3))(g:Tb M Hd)(q:Bq):lR prog fa An R D X Hd 382 #[str (239::191::189::q)] Eg (.tuple #[.int .i32 65533,num 3]) sDc:=by
 have d:=nG (An:=An) Y;have r:(239::191::189::q:Bq).length=q.length+3:=I;generalize p:(239::191::189::q:Bq)=f at r;have s:f[0]?=some 239:=gq
 have t:f[1]?=some 191:=gq
 have y:f[2]?=some 189:=gq
 clear p;refine lR.of Y cm func382 I<|cU Y<|dM Y kq cB d cm<|eJ 5 kq<|cU Y<|dM Y kq cB d cm<|zx<|zk 1<|zp (dL (l:=f) I underlying9 kq)<|zf<|cU Y<|cU Y<|dM Y kq cB d cm<|zx<|zk 1<|zp (bz (u:=num f.length) (w:=num 1) I kq kq<|bE (b:=false)<|fD oq)<|am<|dM Y kq cB d cm<|zF<|cU Y<|dM Y kq cB d cm<|zx<|zk 1<|zp (li (l:=f) (b:=239) (k:=.i64) (n:=0) I underlying9 kq kq dq s)<|zf<|cU Y<|WI.region Y<|g9 Y cB (v:=.int .u8 239) (s1:=Eg) I (λS a e c x U=>?_) kq kq ?_
 .simp[Op.operands] at U;subst U;exact kX c I
 refine g9 Y cB (v:=aC 2 239) (s1:=Eg) I (λS a e c x U=>?_) kq kq ?_
 .simp[Op.operands] at U;rcases U with rfl|rfl
  .exact dj<|e _ _ h2
  .exact kX c I
 refine WO.load Y (v:=.int .u8 3) I kq (q:=20) (nm:=2) (off:=239) I kq h2 underlying5 I I (λi l w h=>⟨(g i l w h).1,(g i l w h).2.2.2.1⟩)<|g9 Y cB (v:=.int .u8 3) (s1:=Eg) I (λS a e c x U=>?_) kq kq ?_
 .simp[Op.operands] at U;subst U;exact kX c I
 refine WO.nil Y I ?_;iterate 2 refine cU Y<|dM Y kq cB d cm<|eJ 9 kq ?_
 refine cU Y<|WI.region Y<|g9 Y cB (v:=.int .u8 3) (s1:=Eg) I (λS a e c x U=>?_) kq kq ?_
 .simp[Op.operands] at U;subst U;exact kX c I
 refine g9 Y cB (v:=.int .u8 0) (s1:=Eg) I (λS a e c x U=>?_) kq kq ?_
 .simp[Op.operands] at U;rcases U with rfl|rfl
  .exact kX c I
  .exact bD I
 refine g9 Y cB (v:=aC 3 0) (s1:=Eg) I (λS a e c x U=>?_) kq kq ?_
 .simp[Op.operands] at U;rcases U with rfl|rfl
  .exact dj<|e _ _ h3
  .exact kX c I
 refine GX Y (m:=2) (vs:=[.int .u8 128,.int .u8 191]) I kq (q:=41) (nm:=3) (off:=0) I kq h3 underlying344 I kq I (λi l w h=>⟨(g i l w h).2.1,λj v o=>?_⟩) ?_
 .match j with
  | 0=>cases o;exact(g i l w h).2.2.2.2.1
  | 1=>cases o;exact(g i l w h).2.2.2.2.2
  | j+2=>cases o
 refine g9 Y cB (v:=aC 4 0) (s1:=YZ) I (λS a e c x U=>?_) kq kq ?_
 .simp[Op.operands] at U
 refine g9 Y cB (v:=undef) (s1:=sDc) I (λS a e c x U=>?_) kq kq ?_
 .simp[Op.operands] at U;rcases U with rfl|rfl
  iterate 2
   .exact kX c I
 refine WO.nil Y I<|cU Y<|cU Y<|dM Y kq cB d cm<|zx<|zk 2<|zp (bz (u:=num f.length) (w:=num 3) I kq kq<|bE (b:=false)<|fD oq)<|am<|dM Y kq cB d cm<|zF<|cU Y<|dM Y kq cB d cm<|zx<|zk 1<|zp (li (l:=f) (b:=191) (k:=.i64) (n:=1) I underlying9 kq kq dq t)<|zf ?_;iterate 2 refine cU Y<|dM Y kq cB d cm<|eJ 12 kq ?_
 exact cU Y<|dM Y kq cB d cm<|zx<|zk 1<|zp (li (l:=f) (b:=189) (k:=.i64) (n:=2) I underlying9 kq kq dq y)<|zf<|dM Y kq cB d cm<|kT 30 .ret kq ⟨.inr I,kq,kq⟩
def LC(Y:Cy prog fa N0 M O R D X Hd)(l:Anc An)(n:Tb M Hd)(args:Aq)(v:Value)(s:AS)(h:Vl args=some v):Sound prog fa An R D X Hd 382 args s v s:=by
 obtain⟨_,⟨t,i,h2⟩,u,j,h3⟩:=l;unfold Vl at h;split at h
 .next x r =>
  split at h
  .next q p =>
   cases h;have o:args=#[str (239::191::189::q)]:=by apply wu.1;rw[r];rw[<-p]
   rw[o];obtain⟨A,g,e,f,c⟩:∃A:eN,(∀b,4<=b->A b=none)/\A 2=some _/\A 3=some _/\A.le An:=⟨λb=>if b<4 then An b else none,λb a=>iw oq,by simpa using h2,by simpa using h3,λb y d=>by
    by_cases a:b<4
    .simpa[a] using d
    .simp[a] at d⟩;exact jl c<|ym (m:=2) Y g I I<|LD Y e f n q
  .cases h
 .cases h
def LB(a:pr 357=none)(b:∀q:Bq,Ef pr 382 #[str (239::191::189::q)] s (.tuple #[.int .i32 65533,num 3]) s)(q:Bq):Ef pr 357 #[str (239::191::189::q)] s (.tuple #[.int .i32 65533,num 3]) s:=by exact aH a func357 I<|zs<|aB<|zs<|zG<|zx<|zc 1 (b q)<|zf<|aD ⟨.inr I,kq,kq⟩
def J8(h:f∈MJ):bP f=none:=by simp[MJ,oc,zL,or_false] at h;rcases h with rfl|rfl|rfl|rfl|rfl|rfl|rfl|rfl<;>rfl
def Ky{P:Program}{KT:TypeId->Prop}{c:Code}{a a2:TL}{Q:Exit->TL->AS->Prop}(h:a=a2)(k:WI P KT An X Hd c a2 s Q):WI P KT An X Hd c a s Q:=h▸k
section
variable (Y:Cy prog fa N0 M O R D X Hd)
def OD(h1:An 1=some (1,z,e))(t:Bq)(k:Int):∃s1:AS,s1.get 1=some (.cells dy.toArray 335)/\lR prog fa An R D X Hd 333 #[str t,num k] s9 (.tuple #[.int .i32 (sj t k).1,num ((sj t k).2:Nat)]) s1:=by
 have l:=nG (An:=An) Y;have⟨n,e1,p,s1,h,i,g,j,x,r⟩:=Py (s:=s9) (λf i=>J8 i) t k I<|λ_=>undef;refine⟨s1,(i.2 1 dq).trans I,?_⟩;have y:∀{c:Code},c=(match f333.body with|some (.seq _<|.seq _<|.seq (.seq _<|.block _<|.loop b) _)=>b|_=>.skip)->Ew bP (.loop c) (Ei t k 38 0 0<|λ_=>undef) s9 (λe m S=>(e=.exit 0\/e=.ret)/\S=s1/\m=Ei t k (sj t k).1 (sj t k).2 j x):=λu=>⟨n,e1,p,s1,u▸h,g,I,r⟩;refine lR.of Y cm func333 I ?_;iterate 2 refine cU Y<|dM Y kq cB l cm<|eJ 5 kq ?_
 refine cU Y<|cU Y<|WI.region Y<|g9 Y cB (v:=.agg dy.toArray) (s1:=s9) I (λS a o q x d=>?_) kq kq ?_
 .simp[Op.operands] at d;subst d;exact dj<|o _ _ h1
 refine g9 Y cB (v:=num 0) (s1:=s9) I (λS a o q x d=>?_) kq kq ?_
 .simp[Op.operands] at d;subst d;exact bD I
 refine WO.nil Y I<|Ky kq<|dM Y kq cB l cm<|aF<|bn (y I) λe m S w=>?_;obtain⟨g,rfl,rfl⟩:=w;rcases g with rfl|rfl
 .exact dM Y kq cB l cm<|zs<|za S<|aD ⟨.inr I,kq,I⟩
 .exact⟨.inr I,kq,I⟩
end
def Nf (pr:Prim):Prim:=λg=>if g.beq 333 then some λa s=>match a.toList with
  | [.string x,.int .i64 k]=>match s.get 1 with
   | some (.cells cs 335 (0,0))=>if zj cs.toList=true then some (.tuple #[.int .i32 (sj x.data.toList k).1,num ((sj x.data.toList k).2:Nat)],s) else none
   | _=>none
  | _=>none
 else pr g
theorem Im(c:∀f g a s v b,pr f=some g->g a s=some (v,b)->s.nx<=b.nx):∀f g a s v b,Nf pr f=some g->g a s=some (v,b)->s.nx<=b.nx:=by
 intro f g a s v b U h;unfold Nf at U;split at U
 .grind
 .exact c _ _ _ _ _ _ U h
def P5(Y:Cy prog fa N0 M O R D X Hd)(h1:An 1=some (1,z,e))(hp:cR prog fa An R D X Hd pr):cR prog fa An R D X Hd (Nf pr):=by
 refine⟨Im hp.nx,λf g args s v s' hf h=>?_⟩;unfold Nf at hf;split at hf
 .next he =>
  have he:=iC he;subst he;cases hf;simp only at h;split at h
  .next x k ha =>
   split at h
   .next cs VJ =>
    split at h
    .next hc =>
     cases h;rw[sP ha];have Oi:cs=dy.toArray:=by apply wu.1;simp[wQ hc]
     subst Oi;obtain⟨A,g,a,d⟩:∃A:eN,(∀b,2<=b->A b=none)/\A 1=some _/\A.le An:=⟨λb=>if b=1 then An b else none,λb c=>iw oq,by simpa using h1,λb y f=>by
      by_cases c:b=1
      .simpa[c] using f
      .simp[c] at f⟩;have⟨i,g1,g2⟩:=OD Y a x.data.toList k;exact jl d<|ms (m:=2) Y a g kq Ns I g1 VJ I I g2
    .cases h
   .cases h
  .cases h
 .exact hp.sound _ _ _ _ _ _ hf h
section
variable {V:Aq->Option Value}
theorem wA.add(h:wA rn pr all)(e:∀a v,V a=some v->a.toList.all (gA m)=true/\gA m v=true/\∃p,Ef pr f a ⟨[],rn+1⟩ v p):wA rn (kR f V pr) all:=by
 have⟨d,U⟩:=h;refine⟨λg k a s v o b j=>?_,λY A i n c l=>cR.add Y ef cB cm c (U Y A i n c l) e⟩;unfold kR at b;split at b
 .grind
 .exact d g k a s v o b j
def Ju(d:∀f g a s v b,pr f=some g->g a s=some (v,b)->s.nx<=b.nx){h:Aq->AS->Option Value}:∀g k a s v b,nH f h (ck prog kg pr n f) pr g=some k->k a s=some (v,b)->s.nx<=b.nx:=by
 intro g k a s v b e c;unfold nH at e;split at e
 .cases e;simp only at c;split at c
  .cases c;exact iz _
  .exact(Da d n).2 _ _ _ _ _ c
 .exact d g k a s v b e c
end
