
import Derived.Test.YtgcaionclkbehaaGreatDoorM5
set_option linter.all false
set_option maxHeartbeats 2000000
set_option maxRecDepth 100000
namespace Go.Proofs.YtgcaionclkbehaaGreatDoor
open Go.Conc Go.RowKit Go.Lib Tryz
variable {hY:List Nat}{B j off sz:Nat}{l:List (Bq)}{n stops tx w:Bq}
def ki (a:fF):Prop:=a.length<=20/\(a.map (·.1)).Nodup
def vi (ks:List Sk)(k:Nat):Bq:=match ks[k]? with
 | some x=>x.2.2
 | none=>[]
def il (ks:List Sk)(k:Nat):Bool:=aH (vi ks k) bq
def VA (w:Int)(row:List Nat)(ks:List Sk):Prop:=(w=0/\row=[0]/\kids ks=[])\/(w=1/\kids ks=[gg]/\(∃k q,row[1]?=some k/\ks[k]?=some (1,q,gg))/\∀(j k:Nat),2<=j->row[j]?=some k->vi ks k≠gg)\/(w=2/\kids ks=[gg,pd]/\∃k q,row[1]?=some k/\ks[k]?=some (1,q,pd))
structure Gs(ks:List Sk)(row again:List Nat)(w:Int):Prop where
 c:Gc ks row
 ph:VA w row ks
 fo:again.length+(row.filter (il ks)).length<=40
 ag:∀k∈again,k<ks.length/\il ks k=true
variable {i k:Nat}
section
variable {ks:List Sk}{row again:List Nat}{w:Int}{x:Sk}
def z9(h:k<ks.length):vi (ks++[x]) k=vi ks k:=by unfold vi;rw[vA h]
def jE(h:k<ks.length):il (ks++[x]) k=il ks k:=by unfold il;rw[z9 h]
def r9(h:∀k∈row,k<ks.length):row.filter (il (ks++[x]))=row.filter (il ks):=List.filter_congr λk hk=>jE (h k hk)
def Gs.xa(h:Gs ks row again w)(d:w≠0):row.getLastD 0≠0/\2<=row.length:=by
 have h1:∃k,row[1]?=some k:=by
  rcases h.ph with ⟨e,_⟩|⟨_,_,⟨k,_,e,_⟩,_⟩|⟨_,_,k,_,e,_⟩
  .exact absurd e d
  iterate 2
   .exact⟨k,e⟩
 have⟨k,b⟩:=h1;have g:=(gS.1 b).1;refine⟨λe=>?_,by omega⟩;have a:=h.c.Og _ _ h.c.cur;have f:=h.c.Og _ _ h.c.r0;rw[e] at a;omega
def Gs.Qo(h:Gs ks row again w):vi ks 0=me:=by unfold vi;rw[h.c.n0]
theorem Gs.put(h:Gs ks row again w)(f:x.2.1=((row.getLastD 0:Nat):Int))(a:x.1=1\/x.1=2\/x.1=3)(o:x.1=2->ly ks (row.getLastD 0)≠2)(h1:x.1≠3->w≠0):Gs (ks++[x]) row again w:=by
 have m:=h.c.put f a (λe=>⟨o e,(h.xa (h1 oq)).1⟩) (λe e1=>absurd e (h.xa (h1 oq)).1);have b:kids (ks++[x])=kids ks:=by
  rw[nV];split
  .next e =>have:=(h.xa (h1 oq)).1;rw[f] at e;omega
  .rfl
 refine⟨m,?_,by rw[r9 h.c.lt];exact h.fo,λk a=>?_⟩
 .unfold VA;rw[b];have d:∀(k:Nat) (y:Sk),ks[k]?=some y->(ks++[x])[k]?=some y:=λk y g=>by rw[vA (gS.1 g).1];exact g
  rcases h.ph with q|⟨q1,q2,⟨k,q,q3,q4⟩,q5⟩|⟨q1,q2,k,q,q3,q4⟩
  .exact .inl q
  .exact .inr (.inl ⟨q1,q2,⟨k,q,q3,d _ _ q4⟩,λj p n U=>by rw[z9 (h.c.lt _ (mG U))];exact q5 j p n U⟩)
  .grind
 .have⟨i,l⟩:=h.ag k a;exact⟨by simp;omega,by rw[jE i];exact l⟩
theorem Gs.push(h:Gs ks row again w)(l:row.length<40)(b:x.2.1=((row.getLastD 0:Nat):Int))(U:x.1=1)(m:aH x.2.2 dH=false)(a:w≠0)(i:w=1->x.2.2≠gg)(p:aH x.2.2 bq=true->again=[]):Gs (ks++[x]) (row++[ks.length]) again w:=by
 have d:=h.xa a;have g:=h.put b (.inl U) (λe=>by rw[U] at e;cases e) (λ_=>a);have f:=h.c.push l b U m (λe=>absurd e d.1);refine⟨f,?_,?_,g.ag⟩
 .have e1:(row++[ks.length])[1]?=row[1]?:=vA oq;unfold VA;rw[e1];rcases g.ph with ⟨e,_⟩|⟨q1,q2,q3,q4⟩|q
  .exact absurd e a
  .refine .inr (.inl ⟨q1,q2,q3,λj k s U=>?_⟩);rcases Nat.lt_trichotomy j row.length with r|r|r
   .grind
   .subst r;rw[Bp lr,Nat.sub_self] at U;cases U;have:vi (ks++[x]) ks.length=x.2.2:=by unfold vi;rw[Bp lr,Nat.sub_self];rfl
    rw[this];exact i q1
   .grind
  .exact .inr (.inr q)
 .rw[List.filter_append,r9 h.c.lt,lA];have n:il (ks++[x]) ks.length=aH x.2.2 bq:=by unfold il vi;rw[Bp lr,Nat.sub_self];rfl
  have o:=h.fo;grind
def Gs.mono(h:Gs ks row again w)(d:hY.length<=again.length)(b:∀k∈hY,k∈again):Gs ks row hY w:=⟨h.c,h.ph,by have:=h.fo;omega,λk a=>h.ag k (b k a)⟩
def lW(ks:List Sk)(row again:List Nat)(i:Nat):List Nat:=again++((row.drop i).drop 1).filter (il ks)
def rU(h:Gs ks row again w)(i:Nat):(lW ks row again i).length+((row.take i).filter (il ks)).length<=40/\∀k∈lW ks row again i,k<ks.length/\il ks k=true:=by
 have h1:(row.filter (il ks)).length=((row.take i).filter (il ks)).length+((row.drop i).filter (il ks)).length:=by rw[<-lA,<-List.filter_append,List.take_append_drop]
 have h2:(((row.drop i).drop 1).filter (il ks)).length<=((row.drop i).filter (il ks)).length:=((List.drop_sublist 1 _).filter _).length_le
 have:=h.fo;refine⟨by unfold lW;rw[lA];omega,λk a=>?_⟩;rcases List.mem_append.1 a with q|q
 .exact h.ag k q
 .have⟨b,d⟩:=List.mem_filter.1 q;exact⟨h.c.lt k (List.mem_of_mem_drop (List.mem_of_mem_drop b)),d⟩
theorem Gs.close(h:Gs ks row again w)(hi:2<=i)(a:hY=[]\/hY=lW ks row again i):Gs ks (row.take i) hY w:=by
 have⟨d,e⟩:=rU h i;refine⟨h.c.take oq,?_,?_,λk b=>?_⟩
 .have e1:(row.take i)[1]?=row[1]?:=by rw[Bu,ip oq]
  unfold VA;rw[e1];rcases h.ph with ⟨U,q2,q3⟩|⟨U,q2,q3,q4⟩|q
  .refine .inl ⟨U,?_,q3⟩;rw[q2];exact tL (by simp;omega)
  .grind
  .exact .inr (.inr q)
 .grind
 .grind
def Gs.one(h:Gs ks row again w):row.take 1=[0]:=by
 have a:=h.c.r0;cases row with
 | nil=>cases a
 | cons y l=>cases a;rfl
theorem Gs.body(h:Gs ks row again w)(n:w=1)(i:hY=[]\/hY=lW ks row again 1):Gs (ks++[(1,0,pd)]) [0,ks.length] hY 2:=by
 have⟨j,l⟩:=rU h 1;have U:kids ks=[gg]:=by
  rcases h.ph with ⟨e,_⟩|⟨_,q,_⟩|⟨e,_⟩
  .omega
  .exact q
  .omega
 have a:=h.c.take (jl 1);rw[h.one] at a j;have g:=a.push (x:=(1,0,pd)) dq rfl rfl dq (λ_=>.inr ⟨rfl,U⟩);have b:0<ks.length:=a.lt 0 iq;have m:il (ks++[(1,0,pd)]) 0=false:=by rw[jE b];unfold il;rw[h.Qo];decide
 have e1:il (ks++[(1,0,pd)]) ks.length=false:=by unfold il vi;rw[Bp lr,Nat.sub_self];decide
 refine⟨g,.inr (.inr ⟨rfl,?_,ks.length,0,rfl,?_⟩),?_,λk U=>?_⟩
 .rw[nV,ip ⟨rfl,rfl⟩,U];rfl
 .grind
 .grind
 .rcases i with rfl|rfl
  .cases U
  .have⟨d,f⟩:=l k U;exact⟨by simp;omega,by rw[jE d];exact f⟩
theorem Gs.head(h:Gs ks row again w)(o:w=0):Gs (ks++[(1,0,gg)]) [0,ks.length] again 1:=by
 obtain⟨l,U⟩:row=[0]/\kids ks=[]:=by
  rcases h.ph with ⟨_,q⟩|⟨e,_⟩|⟨e,_⟩
  .exact q
  .omega
  .omega
 have a:=h.c;rw[l] at a;have g:=a.push (x:=(1,0,gg)) dq rfl rfl dq (λ_=>.inl ⟨rfl,U⟩);have b:0<ks.length:=a.lt 0 iq;have n:il (ks++[(1,0,gg)]) 0=false:=by rw[jE b];unfold il;rw[h.Qo];decide
 have e1:il (ks++[(1,0,gg)]) ks.length=false:=by unfold il vi;rw[Bp lr,Nat.sub_self];decide
 have m:=h.fo;refine⟨g,.inr (.inl ⟨rfl,?_,⟨ks.length,0,rfl,?_⟩,λj k i U=>by match j,i with
  | j+2,_=>cases U⟩),?_,λk U=>?_⟩
 .rw[nV,ip ⟨rfl,rfl⟩,U];rfl
 .grind
 .grind
 .have⟨d,f⟩:=h.ag k U;exact⟨by simp;omega,by rw[jE d];exact f⟩
end
def fR(l:List Nd):(dY l).length=l.length:=by unfold dY;simp
def qo(l:List Nd)(k:Nat):(dY l)[k]?=(l[k]?).map yz:=by unfold dY;simp
structure Gv(acc:Nat)(σ:TS):Prop where
 g:Gs (dY σ.nodes) σ.row σ.again σ.w
 pn:∀u∈σ.nodes,(u.kind=2->u.text≠[])/\ki u.aM/\u.text.length<=acc
variable {acc Sz:Nat}{σ:TS}{u:Nd}{nm:Bq}{aF:fF}
section
def Er(σ:TS)(k:Nat):σ.ef k=vi (dY σ.nodes) k:=by unfold TS.ef vi;rw[qo];cases σ.nodes[k]?<;>rfl
def S7(σ:TS):σ.tR=il (dY σ.nodes):=by funext k;unfold TS.tR il;rw[Er]
def p9(σ:TS)(h:σ.row[j]?=some k):nameAt σ j=vi (dY σ.nodes) k:=by unfold nameAt;rw[h,<-Er];rfl
def qq(σ:TS)(u:Nd):dY (σ.put u).nodes=dY σ.nodes++[(u.kind,((σ.row.getLastD 0:Nat):Int),u.name)]:=by unfold TS.put dY;simp[yz,TS.cur]
def Gv.mono(h:Gv acc σ)(e:acc<=Sz):Gv Sz σ:=⟨h.g,λu d=>by have⟨a,b,c⟩:=h.pn u d;exact⟨a,b,by omega⟩⟩
theorem Gv.put(h:Gv acc σ)(a:u.kind=1\/u.kind=2\/u.kind=3)(b:u.kind=2->ly (dY σ.nodes) (σ.row.getLastD 0)≠2/\u.text≠[])(h1:u.kind≠3->σ.w≠0)(c:ki u.aM)(d:u.text.length<=acc):Gv acc (σ.put u):=by
 refine⟨?_,λv U=>?_⟩
 .show Gs (dY (σ.put u).nodes) σ.row σ.again σ.w;rw[qq];exact h.g.put rfl a (λe=>(b e).1) h1
 .have U:v∈σ.nodes++[⟨u.kind,((σ.cur:Nat):Int),u.name,u.text,u.aM⟩]:=U;rcases List.mem_append.1 U with q|q
  .exact h.pn v q
  .grind
section
variable (h:Gv acc σ)
def Gv.open_(b:σ.w≠0)(f:σ.w=1->nm≠gg)(j:aH nm dH=false)(d:aH nm bq=true->σ.again=[])(c:ki aF):Gv acc (σ.open_ nm aF):=by
 have a:=h.put (u:=⟨1,0,nm,[],aF⟩) (.inl rfl) (λe=>by cases e) (λ_=>b) c (Nat.zero_le _);unfold TS.open_;split
 .next i =>refine⟨?_,a.pn⟩;show Gs (dY (σ.put ⟨1,0,nm,[],aF⟩).nodes) (σ.row++[σ.nodes.length]) σ.again σ.w;rw[qq,<-fR];exact h.g.push i rfl rfl j b f d
 .exact a
def Gv.e9(b:σ.w≠0)(d:σ.w=1->nm≠gg)(c:aH nm bq=true->σ.again=[])(a:ki aF):Gv acc (σ.e9 nm aF):=by
 unfold TS.e9;cases hv:aH nm dH with
 | true=>exact h.put (u:=⟨1,0,nm,[],aF⟩) (.inl rfl) (λe=>by cases e) (λ_=>b) a (Nat.zero_le _)
 | false=>exact h.open_ b d hv c a
def ol(σ:TS)(i:Nat):(σ.eE i).again=[]\/(σ.eE i).again=lW (dY σ.nodes) σ.row σ.again i:=by
 unfold TS.eE lW;simp only;split
 .exact .inl rfl
 .rw[<-S7];exact .inr rfl
def Gv.close(hi:2<=i):Gv acc (σ.eE i):=⟨h.g.close hi (ol σ i),h.pn⟩
end
def nodup_nil:ki []:=⟨Nat.zero_le _,List.nodup_nil⟩
theorem Gv.im(h:Gv acc σ)(b:σ.w=0)(c:ki aF):Gv acc (σ.im aF)/\(σ.im aF).w=1:=by
 have a:σ.row=[0]:=by
  rcases h.g.ph with ⟨_,q,_⟩|⟨e,_⟩|⟨e,_⟩
  .exact q
  .omega
  .omega
 refine⟨⟨?_,?_⟩,rfl⟩
 .have:=h.g.head b;rw[fR] at this;unfold TS.im TS.open_;rw[ip gq,qq,a];exact this
 .intro v U;have U:v∈σ.nodes++[⟨1,((σ.cur:Nat):Int),gg,[],aF⟩]:=U;rcases List.mem_append.1 U with q|q
  .exact h.pn v q
  .grind
theorem pV(σ:TS)(l:List (Bq)):∀(n j:Nat),lx σ l n=((j:Nat):Int)->aH (nameAt σ j) l=true/\j<n
 | 0,j,h=>by unfold lx at h;omega
 | n+1,j,h=>by
  unfold lx at h;split at h
  .grind
  .have:=pV σ l n j h;exact⟨this.1,by omega⟩
def ug(σ:TS)(l:List (Bq)):∀(n j:Nat),j<n->aH (nameAt σ j) l=true->((j:Nat):Int)<=lx σ l n
 | 0,j,h,_=>by omega
 | n+1,j,h,hj=>by
  unfold lx;split
  .omega
  .next q =>have:j≠n:=λe=>q (e▸hj);exact ug σ l n j oq hj
section
variable (h:Gv acc σ)
def Gv.z8:nameAt σ 0=me:=by rw[p9 σ h.g.c.r0,h.g.Qo]
def Gv.Jr(a:σ.w=2):nameAt σ 1=pd/\2<=σ.row.length:=by
 rcases h.g.ph with ⟨e,_⟩|⟨e,_⟩|⟨_,_,k,q,e1,e2⟩
 .omega
 .omega
 .refine⟨?_,by have:=(gS.1 e1).1;omega⟩;rw[p9 σ e1];unfold vi;rw[e2]
def Gv.OE(a:σ.w=1):nameAt σ 1=gg/\2<=σ.row.length:=by
 rcases h.g.ph with ⟨e,_⟩|⟨_,_,⟨k,q,e1,e2⟩,_⟩|⟨e,_⟩
 .omega
 .refine⟨?_,by have:=(gS.1 e1).1;omega⟩;rw[p9 σ e1];unfold vi;rw[e2]
 .omega
end
end
def It (c:Nat):Prop:=c<128\/c=233
variable {s:AS}{pr:Prim}
section
variable {rn:Nat}{all:Iq}
theorem I6(p:pr 264=none)(t:pr 335=none)(q:pr 334=none)(y:pr 373=bu 373){b0 U:UInt8}{r:Bq}(h1:U≠169)(A:169∉r):Ef pr 264 #[str (b0::U::r),.int .i32 233] s (num (-1)) s:=by
 have o:Ef pr 373 #[str r,.int .u8 169] s (num (-1)) s:=by obtain⟨g,c⟩:∃g,bu 373=some g:=⟨_,rfl⟩;have a:=EF.eval (P:=prog) (kt:=kg) (pr:=bu) (f:=373) (args:=#[str r,.int .u8 169]) (s:=s) (v:=num (ju (169:UInt8).toNat r 0)) (s':=s) 1 kq;rw[pQ A] at a;have⟨m,a⟩:=a;refine EF.vp (y.trans c) ?_;unfold bH at a;rw[c] at a;exact a
 have d:Ef pr 334 #[str r,.int .u8 169] s (num (-1)) s:=by refine EF.of q func334 rfl ?_;exact zs (zr (zc 2 o (zf (EW.ret ⟨.inr rfl,kq,kq⟩))))
 have h:Ef pr 335 #[.int .i32 233] s (.bool true) s:=by refine EF.of t func335 rfl ?_;exact zs (EW.seq (EW.block (zr (zf (za s (zH (zs (EW.ret ⟨.inr rfl,kq,kq⟩))))))))
 have z:str (((b0::U::r).take (b0::U::r).length).drop 2)=str r:=gq
 refine EF.of p func264 rfl ?_;refine zs (EW.block ?_);iterate 2
  refine zr ?_
  refine zf ?_
  refine za s ?_
  refine zG ?_
 refine zr (zc 1 h (zf (za s (zG (EW.scope ?_)))));iterate 4 refine zs ?_
 refine za s (EW.seq (EW.block ?_));refine EW.loop ?_;refine EW.seq (zr (zk 2 (zp (cY (l:=b0::U::r) rfl underlying9 kq) (zp (aQ (u:=num 1) (w:=num ((b0::U::r).length:Nat)) rfl kq kq (aX (b:=true) (tD gq))) (EO.nil (za s (zT (EW.block (EW.scope (EW.seq (EW.seq (EW.draw kq kq kq ?_))))))))))));iterate 2 refine zq ?_
 refine zu (jW (l:=b0::U::r) (k:=.i64) (n:=1) (b:=U) rfl underlying9 kq kq dq rfl) ?_;iterate 3 refine zq ?_
 refine zu (aQ (u:=.int .u8 U.toNat) (w:=.int .u8 169) rfl kq kq (cM (b:=true) (bne_iff_ne.2 (λe=>h1 (UInt8.toNat_inj.1 gq))))) (ET.nil ⟨aI [] kq iq,_,_,_,_,_,_,rfl,rfl,?_⟩);refine za s (zH (EW.seq (EW.draw kq kq kq ?_)));iterate 3 refine zq ?_
 refine zt s (ET.op (v:=str r) (s1:=s) kq ((xK (l:=b0::U::r) (i:=2) (j:=(b0::U::r).length) rfl underlying9 kq ((show _=bD (b0::U::r).length (b0::U::r).length (some (num 2)) none by kernel_rfl).trans (gL dq gq))).trans (congrArg (λx=>some (x,s)) z)) ?_);iterate 3 refine zq ?_
 refine zt s (ET.gd #[str r,.int .u8 169] kq rfl rfl kq kq d (zq (ET.nil ⟨aI [] kq iq,_,_,_,_,_,_,rfl,rfl,?_⟩)));exact za s (EW.seq (zr (zf (za s (zH (zs (EW.ret ⟨.inr rfl,kq,kq⟩)))))))
theorem xt{l:Int}(h:l<0\/127<l)(a:Hf stops):gz l stops=false:=by
 unfold gz;rw[List.any_eq_false];intro b U
 have:=a b U;grind
def Qu(b:pr 264=none)(c:pr 335=none)(stops:Bq):Ef pr 264 #[str stops,.int .i32 (-1)] s (num (-1)) s:=by
 have a:Ef pr 335 #[.int .i32 (-1)] s (.bool false) s:=by refine EF.of c func335 rfl ?_;exact zs (EW.seq (EW.block (zr (zf (za s (zG (zr (zf (za s (zF (zs (EW.ret ⟨.inr rfl,kq,kq⟩))))))))))))
 refine EF.of b func264 rfl ?_;refine zs (EW.block ?_);iterate 2
  refine zr ?_
  refine zf ?_
  refine za s ?_
  refine zG ?_
 exact zr (zc 1 a (zf (za s (zH (zs (EW.ret ⟨.inr rfl,kq,kq⟩))))))
def I8(c:pr 264=none)(d:pr 335=none)(e:stops.length<=1):Ef pr 264 #[str stops,.int .i32 233] s (num (-1)) s:=by
 have a:Ef pr 335 #[.int .i32 233] s (.bool true) s:=by refine EF.of d func335 rfl ?_;exact zs (EW.seq (EW.block (zr (zf (za s (zH (zs (EW.ret ⟨.inr rfl,kq,kq⟩))))))))
 refine EF.of c func264 rfl ?_;refine zs (EW.block ?_);iterate 2
  refine zr ?_
  refine zf ?_
  refine za s ?_
  refine zG ?_
 refine zr (zc 1 a (zf (za s (zG (EW.scope ?_)))));iterate 4 refine zs ?_
 exact za s (EW.seq (EW.block (EW.loop (EW.seq (zr (zk 2 (zp (cY (l:=stops) rfl underlying9 kq) (zp (aQ (u:=num 1) (w:=num (stops.length:Nat)) rfl kq kq (aX (b:=false) (fD oq))) (EO.nil (za s (zG (EW.exit (EW.seq (zs (EW.ret ⟨.inr rfl,kq,kq⟩)))))))))))))))
theorem JF(a:VB rn all pr)(U:pr 335=none){l:Int}(n:l = -1\/∃c:Nat,It c/\l=((c:Nat):Int))(g:Hf stops):Ef pr 328 #[.int .i32 l,str stops] s (.bool (gz l stops)) s:=by
 have f:Ef pr 264 #[str stops,.int .i32 l] s (num (-1)) s->Ef pr 328 #[.int .i32 l,str stops] s (.bool false) s:=by
  intro m;have d:Ef pr 160 #[str stops,.int .i32 l] s (.bool false) s:=by refine EF.of (a.no 160 dq) func160 rfl ?_;exact zs (zr (zc 2 m (zf yR)))
  exact EF.of (a.no 328 dq) func328 rfl (zs (zr (zc 2 d (zf yR))))
 rcases n with rfl|⟨c,hc|rfl,rfl⟩
 .rw[xt (.inl dq) g];exact f (Qu (a.no 264 dq) U stops)
 .have j:(UInt8.ofNat c).toNat=c:=by rw[UInt8.toNat_ofNat'];omega
  have o:gz ((c:Nat):Int) stops=decide (UInt8.ofNat c∈stops):=by
   unfold gz;rw[Bool.eq_iff_iff,List.any_eq_true,decide_eq_true_iff];constructor
   .rintro⟨b,a4,a5⟩;have:b.toNat=c:=gq
    rw[<-this,UInt8.ofNat_toNat];exact a4
   .grind
  rw[o];by_cases i:UInt8.ofNat c∈stops
  .have:=Gb a (s:=s) (b:=UInt8.ofNat c) oq i;grind
  .have:=Jc a (s:=s) (b:=UInt8.ofNat c) oq i;grind
 .rw[xt (.inr dq) g];refine f ?_;have k:∀b∈stops,b≠169:=λb j e=>by have:=g b j;rw[e] at this;revert this;decide
  match stops,k with
  | [],_=>exact I8 (a.no 264 dq) U dq
  | [b0],_=>exact I8 (a.no 264 dq) U (jl 1)
  | b0::b1::r,h=>exact I6 (a.no 264 dq) U (a.no 334 dq) a.JQ (h b1 iq) λz=>h 169 (by simp[z]) rfl
end
def Ha (b:UInt8):Bool:=[9,10,12,13,32].contains b.toNat
def oy (l:Bq):Bq:=l.dropWhile Ha
def uP (l:Bq):Bq:=(l.reverse.dropWhile Ha).reverse
def A9(l:Bq)(b:UInt8):uP (l++[b])=if Ha b=true then uP l else l++[b]:=by
 unfold uP;rw[List.reverse_append,List.reverse_singleton,List.singleton_append,List.dropWhile_cons];split
 .rfl
 .simp
theorem KN{l:Bq}{b:UInt8}(h:l[l.length-1]?=some b)(U:0<l.length):l.take (l.length-1)++[b]=l:=by have h1:=List.take_succ (l:=l) (i:=l.length-1);grind
def NM(l:Bq):(uP l).length<=l.length:=by
 unfold uP
 have:=(List.dropWhile_sublist (l:=l.reverse) Ha).length_le;simp at this |-;exact this
def eA:Array Value:=((List.range 256).map λi=>Value.bool ([9,10,12,13,32].contains i)).toArray
section
def Rt(b:UInt8):eA[b.toNat]?=some (.bool (Ha b)):=by have a:b.toNat<256:=UInt8.toNat_lt b;unfold eA Ha;simp[List.getElem?_map,List.getElem?_range a]
theorem MQ{P:Program}{kt:TypeId->Bool}{c:fI}{a:TL}{o:Oper}{t e:TypeId}{x i:Operand}{b n:Nat}{k:IntKind}{j:Int}(U:o.op=.indexAddr t x i)(d:P.underlying t=some (.array n e))(g:bP P e=some sz)(f:a.at x=am b off)(hi:a.at i=.int k j)(h:0<=j)(h1:j<n):bN P kt c a o s=some (am b (off+j.toNat*sz),s):=by refine ej (by rw[U];rfl) gq ?_;unfold cj;rw[U];simp only;rw[d,f,hi];simp only[am];grind
theorem IZ(U:pr 356=none)(a:s.get B=some (.cells eA 285))(b:UInt8):Ef pr 356 #[am B 0,.int .u8 b.toNat] s (.bool (Ha b)) s:=by have c:=Rt b;generalize Ha b=t at c;have d:b.toNat<256:=UInt8.toNat_lt b;exact EF.of U func356 rfl (zs (zr (zg 3 s (zp (MQ (b:=B) (off:=0) (n:=256) (k:=.u8) (j:=(b.toNat:Nat)) (sz:=1) rfl underlying285 kq kq kq oq oq) (zp (bw (b:=B) (off:=0+((b.toNat:Nat):Int).toNat*1) (v:=.bool t) rfl underlying4 rfl kq a gq) (zf yR))))))
def Km(l:Bq)(B:Nat)(x:Nq):TL:=[str l,am B 0,x 2,x 3,str []]++gD x 5 11
theorem wN(o:pr 299=none)(p:pr 356=none)(z:s.get B=some (.cells eA 285)){l:Bq}(E:l.length<=1000000):Ef pr 299 #[str l,am B 0] s (str (oy l)) s:=by
 suffices h:Ew pr (match Tryz.f299.body with|some c=>c|none=>.skip) ((#[str l,am B 0]:Aq).toList++List.replicate (Tryz.f299.ntmps-(#[str l,am B 0]:Aq).toList.length) undef) s (λe a s1=>(e=.normal\/e=.ret)/\s1=s/\c8 prog Tryz.f299 a s1=some (str (oy l))) by have⟨m,e,a,s1,h1,A,h2,y⟩:=h;exact EF.of o func299 rfl ⟨m,e,a,s1,h1,A,y,h2⟩
 refine zs (EW.fill (Km l B) kq ?_);intro D;refine EW.seq (EW.block ?_);refine EW.mono (EW.dG (Q:=λe a s1=>e=.exit 0/\s1=s/\∃x,a=Km (oy l) B x) (λm a s1=>s1=s/\∃U:Bq,U.length=m/\oy U=oy l/\U.length<=l.length/\∃x,a=Km U B x) ?_ l.length _ _ ⟨rfl,l,rfl,rfl,lr,D,rfl⟩) ?_
 .rintro m a S ⟨rfl,U,rfl,d,q,x,rfl⟩;by_cases C:0<U.length
  .refine EW.seq (zr (zk 1 (zp (cY (l:=U) rfl underlying9 kq) (zp (aQ (u:=num (U.length:Nat)) (w:=num 0) rfl kq kq (dQ (b:=true) (tD oq))) (EO.nil (za S (zT (EW.block ?_))))))));obtain⟨b,r,rfl⟩:∃b r,U=b::r:=by cases U with
    | nil=>simp at C
    | cons b r=>exact⟨b,r,rfl⟩
   have g:=IZ (pr:=pr) p z b;generalize f:Ha b=t at g;refine EW.seq (zr (zk 2 (zp (jW (l:=b::r) (k:=.i64) (n:=0) (b:=b) rfl underlying9 kq kq dq rfl) (zo S (zc 0 g ?_)))));cases t with
   | false =>refine zf ?_;refine za S (zH (EW.exit ?_));rw[show oy l=b::r by rw[<-d];unfold oy;rw[List.dropWhile_cons,iw gq]];exact⟨rfl,rfl,aR kq⟩
   | true =>refine zf ?_;refine za S (zF (zx (zk 1 (EO.op (v:=str r) (s1:=S) kq ((xK (l:=b::r) (i:=1) (j:=(b::r).length) rfl underlying9 kq ((show _=bD (b::r).length (b::r).length (some (num 1)) none by kernel_rfl).trans (gL dq gq))).trans (congrArg (λx=>some (x,S)) (show str (((b::r).take (b::r).length).drop 1)=str r by rw[List.take_length];rfl))) (zf ?_)))));exact⟨r.length,by simp,rfl,r,rfl,by rw[<-d];unfold oy;rw[List.dropWhile_cons,ip f],by simp at q;omega,aR kq⟩
  .obtain rfl:U=[]:=List.length_eq_zero_iff.1 oq;refine EW.seq (zr (zf (za S (zG (EW.exit ?_)))));rw[<-d];exact⟨rfl,rfl,aR kq⟩
 .rintro e a S ⟨rfl,rfl,x,rfl⟩;exact zs (EW.ret ⟨.inr rfl,kq,kq⟩)
def Kn(l:Bq)(B:Nat)(x:Nq):TL:=[str l,am B 0,x 2,x 3,str []]++gD x 5 17
theorem GS(q:pr 300=none)(y:pr 356=none)(A:s.get B=some (.cells eA 285)){l:Bq}(H:l.length<=1000000):Ef pr 300 #[str l,am B 0] s (str (uP l)) s:=by
 suffices h:Ew pr (match Tryz.f300.body with|some c=>c|none=>.skip) ((#[str l,am B 0]:Aq).toList++List.replicate (Tryz.f300.ntmps-(#[str l,am B 0]:Aq).toList.length) undef) s (λe d s1=>(e=.normal\/e=.ret)/\s1=s/\c8 prog Tryz.f300 d s1=some (str (uP l))) by have⟨m,e,d,s1,h1,D,h2,z⟩:=h;exact EF.of q func300 rfl ⟨m,e,d,s1,h1,D,z,h2⟩
 refine zs (EW.fill (Kn l B) kq ?_);intro F;refine EW.seq (EW.block ?_);refine EW.mono (EW.dG (Q:=λe d s1=>e=.exit 0/\s1=s/\∃x,d=Kn (uP l) B x) (λm d s1=>s1=s/\∃U:Bq,U.length=m/\uP U=uP l/\U.length<=l.length/\∃x,d=Kn U B x) ?_ l.length _ _ ⟨rfl,l,rfl,rfl,lr,F,rfl⟩) ?_
 .rintro m d S ⟨rfl,U,rfl,f,G,x,rfl⟩;by_cases E:0<U.length
  .refine EW.seq (zr (zk 1 (zp (cY (l:=U) rfl underlying9 kq) (zp (aQ (u:=num (U.length:Nat)) (w:=num 0) rfl kq kq (dQ (b:=true) (tD oq))) (EO.nil (za S (zT (EW.block ?_))))))));obtain⟨b,C⟩:∃b,U[U.length-1]?=some b:=⟨_,gE oq⟩;have p:=IZ (pr:=pr) y A b;generalize g:Ha b=t at p;have a:=KN C E;generalize o:U.length=n at *;refine EW.seq (zr (zk 3 (zp (cY (l:=U) rfl underlying9 kq) ?_)));rw[o];refine zp (gJ (i:=((n:Nat):Int)) (j:=1) (r:=((n-1:Nat):Int)) rfl kq kq oq oq) (zp (jW (l:=U) (k:=.i64) (n:=((n-1:Nat):Int)) (b:=b) rfl underlying9 kq kq oq gq) (zo S (zc 0 p ?_)));cases t with
   | false =>refine zf ?_;refine za S (zH (EW.exit ?_));rw[show uP l=U by rw[<-f];rw[<-a,A9,iw gq]];exact⟨rfl,rfl,aR kq⟩
   | true =>refine zf ?_;refine za S (zF (zx (zk 2 (zp (cY (l:=U) rfl underlying9 kq) ?_))));rw[o];refine zp (gJ (i:=((n:Nat):Int)) (j:=1) (r:=((n-1:Nat):Int)) rfl kq kq oq oq) (EO.op (v:=str (U.take (n-1))) (s1:=S) kq ((xK (l:=U) (i:=0) (j:=n-1) rfl underlying9 kq ((show _=bD U.length U.length none (some (num ((n-1:Nat):Int))) by kernel_rfl).trans ((oG oq oq).trans gq))).trans (congrArg (λx=>some (x,S)) (show str ((U.take (n-1)).drop 0)=_ by rw[List.drop_zero]))) (zf ?_));exact⟨n-1,by omega,rfl,U.take (n-1),by rw[List.length_take];omega,by rw[<-f,<-a,A9,ip g,a],by rw[List.length_take];omega,aR kq⟩
  .obtain rfl:U=[]:=List.length_eq_zero_iff.1 oq;refine EW.seq (zr (zf (za S (zG (EW.exit ?_)))));rw[<-f];exact⟨rfl,rfl,aR kq⟩
 .rintro e d S ⟨rfl,rfl,x,rfl⟩;exact zs (EW.ret ⟨.inr rfl,kq,kq⟩)
def Uy:List FuncId:=[198,298,299,300,356]
def Ux:List FuncId:=[298,299,316,356]
def Rz(a:∀f,f∈Uy->pr f=none)(i:w.length<=1000000)(c:Ef pr 298 #[str [9,10,12,13,32]] ⟨[],4066⟩ (.tuple #[.agg eA,.bool true]) ((⟨[],4066⟩:AS).add (.cells eA 285))):∃m,Ef pr 198 #[str w,str [9,10,12,13,32]] ⟨[],4066⟩ (str (oy (uP w))) m:=by
 by_cases d:w=[]
 .subst d;refine⟨⟨[],4066⟩,?_⟩;exact EF.of (a 198 dq) func198 rfl (zs (EW.seq (zr (zf (za (⟨[],4066⟩) (zH (zs (EW.ret ⟨.inr rfl,kq,kq⟩))))))))
 .have h:=Has.new ((⟨[],4066⟩:AS).add (.cells eA 285)) (.cells ((List.replicate 256 (Value.bool false)).toArray) 285);have g:(((⟨[],4066⟩:AS).add (.cells eA 285)).add (.cells ((List.replicate 256 (Value.bool false)).toArray) 285)).set 4067 (some (.cells eA 285))=((⟨[],4066⟩:AS).add (.cells eA 285)).add (.cells eA 285):=AS.set_set (⟨((⟨[],4066⟩:AS).add (.cells eA 285)).hp,4068⟩:AS) 4067 (some (.cells ((List.replicate 256 (Value.bool false)).toArray) 285)) (some (.cells eA 285));have e:=Has.new ((⟨[],4066⟩:AS).add (.cells eA 285)) (.cells eA 285);have j:=GS (a 300 dq) (a 356 dq) e.2 i;have k:=wN (a 299 dq) (a 356 dq) e.2 (l:=uP w) (by have:=NM w; omega);refine⟨((⟨[],4066⟩:AS).add (.cells eA 285)).add (.cells eA 285),?_⟩;refine EF.of (a 198 dq) func198 rfl ?_;refine zs (EW.seq (zr (zk 1 (zp (aQ (u:=str w) (w:=str []) rfl kq kq (by unfold dw; simp only; rw[kv d])) ?_))));iterate 2
   refine zf ?_
   refine za (⟨[],4066⟩) ?_
   refine zF ?_
   refine EW.seq (zr ?_)
  refine zc 1 c (zg 4 (((⟨[],4066⟩:AS).add (.cells eA 285)).add (.cells ((List.replicate 256 (Value.bool false)).toArray) 285)) (zp (fx (b:=4067) (off:=0) (w:=.agg eA) (ws:=eA.toList) rfl kq kq rfl rfl kq h.2 (by show 0+256<=256; decide)) (zf (za ((((⟨[],4066⟩:AS).add (.cells eA 285)).add (.cells ((List.replicate 256 (Value.bool false)).toArray) 285)).set 4067 (some (.cells eA 285))) ?_))));rw[g];exact zr (zf (za (((⟨[],4066⟩:AS).add (.cells eA 285)).add (.cells eA 285)) (zH (zr (zc 1 j (zc 0 k (zf (EW.ret ⟨.inr rfl,kq,kq⟩))))))))
def NO(a:∀f,f∈Ux->pr f=none)(i:w.length<=1000000)(c:Ef pr 298 #[str [9,10,12,13,32]] ⟨[],4066⟩ (.tuple #[.agg eA,.bool true]) ((⟨[],4066⟩:AS).add (.cells eA 285))):∃k,Ef pr 316 #[str w,str [9,10,12,13,32]] ⟨[],4066⟩ (str (oy w)) k:=by
 by_cases d:w=[]
 .subst d;refine⟨⟨[],4066⟩,?_⟩;exact EF.of (a 316 dq) func316 rfl (zs (EW.seq (zr (zf (za (⟨[],4066⟩) (zH (zs (EW.ret ⟨.inr rfl,kq,kq⟩))))))))
 .have h:=Has.new ((⟨[],4066⟩:AS).add (.cells eA 285)) (.cells ((List.replicate 256 (Value.bool false)).toArray) 285);have g:(((⟨[],4066⟩:AS).add (.cells eA 285)).add (.cells ((List.replicate 256 (Value.bool false)).toArray) 285)).set 4067 (some (.cells eA 285))=((⟨[],4066⟩:AS).add (.cells eA 285)).add (.cells eA 285):=AS.set_set (⟨((⟨[],4066⟩:AS).add (.cells eA 285)).hp,4068⟩:AS) 4067 (some (.cells ((List.replicate 256 (Value.bool false)).toArray) 285)) (some (.cells eA 285));have e:=Has.new ((⟨[],4066⟩:AS).add (.cells eA 285)) (.cells eA 285);have j:=wN (a 299 dq) (a 356 dq) e.2 (l:=w) i;refine⟨((⟨[],4066⟩:AS).add (.cells eA 285)).add (.cells eA 285),?_⟩;refine EF.of (a 316 dq) func316 rfl ?_;refine zs (EW.seq (zr (zk 1 (zp (aQ (u:=str w) (w:=str []) rfl kq kq (by unfold dw; simp only; rw[kv d])) ?_))));iterate 2
   refine zf ?_
   refine za (⟨[],4066⟩) ?_
   refine zF ?_
   refine EW.seq (zr ?_)
  refine zc 1 c (zg 4 (((⟨[],4066⟩:AS).add (.cells eA 285)).add (.cells ((List.replicate 256 (Value.bool false)).toArray) 285)) (zp (fx (b:=4067) (off:=0) (w:=.agg eA) (ws:=eA.toList) rfl kq kq rfl rfl kq h.2 (by show 0+256<=256; decide)) (zf (za ((((⟨[],4066⟩:AS).add (.cells eA 285)).add (.cells ((List.replicate 256 (Value.bool false)).toArray) 285)).set 4067 (some (.cells eA 285))) ?_))));rw[g];exact zr (zf (za (((⟨[],4066⟩:AS).add (.cells eA 285)).add (.cells eA 285)) (zH (zr (zc 1 j (zf (EW.ret ⟨.inr rfl,kq,kq⟩)))))))
end
section
def AX{l:List Nd}{v:Nd}(h:l[k]?=some u)(b:yz v=yz u):dY (l.set k v)=dY l:=by unfold dY;rw[List.map_set,b];have a:=gS.1 h;have⟨h1,h2⟩:=a;rw[<-h2,<-List.getElem_map yz (h:=by simpa using h1)];exact List.set_getElem_self _
def zN{a:fF}{x:Bq × Bq}(h:ki a):ki (dW a x):=by
 unfold dW;split
 .next b =>
  simp only[lV,decide_eq_true_eq,Bool.not_eq_true'] at b;refine⟨by simp;omega,?_⟩;rw[Bz];refine List.nodup_append.2 ⟨h.2,by simp,λy f z c=>?_⟩;simp at c;subst c;rintro rfl;have⟨p,d,e⟩:=List.mem_map.1 f
  have:=List.any_eq_false.1 b.2 p d;exact this ((dz _ _).2 e)
 .exact h
def IH(l:fF):∀{a:fF},ki a->ki (l.foldl dW a):=by
 induction l with
 | nil=>intro a h;exact h
 | cons x l b=>intro a h;exact b (zN h)
def Gv.iI(h:Gv acc σ)(d:σ.nodes[k]?=some u)(i:ki aF):Gv acc (σ.iI k aF):=by
 have e:(σ.iI k aF).nodes=σ.nodes.set k { u with aM:=aF }:=by unfold TS.iI;rw[gP d]
 refine⟨?_,λv f=>?_⟩
 .rw[e,AX (v:={ u with aM:=aF }) d rfl];exact h.g
 .rw[e] at f;rcases List.mem_or_eq_of_mem_set f with q|q
  .exact h.pn v q
  .subst q;have⟨a,b,c⟩:=h.pn u (mG d);exact⟨a,i,c⟩
theorem Gv.node(h:Gv acc σ)(U:j<σ.row.length):∃u,σ.nodes[σ.row.getD j 0]?=some u/\u.name=nameAt σ j/\u.kind=1:=by
 have h1:σ.row[j]?=some σ.row[j]:=gE U;have h2:σ.row.getD j 0=σ.row[j]:=gq
 have⟨q,n,e1,_⟩:=h.g.c.el _ (mG h1);rw[qo] at e1;rw[h2];cases hu:σ.nodes[σ.row[j]]? with
 | none=>rw[hu] at e1;cases e1
 | some u =>
  rw[hu] at e1;have e1:some (yz u)=some (1,q,n):=e1;refine⟨u,rfl,?_,?_⟩
  .unfold nameAt;rw[h1];simp only[hu]
  .exact congrArg Prod.fst (CX e1)
def Gv.give(h:Gv acc σ)(hi:i<σ.row.length):Gv acc (σ.give i aF):=by have⟨u,h1,_⟩:=h.node hi;unfold TS.give;rw[gP h1];exact h.iI h1 (IH aF (h.pn u (mG h1)).2.1)
def tT(σ:TS)(i:Nat)(aF:fF):(σ.give i aF).nodes.length=σ.nodes.length/\(σ.give i aF).w=σ.w:=by unfold TS.give TS.iI;simp
theorem Gv.words(h:Gv acc σ)(f:tx≠[])(l:σ.w≠0):Gv (acc+tx.length) (σ.words tx)/\(σ.words tx).w=σ.w/\(σ.words tx).nodes.length<=σ.nodes.length+1:=by
 have m:0<σ.nodes.length:=by have:=h.g.c.lt 0 (mG h.g.c.r0);rw[fR] at this;omega
 have U:σ.nodes[σ.nodes.length-1]?=some σ.nodes[σ.nodes.length-1]:=gE oq;generalize σ.nodes[σ.nodes.length-1]=u at U;unfold TS.words;rw[gP U];split
 .next i =>
  unfold TS.join;rw[gP U];refine⟨⟨?_,λv k=>?_⟩,rfl,by simp⟩
  .show Gs (dY (σ.nodes.set _ _)) _ _ _;rw[AX (v:={ u with text:=u.text++tx }) U rfl];exact h.g
  .rcases List.mem_or_eq_of_mem_set k with q|q
   .have⟨a,b,c⟩:=h.pn v q;exact⟨a,b,by omega⟩
   .subst q;have⟨a,b,c⟩:=h.pn u (mG U);refine⟨λ_=>?_,b,?_⟩
    .show u.text++tx≠[];simp[f]
    .grind
 .next i =>refine⟨(h.mono oq).put (.inr (.inl rfl)) (λ_=>⟨λe=>?_,f⟩) (λ_=>l) nodup_nil gq,rfl,by unfold TS.put;simp⟩;have⟨n,d⟩:=h.g.c.lc2 e;rw[fR,qo,U] at d;have d:some (yz u)=some (2,((σ.row.getLastD 0:Nat):Int),n):=d;have e1:=congrArg (λx=>x.map (λ(y:Sk)=>y.1)) d;have j:=congrArg (λx=>x.map (λ(y:Sk)=>y.2.1)) d;exact i ⟨CX e1,CX j⟩
theorem IC:∀a,aH a bq=true->aH a dH=false/\gM a=false:=by
 intro a h;have b:bq.all (λn=>!aH n dH&&!gM n)=true:=dq
 have⟨y,U,e⟩:=List.any_eq_true.1 h;have e:=(dz _ _).1 e;grind
def Al(σ:TS)(k:Nat)(l:List Nat):{ σ with again:=l }.eu k={ σ.eu k with again:=l }:=rfl
def zK(l:List Nat):∀(σ:TS) (m:List Nat),l.foldl TS.eu { σ with again:=m }={ l.foldl TS.eu σ with again:=m }:=by
 induction l with
 | nil=>intro σ m;rfl
 | cons k l a=>intro σ m;rw[List.foldl_cons,List.foldl_cons,Al,a]
def CO(σ:TS):σ.du=(σ.again.take (40-σ.row.length)).foldl TS.eu { σ with again:=[] }:=by rw[zK];rfl
theorem Gv.du(h:Gv acc σ)(D:σ.w≠0):Gv acc σ.du/\σ.du.w=σ.w/\σ.du.again=[]/\σ.du.nodes.length<=σ.nodes.length+40/\∀k<σ.nodes.length,σ.du.nodes[k]?=σ.nodes[k]?:=by
 have A:Gv acc { σ with again:=[] }:=⟨h.g.mono (Nat.zero_le _) (λk j=>by cases j),h.pn⟩;rw[CO];have p:∀(l:List Nat) (a:TS),Gv acc a->a.again=[]->a.w=σ.w->σ.nodes.length<=a.nodes.length->(∀k<σ.nodes.length,a.nodes[k]?=σ.nodes[k]?)->(∀k∈l,k∈σ.again)->Gv acc (l.foldl TS.eu a)/\(l.foldl TS.eu a).w=σ.w/\(l.foldl TS.eu a).again=[]/\(l.foldl TS.eu a).nodes.length=a.nodes.length+l.length/\∀k<σ.nodes.length,(l.foldl TS.eu a).nodes[k]?=σ.nodes[k]?:=by
  intro l;induction l with
  | nil=>intro a h1 h2 h3 B d _;exact⟨h1,h3,h2,rfl,d⟩
  | cons k l C =>
   intro a h1 h2 h3 B d y;have⟨f,i⟩:=h.g.ag k (y k (List.mem_cons_self ..));rw[fR] at f;obtain⟨u,o⟩:∃u,σ.nodes[k]?=some u:=⟨_,gE f⟩;have m:a.kQ k=u:=gP ((d k f).trans o);have b:aH u.name bq=true:=by unfold il vi at i;rw[qo,o] at i;exact i
   have z:=h1.open_ (nm:=u.name) (aF:=u.aM) gq (λ_ e=>by have:=(show aH gg bq=true from e▸b);revert this;decide) (IC _ b).1 (λ_=>h2) (h.pn u (mG o)).2.1;have c:(a.open_ u.name u.aM).nodes.length=a.nodes.length+1:=by unfold TS.open_ TS.put;simp
   have U:a.eu k=a.open_ u.name u.aM:=by unfold TS.eu;rw[m]
   rw[List.foldl_cons,U];have⟨r,s,t,v,x⟩:=C (a.open_ u.name u.aM) z h2 h3 oq (λq n=>by rw[<-d q n];show(a.nodes++[_])[q]?=_;rw[vA oq]) (λq n=>y q (Jo _ n));exact⟨r,s,t,by rw[v,c,lC];omega,x⟩
 have⟨r,s,t,v,x⟩:=p (σ.again.take (40-σ.row.length)) { σ with again:=[] } A rfl rfl lr (λ_ _=>rfl) (λk j=>List.mem_of_mem_take j);refine⟨r,s,t,?_,x⟩;rw[v,List.length_take];show σ.nodes.length+_<=_;omega
section
variable (h:Gv acc σ)
def Gv.forget(nm:Bq):Gv acc (σ.forget nm)/\(σ.forget nm).nodes=σ.nodes/\(σ.forget nm).w=σ.w:=by
 unfold TS.forget;split
 .exact⟨h,rfl,rfl⟩
 .exact⟨⟨h.g.mono (List.length_eraseIdx_le _ _) (λk a=>List.mem_of_mem_eraseIdx a),h.pn⟩,rfl,rfl⟩
def Gv.ib(hi:2<=i):Gv acc (σ.ib i)/\(σ.ib i).nodes=σ.nodes/\(σ.ib i).w=σ.w:=by
 unfold TS.ib;split
 .exact⟨h.close hi,rfl,rfl⟩
 .exact⟨h,rfl,rfl⟩
def Gv.cQ{j:Int}(a:j<1\/2<=j):Gv acc (σ.cQ j)/\(σ.cQ j).nodes=σ.nodes/\(σ.cQ j).w=σ.w:=by
 unfold TS.cQ;split
 .exact⟨h,rfl,rfl⟩
 .exact⟨h.close oq,rfl,rfl⟩
def Gv.Oz(g:σ.w=2)(c:aH me l=false)(h1:aH pd l=false):cD σ l = -1\/2<=cD σ l:=by
 have e:=jR σ l;by_cases f:cD σ l = -1
 .exact .inl f
 .have⟨j,d⟩:=Int.eq_ofNat_of_zero_le (show 0<=cD σ l by omega);have a:=(pV σ l _ j d).1;have b:=(h.Jr g).1;match j with
  | 0=>rw[h.z8,c] at a;cases a
  | 1=>rw[b,h1] at a;cases a
  | j+2=>right;omega
def Gv.pw(b:σ.w=2){m:List (Bq)}(a:aH me m=false)(h1:aH pd m=false):bC σ l m = -1\/2<=bC σ l m:=by
 unfold bC;split
 .exact .inl rfl
 .exact h.Oz b a h1
end
def Gv.opens(ls:List (List (Bq)))(a:∀l∈ls,aH (l.headD []) dH=false/\aH (l.headD []) bq=false):∀{σ:TS},Gv acc σ->σ.w=2->Gv acc (σ.opens ls)/\(σ.opens ls).w=σ.w:=by
 induction ls with
 | nil=>intro σ h _;exact⟨h,rfl⟩
 | cons l ls f =>
  intro σ h d;have b:=a l (List.mem_cons_self ..)
  have:=h.open_ (nm:=l.headD []) (aF:=[]) oq (λe=>by omega) b.1 (λe=>by rw[b.2] at e;cases e) nodup_nil;have r:=f (λg c=>a g (Jo _ c)) this d;exact⟨r.1,r.2⟩
def Gv.part(h:Gv acc σ)(a:σ.w=2){ls:List (List (Bq))}(g:∀l∈ls,aH (l.headD []) dH=false/\aH (l.headD []) bq=false):Gv acc (σ.part ls)/\(σ.part ls).w=2/\(σ.part ls).nodes.length<=σ.nodes.length+ls.length:=by
 unfold TS.part;split
 .exact⟨h,a,by omega⟩
 .next j =>have c:=(h.Oz a (l:=[BA]) dq dq).resolve_left j;unfold TS.EG;have⟨e,f,d⟩:=h.ib (i:=(cD σ [BA]).toNat+1+σ.ny ((cD σ [BA]).toNat+1) ls) oq;have⟨k,m⟩:=Gv.opens (ls.drop (σ.ny ((cD σ [BA]).toNat+1) ls)) (λl b=>g l (List.mem_of_mem_drop b)) e (by rw[d,a]);exact⟨k,by rw[m,d,a],by rw[wa,f,List.length_drop];omega⟩
def TS.G2(σ:TS)(l:List (Bq)):TS:=if aH (nameAt σ (σ.row.length-1)) l=true then σ.eE (σ.row.length-1) else σ
theorem Gv.G2(h:Gv acc σ)(d:aH me l=false)(h1:aH pd l=false)(h2:aH gg l=false):Gv acc (σ.G2 l)/\(σ.G2 l).nodes=σ.nodes/\(σ.G2 l).w=σ.w/\(aH (nameAt σ (σ.row.length-1)) l=true->3<=σ.row.length):=by
 have b:aH (nameAt σ (σ.row.length-1)) l=true->3<=σ.row.length:=λU=>by
  have e:0<σ.row.length:=Eg.2 h.g.c.ne;by_cases e1:σ.row.length=1
  .rw[e1,h.z8,d] at U;cases U
  .by_cases a:σ.row.length=2
   .rw[a] at U;rcases h.g.ph with ⟨_,q,_⟩|⟨q,_⟩|⟨q,_⟩
    .rw[q] at a;cases a
    .rw[(h.OE q).1,h2] at U;cases U
    .rw[(h.Jr q).1,h1] at U;cases U
   .omega
 unfold TS.G2;split
 .next U =>have:=b U;exact⟨h.close oq,rfl,rfl,λ_=>this⟩
 .grind
theorem Gv.gT(h:Gv acc σ)(k:σ.w=1):Gv acc σ.gT/\σ.gT.w=2/\cD σ [gg]≠0/\σ.gT.nodes.length=σ.nodes.length+1/\(1<=cD σ [gg]):=by
 have⟨p,s⟩:=h.OE k;have n:=ug σ [gg] σ.row.length 1 oq (by rw[p];decide);have a:cD σ [gg]=1:=by
  have r:=jR σ [gg];have⟨j,i⟩:=Int.eq_ofNat_of_zero_le (show 0<=cD σ [gg] by unfold cD;omega);have⟨d,b⟩:=pV σ [gg] _ j i;have o:1<=j:=by unfold cD at i;omega
  by_cases h2:2<=j
  .exfalso;have l:σ.row[j]?=some σ.row[j]:=gE b;rcases h.g.ph with ⟨e,_⟩|⟨_,_,_,q4⟩|⟨e,_⟩
   .omega
   .have:=q4 j _ h2 l;rw[p9 σ l] at d;have e:vi (dY σ.nodes) σ.row[j]=gg:=by
     have:cw (vi (dY σ.nodes) σ.row[j]) gg=true:=by simpa[aH] using d
     exact(dz _ _).1 this
    exact this e
   .omega
  .omega
 refine⟨?_,rfl,by omega,qQ σ,by omega⟩;have m:σ.cQ (cD σ [gg])=σ.eE 1:=by rw[a];rfl
 have f:=h.g.body k (ol σ 1);rw[fR] at f;have h1:=h.g.one;unfold TS.gT;rw[m];refine⟨?_,λv c=>?_⟩
 .unfold TS.open_;have U:(σ.eE 1).row=[0]:=h1;rw[ip gq,qq,U];exact f
 .have c:v∈σ.nodes++[⟨1,(((σ.eE 1).cur:Nat):Int),pd,[],[]⟩]:=c;rcases List.mem_append.1 c with q|q
  .exact h.pn v q
  .simp at q;subst q;exact⟨(λe=>absurd (show(1:Int)=2 from e) dq),nodup_nil,Nat.zero_le _⟩
theorem Gv.cu(h:Gv acc σ):Gv acc σ.cu/\σ.cu.w=2/\σ.cu.nodes.length<=σ.nodes.length+2:=by
 have U:=pR σ;unfold TS.cu at U |-;split
 .grind
 .split
  .next e =>obtain⟨h1,h2⟩:=h.im e nodup_nil;have⟨a,b,_,c,_⟩:=h1.gT h2;grind
  .next e1 f =>
   have d:σ.w=1:=by rcases h.g.ph with ⟨q,_⟩|⟨q,_⟩|⟨q,_⟩<;>omega
   have⟨a,b,_,c,_⟩:=h.gT d;exact⟨a,b,by omega⟩
def Gv.w3(h:Gv acc σ):σ.w=0\/σ.w=1\/σ.w=2:=by rcases h.g.ph with ⟨q,_⟩|⟨q,_⟩|⟨q,_⟩<;>omega
theorem Gv.l9(h:Gv acc σ):Gv acc σ.l9/\σ.l9.w≠0/\σ.l9.nodes.length<=σ.nodes.length+1:=by
 unfold TS.l9;split
 .next e =>obtain⟨h1,h2⟩:=h.im e nodup_nil;exact⟨h1,by rw[h2];decide,by unfold TS.im TS.open_ TS.put;simp⟩
 .grind
theorem Gv.text(h:Gv acc σ)(o:tx≠[]):Gv (acc+tx.length) (σ.text (λx=>oy (uP x)) oy tx)/\(σ.text (λx=>oy (uP x)) oy tx).nodes.length<=σ.nodes.length+50:=by
 have i:∀{d:TS} {x y:Bq},Gv acc d->d.w=2->y≠[]->y.length<=tx.length->Gv (acc+tx.length) (d.fin x y)/\(d.fin x y).nodes.length<=d.nodes.length+41:=by
  intro d x y f j k s;unfold TS.fin;split
  .have⟨a,b,c⟩:=f.words k oq;exact⟨a.mono oq,by omega⟩
  .have⟨p,t,u,v,_⟩:=f.du oq;have⟨a,b,c⟩:=p.words k oq;exact⟨a.mono oq,by omega⟩
 unfold TS.text;split
 .next U =>
  have j:σ.w≠0:=λe=>by
   rcases h.g.ph with ⟨_,q,_⟩|⟨q,_⟩|⟨q,_⟩
   .rw[q] at U;have:nameAt σ 0=me:=h.z8;simp only[List.length_singleton,Nat.sub_self] at U;rw[this] at U;revert U;decide
   .omega
   .omega
  have⟨a,b,c⟩:=h.words o j;exact⟨a,by omega⟩
 .split
  .grind
  .split
   .exact⟨h.mono oq,by omega⟩
   .next l =>obtain⟨m,n,r⟩:=h.cu;have⟨a,b⟩:=i (x:=oy (uP (oy tx))) m n l ((List.dropWhile_sublist Ha).length_le);grind
end
structure Di(pr:Prim):Prop where
 no:∀f,f∈dJ->pr f=none
 nA:∀f,f∈Ac->pr f=none
 um:pr 320=none
 Up:pr 236=none
 Uq:pr 237=none
 QM:pr 241=none
 Ur:pr 242=none
 Us:pr 245=none
 fP:pr 127=bu 127
 del:Dg pr
 tr:∀x:Bq,x.length<=1000000->∀s,EF prog kg pr 198 #[str x,str [9,10,12,13,32]] s (str (oy (uP x))) s
 tl:∀x:Bq,x.length<=1000000->∀s,EF prog kg pr 316 #[str x,str [9,10,12,13,32]] s (str (oy x)) s
def Ie (nm:Bq)(aF:fF)(σ:TS)(d:DC):TS × Bool :=
 if d.f=224 then (σ.give (cD σ d.a).toNat aF,false)
 else if d.f=230 then (σ.G2 d.a,true)
 else if d.f=233 then (σ,false)
 else if d.f=234 then (σ.cQ (bC σ d.a d.b),true)
 else if d.f=236 then (σ.part (jm d.a d.b),decide (cD σ [BA] ≠ -1))
 else if d.f=238 then (σ.du,true)
 else (σ,true)
def ja (nm:Bq)(aF:fF):List DC->TS->TS × Bool
 | [],σ=>(σ,true)
 | d::ds,σ=>if (Ie nm aF σ d).2=true then ja nm aF ds (Ie nm aF σ d).1 else ((Ie nm aF σ d).1,false)
def JB (d:DC):Bool :=
 if d.f=224 then (d.a==[me]||d.a==[pd])&&d.b.isEmpty
 else if d.f=230 then !aH me d.a&&!aH pd d.a&&!aH gg d.a&&d.b.isEmpty
 else if d.f=233 then d.a.isEmpty&&d.b.isEmpty
 else if d.f=234 then !aH me d.b&&!aH pd d.b
 else if d.f=236 then (jm d.a d.b).all λl=>!l.isEmpty&&!aH (l.headD []) dH&&!aH (l.headD []) bq
 else if d.f=238 then d.a.isEmpty&&d.b.isEmpty
 else d.f=240&&d.a.isEmpty&&d.b.isEmpty
variable {jA:TS}{b:Nat}{t:gp}{d:DC}
section
def lq{m:Bq}(h:aH n [m]=true):n=m:=by
 have:cw n m=true:=by simpa[aH] using h
 exact(dz _ _).1 this
def Gv.tt(h:Gv acc σ):σ.again.length<=50000:=by have:=h.g.fo;omega
def Gv.Tz(h:Gv acc σ):∀k∈σ.again,gM (σ.kQ k).name=false:=λk d=>by have⟨b,a⟩:=h.g.ag k d;rw[fR] at b;have c:σ.nodes[k]?=some σ.nodes[k]:=gE b;unfold il vi at a;rw[qo,c] at a;rw[gP c];exact(IC _ a).2
def Gv.QA(h:Gv acc σ)(c:j<σ.row.length)(d:nameAt σ j=n):∃i:Nat,cD σ [n]=((i:Nat):Int)/\i<σ.row.length/\nameAt σ i=n:=by have b:=ug σ [n] σ.row.length j c (by rw[d];simp[aH,(dz n n).2 rfl]);have⟨i,a⟩:=Int.eq_ofNat_of_zero_le (show 0<=cD σ [n] by unfold cD;omega);have⟨e,f⟩:=pV σ [n] _ i a;exact⟨i,a,f,lq e⟩
theorem xj(a:Di pr)(h:Gv acc σ)(m:gM n=true)(l:j<σ.row.length)(g:nameAt σ j=n)(d:ki aF):aK pr b t aF ⟨224,[n],[]⟩ σ (σ.give (cD σ [n]).toNat aF) false/\Gv acc (σ.give (cD σ [n]).toNat aF):=by
 have⟨i,k,U,f⟩:=h.QA l g;have e:(cD σ [n]).toNat=i:=gq
 rw[e];have⟨u,c,o,p⟩:=h.node U
 have:=(h.pn u (mG c)).2.1.1
 have:=d.1;exact⟨aK.S9 a.no a.nA a.fP k (by rw[gP c,o,f];exact m) (by rw[gP c];omega) oq,h.give U⟩
def Ia(a:Di pr)(h:Gv acc σ)(i:aH me l=false)(h1:aH pd l=false)(h2:aH gg l=false):aK pr b t aF ⟨230,l,[]⟩ σ (σ.G2 l) true:=by
 have⟨_,_,_,e⟩:=h.G2 i h1 h2;have f:0<σ.row.length:=Eg.2 h.g.c.ne;have⟨u,d,m,_⟩:=h.node (j:=σ.row.length-1) oq;have k:σ.row.getD (σ.row.length-1) 0=σ.cur:=by rw[tS,TS.lX h.g.c.ne];rfl
 rw[k] at d;unfold TS.G2;rw[<-m] at e |-;cases hl:aH u.name l with
 | true =>have h3:=e hl;rw[ip rfl,TS.py oq];exact aK.current a.no a.fP d hl oq
 | false =>rw[iw dq];exact aK.Ic a.no a.fP d hl
theorem U0(U:Di pr)(h:Gv acc σ)(g:σ.w=2)(c:JB d=true)(A:ki aF)(G:σ.nodes.length+100<400000000):aK pr b t aF d σ (Ie nm aF σ d).1 (Ie nm aF σ d).2/\Gv acc (Ie nm aF σ d).1/\(Ie nm aF σ d).1.w=2/\(Ie nm aF σ d).1.nodes.length<=σ.nodes.length+50:=by
 have⟨f,a,p⟩:=d;have⟨D,J⟩:=h.Jr g;unfold JB at c;unfold Ie;simp only at c |-;by_cases e:f=224
 .subst e;rw[ip rfl] at c |-;simp only[lV,BM,beq_iff_eq,List.isEmpty_iff] at c;obtain⟨B,rfl⟩:=c;have I:=λi=>tT σ i aF;rcases B with rfl|rfl
  .have⟨E,F⟩:=xj (b:=b) (t:=t) U h (n:=me) dq (j:=0) oq h.z8 A;grind
  .have⟨E,F⟩:=xj (b:=b) (t:=t) U h (n:=pd) dq (j:=1) oq D A;grind
 rw[iw e] at c |-;by_cases u:f=230
 .subst u;rw[ip rfl] at c |-;simp only[lV,Bool.not_eq_true',List.isEmpty_iff] at c;obtain⟨⟨⟨q,h1⟩,h2⟩,rfl⟩:=c;have⟨k,m,o,_⟩:=h.G2 q h1 h2;exact⟨Ia U h q h1 h2,k,by rw[o];exact g,by rw[m];omega⟩
 rw[iw u] at c |-;by_cases v:f=233
 .subst v;rw[ip rfl] at c |-;simp only[lV,List.isEmpty_iff] at c;obtain⟨rfl,rfl⟩:=c;exact⟨aK.nothing U.no,h,g,by show σ.nodes.length<=_;omega⟩
 rw[iw v] at c |-;by_cases x:f=234
 .subst x;rw[ip rfl] at c |-;simp only[lV,Bool.not_eq_true'] at c;have⟨q,h1⟩:=c;have H:=h.pw (l:=a) g q h1;have⟨k,m,o⟩:=h.cQ (j:=bC σ a p) oq;exact⟨aK.QO U.no U.um U.fP oq h.tt,k,by rw[o];exact g,by rw[m];omega⟩
 rw[iw x] at c |-;by_cases y:f=236
 .subst y;rw[ip rfl] at c |-;have s:∀l∈jm a p,l≠[]/\aH (l.headD []) dH=false/\aH (l.headD []) bq=false:=λl s=>by grind
  have⟨k,m,o⟩:=h.part g (λl r=>(s l r).2);have C:(jm a p).length<=2:=by unfold jm;split<;>split<;>simp
  exact⟨aK.part U.no U.um U.Up U.Uq U.fP (λl r=>(s l r).1) h.tt oq,k,m,by show(σ.part (jm a p)).nodes.length<=_;omega⟩
 rw[iw y] at c |-;by_cases z:f=238
 .subst z;rw[ip rfl] at c |-;simp only[lV,List.isEmpty_iff] at c;obtain⟨rfl,rfl⟩:=c;have⟨k,m,o,K,_⟩:=h.du oq;exact⟨aK.O7 U.no h.Tz oq,k,by rw[m];exact g,by show σ.du.nodes.length<=_;omega⟩
 rw[iw z] at c |-;simp only[lV,List.isEmpty_iff,decide_eq_true_eq] at c;obtain⟨⟨rfl,rfl⟩,rfl⟩:=c;exact⟨aK.Xg U.no,h,g,by show σ.nodes.length<=_;omega⟩
theorem DO(e:Di pr)(l:nm=t.name)(c:ki aF):∀(U:List DC) {σ:TS},(∀d∈U,JB d=true)->Gv acc σ->σ.w=2->σ.nodes.length+50*U.length+100<400000000->cZ pr b t aF U σ (ja nm aF U σ).1 (ja nm aF U σ).2/\Gv acc (ja nm aF U σ).1/\(ja nm aF U σ).1.w=2/\(ja nm aF U σ).1.nodes.length<=σ.nodes.length+50*U.length
 | [],σ,_,h,hw,_=>⟨cZ.nil,h,hw,by unfold ja;simp⟩
 | d::U,σ,hd,h,hw,hN=>by
  rw[lC] at hN;have⟨r1,r2,r3,f⟩:=U0 (b:=b) (t:=t) (nm:=nm) e h hw (hd d (List.mem_cons_self ..)) c oq;unfold ja;generalize Ie nm aF σ d=q at *;have⟨a,g⟩:=q;have f:a.nodes.length<=σ.nodes.length+50:=f;rw[lC];cases g with
  | true =>rw[ip rfl];have⟨m,n,o,i⟩:=DO e l c U (λj k=>hd j (Jo _ k)) r2 r3 gq;have i:(ja nm aF U a).1.nodes.length<=a.nodes.length+50*U.length:=i;exact⟨cZ.ok r1 m,n,o,by show(ja nm aF U a).1.nodes.length<=_;omega⟩
  | false =>rw[iw iq];exact⟨cZ.no r1,r2,r3,by show a.nodes.length<=_;omega⟩
theorem vK{l:List mO}(h:d∈bM nm l):∃r∈l,r.1=d:=by
 unfold bM at h;split at h
 .unfold qg at h;grind
 .unfold lF at h;grind
theorem Fv(nm:Bq)(l:List mO):(bM nm l).length<=l.length:=by unfold bM qg lF;grind
def JC:(ek.all λr=>JB r.1)=true:=dq
def JD(h:d∈bM nm ek):JB d=true:=by obtain⟨r,a,rfl⟩:=vK h;exact aT.1 JC r a
def TS.ms(σ:TS)(nm:Bq)(aF:fF):TS:=if (ja nm aF (bM nm ek) σ).2=true then (ja nm aF (bM nm ek) σ).1.e9 nm aF else (ja nm aF (bM nm ek) σ).1
def ZW(h:gM nm=true)(σ:TS)(aF:fF):(ja nm aF (bM nm ek) σ).2=false:=by
 unfold gM at h;rw[BM] at h;rcases h with h|h
 iterate 2
  .obtain rfl:=(dz _ _).1 h;kernel_rfl
def AZ:(bq.all λn=>(bM n ek).getLast?.any λd=>d.f.beq 238)=true:=dq
theorem Rr(U:List DC):∀(σ:TS),(U.getLast?.any λd=>d.f.beq 238)=true->(ja nm aF U σ).2=true->(ja nm aF U σ).1.again=[]:=by
 induction U with
 | nil=>intro σ h _;cases h
 | cons d U c =>
  intro σ h a;unfold ja at a |-;split
  .next q =>
   rw[ip q] at a;cases U with
   | nil =>have b:d.f=238:=gh (by simpa using h);unfold ja Ie;simp only[b];rfl
   | cons g e=>exact c _ gq a
  .grind
def Np(h:aH nm bq=true)(σ:TS)(aF:fF)(a:(ja nm aF (bM nm ek) σ).2=true):(ja nm aF (bM nm ek) σ).1.again=[]:=by have⟨y,b,e⟩:=List.any_eq_true.1 h;obtain rfl:=(dz _ _).1 e;exact Rr _ σ (aT.1 AZ _ b) a
def ns(σ:TS)(nm:Bq)(aF:fF):(σ.e9 nm aF).nodes.length=σ.nodes.length+1/\(σ.e9 nm aF).w=σ.w:=by unfold TS.e9 TS.open_ TS.put;split<;>simp
def wF(g:Di pr)(h:Gv acc σ)(i:σ.w=2)(c:ki aF)(q:σ.nodes.length+1000<400000000):eH pr 218 b t aF σ (σ.ms t.name aF)/\cZ pr b t aF (bM t.name ek) σ (ja t.name aF (bM t.name ek) σ).1 (ja t.name aF (bM t.name ek) σ).2/\((ja t.name aF (bM t.name ek) σ).2=true->gM t.name=false)/\(ja t.name aF (bM t.name ek) σ).1.nodes.length<400000000/\Gv acc (σ.ms t.name aF)/\(σ.ms t.name aF).w=2/\(σ.ms t.name aF).nodes.length<=σ.nodes.length+801:=by
 have r:=Fv t.name ek;have p:ek.length=15:=rfl;have⟨j,k,l,s⟩:=DO (b:=b) (nm:=t.name) g rfl c (bM t.name ek) (λd m=>JD m) h i oq;have a:(ja t.name aF (bM t.name ek) σ).2=true->gM t.name=false:=λe=>by
  cases hb:gM t.name with
  | false=>rfl
  | true=>rw[ZW hb] at e;cases e
 have f:=Kz g.no g.fP i j a oq;refine⟨f,j,a,by omega,?_,?_,?_⟩
 .unfold TS.ms;split
  .next o=>exact k.e9 oq (λe=>by omega) (λn=>Np n σ aF o) c
  .exact k
 .unfold TS.ms;split
  .rw[(ns _ _ _).2];exact l
  .exact l
 .unfold TS.ms;split
  .rw[(ns _ _ _).1];omega
  .omega
end
abbrev np:List (Bq):=[[115,99,114,105,112,116],[115,116,121,108,101],[116,105,116,108,101]]
abbrev un:List (Bq):=[pd,me,[98,114],[112]]
def TS.start(σ:TS)(nm:Bq)(aF:fF):TS :=
 if σ.w=2 then σ.ms nm aF
 else if aH nm [me]=true then σ.give (cD σ [me]).toNat aF
 else if aH nm [gg]=true then (if σ.w=0 then σ.im aF else σ)
 else if aH nm fY=true then σ.l9.e9 nm aF
 else σ.cu.ms nm aF
section
def sS(h:aH n l=true):n∈l:=by have⟨y,a,e⟩:=List.any_eq_true.1 h;rw[(dz _ _).1 e];exact a
def Qe:(fY.all λn=>(bM n j0).map (·.f)==[227]&&!gM n&&!aH n bq&&!aH n [gg])=true:=dq
def esH:bM me j0=[⟨224,[me],[]⟩]:=rq
def SX:bM gg j0=[⟨226,[],[]⟩]:=rq
def Xz(h:aH nm fY=true):∃a,bM nm j0=⟨227,[],[]⟩::a:=by have:=sS h;simp only[fY,nk,vh,or_false] at this;rcases this with rfl|rfl|rfl|rfl|rfl|rfl<;>exact⟨[],by rfl⟩
def esO(h1:aH nm [me]=false)(h2:aH nm [gg]=false)(h3:aH nm fY=false):bM nm j0=[⟨229,[],[]⟩]:=by
 have e:j0=[(⟨224,[me],[]⟩,[me]),(⟨226,[],[]⟩,[gg]),(⟨227,[],[]⟩,fY),(⟨229,[],[]⟩,[[]])]:=rfl;rw[e];unfold bM qg lF;simp only[List.filter_cons,List.filter_nil,h1,h2,h3];cases h4:aH nm [[]] with
 | true=>rfl
 | false=>rfl
theorem uL(U:Di pr)(h:Gv acc σ)(f:ki aF)(F:σ.nodes.length+1010<400000000):eH pr 218 b t aF σ (σ.start t.name aF)/\Gv acc (σ.start t.name aF)/\(σ.w=2->(σ.start t.name aF).w=2)/\(σ.start t.name aF).nodes.length<=σ.nodes.length+803:=by
 unfold TS.start;by_cases a:σ.w=2
 .rw[ip a];have⟨m,_,_,_,q,B,C⟩:=wF (b:=b) (t:=t) U h a f oq;grind
 rw[iw a];have r:0<σ.row.length:=Eg.2 h.g.c.ne;have k:=h.w3;by_cases h1:aH t.name [me]=true
 .rw[ip h1];have e:=lq h1;have⟨m,o⟩:=xj (b:=b) (t:=t) U h (n:=me) dq (j:=0) r h.z8 f;refine⟨qw U.no U.fP a ?_,o,λz=>absurd z a,by rw[(tT _ _ _).1];omega⟩;rw[e,esH];exact cZ.no m
 rw[iw h1];by_cases h2:aH t.name [gg]=true
 .rw[ip h2];have e:=lq h2;by_cases i:σ.w=0
  .rw[ip i];have⟨g1,g2⟩:=h.im i f;refine⟨qw U.no U.fP a ?_,g1,λz=>absurd z a,by unfold TS.im TS.open_ TS.put;simp⟩;rw[e,SX];exact cZ.no (aK.head U.no i oq)
  .rw[iw i];refine⟨qw U.no U.fP a ?_,h,λz=>absurd z a,by omega⟩;rw[e,SX];exact cZ.no (aK.Ty U.no i)
 rw[iw h2];by_cases h3:aH t.name fY=true
 .rw[ip h3];have⟨E,e⟩:=Xz h3;have d:=aT.1 Qe _ (sS h3);simp only[lV,Bool.not_eq_true'] at d;obtain⟨⟨⟨_,v⟩,x⟩,p⟩:=d;have⟨g1,g2,g3⟩:=h.l9;refine⟨qw U.no U.fP a ?_,g1.e9 g2 (λ_ l=>by rw[l] at p;exact absurd p dq) (λl=>by rw[x] at l;cases l) f,λz=>absurd z a,by rw[(ns _ _ _).1];omega⟩;rw[e];exact cZ.no (aK.Mi U.no U.fP k v oq)
 rw[iw h3];have⟨s,u,D⟩:=h.cu;have⟨m,o,y,A,q,B,C⟩:=wF (b:=b) (t:=t) U s u f oq;refine⟨?_,q,λz=>absurd z a,by omega⟩;refine KA U.no U.fP a (BC:=σ.cu) ?_ o y A;rw[esO gq gq gq];refine cZ.ok (aK.Oe U.no U.um U.fP k (λe=>(h.gT e).2.2.1) (λe=>?_) h.tt oq) cZ.nil;have⟨g1,g2⟩:=h.im e nodup_nil;exact(g1.gT g2).2.2.1
end
def K1 (nm:Bq)(σ:TS)(d:DC):TS × Bool :=
 if d.f=233 then (σ,false)
 else if d.f=241 then (σ.start (d.a.headD []) [],true)
 else if d.f=242 then (let τ:=if bC σ aL [[112]] = -1 then σ.start [112] [] else σ; (τ.cQ (bC τ aL [[112]]),true))
 else if d.f=234 then (σ.cQ (bC σ d.a d.b),true)
 else if d.f=244 then (if bC σ aL d.a = -1 then σ.forget (d.a.headD []) else σ.cQ (bC σ aL d.a),false)
 else (σ.cQ (bC σ aL [nm]),false)
def sv (nm:Bq):List DC->TS->TS × Bool
 | [],σ=>(σ,true)
 | d::ds,σ=>if (K1 nm σ d).2=true then sv nm ds (K1 nm σ d).1 else ((K1 nm σ d).1,false)
def mD(d:DC):Nat:=if d.f=241\/d.f=242 then 850 else 0
theorem zC{U:Type}(f:U->Nat)(p:U->Bool):∀l:List U,((l.filter p).map f).sum<=(l.map f).sum
 | []=>jl _
 | x::l=>by have:=zC f p l;grind
theorem BZ(nm:Bq)(l:List mO):((bM nm l).map mD).sum<=(l.map λr=>mD r.1).sum:=by
 have a:∀p:mO->Bool,(((l.filter p).map (·.1)).map mD).sum<=(l.map λr=>mD r.1).sum:=λp=>by rw[List.map_map];exact zC (λr:mO=>mD r.1) p l
 unfold bM qg lF;grind
def MJ (d:DC):Bool :=
 if d.f=233 then d.a.isEmpty&&d.b.isEmpty
 else if d.f=241 then d.a.length.beq 1&&d.b.isEmpty
 else if d.f=242 then d.a.isEmpty&&d.b.isEmpty
 else if d.f=234 then !aH me d.b&&!aH pd d.b
 else if d.f=244 then d.a.length.beq 1&&!aH me d.a&&!aH pd d.a&&d.b.isEmpty
 else d.f=246&&d.a.isEmpty&&d.b.isEmpty
section
def Uf(h:l.length.beq 1=true):∃x,l=[x]:=by
 have:=gh h;match l,this with
 | [x],_=>exact⟨x,rfl⟩
theorem UZ(U:Di pr)(h:Gv acc σ)(g:σ.w=2)(c:MJ d=true)(r:gM nm=false)(P:nm=t.name)(R:σ.nodes.length+1100<400000000):aK pr b t aF d σ (K1 nm σ d).1 (K1 nm σ d).2/\Gv acc (K1 nm σ d).1/\(K1 nm σ d).1.w=2/\(K1 nm σ d).1.nodes.length<=σ.nodes.length+mD d:=by
 have⟨f,a,L⟩:=d;unfold MJ at c;unfold K1;simp only at c |-;by_cases n:f=233
 .subst n;rw[ip rfl] at c |-;simp only[lV,List.isEmpty_iff] at c;obtain⟨rfl,rfl⟩:=c;exact⟨aK.nothing U.no,h,g,Nat.le_add_right _ _⟩
 rw[iw n] at c |-;by_cases B:f=241
 .subst B;rw[ip rfl] at c |-;simp only[lV,List.isEmpty_iff] at c;obtain⟨u,rfl⟩:=c;obtain⟨x,rfl⟩:=Uf u;have⟨H,I,J,K⟩:=uL (b:=b) (t:=⟨2,[],x,aD,false⟩) (aF:=[]) U h nodup_nil oq;exact⟨aK.Dq U.QM H,I,J g,lT K (by show _<=σ.nodes.length+850;omega)⟩
 rw[iw B] at c |-;by_cases C:f=242
 .subst C;rw[ip rfl] at c |-;simp only[lV,List.isEmpty_iff] at c;obtain⟨rfl,rfl⟩:=c;have⟨H,I,J,K⟩:=uL (b:=b) (t:=⟨2,[],[112],aD,false⟩) (aF:=[]) U h nodup_nil oq;have Q:∀e:TS,Gv acc e->e.w=2->e.nodes.length<=σ.nodes.length+803->(bC σ aL [[112]] = -1->eH pr 218 b ⟨2,[],[112],aD,false⟩ [] σ e)->(bC σ aL [[112]] ≠ -1->e=σ)->aK pr b t aF ⟨242,[],[]⟩ σ (e.cQ (bC e aL [[112]])) true/\Gv acc (e.cQ (bC e aL [[112]]))/\(e.cQ (bC e aL [[112]])).w=2/\(e.cQ (bC e aL [[112]])).nodes.length<=σ.nodes.length+mD ⟨242,[],[]⟩:=by intro e p o G i k;have v:=p.pw (l:=aL) (m:=[[112]]) o dq dq;have⟨M,N,O⟩:=p.cQ (j:=bC e aL [[112]]) oq;exact⟨aK.ZF U.no U.um U.QM U.Ur U.fP i k oq p.tt,M,by rw[O];exact o,by rw[N];show _<=σ.nodes.length+850;omega⟩
  grind
 rw[iw C] at c |-;by_cases A:f=234
 .subst A;rw[ip rfl] at c |-;simp only[lV,Bool.not_eq_true'] at c;have⟨s,h1⟩:=c;have v:=h.pw (l:=a) g s h1;have⟨i,k,q⟩:=h.cQ (j:=bC σ a L) oq;exact⟨aK.QO U.no U.um U.fP oq h.tt,i,by rw[q];exact g,by rw[k];exact Nat.le_add_right _ _⟩
 rw[iw A] at c |-;by_cases D:f=244
 .subst D;rw[ip rfl] at c |-;simp only[lV,Bool.not_eq_true',List.isEmpty_iff] at c;obtain⟨⟨⟨u,s⟩,h1⟩,rfl⟩:=c;obtain⟨x,rfl⟩:=Uf u;have v:=h.pw (l:=aL) g s h1;by_cases z:bC σ aL [x] = -1
  .rw[ip z];have⟨i,k,q⟩:=h.forget x;exact⟨aK.S5 U.no U.Us U.fP U.del z h.tt,i,by show(σ.forget x).w=2;rw[q];exact g,by show(σ.forget x).nodes.length<=_;rw[k];exact Nat.le_add_right _ _⟩
  .rw[iw z];have⟨i,k,q⟩:=h.cQ (j:=bC σ aL [x]) oq;exact⟨aK.SZ U.no U.um U.fP oq h.tt,i,by rw[q];exact g,by rw[k];exact Nat.le_add_right _ _⟩
 rw[iw D] at c |-;simp only[lV,List.isEmpty_iff,decide_eq_true_eq] at c;obtain⟨⟨rfl,rfl⟩,rfl⟩:=c;unfold gM at r;rw[Bool.or_eq_false_iff] at r;have F:∀x y:Bq,cw x y=false->aH y [x]=false:=λx y E=>by
  cases hq:aH y [x] with
  | false=>rfl
  | true=>rw[lq hq,(dz x x).2 rfl] at E;cases E
 have v:=h.pw (l:=aL) (m:=[nm]) g (F _ _ r.1) (F _ _ r.2);have⟨i,k,q⟩:=h.cQ (j:=bC σ aL [nm]) oq;subst P;exact⟨aK.Xy U.no U.um U.fP oq h.tt,i,by rw[q];exact g,by rw[k];exact Nat.le_add_right _ _⟩
theorem DN(f:Di pr)(e:nm=t.name)(c:gM nm=false):∀(U:List DC) {σ:TS},(∀d∈U,MJ d=true)->Gv acc σ->σ.w=2->σ.nodes.length+(U.map mD).sum+1100<400000000->cZ pr b t aF U σ (sv nm U σ).1 (sv nm U σ).2/\Gv acc (sv nm U σ).1/\(sv nm U σ).1.w=2/\(sv nm U σ).1.nodes.length<=σ.nodes.length+(U.map mD).sum
 | [],σ,_,h,hw,_=>⟨cZ.nil,h,hw,by unfold sv;simp⟩
 | d::U,σ,hd,h,hw,hN=>by
  rw[rp,List.sum_cons] at hN;have⟨r1,r2,r3,i⟩:=UZ (b:=b) (aF:=aF) (nm:=nm) f h hw (hd d (List.mem_cons_self ..)) c e oq;unfold sv;generalize K1 nm σ d=q at *;have⟨a,g⟩:=q;have i:a.nodes.length<=σ.nodes.length+mD d:=i;rw[rp,List.sum_cons];cases g with
  | true =>rw[ip rfl];have⟨m,n,o,j⟩:=DN f e c U (λk l=>hd k (Jo _ l)) r2 r3 gq;have j:(sv nm U a).1.nodes.length<=a.nodes.length+(U.map mD).sum:=j;exact⟨cZ.ok r1 m,n,o,by show(sv nm U a).1.nodes.length<=_;omega⟩
  | false =>rw[iw iq];exact⟨cZ.no r1,r2,r3,by show a.nodes.length<=_;omega⟩
def JA:(iH.all λr=>MJ r.1)=true:=kq
def TS.FB(σ:TS)(nm:Bq):TS:=(sv nm (bM nm iH) σ).1
def Xx(h:gM nm=true):bM nm iH=[⟨233,[],[]⟩]:=by
 unfold gM at h;rw[BM] at h;rcases h with h|h
 iterate 2
  .obtain rfl:=(dz _ _).1 h;rfl
def DR(a:Di pr)(h:Gv acc σ)(g:σ.w=2)(k:σ.nodes.length+3000<400000000):cZ pr b t aF (bM t.name iH) σ (σ.FB t.name) (sv t.name (bM t.name iH) σ).2/\Gv acc (σ.FB t.name)/\(σ.FB t.name).nodes.length<=σ.nodes.length+1700:=by
 have l:=BZ t.name iH;have e:(iH.map λr=>mD r.1).sum=1700:=kq
 unfold TS.FB;cases hb:gM t.name with
 | true =>rw[Xx hb];exact⟨cZ.no (aK.nothing a.no),h,by show σ.nodes.length<=_;omega⟩
 | false =>obtain⟨i,j,m,n⟩:=DN a rfl hb (bM t.name iH) (λd c=>by obtain⟨r,f,rfl⟩:=vK c;exact aT.1 JA r f) h g oq;exact⟨i,j,by omega⟩
def TS.Iv(σ:TS)(nm:Bq):TS :=
 if σ.w=2 then σ.FB nm
 else if aH nm np=true then σ.G2 np
 else if aH nm [gg]=true then σ.cu
 else if aH nm un=true then σ.cu.FB nm
 else σ
def eeS(h:aH nm np=true):bM nm kS=[⟨230,np,[]⟩,⟨233,[],[]⟩]:=by have:=sS h;simp only[np,nk,vh,or_false] at this;rcases this with rfl|rfl|rfl<;>rfl
def Xw:bM gg kS=[⟨229,[],[]⟩,⟨233,[],[]⟩]:=rq
def eeB(h:aH nm un=true):bM nm kS=[⟨229,[],[]⟩]:=by have:=sS h;simp only[un,nk,vh,or_false] at this;rcases this with rfl|rfl|rfl|rfl<;>rfl
theorem eeO(h1:aH nm np=false)(h2:aH nm [gg]=false)(h3:aH nm un=false):bM nm kS=[⟨233,[],[]⟩]:=by
 have b1:aH nm np=false:=h1;have b2:aH nm Uk=false:=by simp only[aH,List.any_cons,List.any_nil,Bool.or_false,Bool.or_eq_false_iff] at h2 h3 |-;exact⟨h2,h3⟩
 have b3:aH nm [OB,OC,OA,Ei,[]]=aH nm [[]]:=by simp only[aH,List.any_cons,List.any_nil,Bool.or_false,Bool.or_eq_false_iff] at h1 h2 |-;grind
 have e:kS=[(⟨230,np,[]⟩,np),(⟨229,[],[]⟩,Uk),(⟨233,[],[]⟩,[OB,OC,OA,Ei,[]])]:=rfl;rw[e];unfold bM qg lF;simp only[List.filter_cons,List.filter_nil,b1,b2,b3];cases aH nm [[]] with
 | true=>rfl
 | false=>rfl
theorem PI(U:Di pr)(h:Gv acc σ)(p:σ.nodes.length+3010<400000000):eH pr 219 b t aF σ (σ.Iv t.name)/\Gv acc (σ.Iv t.name)/\(σ.Iv t.name).nodes.length<=σ.nodes.length+1703:=by
 unfold TS.Iv;by_cases c:σ.w=2
 .rw[ip c];have⟨d,f,n⟩:=DR (b:=b) (t:=t) (aF:=aF) U h c oq;exact⟨PF U.no U.fP c d,f,by omega⟩
 rw[iw c];have i:=h.w3;have a:aK pr b t aF ⟨229,[],[]⟩ σ σ.cu true:=by refine aK.Oe U.no U.um U.fP i (λe=>(h.gT e).2.2.1) (λe=>?_) h.tt oq;have⟨g1,g2⟩:=h.im e nodup_nil;exact(g1.gT g2).2.2.1
 have⟨g,j,o⟩:=h.cu;by_cases h1:aH t.name np=true
 .rw[ip h1];have⟨k,m,q,_⟩:=h.G2 (l:=np) dq dq dq;refine⟨B6 U.no U.fP c ?_,k,by rw[m];omega⟩;rw[eeS h1];exact cZ.ok (Ia U h dq dq dq) (cZ.no (aK.nothing U.no))
 rw[iw h1];by_cases h2:aH t.name [gg]=true
 .rw[ip h2];refine⟨B6 U.no U.fP c ?_,g,by omega⟩;rw[lq h2,Xw];exact cZ.ok a (cZ.no (aK.nothing U.no))
 rw[iw h2];by_cases h3:aH t.name un=true
 .rw[ip h3];have⟨d,f,n⟩:=DR (b:=b) (t:=t) (aF:=aF) U g j oq;refine⟨PG U.no U.fP c (BC:=σ.cu) ?_ d,f,by omega⟩;rw[eeB h3];exact cZ.ok a cZ.nil
 rw[iw h3];refine⟨B6 U.no U.fP c ?_,h,by omega⟩;rw[eeO gq gq gq];exact cZ.no (aK.nothing U.no)
def TS.step(σ:TS)(u:Tok):TS :=
 if u.kind=1 then σ.text (λx=>oy (uP x)) oy u.text
 else if u.kind=2 then σ.start u.name u.aM
 else if u.kind=3 then σ.Iv u.name
 else if u.kind=4 then σ.put ⟨3,0,[],u.text,[]⟩
 else σ
def mQ(u:Tok):Prop:=(u.kind=1\/u.kind=2\/u.kind=3\/u.kind=4\/u.kind=5)/\(u.kind=1->u.text≠[])/\ki u.aM
theorem xL(h:∀u∈σ.nodes,u.text.length<=acc):∀u∈σ.du.nodes,u.text.length<=acc:=by
 have b:∀(l:List Nat) (a:TS),(∀u∈a.nodes,u.text.length<=acc)->∀u∈(l.foldl TS.eu a).nodes,u.text.length<=acc:=by
  intro l;induction l with
  | nil=>intro a h;exact h
  | cons k l U =>intro a h;refine U _ λv c=>?_;have c:v∈a.nodes++[⟨1,((a.cur:Nat):Int),(a.kQ k).name,[],(a.kQ k).aM⟩]:=c;grind
 exact b _ σ h
def ndT(h:Gv acc σ)(k:Nat):(σ.kQ k).text.length<=acc:=by
 unfold TS.kQ;rw[tS];cases hu:σ.nodes[k]? with
 | none=>exact Nat.zero_le _
 | some u=>exact(h.pn u (mG hu)).2.2
theorem Ns(a:Di pr)(h:Gv acc σ){u:Tok}(o:mQ u)(y:σ.nodes.length+3100<400000000)(z:acc+u.text.length<=1000000)(at_:Value):eH pr 119 b ⟨u.kind,u.text,u.name,at_,u.closed⟩ u.aM σ (σ.step u)/\Gv (acc+u.text.length) (σ.step u)/\(σ.step u).nodes.length<=σ.nodes.length+1703:=by
 have⟨U,h1,l⟩:=o;unfold TS.step;rcases U with U|U|U|U|U
 .rw[ip U];have⟨g1,g2⟩:=h.text (h1 U);refine⟨NG a.no a.fP U λs n=>?_,g1,by omega⟩;have m:(oy u.text).length<=u.text.length:=(List.dropWhile_sublist Ha).length_le;have⟨f,r,w⟩:=h.cu;refine NH (tr:=λx=>oy (uP x)) (tl:=oy) a.no a.um a.fP (a.tr u.text oq) (a.tr (oy u.text) oq) (a.tl u.text oq) n (λq c=>?_) oq gq gq (λq c=>?_) h.w3 (λe=>(h.gT e).2.2.1) (λe=>?_) h.tt
  .simp only[nk,vh,or_false] at c;rcases c with rfl|rfl
   .exact h.Tz
   .exact f.Tz
  .simp only[nk,vh,or_false] at c;have g:∀{uY:TS},Gv acc uY->(uY.kQ (uY.nodes.length-1)).text.length<=500000000:=λ{uY} k=>by have:=ndT k (uY.nodes.length-1);omega
   rcases c with rfl|rfl|rfl|rfl
   .exact g h
   .have k:=xL (acc:=acc) (σ:=σ) (λv p=>(h.pn v p).2.2);unfold TS.kQ;grind
   .exact g f
   .exact g (f.du oq).1
  .have⟨g1,g2⟩:=h.im e nodup_nil;exact(g1.gT g2).2.2.1
 .rw[iw oq,ip U];have⟨i,j,_,d⟩:=uL (b:=b) (t:=⟨u.kind,u.text,u.name,at_,u.closed⟩) a h l oq;exact⟨NF a.no a.fP U i,j.mono oq,by have d:(σ.start u.name u.aM).nodes.length<=_:=d;omega⟩
 .rw[iw oq,iw oq,ip U];have⟨i,j,d⟩:=PI (b:=b) (t:=⟨u.kind,u.text,u.name,at_,u.closed⟩) (aF:=u.aM) a h oq;exact⟨NE a.no a.fP U i,j.mono oq,d⟩
 .rw[iw oq,iw oq,iw oq,ip U];exact⟨NC a.no U oq,(h.mono oq).put (.inr (.inr rfl)) (λe=>absurd (show(3:Int)=2 from e) dq) (λe=>absurd rfl e) nodup_nil gq,by unfold TS.put;simp⟩
 .rw[iw oq,iw oq,iw oq,iw oq];exact⟨ND a.no U,h.mono oq,by omega⟩
def jj (us:List Tok):Nat:=(us.map λu=>u.text.length).sum
def ya(d:Di pr):∀(a:List Tok) {acc:Nat} {σ:TS},(∀u∈a,mQ u)->Gv acc σ->acc+jj a<=1000000->σ.nodes.length+1703*a.length+3100<400000000->pk pr a σ (a.foldl TS.step σ)/\Gv (acc+jj a) (a.foldl TS.step σ)/\(a.foldl TS.step σ).nodes.length<=σ.nodes.length+1703*a.length
 | [],acc,σ,_,h,_,_=>⟨rfl,h,lr⟩
 | u::a,acc,σ,hu,h,ha,hN=>by
  have e:jj (u::a)=u.text.length+jj a:=by unfold jj;rw[rp,List.sum_cons]
  rw[e] at ha |-;rw[lC] at hN |-;have r:=λb c=>Ns (b:=b) d h (hu u (List.mem_cons_self ..)) oq oq c;have⟨_,g2,g3⟩:=r 0 aD;have⟨g,i,j⟩:=ya d a (λv f=>hu v (Jo _ f)) g2 oq oq;rw[List.foldl_cons];exact⟨⟨_,λb c=>(r b c).1,g⟩,by rw[<-Nat.add_assoc];exact i,by omega⟩
def Gv.zero:Gv 0 TS.zero:=⟨⟨Gc.zero,.inl ⟨rfl,rfl,rfl⟩,by decide,λk b=>by cases b⟩,λu a=>by
 have a:u=⟨1,-1,me,[],[]⟩:=by simpa[TS.zero] using a
 subst a;exact⟨(λe=>absurd (show(1:Int)=2 from e) dq),nodup_nil,lr⟩⟩
end
end Go.Proofs.YtgcaionclkbehaaGreatDoor
