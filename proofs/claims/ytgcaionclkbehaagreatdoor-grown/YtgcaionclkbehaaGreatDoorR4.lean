
import Derived.Test.YtgcaionclkbehaaGreatDoorK5
import Derived.Lib.MapLaws
set_option linter.all false
set_option maxHeartbeats 4000000
set_option maxRecDepth 100000
namespace Go.Proofs.YtgcaionclkbehaaGreatDoor
open Go.Conc Go.RowKit Go.Lib Tryz
variable {r:Int}{N b b0 b1 b2 b3 e e2 e3 j j' k m n nm off pos v z z2 z3:Nat}{a en l post pre stops t:Bq}{x:Operand}{p:Value}{c:UInt8}{s s' s1:AS}{f:FuncId}{pr:Prim}
def B5 (r:Int):Bq:=(Utf8.encode r).data.toList
theorem Io(r:Int):Value.string (Utf8.encode r)=str (B5 r):=by unfold B5;grind
def LS(h:128<=r):∃(n:Nat) (z:UInt8),(B5 r).length=n+1/\n<=3/\1<=n/\(B5 r)[n]?=some z/\128<=z.toNat:=by
 have a:∀c:Nat,128<=(UInt8.ofNat (128+c % 64)).toNat:=λc=>by rw[UInt8.toNat_ofNat'];omega
 unfold B5 Utf8.encode;generalize b:(if Utf8.valid r=true then r.toNat else Utf8.runeError)=c;have h1:128<=c:=by
  rw[<-b];split
  .omega
  .decide
 simp only;rw[iw oq];split
 .exact⟨1,_,rfl,by omega,by omega,rfl,a c⟩
 .split
  .exact⟨2,_,rfl,by omega,by omega,rfl,a c⟩
  .exact⟨3,_,rfl,by omega,by omega,rfl,a c⟩
def C4(stops:Bq)(b:Nat)(x:Nq):TL:=[str stops,.int .i32 65533]++gD x 2 173++[am b 0]++gD x 176 11
variable {rn:Nat}{all:Iq}
section
variable {s:AS}{pr:Prim}
def NS(a:pr 335=none)(h:128<=r/\r<=1114111):Ef pr 335 #[.int .i32 r] s (.bool (decide (r<55296\/57343<r))) s:=by
 refine EF.of a func335 rfl (zs (EW.seq (EW.block (zr (zk 1 (zp (aQ (u:=.int .i32 0) (w:=.int .i32 r) rfl kq kq (bU (b:=true) (tD oq))) (zk 2 ?_)))))));by_cases h1:r<55296
 .rw[tD (.inl h1)];exact zp (aQ (u:=.int .i32 r) (w:=.int .i32 55296) rfl kq kq (dV (b:=true) (tD h1))) (zf (za s (zH (zs (EW.ret ⟨.inr rfl,kq,kq⟩)))))
 .refine zp (aQ (u:=.int .i32 r) (w:=.int .i32 55296) rfl kq kq (dV (b:=false) (fD h1))) (zf (za s (zG (zr (zk 1 ?_)))));by_cases h2:57343<r
  .rw[tD (.inr h2)];exact zp (aQ (u:=.int .i32 57343) (w:=.int .i32 r) rfl kq kq (dV (b:=true) (tD h2))) (zk 2 (zp (aQ (u:=.int .i32 r) (w:=.int .i32 1114111) rfl kq kq (bU (b:=true) (tD h.2))) (zf (za s (zH (zs (EW.ret ⟨.inr rfl,kq,kq⟩)))))))
  .rw[fD oq];exact zp (aQ (u:=.int .i32 57343) (w:=.int .i32 r) rfl kq kq (dV (b:=false) (fD h2))) (zf (za s (zF (zs (EW.ret ⟨.inr rfl,kq,kq⟩)))))
def Jt(c:pr 334=none)(d:pr 373=bu 373){r:Bq}{z:UInt8}(h:z∉r):Ef pr 334 #[str r,.int .u8 ((z.toNat:Nat):Int)] s (num (-1)) s:=by
 have b:Ef pr 373 #[str r,.int .u8 ((z.toNat:Nat):Int)] s (num (-1)) s:=by obtain⟨g,e⟩:∃g,bu 373=some g:=⟨_,rfl⟩;have a:=EF.eval (P:=prog) (kt:=kg) (pr:=bu) (f:=373) (args:=#[str r,.int .u8 ((z.toNat:Nat):Int)]) (s:=s) (v:=num (ju (((z.toNat:Nat):Int).toNat % 256) r 0)) (s':=s) 1 kq;rw[toNat_mod,pQ h] at a;have⟨m,a⟩:=a;refine EF.vp (d.trans e) ?_;unfold bH at a;rw[e] at a;exact a
 exact EF.of c func334 rfl (zs (zr (zc 2 b (zf yR))))
def Mh(o:pr 264=none)(t:pr 335=none)(p:pr 334=none)(x:pr 373=bu 373)(I:Hf stops)(H:128<=r/\r<=1114111)(D:r≠65533):Ef pr 264 #[str stops,.int .i32 r] s (num (-1)) s:=by
 have f:=NS (s:=s) t H;have⟨n,z,L,M,N,K,O⟩:=LS H.1;have F:∀l:Bq,(∀b∈l,b∈stops)->z∉l:=λl B h=>by have:=I z (B z h);omega
 have d:=λ(l:Bq) (h:∀b∈l,b∈stops)=>Jt (s:=s) p x (F l h);refine EF.of o func264 rfl (zs (EW.block (zr (zk 1 (zp (aQ (u:=.int .i32 0) (w:=.int .i32 r) rfl kq kq (bU (b:=true) (tD oq))) (zk 2 (zp (aQ (u:=.int .i32 r) (w:=.int .i32 128) rfl kq kq (dV (b:=false) (fD oq))) (zf (za s (zG (zr (zk 1 (zp (aQ (u:=.int .i32 r) (w:=.int .i32 65533) rfl kq kq (cL (b:=false) (bF.2 D))) (zf (za s (zG (zr (zc 1 f ?_))))))))))))))))));by_cases J:r<55296\/57343<r
 .rw[tD J];refine zf (za s (zG (EW.scope (zr (zk 1 (EO.op (v:=str (B5 r)) (s1:=s) kq ((show _=some (Value.string (Utf8.encode r),s) by kernel_rfl).trans (by rw[Io])) ?_))))));generalize B5 r=e at *;refine zf (za s (zr (zk 1 (zp (cY (l:=e) rfl underlying9 kq) (zp (EC (i:=(e.length:Nat)) (j:=1) (r:=(n:Nat)) rfl kq kq oq oq) (zf (za s ?_)))))));iterate 2 refine zs ?_
  refine za s (EW.seq (EW.block (EW.loop (EW.seq (zr (zk 2 (zp (cY (l:=stops) rfl underlying9 kq) ?_)))))));by_cases B:n<stops.length
  .have A:=gE B;have C:=I _ (D3 B);generalize stops[n]=y at A C;have E:bD stops.length stops.length (some (num ((n+1:Nat):Int))) none=some (n+1,stops.length):=gL oq oq;have g:=d ((stops.take stops.length).drop (n+1)) (λb G=>by rw[List.take_length] at G;exact List.mem_of_mem_drop G);generalize c:(stops.take stops.length).drop (n+1)=a at g;refine zp (aQ (u:=num (n:Nat)) (w:=num (stops.length:Nat)) rfl kq kq (aX (b:=true) (tD oq))) (EO.nil (za s (zT (EW.block (EW.scope (EW.seq (EW.seq (EW.draw kq kq kq ?_))))))));iterate 2 refine zq ?_
   refine zu (jW (l:=stops) (k:=.i64) (n:=(n:Nat)) (b:=y) rfl underlying9 kq kq oq A) ?_;iterate 2 refine zq ?_
   refine zu (jW (l:=e) (k:=.i64) (n:=(n:Nat)) (b:=z) rfl underlying9 kq kq oq K) (zu (aQ (u:=.int .u8 y.toNat) (w:=.int .u8 z.toNat) rfl kq kq (cM (b:=true) (bne_iff_ne.2 oq))) (ET.nil ⟨aI [] kq iq,_,_,_,_,_,_,rfl,rfl,?_⟩));refine za s (zH (EW.seq (EW.draw kq kq kq ?_)));iterate 2 refine zq ?_
   refine zu (iP (i:=(n:Nat)) (j:=1) (r:=((n+1:Nat):Int)) rfl kq kq oq oq) (zu (iF (l:=stops) (m:=a) (i:=n+1) (j:=stops.length) rfl underlying9 kq ((show _=bD stops.length stops.length (some (num ((n+1:Nat):Int))) none by kernel_rfl).trans E) c) ?_);iterate 2 refine zq ?_
   refine zu (jW (l:=e) (k:=.i64) (n:=(n:Nat)) (b:=z) rfl underlying9 kq kq oq K) (zt s (ET.gd #[str a,.int .u8 ((z.toNat:Nat):Int)] kq rfl rfl kq kq g (zq (ET.nil ⟨aI [] kq iq,_,_,_,_,_,_,rfl,rfl,?_⟩))));exact za s (EW.seq (zr (zf (za s (zH (zs (EW.ret ⟨.inr rfl,kq,kq⟩)))))))
  .exact zp (aQ (u:=num (n:Nat)) (w:=num (stops.length:Nat)) rfl kq kq (aX (b:=false) (fD oq))) (EO.nil (za s (zG (EW.exit (EW.seq (zs (EW.ret ⟨.inr rfl,kq,kq⟩)))))))
 .rw[fD J];exact zf (za s (zH (zs (EW.ret ⟨.inr rfl,kq,kq⟩))))
def ni (s:AS)(l:Bq)(j:Nat):AS:=s.add (.stringIter ⟨l.toArray⟩ j)
def pT:(ni s l j).set s.nx (some (.stringIter ⟨l.toArray⟩ j'))=ni s l j':=AS.set_set (⟨s.hp,s.nx+1⟩:AS) s.nx (some (.stringIter ⟨l.toArray⟩ j)) (some (.stringIter ⟨l.toArray⟩ j'))
def jw:(ni s l j).get s.nx=some (.stringIter ⟨l.toArray⟩ j):=by unfold ni;rw[AS.bv,ip rfl]
def Qt(c:pr 264=none)(k:Hf stops)(i:kg (1000+stops.length)=false):Ef pr 264 #[str stops,.int .i32 65533] s (num (-1)) (ni s stops stops.length):=by
 refine EF.of c func264 rfl (zs (EW.block (zr (zf (za s (zG (zr (zf (za s (zH (EW.seq (zr (zg 1 s (zp (Aj (l:=stops) rfl underlying9 kq i) (EO.nil (za (ni s stops 0) (EW.fill (C4 stops s.nx) kq ?_)))))))))))))))));intro m;refine EW.block ?_;refine EW.mono (EW.dG (Q:=λe a g=>e=.exit 9/\g=ni s stops stops.length/\∃x,a=C4 stops s.nx x) (λu a g=>∃j,u+j=stops.length/\g=ni s stops j/\∃x,a=C4 stops s.nx x) ?_ stops.length _ _ ⟨0,by omega,rfl,m,rfl⟩) ?_
 .rintro u a g ⟨j,n,rfl,x,rfl⟩;by_cases h:j<stops.length
  .have d:=gE h;have f:=k _ (D3 h);generalize stops[j]=y at d f;refine zr (zp (JK (b:=s.nx) (pos:=j) (l:=stops) (r:=y) rfl kq jw d f i) ?_);rw[pT];refine zf (za (ni s stops (j+1)) (EW.seq (zT (EW.block (zs (zr (zk 1 (zp (aQ (u:=.int .i32 y.toNat) (w:=.int .i32 65533) rfl kq kq (cL (b:=false) (bF.2 oq))) (EO.nil (za (ni s stops (j+1)) (zF ?_)))))))))));exact⟨u-1,by omega,j+1,by omega,rfl,aR kq⟩
  .obtain rfl:j=stops.length:=oq
   exact zr (zp (uw (b:=s.nx) (pos:=stops.length) (l:=stops) rfl kq jw lr) (zf (za (ni s stops stops.length) (EW.seq (zG (EW.exit ⟨rfl,rfl,aR kq⟩))))))
 rintro e a g ⟨rfl,rfl,x,rfl⟩;exact zs (EW.ret ⟨.inr rfl,kq,kq⟩)
def UG(b:VB rn all pr)(a:pr 335=none){l:Int}(i : -1<=l/\l<=1114111)(f:Hf stops)(h:kg (1000+stops.length)=false):∃c,Ef pr 328 #[.int .i32 l,str stops] s (.bool (gz l stops)) c:=by
 by_cases h1:l<128
 .by_cases g:l = -1
  .exact⟨s,JF b a (.inl g) f⟩
  .exact⟨s,JF b a (.inr ⟨l.toNat,.inl oq,by omega⟩) f⟩
 .rw[xt (.inr oq) f];obtain⟨c,e⟩:∃c,Ef pr 264 #[str stops,.int .i32 l] s (num (-1)) c:=by
   by_cases h2:l=65533
   .subst h2;exact⟨_,Qt (b.no 264 dq) f h⟩
   .exact⟨s,Mh (b.no 264 dq) a (b.no 334 dq) b.JQ f ⟨oq,i.2⟩ h2⟩
  refine⟨c,?_⟩;have d:Ef pr 160 #[str stops,.int .i32 l] s (.bool false) c:=by refine EF.of (b.no 160 dq) func160 rfl ?_;exact zs (zr (zc 2 e (zf yR)))
  exact EF.of (b.no 328 dq) func328 rfl (zs (zr (zc 2 d (zf yR))))
end
def Lf{z:Int}(h:0<=z/\z<256):(z.toNat.toUInt8).toNat=z.toNat:=by rw[Nat.toUInt8_eq,UInt8.toNat_ofNat'];omega
theorem Ij(U:Good r)(post:Bq):decodeL (encodeRune r++post)=(r.toNat,(encodeRune r).length):=by
 have a:(0<=r/\r<55296)\/(57343<r/\r<=1114111):=U;rw[decodeL_N];unfold encodeRune;by_cases h1:r<=127
 .rw[encodeRuneZ_one oq h1];show decodeN _ (r.toNat.toUInt8).toNat _ _ _=(_,1);rw[Lf oq];unfold decodeN;rw[ip oq]
 by_cases h2:r<=2047
 .rw[encodeRuneZ_two oq h2];show decodeN (_+1+1) ((192+r / 64).toNat.toUInt8).toNat ((128+r % 64).toNat.toUInt8).toNat _ _=(_,2);rw[Lf oq,Lf oq];unfold decodeN;grind
 by_cases h3:r<=65535
 .rw[encodeRuneZ_three oq];show decodeN (_+1+1+1) ((224+r / 4096).toNat.toUInt8).toNat ((128+r / 64 % 64).toNat.toUInt8).toNat ((128+r % 64).toNat.toUInt8).toNat _=(_,3);rw[Lf oq,Lf oq,Lf oq];unfold decodeN;grind
 .rw[encodeRuneZ_four oq oq];show decodeN (_+1+1+1+1) ((240+r / 262144).toNat.toUInt8).toNat ((128+r / 4096 % 64).toNat.toUInt8).toNat ((128+r / 64 % 64).toNat.toUInt8).toNat ((128+r % 64).toNat.toUInt8).toNat=(_,4);rw[Lf oq,Lf oq,Lf oq,Lf oq];unfold decodeN;rw[iw oq,iw oq,iw oq,ip oq,ip oq];congr 1;omega
variable {P:Program}{kt:TypeId->Bool}{o:Oper}
section
variable {c:fI}{a:TL}{s:AS}
def CM(g:t=pre++(encodeRune r++post))(f:Good r)(d:o.op=.next x true)(n:a.at x=am b 0)(m:s.get b=some (.stringIter ⟨t.toArray⟩ pre.length))(i:kt (1000+t.length)=false) :
  bN P kt c a o s=some (.tuple #[.bool true,num pre.length,.int .i32 r],s.set b (some (.stringIter ⟨t.toArray⟩ (pre.length+(encodeRune r).length)))):=by
 have e:ByteArray.size ⟨t.toArray⟩=t.length:=by simp[ByteArray.size]
 have h:Utf8.decode ⟨t.toArray⟩ pre.length=(r.toNat,(encodeRune r).length):=by rw[<-decodeL_drop];show decodeL (t.drop pre.length)=_;rw[g,List.drop_left,Ij f]
 have p:=encodeRuneZ_length r;have j:(encodeRune r).length=(encodeRuneZ r).length:=by simp[encodeRune]
 have k:t.length=pre.length+((encodeRune r).length+post.length):=by rw[g];simp
 have l:((r.toNat:Nat):Int)=r:=by unfold Good at f;omega
 unfold bN;rw[iw (by rw[d];simp[eF]),d];simp only[n,am,m,e,h,l];rw[ip oq,iw (by rw[i];simp)];rfl
end
section
variable {pr:Prim}{s:AS}
def P2 {K:Nat} (e:pr 261=none) (f:pr 272=none) (a:pr 344=bu 344)(m:N<=b) (w:b<s.nx) (t:s.get b=some (.cells #[p,.slice none 0 0] 119)) (r:p=.pointer none\/p=am b 0) (v:K<=1000000):∃j,EF prog kg pr 272 #[am b 0,num ((K+1:Nat):Int)] s (.tuple #[]) j/\BW j N b []/\iz N s j:=by
 obtain ⟨c,o,u,h,l⟩:=qU e t r
 have i:aB prog 55 (am b 1) c=some (.slice none 0 0):=by
  unfold aB
  simp only [am,h,underlying55]
  rfl
 refine EF.iy f func272 rfl ?_
 refine zr ?_
 refine zk 1 ?_
 refine zo s ?_
 refine yf o ?_
 refine EO.nil ?_
 refine zs ?_
 refine za c ?_
 refine EW.seq (EW.draw kq kq kq ?_)
 iterate 2
  refine zq ?_
  refine zq ?_
  refine zq ?_
  refine zt c ?_
  refine zu (yl b 1 (.slice none 0 0) h) ?_
  refine zq ?_
 iterate 2
  refine zq ?_
 refine zu (yb (num 0) (num ((K+1:Nat):Int)) (aX (tD oq))) ?_
 refine ET.nil ⟨aI [(aB prog 55 (am b 1) c,.slice none 0 0),(aB prog 55 (am b 1) c,.slice none 0 0)] kq (by simp [bB,i]),_,_,_,_,_,_,rfl,rfl,?_⟩
 refine zH ?_
 refine zx ?_
 refine zk 2 ?_
 refine zo c ?_
 have a:EF prog kg pr 344 #[am b 0,num ((K+1:Nat):Int)] c (.tuple #[]) ((c.set b (some (.cells #[am b 0,.slice (some ⟨c.nx,0,none⟩) 0 0] 119 (0,0)))).add (.cells #[] 5 (1,1))):=by
  refine EF.vp (g:=λd s=>match d.toList with
   | [.pointer (some ⟨b,0,none⟩),.int .i64 n]=>match s.get b with
    | some (.cells cs 119 (0,0))=>match cs.toList with
     | [p,.slice none 0 0]=>if 0<=n/\n<=1000000000 then some (.tuple #[],(s.set b (some (.cells #[p,.slice (some ⟨s.nx,0,none⟩) 0 0] 119 (0,0)))).add (.cells #[] 5 (1,1))) else none
     | _=>none
    | _=>none
   | _=>none) (a.trans kq) ?_
  simp only [am]
  rw [h]
  simp only
  rw [ip ⟨oq,by omega⟩]
  rfl
 refine yf a ?_
 refine EO.nil ⟨.inl rfl,by kernel_rfl,?_⟩
 refine ⟨⟨m,by simp;omega,am b 0,.slice (some ⟨c.nx,0,none⟩) 0 0,by rw [AS.bv,iw (by simp;omega),AS.bn,ip rfl],.inr rfl,.inr ⟨c.nx,(1,1),rfl,by omega,by simp,by omega,by rw [AS.bv,ip iq];rfl⟩⟩,by simp;omega,λk x=>?_⟩
 rw [AS.bv,iw (by simp;omega),AS.bn,iw oq,l k oq]
def Rd(a:pr 367=none)(h:0<=r/\r<=127):Ef pr 367 #[.int .i32 r] s (num 1) s:=by refine EF.of a func367 rfl ?_;exact zs (EW.seq (EW.block (zr (zk 1 (zp (aQ (u:=.int .i32 r) (w:=.int .i32 0) rfl kq kq (dV (b:=false) (fD oq))) (zf (za s (zG (zr (zk 1 (zp (aQ (u:=.int .i32 r) (w:=.int .i32 127) rfl kq kq (bU (b:=true) (tD h.2))) (zf (za s (zH (zs (EW.ret ⟨.inr rfl,kq,kq⟩))))))))))))))))
def Wk (s s':AS):Prop:=s.nx<=s'.nx/\∀k x p,k<s.nx->s.get k=some (.stringIter x p)->s'.get k=some (.stringIter x p)
theorem NT{x:UInt8}(H:pr 261=none)(I:pr 369=none)(h:BW s N b l)(hl:l.length<=900000):∃v t,Ef pr 369 #[am b 0,.int .u8 ((x.toNat:Nat):Int)] s v t/\BW t N b (l++[x])/\iz N s t/\Wk s t:=by
 have⟨T,Z,p,e,X,W,Q⟩:=h;have⟨c,z,Y,C,D⟩:=qU H X W;have a:qM c e l:=by
  rcases Q with h|⟨d,fz,q1,q2,q3,q4,q5⟩
  .exact .inl h
  .exact .inr ⟨d,fz,q1,by omega,(D d q4).trans q5⟩
 have P:∀n k,e≠.slice (sq b) n k:=gq
 have K:∀k,k<N->∀n j,e≠.slice (sq k) n j:=gq
 have O:∀k y i,s.get k=some (.stringIter y i)->k≠b/\∀n j,e≠.slice (sq k) n j:=gq
 obtain⟨w,f,M,g,rfl,g1,g2,g3,g4⟩:=Hz (m:=[x]) (a.add (.cells (od [x]) 5)) iq (by simp;omega);have o:(c.add (.cells (od [x]) 5)).get c.nx=some (.cells (od [x]) 5):=by rw[AS.bv,ip rfl]
 have U:=kY a (jl c.nx);have R:f.get b=some (.cells #[am b 0,e] 119):=(g4 b (by simp;omega) P).trans (by rw[AS.bv,iw oq];exact C);have E:∀k,k<s.nx->k≠b->(∀n j,e≠.slice (sq k) n j)->f.get k=s.get k:=λk r A B=>(g4 k (by simp;omega) B).trans (by rw[AS.bv,iw oq];exact D k A);have V:s.nx<f.nx:=by simp at g1;omega
 refine EF.UC I func369 rfl (zs (zr (zc 1 z (EO.nil (za c ?_)))));have J:∃q n u,e=.slice q n u:=gq
 obtain⟨q,n,u,rfl⟩:=J;refine zr (zg 4 c (zp (yl b 1 (.slice q n u) C) (zg 2 (c.add (.cells (od [x]) 5)) (zp (qe (m:=[x]) (d:=c.nx) (k:=1) rfl kq kq rfl o U iq M) (zg 2 f ?_)))));generalize S:(l++[x]).length=L at *;refine zp (ys b 1 (.slice (sq g) L L) R iq) (EO.nil (za (f.set b (some (.cells #[am b 0,.slice (sq g) L L] 119))) (zs (za (f.set b (some (.cells #[am b 0,.slice (sq g) L L] 119))) (EW.ret ⟨.inr rfl,.nilIface,kq,⟨T,by simp;omega,_,_,by rw[AS.bn,ip rfl],.inr rfl,.inr ⟨g,(1,1),by rw[S],by simp at g1;omega,by simpa using g2,by simp at g1;omega,by rw[AS.bn,iw gq];exact g3⟩⟩,⟨by simp;omega,λk r=>?_⟩,by simp;omega,λk y i r F=>?_⟩)))))
 .rw[AS.bn,iw oq];exact E k oq oq (K k r)
 .have⟨G,i2⟩:=O k y i F;rw[AS.bn,iw G,E k r G i2];exact F
theorem GG{c:Int}(J:pr 261=none)(I:pr 180=none)(h:BW s N b l)(K:∀(s:AS) (sl:Value),qM s sl l->∃j,∃w,Ef pr 275 #[sl,.int .i32 c] s w j/\uZ s sl l en j w):∃j v,Ef pr 180 #[am b 0,.int .i32 c] s v j/\BW j N b (l++en)/\iz N s j/\Wk s j:=by
 have⟨V,hb,p,sl,Z,X,S⟩:=h;have⟨f,C,c1,z,A⟩:=qU J Z X;have r:qM f sl l:=by
  rcases S with h|⟨d,fz,q1,q2,q3,q4,q5⟩
  .exact .inl h
  .exact .inr ⟨d,fz,q1,by omega,(A d q4).trans q5⟩
 have R:∀n k,sl≠.slice (sq b) n k:=gq
 have O:∀k,k<N->∀n B,sl≠.slice (sq k) n B:=gq
 have M:∃n t,sl=.slice (match sl with|.slice a _ _=>a|_=>none) n t/\n=l.length:=gq
 have Q:∀k y i,s.get k=some (.stringIter y i)->k≠b/\∀n B,sl≠.slice (sq k) n B:=gq
 obtain⟨o,w,P,g,rfl,g1,g2,g3,g4⟩:=K f sl r;have T:o.get b=some (.cells #[am b 0,sl] 119):=(g4 b oq R).trans z;suffices hh:Ew pr (match Tryz.f180.body with|some c=>c|none=>.skip) ((#[am b 0,.int .i32 c]:Aq).toList++List.replicate (Tryz.f180.ntmps-(#[am b 0,.int .i32 c]:Aq).toList.length) undef) s (λe u f=>(e=.normal\/e=.ret)/\f=o.set b (some (.cells #[am b 0,.slice (sq g) (l++en).length (l++en).length] 119))/\∃w,c8 prog Tryz.f180 u f=some w) by
  have⟨m,e,u,H,h1,W,h2,w,h3⟩:=hh;refine⟨H,w,EF.of I func180 rfl ⟨m,e,u,H,h1,W,h3,rfl⟩,?_,?_,?_⟩
  .rw[h2];refine⟨V,by simp;omega,_,_,by rw[AS.bn,ip rfl],.inr rfl,.inr ⟨g,(1,1),rfl,by omega,by simpa using g2,by omega,by rw[AS.bn,iw oq];exact g3⟩⟩
  .rw[h2];exact⟨by simp;omega,λk E=>by rw[AS.bn,iw oq,g4 k oq (O k E),A k oq]⟩
  .rw[h2];exact⟨by simp;omega,λk x p E F=>by have⟨G,i2⟩:=Q k x p F;rw[AS.bn,iw G,g4 k oq i2,A k G];exact F⟩
 refine zs (zr (zc 1 C (EO.nil ?_)));obtain⟨n,t,U,rfl⟩:=M;generalize Y:(match sl with|.slice a _ _=>a|_=>none)=q at U;clear Y;subst U;refine zr (zg 3 f (zp (yl b 1 (.slice q l.length t) z) (zf (za f (zr (zg 4 f (zp (yl b 1 (.slice q l.length t) z) (zc 1 P (zg 2 o ?_)))))))));generalize (l++en).length=L;refine zp (ys b 1 (.slice (sq g) L L) T iq) (EO.nil (za (o.set b (some (.cells #[am b 0,.slice (sq g) L L] 119))) ?_));have D:(o.set b (some (.cells #[am b 0,.slice (sq g) L L] 119))).get b=some (.cells #[am b 0,.slice (sq g) L L] 119):=by rw[AS.bn,ip rfl]
 generalize o.set b (some (.cells #[am b 0,.slice (sq g) L L] 119))=s4 at D;refine zr (zg 3 s4 (zp (yl b 1 (.slice (sq g) L L) D) (zf ?_)));exact EW.ret ⟨.inr rfl,by kernel_rfl,.tuple #[.int .i64 (eQ .i64 ((L:Int)-(l.length:Int))),.nilIface],by kernel_rfl⟩
def uE(e:pr 261=none)(d:pr 180=none)(f:pr 346=none)(a:pr 275=none)(h:BW s N b l)(m:Good r)(n:l.length<=900000):∃g v,Ef pr 180 #[am b 0,.int .i32 r] s v g/\BW g N b (l++encodeRune r)/\iz N s g/\Wk s g:=by
 obtain⟨c,rfl,j,k⟩:=tU m;rw[k];refine GG e d h λ_ _ i=>?_;unfold zh;split
 .next h1=>exact vC h1 i oq a
 .next h1=>exact yO (j.resolve_left h1) i oq f a
end
def Uw:List FuncId:=[84,156,180,247,261,272,275,329,346,367,368,369]
structure Wr(pr:Prim):Prop where
 no:∀f,f∈Uw->pr f=none
 ZD:pr 344=bu 344
 sub:∀(s:AS) (q:Bq),EF prog kg pr 357 #[str (encodeRune 65533++q)] s (.tuple #[.int .i32 65533,num 3]) s
 kt:∀n:Nat,kg (1000+n)=false
abbrev f247:Value:=.func (.func 247) #[] #[]
def EV(t:Bq)(b it:Nat)(x:Nq):TL:=[f247,str t,x 2,x 3,x 4,am b 0,x 6,x 7,x 8,x 9,x 10,x 11,x 12,x 13,am it 0]++gD x 15 70
def C5(t:Bq)(b it:Nat)(x:Nq):TL:=[f247,str t,x 2,x 3,x 4,am b 0]++gD x 6 62++[am it 0]++gD x 69 16
def j9(A:Iq)(l:Int)(B:Iq):aJ (A++l::B)=aJ A++(encodeRune l++aJ B):=by simp[aJ]
def oZ(A:Iq)(l:Int):aJ (A++[l])=aJ A++encodeRune l:=by simp[aJ]
section
variable {pr:Prim}{s:AS}
def Pr(a:pr 368=none)(c:s.get b=some (.cells #[p,aD] 119)):Ef pr 368 #[am b 0] s (num 0) s:=by refine EF.of a func368 rfl ?_;exact zs (zr (zg 3 s (zp (yl b 1 aD c) (zf yR))))
def Ps(a:pr 368=none){d:Nat}(c:s.get b=some (.cells #[p,.slice (sq d) n n] 119)):Ef pr 368 #[am b 0] s (.map (some n)) s:=by refine EF.of a func368 rfl ?_;exact zs (zr (zg 3 s (zp (yl b 1 (.slice (sq d) n n) c) (zf yR))))
theorem BW.ZU{y:ByteArray}{i:Nat}{x:Obj}(h:BW s N b l)(c:s.get k=some (.stringIter y i)):BW (s.set k (some x)) N b l:=by
 have⟨h1,h2,p,g,h3,f,U⟩:=h;have a:b≠k:=λe=>gq;refine⟨h1,h2,p,g,by rw[AS.bn,iw a];exact h3,f,?_⟩;rcases U with U|⟨d,fz,q1,q2,q3,q4,q5⟩
 .exact .inl U
 .exact .inr ⟨d,fz,q1,q2,q3,q4,by rw[AS.bn,iw (λe=>by subst e;rw[q5] at c;cases c)];exact q5⟩
theorem Uo(M:Wr pr){ls:Iq}(hg:∀l∈ls,Good l)(hl:ls.length<=100000):∃s1,Ef pr 329 #[f247,str (aJ ls)] s (str (aJ (ls.map dO))) s1:=by
 have U:=M.no;have F:∀(S:AS) (l:Int),Good l->Ef pr 247 #[.int .i32 l] S (.int .i32 (dO l)) S:=λS l h=>Ct (U 247 dq) (by unfold Good at h;omega);have av:=gG ls;obtain⟨A,B,H,hA,hB⟩:∃A B,ls=A++B/\(∀l∈A,dO l=l)/\(B=[]\/∃c g,B=c::g/\65<=c/\c<=90):=by
  clear hg hl av;induction ls with
  | nil=>exact⟨[],[],rfl,by simp,.inl rfl⟩
  | cons l ls ih =>
   by_cases h:65<=l/\l<=90
   .exact⟨[],l::ls,rfl,by simp,.inr ⟨l,ls,rfl,h⟩⟩
   .have⟨A,B,h1,h2,h3⟩:=ih;refine⟨l::A,B,by rw[h1];rfl,λx hx=>?_,h3⟩;rcases nk.1 hx with rfl|hx
    .unfold dO;rw[iw h]
    .exact h2 x hx
 have a7:ls.map dO=A++B.map dO:=by rw[H,Bz,List.map_congr_left hA,List.map_id']
 generalize ht:aJ ls=t at av;have hz:=Has.new s (.cells #[.pointer none,aD] 119);suffices h:∃v s1,Ef pr 329 #[f247,str t] s v s1/\v=str (aJ (ls.map dO)) by grind
 refine EF.UC (U 329 dq) func329 rfl ?_;iterate 2 refine zs ?_
 refine za (s.add (.cells #[.pointer none,aD] 119)) ?_;generalize ax:s.add (.cells #[.pointer none,aD] 119)=o at hz;have bf:o.nx=s.nx+1:=by rw[<-ax];rfl
 refine EW.seq (zr (zg 1 o (zp (Aj (l:=t) rfl underlying9 kq (M.kt _)) (EO.nil (za (ni o t 0) (EW.fill (EV t s.nx o.nx) kq ?_))))));intro x0;refine EW.block ?_;refine EW.mono (EW.dG (Q:=λe D f=>e=.exit 0/\((B=[]/\f=ni o t t.length/\∃x,D=EV t s.nx o.nx x)\/(∃c g,B=c::g/\65<=c/\c<=90/\BW f s.nx s.nx (aJ A++encodeRune (c+32))/\∃x,D=EV (aJ g) s.nx o.nx x))) (λu D f=>∃C w,A=C++w/\u=w.length/\f=ni o t (aJ C).length/\∃x,D=EV t s.nx o.nx x) ?_ A.length _ _ ⟨[],A,rfl,rfl,rfl,x0,rfl⟩) ?_
 .rintro u D f ⟨C,w,af,rfl,rfl,x,rfl⟩;cases w with
  | cons l w =>
   have b8:ls=C++l::(w++B):=gq
   have G:t=aJ C++(encodeRune l++aJ (w++B)):=by rw[<-ht,b8,j9]
   have P:=hg l gq;have Yl:=hA l gq;have I:=F (ni o t (aJ (C++[l])).length) l P;rw[Yl] at I;have a9:(aJ C).length+(encodeRune l).length=(aJ (C++[l])).length:=by rw[oZ,lA]
   generalize T:ni o t (aJ (C++[l])).length=a at I;refine zr (zp (CM (b:=o.nx) (t:=t) (pre:=aJ C) (post:=aJ (w++B)) (r:=l) G P rfl kq jw (M.kt _)) ?_);rw[pT,a9,T];generalize VS:(aJ C).length=E;refine zf (za a (EW.seq (zT (EW.block (zs (za a (zr (zg 2 a (yc #[] #[] I (zf (za a (EW.seq (zr (zk 2 (zp (yb (.int .i32 l) (.int .i32 l) (cL (b:=true) (beq_self_eq_true _))) (zk 2 (zp (yb (.int .i32 l) (.int .i32 65533) (cM (b:=!(l==65533)) rfl)) ?_)))))))))))))))));cases h65:(l==(65533:Int)) with
   | false =>refine zf ?_;refine za a (zH (EW.exit ?_));exact⟨w.length,by simp,C++[l],w,by rw[af];simp,rfl,T.symm,aR kq⟩
   | true =>
    obtain rfl:l=65533:=eq_of_beq h65;have hd:=M.sub a (aJ (w++B));have ao:(t.take t.length).drop E=encodeRune 65533++aJ (w++B):=gq
    have be:E<=t.length:=gq
    generalize encodeRune 65533++aJ (w++B)=tq at hd ao;refine zf (za a (zF (zs (EW.seq (zr (zf (za a (zH (zr (zg 2 a (zp (iF (l:=t) (m:=tq) (i:=E) (j:=t.length) rfl underlying9 kq ((show _=bD t.length t.length (some (num (E:Nat))) none by kernel_rfl).trans (gL oq oq)) ao) (zc 0 hd (zf (za a (zr (zf (za a (zH (EW.exit ?_)))))))))))))))))));exact⟨w.length,by simp,C++[65533],w,by rw[af];simp,rfl,T.symm,aR kq⟩
  | nil =>
   obtain rfl:A=C:=gq
   rcases hB with rfl|⟨c,g,rfl,aa,ab⟩
   .have G:t=aJ A:=by rw[<-ht,H,List.append_nil]
    refine zr (zp (uw (b:=o.nx) (pos:=(aJ A).length) (l:=t) rfl kq jw gq) (zf (za (ni o t (aJ A).length) (EW.seq (zG (EW.exit ?_))))));exact⟨rfl,.inl ⟨rfl,by rw[G],aR kq⟩⟩
   .have G:t=aJ A++(encodeRune c++aJ g):=by rw[<-ht,H,j9]
    have al:Good c:=.inl ⟨oq,by omega⟩;have V:(encodeRune c).length=1:=by unfold encodeRune;rw[encodeRuneZ_one oq oq];rfl
    have b6:dO c=c+32:=by unfold dO;rw[ip ⟨aa,ab⟩]
    have I:=F (ni o t ((aJ A).length+1)) c al;rw[b6] at I;have hZ:(ni o t ((aJ A).length+1)).get s.nx=some (.cells #[.pointer none,aD] 119):=by unfold ni;rw[AS.bv,iw oq];exact hz.2
    have ay:s.nx<(ni o t ((aJ A).length+1)).nx:=by show s.nx<o.nx+1;omega
    have ba:=Rd (pr:=pr) (s:=ni o t ((aJ A).length+1)) (r:=c) (U 367 dq) oq;have⟨R,hgw,hw1,hw2⟩:=P2 (pr:=pr) (N:=s.nx) (K:=t.length+3) (U 261 dq) (U 272 dq) M.ZD lr ay hZ (.inl rfl) oq;have TW:(aJ A).length+(1+(aJ g).length)=t.length:=gq
    have⟨S3,bc,aw,bg⟩:=yk (pr:=pr) (m:=aJ A) (U 261 dq) (U 156 dq) hw1 (by simp;omega);rw[List.nil_append] at aw;have⟨S4,v4,hpt,hw5,_,_⟩:=uE (pr:=pr) (r:=c+32) (U 261 dq) (U 180 dq) (U 346 dq) (U 275 dq) aw (.inl ⟨oq,by omega⟩) oq;have X:(t.take (aJ A).length).drop 0=aJ A:=gq
    have aq:(t.take t.length).drop ((aJ A).length+1)=aJ g:=by rw[List.take_length,G,<-u6,List.drop_left' (by rw[lA,V])]
    generalize T:ni o t ((aJ A).length+1)=a at *;refine zr (zp (CM (b:=o.nx) (t:=t) (pre:=aJ A) (post:=aJ g) (r:=c) G al rfl kq jw (M.kt _)) ?_);rw[pT,V,T];generalize aJ g=q at *;generalize aJ A=tA at *;generalize VS:tA.length=E at *;exact zf (za a (EW.seq (zT (EW.block (zs (za a (zr (zg 2 a (yc #[] #[] I (zf (za a (EW.seq (zr (zk 2 (zp (yb (.int .i32 (c+32)) (.int .i32 c) (cL (b:=false) (bF.2 oq))) (zf (za a (zF (zs (EW.seq (zr (zk 1 (zp (yb (.int .i32 c) (.int .i32 65533) (cL (b:=false) (bF.2 oq))) (EO.nil (za a (zG (zx (zc 1 ba (zf (za a (zr (zk 1 (zp (cY (l:=t) rfl underlying9 kq) (zp (yp (t.length:Nat) 4 ((t.length+3+1:Nat):Int) oq oq) (zo a (zc 0 hgw (EO.nil (za R (zr (zk 2 (zo R (zp (iF (l:=t) (m:=tA) (i:=0) (j:=E) rfl underlying9 kq ((show _=bD t.length t.length none (some (num (E:Nat))) by kernel_rfl).trans (oG oq oq)) X) (zc 0 bc (EO.nil (za S3 (EW.seq (zr (zk 1 (zp (yb (.int .i32 (c+32)) (.int .i32 0) (yU (b:=true) (tD oq))) (EO.nil (za S3 (zH (zx (zc 1 hpt (EO.nil (za S4 (zr (zk 3 (zp (yp (E:Nat) 1 ((E+1:Nat):Int) oq oq) (zo S4 (zp (iF (l:=t) (m:=q) (i:=E+1) (j:=t.length) rfl underlying9 kq ((show _=bD t.length t.length (some (num ((E+1:Nat):Int))) none by kernel_rfl).trans (gL oq oq)) aq) (zf (za S4 (EW.exit ⟨rfl,.inr ⟨c,g,rfl,aa,ab,hw5,aR kq⟩⟩))))))))))))))))))))))))))))))))))))))))))))))))))))))))))))))))
 rintro e D f ⟨rfl,h⟩;rcases h with ⟨rfl,rfl,x,rfl⟩|⟨c,g,rfl,aa,ab,hW,x,rfl⟩
 .have G:ls.map dO=ls:=by rw[a7,H];simp
  have hZ:(ni o t t.length).get s.nx=some (.cells #[.pointer none,aD] 119):=by unfold ni;rw[AS.bv,iw oq];exact hz.2
  have b4:=Pr (pr:=pr) (U 368 dq) hZ;generalize ni o t t.length=a at *;refine EW.seq (zr (zc 0 b4 (zf (za a (zH (zr (zf ?_)))))));exact EW.ret ⟨.inr rfl,str t,kq,by rw[G,ht]⟩
 .have a8:aJ (ls.map dO)=aJ A++encodeRune (c+32)++aJ (g.map dO):=by rw[a7,rp,show dO c=c+32 by unfold dO;rw[ip ⟨aa,ab⟩],j9,u6]
  have bd:ls.length=A.length+(g.length+1):=gq
  have ag:∀n z,g=n++z->(aJ A++encodeRune (c+32)++aJ (n.map dO)).length<=800000:=λn z e=>by have h1:=gG (A++(c+32)::n.map dO);rw[j9,<-u6] at h1;grind
  have b5:∀l∈g,Good l:=λl h=>hg l gq;have hl0:1<=(aJ A++encodeRune (c+32)).length:=by
   have:=encodeRuneZ_length (c+32);have h2:(encodeRune (c+32)).length=(encodeRuneZ (c+32)).length:=by simp[encodeRune]
   grind
  rw[a8];clear a8 a7;generalize aJ A++encodeRune (c+32)=Y at *;have a6:∃k,Ef pr 368 #[am s.nx 0] f (.map (some (k+1))) f:=by
   have⟨_,_,p,sl,q1,q2,q3⟩:=hW;rcases q3 with ⟨rfl,rfl⟩|⟨d,fz,rfl,_⟩
   .simp at hl0
   .obtain⟨k,hk⟩:∃k,Y.length=k+1:=⟨Y.length-1,by omega⟩;rw[hk] at q1;exact⟨k,Ps (U 368 dq) q1⟩
  have⟨k,a6⟩:=a6;have TW:=gG g;generalize htB:aJ g=q at *;refine EW.seq (zr (zc 0 a6 (zf (za f (zF (EW.seq (zr (zg 1 f (zp (Aj (l:=q) rfl underlying9 kq (M.kt _)) (EO.nil (za (ni f q 0) (EW.fill (C5 q s.nx f.nx) kq ?_))))))))))));intro x1;refine EW.block ?_;refine EW.mono (EW.dG (Q:=λe D S=>e=.exit 2/\BW S s.nx s.nx (Y++aJ (g.map dO))/\∃x,D=C5 q s.nx f.nx x) (λu D S=>∃n z,g=n++z/\u=z.length/\BW S s.nx s.nx (Y++aJ (n.map dO))/\S.get f.nx=some (.stringIter ⟨q.toArray⟩ (aJ n).length)/\f.nx<S.nx/\∃x,D=C5 q s.nx f.nx x) ?_ g.length _ _ ⟨[],g,rfl,rfl,by rw[List.map_nil,show aJ []=[] from rfl,List.append_nil];exact hW.add _,jw,by show f.nx<f.nx+1;omega,x1,rfl⟩) ?_
  .rintro u D S ⟨n,z,O,rfl,hb,aj,b9,x,rfl⟩;cases z with
   | nil =>rw[List.append_nil] at O;subst O;refine zr (zp (uw (b:=f.nx) (pos:=(aJ g).length) (l:=q) rfl kq aj gq) (zf (za S (EW.seq (zG (EW.exit ?_))))));exact⟨rfl,hb,aR kq⟩
   | cons l z =>
    have P:=b5 l gq;have G:q=aJ n++(encodeRune l++aJ z):=by rw[<-htB,O,j9]
    have a9:(aJ n).length+(encodeRune l).length=(aJ (n++[l])).length:=by rw[oZ,lA]
    have ak:=hb.ZU aj (x:=.stringIter ⟨q.toArray⟩ (aJ (n++[l])).length);have L:(S.set f.nx (some (.stringIter ⟨q.toArray⟩ (aJ (n++[l])).length))).get f.nx=some (.stringIter ⟨q.toArray⟩ (aJ (n++[l])).length):=by rw[AS.bn,ip rfl]
    have ai:f.nx<(S.set f.nx (some (.stringIter ⟨q.toArray⟩ (aJ (n++[l])).length))).nx:=b9;have I:=F (S.set f.nx (some (.stringIter ⟨q.toArray⟩ (aJ (n++[l])).length))) l P;have W:Good (dO l):=by
     unfold dO;split
     .exact .inl ⟨oq,by omega⟩
     .exact P
    have ah:0<=dO l:=by unfold Good at W;omega
    have ar:aJ ((n++[l]).map dO)=aJ (n.map dO)++encodeRune (dO l):=by rw[Bz,rp,List.map_nil,oZ]
    have az:=ag n (l::z) O;refine zr (zp (CM (b:=f.nx) (t:=q) (pre:=aJ n) (post:=aJ z) (r:=l) G P rfl kq aj (M.kt _)) ?_);rw[a9];generalize S.set f.nx (some (.stringIter ⟨q.toArray⟩ (aJ (n++[l])).length))=a at *;generalize (aJ n).length=E at *;generalize dO l=r at *;refine zf (za a (EW.seq (zT (EW.block (zs (za a (zr (zg 2 a (yc #[] #[] I (zf (za a (zr (zk 1 (zp (yb (.int .i32 r) (.int .i32 0) (yU (b:=true) (tD ah))) (EO.nil (za a (zH (zr (zk 1 ?_)))))))))))))))))));by_cases J:r<128
    .have⟨v2,R,Z,g1,g2,g3⟩:=NT (pr:=pr) (x:=UInt8.ofNat r.toNat) (U 261 dq) (U 369 dq) ak oq;have he:encodeRune r=[UInt8.ofNat r.toNat]:=by unfold encodeRune;rw[encodeRuneZ_one ah oq];simp
     have au:IntKind.u8.wrap r=(((UInt8.ofNat r.toNat).toNat:Nat):Int):=by rw[IntKind.wrap_u8,UInt8.toNat_ofNat'];omega
     rw[u6,<-he,<-ar] at g1;generalize UInt8.ofNat r.toNat=y at Z au;refine zp (yb (.int .i32 r) (.int .i32 128) (dV (b:=true) (tD J))) (EO.nil (za a (zH (zx (zg 1 a (EO.op (v:=.int .u8 ((y.toNat:Nat):Int)) (s1:=a) kq ((show _=some (Value.int .u8 (IntKind.u8.wrap r),a) by kernel_rfl).trans (by rw[au])) (zo a (zc 0 Z (EO.nil ?_)))))))));exact⟨z.length,by simp,n++[l],z,by rw[O];simp,rfl,g1,g3.2 _ _ _ ai L,by have:=g3.1;omega,aR kq⟩
    .have⟨R,v2,Z,g1,g2,g3⟩:=uE (pr:=pr) (r:=r) (U 261 dq) (U 180 dq) (U 346 dq) (U 275 dq) ak W oq;rw[u6,<-ar] at g1;refine zp (yb (.int .i32 r) (.int .i32 128) (dV (b:=false) (fD J))) (EO.nil (za a (zG (zx (zc 1 Z (EO.nil ?_))))));exact⟨z.length,by simp,n++[l],z,by rw[O];simp,rfl,g1,g3.2 _ _ _ ai L,by have:=g3.1;omega,aR kq⟩
  rintro e D S ⟨rfl,hb,x,rfl⟩;have az:=ag g [] iq;have⟨R,h84,_⟩:=uM (pr:=pr) (U 84 dq) hb (λe=>by have:=congrArg List.length e;simp only[lA,List.length_nil] at this;omega) oq;generalize Y++aJ (g.map dO)=tx at *;exact zr (zc 0 h84 (zf (EW.ret ⟨.inr rfl,str tx,kq,rfl⟩)))
end
def pD (r:Int):Nat:=if 48<=r/\r<=57 then (r-48).toNat else if 97<=dO r/\dO r<=102 then (dO r-87).toNat else 16
theorem DF(h:128<=r):pD r=16:=by
 have e:dO r=r:=by unfold dO;rw[iw oq]
 unfold pD;grind
def gQ (base:Nat):Bq->Nat->Nat × Nat
 | [],v=>(v,0)
 | b::l,v=>if pD ((b.toNat:Nat):Int)<base then ((gQ base l (min (v*base+pD ((b.toNat:Nat):Int)) 1114112)).1,(gQ base l (min (v*base+pD ((b.toNat:Nat):Int)) 1114112)).2+1) else (v,0)
theorem xD(a:Nat):∀(l:Bq) (v:Nat),v<=1114112->(gQ a l v).1<=1114112/\(gQ a l v).2<=l.length
 | [],v,h=>⟨h,lr⟩
 | b::l,v,h=>by
  unfold gQ;split
  .have:=xD a l (min (v*a+pD ((b.toNat:Nat):Int)) 1114112) oq;grind
  .exact⟨h,Nat.zero_le _⟩
def MK:Int->Int
 | 128=>8364
 | 130=>8218
 | 133=>8230
 | 145=>8216
 | 146=>8217
 | 147=>8220
 | 148=>8221
 | 149=>8226
 | 150=>8211
 | 151=>8212
 | 153=>8482
 | v=>v
def Gh (v:Nat):Int:=if v=0\/(55296<=v/\v<=57343)\/1114111<v then 65533 else if 128<=v/\v<=159 then MK v else v
def Gn:∀v:Nat,128<=v->v<=159->Good (MK v):=by
 intro v h1 h2;obtain rfl|rfl|rfl|rfl|rfl|rfl|rfl|rfl|rfl|rfl|rfl|rfl|rfl|rfl|rfl|rfl|rfl|rfl|rfl|rfl|rfl|rfl|rfl|rfl|rfl|rfl|rfl|rfl|rfl|rfl|rfl|rfl:v=128\/v=129\/v=130\/v=131\/v=132\/v=133\/v=134\/v=135\/v=136\/v=137\/v=138\/v=139\/v=140\/v=141\/v=142\/v=143\/v=144\/v=145\/v=146\/v=147\/v=148\/v=149\/v=150\/v=151\/v=152\/v=153\/v=154\/v=155\/v=156\/v=157\/v=158\/v=159:=oq
 all_goals exact .inl ⟨dq,by decide⟩
def Gi(v:Nat):Good (Gh v):=by
 unfold Gh;split
 .exact .inr ⟨oq,by omega⟩
 .split
  .next h=>exact Gn v h.1 h.2
  .unfold Good;omega
section
variable {c:fI}{a:TL}{s:AS}
def QT(d:o.op=.next x true)(i:a.at x=am b 0)(h:s.get b=some (.stringIter ⟨l.toArray⟩ pos))(g:pos<l.length)(f:kt (1000+l.length)=false) :
  bN P kt c a o s=some (.tuple #[.bool true,num pos,.int .i32 (Utf8.decode ⟨l.toArray⟩ pos).1],s.set b (some (.stringIter ⟨l.toArray⟩ (pos+(Utf8.decode ⟨l.toArray⟩ pos).2)))):=by
 have e:ByteArray.size ⟨l.toArray⟩=l.length:=by simp[ByteArray.size]
 unfold bN;rw[iw (by rw[d];simp[eF]),d];simp only[i,am,h,e];rw[ip g,iw (by rw[f];simp)];rfl
end
theorem LO(h:128<=b0):128<=(decodeN n b0 b1 b2 b3).1:=by unfold decodeN;grind
theorem Py{y:UInt8}(h:l[pos]?=some y)(U:128<=y.toNat):128<=(Utf8.decode ⟨l.toArray⟩ pos).1/\(Utf8.decode ⟨l.toArray⟩ pos).1<=1114111:=by rw[<-decodeL_drop];refine⟨?_,decodeL_rune _⟩;rw[decodeL_N];refine LO ?_;grind
def ut:List FuncId:=[84,89,147,156,157,178,180,247,261,262,263,275,331,332,335,339,341,346,370,371,372,384,385]
section
variable {pr:Prim}{s:AS}
theorem vW(U:pr 339=none)(r:Int):Ef pr 339 #[.int .i32 r] s (.bool (decide (48<=r/\r<=57))) s:=by
 refine EF.of U func339 rfl (zs (zr (zk 1 ?_)));by_cases h1:48<=r
 .refine zp (yb (.int .i32 48) (.int .i32 r) (bU (b:=true) (tD h1))) (zk 2 (zp (yb (.int .i32 r) (.int .i32 57) (bU (b:=decide (48<=r/\r<=57)) gq)) ?_));generalize decide (48<=r/\r<=57)=b;exact zf yR
 .rw[fD oq];exact zp (yb (.int .i32 48) (.int .i32 r) (bU (b:=false) (fD h1))) (zf yR)
def DG(a:∀f,f∈ut->pr f=none)(k : -1<=r/\r<=1114111):Ef pr 384 #[.int .i32 r] s (num (pD r:Nat)) s:=by
 have h1:=Ct (pr:=pr) (s:=s) (a 247 dq) k;have h2:=vW (pr:=pr) (s:=s) (a 339 dq) r;have h : -1<=dO r/\dO r<=1114111:=by unfold dO;split<;>omega
 unfold pD;generalize dO r=w at *;refine EF.of (a 384 dq) func384 rfl (zs (zr (zc 1 h1 (zf (za s (EW.seq (EW.block (zr (zc 1 h2 ?_)))))))));by_cases c:48<=r/\r<=57
 .rw[tD c,ip c];refine zf (za s (zH (zr (zg 1 s (EO.op (v:=.int .i32 (r-48)) (s1:=s) kq ((show _=some (Value.int .i32 (eQ .i32 (r-48)),s) by kernel_rfl).trans (by rw[kH oq])) (zo s (EO.op (v:=num ((r-48).toNat:Nat)) (s1:=s) kq ((show _=some (Value.int .i64 (eQ .i64 (r-48)),s) by kernel_rfl).trans (by rw[show eQ .i64 (r-48)=((r-48).toNat:Nat) by unfold eQ;simp only;rw[ip oq];omega])) ?_)))))));generalize (r-48).toNat=d;exact zf (EW.ret ⟨.inr rfl,kq,kq⟩)
 .rw[fD c,iw c];refine zf (za s (zG (zr (zk 1 ?_))));by_cases e:97<=w
  .refine zp (aQ (u:=.int .i32 97) (w:=.int .i32 w) rfl kq kq (bU (b:=true) (tD e))) (zk 2 ?_);by_cases g:w<=102
   .rw[ip ⟨e,g⟩];refine zp (aQ (u:=.int .i32 w) (w:=.int .i32 102) rfl kq kq (bU (b:=true) (tD g))) (zf (za s (zH (zr (zg 1 s (EO.op (v:=.int .i32 (w-97)) (s1:=s) kq ((show _=some (Value.int .i32 (eQ .i32 (w-97)),s) by kernel_rfl).trans (by rw[kH oq])) (zo s (EO.op (v:=num (w-97)) (s1:=s) kq ((show _=some (Value.int .i64 (eQ .i64 (w-97)),s) by kernel_rfl).trans (by rw[show eQ .i64 (w-97)=w-97 by unfold eQ;simp only;rw[ip oq]])) (zp (iP (i:=w-97) (j:=10) (r:=(((w-87).toNat:Nat):Int)) rfl kq kq oq oq) ?_)))))))));generalize (w-87).toNat=d;exact zf (EW.ret ⟨.inr rfl,kq,kq⟩)
   .rw[iw oq];exact zp (aQ (u:=.int .i32 w) (w:=.int .i32 102) rfl kq kq (bU (b:=false) (fD g))) (zf (za s (zF (zs (EW.ret ⟨.inr rfl,kq,kq⟩)))))
  .rw[iw oq];exact zp (aQ (u:=.int .i32 97) (w:=.int .i32 w) rfl kq kq (bU (b:=false) (fD e))) (zf (za s (zF (zs (EW.ret ⟨.inr rfl,kq,kq⟩)))))
def C7(t:Bq)(base v k b:Nat)(x:Nq):TL:=[str t,num (base:Nat),x 2,x 3,num (v:Nat),num (k:Nat),x 6,x 7,x 8,x 9,am b 0]++gD x 11 18
theorem Jx(z:∀f,f∈ut->pr f=none)(w:∀n:Nat,kg (1000+n)=false){a:Nat}(R:a=10\/a=16)(t:Bq)(P:t.length<=1000000):∃s1,Ef pr 370 #[str t,num (a:Nat)] s (.tuple #[num ((gQ a t 0).1:Nat),num ((gQ a t 0).2:Nat)]) s1/\iz s.nx s s1:=by
 refine EF.iy (z 370 dq) func370 rfl (zs (EW.seq (zr (zg 1 s (zp (Aj (l:=t) rfl underlying9 kq (w _)) (EO.nil (za (ni s t 0) (EW.fill (C7 t a 0 0 s.nx) kq ?_))))))));intro M;refine EW.block ?_;refine EW.mono (EW.dG (Q:=λe k S=>e=.exit 0/\iz s.nx s S/\∃x,k=C7 t a (gQ a t 0).1 (gQ a t 0).2 s.nx x) (λu k S=>∃A B v,t=A++B/\u=B.length/\(gQ a t 0).1=(gQ a B v).1/\(gQ a t 0).2=(gQ a B v).2+A.length/\v<=1114112/\S=ni s t A.length/\∃x,k=C7 t a v A.length s.nx x) ?_ t.length _ _ ⟨[],t,0,rfl,rfl,rfl,rfl,by omega,rfl,M,rfl⟩) ?_
 .rintro u k S ⟨A,B,v,q,rfl,h1,h2,T,rfl,x,rfl⟩;rw[h1,h2];have h:∀j,iz s.nx s (ni s t j):=λj=>iz.add lr;cases B with
  | nil =>rw[List.append_nil] at q;subst q;refine zr (zp (uw (b:=s.nx) (pos:=t.length) (l:=t) rfl kq jw lr) (zf (za (ni s t t.length) (EW.seq (zG (EW.exit ?_))))));exact⟨rfl,h _,by rw[show gQ a [] v=(v,0) from rfl,Nat.zero_add];exact aR kq⟩
  | cons y B =>
   have H:A.length<t.length:=gq
   have E:t[A.length]?=some y:=gq
   by_cases L:y.toNat<128
   .have p:=DG (pr:=pr) (s:=ni s t (A.length+1)) z (r:=((y.toNat:Nat):Int)) oq;have i:gQ a (y::B) v=if pD ((y.toNat:Nat):Int)<a then ((gQ a B (min (v*a+pD ((y.toNat:Nat):Int)) 1114112)).1,(gQ a B (min (v*a+pD ((y.toNat:Nat):Int)) 1114112)).2+1) else (v,0):=rfl;generalize pD ((y.toNat:Nat):Int)=d at *;refine zr (zp (JK (b:=s.nx) (pos:=A.length) (l:=t) (r:=y) rfl kq jw E L (w _)) ?_);rw[pT];generalize c:ni s t (A.length+1)=U at *;refine zf (za U (EW.seq (zT (EW.block (zs (za U (zr (zc 1 p (zf (za U (EW.seq (zr (zk 2 ?_)))))))))))));by_cases F:d<a
    .rw[ip F] at i;rw[i];refine zp (yb (num (d:Nat)) (num (a:Nat)) (eZ (b:=false) (fD oq))) (EO.nil (za U (zF ?_)));have G:((v:Nat):Int)*(a:Nat)<=17825792/\0<=((v:Nat):Int)*(a:Nat):=gq
     have D:(if (1114112:Int)<((v:Nat):Int)*(a:Nat)+(d:Nat) then 1114112 else ((v:Nat):Int)*(a:Nat)+(d:Nat))=((min (v*a+d) 1114112:Nat):Int):=gq
     generalize I:((v:Nat):Int)*(a:Nat)=o at G D;have J:min (v*a+d) 1114112<=1114112:=oq
     generalize O:min (v*a+d) 1114112=C at *;refine zr (zk 2 (zo U (EO.op (v:=num o) (s1:=U) kq ((show _=some (num (IntKind.i64.wrap (((v:Nat):Int)*(a:Nat))),U) by kernel_rfl).trans (by rw[I,Vs oq])) (zk 1 (zp (yp o (d:Nat) (o+(d:Nat)) rfl gq) (zo U (EO.op (v:=num (C:Nat)) (s1:=U) kq ((show _=some (num (if (1114112:Int)<o+(d:Nat) then 1114112 else o+(d:Nat)),U) by kernel_rfl).trans (by rw[D])) (zf (za U (zx (zk 1 (zp (yp (A.length:Nat) 1 ((A.length+1:Nat):Int) oq oq) (zf ?_)))))))))))));have g:(A++[y]).length=A.length+1:=iq
     exact⟨B.length,by simp,A++[y],B,C,by rw[q];simp,rfl,rfl,by rw[g];show(gQ a B C).2+1+A.length=_;omega,J,by rw[g];exact c.symm,by rw[g];exact aR kq⟩
    .rw[iw F] at i;rw[i,Nat.zero_add];refine zp (yb (num (d:Nat)) (num (a:Nat)) (eZ (b:=true) (tD oq))) (EO.nil (za U (zH (EW.exit ?_))));exact⟨rfl,by rw[<-c];exact h _,aR kq⟩
   .have N:=Py E oq;have i:gQ a (y::B) v=(v,0):=by
     have:¬pD ((y.toNat:Nat):Int)<a:=by rw[DF oq];omega
     unfold gQ;rw[iw this]
    rw[i,Nat.zero_add];have p:=DG (pr:=pr) (s:=ni s t (A.length+(Utf8.decode ⟨t.toArray⟩ A.length).2)) z (r:=((Utf8.decode ⟨t.toArray⟩ A.length).1:Nat)) oq;have m:pD ((Utf8.decode ⟨t.toArray⟩ A.length).1:Nat)=16:=DF oq;rw[m] at p;refine zr (zp (QT (b:=s.nx) (pos:=A.length) (l:=t) rfl kq jw H (w _)) ?_);rw[pT];generalize (Utf8.decode ⟨t.toArray⟩ A.length).1=V at *;generalize c:ni s t (A.length+(Utf8.decode ⟨t.toArray⟩ A.length).2)=U at *;refine zf (za U (EW.seq (zT (EW.block (zs (za U (zr (zc 1 p (zf (za U (EW.seq (zr (zk 2 (zp (yb (num 16) (num (a:Nat)) (eZ (b:=true) (tD oq))) (EO.nil (za U (zH (EW.exit ?_))))))))))))))))));exact⟨rfl,by rw[<-c];exact h _,aR kq⟩
 rintro e k S ⟨rfl,K,x,rfl⟩;generalize (gQ a t 0).1=v;generalize (gQ a t 0).2=n;exact zs (za S (EW.ret ⟨.inr rfl,kq,K⟩))
def UF(a:∀f,f∈ut->pr f=none)(h1:128<=v)(h2:v<=159):Ef pr 385 #[.int .i32 (v:Nat)] s (.int .i32 (MK v)) s:=by
 have b:=a 385 dq;obtain rfl|rfl|rfl|rfl|rfl|rfl|rfl|rfl|rfl|rfl|rfl|rfl|rfl|rfl|rfl|rfl|rfl|rfl|rfl|rfl|rfl|rfl|rfl|rfl|rfl|rfl|rfl|rfl|rfl|rfl|rfl|rfl:v=128\/v=129\/v=130\/v=131\/v=132\/v=133\/v=134\/v=135\/v=136\/v=137\/v=138\/v=139\/v=140\/v=141\/v=142\/v=143\/v=144\/v=145\/v=146\/v=147\/v=148\/v=149\/v=150\/v=151\/v=152\/v=153\/v=154\/v=155\/v=156\/v=157\/v=158\/v=159:=oq
 all_goals exact EF.eval 30 (by unfold bH;rw[b];kernel_rfl)
def RH(a:pr 335=none)(c:v<=1114112):Ef pr 335 #[.int .i32 ((v:Nat):Int)] s (.bool (decide (¬((55296<=v/\v<=57343)\/1114111<v)))) s:=by
 refine EF.of a func335 rfl (zs (EW.seq (EW.block (zr (zk 1 (zp (aQ (u:=.int .i32 0) (w:=.int .i32 ((v:Nat):Int)) rfl kq kq (bU (b:=true) (tD oq))) (zk 2 ?_)))))));by_cases h1:v<55296
 .rw[tD oq];exact zp (aQ (u:=.int .i32 ((v:Nat):Int)) (w:=.int .i32 55296) rfl kq kq (dV (b:=true) (tD oq))) (zf (za s (zH (zs (EW.ret ⟨.inr rfl,kq,kq⟩)))))
 .refine zp (aQ (u:=.int .i32 ((v:Nat):Int)) (w:=.int .i32 55296) rfl kq kq (dV (b:=false) (fD oq))) (zf (za s (zG (zr (zk 1 ?_)))));by_cases h2:57343<v
  .refine zp (aQ (u:=.int .i32 57343) (w:=.int .i32 ((v:Nat):Int)) rfl kq kq (dV (b:=true) (tD oq))) (zk 2 ?_);by_cases h3:v<=1114111
   .rw[tD oq];exact zp (aQ (u:=.int .i32 ((v:Nat):Int)) (w:=.int .i32 1114111) rfl kq kq (bU (b:=true) (tD oq))) (zf (za s (zH (zs (EW.ret ⟨.inr rfl,kq,kq⟩)))))
   .rw[fD oq];exact zp (aQ (u:=.int .i32 ((v:Nat):Int)) (w:=.int .i32 1114111) rfl kq kq (bU (b:=false) (fD oq))) (zf (za s (zF (zs (EW.ret ⟨.inr rfl,kq,kq⟩)))))
  .rw[fD oq];exact zp (aQ (u:=.int .i32 57343) (w:=.int .i32 ((v:Nat):Int)) rfl kq kq (dV (b:=false) (fD oq))) (zf (za s (zF (zs (EW.ret ⟨.inr rfl,kq,kq⟩)))))
def Jj(a:∀f,f∈ut->pr f=none)(i:v<=1114112):Ef pr 371 #[num (v:Nat)] s (.int .i32 (Gh v)) s:=by
 unfold Gh;refine EF.of (a 371 dq) func371 rfl ?_;refine zs (zr (zg 1 s (EO.op (v:=.int .i32 ((v:Nat):Int)) (s1:=s) kq ((show _=some (Value.int .i32 (eQ .i32 ((v:Nat):Int)),s) by kernel_rfl).trans (by rw[kH oq])) (zf (za s (EW.seq (EW.block (zr (zk 1 ?_)))))))));by_cases h:v=0
 .subst h;rw[ip (.inl rfl)];exact zf (za s (zH (zs (EW.ret ⟨.inr rfl,kq,kq⟩))))
 .refine zp (aQ (u:=num (v:Nat)) (w:=num 0) rfl kq kq (dk (b:=false) (bF.2 oq))) (zk 2 ?_);have d:Ef pr 335 #[.int .i32 ((v:Nat):Int)] s (.bool (decide (¬((55296<=v/\v<=57343)\/1114111<v)))) s:=RH (a 335 dq) i;refine zo s (zc 0 d ?_);by_cases c:(55296<=v/\v<=57343)\/1114111<v
  .rw[fD (λz=>z c),ip (.inr c)];exact zf (za s (zH (zs (EW.ret ⟨.inr rfl,kq,kq⟩))))
  .rw[tD c,iw oq];refine zf (za s (zG (zr (zk 1 ?_))));by_cases h3:128<=v
   .refine zp (aQ (u:=num 128) (w:=num (v:Nat)) rfl kq kq (sU (b:=true) (tD oq))) (zk 2 ?_);by_cases e:v<=159
    .rw[ip ⟨h3,e⟩];have g:=UF (pr:=pr) (s:=s) a h3 e;generalize MK v=j at g;exact zp (aQ (u:=num (v:Nat)) (w:=num 159) rfl kq kq (sU (b:=true) (tD oq))) (zf (za s (zH (zr (zc 1 g (zf (EW.ret ⟨.inr rfl,kq,kq⟩)))))))
    .rw[iw oq];exact zp (aQ (u:=num (v:Nat)) (w:=num 159) rfl kq kq (sU (b:=false) (fD oq))) (zf (za s (zF (zs (EW.ret ⟨.inr rfl,kq,kq⟩)))))
   .rw[iw oq];exact zp (aQ (u:=num 128) (w:=num (v:Nat)) rfl kq kq (sU (b:=false) (fD oq))) (zf (za s (zF (zs (EW.ret ⟨.inr rfl,kq,kq⟩)))))
end
def ua (c:UInt8):Bq->Bool
 | []=>false
 | y::_=>y.toNat.beq c.toNat
def D5(c:UInt8)(t:Bq):(decide (([c]:Bq).length<=t.length)&&cw (t.take ([c]:Bq).length) [c])=ua c t:=by
 cases t with
 | nil=>rfl
 | cons y t =>show(decide (1<=(y::t).length)&&(if y.toNat.beq c.toNat then cw [] [] else false))=y.toNat.beq c.toNat;cases y.toNat.beq c.toNat<;>simp[cw]
def q8 (t:Bq):Nat:=bif ua 120 t||ua 88 t then 1 else 0
def yW (t:Bq):Nat:=bif ua 120 t||ua 88 t then 16 else 10
def fv(t:Bq):Int × Nat :=
 if (gQ (yW t) (t.drop (q8 t)) 0).2=0 then (0,0)
 else (Gh (gQ (yW t) (t.drop (q8 t)) 0).1,(gQ (yW t) (t.drop (q8 t)) 0).2+q8 t+bif ua 59 (t.drop ((gQ (yW t) (t.drop (q8 t)) 0).2+q8 t)) then 1 else 0)
def tc(h:ua c t=true):1<=t.length:=by
 cases t with
 | nil=>cases h
 | cons y t=>simp
def PU(t:Bq):q8 t<=t.length/\q8 t<=1:=by
 unfold q8;cases h:ua 120 t||ua 88 t with
 | false=>exact⟨Nat.zero_le _,Nat.zero_le _⟩
 | true =>rw[BM] at h;rcases h with h|h<;>exact⟨tc h,lr⟩
theorem Jw(t:Bq):(gQ (yW t) (t.drop (q8 t)) 0).2+q8 t<=t.length:=by have h1:=(xD (yW t) (t.drop (q8 t)) 0 oq).2;have h2:=PU t;grind
theorem vG(t:Bq):(fv t).2<=t.length:=by
 have h1:=Jw t;unfold fv;split
 .exact Nat.zero_le _
 .show(gQ (yW t) (t.drop (q8 t)) 0).2+q8 t+_<=_;cases h:ua 59 (t.drop ((gQ (yW t) (t.drop (q8 t)) 0).2+q8 t)) with
  | false=>exact h1
  | true =>have:=tc h;grind
def Rm(t:Bq)(bs fr:Nat)(x:Nq):TL:=[str t,x 1,x 2,x 3,num (bs:Nat),num (fr:Nat)]++gD x 6 29
section
variable {pr:Prim}{s:AS}
def xP(dD:∀f,f∈ut->pr f=none)(c:UInt8)(t:Bq):Ef pr 89 #[str t,str [c]] s (.bool (ua c t)) s:=sb (dD 178 dq) (dD 89 dq) (D5 c t)
theorem LC(U:∀f,f∈ut->pr f=none)(D:∀n:Nat,kg (1000+n)=false)(t:Bq)(I:t.length<=1000000):∃B,Ef pr 332 #[str t] s (.tuple #[.int .i32 (fv t).1,num ((fv t).2:Nat)]) B/\iz s.nx s B:=by
 have E:=Jw t;have h:=(xD (yW t) (t.drop (q8 t)) 0 oq).1;have r:yW t=10\/yW t=16:=by unfold yW;cases ua 120 t||ua 88 t<;>simp
 have⟨a,y,q⟩:=Jx (pr:=pr) (s:=s) U D r (t.drop (q8 t)) gq;have p:=xP (pr:=pr) (s:=s) U 120 t;have o:=xP (pr:=pr) (s:=s) U 88 t;refine EF.iy (U 332 dq) func332 rfl ?_;iterate 2 refine zs ?_
 refine EW.seq (EW.mono (Q:=λe w A=>e=.normal/\s=A/\∃x,w=Rm t (yW t) (q8 t) x) ?_ ?_)
 .unfold yW q8;refine zr ?_;cases h1:ua 120 t with
  | true =>rw[h1] at p;refine zc 1 p (zf (za s (zH (zx (zf ?_)))));exact⟨rfl,kq,aR kq⟩
  | false =>
   rw[h1] at p;refine zc 1 p ?_;cases h2:ua 88 t with
   | true =>rw[h2] at o;refine zc 2 o (zf (za s (zH (zx (zf ?_)))));exact⟨rfl,kq,aR kq⟩
   | false =>rw[h2] at o;refine zc 2 o (zf (za s (zF ?_)));exact⟨rfl,rfl,aR kq⟩
 rintro e w A ⟨rfl,rfl,x,rfl⟩;unfold fv;have g:=xP (pr:=pr) (s:=a) U 59 (t.drop ((gQ (yW t) (t.drop (q8 t)) 0).2+q8 t));have d:=Jj (pr:=pr) (s:=a) U h;have u:(t.take t.length).drop (q8 t)=t.drop (q8 t):=gq
 have C:∀k,(t.take t.length).drop k=t.drop k:=λk=>by rw[List.take_length]
 generalize gQ (yW t) (t.drop (q8 t)) 0=H at *;have⟨v,n⟩:=H;simp only at E h g d y |-;generalize t.drop (q8 t)=G at *;generalize yW t=J at *;generalize q8 t=c at *;refine zr (zg 2 s (zp (iF (l:=t) (m:=G) (i:=c) (j:=t.length) rfl underlying9 kq ((show _=bD t.length t.length (some (num (c:Nat))) none by kernel_rfl).trans (gL oq oq)) u) (zc 1 y (zf (za a (EW.seq (zr (zk 1 ?_))))))));by_cases z:n=0
 .subst z;rw[ip rfl];exact zf (za a (zH (zr (zf (za a (EW.ret ⟨.inr rfl,kq,q⟩))))))
 .rw[iw z];refine zp (yb (num (n:Nat)) (num 0) (dk (b:=false) (bF.2 oq))) (EO.nil (za a (zF (zr (zk 2 (zp (yp (n:Nat) (c:Nat) ((n+c:Nat):Int) oq oq) (zf (za a (EW.seq (zr (zg 2 a (zp (iF (l:=t) (m:=t.drop (n+c)) (i:=n+c) (j:=t.length) rfl underlying9 kq ((show _=bD t.length t.length (some (num ((n+c:Nat):Int))) none by kernel_rfl).trans (gL oq oq)) (C _)) (zc 0 g ?_)))))))))))));generalize ua 59 (t.drop (n+c))=F at *;generalize Gh v=K at *;cases F with
  | true =>refine EO.nil ?_;refine za a (zH (zx (zk 1 (zp (yp ((n+c:Nat):Int) 1 ((n+c+1:Nat):Int) oq oq) (zf (za a (zr (zc 1 d (zf (za a ?_))))))))));exact EW.ret ⟨.inr rfl,kq,q⟩
  | false =>refine EO.nil ?_;refine za a (zF (zr (zc 1 d (zf (za a ?_)))));exact EW.ret ⟨.inr rfl,kq,q⟩
def mB(r:Bq)(w:Int):Bool:=(w==0)||match r with
 | []=>true
 | y::_=>!kI ((y.toNat:Nat):Int)&&!decide (48<=((y.toNat:Nat):Int)/\((y.toNat:Nat):Int)<=57)&&((y.toNat:Nat):Int) != 61
def Lv(a:pr 147=none)(c:pr 247=none)(d:pr 339=none)(e:pr 372=none)(r:Bq)(w:Int):Ef pr 372 #[str r,num w] s (.bool (mB r w)) s:=by
 refine EF.of e func372 rfl ?_;refine zs (EW.seq (zr (zk 1 (zp (aQ (u:=num w) (w:=num 0) rfl kq kq (dk (b:=w==0) rfl)) ?_))));cases hw:(w==(0:Int)) with
 | true =>rw[show mB r w=true by unfold mB;rw[hw];rfl];refine zf (za s (zH (zs ?_)));exact EW.ret ⟨.inr rfl,kq,kq⟩
 | false =>
  cases r with
  | nil =>rw[show mB [] w=true by unfold mB;rw[hw];rfl];refine zf (za s (zH (zs ?_)));exact EW.ret ⟨.inr rfl,kq,kq⟩
  | cons y r =>
   rw[show mB (y::r) w=(!kI ((y.toNat:Nat):Int)&&!decide (48<=((y.toNat:Nat):Int)/\((y.toNat:Nat):Int)<=57)&&((y.toNat:Nat):Int) != 61) by unfold mB;rw[hw];rfl];have g:=oM (pr:=pr) (s:=s) a c (l:=((y.toNat:Nat):Int)) (by have:=y.toNat_lt;omega);have f:=vW (pr:=pr) (s:=s) d ((y.toNat:Nat):Int);have o:=y.toNat_lt;refine zf (za s (zF (zr (zk 1 (zp (jW (l:=y::r) (k:=.i64) (n:=0) (b:=y) rfl underlying9 kq kq oq rfl) ?_)))));generalize j:((y.toNat:Nat):Int)=yn at *;refine zo s (EO.op (v:=.int .i32 yn) (s1:=s) kq ((show _=some (Value.int .i32 (eQ .i32 yn),s) by kernel_rfl).trans (by rw[kH oq])) (zf (za s (zr (zc 1 g ?_)))));generalize kI yn=h at *;generalize decide (48<=yn/\yn<=57)=i at *;cases h with
   | true =>refine zf ?_;exact EW.ret ⟨.inr rfl,kq,kq⟩
   | false =>
    refine zc 3 f ?_;cases i with
    | true =>refine zf ?_;exact EW.ret ⟨.inr rfl,kq,kq⟩
    | false =>refine zk 4 ?_;refine zp (aQ (u:=.int .i32 yn) (w:=.int .i32 61) rfl kq kq (cM (b:=yn != 61) rfl)) ?_;generalize (yn != (61:Int))=m;refine zf ?_;exact EW.ret ⟨.inr rfl,kq,kq⟩
end
def km (k:Nat):ByteArray × Int × Bool:=PL.getD k (⟨#[]⟩,0,false)
def yv (k:Nat):Bq:=(km k).1.data.toList
theorem MP{kt:TypeId->Bool}{c:fI}{a:TL}{o:Oper}{i:Operand}(U:o.op=.index 335 x i)(b:a.at x=.agg cR.toArray)(hi:a.at i=num (k:Nat))(d:k<18):bN prog kt c a o s=some (.agg (Iy (km k)).toArray,s):=by
 refine ej (by rw[U];rfl) gq ?_;unfold cj;rw[U];simp only[underlying335];unfold tP;rw[U];have h1:(Op.index 335 x i).operands.toList.all (λx=>pS (a.at x))=true:=by show(pS (a.at x)&&(pS (a.at i)&&true))=true;rw[b,hi];kernel_rfl
 rw[ip h1];have h2:RG (gn prog (execOp a.at o))=some (.agg (Iy (km k)).toArray):=by
  unfold execOp;rw[U];simp only[b,hi];obtain rfl|rfl|rfl|rfl|rfl|rfl|rfl|rfl|rfl|rfl|rfl|rfl|rfl|rfl|rfl|rfl|rfl|rfl:k=0\/k=1\/k=2\/k=3\/k=4\/k=5\/k=6\/k=7\/k=8\/k=9\/k=10\/k=11\/k=12\/k=13\/k=14\/k=15\/k=16\/k=17:=oq
  all_goals kernel_rfl
 rw[h2];exact ip (show pS _=true from rfl)
def mV (t:Bq)(w:Int):Nat->Nat->Int × Nat->Int × Nat
 | 0,_,a=>a
 | n+1,k,a=>match mT (yv k) t with
  | none=>mV t w n (k+1) a
  | some r=>bif ua 59 r then ((km k).2.1,(yv k).length+1) else bif (km k).2.2&&(decide (a.2<(yv k).length)&&mB r w) then mV t w n (k+1) ((km k).2.1,(yv k).length) else mV t w n (k+1) a
def iR (t:Bq)(w:Int):Int × Nat:=mV t w 18 0 (38,0)
def MF:∀k,k<18->(yv k).length<=10:=dq
def Ju:List FuncId:=[89,147,178,247,269,339,340,372]
abbrev LR(k:Nat):Obj:=.cells (Iy (km k)).toArray 334
def wD(t:Bq)(w l:Int)(n k:Nat)(x:Nq):TL:=[str t,num w,x 2,x 3,.int .i32 l,num (n:Nat),x 6,x 7,x 8,x 9,.agg cR.toArray,num (k:Nat)]++gD x 12 44
section
variable {pr:Prim}{s:AS}
def Px(a:pr 178=none)(c:pr 340=none)(b:pr 269=none)(l p:Bq):Ef pr 269 #[str l,str p] s (.tuple #[str ((mT p l).getD l),.bool (mT p l).isSome]) s:=by
 cases h:mT p l with
 | none=>exact pC a c b (.inl ⟨rfl,nM h,rfl⟩)
 | some r=>exact pC a c b (.inr ⟨rfl,lf h⟩)
def MD(dD:∀f,f∈Ju->pr f=none)(t:Bq)(w:Int){c:Code}(hc:c=(match Tryz.f333.body with|some (.seq _ (.seq _ (.seq (.seq _ (.block _ (.loop b))) _)))=>b|_=>.skip)) :
  ∀x,Ew pr (.loop c) (wD t w 38 0 0 x) s (λe a' S=>iz s.nx s S/\(e=.exit 0\/e=.ret)/\∃k x,a'=wD t w (iR t w).1 (iR t w).2 k x):=by
 intro x0;refine EW.dG (λu a' S=>∃k l n,u+k=18/\mV t w u k (l,n)=iR t w/\n<=10/\iz s.nx s S/\∃x,a'=wD t w l n k x) ?_ 18 _ _ ⟨0,38,0,rfl,rfl,by omega,iz.refl,x0,rfl⟩;rintro u a' S ⟨k,l,n,hu,hn,TM,hf,x,rfl⟩;subst hc;by_cases hk:k<18
 .obtain⟨u,rfl⟩:∃v,u=v+1:=⟨u-1,by omega⟩;have re:mV t w (u+1) k (l,n)=match mT (yv k) t with
   | none=>mV t w u (k+1) (l,n)
   | some r=>bif ua 59 r then ((km k).2.1,(yv k).length+1) else bif (km k).2.2&&(decide (n<(yv k).length)&&mB r w) then mV t w u (k+1) ((km k).2.1,(yv k).length) else mV t w u (k+1) (l,n):=rfl
  rw[hn] at re;clear hn;have hz:=Has.new S (.cells #[str [],.int .i32 0,.bool false] 334);have hN:=Has.new S (LR k);have R9:iz s.nx s (S.add (LR k)):=hf.trans (iz.add (by have:=hf.1;omega));have XV:(S.add (.cells #[str [],.int .i32 0,.bool false] 334)).set S.nx (some (LR k))=S.add (LR k):=AS.set_set (⟨S.hp,S.nx+1⟩:AS) S.nx (some (.cells #[str [],.int .i32 0,.bool false] 334)) (some (LR k));have X1:=Px (pr:=pr) (s:=S.add (LR k)) (dD 178 dq) (dD 340 dq) (dD 269 dq) t (yv k);have Sc:=MF k hk;have hN:Has (S.add (LR k)) S.nx (.cells #[str (yv k),.int .i32 (km k).2.1,.bool (km k).2.2] 334):=hN;have XV:(S.add (.cells #[str [],.int .i32 0,.bool false] 334)).set S.nx (some (.cells #[str (yv k),.int .i32 (km k).2.1,.bool (km k).2.2] 334))=S.add (LR k):=XV;have Yg:∀{c:fI} {a:TL} {o:Oper} {y i:Operand},o.op=.index 335 y i->a.at y=.agg cR.toArray->a.at i=num (k:Nat)->bN prog kg c a o S=some (.agg #[str (yv k),.int .i32 (km k).2.1,.bool (km k).2.2],S):=λh1 h2 h3=>MP h1 h2 h3 hk;generalize yv k=nm at *;generalize (km k).2.1=el at *;generalize (km k).2.2=eb at *;generalize S.add (LR k)=S1 at *;refine zr (zk 0 (zp (yb (num (k:Nat)) (num 18) (aX (b:=true) (tD oq))) (EO.nil (za S (EW.seq (zT (EW.seq (EW.block (zr (zp (Yg rfl kq kq) (zg 1 (S.add (.cells #[str [],.int .i32 0,.bool false] 334)) (zp (fx (b:=S.nx) (off:=0) (w:=.agg #[str nm,.int .i32 el,.bool eb]) (ws:=[str nm,.int .i32 el,.bool eb]) rfl kq kq rfl rfl kq hz.2 iq) (EO.nil (za ((S.add (.cells #[str [],.int .i32 0,.bool false] 334)).set S.nx (some (.cells #[str nm,.int .i32 el,.bool eb] 334))) ?_))))))))))))));rw[XV];refine zr (zg 2 S1 (zp (yl S.nx 0 (str nm) hN.2) (zc 0 X1 ?_)));cases hcr:mT nm t with
  | none =>rw[hcr] at re;simp only at re;refine zf (za S1 (EW.block (zr (zf (za S1 (zT (zx (zp (yp (k:Nat) 1 ((k+1:Nat):Int) oq oq) (zf ?_)))))))));exact⟨u,by omega,k+1,l,n,by omega,re.symm,TM,R9,aR kq⟩
  | some r =>
   rw[hcr] at re;simp only at re;have hse:=sb (pr:=pr) (s:=S1) (dD 178 dq) (dD 89 dq) (D5 59 r);have hba:=Lv (pr:=pr) (s:=S1) (dD 147 dq) (dD 247 dq) (dD 339 dq) (dD 372 dq) r w;have l1:aB prog 21 (am S.nx 1) S1=some (.int .i32 el):=bE (P:=prog) (t:=21) underlying21 rfl hN.2 (off:=1) rfl;have l2:aB prog 9 (am S.nx 0) S1=some (str nm):=bE (P:=prog) (t:=9) underlying9 rfl hN.2 (off:=0) rfl;refine zf (za S1 (EW.block (zr (zf (za S1 (zG (zr (zc 1 hse ?_))))))));cases h59:ua 59 r with
   | true =>
    rw[h59] at re;have re:iR t w=(el,nm.length+1):=re;rw[re];refine zf (za S1 (zH (EW.seq (EW.draw kq kq kq ?_))));refine zq (zt S1 (zu (yl S.nx 1 (.int .i32 el) hN.2) (zq (zt S1 (zu (yl S.nx 0 (str nm) hN.2) (zu (cY (l:=nm) rfl underlying9 kq) (zu (yp (nm.length:Nat) 1 ((nm.length+1:Nat):Int) oq oq) ?_)))))));iterate 2 refine zq ?_
    refine ET.nil ⟨aI [(aB prog 21 (am S.nx 1) S1,.int .i32 el),(aB prog 9 (am S.nx 0) S1,str nm)] kq (iD ⟨l1,rfl⟩ ⟨l2,rfl⟩),_,_,_,_,_,_,rfl,rfl,?_⟩;exact za S1 (EW.ret ⟨R9,.inr rfl,k,aR kq⟩)
   | false =>
    rw[h59] at re;have re:iR t w=bif eb&&(decide (n<nm.length)&&mB r w) then mV t w u (k+1) (el,nm.length) else mV t w u (k+1) (l,n):=re;refine zf (za S1 (zG (zr (zg 1 S1 (zp (yl S.nx 2 (.bool eb) hN.2) ?_)))));cases eb with
    | false =>refine zf ?_;refine za S1 (zF (zx (zp (yp (k:Nat) 1 ((k+1:Nat):Int) oq oq) (zf ?_))));exact⟨u,by omega,k+1,l,n,by omega,re.symm,TM,R9,aR kq⟩
    | true =>
     refine zg 2 S1 (zp (yl S.nx 0 (str nm) hN.2) (zp (cY (l:=nm) rfl underlying9 kq) (zk 1 ?_)));by_cases kF:n<nm.length
     .rw[tD kF] at re;refine zp (yb (num (nm.length:Nat)) (num (n:Nat)) (dQ (b:=true) (tD oq))) (zo S1 (zc 4 hba ?_));cases hbk:mB r w with
      | true =>
       rw[hbk] at re;have re:iR t w=mV t w u (k+1) (el,nm.length):=re;refine zf (za S1 (zH ?_));refine EW.draw kq kq kq ?_;refine zq (zt S1 (zu (yl S.nx 1 (.int .i32 el) hN.2) (zq (zt S1 (zu (yl S.nx 0 (str nm) hN.2) (zu (cY (l:=nm) rfl underlying9 kq) ?_))))));iterate 2 refine zq ?_
       refine ET.nil ⟨aI [(aB prog 21 (am S.nx 1) S1,.int .i32 el),(aB prog 9 (am S.nx 0) S1,str nm)] kq (iD ⟨l1,rfl⟩ ⟨l2,rfl⟩),_,_,_,_,_,_,rfl,rfl,?_⟩;refine za S1 (zx (zp (yp (k:Nat) 1 ((k+1:Nat):Int) oq oq) (zf ?_)));exact⟨u,by omega,k+1,el,nm.length,by omega,re.symm,Sc,R9,aR kq⟩
      | false =>rw[hbk] at re;have re:iR t w=mV t w u (k+1) (l,n):=re;refine zf (za S1 (zF (zx (zp (yp (k:Nat) 1 ((k+1:Nat):Int) oq oq) (zf ?_)))));exact⟨u,by omega,k+1,l,n,by omega,re.symm,TM,R9,aR kq⟩
     .rw[fD kF] at re;have re:iR t w=mV t w u (k+1) (l,n):=re;refine zp (yb (num (nm.length:Nat)) (num (n:Nat)) (dQ (b:=false) (fD oq))) (zf (za S1 (zF (zx (zp (yp (k:Nat) 1 ((k+1:Nat):Int) oq oq) (zf ?_))))));exact⟨u,by omega,k+1,l,n,by omega,re.symm,TM,R9,aR kq⟩
 .obtain rfl:u=0:=oq
  have hn:(l,n)=iR t w:=hn;rw[<-hn];exact zr (zp (yb (num (k:Nat)) (num 18) (aX (b:=false) (fD oq))) (EO.nil (za S (EW.seq (zG (EW.exit ⟨hf,.inl rfl,k,aR kq⟩))))))
end
structure Ll(pr:Prim):Prop where
 no:∀f,f∈ut->pr f=none
 JQ:pr 373=bu 373
 nm:∀(s:AS) (t:Bq) (w:Int),s.get 1=some (.cells cR.toArray 335)->EF prog kg pr 333 #[str t,num w] s (.tuple #[.int .i32 (iR t w).1,num ((iR t w).2:Nat)]) s
 kt:∀n:Nat,kg (1000+n)=false
def iG (t:Bq)(w:Int):Int × Nat:=bif ua 35 t then (if (fv (t.drop 1)).2=0 then (38,0) else ((fv (t.drop 1)).1,(fv (t.drop 1)).2+1)) else iR t w
def vb (c:UInt8):Bq->Option (Bq × Bq)
 | []=>none
 | y::l=>if y=c then some ([],l) else (vb c l).map λp=>(y::p.1,p.2)
theorem Dz{c:UInt8}:∀{l:Bq},vb c l=none->c∉l
 | [],_=>by simp
 | y::l,h=>by
  unfold vb at h;split at h
  .cases h
  .next U =>have:=Dz (by simpa using h);grind
theorem tI{c:UInt8}:∀{l a b:Bq},vb c l=some (a,b)->c∉a/\l=a++c::b
 | [],a,b,h=>by cases h
 | y::l,a,b,h=>by
  unfold vb at h;split at h
  .grind
  .next hy =>
   cases U:vb c l with
   | none=>rw[U] at h;cases h
   | some p =>rw[U] at h;cases h;have⟨h1,h2⟩:=tI U;grind
def OW:Nat->Bq->Int->Bq
 | 0,_,_=>[]
 | n+1,t,w=>match vb 38 t with
  | none=>t
  | some p=>p.1++(encodeRune (iG p.2 w).1++OW n (p.2.drop (iG p.2 w).2) w)
def G0 (t:Bq)(w:Int):Bq:=OW (t.length+1) t w
theorem E9:∀(n:Nat) (t:Bq) (w:Int),(OW n t w).length<=4*t.length
 | 0,t,w=>Nat.zero_le _
 | n+1,t,w=>by
  unfold OW;cases h:vb 38 t with
  | none=>show t.length<=_;omega
  | some p =>
   have⟨_,h2⟩:=tI (a:=p.1) (b:=p.2) h;have h3:=E9 n (p.2.drop (iG p.2 w).2) w;have c:=encodeRuneZ_length (iG p.2 w).1;have d:(encodeRune (iG p.2 w).1).length=(encodeRuneZ (iG p.2 w).1).length:=by simp[encodeRune]
   grind
theorem sX(t:Bq)(w:Int):∀(n k:Nat) (a:Int × Nat),k+n<=18->Good a.1->a.2<=t.length->Good (mV t w n k a).1/\(mV t w n k a).2<=t.length
 | 0,k,a,hk,h1,h2=>⟨h1,h2⟩
 | n+1,k,a,hk,h1,h2=>by
  have U:Good (km k).2.1:=by
   have:∀j,j<18->(0<=(km j).2.1/\(km j).2.1<55296):=dq
   exact .inl (this k oq)
  unfold mV;cases hc:mT (yv k) t with
  | none=>exact sX t w n (k+1) a oq h1 h2
  | some r =>
   have b:t.length=(yv k).length+r.length:=by rw[lf hc];simp
   simp only;cases hh:ua 59 r with
   | true=>exact⟨U,by have:=tc hh;show(yv k).length+1<=_;omega⟩
   | false =>
    cases (km k).2.2&&(decide (a.2<(yv k).length)&&mB r w) with
    | true=>exact sX t w n (k+1) _ oq U gq
    | false=>exact sX t w n (k+1) a oq h1 h2
theorem Na(t:Bq)(w:Int):Good (iG t w).1/\(iG t w).2<=t.length:=by
 unfold iG;cases h:ua 35 t with
 | false=>exact sX t w 18 0 _ oq (.inl ⟨dq,by decide⟩) (Nat.zero_le _)
 | true =>
  have h2:=vG (t.drop 1);rw[List.length_drop] at h2;show Good (if (fv (t.drop 1)).2=0 then ((38:Int),0) else ((fv (t.drop 1)).1,(fv (t.drop 1)).2+1)).1/\_;split
  .exact⟨.inl ⟨dq,by decide⟩,Nat.zero_le _⟩
  .next U =>
   refine⟨?_,by show(fv (t.drop 1)).2+1<=_;omega⟩;show Good (fv (t.drop 1)).1;unfold fv at U |-;split
   .grind
   .exact Gi _
def OP(t:Bq)(w:Int)(b:Nat)(x:Nq):TL:=[str t,num w,x 2,x 3,x 4,am b 0]++gD x 6 27
def BW.D1(h:BW s N b l)(c:iz s.nx s s'):BW s' N b l:=by
 have⟨h1,h2,p,f,h3,e,a⟩:=h;have g:=c.1;refine⟨h1,by omega,p,f,(c.2 b h2).trans h3,e,?_⟩;rcases a with a|⟨d,fz,q1,q2,q3,q4,q5⟩
 .exact .inl a
 .exact .inr ⟨d,fz,q1,q2,by omega,q4,(c.2 d q3).trans q5⟩
section
variable {pr:Prim}{s:AS}
def Pq(c:Ll pr)(r:Bq)(z:UInt8):Ef pr 373 #[str r,.int .u8 ((z.toNat:Nat):Int)] s (num (ju z.toNat r 0)) s:=by obtain⟨g,b⟩:∃g,bu 373=some g:=⟨_,rfl⟩;have a:=EF.eval (P:=prog) (kt:=kg) (pr:=bu) (f:=373) (args:=#[str r,.int .u8 ((z.toNat:Nat):Int)]) (s:=s) (v:=num (ju (((z.toNat:Nat):Int).toNat % 256) r 0)) (s':=s) 1 kq;rw[toNat_mod] at a;have⟨m,a⟩:=a;refine EF.vp (c.JQ.trans b) ?_;unfold bH at a;rw[b] at a;exact a
def Eb(a:Ll pr)(l:Bq)(c:UInt8):Ef pr 341 #[str l,str [c]] s (num (if cw [c] l=true then 0 else ju c.toNat l 0)) s:=by
 have d:=Pq (s:=s) a l c;refine EF.of (a.no 341 dq) func341 rfl ?_;iterate 2 refine zs ?_
 refine EW.seq (EW.block (zr (zk 5 (zp (aQ (u:=str [c]) (w:=str l) rfl kq kq (dP (b:=cw [c] l) rfl)) ?_))));cases h:cw [c] l with
 | true =>rw[ip rfl];refine zf (za s (zH (zs ?_)));exact EW.ret ⟨.inr rfl,kq,kq⟩
 | false =>rw[iw dq];generalize ju c.toNat l 0=e at *;refine zf (za s (zG (zr (zf (za s (zH (zr (zk 2 (zp (jW (l:=[c]) (k:=.i64) (n:=0) (b:=c) rfl underlying9 kq kq oq rfl) (zo s (zc 0 d (zf ?_))))))))))));exact EW.ret ⟨.inr rfl,kq,kq⟩
theorem I9(U:Ll pr)(h:c∉l):Ef pr 341 #[str l,str [c]] s (num (-1)) s:=by have:=Eb (s:=s) U l c;rw[pQ h,kv gq] at this;exact this
theorem Ja(U:Ll pr){b:Bq}(h:c∉a):Ef pr 341 #[str (a++c::b),str [c]] s (num a.length) s:=by
 have:=Eb (s:=s) U (a++c::b) c;rw[ud h] at this;by_cases d:cw [c] (a++c::b)=true
 .have e:=(dz _ _).1 d;have f:a=[]:=by
   cases a with
   | nil=>rfl
   | cons x a=>simp at e
  grind
 .grind
def Pw(d:Ll pr){x b:Bq}{t:Bool}(h:Sp c x a b t)(e:x.length<=1000000):Ef pr 331 #[str x,str [c]] s (.tuple #[str a,str b,.bool t]) s:=by
 refine EF.of (d.no 331 dq) func331 rfl (zs (EW.seq (zr (zk 2 ?_))));rcases h with ⟨rfl,h,rfl,rfl⟩|⟨rfl,h,rfl⟩
 .refine EO.gd #[str a,str [c]] kq rfl rfl kq kq (I9 d h) (zf (EW.go 50 kq (EW.Oj 50 .ret kq ?_)));exact⟨.inr rfl,by kernel_rfl,by kernel_rfl⟩
 .have f:a.length+(b.length+1)<=1000000:=by simpa using e
  refine EO.gd #[str (a++c::b),str [c]] kq rfl rfl kq kq (Ja d h) (zf (zs (zH (EW.seq (EW.draw kq kq kq ?_)))));iterate 2 refine zq ?_
  refine zu (iF (l:=a++c::b) (i:=0) (j:=a.length) rfl underlying9 kq ((show _=bD (a++c::b).length (a++c::b).length none (some (num a.length)) by kernel_rfl).trans (oG oq (by simp;omega))) (KI _ _ _)) ?_;iterate 4 refine zq ?_
  refine zu (iP (i:=a.length) (j:=1) (r:=a.length+1) rfl kq kq rfl oq) (zu (iF (l:=a++c::b) (i:=a.length+1) (j:=(a++c::b).length) rfl underlying9 kq ((show _=bD (a++c::b).length (a++c::b).length (some (num (a.length+1))) none by kernel_rfl).trans (gL oq (by simp;omega))) (Im _ _ _)) ?_);iterate 3 refine zq ?_
  refine ET.nil ⟨kq,_,_,_,_,_,_,rfl,rfl,?_⟩;refine EW.ret ?_;exact⟨.inr rfl,by kernel_rfl,by kernel_rfl⟩
def Of(d:Ll pr){x b:Bq}{t:Bool}(h:Sp c x a b t)(e:x.length<=1000000):Ef pr 262 #[str x,str [c]] s (.tuple #[str a,str b,.bool t]) s:=by have h1:=Pw (s:=s) d h e;exact EF.of (d.no 262 dq) func262 rfl (zs (zr (zc 2 h1 (zf yR))))
theorem UW(U:Ll pr)(t:Bq)(v:t.length<=900000)(w:Int)(h1:Has s 1 (.cells cR.toArray 335)):∃n,Ef pr 263 #[str t,num w] s (.tuple #[.int .i32 (iG t w).1,num ((iG t w).2:Nat)]) n/\iz s.nx s n:=by
 have q:=xP (pr:=pr) (s:=s) U.no 35 t;have p:=U.nm s t w h1.2;have c:=vG (t.drop 1);have⟨e,k,d⟩:=LC (pr:=pr) (s:=s) U.no U.kt (t.drop 1) gq;have g:(t.take t.length).drop 1=t.drop 1:=gq
 unfold iG;refine EF.iy (U.no 263 dq) func263 rfl ?_;refine zs (EW.seq (zr (zc 1 q ?_)));cases a0:ua 35 t with
 | true =>
  have u:=tc a0;rw[List.length_drop] at c;generalize fv (t.drop 1)=o at *;have⟨f,a⟩:=o;simp only at k c |-;generalize t.drop 1=r at *;refine zf (za s (zH (zr (zg 1 s (zp (iF (l:=t) (m:=r) (i:=1) (j:=t.length) rfl underlying9 kq ((show _=bD t.length t.length (some (num 1)) none by kernel_rfl).trans (gL oq oq)) g) (zc 0 k (zf (za e (EW.seq (zr (zk 1 ?_)))))))))));by_cases h:a=0
  .subst h;rw[show(bif true then (if (0:Nat)=0 then ((38:Int),0) else (f,0+1)) else iR t w)=(38,0) from rfl];exact zf (za e (zF (zs (za e (EW.ret ⟨.inr rfl,kq,d⟩)))))
  .rw[show(bif true then (if a=0 then ((38:Int),0) else (f,a+1)) else iR t w)=(f,a+1) from iw h];exact zp (yb (num (a:Nat)) (num 0) (dQ (b:=true) (tD oq))) (EO.nil (za e (zH (zr (zk 2 (zp (yp 1 (a:Nat) ((a+1:Nat):Int) oq oq) (zf (za e (EW.ret ⟨.inr rfl,kq,d⟩)))))))))
 | false =>rw[show(bif false then (if (fv (t.drop 1)).2=0 then ((38:Int),0) else ((fv (t.drop 1)).1,(fv (t.drop 1)).2+1)) else iR t w)=iR t w from rfl];generalize (iR t w).1=x at *;generalize (iR t w).2=y at *;refine zf (za s (zF (zr (zc 2 p (zf (za s ?_))))));exact EW.ret ⟨.inr rfl,kq,iz.refl⟩
theorem RO(F:Ll pr)(t:Bq)(ae:t.length<=100000)(w:Int)(h1:Has s 1 (.cells cR.toArray 335)):∃s1,Ef pr 157 #[str t,num w] s (str (G0 t w)) s1/\iz s.nx s s1:=by
 have U:=F.no;have T:=Has.new s (.cells #[.pointer none,aD] 119);have O:iz s.nx s (s.add (.cells #[.pointer none,aD] 119)):=iz.add lr;have L:BW (s.add (.cells #[.pointer none,aD] 119)) s.nx s.nx []:=⟨lr,T.1,_,_,T.2,.inl rfl,.inl ⟨rfl,rfl⟩⟩;refine EF.iy (U 157 dq) func157 rfl ?_;iterate 2 refine zs ?_
 refine za (s.add (.cells #[.pointer none,aD] 119)) ?_;generalize s.add (.cells #[.pointer none,aD] 119)=S0 at *;refine EW.fill (OP t w s.nx) kq ?_;intro x0;refine EW.block ?_;refine EW.dG (λu W S=>∃f d n,u=f.length/\d++OW n f w=G0 t w/\f.length<n/\d.length+4*f.length<=400000/\BW S s.nx s.nx d/\(d=[]->∃p,S.get s.nx=some (.cells #[p,aD] 119)/\(p=.pointer none\/p=am s.nx 0))/\iz s.nx s S/\∃x,W=OP f w s.nx x) ?_ t.length _ _ ⟨t,[],t.length+1,rfl,rfl,by omega,by simp;omega,L,λ_=>⟨_,T.2,.inl rfl⟩,O,x0,rfl⟩;rintro u W S ⟨f,d,n,rfl,q,hn,hl,Y,E,C,x,rfl⟩;obtain⟨n,rfl⟩:∃m,n=m+1:=⟨n-1,by omega⟩;have Q:OW (n+1) f w=match vb 38 f with
  | none=>f
  | some p=>p.1++(encodeRune (iG p.2 w).1++OW n (p.2.drop (iG p.2 w).2) w):=rfl
 rw[Q] at q;refine EW.block ?_;cases hc:vb 38 f with
 | none =>
  rw[hc] at q;have q:d++f=G0 t w:=q;have H:=Of (pr:=pr) (s:=S) F (c:=38) (x:=f) (a:=f) (b:=[]) (t:=false) (.inl ⟨rfl,Dz hc,rfl,rfl⟩) oq;rw[<-q];refine zr (zc 1 H (zf (za S ?_)));by_cases Z:d++f=[]
  .obtain⟨rfl,rfl⟩:=List.append_eq_nil_iff.1 Z;have⟨p,q1,q2⟩:=E rfl;have⟨r,g0,g1,g2,g3⟩:=qU (pr:=pr) (U 261 dq) q1 q2;have R:∃v g,Ef pr 156 #[am s.nx 0,str []] S v g/\(∃p,g.get s.nx=some (.cells #[p,aD] 119))/\iz s.nx s g:=by refine EF.UC (U 156 dq) func156 rfl ?_;refine zs (zr (zc 1 g0 (EO.nil (za r (zr (zg 4 r (zp (yl s.nx 1 aD g2) (zg 1 r (zp (xG (sl:=aD) (m:=[]) rfl kq kq underlying55 underlying9 kq kq dq rfl (vB (.inl rfl))) (zg 2 r (zp (ys s.nx 1 aD g2 iq) (EO.nil (za (r.set s.nx (some (.cells #[am s.nx 0,aD] 119))) (zs (za (r.set s.nx (some (.cells #[am s.nx 0,aD] 119))) ?_)))))))))))))));exact EW.ret ⟨.inr rfl,.tuple #[num 0,.nilIface],kq,⟨_,by rw[AS.bn,ip rfl]⟩,⟨by show s.nx<=r.nx;have:=C.1;omega,λk hk=>by rw[AS.bn,iw oq,g3 k oq];exact C.2 k hk⟩⟩
   obtain⟨v,g,B,⟨p2,q3⟩,z⟩:=R;have y:=wH (pr:=pr) (U 84 dq) q3;exact zr (zc 1 B (EO.nil (za g (EW.seq (zr (zf (za g (zH (zr (zc 0 y (zf (za g (EW.ret ⟨.inr rfl,kq,z⟩)))))))))))))
  .have⟨g,B,I,z⟩:=yk (pr:=pr) (m:=f) (U 261 dq) (U 156 dq) Y oq;have⟨A,y,h⟩:=uM (pr:=pr) (U 84 dq) I Z gq;generalize d++f=tx at *;exact zr (zc 1 B (EO.nil (za g (EW.seq (zr (zf (za g (zH (zr (zc 0 y (zf (za A (EW.ret ⟨.inr rfl,kq,(C.trans z).trans h⟩)))))))))))))
 | some p =>
  have⟨a,b⟩:=p;rw[hc] at q;have q:d++(a++(encodeRune (iG b w).1++OW n (b.drop (iG b w).2) w))=G0 t w:=q;have⟨c1,X⟩:=tI hc;have kF:f.length=a.length+(b.length+1):=by rw[X];simp
  have H:=Of (pr:=pr) (s:=S) F (c:=38) (x:=f) (a:=a) (b:=b) (t:=true) (.inr ⟨rfl,c1,X⟩) oq;have⟨g,B,I,z⟩:=yk (pr:=pr) (m:=a) (U 261 dq) (U 156 dq) Y oq;have o:=C.trans z;have K:Has g 1 (.cells cR.toArray 335):=⟨by have:=h1.1;have:=o.1;omega,(o.2 1 h1.1).trans h1.2⟩;have⟨A,a6,h⟩:=UW (s:=g) F b oq w K;have⟨r1,r2⟩:=Na b w;have M:BW A s.nx s.nx (d++a):=I.D1 h;have D:iz s.nx g A:=⟨h.1,λk hk=>h.2 k (by have:=o.1;omega)⟩;have⟨G,v4,a5,N,P,_⟩:=uE (pr:=pr) (U 261 dq) (U 180 dq) (U 346 dq) (U 275 dq) M r1 gq;have X6:=encodeRuneZ_length (iG b w).1;have hel2:(encodeRune (iG b w).1).length=(encodeRuneZ (iG b w).1).length:=by simp[encodeRune]
  have a8:(b.take b.length).drop (iG b w).2=b.drop (iG b w).2:=gq
  have ab:(b.drop (iG b w).2).length<=b.length:=gq
  rw[<-u6,<-u6] at q;have a7:d++a++encodeRune (iG b w).1≠[]:=λe=>by have:=congrArg List.length e;simp only[lA,List.length_nil] at this;omega
  have a9:(d++a++encodeRune (iG b w).1).length<=d.length+a.length+4:=gq
  generalize encodeRune (iG b w).1=er at *;generalize (iG b w).1=rl at *;generalize (iG b w).2=V at *;generalize aa:b.drop V=J at *;refine zr (zc 1 H (zf (za S (zr (zc 1 B (EO.nil (za g (EW.seq (zr (zf (za g (zF (zr (zc 2 a6 (zf (za A (zr (zc 1 a5 (EO.nil (za G (zx (zg 2 G (zp (iF (l:=b) (m:=J) (i:=V) (j:=b.length) rfl underlying9 kq ((show _=bD b.length b.length (some (num (V:Nat))) none by kernel_rfl).trans (gL oq oq)) a8) (zg 1 G (EO.nil ?_)))))))))))))))))))))))));exact⟨J.length,by omega,J,d++a++er,n,rfl,q,by omega,by omega,N,λe=>absurd e a7,((C.trans z).trans D).trans P,aR kq⟩
end
variable {ι:Type}{An:cb}
section
variable {KT:TypeId->Prop}{N0:ι->Nat}{M:ι->World->Nat->Prop}{O:ι->Nat->Prop}{R:ι->Wq}{D:ι->World->World->Array Event->Prop}{X:ι->Gq}{Hd:ι->Hq->World->Prop}{pr:Prim}{f:FuncId}{args:Aq}{s:AS}{v:Value}
def Sound.Pj(Y:Cy P KT N0 M O R D X Hd)(g:∀b,k<=b->An b=none)(j:args.toList.all (eU m)=true)(p:eU m v=true)(h:jI P KT An R D X Hd f args ⟨[],k⟩ v s1):Sound P KT An R D X Hd f args s v s:=by
 intro S l q i w c u t r z;rw[aT] at j;have e:=r.zn λx n y A=>VR.flat (j x n) A;subst e;have d:∀b o,(⟨[],k⟩:AS).get b=some o->False:=λb o a=>by unfold AS.get at a;simp at a
 refine(h An [] (l++q) i w c ⟨λb o a=>(d b o a).elim,λb F o I x N a=>(d b o a).elim,λb o a=>(d b o a).elim,cb.le_refl An⟩ t (AR.qn λx n=>VR.of_flat (j x n)) λb a=>g b a).mono ?_;rintro G K L ⟨E,H,J,B,C⟩;refine⟨S,l,cb.le_refl S,λ_ _=>rfl,u,ll Y B,?_⟩;rw[VR.flat p C];exact VR.of_flat p
theorem ck.Xe(e:ck P KT An R D X Hd pr){V:Aq->Option Value}(i:∀a v s,V a=some v->Sound P KT An R D X Hd f a s v s):ck P KT An R D X Hd (iV f V pr):=by
 constructor
 .intro g h a s v c U b;unfold iV at U;split at U
  .grind
  .exact e.nx g h a s v c U b
 .intro g h a s v c U b;unfold iV at U;split at U
  .next d =>have d:=gh d;grind
  .exact e.sound g h a s v c U b
variable {aA:TL}{K:TL->AS->Prop}{ops:Array Oper}
def WO.Ug(Y:Cy P KT N0 M O R D X Hd)(G:ops[k]?=some o)(hw:Region.wanted o (bL ops aA)=true){t:TypeId}{d:TypeDesc}{q:Tmp}{g:Nat}{vs:Vq}(r:o.op=.load t (.tmp q))(hx:aA.at (.tmp q)=am nm off)(y:An nm=some (g,z,e))(H:P.underlying t=some d)(p:d.isRow=true)(hi:(P.info? t).map (·.size)=some vs.length)(hv:eU m (.agg vs.toArray)=true)(j:∀i l w,Hd i l w->M i w g/\w.rangeAt g off vs)(kk:WO P KT An X Hd ops (k+1) (aA.put o.dst (.agg vs.toArray)) s K):WO P KT An X Hd ops k aA s K:=by
 intro N S l Q i w a I E B v V A kx;rw[oR (oK.1 G).1];have u:a.eval (.tmp q)=.pointer (some ⟨g,off,none⟩):=by have:=iZ (x:=.tmp q) v rfl;rw[hx] at this;have⟨g',z',e',h1,h2⟩:=this.ptr;rw[E.an _ _ y] at h1;cases h1;exact h2
 refine aG Y.C G (by rw[iM v];exact hw) λb U Kx T=>?_;have c:=(Y.Z B).rely B U;have⟨n,F⟩:=j i _ b c;have h:=run_loadAt_mid b g off t vs d F H p hi;have hr:(execOp a.eval o).run P b=.ok (.value (.agg vs.toArray)) b:=by unfold execOp;simp only[r,u,Sem.run_bind,Sem.run_pure,Result.andThen_ok,h]
 have W:(execOp a.eval o).events P b #[]=(Instr.loadAt t (.pointer (some ⟨g,off,none⟩))).events P b #[]:=by unfold execOp;simp only[r,u,Sem.events_bind,h,Result.evThen_ok,Sem.events_pure]
 rw[hr];refine T _ _ ⟨?_,kk N S l Q i b (a.put o.dst (.agg vs.toArray)) I E c (nZ v (VR.of_flat hv) _) ?_ A kx⟩
 .refine(Y.Z c).env.jb ((Y.Z c).size c) (Own.refl _) λL f=>?_;have f:=mem_listed f;rw[W] at f;have⟨J,h1,h2⟩:=ik b g off t vs d F H p hi L f;exact .inl ⟨J,h1,by rw[h2];exact n⟩
 .cases L4:o.dst<;>exact V
end
def RE (args:Aq):Option Value:=match args.toList with
 | [.string x]=>match x.data.toList with
  | 239::191::189::_=>some (.tuple #[.int .i32 65533,num 3])
  | _=>none
 | _=>none
def AP:AS:=⟨[],4⟩
def U4:AS:=AP.add (.cells #[.int .u8 0,.int .u8 0] 344)
def sDc:AS:=U4.set 4 (some (.cells #[.int .u8 128,.int .u8 191] 344))
variable {N0:ι->Nat}{M:ι->World->Nat->Prop}{O:ι->Nat->Prop}{R:ι->Wq}{D:ι->World->World->Array Event->Prop}{X:ι->Gq}{Hd:ι->Hq->World->Prop}
section
theorem Ii(Y:Cy prog eg N0 M O R D X Hd)(h2:An 2=some (2,z2,e2))(h3:An 3=some (3,z3,e3))(g:Tb M Hd)(q:Bq):jI prog eg An R D X Hd 382 #[str (239::191::189::q)] AP (.tuple #[.int .i32 65533,num 3]) sDc:=by
 have d:=lD (An:=An) Y;have r:(239::191::189::q:Bq).length=q.length+3:=rfl;generalize p:(239::191::189::q:Bq)=f at r;have s:f[0]?=some 239:=gq
 have t:f[1]?=some 191:=gq
 have y:f[2]?=some 189:=gq
 clear p;refine jI.of Y cn func382 rfl (WI.seq Y (WI.of Y kq cv d cn (EW.go 5 kq (WI.seq Y (WI.of Y kq cv d cn (zx (zk 1 (zp (cY (l:=f) rfl underlying9 kq) (zf (WI.seq Y (WI.seq Y (WI.of Y kq cv d cn (zx (zk 1 (zp (aQ (u:=num f.length) (w:=num 1) rfl kq kq (aX (b:=false) (fD oq))) (EO.nil (WI.of Y kq cv d cn (zF (WI.seq Y (WI.of Y kq cv d cn (zx (zk 1 (zp (jW (l:=f) (b:=239) (k:=.i64) (n:=0) rfl underlying9 kq kq dq s) (zf (WI.seq Y (WI.region Y ?_))))))))))))))))))))))))));refine WO.G9 Y cv (v:=.int .u8 239) (s1:=AP) rfl (λS a e c x U=>?_) kq kq ?_
 .simp[Op.operands] at U;subst U;exact iZ c rfl
 refine WO.G9 Y cv (v:=am 2 239) (s1:=AP) rfl (λS a e c x U=>?_) kq kq ?_
 .simp[Op.operands] at U;rcases U with rfl|rfl
  .exact VR.gk (e _ _ h2)
  .exact iZ c rfl
 refine WO.load Y (v:=.int .u8 3) rfl kq (q:=20) (nm:=2) (off:=239) rfl kq h2 underlying5 rfl rfl (λi l w h=>⟨(g i l w h).1,(g i l w h).2.2.2.1⟩) ?_;refine WO.G9 Y cv (v:=.int .u8 3) (s1:=AP) rfl (λS a e c x U=>?_) kq kq ?_
 .simp[Op.operands] at U;subst U;exact iZ c rfl
 refine WO.nil Y rfl ?_;iterate 2 refine WI.seq Y (WI.of Y kq cv d cn (EW.go 9 kq ?_))
 refine WI.seq Y (WI.region Y ?_);refine WO.G9 Y cv (v:=.int .u8 3) (s1:=AP) rfl (λS a e c x U=>?_) kq kq ?_
 .simp[Op.operands] at U;subst U;exact iZ c rfl
 refine WO.G9 Y cv (v:=.int .u8 0) (s1:=AP) rfl (λS a e c x U=>?_) kq kq ?_
 .simp[Op.operands] at U;rcases U with rfl|rfl
  .exact iZ c rfl
  .exact VR.dx rfl
 refine WO.G9 Y cv (v:=am 3 0) (s1:=AP) rfl (λS a e c x U=>?_) kq kq ?_
 .simp[Op.operands] at U;rcases U with rfl|rfl
  .exact VR.gk (e _ _ h3)
  .exact iZ c rfl
 refine WO.Ug Y (m:=2) (vs:=[.int .u8 128,.int .u8 191]) rfl kq (q:=41) (nm:=3) (off:=0) rfl kq h3 underlying344 rfl kq rfl (λi l w h=>⟨(g i l w h).2.1,λj v o=>?_⟩) ?_
 .match j with
  | 0=>cases o;exact(g i l w h).2.2.2.2.1
  | 1=>cases o;exact(g i l w h).2.2.2.2.2
  | j+2=>cases o
 refine WO.G9 Y cv (v:=am 4 0) (s1:=U4) rfl (λS a e c x U=>?_) kq kq ?_
 .simp[Op.operands] at U
 refine WO.G9 Y cv (v:=undef) (s1:=sDc) rfl (λS a e c x U=>?_) kq kq ?_
 .simp[Op.operands] at U;rcases U with rfl|rfl
  iterate 2
   .exact iZ c rfl
 refine WO.nil Y rfl ?_;refine WI.seq Y (WI.seq Y (WI.of Y kq cv d cn (zx ?_)));refine zk 2 (zp (aQ (u:=num f.length) (w:=num 3) rfl kq kq (aX (b:=false) (fD oq))) (EO.nil ?_));refine WI.of Y kq cv d cn (zF ?_);refine WI.seq Y (WI.of Y kq cv d cn (zx ?_));refine zk 1 (zp (jW (l:=f) (b:=191) (k:=.i64) (n:=1) rfl underlying9 kq kq dq t) (zf ?_));iterate 2 refine WI.seq Y (WI.of Y kq cv d cn (EW.go 12 kq ?_))
 refine WI.seq Y (WI.of Y kq cv d cn (zx (zk 1 (zp (jW (l:=f) (b:=189) (k:=.i64) (n:=2) rfl underlying9 kq kq dq y) (zf (WI.of Y kq cv d cn (EW.Oj 30 .ret kq ?_)))))));exact⟨.inr rfl,by kernel_rfl,by kernel_rfl⟩
def Ih(Y:Cy prog eg N0 M O R D X Hd)(l:Wh An)(n:Tb M Hd)(args:Aq)(v:Value)(s:AS)(h:RE args=some v):Sound prog eg An R D X Hd 382 args s v s:=by
 obtain⟨_,⟨t,i,h2⟩,u,j,h3⟩:=l;unfold RE at h;split at h
 .next x r =>
  split at h
  .next q p =>
   cases h;have o:args=#[str (239::191::189::q)]:=by apply uX.1;rw[r];show[Value.string x]=[Value.string ⟨(239::191::189::q).toArray⟩];rw[<-p]
   rw[o];obtain⟨A,g,e,f,c⟩:∃A:cb,(∀b,4<=b->A b=none)/\A 2=some (2,t,i)/\A 3=some (3,u,j)/\A.le An:=⟨λb=>if b<4 then An b else none,λb a=>iw oq,by simpa using h2,by simpa using h3,λb y d=>by
    by_cases a:b<4
    .simpa[a] using d
    .simp[a] at d⟩;exact Sound.sQ c (Sound.Pj (k:=4) (m:=2) Y g rfl rfl (Ii Y e f n q))
  .cases h
 .cases h
end
section
variable {pr:Prim}{s:AS}
def Ig(a:pr 357=none)(b:∀q:Bq,Ef pr 382 #[str (239::191::189::q)] s (.tuple #[.int .i32 65533,num 3]) s)(q:Bq):Ef pr 357 #[str (239::191::189::q)] s (.tuple #[.int .i32 65533,num 3]) s:=by refine EF.of a func357 rfl ?_;refine zs (EW.seq (zs (zG (zx (zc 1 (b q) (zf ?_))))));exact EW.ret ⟨.inr rfl,by kernel_rfl,by kernel_rfl⟩
end
def GC(h:f∈Ju):bu f=none:=by simp only[Ju,nk,vh,or_false] at h;rcases h with rfl|rfl|rfl|rfl|rfl|rfl|rfl|rfl<;>rfl
section
def WI.cast{P:Program}{KT:TypeId->Prop}{c:Code}{a a2:TL}{Q:Exit->TL->AS->Prop}(h:a=a2)(k:WI P KT An X Hd c a2 s Q):WI P KT An X Hd c a s Q:=h▸k
section
variable (Y:Cy prog eg N0 M O R D X Hd)
def LB(h1:An 1=some (1,z,e))(t:Bq)(k:Int):∃s1:AS,s1.get 1=some (.cells cR.toArray 335)/\jI prog eg An R D X Hd 333 #[str t,num k] s9 (.tuple #[.int .i32 (iR t k).1,num ((iR t k).2:Nat)]) s1:=by
 have l:=lD (An:=An) Y;have⟨n,e1,p,s1,h,i,g,j,x,r⟩:=MD (pr:=bu) (s:=s9) (λf i=>GC i) t k rfl (λ_=>undef);refine⟨s1,(i.2 1 dq).trans rfl,?_⟩;have y:∀{c:Code},c=(match Tryz.f333.body with|some (.seq _ (.seq _ (.seq (.seq _ (.block _ (.loop b))) _)))=>b|_=>.skip)->Ew bu (.loop c) (wD t k 38 0 0 (λ_=>undef)) s9 (λe m S=>(e=.exit 0\/e=.ret)/\S=s1/\m=wD t k (iR t k).1 (iR t k).2 j x):=λu=>⟨n,e1,p,s1,u▸h,g,rfl,r⟩;refine jI.of Y cn func333 rfl ?_;iterate 2 refine WI.seq Y (WI.of Y kq cv l cn (EW.go 5 kq ?_))
 refine WI.seq Y (WI.seq Y (WI.region Y ?_));refine WO.G9 Y cv (v:=.agg cR.toArray) (s1:=s9) rfl (λS a o q x d=>?_) kq kq ?_
 .simp[Op.operands] at d;subst d;exact VR.gk (o _ _ h1)
 refine WO.G9 Y cv (v:=num 0) (s1:=s9) rfl (λS a o q x d=>?_) kq kq ?_
 .simp[Op.operands] at d;subst d;exact VR.dx rfl
 refine WO.nil Y rfl (WI.cast (a2:=wD t k 38 0 0 (λ_=>undef)) kq (WI.of Y kq cv l cn (EW.block (EW.mono (y rfl) λe m S w=>?_))));obtain⟨g,rfl,rfl⟩:=w;rcases g with rfl|rfl
 .refine WI.of Y kq cv l cn (zs (za S ?_));exact EW.ret ⟨.inr rfl,by kernel_rfl,rfl⟩
 .exact⟨.inr rfl,by kernel_rfl,rfl⟩
def LA(h1:An 1=some (1,z,e))(x:ByteArray)(k:Int)(h:s.get 1=some (.cells cR.toArray 335)):Sound prog eg An R D X Hd 333 #[.string x,.int .i64 k] s (.tuple #[.int .i32 (iR x.data.toList k).1,num ((iR x.data.toList k).2:Nat)]) s:=by
 obtain⟨A,g,a,d⟩:∃A:cb,(∀b,2<=b->A b=none)/\A 1=some (1,z,e)/\A.le An:=⟨λb=>if b=1 then An b else none,λb c=>iw oq,by simpa using h1,λb y f=>by
  by_cases c:b=1
  .simpa[c] using f
  .simp[c] at f⟩;have⟨i,g1,g2⟩:=LB Y a x.data.toList k;exact Sound.sQ d (Sound.BI (k:=2) (m:=2) Y a g kq Ka rfl g1 h rfl rfl g2)
end
def J3 (pr:Prim):Prim:=λg=>if g.beq 333 then some λa s=>match a.toList with
  | [.string x,.int .i64 k]=>match s.get 1 with
   | some (.cells cs 335 (0,0))=>if vN cs.toList=true then some (.tuple #[.int .i32 (iR x.data.toList k).1,num ((iR x.data.toList k).2:Nat)],s) else none
   | _=>none
  | _=>none
 else pr g
theorem EK(c:∀f g a s v b,pr f=some g->g a s=some (v,b)->s.nx<=b.nx):∀f g a s v b,J3 pr f=some g->g a s=some (v,b)->s.nx<=b.nx:=by
 intro f g a s v b U h;unfold J3 at U;split at U
 .grind
 .exact c _ _ _ _ _ _ U h
def M4(Y:Cy prog eg N0 M O R D X Hd)(h1:An 1=some (1,z,e))(hp:ck prog eg An R D X Hd pr):ck prog eg An R D X Hd (J3 pr):=by
 refine⟨EK hp.nx,λf g args s v s' hf h=>?_⟩;unfold J3 at hf;split at hf
 .next he =>
  have he:=gh he;subst he;cases hf;simp only at h;split at h
  .next x k ha =>
   split at h
   .next cs VL =>
    split at h
    .next hc =>
     cases h;rw[pY ha];have K7:cs=cR.toArray:=by apply uX.1;simp[tN hc]
     subst K7;exact LA Y h1 x k VL
    .cases h
   .cases h
  .cases h
 .exact hp.sound _ _ _ _ _ _ hf h
end
section
variable {n m:Nat}{V:Aq->Option Value}{pr:Prim}
theorem tp.add(h:tp rn pr all)(e:∀a v,V a=some v->a.toList.all (eU m)=true/\eU m v=true/\∃p,Ef pr f a ⟨[],rn+1⟩ v p):tp rn (iV f V pr) all:=by
 have⟨d,U⟩:=h;refine⟨λg k a s v o b j=>?_,λY A i n c l=>ck.add Y gO cv cn c (U Y A i n c l) e⟩;unfold iV at b;split at b
 .grind
 .exact d g k a s v o b j
def FG(d:∀f g a s v b,pr f=some g->g a s=some (v,b)->s.nx<=b.nx){h:Aq->AS->Option Value}:∀g k a s v b,lE f h (bH prog kg pr n f) pr g=some k->k a s=some (v,b)->s.nx<=b.nx:=by
 intro g k a s v b e c;unfold lE at e;split at e
 .cases e;simp only at c;split at c
  .cases c;exact jl _
  .exact(zA d n).2 _ _ _ _ _ c
 .exact d g k a s v b e c
end
end Go.Proofs.YtgcaionclkbehaaGreatDoor
