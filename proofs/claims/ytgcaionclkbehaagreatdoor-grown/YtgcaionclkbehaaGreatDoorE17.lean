
import Derived.Test.YtgcaionclkbehaaGreatDoorQ0
set_option linter.all false
set_option maxHeartbeats 2000000
set_option maxRecDepth 100000
namespace Go.Proofs.YtgcaionclkbehaaGreatDoor
open Go.Conc Go.RowKit Go.Lib Tryz
variable {c e e2 id k n nm off rn z z1 z2:Nat}{pv sl v:Value}{en l m p x:Bq}{o:Obj}{i j:Int}{b:Bool}{w w':World}{f:FuncId}{aS:Func}{args args' cap va:Aq}{pr:Prim}{lO:TL}
def sw (c:Nat):Bq:=if c<2048 then [UInt8.ofNat (192+c / 64),UInt8.ofNat (128+c % 64)] else if c<65536 then [UInt8.ofNat (224+c / 4096),UInt8.ofNat (128+c / 64 % 64),UInt8.ofNat (128+c % 64)] else [UInt8.ofNat (240+c / 262144),UInt8.ofNat (128+c / 4096 % 64),UInt8.ofNat (128+c / 64 % 64),UInt8.ofNat (128+c % 64)]
theorem Vk(h:n<256):((UInt8.ofNat n).toNat:Int)=(n:Nat):=by rw[UInt8.toNat_ofNat'];grind
theorem li(c k:Nat):Int.fdiv (c:Int) (2 ^ k)=((c / 2 ^ k:Nat):Int):=gq
def O5 (c:Nat):Prop:=128<=c/\(c<55296\/(57343<c/\c<=1114111))
def qM (s:AS)(sl:Value)(l:Bq):Prop:=(sl=.slice none 0 0/\l=[])\/∃d fz,sl=.slice (some ⟨d,0,none⟩) l.length l.length/\d<s.nx/\s.get d=some (.cells (od l) 5 fz)
def qM.add{s:AS}(h:qM s sl l)(o:Obj):qM (s.add o) sl l:=by
 rcases h with h|⟨d,fz,q1,q2,q3⟩
 .exact .inl h
 .exact .inr ⟨d,fz,q1,by simp;omega,by rw[AS.bv,iw oq];exact q3⟩
def uZ (s:AS)(sl:Value)(l m:Bq)(s3:AS)(w:Value):Prop:=∃g,w=.slice (some ⟨g,0,none⟩) (l++m).length (l++m).length/\s.nx<=g/\g<s3.nx/\s3.get g=some (.cells (od (l++m)) 5 (1,1))/\∀k,k<s.nx->(∀n c,sl≠.slice (some ⟨k,0,none⟩) n c)->s3.get k=s.get k
theorem Hz{s:AS}(h:qM s sl l)(i:m≠[])(g:l.length+m.length<=1000000):∃w a,bK prog 5 sl (strCells ⟨m.toArray⟩) m.length s=some (w,a)/\uZ s sl l m a w:=by
 have U:m.length≠0:=gq
 rcases h with ⟨rfl,rfl⟩|⟨d,fz,rfl,q2,q3⟩
 .exact⟨_,_,ia U,s.nx,by simp,lr,by simp,by rw[AS.bv,ip rfl];rfl,λk c _=>by rw[AS.bv,iw oq]⟩
 .have f:(od l).size=l.length:=by simp[strCells]
  refine⟨_,_,gH (sz:=1) U q3 kq gq oq,s.nx,by rw[lA],lr,by simp,?_,λk c b=>?_⟩
  .rw[AS.bv,ip iq];have:List.take (l.length*1) (od l).toList=strCells ⟨l.toArray⟩:=gq
   rw[this,mw]
  .rw[AS.bv,iw (by simp;omega),AS.bn,iw (λe=>b _ _ (by rw[e]))]
theorem qe{kt:TypeId->Bool}{c:fI}{a:TL}{s s':AS}{o:Oper}{x y:Operand}{d:Nat}{fz:Nat × Nat}(U:o.op=.call { callee:=.builtin .append,args:=#[x,y],argTypes:=#[55,55] })(l:a.at x=sl)(n:a.at y=.slice (sq d) m.length k)(e:kt 5=false)(q:s.get d=some (.cells (od m) 5 fz))(b:dR sl (sq d)=true)(r:m.length<=1000000)(h:bK prog 5 sl (strCells ⟨m.toArray⟩) m.length s=some (v,s')):bN prog kt c a o s=some (v,s'):=by
 have j:cj prog a o=none:=by unfold cj;rw[U]
 have p:(od m).size=m.length:=by simp[strCells]
 have f:ep s 1 (sq d) m.length=some (strCells ⟨m.toArray⟩):=by unfold ep;grind
 have g:(prog.info? 5).map (λi=>(i.zero,i.size,i.bytes))=some (some (Value.int .u8 0),1,1):=kq
 unfold bN;rw[iw (by rw[U];simp[eF])];rw[U];simp only;rw[j];simp only[rp,List.map_nil];rw[l,n];unfold eN;simp only[if_true];rw[underlying55];simp only;rw[g];simp only;rw[f];simp only;rw[ip ⟨rq,by omega,by omega,by omega,e,b,by simp[strCells,Value.oneCell']⟩];exact h
variable {all:Iq}{s:AS}
section
variable {rn:Nat}{pr:Prim}
def kY(h:qM s sl l)(a:s.nx<=k):dR sl (sq k)=true:=by
 rcases h with ⟨rfl,_⟩|⟨d,fz,rfl,q,_⟩
 .rfl
 .show(!d.beq k)=true;cases hb:d.beq k
  .rfl
  .exact absurd (gh hb) oq
def yj(h:c<=1114111):IntKind.u32.wrap (c:Int)=(c:Int):=by rw[IntKind.wrap_u32];omega
def Sg{x:Int}(a:n<64)(h:x % 64=(n:Int)):bits .or .u8 128 (bits .and .u8 (IntKind.u8.wrap x) 63)=((UInt8.ofNat (128+n)).toNat:Int):=by rw[Vf,Vk oq,h];omega
def Tu(a:n<32):bits .or .u8 192 (IntKind.u8.wrap (n:Int))=((UInt8.ofNat (192+n)).toNat:Int):=by rw[IntKind.wrap_u8,show(n:Int) % 256=n by omega,UJ _ oq oq,Vk oq];omega
def Tv(a:n<16):bits .or .u8 224 (IntKind.u8.wrap (n:Int))=((UInt8.ofNat (224+n)).toNat:Int):=by rw[IntKind.wrap_u8,show(n:Int) % 256=n by omega,UK _ oq oq,Vk oq];omega
def Tw(a:n<8):bits .or .u8 240 (IntKind.u8.wrap (n:Int))=((UInt8.ofNat (240+n)).toNat:Int):=by rw[IntKind.wrap_u8,show(n:Int) % 256=n by omega,UL _ oq oq,Vk oq];omega
def dV{k:IntKind}(h:decide (i<j)=b):dw .lss (.int k i) (.int k j)=some (.bool b):=by unfold dw;simp only[ip];rw[h]
def cM{k:IntKind}(h:(i != j)=b):dw .neq (.int k i) (.int k j)=some (.bool b):=by unfold dw;simp only[ip];rw[h]
def HN{k:IntKind}(h:decide (i>j)=b):dw .gtr (.int k i) (.int k j)=some (.bool b):=by unfold dw;simp only[ip];rw[h]
def uZ.xE{b:AS}{w:Value}(h:uZ (s.add o) sl l m b w):uZ s sl l m b w:=by have⟨g,h1,h2,h3,c,d⟩:=h;exact⟨g,h1,by simp at h2;omega,h3,c,λk e a=>(d k (by simp;omega) a).trans (by rw[AS.bv,iw oq])⟩
def Vb(sl:Value)(c:Nat)(tb:Bool)(x:Nq):TL:=[sl,.int .i32 (c:Int),x 2,x 3,x 4,.int .u32 (c:Int),x 6,x 7,x 8,x 9,x 10,x 11,x 12,x 13,x 14,x 15,x 16,x 17,x 18,x 19,x 20,x 21,x 22,x 23,x 24,.bool tb,x 26,x 27,x 28,x 29,x 30,x 31,x 32,x 33,x 34,x 35,x 36,x 37,x 38,x 39,x 40,x 41,x 42,x 43,x 44,x 45,x 46,x 47,x 48,x 49,x 50,x 51,x 52,x 53,x 54,x 55,x 56,x 57,x 58,x 59,x 60,x 61,x 62,x 63,x 64,x 65,x 66,x 67,x 68,x 69,x 70,x 71,x 72,x 73,x 74,x 75,x 76,x 77]
theorem Ff(A:O5 c)(h:qM s sl l)(C:l.length<=999996)(y:pr 346=none):∃a,∃w,Ef pr 346 #[sl,.int .i32 (c:Int)] s w a/\uZ s sl l (sw c) a w:=by
 suffices hh:Ew pr (match Tryz.f346.body with|some c=>c|none=>.skip) ((#[sl,.int .i32 (c:Int)]:Aq).toList++List.replicate (Tryz.f346.ntmps-(#[sl,.int .i32 (c:Int)]:Aq).toList.length) undef) s (λe j s1=>(e=.normal\/e=.ret)/\∃w,uZ s sl l (sw c) s1 w/\c8 prog Tryz.f346 j s1=some w) by have⟨m,e,j,s1,h1,i,w,h3,z⟩:=hh;exact⟨s1,w,EF.of y func346 rfl ⟨m,e,j,s1,h1,i,z,rfl⟩,h3⟩
 have⟨B,r⟩:=A;refine zs (zr (zg 1 s (EO.op (v:=.int .u32 (c:Int)) (s1:=s) kq ((show _=some (Value.int .u32 (IntKind.u32.wrap (c:Int)),s) by kernel_rfl).trans (by rw[yj oq])) (zf (za s (EW.block (zr (zk 1 ?_))))))));by_cases h1:c<2048
 .have i:sw c=[UInt8.ofNat (192+c / 64),UInt8.ofNat (128+c % 64)]:=by unfold sw;rw[ip h1]
  rw[i];refine zp (aQ (u:=.int .u32 (c:Int)) (w:=.int .u32 2047) rfl kq kq (bU (b:=true) (tD oq))) (zf (zH (zr (zg 4 s (EO.op (v:=.int .u8 ((UInt8.ofNat (192+c / 64)).toNat:Int)) (s1:=s) kq ((show _=some (Value.int .u8 (bits .or .u8 192 (IntKind.u8.wrap (Int.fdiv (c:Int) (2 ^ 6)))),s) by kernel_rfl).trans (by rw[li,Tu oq])) (zg 3 s (EO.op (v:=.int .u8 ((UInt8.ofNat (128+c % 64)).toNat:Int)) (s1:=s) kq ((show _=some (Value.int .u8 (bits .or .u8 128 (bits .and .u8 (IntKind.u8.wrap (c:Int)) 63)),s) by kernel_rfl).trans (by rw[Sg (n:=c % 64) oq oq])) ?_)))))));generalize UInt8.ofNat (192+c / 64)=U;generalize UInt8.ofNat (128+c % 64)=f;refine zg 1 (s.add (.cells (od [U,f]) 5)) ?_;have⟨w,t,o,p⟩:=Hz (m:=[U,f]) (h.add (.cells (od [U,f]) 5)) iq (by simp;omega);refine zp (qe (m:=[U,f]) (d:=s.nx) (k:=2) (sl:=sl) rfl kq kq kq (by rw[AS.bv,ip rfl]) (kY h lr) iq o) (zf ?_);exact EW.ret ⟨.inr rfl,w,p.xE,by kernel_rfl⟩
 .refine zp (aQ (u:=.int .u32 (c:Int)) (w:=.int .u32 2047) rfl kq kq (bU (b:=false) (fD oq))) (zf (zG (EW.seq (EW.mono (Q:=λe j a=>e=.normal/\a=s/\∃x,j=Vb sl c (decide (c<65536)) x) ?_ ?_))))
  .refine zr (zk 1 ?_);rcases r with r|⟨r,a4⟩
   .rw[tD (show c<65536 by omega)];refine zp (aQ (u:=.int .u32 (c:Int)) (w:=.int .u32 55296) rfl kq kq (dV (b:=true) (tD oq))) (zf ?_);exact zH (EW.skip ⟨rfl,by kernel_rfl,aR kq⟩)
   .refine zp (aQ (u:=.int .u32 (c:Int)) (w:=.int .u32 55296) rfl kq kq (dV (b:=false) (fD oq))) (zf (zG (zx (zk 1 (zp (aQ (u:=.int .u32 57343) (w:=.int .u32 (c:Int)) rfl kq kq (dV (b:=true) (tD oq))) (zk 2 (zp (aQ (u:=.int .u32 (c:Int)) (w:=.int .u32 65535) rfl kq kq (bU (b:=decide (c<65536)) gq)) ?_)))))));generalize decide (c<65536)=D;refine zf ?_;exact⟨rfl,by kernel_rfl,aR kq⟩
  rintro e j a ⟨rfl,rfl,x,rfl⟩;by_cases h2:c<65536
  .have i:sw c=[UInt8.ofNat (224+c / 4096),UInt8.ofNat (128+c / 64 % 64),UInt8.ofNat (128+c % 64)]:=by unfold sw;rw[iw h1,ip h2]
   rw[i,tD h2];refine zH (zr (zg 4 a (EO.op (v:=.int .u8 ((UInt8.ofNat (224+c / 4096)).toNat:Int)) (s1:=a) kq ((show _=some (Value.int .u8 (bits .or .u8 224 (IntKind.u8.wrap (Int.fdiv (c:Int) (2 ^ 12)))),a) by kernel_rfl).trans (by rw[li,Tv oq])) (zg 4 a (EO.op (v:=.int .u8 ((UInt8.ofNat (128+c / 64 % 64)).toNat:Int)) (s1:=a) kq ((show _=some (Value.int .u8 (bits .or .u8 128 (bits .and .u8 (IntKind.u8.wrap (Int.fdiv (c:Int) (2 ^ 6))) 63)),a) by kernel_rfl).trans (by rw[li,Sg (n:=c / 64 % 64) oq oq])) (zg 3 a (EO.op (v:=.int .u8 ((UInt8.ofNat (128+c % 64)).toNat:Int)) (s1:=a) kq ((show _=some (Value.int .u8 (bits .or .u8 128 (bits .and .u8 (IntKind.u8.wrap (c:Int)) 63)),a) by kernel_rfl).trans (by rw[Sg (n:=c % 64) oq oq])) ?_)))))));generalize UInt8.ofNat (224+c / 4096)=U;generalize UInt8.ofNat (128+c / 64 % 64)=f;generalize UInt8.ofNat (128+c % 64)=g;refine zg 1 (a.add (.cells (od [U,f,g]) 5)) ?_;have⟨w,t,o,p⟩:=Hz (m:=[U,f,g]) (h.add (.cells (od [U,f,g]) 5)) iq (by simp;omega);refine zp (qe (m:=[U,f,g]) (d:=a.nx) (k:=3) (sl:=sl) rfl kq kq kq (by rw[AS.bv,ip rfl]) (kY h lr) iq o) (zf ?_);exact EW.ret ⟨.inr rfl,w,p.xE,by kernel_rfl⟩
  .have i:sw c=[UInt8.ofNat (240+c / 262144),UInt8.ofNat (128+c / 4096 % 64),UInt8.ofNat (128+c / 64 % 64),UInt8.ofNat (128+c % 64)]:=by unfold sw;rw[iw h1,iw h2]
   rw[i,fD h2];refine zG (zr (zk 1 (zp (aQ (u:=.int .u32 (c:Int)) (w:=.int .u32 65535) rfl kq kq (HN (b:=true) (tD oq))) (zk 2 (zp (aQ (u:=.int .u32 (c:Int)) (w:=.int .u32 1114111) rfl kq kq (bU (b:=true) (tD oq))) (zf (zH (zr (zg 4 a (EO.op (v:=.int .u8 ((UInt8.ofNat (240+c / 262144)).toNat:Int)) (s1:=a) kq ((show _=some (Value.int .u8 (bits .or .u8 240 (IntKind.u8.wrap (Int.fdiv (c:Int) (2 ^ 18)))),a) by kernel_rfl).trans (by rw[li,Tw oq])) (zg 4 a (EO.op (v:=.int .u8 ((UInt8.ofNat (128+c / 4096 % 64)).toNat:Int)) (s1:=a) kq ((show _=some (Value.int .u8 (bits .or .u8 128 (bits .and .u8 (IntKind.u8.wrap (Int.fdiv (c:Int) (2 ^ 12))) 63)),a) by kernel_rfl).trans (by rw[li,Sg (n:=c / 4096 % 64) oq oq])) (zg 4 a (EO.op (v:=.int .u8 ((UInt8.ofNat (128+c / 64 % 64)).toNat:Int)) (s1:=a) kq ((show _=some (Value.int .u8 (bits .or .u8 128 (bits .and .u8 (IntKind.u8.wrap (Int.fdiv (c:Int) (2 ^ 6))) 63)),a) by kernel_rfl).trans (by rw[li,Sg (n:=c / 64 % 64) oq oq])) (zg 3 a (EO.op (v:=.int .u8 ((UInt8.ofNat (128+c % 64)).toNat:Int)) (s1:=a) kq ((show _=some (Value.int .u8 (bits .or .u8 128 (bits .and .u8 (IntKind.u8.wrap (c:Int)) 63)),a) by kernel_rfl).trans (by rw[Sg (n:=c % 64) oq oq])) ?_))))))))))))))));generalize UInt8.ofNat (240+c / 262144)=U;generalize UInt8.ofNat (128+c / 4096 % 64)=f;generalize UInt8.ofNat (128+c / 64 % 64)=g;generalize UInt8.ofNat (128+c % 64)=q;refine zg 1 (a.add (.cells (od [U,f,g,q]) 5)) ?_;have⟨w,t,o,p⟩:=Hz (m:=[U,f,g,q]) (h.add (.cells (od [U,f,g,q]) 5)) iq (by simp;omega);refine zp (qe (m:=[U,f,g,q]) (d:=a.nx) (k:=4) (sl:=sl) rfl kq kq kq (by rw[AS.bv,ip rfl]) (kY h lr) iq o) (zf ?_);exact EW.ret ⟨.inr rfl,w,p.xE,by kernel_rfl⟩
def yO(f:O5 c)(h:qM s sl l)(j:l.length<=999996)(d:pr 346=none)(a:pr 275=none):∃e,∃w,Ef pr 275 #[sl,.int .i32 (c:Int)] s w e/\uZ s sl l (sw c) e w:=by have⟨e,w,h1,h2⟩:=Ff f h j d;refine⟨e,w,?_,h2⟩;have⟨g,i⟩:=f;refine EF.of a func275 rfl ?_;refine zs (EW.seq (zr (zg 1 s (EO.op (v:=.int .u32 (c:Int)) (s1:=s) kq ((show _=some (Value.int .u32 (IntKind.u32.wrap (c:Int)),s) by kernel_rfl).trans (by rw[yj oq])) (zp (aQ (u:=.int .u32 (c:Int)) (w:=.int .u32 127) rfl kq kq (bU (b:=false) (fD oq))) (EO.nil (zF (zr (zc 2 h1 (zf ?_))))))))));exact EW.ret ⟨.inr rfl,by kernel_rfl,by kernel_rfl⟩
theorem Df{N b:Nat}{c:Int}(C:pr 261=none)(B:pr 180=none)(h:BW s N b l)(D:∀(s:AS) (sl:Value),qM s sl l->∃i,∃w,Ef pr 275 #[sl,.int .i32 c] s w i/\uZ s sl l en i w):∃i v,Ef pr 180 #[am b 0,.int .i32 c] s v i/\BW i N b (l++en)/\iz N s i:=by
 have⟨M,W,p,sl,S,Q,I⟩:=h;have⟨f,x,V,u,y⟩:=qU C S Q;have o:qM f sl l:=by
  rcases I with h|⟨d,fz,q1,q2,q3,q4,q5⟩
  .exact .inl h
  .exact .inr ⟨d,fz,q1,by omega,(y d q4).trans q5⟩
 have H:∀n k,sl≠.slice (sq b) n k:=gq
 have F:∀k,k<N->∀n J,sl≠.slice (sq k) n J:=gq
 have E:∃n r,sl=.slice (match sl with|.slice a _ _=>a|_=>none) n r/\n=l.length:=gq
 obtain⟨j,w,G,g,rfl,g1,g2,g3,g4⟩:=D f sl o;have K:j.get b=some (.cells #[am b 0,sl] 119):=(g4 b oq H).trans u;suffices hh:Ew pr (match Tryz.f180.body with|some c=>c|none=>.skip) ((#[am b 0,.int .i32 c]:Aq).toList++List.replicate (Tryz.f180.ntmps-(#[am b 0,.int .i32 c]:Aq).toList.length) undef) s (λe t f=>(e=.normal\/e=.ret)/\f=j.set b (some (.cells #[am b 0,.slice (sq g) (l++en).length (l++en).length] 119))/\∃w,c8 prog Tryz.f180 t f=some w) by
  have⟨m,e,t,A,h1,O,h2,w,h3⟩:=hh;refine⟨A,w,EF.of B func180 rfl ⟨m,e,t,A,h1,O,h3,rfl⟩,?_,?_⟩
  .rw[h2];refine⟨M,by simp;omega,_,_,by rw[AS.bn,ip rfl],.inr rfl,.inr ⟨g,(1,1),rfl,by omega,by simpa using g2,by omega,by rw[AS.bn,iw oq];exact g3⟩⟩
  .rw[h2];exact⟨by simp;omega,λk P=>by rw[AS.bn,iw oq,g4 k oq (F k P),y k oq]⟩
 refine zs (zr (zc 1 x (EO.nil ?_)));obtain⟨n,r,U,rfl⟩:=E;generalize R:(match sl with|.slice a _ _=>a|_=>none)=q at U;clear R;subst U;refine zr (zg 3 f (zp (bw (b:=b) (off:=1) (v:=.slice q l.length r) rfl underlying55 rfl kq u rfl) (zf (za f (zr (zg 4 f (zp (bw (b:=b) (off:=1) (v:=.slice q l.length r) rfl underlying55 rfl kq u rfl) (zc 1 G (zg 2 j ?_)))))))));generalize (l++en).length=L;refine zp (gA (b:=b) (off:=1) (w:=.slice (sq g) L L) rfl kq kq rfl rfl kq K iq) (EO.nil (za (j.set b (some (.cells #[am b 0,.slice (sq g) L L] 119))) ?_));have z:(j.set b (some (.cells #[am b 0,.slice (sq g) L L] 119))).get b=some (.cells #[am b 0,.slice (sq g) L L] 119):=by rw[AS.bn,ip rfl]
 generalize j.set b (some (.cells #[am b 0,.slice (sq g) L L] 119))=T at z;refine zr (zg 3 T (zp (bw (b:=b) (off:=1) (v:=.slice (sq g) L L) rfl underlying55 rfl kq z rfl) (zf ?_)));exact EW.ret ⟨.inr rfl,by kernel_rfl,.tuple #[.int .i64 (eQ .i64 ((L:Int)-(l.length:Int))),.nilIface],by kernel_rfl⟩
end
variable {ι:Type}{P:Program}{KT:TypeId->Prop}{An:cb}{s1:AS}
section
variable {N0:ι->Nat}{M:ι->World->Nat->Prop}{O:ι->Nat->Prop}{R:ι->Wq}{D:ι->World->World->Array Event->Prop}{X:ι->Gq}{Hd:ι->Hq->World->Prop}{kt:TypeId->Bool}{pr:Prim}
def WI (P:Program)(KT:TypeId->Prop)(An:cb)(X:ι->Gq)(Hd:ι->Hq->World->Prop)(c:Code)(aA:TL)(s:AS)(Q:Exit->TL->AS->Prop):Prop :=
 ∀(fn:FuncId) (S:cb) (l fr:Hq) (i:ι) (w:World) (a:Act) (Q':ei ι),eT P KT An S s l->Hd i (l++fr) w->AR (VR S) aA.toArray a.tmps->a.defers=[]->(∀b,s.nx<=b->S b=none) ->
  (∀e lO s' i' S' l' w' a',Q e lO s'->eT P KT An S' s' l'->Hd i' (l'++fr) w'->AR (VR S') lO.toArray a'.tmps->a'.defers=[]->(∀b,s'.nx<=b->S' b=none)->Q' i' e a' w')->fA X fn c i Q' a w
def WO (P:Program)(KT:TypeId->Prop)(An:cb)(X:ι->Gq)(Hd:ι->Hq->World->Prop)(ops:Array Oper)(k:Nat)(aA:TL)(s:AS)(Q:TL->AS->Prop):Prop :=
 ∀(fn:FuncId) (S:cb) (l fr:Hq) (i:ι) (w:World) (a:Act) (Q':ei ι),eT P KT An S s l->Hd i (l++fr) w->AR (VR S) aA.toArray a.tmps->a.defers=[]->(∀b,s.nx<=b->S b=none) ->
  (∀lO s' i' S' l' w' a',Q lO s'->eT P KT An S' s' l'->Hd i' (l'++fr) w'->AR (VR S') lO.toArray a'.tmps->a'.defers=[]->(∀b,s'.nx<=b->S' b=none)->Q' i' .normal a' w')->ce X fn ops (List.range' k (ops.size-k)) i Q' a w
variable {aA:TL}{Q:Exit->TL->AS->Prop}{K:TL->AS->Prop}{c x y:Code}{ops:Array Oper}{o:Oper}{v:Value}
theorem WI.of(Y : Cy P KT N0 M O R D X Hd)(hm : P.follows .mixedOrders = true)(Ck : ∀ t, kt t = false -> ¬ KT t)(hp : ck P KT An R D X Hd pr)(F9 : ∀ (f : FuncId) (aS : Func), P.funcs[f]? = some aS -> (aS.name == "runtime.NumGoroutine") = false)(h : EW P kt pr c aA s Q) : WI P KT An X Hd c aA s Q := by have⟨n, e, lO, s', h1, h2⟩:=h;intro fn S l fr i w a Q' hS hF hA hd qI k;have VQ:=(zA hp.nx n).1 _ _ _ _ _ _ h1;refine((ij Y hm Ck hp F9 n).1 c fn aA lO s s' e S l fr i w a Q' h1 hS hF hA hd (λb hb _=>qI b hb) ?_).1;intro i' S' l' w' a' q1 q2 q3 q4 q5 q6;grind
def Vg(P:Program)(KT:TypeId->Prop)(An:cb)(X:ι->Gq)(b:ι->Hq->World->Prop)(y:Code)(Q:Exit->TL->AS->Prop):Exit->TL->AS->Prop:=λe a s=>match e with
 | .normal=>WI P KT An X b y a s Q
 | e=>Q e a s
section
variable (Y:Cy P KT N0 M O R D X Hd)
def WI.seq(h:WI P KT An X Hd x aA s (Vg P KT An X Hd y Q)):WI P KT An X Hd (.seq x y) aA s Q:=by
 intro g S l j i w a z D B A E c k;refine bQ Y.C Y.T (h g S l j i w a _ D B A E c ?_);intro e b F m d n v f q o p r t u;cases e with
 | normal=>exact q g d n j m v f z o p r t u k
 | _=>exact k _ b F m d n v f q o p r t u
def WI.region(h:WO P KT An X Hd ops 0 aA s (λb e=>Q .normal b e)):WI P KT An X Hd (.region id ops false) aA s Q:=by intro j S l m i w a f p o n r d k;refine aN Y.C Y.T ?_;rw[List.range_eq_range'];exact h j S l m i w a f p o n r d λc e t g u v b q=>k .normal c e t g u v b q
end
def oR(h:k<n):List.range' k (n-k)=k::List.range' (k+1) (n-(k+1)):=by obtain⟨m,a⟩:∃m,n-k=m+1:=⟨n-k-1,by omega⟩;rw[a,List.range'_succ,show n-(k+1)=m by omega]
section
variable (Y:Cy P KT N0 M O R D X Hd)
def WO.G9(q:∀t,kt t=false->¬KT t)(x:ops[k]?=some o)(D:∀(S:cb) (a:Act),An.le S->AR (VR S) aA.toArray a.tmps->eI S aA a o)(G:Region.wanted o (bL ops aA)=true)(h:bN P kt (λ_ _ _=>none) aA o s=some (v,s1))(I:WO P KT An X Hd ops (k+1) (aA.put o.dst v) s1 K):WO P KT An X Hd ops k aA s K:=by intro A S l B i w a y u C g E e J;have F:=sY (λf d s v M h=>by cases h) h;rw[oR (oK.1 x).1];refine nq Y q (λf d s v M h=>by cases h) x (by rw[iM g];exact G) (D S a u.an g) u C h (λb n _=>e b n) ?_;intro H z L O N m p c j r;refine I A z L B H O (a.put o.dst N) y c j (nZ (g.mono m) r _) ?_ (λb n=>by rw[p b (.inr n)];exact e b oq) J;cases L4:o.dst<;>exact E
def WO.load(F:ops[k]?=some o)(T:Region.wanted o (bL ops aA)=true){t:TypeId}{d:TypeDesc}{q:Tmp}{g:Nat}(n:o.op=.load t (.tmp q))(U:aA.at (.tmp q)=am nm off)(u:An nm=some (g,z,e))(A:P.underlying t=some d)(m:d.isRow=false)(R:dX v=true)(h:∀i l w,Hd i l w->M i w g/\w.cell? ⟨g,off,none⟩=some v)(V:WO P KT An X Hd ops (k+1) (aA.put o.dst v) s K):WO P KT An X Hd ops k aA s K:=by
 intro H S l I i w a G D B r N y W;rw[oR (oK.1 F).1];have p:a.eval (.tmp q)=.pointer (some ⟨g,off,none⟩):=by have:=iZ (x:=.tmp q) r rfl;rw[U] at this;have⟨g',z',e',h1,h2⟩:=this.ptr;rw[D.an _ _ u] at h1;cases h1;exact h2
 refine aG Y.C F (by rw[iM r];exact T) λc L Kx J=>?_;have b:=(Y.Z B).rely B L;have⟨j,E⟩:=h i _ c b;have Q:(execOp a.eval o).run P c=.ok (.value v) c:=by simp[execOp,n,p,Instr.loadAt,Instr.sureAddr,loadVar,gX A m,E]
 have O:(execOp a.eval o).events P c #[]=#[⟨.cell ⟨g,off,none⟩,false,false⟩]:=by simp[execOp,n,p,Instr.loadAt,Instr.sureAddr,loadVar,gX A m,jv A,events_load,E]
 rw[Q];refine J _ _ ⟨?_,V H S l I i c (a.put o.dst v) G D b (nZ r (VR.dx R) _) ?_ y W⟩
 .refine(Y.Z b).env.jb ((Y.Z b).size b) (Own.refl _) λev f=>?_;have f:=mem_listed f;rw[O] at f;simp at f;subst f;exact .inl ⟨_,rfl,j⟩
 .cases L4:o.dst<;>exact N
def WO.nil(g:ops.size=k)(h:K aA s):WO P KT An X Hd ops k aA s K:=by intro n S l o i w a m e d c f b j;rw[g,Nat.sub_self,List.range'_zero];exact aW Y.C Y.T (j aA s i S l w a h e d c f b)
end
theorem jI.of(Y : Cy P KT N0 M O R D X Hd)(F9 : ∀ (f : FuncId) (aS : Func), P.funcs[f]? = some aS -> (aS.name == "runtime.NumGoroutine") = false){args : Array Value}{s' : AS}(hf : P.funcs[f]? = some aS)(hb : aS.body = some c)(h : WI P KT An X Hd c (args.toList ++ List.replicate (aS.ntmps - args.toList.length) undef) s (λe a' s1 => (e = .normal \/ e = .ret) /\ c8 P aS a' s1 = some v /\ s1 = s')) : jI P KT An R D X Hd f args s v s' := by
 intro S l fr i w args' hS hF hA qI;refine⟨aS,c,hf,F9 f aS hf,hb,?_⟩;refine h f S l fr i w _ _ hS hF ?_ rfl qI ?_
 .have:args.toList.length=args'.size:=by rw[<-hA.1]; simp
  have h2:=hA.append (AR.replicate (aS.ntmps-args'.size) VR.undef);have he:(args.toList++List.replicate (aS.ntmps-args.toList.length) undef).toArray=args++Array.replicate (aS.ntmps-args'.size) undef:=gq
  rw[he];exact h2
 .rintro e a1 s1 i' S' l' w' a' ⟨hex,hr,rfl⟩ h3 h4 h5 h6 _;refine⟨hex,h6,λaE Yz=>?_⟩;have IY:=(Y.Z h4).rely h4 Yz;have⟨v',hv,Ox⟩:=wy Y h3 IY h5 hr;refine⟨v',Ox.1,?_,S',l',h3,IY,hv⟩;exact(Y.Z IY).env.jb ((Y.Z IY).size IY) (Own.refl _) λev Cj=>Ox.2 ev (mem_seen Cj)
end
section
variable {n:Nat}{pr:Prim}
def pM(c:pr 178=none)(h:(decide (p.length<=l.length)&&cw (l.take p.length) p)=b):Ef pr 178 #[str l,str p] s (.bool b) s:=by
 refine EF.of c func178 rfl (zs (zr (zk 1 (zp (cY (l:=l) rfl underlying9 kq) (zk 1 (zp (cY (l:=p) rfl underlying9 kq) ?_))))));by_cases a:p.length<=l.length
 .refine zp (aQ (u:=num l.length) (w:=num p.length) rfl kq kq (eZ (b:=true) (tD oq))) (zk 3 (zp (cY (l:=p) rfl underlying9 kq) (zp (iF (l:=l) (i:=0) (j:=p.length) rfl underlying9 kq ((show _=bD l.length l.length none (some (num p.length)) by kernel_rfl).trans (oG oq oq)) rfl) (zf (EW.ret ⟨.inr rfl,?_,by kernel_rfl⟩)))));rw[tD a,Bool.true_and] at h;rw[<-h];kernel_rfl
 .refine zp (aQ (u:=num l.length) (w:=num p.length) rfl kq kq (eZ (b:=false) (fD oq))) (zf (EW.ret ⟨.inr rfl,?_,by kernel_rfl⟩));rw[fD a,Bool.false_and] at h;rw[<-h];kernel_rfl
def sb(c:pr 178=none)(a:pr 89=none)(h:(decide (p.length<=l.length)&&cw (l.take p.length) p)=b):Ef pr 89 #[str l,str p] s (.bool b) s:=by refine EF.of a func89 rfl ?_;refine zs (zr (zk 2 (EO.gd #[str l,str p] kq rfl rfl kq kq (pM c h) (zf ?_))));exact EW.ret ⟨.inr rfl,by kernel_rfl,by kernel_rfl⟩
def Fu(a:pr 178=none)(c:pr 340=none)(h:(b=false/\(decide (p.length<=l.length)&&cw (l.take p.length) p)=false/\x=l)\/(b=true/\l=p++x)):Ef pr 340 #[str l,str p] s (.tuple #[str x,.bool b]) s:=by
 refine EF.of c func340 rfl (zs (EW.seq (zr (zk 2 ?_))));rcases h with ⟨rfl,h,rfl⟩|⟨rfl,rfl⟩
 .refine EO.gd #[str x,str p] kq rfl rfl kq kq (pM a h) (zf (EW.Oj 5 .ret kq ?_));exact⟨.inr rfl,by kernel_rfl,by kernel_rfl⟩
 .refine EO.gd #[str (p++x),str p] kq rfl rfl kq kq (pM (b:=true) a (by simp[(dz p p).2 rfl])) (zf (EW.go 5 kq (zr (zk 2 (zp (cY (l:=p) rfl underlying9 kq) (zp (iF (l:=p++x) (i:=p.length) (j:=(p++x).length) rfl underlying9 kq ((show _=bD (p++x).length (p++x).length (some (num p.length)) none by kernel_rfl).trans (gL oq (by simp;omega))) (by rw[List.take_length,List.drop_left])) (zf ?_)))))));exact EW.ret ⟨.inr rfl,by kernel_rfl,by kernel_rfl⟩
def pC(a:pr 178=none)(d:pr 340=none)(c:pr 269=none)(h:(b=false/\(decide (p.length<=l.length)&&cw (l.take p.length) p)=false/\x=l)\/(b=true/\l=p++x)):Ef pr 269 #[str l,str p] s (.tuple #[str x,.bool b]) s:=by refine EF.of c func269 rfl ?_;refine zs (zr (zk 2 (EO.gd #[str l,str p] kq rfl rfl kq kq (Fu a d h) (zf ?_))));exact EW.ret ⟨.inr rfl,by kernel_rfl,by kernel_rfl⟩
end
def mT:Bq->Bq->Option (Bq)
 | [],l=>some l
 | _::_,[]=>none
 | a::p,b::l=>if b.toNat.beq a.toNat then mT p l else none
def lf:∀{p l r:Bq},mT p l=some r->l=p++r
 | [],l,r,h=>by cases h;rfl
 | _::_,[],r,h=>by cases h
 | a::p,b::l,r,h=>by
  unfold mT at h;split at h
  .next e=>rw[lf h,UInt8.toNat_inj.1 (gh e)];rfl
  .cases h
theorem nM:∀{p l:Bq},mT p l=none->(decide (p.length<=l.length)&&cw (l.take p.length) p)=false
 | [],l,h=>by cases h
 | _::_,[],h=>by simp
 | a::p,b::l,h=>by
  unfold mT at h;have e1:decide ((a::p).length<=(b::l).length)=decide (p.length<=l.length):=iq
  have c:(b::l).take (a::p).length=b::l.take p.length:=rfl;rw[e1,c];unfold cw;split at h
  .next e=>rw[ip e];exact nM h
  .grind
def Vl (args:Aq):Option Value:=match args.toList with
 | [.string x,.string p]=>some (match mT p.data.toList x.data.toList with
  | some r=>.tuple #[str r,.bool true]
  | none=>.tuple #[.string x,.bool false])
 | _=>none
def Vm (args:Aq):Option Value:=match args.toList with
 | [.string x,.string p]=>some (.bool (mT p.data.toList x.data.toList).isSome)
 | _=>none
def UO:Prim:=iV 178 Vm (iV 269 Vl bu)
def Qc:(decide (p.length<=l.length)&&cw (l.take p.length) p)=(mT p l).isSome:=by
 cases h:mT p l with
 | none=>exact nM h
 | some r=>rw[lf h];simp[(dz p p).2 rfl]
section
variable {N0:ι->Nat}{M:ι->World->Nat->Prop}{O:ι->Nat->Prop}{R:ι->Wq}{D:ι->World->World->Array Event->Prop}{X:ι->Gq}{Hd:ι->Hq->World->Prop}
def JV(Y:Cy prog eg N0 M O R D X Hd)(c:∀b,2<=b->An b=none):ck prog eg An R D X Hd UO:=by
 refine ck.add Y kq cv cn (m:=2) c (ck.add Y kq cv cn (m:=2) c (lD Y) λa v h=>?_) λa v h=>?_
 .unfold Vl at h;split at h
  .next x p d =>
   rw[pY d];cases hc:mT p.data.toList x.data.toList with
   | none=>simp only[hc] at h;cases h;exact⟨rfl,rfl,_,pC (l:=x.data.toList) (p:=p.data.toList) rfl rfl rfl (.inl ⟨rfl,nM hc,rfl⟩)⟩
   | some r=>simp only[hc] at h;cases h;exact⟨rfl,rfl,_,pC (l:=x.data.toList) (p:=p.data.toList) rfl rfl rfl (.inr ⟨rfl,lf hc⟩)⟩
  .cases h
 .unfold Vm at h;split at h
  .next x p d =>cases h;rw[pY d];exact⟨rfl,rfl,_,pM rfl Qc⟩
  .cases h
def s9:AS:=⟨[[none,some (.cells cR.toArray 335)]],2⟩
def sN (n:Nat):AS:=(PL.take n).foldl (λs e=>s.add (.cells (Iy e).toArray 334)) s9
def nmI:Int->Nat
 | 38=>1
 | 60=>2
 | 62=>3
 | _=>4
def Pp(Y:Cy prog eg N0 M O R D X Hd)(g:∀b,2<=b->An b=none)(h1:An 1=some (1,z,e)){t:Bq}{c m:Int}(f:V3 t=some (c,m))(k:Int):(sN (nmI c)).get 1=some (.cells cR.toArray 335)/\jI prog eg An R D X Hd 333 #[str t,num k] s9 (.tuple #[.int .i32 c,num m]) (sN (nmI c)):=by
 have i:=JV (An:=An) Y g;unfold V3 at f;split at f;iterate 4
  .cases f;refine⟨kq,?_⟩
   .refine jI.of Y cn func333 rfl ?_;iterate 2 refine WI.seq Y (WI.of Y kq cv i cn (EW.go 5 kq ?_))
    refine WI.seq Y (WI.seq Y (WI.region Y ?_));refine WO.G9 Y cv (v:=.agg cR.toArray) (s1:=s9) rfl (λS a h j x d=>?_) kq kq ?_
    .simp[Op.operands] at d;subst d;exact VR.gk (h _ _ h1)
    refine WO.G9 Y cv (v:=num 0) (s1:=s9) rfl (λS a h j x d=>?_) kq kq ?_
    .simp[Op.operands] at d;subst d;exact VR.dx rfl
    refine WO.nil Y rfl (WI.of Y kq cv i cn (EW.Oj 60 .ret kq ?_));exact⟨.inr rfl,by kernel_rfl,by kernel_rfl⟩
 .cases f
def Sound.sQ{P:Program}{KT:TypeId->Prop}{s:AS}{b:cb}{s':AS}(e:b.le An)(h:Sound P KT b R D X Hd f args s v s'):Sound P KT An R D X Hd f args s v s':=by intro S l m i w a c o n d;refine(h S l m i w a ⟨c.live,c.inj,c.lt,cb.le_trans e c.an⟩ o n d).mono ?_;rintro u x y ⟨k,p,j,q,g,r,t⟩;exact⟨k,p,j,q,⟨g.live,g.inj,g.lt,cb.le_trans c.an j⟩,r,t⟩
theorem Ka(b:Nat):s9.get b=if b=1 then some (.cells cR.toArray 335) else none:=by
 match b with
 | 0=>rfl
 | 1=>rfl
 | b+2 =>rw[iw oq];unfold AS.get s9;grind
def BN(Y:Cy prog eg N0 M O R D X Hd)(h1:An 1=some (1,z,e)){x:ByteArray}{c m:Int}(j:V3 x.data.toList=some (c,m))(k:Int){s:AS}(i:s.get 1=some (.cells cR.toArray 335)):Sound prog eg An R D X Hd 333 #[.string x,.int .i64 k] s (.tuple #[.int .i32 c,.int .i64 m]) s:=by
 obtain⟨A,g,a,f⟩:∃A:cb,(∀b,2<=b->A b=none)/\A 1=some (1,z,e)/\A.le An:=⟨λb=>if b=1 then An b else none,λb d=>iw oq,by simpa using h1,λb y h=>by
  by_cases d:b=1
  .simpa[d] using h
  .simp[d] at h⟩;have⟨g1,g2⟩:=Pp Y g a j k;exact Sound.sQ f (Sound.BI (k:=2) (m:=2) Y a g kq Ka rfl g1 i rfl rfl g2)
end
def uC (rn:Nat)(L:Iq):Prim:=λf=>if f.beq 92 then none else gC rn L f
def MY(rn:Nat)(all:Iq):∀f g a s v c,uC rn all f=some g->g a s=some (v,c)->s.nx<=c.nx:=by
 intro f g a s v c b h;unfold uC at b;split at b
 .cases b
 .exact qj rn all f g a s v c b h
section
variable {N0:ι->Nat}{M:ι->World->Nat->Prop}{O:ι->Nat->Prop}{R:ι->Wq}{D:ι->World->World->Array Event->Prop}{X:ι->Gq}{Hd:ι->Hq->World->Prop}{f:FuncId}{args:Aq}{v:Value}
def Sound.Pf(Y:Cy P KT N0 M O R D X Hd){m:Nat}{s1:AS}(e:∀b,k<=b->An b=none)(r:∀(S:cb) a,An.le S->AR (VR S) args a->AR (VR An) args a)(j:eU m v=true)(h:Sound P KT An R D X Hd f args ⟨[],k⟩ v s1):Sound P KT An R D X Hd f args s v s:=by
 intro S l n i w a g q p t;have d:∀b o,(⟨[],k⟩:AS).get b=some o->False:=λb o c=>by unfold AS.get at c;simp at c
 refine(h An [] (l++n) i w a ⟨λb o c=>(d b o c).elim,λb A o E x K c=>(d b o c).elim,λb o c=>(d b o c).elim,cb.le_refl An⟩ q (r S a g.an p) λb c _=>e b c).mono ?_;rintro B I J ⟨z,C,F,G,H,u,y⟩;refine⟨S,l,cb.le_refl S,λ_ _=>rfl,g,ll Y u,?_⟩;rw[VR.flat j y];exact VR.of_flat j
end
def zh (c:Nat):Bq:=if c<128 then [UInt8.ofNat c] else sw c
theorem Ip(c:Nat):1<=(zh c).length/\(zh c).length<=4:=by unfold zh sw;grind
theorem tU{r:Int}(h:Good r):∃c:Nat,r=(c:Int)/\(c<128\/O5 c)/\Lib.encodeRune r=zh c:=by
 have U:0<=r:=by rcases h with h|h<;>omega
 obtain⟨c,rfl⟩:=Int.eq_ofNat_of_zero_le U;have a:c<55296\/(57343<c/\c<=1114111):=by rcases h with h|h<;>omega
 refine⟨c,rfl,?_,?_⟩
 .by_cases h1:c<128
  .exact .inl h1
  .exact .inr ⟨oq,a⟩
 .have b:∀n:Nat,((n:Int)).toNat=n:=λn=>xn n;unfold zh sw Lib.encodeRune;split
  .next h1=>rw[Lib.encodeRuneZ_one oq oq];simp
  .next h1 =>
   split
   .next h2 =>rw[Lib.encodeRuneZ_two oq oq];grind
   .next h2 =>
    split
    .next h3 =>rw[Lib.encodeRuneZ_three oq];grind
    .next h3 =>rw[Lib.encodeRuneZ_four oq oq];grind
section
variable {pr:Prim}
def vC(n:c<128)(h:qM s sl l)(o:l.length<=999996)(a:pr 275=none):∃f,∃w,Ef pr 275 #[sl,.int .i32 (c:Int)] s w f/\uZ s sl l [UInt8.ofNat c] f w:=by
 have e:IntKind.u8.wrap (c:Int)=((UInt8.ofNat c).toNat:Int):=by rw[IntKind.wrap_u8,Vk oq];omega
 generalize UInt8.ofNat c=b at e;have⟨w,j,g,i⟩:=Hz (m:=[b]) (h.add (.cells (od [b]) 5)) iq (by simp;omega);refine⟨j,w,?_,i.xE⟩;refine EF.of a func275 rfl ?_;refine zs (EW.seq (zr (zk 1 (zo s (EO.op (v:=.int .u32 (c:Int)) (s1:=s) kq ((show _=some (Value.int .u32 (IntKind.u32.wrap (c:Int)),s) by kernel_rfl).trans (by rw[yj oq])) (zp (aQ (u:=.int .u32 (c:Int)) (w:=.int .u32 127) rfl kq kq (bU (b:=true) (tD oq))) (EO.nil (zH (zr (zk 2 (zo s (EO.op (v:=.int .u8 (b.toNat:Int)) (s1:=s) kq ((show _=some (Value.int .u8 (IntKind.u8.wrap (c:Int)),s) by kernel_rfl).trans (by rw[e])) (zk 1 (zo (s.add (.cells (od [b]) 5)) (zp (qe (m:=[b]) (d:=s.nx) (k:=1) (sl:=sl) rfl kq kq kq (by rw[AS.bv,ip rfl]) (kY h lr) iq g) (zf ?_))))))))))))))));exact EW.ret ⟨.inr rfl,by kernel_rfl,by kernel_rfl⟩
def wH{b:Nat}{p:Value}(a:pr 84=none)(d:s.get b=some (.cells #[p,.slice none 0 0] 119)):Ef pr 84 #[am b 0] s (str []) s:=by
 refine EF.of a func84 rfl ?_;refine zs (EW.seq (EW.draw kq kq kq ?_));iterate 3 refine zq ?_
 refine zt s (zu (bw (off:=1) (v:=.slice none 0 0) rfl underlying55 rfl kq d rfl) ?_);iterate 4 refine zq ?_
 refine zt s (zu (bw (off:=1) (v:=.slice none 0 0) rfl underlying55 rfl kq d rfl) ?_);iterate 3 refine zq ?_
 have c:aB prog 55 (am b 1) s=some (.slice none 0 0):=by unfold aB;simp only[am,d,underlying55];rfl
 refine ET.nil ⟨aI [(aB prog 55 (am b 1) s,.slice none 0 0),(aB prog 55 (am b 1) s,.slice none 0 0)] kq (by simp[bB,c]),_,_,_,_,_,_,rfl,rfl,?_⟩;exact EW.ret ⟨.inr rfl,by kernel_rfl,by kernel_rfl⟩
end
section
variable {rn:Nat}
def Rq (rn i j b p:Nat)(x:Nq):TL:=[am rn 0,num (i:Nat),num (j:Nat),x 3,x 4,x 5,str [],am b 0,num (p:Nat)]++gD x 9 17
theorem O9:(k<all.length/\∃r,all[k]?=some r/\all[k]?.getD (-1)=r)\/(all.length<=k/\all[k]?.getD (-1) = -1):=gq
theorem Pk (k:Nat):EF prog kg (uC rn all) 146 #[am rn 0,num (k:Nat)] s (.int .i32 (all[k]?.getD (-1))) s:=by
 refine EF.vp rfl ?_
 simp only [am]
 grind
def wO(l:Iq)(r:Int):aJ (l++[r])=aJ l++Lib.encodeRune r:=by simp[aJ]
def Bc(l:Iq):(aJ l).length<=4*l.length:=by
 induction l with
 | nil=>simp[aJ]
 | cons r l a =>
  have h:(Lib.encodeRune r).length<=4:=by unfold Lib.encodeRune;rw[List.length_map];exact(Lib.encodeRuneZ_length r).2
  simp only[aJ,List.flatMap_cons,lA,lC] at a |-;omega
theorem GJ(E:∀r∈all,Good r)(W:4*all.length<=1000000)(i j:Nat)(T:j<=1000000):∃B,Ef (uC rn all) 92 #[am rn 0,num (i:Nat),num (j:Nat)] s (str (aJ ((all.drop i).take (j-i)))) B:=by
 suffices hh:∃B,Ef (uC rn all) 92 #[am rn 0,num (i:Nat),num (j:Nat)] s (str (aJ ((all.drop i).take (j-i)))) B/\True by grind
 have M:BW (s.add (.cells #[.pointer none,.slice none 0 0] 119)) s.nx s.nx []:=⟨lr,by simp,.pointer none,.slice none 0 0,by rw[AS.bv,ip rfl],.inl rfl,.inl ⟨rfl,rfl⟩⟩;refine EF.iy kq func92 rfl ?_;iterate 2 refine zs ?_
 refine EW.seq (zs (za (s.add (.cells #[.pointer none,.slice none 0 0] 119)) (EW.fill (Rq rn i j s.nx i) kq ?_)));intro O;refine EW.block ?_;refine EW.mono (EW.dG (Q:=λe o a=>e=.exit 0/\∃d,((d=0/\a=s.add (.cells #[.pointer none,.slice none 0 0] 119))\/(d≠0/\BW a s.nx s.nx (aJ ((all.drop i).take d))))/\(d=0\/i+d<=all.length)/\(all.drop i).take d=(all.drop i).take (j-i)/\∃x,o=Rq rn i j s.nx (i+d) x) (λm o a=>∃d,m+d=j-i/\((d=0/\a=s.add (.cells #[.pointer none,.slice none 0 0] 119))\/(d≠0/\BW a s.nx s.nx (aJ ((all.drop i).take d))))/\(d=0\/i+d<=all.length)/\∃x,o=Rq rn i j s.nx (i+d) x) ?_ (j-i) _ _ ⟨0,by omega,.inl ⟨rfl,rfl⟩,.inl rfl,O,rfl⟩) ?_
 .rintro m o a ⟨d,V,U,t,x,rfl⟩;have g:=Pk (rn:=rn) (all:=all) (s:=a) (i+d);refine EW.seq (zr (zk 2 ?_));by_cases K:i+d<j
  .refine zp (aQ (u:=num ((i+d:Nat):Int)) (w:=num (j:Nat)) rfl kq kq (aX (b:=true) (tD oq))) (zk 3 (zo a (EO.gd #[am rn 0,num ((i+d:Nat):Int)] kq rfl rfl kq kq g ?_)));rcases O9 (all:=all) (k:=i+d) with ⟨v,r,hr,YD⟩|⟨v,YD⟩
   .rw[YD] at g |-;have H:=E r (mG hr);obtain⟨c,rfl,l,y⟩:=tU H;have A:BW a s.nx s.nx (aJ ((all.drop i).take d)):=by
     rcases U with ⟨rfl,rfl⟩|⟨_,h⟩
     .exact M
     .exact h
    have F:=Bc ((all.drop i).take d);have n:((all.drop i).take d).length+1<=all.length:=gq
    have⟨N,v2,L,C,P⟩:=Df (pr:=uC rn all) (en:=zh c) (c:=(c:Int)) kq kq A (λs Y f=>by
     unfold zh;rcases l with l|l
     .rw[ip l];exact vC l f oq kq
     .rw[iw (by have:=l.1;omega)];exact yO l f oq kq kq);have q:(all.drop i).take (d+1)=(all.drop i).take d++[(c:Int)]:=by rw[List.take_add_one,K2,hr];rfl
    rw[<-y,<-wO,<-q] at C;refine zp (aQ (u:=.int .i32 (c:Int)) (w:=.int .i32 (-1)) rfl kq kq (cM (b:=true) (bne_iff_ne.2 oq))) (zf (zT (za a (EW.seq (EW.block (zx (zc 2 g (zo a (EO.gd #[am s.nx 0,.int .i32 (c:Int)] kq rfl rfl kq kq L (EO.nil (za N (zx (zk 1 (zp (iP (i:=((i+d:Nat):Int)) (j:=1) (r:=((i+(d+1):Nat):Int)) rfl kq kq oq oq) (zf ?_)))))))))))))));exact⟨m-1,by omega,d+1,by omega,.inr ⟨oq,C⟩,.inr oq,aR kq⟩
   .rw[YD];refine zf (za a (zG (EW.exit ?_)));exact⟨rfl,d,U,t,by rw[tL gq,tL gq],aR kq⟩
  .refine zp (aQ (u:=num ((i+d:Nat):Int)) (w:=num (j:Nat)) rfl kq kq (aX (b:=false) (fD oq))) (zf (za a (zG (EW.exit ?_))));exact⟨rfl,d,U,t,by rw[show d=j-i by omega],aR kq⟩
 .rintro e o a ⟨rfl,d,U,t,q,x,rfl⟩;rw[q] at U;rcases U with ⟨rfl,rfl⟩|⟨hd,hb⟩
  .rw[<-q,List.take_zero];have G:=wH (pr:=uC rn all) (s:=s.add (.cells #[.pointer none,.slice none 0 0] 119)) (b:=s.nx) (p:=.pointer none) kq (by rw[AS.bv,ip rfl]);refine zr (zc 0 G (zf ?_));exact EW.ret ⟨.inr rfl,by kernel_rfl,trivial⟩
  .have I:aJ ((all.drop i).take (j-i))≠[]:=by
    rw[<-q];intro e;have J:i+d<=all.length:=t.resolve_left hd;obtain⟨z,rfl⟩:∃z,d=z+1:=⟨d-1,by omega⟩;have v:i+z<all.length:=oq
    rw[List.take_add_one,K2,gE v] at e;simp only[Option.toList_some] at e;rw[wO] at e;have⟨c,_,_,y⟩:=tU (E _ (D3 v));rw[y] at e
    have:=Ip c;have S:=(List.append_eq_nil_iff.1 e).2;grind
   have F:=Bc ((all.drop i).take (j-i));have n:((all.drop i).take (j-i)).length<=all.length:=gq
   have⟨X,D,R⟩:=uM (pr:=uC rn all) kq hb I oq;generalize aJ ((all.drop i).take (j-i))=Z at D |-;refine zr (zc 0 D (zf ?_));exact EW.ret ⟨.inr rfl,by kernel_rfl,trivial⟩
end
variable {l:Hq}{N Pb B Rb:Nat}{Shun Mz:Loc->Prop}{val:Value}{Ex:Nat->Prop}{w₀ aE:World}
section
variable {w w':World}{Az:Gq}{i:Ph}
variable [ConcR.Payload][ConcX.Payload]
variable [ConcX.Shy (Cfg.Wg (aC prog N Pb Shun val B Mz)) (Cfg.C (aC prog N Pb Shun val B Mz))]
def Xl(F:Cfg.Fit (aC prog N Pb Shun val B Mz)):Cy prog eg (λ_=>N+9) (λ_=>cO (aC prog N Pb Shun val B Mz)) (λ_=>g9 (aC prog N Pb Shun val B Mz)) (oa (aC prog N Pb Shun val B Mz)) (tj (aC prog N Pb Shun val B Mz)) (XM (aC prog N Pb Shun val B Mz) Az) (λi l w=>HX (aC prog N Pb Shun val B Mz) Ex w₀ all Rb i l w) where
 C:=XM.closed (K:=aC prog N Pb Shun val B Mz)
 T:=rJ (K:=aC prog N Pb Shun val B Mz)
 ne:=Et
 Z h:=HX.co F h
theorem EJ(F:Cfg.Fit (aC prog N Pb Shun val B Mz))(J:∀r∈all,Good r)(L:4*all.length<=1000000){e1:Nat}(h1:An rn=some (Rb,z1,e1))(h2:An 1=some (1,z2,e2)) :
  ck prog eg An (oa (aC prog N Pb Shun val B Mz)) (tj (aC prog N Pb Shun val B Mz)) (XM (aC prog N Pb Shun val B Mz) Az) (λi l w=>HX (aC prog N Pb Shun val B Mz) Ex w₀ all Rb i l w) (uC rn all):=by
 have Y:=Xl (Az:=Az) (Ex:=Ex) (w₀:=w₀) (all:=all) (Rb:=Rb) F;have E:=lD (An:=An) Y;constructor
 .exact MY rn all
 .intro f g m s v M U h;unfold uC at U;split at U
  .cases U
  next p =>
  unfold gC at U;split at U
  .cases U;simp only at h;split at h
   .next b k d =>
    split at h
    .next j =>
     obtain⟨rfl,K⟩:=j;cases h;rw[pY d];refine Sound.same Y rfl λS l I i w a D C A=>?_;obtain⟨O,P,rfl,G,H⟩:=Oa A;obtain⟨g,z,e,o,rfl⟩:=G.ptr;rw[D.an _ _ h1] at o;cases o;rw[H.sc rfl]
     have:=HX.at (Az:=Az) F oq C k.toNat;grind
    .cases h
   .cases h
  .cases p rfl
  .cases U;simp only at h;split at h
   .next x k d =>
    split at h
    .next y q =>
     split at h
     .next j =>
      split at h
      .next c n u =>
       cases h;rw[pY d];have t:y=cR.toArray:=by apply uX.1;simp[tN j]
       subst t;exact BN Y h2 u k q
      .cases h
     .cases h
    .cases h
   .cases h
  .exact E.sound _ _ _ _ _ _ U h
theorem J4(F:Cfg.Fit (aC prog N Pb Shun val B Mz))(A:∀r∈all,Good r)(C:4*all.length<=1000000){e1:Nat}(h1:An rn=some (Rb,z1,e1))(h2:An 1=some (1,z2,e2))(Z:1<rn) :
  ck prog eg An (oa (aC prog N Pb Shun val B Mz)) (tj (aC prog N Pb Shun val B Mz)) (XM (aC prog N Pb Shun val B Mz) Az) (λi l w=>HX (aC prog N Pb Shun val B Mz) Ex w₀ all Rb i l w) (gC rn all):=by
 have Y:=Xl (Az:=Az) (Ex:=Ex) (w₀:=w₀) (all:=all) (Rb:=Rb) F;have u:=EJ (Az:=Az) (Ex:=Ex) (w₀:=w₀) F A C h1 h2;refine⟨qj rn all,λf g a s v W E h=>?_⟩;by_cases o:f=92
 .subst o;cases E;simp only at h;split at h
  .next b T V ha =>
   split at h
   .next D =>
    obtain⟨rfl,O,P,X⟩:=D;cases h;have:a=#[.pointer (sq b),.int .i64 T,.int .i64 V]:=gq
    rw[this];obtain⟨i,rfl⟩:=Int.eq_ofNat_of_zero_le O;obtain⟨j,rfl⟩:=Int.eq_ofNat_of_zero_le P;have⟨s1,n,Q⟩:=GJ (rn:=b) (s:=⟨[],b+1⟩) A C i j oq;obtain⟨U,I,q,J,K⟩:∃U:cb,U.le An/\U b=some (Rb,z1,e1)/\U 1=some (1,z2,e2)/\∀c,b+1<=c->U c=none:=by
     refine⟨λc=>if c=1\/c=b then An c else none,λc x d=>?_,?_,?_,λc D=>?_⟩
     .grind
     .simpa using h1
     .simpa using h2
     .grind
    have H:=EJ (Az:=Az) (Ex:=Ex) (w₀:=w₀) F A C q J;refine Sound.sQ I (Sound.Pf Y K (λS t M L=>?_) (m:=1) rfl ((ij Y kq cv H cn n).2 _ _ _ _ _ Q));obtain⟨x',y',z',rfl,d,p,R⟩:=SG L;obtain⟨g,z,e,G,rfl⟩:=d.ptr;rw[M _ _ q] at G;cases G;rw[p.sc rfl,R.sc rfl];refine⟨rfl,λk x y d p=>?_⟩;match k with
    | 0=>cases d;cases p;exact VR.gk q
    | 1=>cases d;cases p;exact VR.dx rfl
    | 2=>cases d;cases p;exact VR.dx rfl
    | k+3=>simp at d
   .cases h
  .cases h
 .exact u.sound f g a s v W (by unfold uC;rw[iw (by intro e;exact o (gh e))];exact E) h
end
def oO:Obj->Bool
 | .cells _ t _=>!(t.beq 175)&&!(t.beq 21)
 | .chan _ _ _ _ _ _=>false
 | _=>true
section
variable {S:cb}
def eT.Q8(h:eT P KT An S s l)(c:∀b o,s1.get b=some o->s.get b=some o/\oO o=true)(i:s.nx<=s1.nx):eT P KT An S s1 (l.filter λx=>oO x.2) where
 live b o hb:=by
  have⟨h1,h2⟩:=c b o hb
  have⟨g,z,e,d,j,k,a,m⟩:=h.live b o h1
  refine⟨g,z,e,d,j,List.mem_filter.2 ⟨k,?_⟩,a,m⟩
  unfold OR at a
  split at a
  .
   obtain⟨f,rfl,_⟩:=a;exact h2
  .
   subst a;rfl
  .
   cases h2
  .
   exact a.elim
 inj b b' o d x x' hb pP:=h.inj b b' o d x x' (c b o hb).1 (c b' d pP).1
 lt b o hb:=lL (h.lt b o (c b o hb).1) i
 an:=h.an
end
structure Z5(w₀:World)(N Pb:Nat)(Sh:Nat->Prop)(sR:AS)(S0 An:cb)(l0:Hq):Prop where
 size:w₀.heap.size=N
 vr:eT prog eg An S0 sR l0
 own:∀b o,(b,o)∈l0->b<N/\b≠Pb/\¬Sh b/\w₀.heap[b]?=some o
 nd:(l0.map Prod.fst).Nodup
 tight:∀b o,(b,o)∈l0->∃nm ob z e,sR.get nm=some ob/\S0 nm=some (b,z,e)
structure lP(w₀:World)(N:Nat)(Ek:Nat->Prop)(w:World):Prop where
 tape:w.tape=w₀.tape
 os:w.os=w₀.os
 output:w.output=w₀.output
 size:N+9<=w.heap.size
 old:∀b,b<N->¬Ek b->w.heap[b]?=w₀.heap[b]?
def N7 (w:World):Prop:=3<w.heap.size/\w.cell? ⟨2,239,none⟩=some (.int .u8 3)/\w.cell? ⟨3,0,none⟩=some (.int .u8 128)/\w.cell? ⟨3,1,none⟩=some (.int .u8 191)
def N7.of(h:N7 w)(e:w.heap.size<=w'.heap.size)(h2:w'.heap[2]?=w.heap[2]?)(h3:w'.heap[3]?=w.heap[3]?):N7 w':=by
 have⟨a,b,c,d⟩:=h;refine⟨oq,?_,?_,?_⟩
 .rw[<-b];unfold World.cell?;rw[h2]
 .rw[<-c];unfold World.cell?;rw[h3]
 .rw[<-d];unfold World.cell?;rw[h3]
def Tb {ι:Type}(M:ι->World->Nat->Prop)(Hd:ι->Hq->World->Prop):Prop:=∀i l w,Hd i l w->M i w 2/\M i w 3/\N7 w
section
variable {Ek:Nat->Prop}{w w':World}{l0:Hq}{sR s':AS}{S0:cb}{Sh:Nat->Prop}
def lP.low(h:lP w₀ N Ek w)(h1:w'.tape=w.tape)(h2:w'.os=w.os)(h3:w'.output=w.output)(h4:w.heap.size<=w'.heap.size)(hb:∀b,b<N->¬Ek b->w'.heap[b]?=w.heap[b]?):lP w₀ N Ek w' :=
 ⟨h1.trans h.tape,h2.trans h.os,h3.trans h.output,lT h.size h4,λb h5 h6=>(hb b h5 h6).trans (h.old b h5 h6)⟩
def lP.rm(F:Cfg.Fit (aC prog N Pb Shun val B Mz))(h:lP w₀ N Ek w)(r:RM (aC prog N Pb Shun val B Mz) w aE):lP w₀ N Ek aE:=h.low r.tape r.os r.output r.size λb a _=>(zl F).MV r (xq a) (by have:=h.size;omega)
def lP.kept(h:lP w₀ N Ek w)(c:∀b,Ex b->N<=b)(k:Kept (cO (aC prog N Pb Shun val B Mz)) (g9 (aC prog N Pb Shun val B Mz)) Ex w w'):lP w₀ N Ek w':=h.low k.tape k.os k.output k.grow λb a _=>k.low b (xq a) (by have:=h.size;omega) λz=>by have:=c b z;omega
def lP.aside(h:lP w₀ N Ek w)(r:ConcX.Aside2 N (N+6) w aE):lP w₀ N Ek aE:=h.low r.tape r.os r.output (by rw[r.size];exact lr) λb a _=>r.block b oq oq
theorem lP.alloc(h:lP w₀ N Ek w)(o:Obj):lP w₀ N Ek (w.alloc o):=h.low rfl rfl rfl (by simp_all) λb U _=>Below.heap_alloc _ _ _ (by have:=h.size;omega)
def lu(l0:Hq)(b:Nat):Prop:=∃o,(b,o)∈l0
def W5 (w₀:World)(N Pb:Nat)(a:Nat->Prop)(c:Hq):Prop:=N7 w₀/\∀b,b=2\/b=3->b<N/\b≠Pb/\¬a b/\¬lu c b
def Ss(K:Cfg)(w₀:World)(N:Nat)(sR s1:AS)(S0:cb)(l0:Hq)(Rb:Nat)(w:World):Prop :=
 ∃S' l',eT prog eg S0 S' s1 l'/\(∀b,b<sR.nx\/s1.nx<=b->S' b=S0 b)/\(l'.map Prod.fst).Nodup/\(∀b o,(b,o)∈l'->cO K w b/\w.heap[b]?=some o/\oO o=true/\(b<N->lu l0 b))/\lP w₀ N (lu l0) w
def N4(w₀:World)(N:Nat)(Sh:Nat->Prop)(sR s1:AS)(S0:cb)(l0:Hq)(w:World):Prop :=
 ∃S' l',eT prog eg S0 S' s1 l'/\(∀b,b<sR.nx\/s1.nx<=b->S' b=S0 b)/\(l'.map Prod.fst).Nodup/\(∀b o,(b,o)∈l'->b<w.heap.size/\b≠N/\b≠N+6/\(b<N->lu l0 b)/\w.heap[b]?=some o)/\lP w₀ N (lu l0) w
theorem BS(y:∀{W:Type} {N0:W->Nat} {M:W->World->Nat->Prop} {O:W->Nat->Prop} {R:W->Wq} {D:W->World->World->Array Event->Prop} {X:W->Gq} {Hd:W->Hq->World->Prop} (_:Cy prog eg N0 M O R D X Hd) (A:cb),(W5 w₀ N Pb Sh l0->Tb M Hd)->(∀b,b≠sR.nx->A b=S0 b)->ck prog eg A R D X Hd (gC sR.nx all)->ck prog eg A R D X Hd pr)(H:yH w₀ N Pb Sh)(B:Z5 w₀ N Pb Sh sR S0 An l0)(a1:∀b,sR.nx<=b->b<s'.nx->S0 b=none)(ai:sR.nx<s'.nx){e1:Nat}(h1:S0 1=some (1,z1,e1))(a3:1<sR.nx)(hg:∀r∈all,Good r)(hn:4*all.length<=1000000)
 {c:Code}(aa:prog.funcs[f]?=some aS)(a7:aS.body=some c)(ab:aS.results=#[])(a4:AR (VR S0) va cap)
 {e:Exit}(af:fe prog kg pr n c ((am sR.nx 0::va.toList)++List.replicate (aS.ntmps-(va.size+1)) undef) ⟨sR.hp,sR.nx+1⟩=some (e,lO,s'))(he:e=.normal\/e=.ret)
 (a8:∀nm ob,sR.get nm=some ob->∃P,s'.get nm=some P)(ak:∀b o,s1.get b=some o->s'.get b=some o/\oO o=true)(ah:s'.nx<=s1.nx)(a9:∀l,Shun l->∃j:Addr,l=.cell j/\Sh j.block) :
  Client (aC prog N Pb (eO N Shun) val (N+9) (λ_=>False)) N all f cap (lP w₀ N (λ_=>False)) (N4 w₀ N Sh sR s1 S0 l0) (Ss (aC prog N Pb (eO N (λl=>∃j:Addr,l=.cell j/\Sh j.block)) val (N+9) (λ_=>False)) w₀ N sR s1 S0 l0):=by
 have up:∀{w:World} {b:Nat},cO (aC prog N Pb (eO N Shun) val (N+9) (λ_=>False)) w b->¬Sh b->cO (aC prog N Pb (eO N (λl=>∃j:Addr,l=.cell j/\Sh j.block)) val (N+9) (λ_=>False)) w b:=λ{w b} h U=>⟨h.1,h.2.1,h.2.2.1,h.2.2.2.1,λj ha hs=>by
  rcases hs with ⟨a,e,z⟩|⟨a,e,z⟩
  .cases e;exact U (ha▸z)
  .exact h.2.2.2.2 j ha (.inr ⟨a,e,z⟩)⟩;have dn:∀{w:World} {b:Nat},cO (aC prog N Pb (eO N (λl=>∃j:Addr,l=.cell j/\Sh j.block)) val (N+9) (λ_=>False)) w b->cO (aC prog N Pb (eO N Shun) val (N+9) (λ_=>False)) w b/\¬Sh b:=λ{w b} h=>⟨⟨h.1,h.2.1,h.2.2.1,h.2.2.2.1,λj ha hs=>by
  rcases hs with z|⟨a,e,z⟩
  .exact h.2.2.2.2 j ha (.inl (a9 _ z))
  .exact h.2.2.2.2 j ha (.inr ⟨a,e,z⟩)⟩,λU=>h.2.2.2.2 ⟨b,0,none⟩ rfl (.inl ⟨_,rfl,U⟩)⟩;have F:=SY (val:=val) H a9;have Bw:∀b,b<N->¬Sh b->∀j:Addr,j.block=b->¬eO N Shun (.cell j):=by
  rintro b U hS j rfl (h|⟨a,e,h⟩)
  .grind
  .cases e;omega
 constructor
 .exact λw aE r h=>h.rm F r
 .exact λw cs h=>h.alloc _
 .intro _ _ _ AW Rb w ae u hW;have J:∀b o,(b,o)∈l0->cO (aC prog N Pb (eO N Shun) val (N+9) (λ_=>False)) w b/\w.heap[b]?=some o:=λb o q=>by have⟨d,m,t,E⟩:=B.own b o q;exact⟨z7 d m (Bw b d t) u.size,(u.old b d id).trans E⟩
  have hX:HX (aC prog N Pb (eO N Shun) val (N+9) (λ_=>False)) (λb=>lu l0 b\/N<=b) w all Rb (.front (V all)) (l0++[]) w:=by
   rw[List.append_nil];refine⟨⟨Kept.refl w,u.size,λb o q=>⟨(J b o q).1,(J b o q).2,.inl (.inl ⟨o,q⟩)⟩,B.nd⟩,nl,[],all,false,rfl,.inl ⟨rfl,.inl rfl⟩,hW,λb o q y=>?_,λb y=>?_⟩
   .have:=(B.own b o q).1;rcases y with rfl|y
    .omega
    .cases y
   .rcases y with rfl|y
    .exact .inl (.inr ae)
    .cases y
  have aj:S0 sR.nx=none:=a1 _ lr ai;have p:S0.le (S0.put sR.nx (Rb,0,0)):=cb.kO aj;have YH:eT prog eg (S0.put sR.nx (Rb,0,0)) (S0.put sR.nx (Rb,0,0)) ⟨sR.hp,sR.nx+1⟩ l0:=by
   refine⟨λb o U=>?_,λb b' o o' x x' U a6 y vV T1=>?_,λb o U=>?_,cb.le_refl _⟩
   .have⟨g,z,e,o',d,m,t,E⟩:=B.vr.live b o U;exact⟨g,z,e,o',p _ _ d,m,t.mono p,E⟩
   .have⟨g,z,e,o3,d,_⟩:=B.vr.live b o U;have⟨g',z',e',o4,m,_⟩:=B.vr.live b' o' a6;rw[p _ _ d] at y;rw[p _ _ m] at vV;cases y;cases vV;exact B.vr.inj b b' o o' _ _ U a6 d m T1
   .have:=B.vr.lt b o U;grind
  have a0:=J4 (Az:=AW) (Ex:=λb=>lu l0 b\/N<=b) (w₀:=w) (An:=S0.put sR.nx (Rb,0,0)) (Rb:=Rb) F hg hn (rn:=sR.nx) cb.iX (p _ _ h1) a3;have Y:=Xl (Az:=AW) (Ex:=λb=>lu l0 b\/N<=b) (w₀:=w) (all:=all) (Rb:=Rb) F;have htb:W5 w₀ N Pb Sh l0->Tb (λ_:Ph=>cO (aC prog N Pb (eO N Shun) val (N+9) (λ_=>False))) (λi l T=>HX (aC prog N Pb (eO N Shun) val (N+9) (λ_=>False)) (λb=>lu l0 b\/N<=b) w all Rb i l T):=by
   intro hT i l T a5;have G:∀b,b=2\/b=3->cO (aC prog N Pb (eO N Shun) val (N+9) (λ_=>False)) T b/\T.heap[b]?=w₀.heap[b]?:=λb U=>by have⟨d,m,t,E⟩:=hT.2 b U;have m0:cO (aC prog N Pb (eO N Shun) val (N+9) (λ_=>False)) w b:=z7 d m (Bw b d t) u.size;exact⟨a5.hl.kept.mine b m0,(a5.hl.kept.block b m0 gq).trans (u.old b d id)⟩
   have al:w₀.heap.size<=T.heap.size:=by have:=u.size;have:=a5.hl.kept.grow;have:=B.size;omega
   exact⟨(G 2 (.inl rfl)).1,(G 3 (.inr rfl)).1,hT.1.of al (G 2 (.inl rfl)).2 (G 3 (.inr rfl)).2⟩
  have a0:=y Y _ htb (λb U=>by unfold cb.put;rw[iw U]) a0;refine⟨aS,c,aa,cn f aS aa,a7,?_⟩;refine((ij Y kq cv a0 cn n).1 c f _ lO _ s' e _ l0 [] (.front (V all)) w _ _ af YH hX ?_ rfl (λb b1 b2=>?_) ?_).1
  .have ar:va.size=cap.size:=a4.1;have h2:AR (VR (S0.put sR.nx (Rb,0,0))) (#[am sR.nx 0]++va) (#[.pointer (sq Rb)]++cap):=(AR.one (VR.gk cb.iX)).append (a4.mono p);have h3:=h2.append (AR.replicate (S:=S0.put sR.nx (Rb,0,0)) (x:=undef) (v:=undef) (aS.ntmps-(va.size+1)) VR.undef);have e1:((am sR.nx 0::va.toList)++List.replicate (aS.ntmps-(va.size+1)) undef).toArray=(#[am sR.nx 0]++va)++Array.replicate (aS.ntmps-(va.size+1)) undef:=gq
   grind
  .have a6:sR.nx+1<=b:=b1;unfold cb.put;grind
  .intro i' K L T a' r1 r2 r3 r4 r5 r6;rw[List.append_nil] at r4;have⟨v',Rv,Q,PC,k1,k2,k3,k4,k5⟩:=r4.row;have hhi:∀b,pb Rb v' b->N<=b:=λb U=>by
    rcases k5 b U with (⟨o,q⟩|z)|z
    .have⟨nm,ob,zz,ee,d,m⟩:=B.tight b o q;have⟨P,t⟩:=a8 nm ob d;have⟨g,z3,e3,o3,E,q5,_⟩:=r3.live nm P t;have q6:=r1 _ _ (p _ _ m);grind
    .exact z
    .have:=u.size;omega
   refine⟨he,r6,_,resultsC_none ab _,_,_,v',Rv,Q,PC,k1,k2,k3,hhi,K,L.filter (λx=>oO x.2),?_,λb U=>?_,?_,λb o q=>?_,?_⟩
   .have:=r3.Q8 ak ah;exact⟨this.live,this.inj,this.lt,cb.le_trans p r1⟩
   .rw[r2 b (U.imp (λU=>by show b<sR.nx+1;omega) (λU=>by omega))];unfold cb.put;rw[iw oq]
   .exact(List.filter_sublist.map Prod.fst).nodup r4.hl.nodup
   .have⟨s,C⟩:=List.mem_filter.1 q;have⟨d,m,t⟩:=r4.hl.own b o s;have I:b<N->lu l0 b:=λhbN=>by
     rcases t with (z|z)|z
     .exact z
     .omega
     .have:=u.size;omega
    refine⟨up d λU=>?_,m,C,I⟩;have⟨o2,Sb⟩:=I (H.sh b U).1;exact(B.own b o2 Sb).2.2.1 U
   .have kp:=r4.hl.kept;exact⟨kp.tape.trans u.tape,kp.os.trans u.os,kp.output.trans u.output,lT u.size kp.grow,λb U hk=>(kp.low b (xq U) (by have:=u.size;omega) (λz=>z.elim hk oq)).trans (u.old b U id)⟩
 .rintro Rb w aE r ⟨K,L,d,m,t,E,q5⟩;refine⟨K,L,d,m,t,λb o q=>?_,q5.rm F r⟩;have⟨s,C,Z,m4⟩:=E b o q;have⟨s,m5⟩:=dn s;exact⟨up ((zl F).stay r s) m5,((zl F).keep r s).trans C,Z,m4⟩
 .rintro Rb ao au v tk en w T hW y k ⟨K,L,d,m,t,E,q5⟩;refine⟨K,L,d,m,t,λb o q=>?_,q5.kept y k⟩;have⟨s,C,Z,m4⟩:=E b o q;have Ys:¬pb Rb v b:=by
   rintro(rfl|U)
   .rw[hW.rb] at C;cases C;simp[oO] at Z
   .rcases hW.ro.row.2 with ⟨z,_⟩|⟨g,cp,aq,z,_,ag,_⟩
    .rw[z] at U;cases U
    .rw[z] at U;cases U;rw[ag] at C;cases C;simp[oO] at Z
  have⟨s,m5⟩:=dn s;exact⟨up (k.mine b s) m5,(k.block b s Ys).trans C,Z,m4⟩
 .rintro Rb w ⟨K,L,d,m,t,E,q5⟩;refine⟨K,L,d,m,t,λb o q=>?_,q5⟩;have⟨s,C,Z,m4⟩:=E b o q;refine⟨s.1,λe=>s.2.1 (.inl e),λe=>s.2.2.2.1 (.inr (.inr e)),m4,C⟩
end
variable {Post:Value->World->Prop}
section
variable {w:World}{S:Nat->Prop}{cp:Hp}{s:ByteArray}
def Mn(H:yH w₀ N Pb S)(j:cp.l=[]\/Pb<N/\mM Pb cp w₀)(x:∃d c,cp.v=.slice d cp.l.length c)(u:s.size<=20000)(g:∀p∈cp.l,p.size<=20000)(i:cp.l.length<=9223372036854775806)(b:cp.l.flatMap bytesOf=bytesOf s)(Shun:Loc->Prop)(w:World)[ConcR.Payload][ConcX.Payload](a:He w₀ (qb N cp.v 62 (BO N)) w):XK (aC prog N Pb (eO N Shun) cp.v (N+9) (λ_=>False)) (true,V (cI s)) (born prog (kJ N)) w:=by
 obtain rfl:=H.size;have m:HB w₀.heap.size (BO w₀.heap.size) w:=⟨a.blocks 1 _ rfl,a.blocks 3 _ rfl,a.blocks 5 _ rfl,a.blocks 7 _ rfl,a.blocks 8 _ rfl⟩;have f:Pb<w₀.heap.size+9:=by rcases H.plo with h|h<;>omega
 have q:HQ w₀.heap.size Pb cp w:=by
  refine⟨a.blocks 0 _ rfl,?_,f⟩;rcases j with h|⟨h1,h2⟩
  .have⟨d,c,e⟩:=x;exact⟨d,c,e,λk p n=>by rw[h] at n;simp at n⟩
  .exact h2.of (a.old Pb h1)
 refine Ub m λo r=>?_
 have:=CH (Shun:=eO w₀.heap.size Shun) (B:=w₀.heap.size+9) (Mz:=λ_=>False) (m.rc r) (q.rc r) (λp t=>by have:=g p t;omega) i;rw[zY b] at this;simpa using this
theorem CI{A Fw:World->Prop}{I:Nat->World->Prop}(H:yH w₀ N Pb S)(E:cp.l=[]\/Pb<N/\mM Pb cp w₀)(q:∃i c,cp.v=.slice i cp.l.length c)(F:s.size<=20000)(B:∀p∈cp.l,p.size<=20000)(D:cp.l.length<=9223372036854775806)(u:cp.l.flatMap bytesOf=bytesOf s)
 (o:∀a:Loc->Prop,(∀l,a l->∃i:Addr,l=.cell i/\S i.block)->Client (aC prog N Pb (eO N a) cp.v (N+9) (λ_=>False)) N (cI s) f cap A Fw I)(n:∀w,He w₀ (qb N cp.v 62 (BO N)) w->A w)(z:∀w g,ConcX.Aside2 N (N+6) w g->Fw w->Fw g) :
  eM prog (ZI prog Post 0) 37 #[cp.v,.func (.func f) #[] cap] S w₀ (λt x r=>x=.tuple #[]/\t=SE N S/\Fw r/\r.heap[N+6]?=some (.cells #[.int .u64 0,.int .u32 0] 169)):=by
 have⟨O,L⟩:=cp;have⟨i,K,e⟩:=id q;simp only at e;subst e;simp only at o n |-;have C:bW prog true (λ_:Nat->Prop=>AtRel) DZ (ZI prog Post 0):=ZI.closed;have T:∀S,Terms AtRel (DZ S):=uO;have M:∀w m,(Instr.makeFunc (Fn.func 62) #[] #[Value.pointer (sq N)]).events prog w m=m:=λw m=>by simp[Instr.makeFunc]
 obtain rfl:=H.size;have b:=He.start w₀;refine gU func37 rq rfl ?_;simp only[ntmps37,bZ,Nat.reduceAdd,Nat.reduceSub];refine bQ C T (aN C T ?_);simp only[fH];refine aG C rfl rq λ_ d j U=>?_;replace b:=He.rely b d;clear d;go_simp;try (unfold stored;go_simp)
 refine U _ _ ⟨?_,?_⟩
 .intro e G;have J:=mem_listed G;simp[go_sem, *] at J
 clear U j;try walk_nrm
 have k:=b.size;simp only[List.length_nil,Nat.add_zero] at k;simp only[k];clear k;replace b:=b.alloc (.cells #[(.slice i L.length K)] 62);simp only[List.nil_append] at b;refine aW C T ?_;show fA _ _ _ _ _ _ _;refine aN C T ?_;simp only[fH,Nat.reduceAdd];refine aG C rfl rq λ_ d j U=>?_;replace b:=He.rely b d;clear d;go_simp;try (unfold stored;go_simp)
 refine U _ _ ⟨?_,?_⟩
 .co_still (T _)
 clear U j;try walk_nrm
 refine aG C rfl rq λ_ d j U=>?_;replace b:=He.rely b d;clear d;go_simp;try (unfold stored;go_simp)
 refine U _ _ ⟨?_,?_⟩
 .co_quiet (T _)
 clear U j;try walk_nrm
 have y:=U1 (Post:=Post) (f:=f) (fr:=62) (cap:=cap) (cr:=#[.pointer (sq w₀.heap.size)]) H b (by have:=sg s;omega) (λa w _ _ h=>Mn H E q F B D u a w h) o n z;refine jX C T rfl rq rfl rfl (by simp[Act.eval]) rfl y ?_;rintro _ _ _ ⟨rfl,h1,h2⟩;exact aW C T ⟨.inl rfl,rfl,_,resultsC_none rq _,rfl,rfl,h1,h2⟩
end
section
variable {N0:Nat}{M:World->Nat->Prop}{O:Nat->Prop}{R:Wq}{D:World->World->Array Event->Prop}{H:Hq->World->Prop}{p:Prop}
def Co.with(a:p)(Z:Co KT N0 M O R D H):Co KT N0 M O R D (λl w=>p/\H l w) where
 env:=Z.env
 rely h r:=⟨a,Z.rely h.2 r⟩
 size h:=Z.size h.2
 own h hm:=Z.own h.2 hm
 nodup h:=Z.nodup h.2
 grown h hO:=⟨a,Z.grown h.2 hO⟩
 turn h hO hb hk:=⟨a,Z.turn h.2 hO hb hk⟩
 perm h q:=⟨a,Z.perm h.2 q⟩
 drop h:=⟨a,Z.drop h.2⟩
 past h k hs:=⟨a,Z.past h.2 k hs⟩
 call h h':=⟨a,Z.call h.2 h'⟩
end
abbrev Zx:=(Nat->Prop) × Nat
def BE (Ex:Nat->Prop)(w₀:World)(j:Zx)(l:Hq)(w:World):Prop:=((∀b,j.1 b->b<j.2)/\∀b,j.1 b->w₀.heap.size<=b)/\HL (p8 j.1) (λ_=>False) j.2 Ex w₀ l w
section
variable {w:World}
def LN:Cy prog eg (λj:Zx=>j.2) (λj=>p8 j.1) (λ_ _=>False) (λ_=>AtRel) (λj=>DZ j.1) (λj=>ZI prog Post 0 j.1) (BE Ex w₀) where
 C:=⟨λh r=>(ZI.closed).rely h r,λa h=>(ZI.closed).step a h⟩
 T j:=uO j.1
 ne:=Et
 Z h:=Co.with h.1 (HL.co (SW h.1.1))
end
def ON:Option Addr->List Nat
 | some ad=>[ad.block]
 | none=>[]
def AD:Nat->Value->List Nat
 | 0,_=>[]
 | n+1,v=>match v with
  | .pointer p=>ON p
  | .slice p _ _=>ON p
  | .func _ x y=>x.toList.flatMap (AD n)++y.toList.flatMap (AD n)
  | .agg x=>x.toList.flatMap (AD n)
  | .tuple x=>x.toList.flatMap (AD n)
  | _=>[]
def UX:Obj->List Nat
 | .cells cs _ _=>cs.toList.flatMap (AD 5)
 | _=>[]
def AS.reach(s:AS):Nat->List Nat->AS->AS
 | 0,_,r=>r
 | _+1,[],r=>r
 | n+1,b::l,r=>match r.get b with
  | some _=>s.reach n l r
  | none=>match s.get b with
   | some o=>if oO o then s.reach n (UX o++l) (r.set b (some o)) else s.reach n l r
   | none=>s.reach n l r
theorem AS.lj{s:AS}:∀{n:Nat} {l:List Nat} {r:AS},(∀b o,r.get b=some o->s.get b=some o/\oO o=true)->∀b o,(s.reach n l r).get b=some o->s.get b=some o/\oO o=true
 | 0,l,r,h=>h
 | n+1,[],r,h=>h
 | n+1,c::l,r,h=>by
  unfold AS.reach;split
  .exact AS.lj h
  .split
   .next o U =>
    split
    .next hk =>refine AS.lj λb d a=>?_;rw[AS.bn] at a;grind
    .exact AS.lj h
   .exact AS.lj h
def AS.tidy(m:Nat)(s:AS):AS:=⟨(s.reach 5000 (List.range m) ⟨[],0⟩).hp,s.nx⟩
def AS.IG{m:Nat}{s:AS}{b:Nat}(h:(s.tidy m).get b=some o):s.get b=some o/\oO o=true :=
 AS.lj (λb o h=>by unfold AS.get at h;simp at h) b o h
def AS.keeps(s s':AS):Bool:=(List.range s.nx).all λb=>(s.get b).isNone||(s'.get b).isSome
section
def u9{S:Nat->Prop}{o:(Nat->Prop)->Value->World->Prop}{p:Zx->Value->World->Prop}(h:eM prog (ZI prog Post 0) f args S w o)(B:∀d v i,o d v i->∃m,∀a,AtRel i a->p (d,m) v a) :
  jH prog (λ_:Zx=>AtRel) (λj=>DZ j.1) (λj=>ZI prog Post 0 j.1) f args (S,n) w p:=by
 have⟨g,c,h1,h2,h3,x⟩:=h;refine⟨g,c,h1,h2,h3,λb k u y A z=>x b k u y A λd e t i q=>?_⟩;have⟨C,D,v,s,E⟩:=q;have⟨m,l⟩:=B d v i E
 have:=z (d,m) e t i ⟨C,D,λa r=>⟨v,(s a).1,by rw[(s a).2];exact(uO d).idle _,l a r⟩⟩;cases e<;>exact this
def yJ(uG:AS->AS):Prop:=∀s:AS,(uG s).nx=s.nx/\∀b o,(uG s).get b=some o->s.get b=some o/\oO o=true
def NI(m:Nat):yJ (AS.tidy m):=λ_=>⟨rfl,λ_ _ h=>AS.IG h⟩
def Sw (Ex:Nat->Prop)(w₀:World):Prop:=¬Ex 2/\¬Ex 3/\N7 w₀
theorem ZX(h:Sw Ex w₀):Tb (λj:Zx=>p8 j.1) (BE Ex w₀):=by
 rintro j l w ⟨⟨i,U⟩,c⟩;have⟨h2,h3,d⟩:=h;have f:=d.1;have a:∀b,b=2\/b=3->p8 j.1 w b/\w.heap[b]?=w₀.heap[b]?:=λb g=>by have e:p8 j.1 w₀ b:=⟨oq,λz=>by have:=U b z;omega⟩;exact⟨c.kept.mine b e,c.kept.block b e gq⟩
 exact⟨(a 2 (.inl rfl)).1,(a 3 (.inr rfl)).1,d.of c.kept.grow (a 2 (.inl rfl)).2 (a 3 (.inr rfl)).2⟩
def Su (s:AS)(pv:Value)(ps:List ByteArray)(sB:AS):Prop:=(pv=.slice none 0 0/\ps=[]/\sB=s)\/∃bp c0 cs fz,pv=.slice (some ⟨bp,0,none⟩) ps.length c0/\s.get bp=some (.cells cs 9 fz)/\(∀(k:Nat) (p:ByteArray),ps[k]?=some p->cs[k]?=some (.string p))/\sB=s.set bp none
open Classical in
theorem UE{e1:Nat}(h1:An 1=some (1,z1,e1)){s E:AS}(bf:1<s.nx){ps:List ByteArray}{sB:AS}{y:Aq}(ai:Su s pv ps sB)(hf:prog.funcs[f]?=some aS){str:ByteArray}{c:Code}(ao:ps.flatMap bytesOf=bytesOf str)(bc:∀p∈ps,p.size<=20000)(bd:ps.length<=9223372036854775806)(af:aS.body=some c)(bi:aS.results.toList.isEmpty=true)(az:jg str.data.toList 0<=20000){S:cb}
 (be:∀{ι:Type} {N0:ι->Nat} {M:ι->World->Nat->Prop} {O:ι->Nat->Prop} {R:ι->Wq} {D:ι->World->World->Array Event->Prop} {X:ι->Gq} {Hd:ι->Hq->World->Prop} (_:Cy prog eg N0 M O R D X Hd) (A:cb),(Sw Ex w₀->Tb M Hd)->(∀b,b≠s.nx->A b=S b)->ck prog eg A R D X Hd (gC s.nx (cI str))->ck prog eg A R D X Hd pr){uG:AS->AS}(ae:yJ uG){e:Exit}(b8:fe prog kg pr n c ((am s.nx 0::y.toList)++List.replicate (aS.ntmps-(y.size+1)) undef) ⟨sB.hp,s.nx+1⟩=some (e,lO,E))(bm:s.nx+1<=E.nx)(aa:AS.keeps sB E=true)(he:e=.normal\/e=.ret)
 {l fr:Hq}{j:Zx}(H:eT prog eg An S s l)(hF:BE Ex w₀ j (l++fr) w)(hA:AR (VR S) #[pv,.func (.func f) #[] y] args')(b9:∀b,s.nx<=b->b<E.nx->S b=none) :
  jH prog (λ_:Zx=>AtRel) (λj=>DZ j.1) (λj=>ZI prog Post 0 j.1) 37 args' j w λi' v' w'=>∃Z l',S.le Z/\(∀b,b<s.nx\/(uG E).nx<=b->Z b=S b)/\eT prog eg An Z (uG E) l'/\BE Ex w₀ i' (l'++fr) w'/\VR Z (.tuple #[]) v':=by
 have ab:sB.nx=s.nx:=by rcases ai with ⟨_,_,rfl⟩|⟨bp,c0,cs,fz,_,_,_,rfl⟩<;>rfl
 have⟨a5,nB⟩:=sB;have ab:nB=s.nx:=ab;subst ab;have zW:str.size<=20000:=by rw[iO,Nat.zero_add,KF] at az;exact az
 have aj:aS.results=#[]:=gq
 obtain⟨a0,a1,rfl,v0,v1⟩:=Oa hA;obtain⟨p',cap,rfl,yu,To⟩:=v1.fn;have Ow:p'=#[]:=by apply uX.1;have:=yu.1;simp at this;exact List.eq_nil_of_length_eq_zero (by simpa using this.symm)
 subst Ow;obtain⟨⟨hj,ag⟩,m⟩:=hF;have hlw:∀a d x,s.get a=some d->S a=some x->x.1<w.heap.size/\¬j.1 x.1:=λa d x C I=>by have⟨g,z,e,o',P,r2,_,_⟩:=H.live a d C;rw[I] at P;cases P;exact(m.own _ _ (G8 _ r2)).1
 obtain⟨u,cp,aq,a6,U,av,ax,bl,aw,au⟩:∃(u:Nat) (cp:Hp),cp.v=a0/\cp.l=ps/\(∀a d,(⟨a5,s.nx⟩:AS).get a=some d->s.get a=some d)/\(u<w.heap.size\/u=w.heap.size+1)/\¬j.1 u/\(∀a d x,(⟨a5,s.nx⟩:AS).get a=some d->S a=some x->x.1≠u)/\(cp.l=[]\/u<w.heap.size/\mM u cp w)/\((∃o,(u,o)∈l++fr)\/u=w.heap.size+1):=by
  rcases ai with ⟨rfl,rfl,ay⟩|⟨bp,c0,cs,fz,rfl,hb,b6,ay⟩<;>rw[ay]
  .refine⟨w.heap.size+1,⟨a0,[]⟩,rfl,rfl,λ_ _ h=>h,.inr rfl,λz=>?_,λa d x C I e=>?_,.inl rfl,.inr rfl⟩
   .have:=hj _ z;have:=m.size;omega
   .grind
  .obtain⟨u,zP,eP,cp,ak,rfl,_,_,_,_⟩:=v0.sl;have⟨kk,oP,hk,kF,Qg,Lb,TX⟩:=H.at (fr:=fr) hb ak;obtain⟨csP,rfl,hzP,⟨hleP,_⟩,K⟩:=Lb;have F:(u,Obj.cells csP 9)∈l++fr:=mG Qg;have⟨Yo,hgP,_⟩:=m.own _ _ F;have U:∀a d,(s.set bp none).get a=some d->a≠bp/\s.get a=some d:=λa d hq=>by rw[AS.bn] at hq;grind
   refine⟨u,⟨.slice (sq u) ps.length cp,ps⟩,rfl,rfl,λa d h=>(U a d h).2,.inl Yo.1,Yo.2,λa d x C I e=>(U a d C).1 (H.inj a bp d _ _ _ (U a d C).2 hb I ak e),.inr ⟨Yo.1,_,_,rfl,λk p hkp=>⟨0,rfl,?_⟩⟩,.inl ⟨_,F⟩⟩;have h0:=b6 k p hkp;have T:k<csP.size:=gq
   have:=(K k _ _ h0 (gF T)).sc rfl;simp[World.cell?,hgP,this,T]
 let a3:Nat × Obj->Prop:=λq=>∃a d z e,(⟨a5,s.nx⟩:AS).get a=some d/\S a=some (q.1,z,e);have hH:yH w w.heap.size u j.1:=⟨rfl,av,λb J=>⟨lL (hj b J) m.size,λe'=>ax (e'▸J)⟩⟩;have hRd:Z5 w w.heap.size u j.1 (⟨a5,s.nx⟩:AS) S An (l.filter λq=>decide (a3 q)):=by
  refine⟨rfl,⟨λb o a9=>?_,λb b' o o' q q' a9 XX=>H.inj b b' o o' q q' (U b o a9) (U b' o' XX),λb o a9=>H.lt b o (U b o a9),H.an⟩,λb o t=>?_,?_,λb o t=>?_⟩
  .have⟨g,z,e,o',C,I,q3,q4⟩:=H.live b o (U b o a9);grind
  .have⟨m1,m2⟩:=List.mem_filter.1 t;have⟨a,d,z,e,C,I⟩:=of_decide_eq_true m2;have⟨m3,m4,_⟩:=m.own b o (G8 _ m1);grind
  .have ah:=m.nodup;grind
  .grind
 obtain⟨bj,bk,ar⟩:∃ad c,cp.v=.slice ad cp.l.length c:=by
  rcases aw with h|⟨_,ad,c,e,_⟩
  .rw[aq,h];rw[a6] at h;rcases ai with ⟨rfl,_,_⟩|⟨bp,c0,cs,fz,rfl,_⟩
   .exact⟨_,_,v0.sc rfl⟩
   .have⟨_,_,_,_,_,e,_⟩:=v0.sl;grind
  .exact⟨ad,c,e⟩
 have⟨hg,ba⟩:=pX str zW;have L:∀a d,(⟨a5,s.nx⟩:AS).get a=some d->∃OI,E.get a=some OI:=λa d hq=>by
  unfold AS.keeps at aa
  have:=eD aa (i:=a) (H.lt a d (U a d hq));rw[hq] at this;simp only[Option.isNone_some,Bool.false_or] at this;exact Option.isSome_iff_exists.1 this
 have bg:Sw Ex w₀->W5 w w.heap.size u j.1 (l.filter λq=>decide (a3 q)):=by
  intro hT;have⟨_,_,hTw⟩:=ZX hT j _ w ⟨⟨hj,ag⟩,m⟩;have⟨x2,x3,hT0⟩:=hT;have kF:=hT0.1;have hlw:=hTw.1;have ex:∀b,b=2\/b=3->¬(Ex b\/w₀.heap.size<=b):=λb hb=>by grind
  refine⟨hTw,λb hb=>⟨oq,λe=>?_,λz=>by have:=ag b z;omega,?_⟩⟩
  .rcases au with ⟨o,t⟩|hp
   .exact ex b hb (e▸(m.own _ _ t).2.2)
   .omega
  .rintro⟨o,t⟩;exact ex b hb (m.own _ _ (G8 _ (List.mem_filter.1 t).1)).2.2
 have b5:=λ(Shun:Loc->Prop) (b4:∀l,Shun l->∃ad:Addr,l=.cell ad/\j.1 ad.block) =>BS (sR:=(⟨a5,s.nx⟩:AS)) (all:=cI str) (λY A hT hA hp=>be Y A (λz=>hT (bg z)) hA hp) (val:=cp.v) (s':=E) (s1:=uG E) hH hRd (λb b1 Q=>b9 b b1 Q) gq (H.an _ _ h1) bf hg ba hf af aj To b8 he L (ae E).2 (Nat.le_of_eq (ae E).1.symm) b4;have hof:=CI (Post:=Post) (cp:=cp) (A:=lP w w.heap.size (λ_=>False)) (Fw:=N4 w w.heap.size j.1 (⟨a5,s.nx⟩:AS) (uG E) S (l.filter λq=>decide (a3 q))) hH aw ⟨_,_,ar⟩ zW (a6.symm▸bc) (a6.symm▸bd) (a6.symm▸ao) b5 (λw1 G=>⟨G.tape,G.os,G.output,by rw[G.size];simp[qb],λb J _=>G.old b J⟩) (λw1 w2 r hq=>by have⟨Z,l',C,I,q3,q4,W⟩:=hq;refine⟨Z,l',C,I,q3,λb o t=>?_,W.aside r⟩;have⟨m1,m2,m3,m4,m5⟩:=q4 b o t;exact⟨by rw[r.size];exact m1,m2,m3,m4,(r.block b m2 m3).trans m5⟩);rw[aq] at hof;refine u9 (n:=j.2) hof ?_;rintro Z v w' ⟨rfl,rfl,⟨S2,l',C,I,q3,q4,W⟩,q6⟩;have ah:=m.nodup;rw[Bz,List.nodup_append] at ah;have⟨hnd1,Qk,V⟩:=ah;have N:∀b,lu (l.filter λq=>decide (a3 q)) b->∃o,(b,o)∈l:=λb ⟨o,t⟩=>⟨o,(List.mem_filter.1 t).1⟩;have B:w.heap.size<=w'.heap.size:=gq
 have b3:HL (p8 (SE w.heap.size j.1)) (λ_=>False) (w.heap.size+7) Ex w₀ (l'++fr) w':=by
  refine⟨⟨W.tape.trans m.kept.tape,W.os.trans m.kept.os,W.output.trans m.kept.output,lT m.kept.grow B,λb a4 al=>?_,λb a4=>⟨lL a4.1 (lT m.kept.grow B),a4.2⟩,λb z=>z.elim⟩,by have:=W.size;omega,λb o t=>?_,?_⟩
  .have a8:b<w.heap.size:=lL a4.1 m.kept.grow;have TJ:¬lu (l.filter λq=>decide (a3 q)) b:=λz=>by
    have⟨o,t⟩:=N b z;rcases(m.own b o (G8 _ t)).2.2 with z|z
    .exact al z
    .have:=a4.1;omega
   exact(W.old b a8 TJ).trans (m.kept.block b ⟨a4.1,λz=>a4.2 (.inl z)⟩ al)
  .rcases List.mem_append.1 t with t|t
   .have⟨m1,m2,m3,m4,m5⟩:=q4 b o t;by_cases a8:b<w.heap.size
    .have⟨o2,a7⟩:=N b (m4 a8);have⟨P,r2,r3⟩:=m.own b o2 (G8 _ a7);exact⟨⟨m1,λz=>z.elim P.2 m3⟩,m5,r3⟩
    .refine⟨⟨m1,λz=>z.elim (λz=>?_) m3⟩,m5,.inr (by have:=m.kept.grow;omega)⟩
     have:=hj b z
     have:=m.size;omega
   .have⟨P,r2,r3⟩:=m.own b o (Jp _ t);have TJ:¬lu (l.filter λq=>decide (a3 q)) b:=λz=>by have⟨o2,a7⟩:=N b z;exact V b (List.mem_map.2 ⟨_,a7,rfl⟩) b (List.mem_map.2 ⟨_,t,rfl⟩) rfl
    refine⟨⟨lL P.1 B,λz=>z.elim P.2 (λz=>?_)⟩,(W.old b P.1 TJ).trans r2,r3⟩
    have:=P.1;omega
  .rw[Bz,List.nodup_append];refine⟨q3,Qk,λx hx y hy bh=>?_⟩;subst bh;obtain⟨⟨b,o⟩,t,rfl⟩:=List.mem_map.1 hx;obtain⟨⟨Q,o2⟩,a7,e2⟩:=List.mem_map.1 hy;have e2:Q=b:=e2;subst e2;have a8:=(m.own Q o2 (Jp _ a7)).1.1;have⟨o3,hm3⟩:=N Q ((q4 Q o t).2.2.2.1 a8);exact V Q (List.mem_map.2 ⟨_,hm3,rfl⟩) Q (List.mem_map.2 ⟨_,a7,rfl⟩) rfl
 refine⟨w.heap.size+7,λaE r=>⟨S2,l',C.an,I,⟨C.live,C.inj,C.lt,cb.le_trans H.an C.an⟩,⟨⟨λb z=>?_,λb z=>?_⟩,b3.rely (SW (KT:=eg) (λb z=>?_)) r⟩,?_⟩⟩
 .rcases z with z|z
  .have:=hj b z;have:=m.size;omega
  .omega
 .rcases z with z|z
  .exact ag b z
  .have:=m.kept.grow;omega
 .rcases z with z|z
  .have:=hj b z;have:=m.size;omega
  .omega
 .exact VR.uu AR.nil
end
end Go.Proofs.YtgcaionclkbehaaGreatDoor
