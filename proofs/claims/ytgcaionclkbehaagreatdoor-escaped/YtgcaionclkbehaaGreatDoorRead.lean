import Derived.Test.YtgcaionclkbehaaGreatDoorQ0
set_option linter.all false
set_option maxHeartbeats 2000000
set_option maxRecDepth 100000
namespace Go.Proofs.YtgcaionclkbehaaGreatDoor
open Go.Conc Go.RowKit Go.Lib Tryz
variable {c e e2 g id k n rn z z1 z2:Nat}{s s' s1 s3:AS}{sl v:Value}{en l m p:Bq}{o:Oper}{x y:Operand}{i j:Int}{b:Bool}{f:FuncId}{t ty:TypeId}{P:Program}{es:Array Event}{args cells cs old:Aq}
def qH (c:Nat):List UInt8:=if c<2048 then [UInt8.ofNat (192+c / 64),UInt8.ofNat (128+c % 64)] else if c<65536 then [UInt8.ofNat (224+c / 4096),UInt8.ofNat (128+c / 64 % 64),UInt8.ofNat (128+c % 64)] else [UInt8.ofNat (240+c / 262144),UInt8.ofNat (128+c / 4096 % 64),UInt8.ofNat (128+c / 64 % 64),UInt8.ofNat (128+c % 64)]
theorem OH(h:n<256):((UInt8.ofNat n).toNat:Int)=(n:Nat):=by rw[UInt8.toNat_ofNat'];show((n % 256:Nat):Int)=_;rw[Nat.mod_eq_of_lt h]
theorem jY(c k:Nat):Int.fdiv (c:Int) (2 ^ k)=((c / 2 ^ k:Nat):Int):=by rw[Int.fdiv_eq_ediv_of_nonneg _ (by exact Int.pow_nonneg (by decide))];simp
def LD (c:Nat):Prop:=128≤c∧(c<55296∨(57343<c∧c≤1114111))
def sV (s:AS)(sl:Value)(l:List UInt8):Prop:=(sl=.slice none 0 0∧l=[])∨∃d fz,sl=.slice (some ⟨d,0,none⟩) l.length l.length∧d<s.nx∧s.get d=some (.cells (ll l) 5 fz)
theorem sV.add(h:sV s sl l)(o:Obj):sV (s.add o) sl l:=by
 rcases h with h|⟨d,fz,q1,q2,q3⟩
 ·exact .inl h
 ·exact .inr ⟨d,fz,q1,by simp; omega,by rw[AS.aH,if_neg (by omega)]; exact q3⟩
def uU (s:AS)(sl:Value)(l m:List UInt8)(s3:AS)(w:Value):Prop:=∃g,w=.slice (some ⟨g,0,none⟩) (l++m).length (l++m).length∧s.nx≤g∧g<s3.nx∧s3.get g=some (.cells (ll (l++m)) 5 (1,1))∧∀k,k<s.nx→(∀n c,sl≠.slice (some ⟨k,0,none⟩) n c)→s3.get k=s.get k
theorem IA(h:sV s sl l)(hm:m≠[])(hl:l.length+m.length≤1000000):∃w s3,aZ prog 5 sl (strCells ⟨m.toArray⟩) m.length s=some (w,s3)∧uU s sl l m s3 w:=by
 have a0:m.length≠0:=by simpa using hm
 rcases h with ⟨rfl,rfl⟩|⟨d,fz,rfl,q2,q3⟩
 ·exact⟨_,_,fZ a0,s.nx,by simp,Nat.le_refl _,by simp,by rw[AS.aH,if_pos rfl]; rfl,fun k hk _=>by rw[AS.aH,if_neg (by omega)]⟩
 ·have U:(ll l).size=l.length:=by simp[strCells]
  refine⟨_,_,fM (sz:=1) a0 q3 (by kernel_rfl) (by rw[U]; omega) (by omega),s.nx,by rw[List.length_append],Nat.le_refl _,by simp,?_,fun k hk a1=>?_⟩
  ·rw[AS.aH,if_pos (by simp)];have:List.take (l.length*1) (ll l).toList=strCells ⟨l.toArray⟩:=by rw[Nat.mul_one];exact List.take_of_length_le (by simp[strCells])
   rw[this,iR]
  ·rw[AS.aH,if_neg (by simp; omega),AS.aK,if_neg (fun e=>a1 _ _ (by rw[e]))]
theorem ri{kt:TypeId→Bool}{c:fj}{a:TL}{d:Nat}{fz:Nat × Nat}(U:o.op=.call { callee:=.builtin .append,args:=#[x,y],argTypes:=#[55,55] })(hx:a.at x=sl)(hy:a.at y=.slice (sq d) m.length k)(a2:kt 5=false)(hd:s.get d=some (.cells (ll m) 5 fz))(a1:dx sl (sq d)=true)(hm:m.length≤1000000)(h:aZ prog 5 sl (strCells ⟨m.toArray⟩) m.length s=some (v,s')):bK prog kt c a o s=some (v,s'):=by
 have hq:bQ prog a o=none:=by unfold bQ;rw[U]
 have a0:(ll m).size=m.length:=by simp[strCells]
 have hc:dQ s 1 (sq d) m.length=some (strCells ⟨m.toArray⟩):=by unfold dQ;simp only;rw[hd];simp only[a0];rw[if_pos (by omega),Nat.mul_one,List.drop_zero,List.take_of_length_le (by simp[strCells])]
 have hi:(prog.info? 5).map (fun i=>(i.zero,i.size,i.bytes))=some (some (Value.int .u8 0),1,1):=by kernel_rfl
 unfold bK;rw[if_neg (by rw[U]; simp[eV])];rw[U];simp only;rw[hq];simp only[List.map_cons,List.map_nil];rw[hx,hy];unfold eB;simp only[if_true];rw[underlying55];simp only;rw[hi];simp only;rw[hc];simp only;rw[if_pos ⟨by rfl,by omega,by omega,by omega,a2,a1,by simp[strCells,Value.oneCell']⟩];exact h
section
variable {rn:Nat}{all:Iq}{s:AS}{pr:Prim}
theorem mg(h:sV s sl l)(hk:s.nx≤k):dx sl (sq k)=true:=by
 rcases h with ⟨rfl,_⟩|⟨d,fz,rfl,q,_⟩
 ·rfl
 ·show(!d.beq k)=true;cases U:d.beq k
  ·rfl
  ·exact absurd (Nat.eq_of_beq_eq_true U) (by omega)
theorem wD(h:c≤1114111):IntKind.u32.wrap (c:Int)=(c:Int):=by rw[IntKind.wrap_u32]; omega
theorem OG{x:Int}(U:n<64)(h:x % 64=(n:Int)):bits .or .u8 128 (bits .and .u8 (IntKind.u8.wrap x) 63)=((UInt8.ofNat (128+n)).toNat:Int):=by rw[Sk,OH (by omega),h]; omega
theorem PX(U:n<32):bits .or .u8 192 (IntKind.u8.wrap (n:Int))=((UInt8.ofNat (192+n)).toNat:Int):=by rw[IntKind.wrap_u8,show(n:Int) % 256=n by omega,Rs _ (by omega) (by omega),OH (by omega)]; omega
theorem PY(U:n<16):bits .or .u8 224 (IntKind.u8.wrap (n:Int))=((UInt8.ofNat (224+n)).toNat:Int):=by rw[IntKind.wrap_u8,show(n:Int) % 256=n by omega,Rt _ (by omega) (by omega),OH (by omega)]; omega
theorem PZ(U:n<8):bits .or .u8 240 (IntKind.u8.wrap (n:Int))=((UInt8.ofNat (240+n)).toNat:Int):=by rw[IntKind.wrap_u8,show(n:Int) % 256=n by omega,Ru _ (by omega) (by omega),OH (by omega)]; omega
theorem n7{k:IntKind}(h:decide (i<j)=b):cX .lss (.int k i) (.int k j)=some (.bool b):=by unfold cX; simp only[if_pos]; rw[h]
theorem cO{k:IntKind}(h:(i != j)=b):cX .neq (.int k i) (.int k j)=some (.bool b):=by unfold cX; simp only[if_pos]; rw[h]
theorem Fe{k:IntKind}(h:decide (i>j)=b):cX .gtr (.int k i) (.int k j)=some (.bool b):=by unfold cX; simp only[if_pos]; rw[h]
theorem uU.vV{o:Obj}{w:Value}(h:uU (s.add o) sl l m s3 w):uU s sl l m s3 w:=by obtain⟨g,h1,h2,h3,U,h5⟩:=h;exact⟨g,h1,by simp at h2; omega,h3,U,fun k hk vG=>(h5 k (by simp; omega) vG).trans (by rw[AS.aH,if_neg (by omega)])⟩
def Se(sl:Value)(c:Nat)(tb:Bool)(x:Nat→Value):TL:=[sl,.int .i32 (c:Int),x 2,x 3,x 4,.int .u32 (c:Int),x 6,x 7,x 8,x 9,x 10,x 11,x 12,x 13,x 14,x 15,x 16,x 17,x 18,x 19,x 20,x 21,x 22,x 23,x 24,.bool tb,x 26,x 27,x 28,x 29,x 30,x 31,x 32,x 33,x 34,x 35,x 36,x 37,x 38,x 39,x 40,x 41,x 42,x 43,x 44,x 45,x 46,x 47,x 48,x 49,x 50,x 51,x 52,x 53,x 54,x 55,x 56,x 57,x 58,x 59,x 60,x 61,x 62,x 63,x 64,x 65,x 66,x 67,x 68,x 69,x 70,x 71,x 72,x 73,x 74,x 75,x 76,x 77]
theorem CM(hc:LD c)(h:sV s sl l)(hl:l.length≤999996)(a1:pr 346=none):∃s',∃w,Ef pr 346 #[sl,.int .i32 (c:Int)] s w s'∧uU s sl l (qH c) s' w:=by
 suffices hh:Ew pr (match Tryz.f346.body with|some c=>c|none=>.skip) ((#[sl,.int .i32 (c:Int)]:Aq).toList++List.replicate (Tryz.f346.ntmps-(#[sl,.int .i32 (c:Int)]:Aq).toList.length) undef) s (fun e a' s1=>(e=.normal∨e=.ret)∧∃w,uU s sl l (qH c) s1 w∧dA prog Tryz.f346 a' s1=some w) by obtain⟨m,e,a',s1,h1,he,w,h3,h4⟩:=hh;exact⟨s1,w,EF.of a1 func346 rfl ⟨m,e,a',s1,h1,he,h4,rfl⟩,h3⟩
 obtain⟨a2,a0⟩:=hc;refine zs (zr (zg 1 s (EO.op (v:=.int .u32 (c:Int)) (s1:=s) (by kernel_rfl) ((show _=some (Value.int .u32 (IntKind.u32.wrap (c:Int)),s) by kernel_rfl).trans (by rw[wD (by omega)])) (zf (za s (EW.block (zr (zk 1 ?_))))))));by_cases h1:c<2048
 ·have he:qH c=[UInt8.ofNat (192+c / 64),UInt8.ofNat (128+c % 64)]:=by unfold qH; rw[if_pos h1]
  rw[he];refine zp (dt (u:=.int .u32 (c:Int)) (w:=.int .u32 2047) rfl (by kernel_rfl) (by kernel_rfl) (dY (b:=true) (decide_eq_true (by omega)))) (zf (zH (zr (zg 4 s (EO.op (v:=.int .u8 ((UInt8.ofNat (192+c / 64)).toNat:Int)) (s1:=s) (by kernel_rfl) ((show _=some (Value.int .u8 (bits .or .u8 192 (IntKind.u8.wrap (Int.fdiv (c:Int) (2 ^ 6)))),s) by kernel_rfl).trans (by rw[jY,PX (by omega)])) (zg 3 s (EO.op (v:=.int .u8 ((UInt8.ofNat (128+c % 64)).toNat:Int)) (s1:=s) (by kernel_rfl) ((show _=some (Value.int .u8 (bits .or .u8 128 (bits .and .u8 (IntKind.u8.wrap (c:Int)) 63)),s) by kernel_rfl).trans (by rw[OG (n:=c % 64) (by omega) (by omega)])) ?_)))))));generalize UInt8.ofNat (192+c / 64)=U;generalize UInt8.ofNat (128+c % 64)=b2;refine zg 1 (s.add (.cells (ll [U,b2]) 5)) ?_;obtain⟨w,s3,q1,q2⟩:=IA (m:=[U,b2]) (h.add (.cells (ll [U,b2]) 5)) (by simp) (by simp; omega);refine zp (ri (m:=[U,b2]) (d:=s.nx) (k:=2) (sl:=sl) rfl (by kernel_rfl) (by kernel_rfl) (by kernel_rfl) (by rw[AS.aH,if_pos rfl]) (mg h (Nat.le_refl _)) (by simp) q1) (zf ?_);exact EW.ret ⟨.inr rfl,w,q2.vV,by kernel_rfl⟩
 ·refine zp (dt (u:=.int .u32 (c:Int)) (w:=.int .u32 2047) rfl (by kernel_rfl) (by kernel_rfl) (dY (b:=false) (decide_eq_false (by omega)))) (zf (zG (EW.seq (EW.mono (Q:=fun e a' s'=>e=.normal∧s'=s∧∃x,a'=Se sl c (decide (c<65536)) x) ?_ ?_))))
  ·refine zr (zk 1 ?_);rcases a0 with a0|⟨a0,a3⟩
   ·rw[decide_eq_true (show c<65536 by omega)];refine zp (dt (u:=.int .u32 (c:Int)) (w:=.int .u32 55296) rfl (by kernel_rfl) (by kernel_rfl) (n7 (b:=true) (decide_eq_true (by omega)))) (zf ?_);exact zH (EW.skip ⟨rfl,by kernel_rfl,bG (by kernel_rfl)⟩)
   ·refine zp (dt (u:=.int .u32 (c:Int)) (w:=.int .u32 55296) rfl (by kernel_rfl) (by kernel_rfl) (n7 (b:=false) (decide_eq_false (by omega)))) (zf (zG (zx (zk 1 (zp (dt (u:=.int .u32 57343) (w:=.int .u32 (c:Int)) rfl (by kernel_rfl) (by kernel_rfl) (n7 (b:=true) (decide_eq_true (by omega)))) (zk 2 (zp (dt (u:=.int .u32 (c:Int)) (w:=.int .u32 65535) rfl (by kernel_rfl) (by kernel_rfl) (dY (b:=decide (c<65536)) (by by_cases h:c<65536<;>simp[h]<;>omega))) ?_)))))));generalize decide (c<65536)=tb;refine zf ?_;exact⟨rfl,by kernel_rfl,bG (by kernel_rfl)⟩
  rintro e a' s' ⟨rfl,rfl,x,rfl⟩;by_cases h2:c<65536
  ·have he:qH c=[UInt8.ofNat (224+c / 4096),UInt8.ofNat (128+c / 64 % 64),UInt8.ofNat (128+c % 64)]:=by unfold qH; rw[if_neg h1,if_pos h2]
   rw[he,decide_eq_true h2];refine zH (zr (zg 4 s' (EO.op (v:=.int .u8 ((UInt8.ofNat (224+c / 4096)).toNat:Int)) (s1:=s') (by kernel_rfl) ((show _=some (Value.int .u8 (bits .or .u8 224 (IntKind.u8.wrap (Int.fdiv (c:Int) (2 ^ 12)))),s') by kernel_rfl).trans (by rw[jY,PY (by omega)])) (zg 4 s' (EO.op (v:=.int .u8 ((UInt8.ofNat (128+c / 64 % 64)).toNat:Int)) (s1:=s') (by kernel_rfl) ((show _=some (Value.int .u8 (bits .or .u8 128 (bits .and .u8 (IntKind.u8.wrap (Int.fdiv (c:Int) (2 ^ 6))) 63)),s') by kernel_rfl).trans (by rw[jY,OG (n:=c / 64 % 64) (by omega) (by omega)])) (zg 3 s' (EO.op (v:=.int .u8 ((UInt8.ofNat (128+c % 64)).toNat:Int)) (s1:=s') (by kernel_rfl) ((show _=some (Value.int .u8 (bits .or .u8 128 (bits .and .u8 (IntKind.u8.wrap (c:Int)) 63)),s') by kernel_rfl).trans (by rw[OG (n:=c % 64) (by omega) (by omega)])) ?_)))))));generalize UInt8.ofNat (224+c / 4096)=U;generalize UInt8.ofNat (128+c / 64 % 64)=b2;generalize UInt8.ofNat (128+c % 64)=b3;refine zg 1 (s'.add (.cells (ll [U,b2,b3]) 5)) ?_;obtain⟨w,s3,q1,q2⟩:=IA (m:=[U,b2,b3]) (h.add (.cells (ll [U,b2,b3]) 5)) (by simp) (by simp; omega);refine zp (ri (m:=[U,b2,b3]) (d:=s'.nx) (k:=3) (sl:=sl) rfl (by kernel_rfl) (by kernel_rfl) (by kernel_rfl) (by rw[AS.aH,if_pos rfl]) (mg h (Nat.le_refl _)) (by simp) q1) (zf ?_);exact EW.ret ⟨.inr rfl,w,q2.vV,by kernel_rfl⟩
  ·have he:qH c=[UInt8.ofNat (240+c / 262144),UInt8.ofNat (128+c / 4096 % 64),UInt8.ofNat (128+c / 64 % 64),UInt8.ofNat (128+c % 64)]:=by unfold qH; rw[if_neg h1,if_neg h2]
   rw[he,decide_eq_false h2];refine zG (zr (zk 1 (zp (dt (u:=.int .u32 (c:Int)) (w:=.int .u32 65535) rfl (by kernel_rfl) (by kernel_rfl) (Fe (b:=true) (decide_eq_true (by omega)))) (zk 2 (zp (dt (u:=.int .u32 (c:Int)) (w:=.int .u32 1114111) rfl (by kernel_rfl) (by kernel_rfl) (dY (b:=true) (decide_eq_true (by omega)))) (zf (zH (zr (zg 4 s' (EO.op (v:=.int .u8 ((UInt8.ofNat (240+c / 262144)).toNat:Int)) (s1:=s') (by kernel_rfl) ((show _=some (Value.int .u8 (bits .or .u8 240 (IntKind.u8.wrap (Int.fdiv (c:Int) (2 ^ 18)))),s') by kernel_rfl).trans (by rw[jY,PZ (by omega)])) (zg 4 s' (EO.op (v:=.int .u8 ((UInt8.ofNat (128+c / 4096 % 64)).toNat:Int)) (s1:=s') (by kernel_rfl) ((show _=some (Value.int .u8 (bits .or .u8 128 (bits .and .u8 (IntKind.u8.wrap (Int.fdiv (c:Int) (2 ^ 12))) 63)),s') by kernel_rfl).trans (by rw[jY,OG (n:=c / 4096 % 64) (by omega) (by omega)])) (zg 4 s' (EO.op (v:=.int .u8 ((UInt8.ofNat (128+c / 64 % 64)).toNat:Int)) (s1:=s') (by kernel_rfl) ((show _=some (Value.int .u8 (bits .or .u8 128 (bits .and .u8 (IntKind.u8.wrap (Int.fdiv (c:Int) (2 ^ 6))) 63)),s') by kernel_rfl).trans (by rw[jY,OG (n:=c / 64 % 64) (by omega) (by omega)])) (zg 3 s' (EO.op (v:=.int .u8 ((UInt8.ofNat (128+c % 64)).toNat:Int)) (s1:=s') (by kernel_rfl) ((show _=some (Value.int .u8 (bits .or .u8 128 (bits .and .u8 (IntKind.u8.wrap (c:Int)) 63)),s') by kernel_rfl).trans (by rw[OG (n:=c % 64) (by omega) (by omega)])) ?_))))))))))))))));generalize UInt8.ofNat (240+c / 262144)=U;generalize UInt8.ofNat (128+c / 4096 % 64)=b2;generalize UInt8.ofNat (128+c / 64 % 64)=b3;generalize UInt8.ofNat (128+c % 64)=b4;refine zg 1 (s'.add (.cells (ll [U,b2,b3,b4]) 5)) ?_;obtain⟨w,s3,q1,q2⟩:=IA (m:=[U,b2,b3,b4]) (h.add (.cells (ll [U,b2,b3,b4]) 5)) (by simp) (by simp; omega);refine zp (ri (m:=[U,b2,b3,b4]) (d:=s'.nx) (k:=4) (sl:=sl) rfl (by kernel_rfl) (by kernel_rfl) (by kernel_rfl) (by rw[AS.aH,if_pos rfl]) (mg h (Nat.le_refl _)) (by simp) q1) (zf ?_);exact EW.ret ⟨.inr rfl,w,q2.vV,by kernel_rfl⟩
theorem E2(hc:LD c)(h:sV s sl l)(hl:l.length≤999996)(a0:pr 346=none)(U:pr 275=none):∃s',∃w,Ef pr 275 #[sl,.int .i32 (c:Int)] s w s'∧uU s sl l (qH c) s' w:=by obtain⟨s',w,h1,h2⟩:=CM hc h hl a0;refine⟨s',w,?_,h2⟩;obtain⟨Mp,H3⟩:=hc;refine EF.of U func275 rfl ?_;refine zs (EW.seq (zr (zg 1 s (EO.op (v:=.int .u32 (c:Int)) (s1:=s) (by kernel_rfl) ((show _=some (Value.int .u32 (IntKind.u32.wrap (c:Int)),s) by kernel_rfl).trans (by rw[wD (by omega)])) (zp (dt (u:=.int .u32 (c:Int)) (w:=.int .u32 127) rfl (by kernel_rfl) (by kernel_rfl) (dY (b:=false) (decide_eq_false (by omega)))) (EO.nil (zF (zr (zc 2 h1 (zf ?_))))))))));exact EW.ret ⟨.inr rfl,by kernel_rfl,by kernel_rfl⟩
theorem sL{N b:Nat}{c:Int}(a2:pr 261=none)(a1:pr 180=none)(h:BW s N b l)(a3:∀(s:AS) (sl:Value),sV s sl l→∃s',∃w,Ef pr 275 #[sl,.int .i32 c] s w s'∧uU s sl l en s' w):∃s' v,Ef pr 180 #[am b 0,.int .i32 c] s v s'∧BW s' N b (l++en)∧mK N s s':=by
 obtain⟨hN,hb,p,sl,hs,hp,U⟩:=h;obtain⟨s1,U5,c1,c2,c3⟩:=vq a2 hs hp;have ot:sV s1 sl l:=by
  rcases U with h|⟨d,fz,q1,q2,q3,q4,q5⟩
  ·exact .inl h
  ·exact .inr ⟨d,fz,q1,by omega,(c3 d q4).trans q5⟩
 have a7:∀n k,sl≠.slice (sq b) n k:=by
  rintro n k rfl;rcases U with ⟨h,_⟩|⟨d,fz,q1,q2,q3,q4,q5⟩
  ·cases h
  ·cases q1; exact q4 rfl
 have a5:∀k,k<N→∀n cc,sl≠.slice (sq k) n cc:=by
  rintro k hk n cc rfl;rcases U with ⟨h,_⟩|⟨d,fz,q1,q2,q3,q4,q5⟩
  ·cases h
  ·cases q1; omega
 have a4:∃n cp,sl=.slice (match sl with|.slice a _ _=>a|_=>none) n cp∧n=l.length:=by
  rcases U with ⟨rfl,rfl⟩|⟨d,fz,rfl,_⟩
  ·exact⟨0,0,rfl,rfl⟩
  ·exact⟨_,_,rfl,rfl⟩
 obtain⟨s2,w,a6,g,rfl,g1,g2,g3,g4⟩:=a3 s1 sl ot;have e5:s2.get b=some (.cells #[am b 0,sl] 119):=(g4 b (by omega) a7).trans c2;suffices hh:Ew pr (match Tryz.f180.body with|some c=>c|none=>.skip) ((#[am b 0,.int .i32 c]:Aq).toList++List.replicate (Tryz.f180.ntmps-(#[am b 0,.int .i32 c]:Aq).toList.length) undef) s (fun e a' s1=>(e=.normal∨e=.ret)∧s1=s2.set b (some (.cells #[am b 0,.slice (sq g) (l++en).length (l++en).length] 119))∧∃w,dA prog Tryz.f180 a' s1=some w) by
  obtain⟨m,e,a',s3,h1,he,h2,w,h3⟩:=hh;refine⟨s3,w,EF.of a1 func180 rfl ⟨m,e,a',s3,h1,he,h3,rfl⟩,?_,?_⟩
  ·rw[h2];refine⟨hN,by simp; omega,_,_,by rw[AS.aK,if_pos rfl],.inr rfl,.inr ⟨g,(1,1),rfl,by omega,by simpa using g2,by omega,by rw[AS.aK,if_neg (by omega)]; exact g3⟩⟩
  ·rw[h2];exact⟨by simp; omega,fun k hk=>by rw[AS.aK,if_neg (by omega),g4 k (by omega) (a5 k hk),c3 k (by omega)]⟩
 refine zs (zr (zc 1 U5 (EO.nil ?_)));obtain⟨n,cp,a0,rfl⟩:=a4;generalize hq:(match sl with|.slice a _ _=>a|_=>none)=q at a0;clear hq;subst a0;refine zr (zg 3 s1 (zp (bO (b:=b) (off:=1) (v:=.slice q l.length cp) rfl underlying55 rfl (by kernel_rfl) c2 rfl) (zf (za s1 (zr (zg 4 s1 (zp (bO (b:=b) (off:=1) (v:=.slice q l.length cp) rfl underlying55 rfl (by kernel_rfl) c2 rfl) (zc 1 a6 (zg 2 s2 ?_)))))))));generalize (l++en).length=L;refine zp (ir (b:=b) (off:=1) (w:=.slice (sq g) L L) rfl (by kernel_rfl) (by kernel_rfl) rfl rfl (by kernel_rfl) e5 (by simp)) (EO.nil (za (s2.set b (some (.cells #[am b 0,.slice (sq g) L L] 119))) ?_));have e6:(s2.set b (some (.cells #[am b 0,.slice (sq g) L L] 119))).get b=some (.cells #[am b 0,.slice (sq g) L L] 119):=by rw[AS.aK,if_pos rfl]
 generalize s2.set b (some (.cells #[am b 0,.slice (sq g) L L] 119))=s4 at e6;refine zr (zg 3 s4 (zp (bO (b:=b) (off:=1) (v:=.slice (sq g) L L) rfl underlying55 rfl (by kernel_rfl) e6 rfl) (zf ?_)));exact EW.ret ⟨.inr rfl,by kernel_rfl,.tuple #[.int .i64 (jG .i64 ((L:Int)-(l.length:Int))),.nilIface],by kernel_rfl⟩
end
section
variable {ι:Type}{P:Program}{KT:TypeId→Prop}{An:bC}{N0:ι→Nat}{M:ι→World→Nat→Prop}{O:ι→Nat→Prop}{R:ι→Wq}{D:ι→World→World→Array Event→Prop}{X:ι→Gq}{Hd:ι→Hq→World→Prop}{kt:TypeId→Bool}{pr:Prim}
def WI (P:Program)(KT:TypeId→Prop)(An:bC)(X:ι→Goroutine→World→Prop)(Hd:ι→List (Nat × Obj)→World→Prop)(c:Code)(aA:TL)(s:AS)(Q:Exit→TL→AS→Prop):Prop :=
 ∀(fn:FuncId) (S:bC) (l fr:List (Nat × Obj)) (i:ι) (w:World) (a:Act) (Q':dK ι),eK P KT An S s l→Hd i (l++fr) w→AR (VR S) aA.toArray a.tmps→a.defers=[]→(∀b,s.nx≤b→S b=none) →
  (∀e iF s' i' S' l' w' a',Q e iF s'→eK P KT An S' s' l'→Hd i' (l'++fr) w'→AR (VR S') iF.toArray a'.tmps→a'.defers=[]→(∀b,s'.nx≤b→S' b=none)→Q' i' e a' w')→fx X fn c i Q' a w
def WO (P:Program)(KT:TypeId→Prop)(An:bC)(X:ι→Goroutine→World→Prop)(Hd:ι→List (Nat × Obj)→World→Prop)(ops:Array Oper)(k:Nat)(aA:TL)(s:AS)(Q:TL→AS→Prop):Prop :=
 ∀(fn:FuncId) (S:bC) (l fr:List (Nat × Obj)) (i:ι) (w:World) (a:Act) (Q':dK ι),eK P KT An S s l→Hd i (l++fr) w→AR (VR S) aA.toArray a.tmps→a.defers=[]→(∀b,s.nx≤b→S b=none) →
  (∀iF s' i' S' l' w' a',Q iF s'→eK P KT An S' s' l'→Hd i' (l'++fr) w'→AR (VR S') iF.toArray a'.tmps→a'.defers=[]→(∀b,s'.nx≤b→S' b=none)→Q' i' .normal a' w')→bU X fn ops (List.range' k (ops.size-k)) i Q' a w
variable {aA:TL}{s s1:AS}{Q:Exit→TL→AS→Prop}{K:TL→AS→Prop}{c x y:Code}{ops:Array Oper}{o:Oper}{v:Value}
theorem WI.of(Y : Cy P KT N0 M O R D X Hd)(hm : P.follows .mixedOrders = true)(Ao : ∀ t, kt t = false → ¬ KT t)(hp : ck P KT An R D X Hd pr)(mU : ∀ (f : FuncId) (aJ : Func), P.funcs[f]? = some aJ → (aJ.name == "runtime.NumGoroutine") = false)(h : EW P kt pr c aA s Q) : WI P KT An X Hd c aA s Q := by obtain⟨n, e, iF, s', h1, h2⟩:=h;intro fn S l fr i w a Q' hS hF hA hd np k;have Ow:=(xQ (P:=P) (kt:=kt) hp.nx n).1 _ _ _ _ _ _ h1;refine((gH Y hm Ao hp mU n).1 c fn aA iF s s' e S l fr i w a Q' h1 hS hF hA hd (fun b hb _=>np b hb) ?_).1;intro i' S' l' w' a' q1 q2 q3 q4 q5 q6;exact k e iF s' i' S' l' w' a' h2 q3 q4 q5 q6 fun b hb=>by rw[q2 b (.inr hb)]; exact np b (by omega)
def Sl(P:Program)(KT:TypeId→Prop)(An:bC)(X:ι→Goroutine→World→Prop)(Hd:ι→List (Nat × Obj)→World→Prop)(y:Code)(Q:Exit→TL→AS→Prop):Exit→TL→AS→Prop:=fun e a s=>match e with
 | .normal=>WI P KT An X Hd y a s Q
 | e=>Q e a s
theorem WI.seq(Y:Cy P KT N0 M O R D X Hd)(h:WI P KT An X Hd x aA s (Sl P KT An X Hd y Q)):WI P KT An X Hd (.seq x y) aA s Q:=by
 intro fn S l fr i w a Q' hS hF hA hd U k;refine bS Y.C Y.T (h fn S l fr i w a _ hS hF hA hd U ?_);intro e iF s' i' S' l' w' a' q q3 q4 q5 q6 q7;cases e with
 | normal=>exact q fn S' l' fr i' w' a' Q' q3 q4 q5 q6 q7 k
 | _=>exact k _ iF s' i' S' l' w' a' q q3 q4 q5 q6 q7
theorem WI.region(Y:Cy P KT N0 M O R D X Hd)(h:WO P KT An X Hd ops 0 aA s (fun U s'=>Q .normal U s')):WI P KT An X Hd (.region id ops false) aA s Q:=by intro fn S l fr i w a Q' hS hF hA hd np k;refine aP Y.C Y.T ?_;rw[List.range_eq_range'];exact h fn S l fr i w a Q' hS hF hA hd np fun iF s' i' S' l' w' U q=>k .normal iF s' i' S' l' w' U q
theorem A5(h:k<n):List.range' k (n-k)=k::List.range' (k+1) (n-(k+1)):=by obtain⟨m,U⟩:∃m,n-k=m+1:=⟨n-k-1,by omega⟩;rw[U,List.range'_succ,show n-(k+1)=m by omega]
theorem WO.YV(Y:Cy P KT N0 M O R D X Hd)(U:∀t,kt t=false→¬KT t)(ho:ops[k]?=some o)(hO:∀(S:bC) (a:Act),An.le S→AR (VR S) aA.toArray a.tmps→eg S aA a o)(hw:Region.wanted o (bB ops aA)=true)(h:bK P kt (fun _ _ _=>none) aA o s=some (v,s1))(kk:WO P KT An X Hd ops (k+1) (aA.put o.dst v) s1 K):WO P KT An X Hd ops k aA s K:=by intro fn S l fr i w a Q' hS hF hA hd np kx;have Ow:=qW (P:=P) (kt:=kt) (call:=fun _ _ _=>none) (fun f args s v s' h=>by cases h) h;rw[A5 (Array.getElem?_eq_some_iff.1 ho).1];refine lV Y U (call:=fun _ _ _=>none) (fun f args s v s' h=>by cases h) ho (by rw[kV hA]; exact hw) (hO S a hS.an hA) hS hF h (fun b hb _=>np b hb) ?_;intro i1 S1 l1 w1 v1 Og my F0 PH V7;refine kk fn S1 l1 fr i1 w1 (a.put o.dst v1) Q' F0 PH (rk (hA.mono Og) V7 _) ?_ (fun b hb=>by rw[my b (.inr hb)]; exact np b (by omega)) kx;cases P4:o.dst<;>exact hd
theorem WO.nil(Y:Cy P KT N0 M O R D X Hd)(hk:ops.size=k)(h:K aA s):WO P KT An X Hd ops k aA s K:=by intro fn S l fr i w a Q' hS hF hA hd U kx;rw[hk,Nat.sub_self,List.range'_zero];exact aS Y.C Y.T (kx aA s i S l w a h hS hF hA hd U)
theorem pm.of(Y : Cy P KT N0 M O R D X Hd)(mU : ∀ (f : FuncId) (aJ : Func), P.funcs[f]? = some aJ → (aJ.name == "runtime.NumGoroutine") = false){aJ : Func}{args : Array Value}(hf : P.funcs[f]? = some aJ)(hb : aJ.body = some c)(h : WI P KT An X Hd c (args.toList ++ List.replicate (aJ.ntmps - args.toList.length) undef) s (fun e a' s1 => (e = .normal ∨ e = .ret) ∧ dA P aJ a' s1 = some v ∧ s1 = s')) : pm P KT An R D X Hd f args s v s' := by
 intro S l fr i w args' hS hF hA np;refine⟨aJ,c,hf,mU f aJ hf,hb,?_⟩;refine h f S l fr i w _ _ hS hF ?_ rfl np ?_
 ·have:args.toList.length=args'.size:=by rw[← hA.1]; simp
  have h2:=hA.append (AR.replicate (S:=S) (x:=undef) (v:=undef) (aJ.ntmps-args'.size) VR.undef);have he:(args.toList++List.replicate (aJ.ntmps-args.toList.length) undef).toArray=args++Array.replicate (aJ.ntmps-args'.size) undef:=by apply Array.toList_inj.1;rw[this];simp
  rw[he];exact h2
 ·rintro e a1 s1 i' S' l' w' a' ⟨hex,hr,rfl⟩ h3 h4 h5 h6 _;refine⟨hex,h6,fun aB VN=>?_⟩;have FZ:=(Y.Z h4).rely h4 VN;obtain⟨v',hv,pM⟩:=uG Y h3 FZ h5 hr;refine⟨v',pM.1,?_,S',l',h3,FZ,hv⟩;exact(Y.Z FZ).env.jr ((Y.Z FZ).size FZ) (Own.refl _) fun ev ju=>pM.2 ev (mem_seen ju)
end
section
variable {n:Nat}{s:AS}{pr:Prim}
theorem om(hp:pr 178=none)(h:(decide (p.length≤l.length)&&cJ (l.take p.length) p)=b):Ef pr 178 #[str l,str p] s (.bool b) s:=by
 refine EF.of hp func178 rfl ?_;refine EW.seq (EW.go 5 (by kernel_rfl) (EW.seq (EW.region (by kernel_rfl) (EO.go 1 5 (by kernel_rfl) (EO.op (by kernel_rfl) (dl (l:=l) rfl underlying9 (by kernel_rfl)) (EO.go 1 5 (by kernel_rfl) (EO.op (by kernel_rfl) (dl (l:=p) rfl underlying9 (by kernel_rfl)) ?_)))))));by_cases U:p.length≤l.length
 ·refine EO.op (by kernel_rfl) (dt (u:=num l.length) (w:=num p.length) rfl (by kernel_rfl) (by kernel_rfl) (iI (b:=true) (decide_eq_true (by omega)))) (EO.go 3 5 (by kernel_rfl) (EO.op (by kernel_rfl) (dl (l:=p) rfl underlying9 (by kernel_rfl)) (EO.op (by kernel_rfl) (kK (l:=l) (i:=0) (j:=p.length) rfl underlying9 (by kernel_rfl) ((show _=bF l.length l.length none (some (num p.length)) by kernel_rfl).trans (rD (by omega) (by omega))) rfl) (EO.fin 5 (by kernel_rfl) (EW.ret ⟨.inr rfl,?_,by kernel_rfl⟩)))));rw[decide_eq_true U,Bool.true_and] at h;rw[← h];kernel_rfl
 ·refine EO.op (by kernel_rfl) (dt (u:=num l.length) (w:=num p.length) rfl (by kernel_rfl) (by kernel_rfl) (iI (b:=false) (decide_eq_false (by omega)))) (EO.fin 5 (by kernel_rfl) (EW.ret ⟨.inr rfl,?_,by kernel_rfl⟩));rw[decide_eq_false U,Bool.false_and] at h;rw[← h];kernel_rfl
theorem xZ(hp:pr 178=none)(U:pr 89=none)(h:(decide (p.length≤l.length)&&cJ (l.take p.length) p)=b):Ef pr 89 #[str l,str p] s (.bool b) s:=by refine EF.of U func89 rfl ?_;refine EW.seq (EW.go 5 (by kernel_rfl) (EW.seq (EW.region (by kernel_rfl) (EO.go 2 5 (by kernel_rfl) (EO.fR #[str l,str p] (by kernel_rfl) rfl rfl (by kernel_rfl) (by kernel_rfl) (om hp h) (EO.fin 5 (by kernel_rfl) ?_))))));exact EW.ret ⟨.inr rfl,by kernel_rfl,by kernel_rfl⟩
theorem CZ(U:pr 178=none)(a0:pr 340=none){x:Bq}(h:(b=false∧(decide (p.length≤l.length)&&cJ (l.take p.length) p)=false∧x=l)∨(b=true∧l=p++x)):Ef pr 340 #[str l,str p] s (.tuple #[str x,.bool b]) s:=by
 refine EF.of a0 func340 rfl ?_;refine EW.seq (EW.go 5 (by kernel_rfl) (EW.seq (EW.seq (EW.region (by kernel_rfl) (EO.go 2 5 (by kernel_rfl) ?_)))));rcases h with ⟨rfl,h,rfl⟩|⟨rfl,rfl⟩
 ·refine EO.fR #[str x,str p] (by kernel_rfl) rfl rfl (by kernel_rfl) (by kernel_rfl) (om U h) (EO.fin 5 (by kernel_rfl) (EW.zh 5 .ret (by kernel_rfl) ?_));exact⟨.inr rfl,by kernel_rfl,by kernel_rfl⟩
 ·refine EO.fR #[str (p++x),str p] (by kernel_rfl) rfl rfl (by kernel_rfl) (by kernel_rfl) (om (b:=true) U (by simp[(ga p p).2 rfl])) (EO.fin 5 (by kernel_rfl) (EW.go 5 (by kernel_rfl) (EW.seq (EW.region (by kernel_rfl) (EO.go 2 5 (by kernel_rfl) (EO.op (by kernel_rfl) (dl (l:=p) rfl underlying9 (by kernel_rfl)) (EO.op (by kernel_rfl) (kK (l:=p++x) (i:=p.length) (j:=(p++x).length) rfl underlying9 (by kernel_rfl) ((show _=bF (p++x).length (p++x).length (some (num p.length)) none by kernel_rfl).trans (lB (by omega) (by simp; omega))) (by rw[List.take_length,List.drop_left])) (EO.fin 5 (by kernel_rfl) ?_))))))));exact EW.ret ⟨.inr rfl,by kernel_rfl,by kernel_rfl⟩
theorem xe(U:pr 178=none)(a1:pr 340=none)(a0:pr 269=none){x:Bq}(h:(b=false∧(decide (p.length≤l.length)&&cJ (l.take p.length) p)=false∧x=l)∨(b=true∧l=p++x)):Ef pr 269 #[str l,str p] s (.tuple #[str x,.bool b]) s:=by refine EF.of a0 func269 rfl ?_;refine EW.seq (EW.go 5 (by kernel_rfl) (EW.seq (EW.region (by kernel_rfl) (EO.go 2 5 (by kernel_rfl) (EO.fR #[str l,str p] (by kernel_rfl) rfl rfl (by kernel_rfl) (by kernel_rfl) (CZ U a1 h) (EO.fin 5 (by kernel_rfl) ?_))))));exact EW.ret ⟨.inr rfl,by kernel_rfl,by kernel_rfl⟩
end
def sZ:List UInt8→List UInt8→Option (List UInt8)
 | [],l=>some l
 | _::_,[]=>none
 | a::p,b::l=>if b.toNat.beq a.toNat then sZ p l else none
theorem pD:∀{p l r:Bq},sZ p l=some r→l=p++r
 | [],l,r,h=>by cases h; rfl
 | _::_,[],r,h=>by cases h
 | a::p,b::l,r,h=>by
  unfold sZ at h;split at h
  ·next e=>rw[pD h,UInt8.toNat_inj.1 (Nat.eq_of_beq_eq_true e)]; rfl
  ·cases h
theorem pC:∀{p l:Bq},sZ p l=none→(decide (p.length≤l.length)&&cJ (l.take p.length) p)=false
 | [],l,h=>by cases h
 | _::_,[],h=>by simp
 | a::p,b::l,h=>by
  unfold sZ at h;have e1:decide ((a::p).length≤(b::l).length)=decide (p.length≤l.length):=by simp
  have e2:(b::l).take (a::p).length=b::l.take p.length:=rfl;rw[e1,e2];unfold cJ;split at h
  ·next e=>rw[if_pos e]; exact pC h
  ·next e=>rw[if_neg e,Bool.and_false]
def Sm (args:Array Value):Option Value:=match args.toList with
 | [.string x,.string p]=>some (match sZ p.data.toList x.data.toList with
  | some r=>.tuple #[str r,.bool true]
  | none=>.tuple #[.string x,.bool false])
 | _=>none
def Sn (args:Array Value):Option Value:=match args.toList with
 | [.string x,.string p]=>some (.bool (sZ p.data.toList x.data.toList).isSome)
 | _=>none
def RB:Prim:=lY 178 Sn (lY 269 Sm bL)
theorem Mk:(decide (p.length≤l.length)&&cJ (l.take p.length) p)=(sZ p l).isSome:=by
 cases h:sZ p l with
 | none=>exact pC h
 | some r=>rw[pD h]; simp[(ga p p).2 rfl]
section
variable {ι:Type}{An:bC}{N0:ι→Nat}{M:ι→World→Nat→Prop}{O:ι→Nat→Prop}{R:ι→Wq}{D:ι→World→World→Array Event→Prop}{X:ι→Gq}{Hd:ι→Hq→World→Prop}
theorem GM(Y:Cy prog eS N0 M O R D X Hd)(U:∀b,2≤b→An b=none):ck prog eS An R D X Hd RB:=by
 refine ck.add Y (by kernel_rfl) dq cI (m:=2) U (ck.add Y (by kernel_rfl) dq cI (m:=2) U (pZ Y) fun args v h=>?_) fun args v h=>?_
 ·unfold Sm at h;split at h
  ·next x p ha =>
   rw[qu ha];cases hc:sZ p.data.toList x.data.toList with
   | none=>simp only[hc] at h; cases h; exact⟨rfl,rfl,_,xe (l:=x.data.toList) (p:=p.data.toList) rfl rfl rfl (.inl ⟨rfl,pC hc,rfl⟩)⟩
   | some r=>simp only[hc] at h; cases h; exact⟨rfl,rfl,_,xe (l:=x.data.toList) (p:=p.data.toList) rfl rfl rfl (.inr ⟨rfl,pD hc⟩)⟩
  ·cases h
 ·unfold Sn at h;split at h
  ·next x p ha =>cases h;rw[qu ha];exact⟨rfl,rfl,_,om rfl Mk⟩
  ·cases h
def s9:AS:=⟨[[none,some (.cells cY.toArray 335)]],2⟩
def sN (n:Nat):AS:=(Pt.take n).foldl (fun s e=>s.add (.cells (Pu e).toArray 334)) s9
def YS:Int→Nat
 | 38=>1
 | 60=>2
 | 62=>3
 | _=>4
theorem LR(Y:Cy prog eS N0 M O R D X Hd)(a0:∀b,2≤b→An b=none)(h1:An 1=some (1,z,e)){t:Bq}{c m:Int}(ht:Rh t=some (c,m))(k:Int):(sN (YS c)).get 1=some (.cells cY.toArray 335)∧pm prog eS An R D X Hd 333 #[str t,num k] s9 (.tuple #[.int .i32 c,num m]) (sN (YS c)):=by
 have hp:=GM (An:=An) Y a0;unfold Rh at ht;split at ht;iterate 4
  ·cases ht;refine⟨by kernel_rfl,?_⟩
   ·refine pm.of Y cI func333 rfl ?_;iterate 2 refine WI.seq Y (WI.of Y (by kernel_rfl) dq hp cI (EW.go 5 (by kernel_rfl) ?_))
    refine WI.seq Y (WI.seq Y (WI.region Y ?_));refine WO.YV Y dq (v:=.agg cY.toArray) (s1:=s9) rfl (fun S a hS hA x U=>?_) (by kernel_rfl) (by kernel_rfl) ?_
    ·simp[Op.operands] at U;subst U;exact VR.gl (hS _ _ h1)
    refine WO.YV Y dq (v:=num 0) (s1:=s9) rfl (fun S a hS hA x U=>?_) (by kernel_rfl) (by kernel_rfl) ?_
    ·simp[Op.operands] at U;subst U;exact VR.dr rfl
    refine WO.nil Y rfl ?_;refine WI.of Y (by kernel_rfl) dq hp cI (EW.zh 60 .ret (by kernel_rfl) ?_);exact⟨.inr rfl,by kernel_rfl,by kernel_rfl⟩
 ·cases ht
theorem Sound.Bu{KT:TypeId→Prop}{U:bC}(a1:U.le An)(h:Sound P KT U R D X Hd f args s v s'):Sound P KT An R D X Hd f args s v s':=by intro S l fr i w args' hS hF hA a0;refine(h S l fr i w args' ⟨hS.live,hS.inj,hS.lt,bC.le_trans a1 hS.an⟩ hF hA a0).mono ?_;rintro i' v' w' ⟨S',l',q1,q2,q3,q4,q5⟩;exact⟨S',l',q1,q2,⟨q3.live,q3.inj,q3.lt,bC.le_trans hS.an q1⟩,q4,q5⟩
theorem NE(b:Nat):s9.get b=if b=1 then some (.cells cY.toArray 335) else none:=by
 match b with
 | 0=>rfl
 | 1=>rfl
 | b+2 =>
  rw[if_neg (by omega)];unfold AS.get s9;match h:(b+2) / 16 with
  | 0 =>
   have e:(b+2) % 16=b % 16+2:=by omega
   rw[e];rfl
  | m+1=>rfl
theorem zL(Y:Cy prog eS N0 M O R D X Hd)(h1:An 1=some (1,z,e)){x:ByteArray}{c m:Int}(ht:Rh x.data.toList=some (c,m))(k:Int)(hs:s.get 1=some (.cells cY.toArray 335)):Sound prog eS An R D X Hd 333 #[.string x,.int .i64 k] s (.tuple #[.int .i32 c,.int .i64 m]) s:=by
 obtain⟨A,a4,U,a0⟩:∃A:bC,(∀b,2≤b→A b=none)∧A 1=some (1,z,e)∧A.le An:=⟨fun b=>if b=1 then An b else none,fun b hb=>if_neg (by omega),by simpa using h1,fun b y hy=>by
  by_cases hb:b=1
  ·simpa[hb] using hy
  ·simp[hb] at hy⟩;obtain⟨g1,g2⟩:=LR Y a4 U ht k;exact Sound.Bu a0 (Sound.EY (k:=2) (m:=2) Y U a4 (by kernel_rfl) NE rfl g1 hs rfl rfl g2)
end
def sj (rn:Nat)(L:List Int):Prim:=fun f=>if f.beq 92 then none else cR rn L f
theorem J3(rn:Nat)(all:Iq):∀f g args s v s',sj rn all f=some g→g args s=some (v,s')→s.nx≤s'.nx:=by
 intro f g args s v s' U h;unfold sj at U;split at U
 ·cases U
 ·exact oH rn all f g args s v s' U h
section
variable {ι:Type}{P:Program}{KT:TypeId→Prop}{An:bC}{N0:ι→Nat}{M:ι→World→Nat→Prop}{O:ι→Nat→Prop}{R:ι→Wq}{D:ι→World→World→Array Event→Prop}{X:ι→Gq}{Hd:ι→Hq→World→Prop}{f:FuncId}{args:Aq}{s:AS}{v:Value}
theorem Sound.LK(Y:Cy P KT N0 M O R D X Hd){m:Nat}(a0:∀b,k≤b→An b=none)(ha:∀(S:bC) args',An.le S→AR (VR S) args args'→AR (VR An) args args')(hv:fC m v=true)(h:Sound P KT An R D X Hd f args ⟨[],k⟩ v s1):Sound P KT An R D X Hd f args s v s:=by
 intro S l fr i w args' hS hF hA a1;have yg:∀b o,(⟨[],k⟩:AS).get b=some o→False:=fun b o U=>by unfold AS.get at U; simp at U
 refine(h An [] (l++fr) i w args' ⟨fun b o U=>(yg b o U).elim,fun b b' o o' x x' U=>(yg b o U).elim,fun b o U=>(yg b o U).elim,bC.le_refl An⟩ hF (ha S args' hS.an hA) fun b U _=>a0 b U).mono ?_;rintro i' v' w' ⟨S',l',q1,q2,q3,q4,q5⟩;refine⟨S,l,bC.le_refl S,fun _ _=>rfl,hS,lK Y (l:=l') q4,?_⟩;rw[VR.flat hv q5];exact VR.of_flat hv
end
def zU (c:Nat):List UInt8:=if c<128 then [UInt8.ofNat c] else qH c
theorem FF(c:Nat):1≤(zU c).length∧(zU c).length≤4:=by
 unfold zU qH;split
 ·simp
 ·split
  ·simp
  ·split<;>simp
theorem xW{r:Int}(h:Good r):∃c:Nat,r=(c:Int)∧(c<128∨LD c)∧Lib.encodeRune r=zU c:=by
 have U:0≤r:=by rcases h with h|h<;>omega
 obtain⟨c,rfl⟩:=Int.eq_ofNat_of_zero_le U;have hc:c<55296∨(57343<c∧c≤1114111):=by rcases h with h|h<;>omega
 refine⟨c,rfl,?_,?_⟩
 ·by_cases h1:c<128
  ·exact .inl h1
  ·exact .inr ⟨by omega,hc⟩
 ·have key:∀n:Nat,((n:Int)).toNat=n:=fun n=>Int.toNat_natCast n;unfold zU qH Lib.encodeRune;split
  ·next h1=>rw[Lib.encodeRuneZ_one (by omega) (by omega)]; simp
  ·next h1 =>
   split
   ·next h2 =>rw[Lib.encodeRuneZ_two (by omega) (by omega)];simp only[List.map_cons,List.map_nil];rw[show(192+(c:Int) / 64).toNat=192+c / 64 by omega,show(128+(c:Int) % 64).toNat=128+c % 64 by omega]
   ·next h2 =>
    split
    ·next h3 =>rw[Lib.encodeRuneZ_three (by omega)];simp only[List.map_cons,List.map_nil];rw[show(224+(c:Int) / 4096).toNat=224+c / 4096 by omega,show(128+(c:Int) / 64 % 64).toNat=128+c / 64 % 64 by omega,show(128+(c:Int) % 64).toNat=128+c % 64 by omega]
    ·next h3 =>rw[Lib.encodeRuneZ_four (by omega) (by omega)];simp only[List.map_cons,List.map_nil];rw[show(240+(c:Int) / 262144).toNat=240+c / 262144 by omega,show(128+(c:Int) / 4096 % 64).toNat=128+c / 4096 % 64 by omega,show(128+(c:Int) / 64 % 64).toNat=128+c / 64 % 64 by omega,show(128+(c:Int) % 64).toNat=128+c % 64 by omega]
section
variable {pr:Prim}{s:AS}
theorem tJ(hc:c<128)(h:sV s sl l)(hl:l.length≤999996)(U:pr 275=none):∃s',∃w,Ef pr 275 #[sl,.int .i32 (c:Int)] s w s'∧uU s sl l [UInt8.ofNat c] s' w:=by
 have hb:IntKind.u8.wrap (c:Int)=((UInt8.ofNat c).toNat:Int):=by rw[IntKind.wrap_u8,OH (by omega)]; omega
 generalize UInt8.ofNat c=b at hb;obtain⟨w,s3,q1,q2⟩:=IA (m:=[b]) (h.add (.cells (ll [b]) 5)) (by simp) (by simp; omega);refine⟨s3,w,?_,q2.vV⟩;refine EF.of U func275 rfl ?_;refine EW.seq (EW.go 5 (by kernel_rfl) (EW.seq (EW.seq (EW.region (by kernel_rfl) (EO.go 1 5 (by kernel_rfl) (EO.gm s (by kernel_rfl) (EO.op (v:=.int .u32 (c:Int)) (s1:=s) (by kernel_rfl) ((show _=some (Value.int .u32 (IntKind.u32.wrap (c:Int)),s) by kernel_rfl).trans (by rw[wD (by omega)])) (EO.op (by kernel_rfl) (dt (u:=.int .u32 (c:Int)) (w:=.int .u32 127) rfl (by kernel_rfl) (by kernel_rfl) (dY (b:=true) (decide_eq_true (by omega)))) (EO.nil (EW.qg (by kernel_rfl) (EW.seq (EW.region (by kernel_rfl) (EO.go 2 5 (by kernel_rfl) (EO.gm s (by kernel_rfl) (EO.op (v:=.int .u8 (b.toNat:Int)) (s1:=s) (by kernel_rfl) ((show _=some (Value.int .u8 (IntKind.u8.wrap (c:Int)),s) by kernel_rfl).trans (by rw[hb])) (EO.go 1 5 (by kernel_rfl) (EO.gm (s.add (.cells (ll [b]) 5)) (by kernel_rfl) (EO.op (by kernel_rfl) (ri (m:=[b]) (d:=s.nx) (k:=1) (sl:=sl) rfl (by kernel_rfl) (by kernel_rfl) (by kernel_rfl) (by rw[AS.aH,if_pos rfl]) (mg h (Nat.le_refl _)) (by simp) q1) (EO.fin 5 (by kernel_rfl) ?_)))))))))))))))))));exact EW.ret ⟨.inr rfl,by kernel_rfl,by kernel_rfl⟩
theorem uM{b:Nat}{p:Value}(U:pr 84=none)(hs:s.get b=some (.cells #[p,.slice none 0 0] 119)):Ef pr 84 #[am b 0] s (str []) s:=by
 refine EF.of U func84 rfl ?_;refine EW.seq (EW.go 5 (by kernel_rfl) (EW.seq (EW.draw (by kernel_rfl) (by kernel_rfl) (by kernel_rfl) ?_)));iterate 3 refine ET.q (by kernel_rfl) (by kernel_rfl) ?_
 refine ET.gm s (by kernel_rfl) (ET.op (by kernel_rfl) (bO (b:=b) (off:=1) (v:=.slice none 0 0) rfl underlying55 rfl (by kernel_rfl) hs rfl) ?_);iterate 4 refine ET.q (by kernel_rfl) (by kernel_rfl) ?_
 refine ET.gm s (by kernel_rfl) (ET.op (by kernel_rfl) (bO (b:=b) (off:=1) (v:=.slice none 0 0) rfl underlying55 rfl (by kernel_rfl) hs rfl) ?_);iterate 3 refine ET.q (by kernel_rfl) (by kernel_rfl) ?_
 have a0:aE prog 55 (am b 1) s=some (.slice none 0 0):=by unfold aE;simp only[am,hs,underlying55];rfl
 refine ET.nil ⟨aM [(aE prog 55 (am b 1) s,.slice none 0 0),(aE prog 55 (am b 1) s,.slice none 0 0)] (by kernel_rfl) (by simp[aU,a0]),_,_,_,_,_,_,rfl,rfl,?_⟩;exact EW.ret ⟨.inr rfl,by kernel_rfl,by kernel_rfl⟩
end
section
variable {rn:Nat}{all:Iq}{s:AS}
def NR (rn i j b p:Nat)(x:Nat→Value):TL:=[am rn 0,num (i:Nat),num (j:Nat),x 3,x 4,x 5,str [],am b 0,num (p:Nat)]++kl x 9 17
theorem LG:(k<all.length∧∃r,all[k]?=some r∧all[k]?.getD (-1)=r)∨(all.length≤k∧all[k]?.getD (-1) = -1):=by
 by_cases h:k<all.length
 ·exact .inl ⟨h,all[k],List.getElem?_eq_getElem h,by rw[List.getElem?_eq_getElem h]; rfl⟩
 ·exact .inr ⟨by omega,by rw[List.getElem?_eq_none (by omega)]; rfl⟩
theorem LM (k:Nat):EF prog mB (sj rn all) 146 #[am rn 0,num (k:Nat)] s (.int .i32 (all[k]?.getD (-1))) s:=by
 refine EF.qN (g:=fun args s=>match args.toList with
  | [.pointer (some ⟨b,0,none⟩),.int .i64 k]=>if b=rn∧0≤k then some (.int .i32 (all[k.toNat]?.getD (-1)),s) else none
  | _=>none) rfl ?_
 simp only [am]
 rw [if_pos ⟨trivial,by omega⟩]
 simp
theorem uR(l:Iq)(r:Int):bw (l++[r])=bw l++Lib.encodeRune r:=by simp[bw]
theorem yX(l:Iq):(bw l).length≤4*l.length:=by
 induction l with
 | nil=>simp[bw]
 | cons r l U =>
  have h:(Lib.encodeRune r).length≤4:=by unfold Lib.encodeRune; rw[List.length_map]; exact(Lib.encodeRuneZ_length r).2
  simp only[bw,List.flatMap_cons,List.length_append,List.length_cons] at U ⊢;omega
theorem D6(hg:∀r∈all,Good r)(hn:4*all.length≤1000000)(i j:Nat)(hj:j≤1000000):∃s1,Ef (sj rn all) 92 #[am rn 0,num (i:Nat),num (j:Nat)] s (str (bw ((all.drop i).take (j-i)))) s1:=by
 suffices hh:∃s1,Ef (sj rn all) 92 #[am rn 0,num (i:Nat),num (j:Nat)] s (str (bw ((all.drop i).take (j-i)))) s1∧True by obtain⟨s1,h,_⟩:=hh;exact⟨s1,h⟩
 have hz:BW (s.add (.cells #[.pointer none,.slice none 0 0] 119)) s.nx s.nx []:=⟨Nat.le_refl _,by simp,.pointer none,.slice none 0 0,by rw[AS.aH,if_pos rfl],.inl rfl,.inl ⟨rfl,rfl⟩⟩;refine EF.gu (by kernel_rfl) func92 rfl ?_;iterate 2 refine EW.seq (EW.go 5 (by kernel_rfl) ?_)
 refine EW.seq (EW.seq (EW.go 5 (by kernel_rfl) (EW.gm (s.add (.cells #[.pointer none,.slice none 0 0] 119)) (by kernel_rfl) ?_)));refine EW.fill (NR rn i j s.nx i) (by kernel_rfl) ?_;intro x0;refine EW.block ?_;refine EW.mono (EW.eD (Q:=fun e a' s'=>e=.exit 0∧∃d,((d=0∧s'=s.add (.cells #[.pointer none,.slice none 0 0] 119))∨(d≠0∧BW s' s.nx s.nx (bw ((all.drop i).take d))))∧(d=0∨i+d≤all.length)∧(all.drop i).take d=(all.drop i).take (j-i)∧∃x,a'=NR rn i j s.nx (i+d) x) (fun m a' s'=>∃d,m+d=j-i∧((d=0∧s'=s.add (.cells #[.pointer none,.slice none 0 0] 119))∨(d≠0∧BW s' s.nx s.nx (bw ((all.drop i).take d))))∧(d=0∨i+d≤all.length)∧∃x,a'=NR rn i j s.nx (i+d) x) ?_ (j-i) _ _ ⟨0,by omega,.inl ⟨rfl,rfl⟩,.inl rfl,x0,rfl⟩) ?_
 ·rintro m a' s' ⟨d,hm,U,a2,x,rfl⟩;have gC:=LM (rn:=rn) (all:=all) (s:=s') (i+d);refine EW.seq (EW.seq (EW.region (by kernel_rfl) (EO.go 2 5 (by kernel_rfl) ?_)));by_cases eH:i+d<j
  ·refine EO.op (by kernel_rfl) (dt (u:=num ((i+d:Nat):Int)) (w:=num (j:Nat)) rfl (by kernel_rfl) (by kernel_rfl) (bD (b:=true) (decide_eq_true (by omega)))) (EO.go 3 5 (by kernel_rfl) (EO.gm s' (by kernel_rfl) (EO.fR #[am rn 0,num ((i+d:Nat):Int)] (by kernel_rfl) rfl rfl (by kernel_rfl) (by kernel_rfl) gC ?_)));rcases LG (all:=all) (k:=i+d) with ⟨hk,r,hr,VO⟩|⟨hk,VO⟩
   ·rw[VO] at gC ⊢;have a7:=hg r (List.mem_of_getElem? hr);obtain⟨c,rfl,hc,a0⟩:=xW a7;have hBW:BW s' s.nx s.nx (bw ((all.drop i).take d)):=by
     rcases U with ⟨rfl,rfl⟩|⟨_,h⟩
     ·exact hz
     ·exact h
    have a4:=yX ((all.drop i).take d);have BM:((all.drop i).take d).length+1≤all.length:=by rw[List.length_take,List.length_drop]; omega
    obtain⟨s2,v2,hw,a3,a9⟩:=sL (pr:=sj rn all) (en:=zU c) (c:=(c:Int)) (by kernel_rfl) (by kernel_rfl) hBW (fun s sl ot=>by
     unfold zU;rcases hc with hc|hc
     ·rw[if_pos hc]; exact tJ hc ot (by omega) (by kernel_rfl)
     ·rw[if_neg (by have:=hc.1; omega)]; exact E2 hc ot (by omega) (by kernel_rfl) (by kernel_rfl));have a1:(all.drop i).take (d+1)=(all.drop i).take d++[(c:Int)]:=by rw[List.take_add_one,List.getElem?_drop,hr]; rfl
    rw[← a0,← uR,← a1] at a3;refine EO.op (by kernel_rfl) (dt (u:=.int .i32 (c:Int)) (w:=.int .i32 (-1)) rfl (by kernel_rfl) (by kernel_rfl) (cO (b:=true) (bne_iff_ne.2 (by omega)))) (EO.fin 5 (by kernel_rfl) (EW.qg (by kernel_rfl) (EW.skip (EW.gm s' (by kernel_rfl) (EW.seq (EW.block (EW.region (by kernel_rfl) (EO.gc 2 5 (by kernel_rfl) gC (EO.gm s' (by kernel_rfl) (EO.fR #[am s.nx 0,.int .i32 (c:Int)] (by kernel_rfl) rfl rfl (by kernel_rfl) (by kernel_rfl) hw (EO.nil (EW.gm s2 (by kernel_rfl) (EW.region (by kernel_rfl) (EO.go 1 5 (by kernel_rfl) (EO.op (by kernel_rfl) (mG (i:=((i+d:Nat):Int)) (j:=1) (r:=((i+(d+1):Nat):Int)) rfl (by kernel_rfl) (by kernel_rfl) (by omega) (by omega)) (EO.fin 5 (by kernel_rfl) ?_))))))))))))))));exact⟨m-1,by omega,d+1,by omega,.inr ⟨by omega,a3⟩,.inr (by omega),bG (by kernel_rfl)⟩
   ·rw[VO];refine EO.fin 5 (by kernel_rfl) (EW.gm s' (by kernel_rfl) (EW.rK (by kernel_rfl) (EW.exit ?_)));exact⟨rfl,d,U,a2,by rw[List.take_of_length_le (by rw[List.length_drop]; omega),List.take_of_length_le (by rw[List.length_drop]; omega)],bG (by kernel_rfl)⟩
  ·refine EO.op (by kernel_rfl) (dt (u:=num ((i+d:Nat):Int)) (w:=num (j:Nat)) rfl (by kernel_rfl) (by kernel_rfl) (bD (b:=false) (decide_eq_false (by omega)))) (EO.fin 5 (by kernel_rfl) (EW.gm s' (by kernel_rfl) (EW.rK (by kernel_rfl) (EW.exit ?_))));exact⟨rfl,d,U,a2,by rw[show d=j-i by omega],bG (by kernel_rfl)⟩
 ·rintro e a' s' ⟨rfl,d,U,a2,a1,x,rfl⟩;rw[a1] at U;rcases U with ⟨rfl,rfl⟩|⟨hd,hb⟩
  ·rw[← a1,List.take_zero];have a6:=uM (pr:=sj rn all) (s:=s.add (.cells #[.pointer none,.slice none 0 0] 119)) (b:=s.nx) (p:=.pointer none) (by kernel_rfl) (by rw[AS.aH,if_pos rfl]);refine EW.seq (EW.region (by kernel_rfl) (EO.gc 0 5 (by kernel_rfl) a6 (EO.fin 5 (by kernel_rfl) ?_)));exact EW.ret ⟨.inr rfl,by kernel_rfl,trivial⟩
  ·have a8:bw ((all.drop i).take (j-i))≠[]:=by
    rw[← a1];intro e;obtain⟨d',rfl⟩:∃d',d=d'+1:=⟨d-1,by omega⟩;have hk:i+d'<all.length:=by omega
    rw[List.take_add_one,List.getElem?_drop,List.getElem?_eq_getElem hk] at e;simp only[Option.toList_some] at e;rw[uR] at e;obtain⟨c,_,_,a0⟩:=xW (hg _ (List.getElem_mem hk));rw[a0] at e
    have:=FF c;have h0:=(List.append_eq_nil_iff.1 e).2;rw[h0] at this;simp at this
   have a4:=yX ((all.drop i).take (j-i));have BM:((all.drop i).take (j-i)).length≤all.length:=by rw[List.length_take,List.length_drop]; omega
   obtain⟨s6,a5,aa⟩:=sI (pr:=sj rn all) (by kernel_rfl) hb a8 (by omega);generalize bw ((all.drop i).take (j-i))=tx at a5 ⊢;refine EW.seq (EW.region (by kernel_rfl) (EO.gc 0 5 (by kernel_rfl) a5 (EO.fin 5 (by kernel_rfl) ?_)));exact EW.ret ⟨.inr rfl,by kernel_rfl,trivial⟩
end
section
variable {N Pb:Nat}{Shun:Loc→Prop}{val:Value}{B:Nat}{Mine:Loc→Prop}{Ex:Nat→Prop}{w₀ w aB w':World}{AnchW:Gq}{all:Iq}{Rb:Nat}{i:Ph}{l:Hq}{An:bC}
variable [Go.ConcR.Payload][Go.ConcX.Payload]
variable [Go.ConcX.Shy (Cfg.Wg (aC prog N Pb Shun val B Mine)) (Cfg.C (aC prog N Pb Shun val B Mine))]
theorem Uc(F:Cfg.Fit (aC prog N Pb Shun val B Mine)):Cy prog eS (fun _=>N+9) (fun _=>cH (aC prog N Pb Shun val B Mine)) (fun _=>gx (aC prog N Pb Shun val B Mine)) (mL (aC prog N Pb Shun val B Mine)) (rz (aC prog N Pb Shun val B Mine)) (XM (aC prog N Pb Shun val B Mine) AnchW) (fun i l w=>HX (aC prog N Pb Shun val B Mine) Ex w₀ all Rb i l w) where
 C:=XM.closed (K:=aC prog N Pb Shun val B Mine)
 T:=p7 (K:=aC prog N Pb Shun val B Mine)
 ne:=Cb
 Z h:=HX.co F h
theorem Cq(F:Cfg.Fit (aC prog N Pb Shun val B Mine))(hg:∀r∈all,Good r)(hn:4*all.length≤1000000){e1:Nat}(h1:An rn=some (Rb,z1,e1))(h2:An 1=some (1,z2,e2)) :
  ck prog eS An (mL (aC prog N Pb Shun val B Mine)) (rz (aC prog N Pb Shun val B Mine)) (XM (aC prog N Pb Shun val B Mine) AnchW) (fun i l w=>HX (aC prog N Pb Shun val B Mine) Ex w₀ all Rb i l w) (sj rn all):=by
 have Y:=Uc (AnchW:=AnchW) (Ex:=Ex) (w₀:=w₀) (all:=all) (Rb:=Rb) F;have hb:=pZ (An:=An) Y;constructor
 ·exact J3 rn all
 ·intro f g args s v s' U h;unfold sj at U;split at U
  ·cases U
  next a0 =>
  unfold cR at U;split at U
  ·cases U;simp only at h;split at h
   ·next b k ha =>
    split at h
    ·next hc =>
     obtain⟨rfl,hk⟩:=hc;cases h;rw[qu ha];refine Sound.same Y rfl fun S l fr i w args' hS hF hA=>?_;obtain⟨x',y',rfl,hx,hy⟩:=K0 hA;obtain⟨g,z,e,q1,rfl⟩:=hx.ptr;rw[hS.an _ _ h1] at q1;cases q1;rw[hy.sc rfl];have hkk:k=((k.toNat:Nat):Int):=by omega
     have:=HX.at (AnchW:=AnchW) F (by omega) hF k.toNat;rw[← hkk] at this;exact ny this fun i' v w' hq=>hq
    ·cases h
   ·cases h
  ·cases a0 rfl
  ·cases U;simp only at h;split at h
   ·next x k ha =>
    split at h
    ·next cs a1 =>
     split at h
     ·next hc =>
      split at h
      ·next c n a3 =>
       cases h;rw[qu ha];have a2:cs=cY.toArray:=by apply Array.toList_inj.1; simp[xk hc]
       subst a2;exact zL Y h2 a3 k a1
      ·cases h
     ·cases h
    ·cases h
   ·cases h
  ·exact hb.sound _ _ _ _ _ _ U h
theorem GO(F:Cfg.Fit (aC prog N Pb Shun val B Mine))(hg:∀r∈all,Good r)(hn:4*all.length≤1000000){e1:Nat}(h1:An rn=some (Rb,z1,e1))(h2:An 1=some (1,z2,e2))(h0:1<rn) :
  ck prog eS An (mL (aC prog N Pb Shun val B Mine)) (rz (aC prog N Pb Shun val B Mine)) (XM (aC prog N Pb Shun val B Mine) AnchW) (fun i l w=>HX (aC prog N Pb Shun val B Mine) Ex w₀ all Rb i l w) (cR rn all):=by
 have Y:=Uc (AnchW:=AnchW) (Ex:=Ex) (w₀:=w₀) (all:=all) (Rb:=Rb) F;have gC:=Cq (AnchW:=AnchW) (Ex:=Ex) (w₀:=w₀) F hg hn h1 h2;refine⟨oH rn all,fun f g args s v s' hf h=>?_⟩;by_cases X5:f=92
 ·subst X5;cases hf;simp only at h;split at h
  ·next b ii jj ha =>
   split at h
   ·next hc =>
    obtain⟨rfl,hi,hj,a5⟩:=hc;cases h;have:args=#[.pointer (sq b),.int .i64 ii,.int .i64 jj]:=by apply Array.toList_inj.1; simp[ha]
    rw[this];obtain⟨i,rfl⟩:=Int.eq_ofNat_of_zero_le hi;obtain⟨j,rfl⟩:=Int.eq_ofNat_of_zero_le hj;obtain⟨s1,n,ht⟩:=D6 (rn:=b) (s:=⟨[],b+1⟩) hg hn i j (by omega);obtain⟨U,a1,a2,a3,a4⟩:∃U:bC,U.le An∧U b=some (Rb,z1,e1)∧U 1=some (1,z2,e2)∧∀c,b+1≤c→U c=none:=by
     refine⟨fun c=>if c=1∨c=b then An c else none,fun c x hx=>?_,?_,?_,fun c hc=>?_⟩
     ·by_cases hc:c=1∨c=b
      ·simpa[hc] using hx
      ·simp[hc] at hx
     ·simpa using h1
     ·simpa using h2
     ·show(if c=1∨c=b then An c else none)=none;rw[if_neg (by omega)]
    have a0:=Cq (AnchW:=AnchW) (Ex:=Ex) (w₀:=w₀) F hg hn a2 a3;refine Sound.Bu a1 (Sound.LK Y a4 (fun S args' hS hA=>?_) (m:=1) rfl ((gH Y (by kernel_rfl) dq a0 cI n).2 _ _ _ _ _ ht));obtain⟨x',y',z',rfl,hx,hy,hz⟩:=Pd hA;obtain⟨g,z,e,q1,rfl⟩:=hx.ptr;rw[hS _ _ a2] at q1;cases q1;rw[hy.sc rfl,hz.sc rfl];refine⟨rfl,fun k x y hx hy=>?_⟩;match k with
    | 0=>cases hx; cases hy; exact VR.gl a2
    | 1=>cases hx; cases hy; exact VR.dr rfl
    | 2=>cases hx; cases hy; exact VR.dr rfl
    | k+3=>simp at hx
   ·cases h
  ·cases h
 ·exact gC.sound f g args s v s' (by unfold sj; rw[if_neg (by intro e; exact X5 (Nat.eq_of_beq_eq_true e))]; exact hf) h
end
def yM (c:CS)(d:DS):List Int→CS × DS × List Int
 | []=>(c,d,[])
 | b::l=>((yM (aI c (cT d b).2).1 (cT d b).1 l).1,(yM (aI c (cT d b).2).1 (cT d b).1 l).2.1,(aI c (cT d b).2).2++(yM (aI c (cT d b).2).1 (cT d b).1 l).2.2)
def bytesOf(s:ByteArray):List Int:=s.data.toList.map fun b=>(b.toNat:Int)
def bq(c:CS)(d:DS)(l:List Int):List Int:=(yM c d l).2.2++(aI (yM c d l).1 (gk (yM c d l).2.1).2).2
def bV(s:ByteArray):List Int:=bq ⟨false,false⟩ ⟨0,0,0,0⟩ (bytesOf s)
theorem gh(c:CS)(d:DS):bq c d []=(aI c (gk d).2).2:=by simp[bq,yM]
theorem dN(c:CS)(d:DS)(b:Int)(l:Iq):bq c d (b::l)=(aI c (cT d b).2).2++bq (aI c (cT d b).2).1 (cT d b).1 l:=by simp[bq,yM]
structure HP(N Pb cp:Nat)(s:ByteArray)(k c1 c2:Nat)(x1 x2:Array Value)(w:World):Prop where
 lv:w.heap[N+3]?=some (.cells #[.chan (some (N+2))] 158)
 ps:w.cell? ⟨Pb,0,none⟩=some (.string s)
 lo:Pb<N
 bf:∃o,w.heap[N+8]?=some o
 cl:1≤k→w.heap[c1]?=some (.cells x1 177)
 h1:1≤k→N+9≤c1
 de:2≤k→w.heap[c2]?=some (.cells x2 179)
 h2:2≤k→N+9≤c2∧c1≠c2
 pc:w.heap[N]?=some (.cells #[.slice (some ⟨Pb,0,none⟩) 1 cp] 62)
 wb:w.heap[N+7]?=some (.cells #[.pointer (some ⟨N+6,0,none⟩)] 240)
section
variable {N Pb cp c1 c2:Nat}{Shun:Loc→Prop}{val:Value}{B:Nat}{Mine:Loc→Prop}{c:CS}{d:DS}{w aB:World}
variable [Go.ConcR.Payload][Go.ConcX.Payload]
variable {s:ByteArray}{k:Nat}{x1 x2:Aq}
theorem HP.size(h:HP N Pb cp s k c1 c2 x1 x2 w):N+9≤w.heap.size:=by
 obtain⟨o,U⟩:=h.bf
 have:=(Array.getElem?_eq_some_iff.1 U).1;omega
theorem HP.rc(h:HP N Pb cp s k c1 c2 x1 x2 w)(r:RC (aC prog N Pb Shun val B Mine) w aB):HP N Pb cp s k c1 c2 x1 x2 aB:=by
 refine⟨(r _ (.inr (.inr (.inl rfl)))).trans h.lv,?_,h.lo,h.bf.imp fun _ U=>(r _ (.inr (.inr (.inr (.inr (.inr (.inl rfl))))))).trans U,fun hk=>(r _ (.inl (.inr ⟨h.h1 hk,_,h.cl hk,.inl rfl⟩))).trans (h.cl hk),h.h1,fun hk=>(r _ (.inl (.inr ⟨(h.h2 hk).1,_,h.de hk,.inr (.inl rfl)⟩))).trans (h.de hk),h.h2,(r _ (.inl (.inl rfl))).trans h.pc,(r _ (.inr (.inr (.inr (.inr (.inl rfl)))))).trans h.wb⟩
 have:=r Pb (.inr (.inr (.inr (.inr (.inr (.inr rfl))))));rw[← h.ps]; unfold World.cell?; rw[this]
theorem HP.rely{i:Ix}(h:HP N Pb cp s k c1 c2 x1 x2 w)(r:ef (aC prog N Pb Shun val B Mine) i w aB):HP N Pb cp s k c1 c2 x1 x2 aB:=h.rc r.rc
theorem cB(w:World)(o:Obj){b:Nat}(h:b<w.heap.size):(w.alloc o).heap[b]?=w.heap[b]?:=Below.heap_alloc _ _ _ h
theorem HP.LI(h:HP N Pb cp s 0 c1 c2 x1 x2 w)(c:Aq):∃c1,c1=w.heap.size∧HP N Pb cp s 1 c1 c2 c x2 (w.alloc (.cells c 177)):=by have U:=h.size;refine⟨_,rfl,(cB _ _ (by omega)).trans h.lv,(World.cell?_alloc_lt _ _ _ (by show Pb<_; have:=h.lo; omega)).trans h.ps,h.lo,h.bf.imp fun _ ho=>(cB _ _ (by omega)).trans ho,fun _=>heap_alloc_new w (.cells c 177),fun _=>U,fun h2=>by omega,fun h2=>by omega,(cB _ _ (by omega)).trans h.pc,(cB _ _ (by omega)).trans h.wb⟩
theorem HP.LJ(h:HP N Pb cp s 1 c1 c2 x1 x2 w)(c:Aq):∃c2,c2=w.heap.size∧HP N Pb cp s 2 c1 c2 x1 c (w.alloc (.cells c 179)):=by have U:=h.size;have eH:=(Array.getElem?_eq_some_iff.1 (h.cl (by omega))).1;refine⟨_,rfl,(cB _ _ (by omega)).trans h.lv,(World.cell?_alloc_lt _ _ _ (by show Pb<_; have:=h.lo; omega)).trans h.ps,h.lo,h.bf.imp fun _ ho=>(cB _ _ (by omega)).trans ho,fun _=>(cB _ _ eH).trans (h.cl (by omega)),fun _=>h.h1 (by omega),fun _=>heap_alloc_new w (.cells c 179),fun _=>⟨U,by omega⟩,(cB _ _ (by omega)).trans h.pc,(cB _ _ (by omega)).trans h.wb⟩
theorem dh(w:World){b:Nat}(cs:Aq)(h:b≠g):(w.setRow g cs).heap[b]?=w.heap[b]?:=by simp[World.setRow,Array.getElem?_modify,Ne.symm h]
theorem HP.NI(h:HP N Pb cp s k c1 c2 x1 x2 w)(U:1≤k)(c:Aq):HP N Pb cp s k c1 c2 c x2 (w.setRow c1 c):=by have hs:=h.size;have Ap:=h.lo;have h1:=h.h1 U;refine⟨(dh _ _ (by omega)).trans h.lv,?_,h.lo,h.bf.imp fun _ ho=>(dh _ _ (by omega)).trans ho,fun _=>setRow_heap w _ _ _ _ _ (h.cl U),h.h1,fun z=>(dh _ _ (Ne.symm (h.h2 z).2)).trans (h.de z),h.h2,(dh _ _ (by omega)).trans h.pc,(dh _ _ (by omega)).trans h.wb⟩;rw[← h.ps]; unfold World.cell?; rw[dh _ _ (by show Pb≠_; omega)]
theorem HP.NJ(h:HP N Pb cp s k c1 c2 x1 x2 w)(U:2≤k)(c:Aq):HP N Pb cp s k c1 c2 x1 c (w.setRow c2 c):=by have hs:=h.size;have Ap:=h.lo;have h2:=h.h2 U;refine⟨(dh _ _ (by omega)).trans h.lv,?_,h.lo,h.bf.imp fun _ ho=>(dh _ _ (by omega)).trans ho,fun z=>(dh _ _ h2.2).trans (h.cl z),h.h1,fun _=>setRow_heap w _ _ _ _ _ (h.de U),h.h2,(dh _ _ (by omega)).trans h.pc,(dh _ _ (by omega)).trans h.wb⟩;rw[← h.ps]; unfold World.cell?; rw[dh _ _ (by show Pb≠_; omega)]
theorem HP.hc(h:HP N Pb cp s 2 c1 c2 #[eX N,.bool false,.bool false] #[kg c1,.int .i32 0,.int .i64 0,.int .u8 0,.int .u8 0] w):HC N Pb cp c1 c2 ⟨false,false⟩ ⟨0,0,0,0⟩ w:=⟨h.lv,h.cl (by omega),h.de (by omega),h.pc,h.wb,h.h1 (by omega),(h.h2 (by omega)).1,(h.h2 (by omega)).2⟩
theorem C2{U:Obj}(hs:N+9≤w.heap.size)(ht:Bi U=177∨Bi U=179∨1016≤Bi U)(h:∀e∈es,Im (aC prog N Pb Shun val B Mine) (w.alloc U) e):DK (aC prog N Pb Shun val B Mine) w (w.alloc U) es:=by
 refine⟨rfl,rfl,rfl,fun b hb _=>cB _ _ hb,fun b hb=>?_,fun b h1 h2=>?_,cB _ _ (by show N<_; omega),by simp[World.size_alloc],h⟩
 ·rcases hb with z|⟨z,o',z1,z2⟩
  ·exact .inl z
  ·exact .inr ⟨z,o',(cB _ _ (Array.getElem?_eq_some_iff.1 z1).1).trans z1,z2⟩
 ·have:b=w.heap.size:=by simp[World.size_alloc] at h2; omega
  subst this;exact .inr ⟨hs,_,heap_alloc_new w U,ht⟩
theorem xg(U:N+9≤w.heap.size)(ht:t=177∨t=179∨1016≤t)(h:∀e∈es,Im (aC prog N Pb Shun val B Mine) (w.alloc (.cells cs t)) e):DK (aC prog N Pb Shun val B Mine) w (w.alloc (.cells cs t)) es:=C2 U ht h
theorem FC(hg:w.heap[g]?=some (.cells old t))(U:N+9≤g)(ht:t=177∨t=179∨1016≤t)(h:∀e∈es,Im (aC prog N Pb Shun val B Mine) (w.setRow g cs) e):DK (aC prog N Pb Shun val B Mine) w (w.setRow g cs) es:=by
 have hs:(w.setRow g cs).heap.size=w.heap.size:=by simp
 refine⟨rfl,rfl,rfl,fun k _ hk=>dh _ _ ?_,fun b hb=>?_,fun b h1 h2=>absurd h1 (by omega),dh _ _ (by show N≠g; omega),by omega,h⟩
 ·rintro rfl; exact hk (.inr ⟨U,_,hg,ht⟩)
 ·by_cases e:b=g
  ·subst e; exact .inr ⟨U,_,setRow_heap w _ _ _ _ _ hg,ht⟩
  ·exact hb.of_same (dh _ _ e)
theorem uL{a:Act}(a0:o.op=.store ty x y)(hx:a.eval x=.pointer (sq g))(hy:a.eval y=.agg cells)
 (hg:w.heap[g]?=some (.cells old t (0,0)))(hi:(P.info? ty).map (·.size)=some cells.size)(ho:old.size=cells.size)(h1:cells.all (·.oneCell')=true) :
  (execOp a.eval o).run P w=.ok .skip (w.setRow g cells)∧∀ev∈(execOp a.eval o).events P w #[],∃o,ev=⟨.cell ⟨g,o,none⟩,true,false⟩:=by
 constructor
 ·unfold execOp;simp[a0,hx,hy,Instr.storeAt,Instr.sureAddr,run_storeVar_row w g t ty old cells hg hi ho h1]
 ·intro ev U;unfold execOp at U;simp only[a0,hx,hy] at U;refine wu w g t ty old cells hg hi ho h1 ev ?_;simpa[Instr.storeAt,Instr.sureAddr] using U
theorem Nu(U:HP N Pb cp s 0 0 0 #[] #[] w)(hz:s.size≤9223372036854775806)(vs:Vq) :
  gD prog (XK (aC prog N Pb Shun val B Mine)) 63 #[.slice (sq Pb) 1 cp,eX N] (true,V (bV s)++vs) w (fun i' _ w'=>i'=((bV s).isEmpty,vs)∧∃c1 c2 c d,HC N Pb cp c1 c2 c d w'):=by
 have C:Closed prog false (ef (aC prog N Pb Shun val B Mine)) (DK (aC prog N Pb Shun val B Mine)) (XK (aC prog N Pb Shun val B Mine)):=XK.closed (K:=(aC prog N Pb Shun val B Mine));have T:=jq (K:=(aC prog N Pb Shun val B Mine));have Tq:=T (true,[]);have XY:∀(w:World) (es:Array Event) (a:Addr) (m:Mode) (x:Bool),(store a (.bool x) m).events prog w es=storedEv prog w es a (.bool x) m:=fun w es a m x=>events_store prog w es a _ m rfl;have SZ:∀w:World,ef (aC prog N Pb Shun val B Mine) (true,[]) w { w with drawn:=w.drawn+1 }:=sf;have bd1:=fun w=>run_build (P:=prog) w 177 #[(0,eX N)] #[eX N,.bool false,.bool false] (by kernel_rfl);have be1:=fun w es=>iK (P:=prog) w 177 #[(0,eX N)] #[eX N,.bool false,.bool false] (by kernel_rfl) es;have bd2:=fun c1 w=>run_build (P:=prog) w 179 #[(0,kg c1)] #[kg c1,.int .i32 0,.int .i64 0,.int .u8 0,.int .u8 0] (by kernel_rfl);have be2:=fun c1 w es=>iK (P:=prog) w 179 #[(0,kg c1)] #[kg c1,.int .i32 0,.int .i64 0,.int .u8 0,.int .u8 0] (by kernel_rfl) es;have al1:=fun w=>mf (w:=w) Tryz.zeroValue177;have ae1:=fun w es=>kv (w:=w) Tryz.zeroValue177 es;have al2:=fun w=>mf (w:=w) Tryz.zeroValue179;have ae2:=fun w es=>kv (w:=w) Tryz.zeroValue179 es;have ln:∀w es,(Builtin.len_ #[9] 3 #[.string s]).events prog w es=es:=fun w es=>by simp[Builtin.len_,go_sem]
 have mk:∀c1 w es,(Instr.makeFunc (Fn.func 116) #[Value.pointer (sq c1)] #[]).events prog w es=es:=fun c1 w es=>by simp[Instr.makeFunc]
 refine fe func63 (by rfl) rfl ?_;simp only[ntmps63,List.size_toArray,List.length_cons,List.length_nil,Nat.reduceAdd,Nat.reduceSub,Array.replicate_succ,Array.replicate_zero,List.push_toArray,List.append_toArray,List.nil_append,List.cons_append];co_apply aO C T (ef.refl _);co_reg (T _);co_op HP.rely U (co_quiet Tq);co_opw HP.rely U (skip) (co_still Tq);co_opw HP.rely U (skip) (exact xg U.size (.inl rfl) (by co_evs (skip)));obtain⟨c1,a2,U⟩:=U.LI #[.nilFunc,.bool false,.bool false];simp only[← a2];clear a2;co_apply opsC_cons_k rfl (by rfl);intro _ hR K hK;replace U:=HP.rely U hR;clear hR;have Dn:=fun {o:Oper} {a:Act} {x y:Operand} eI hx hy=>uL (P:=prog) (ty:=177) (o:=o) (a:=a) (x:=x) (y:=y) (g:=c1) (cells:=#[eX N,.bool false,.bool false]) eI hx hy (U.cl (by omega)) (by kernel_rfl) rfl (by simp[Value.oneCell',eX,kg]);rw[(Dn rfl rfl rfl).1];refine hK _ _ ⟨?_,?_⟩
 ·refine FC (U.cl (by omega)) (U.h1 (by omega)) (.inl rfl) fun e he=>?_;obtain⟨o,rfl⟩:=(Dn rfl rfl rfl).2 e (mem_listed he);exact .inl ⟨_,_,rfl,.inl (.inr ⟨U.h1 (by omega),_,setRow_heap _ _ _ _ _ _ (U.cl (by omega)),.inl rfl⟩)⟩
 clear hK K Dn;try walk_nrm
 replace U:=U.NI (by omega) #[eX N,.bool false,.bool false];co_apply opsC_nil (T _);co_then;co_apply aO C T (ef.refl _);co_reg (T _);co_opw HP.rely U (skip) (co_still Tq);simp only[show Value.func (Fn.func 116) #[Value.pointer (sq c1)] #[]=kg c1 from rfl];co_opw HP.rely U (skip) (co_still Tq);co_opw HP.rely U (skip) (exact xg U.size (.inr (.inl rfl)) (by co_evs (skip)));obtain⟨c2,a3,U⟩:=U.LJ #[.nilFunc,.int .i32 0,.int .i64 0,.int .u8 0,.int .u8 0];simp only[← a3];clear a3;co_apply opsC_cons_k rfl (by rfl);intro _ hR K hK;replace U:=HP.rely U hR;clear hR;have Dn:=fun {o:Oper} {a:Act} {x y:Operand} eI hx hy=>uL (P:=prog) (ty:=179) (o:=o) (a:=a) (x:=x) (y:=y) (g:=c2) (cells:=#[kg c1,.int .i32 0,.int .i64 0,.int .u8 0,.int .u8 0]) eI hx hy (U.de (by omega)) (by kernel_rfl) rfl (by simp[Value.oneCell',eX,kg]);rw[(Dn rfl rfl rfl).1];refine hK _ _ ⟨?_,?_⟩
 ·refine FC (U.de (by omega)) (U.h2 (by omega)).1 (.inr (.inl rfl)) fun e he=>?_;obtain⟨o,rfl⟩:=(Dn rfl rfl rfl).2 e (mem_listed he);exact .inl ⟨_,_,rfl,.inl (.inr ⟨(U.h2 (by omega)).1,_,setRow_heap _ _ _ _ _ _ (U.de (by omega)),.inr (.inl rfl)⟩)⟩
 clear hK K Dn;try walk_nrm
 replace U:=U.NJ (by omega) #[kg c1,.int .i32 0,.int .i64 0,.int .u8 0,.int .u8 0];co_apply opsC_nil (T _);co_then;refine fQ C T ?_;co_apply aO C T (ef.refl _);co_reg (T _);co_op HP.rely U (co_quiet Tq);co_opw HP.rely U (skip) (co_still Tq);co_op HP.rely U (co_quiet Tq);co_apply opsC_nil (T _);co_then;refine ig C T ?_;refine y6 C T (fun n i a w=>(n=1∧i=(true,V (bV s)++vs)∧HP N Pb cp s 2 c1 c2 #[eX N,.bool false,.bool false] #[kg c1,.int .i32 0,.int .i64 0,.int .u8 0,.int .u8 0] w∧a=⟨#[.slice (sq Pb) 1 cp,eX N,undef,undef,.pointer (sq c1),.pointer (sq c2),undef,undef,undef,eX N,.agg #[eX N,.bool false,.bool false],kg c1,.agg #[kg c1,.int .i32 0,.int .i64 0,.int .u8 0,.int .u8 0],.slice (sq Pb) 1 cp,.int .i64 1,.int .i64 0,undef,undef,undef,undef,undef,undef,undef,undef,undef,undef,undef,undef,undef,undef,undef],[]⟩)∨(n=0∧∃c d fr,i=(fr,V (bq c d [])++vs)∧(fr&&(bq c d []).isEmpty)=(bV s).isEmpty∧HC N Pb cp c1 c2 c d w∧∃x7 x8 Su Sv Sw Sx Sy Zd Sz SD SF SG SH SI SJ Ze,a=⟨#[.slice (sq Pb) 1 cp,eX N,undef,undef,.pointer (sq c1),.pointer (sq c2),undef,x7,x8,eX N,.agg #[eX N,.bool false,.bool false],kg c1,.agg #[kg c1,.int .i32 0,.int .i64 0,.int .u8 0,.int .u8 0],.slice (sq Pb) 1 cp,.int .i64 1,.int .i64 1,Su,Sv,Sw,Sx,Sy,Zd,Sz,SD,SF,SG,SH,SI,SJ,Ze,undef],[]⟩)) 1 (.inl ⟨rfl,rfl,U,rfl⟩) ?_;clear U;rintro n i a w (⟨rfl,rfl,U,rfl⟩|⟨rfl,c,d,fr,rfl,he,U,x7,x8,Su,Sv,Sw,Sx,Sy,Zd,Sz,SD,SF,SG,SH,SI,SJ,Ze,rfl⟩)
 ·co_apply aO C T (ef.refl _);co_reg (T _);co_op HP.rely U (co_quiet Tq);co_apply opsC_nil (T _);co_then;refine fQ C T ?_;refine aR C T (t:=true) rfl ?_;simp only[if_true,if_false,reduceIte,Bool.false_eq_true];refine eZ C T ?_;show lm _ _ _ _ _ _ _;refine fQ C T ?_;refine ig C T ?_;co_apply aO C T (ef.refl _);co_reg (T _);co_opw HP.rely U (skip) (co_still Tq);co_opw HP.rely U (have hc:=U.ps) (refine dj U.hc ?_; co_evs (exact pH (.inr (.inr (.inr (.inr (.inr rfl)))))));clear hc;co_op HP.rely U (co_quiet Tq);co_apply opsC_nil (T _);co_then;co_apply aO C T (ef.refl _);co_reg (T _);co_op HP.rely U (co_quiet Tq);co_opw HP.rely U (skip) (co_still Tq);co_op HP.rely U (co_quiet Tq);co_apply opsC_nil (T _);co_then;refine ig C T ?_;have U:=U.hc;refine y6 C T (fun m i a w=>∃c d fr j,m+j=s.size∧i=(fr,V (bq c d ((bytesOf s).drop j))++vs)∧(fr&&(bq c d ((bytesOf s).drop j)).isEmpty)=(bV s).isEmpty∧HC N Pb cp c1 c2 c d w∧∃x8 Sz SD SF SG SH SI SJ,a=⟨#[.slice (sq Pb) 1 cp,eX N,undef,undef,.pointer (sq c1),.pointer (sq c2),undef,.string s,x8,eX N,.agg #[eX N,.bool false,.bool false],kg c1,.agg #[kg c1,.int .i32 0,.int .i64 0,.int .u8 0,.int .u8 0],.slice (sq Pb) 1 cp,.int .i64 1,.int .i64 0,.bool true,.pointer (sq Pb),.string s,.string s,.int .i64 (s.size:Int),.int .i64 (j:Int),Sz,SD,SF,SG,SH,SI,SJ,undef,undef],[]⟩) s.size ⟨⟨false,false⟩,⟨0,0,0,0⟩,true,0,by omega,rfl,by simp[bV],U,_,_,_,_,_,_,_,_,rfl⟩ ?_;clear U;rintro m i a w ⟨c,d,fr,j,hm,rfl,he,U,x8,Sz,SD,SF,SG,SH,SI,SJ,rfl⟩;by_cases hj:j<s.size
  ·have a1:decide ((j:Int)<(s.size:Int))=true:=decide_eq_true (by omega);co_apply aO C T (ef.refl _);co_reg (T _);co_op HC.rely U (co_quiet Tq);co_apply opsC_nil (T _);co_then;try simp only[a1]
   refine fQ C T ?_;refine aR C T (t:=true) rfl ?_;simp only[if_true,if_false,reduceIte,Bool.false_eq_true];refine eZ C T ?_;show lm _ _ _ _ _ _ _;refine fQ C T ?_;refine ig C T ?_;co_apply aO C T (ef.refl _);co_reg (T _);iterate 2 co_op HC.rely U (co_quiet Tq)
   co_apply opsC_nil (T _);co_then;have a5:(bytesOf s).drop j=((s[j]'hj).toNat:Int)::(bytesOf s).drop (j+1):=by rw[List.drop_eq_getElem_cons (by simpa[bytesOf] using hj)]; simp[bytesOf]; rfl
   have a7:∀w es,(Instr.index 9 (.string s) (.int .i64 (j:Int))).events prog w es=es:=fun w es=>by simp[Instr.index,go_sem,hj]
   rw[a5,dN] at he ⊢;simp only[nW,List.append_assoc];refine bN C T ?_;simp only[ia,Nat.reduceAdd];iterate 2
    refine aL C rfl (by rfl) fun _ hR Kx a0=>?_
    replace U:=HC.rely U hR
    clear hR
    go_simp
    try (unfold stored; go_simp)
    refine a0 _ _ ⟨?_,?_⟩
    ·co_quiet Tq
    clear a0 Kx;try walk_nrm
   refine aL C rfl (by rfl) fun _ hR Kx a0=>?_;replace U:=HC.rely U hR;clear hR;go_simp;try (unfold stored; go_simp)
   refine a0 _ _ ⟨?_,?_⟩
   ·co_still Tq
   clear a0 Kx;try walk_nrm
   refine bP C T rfl (by rfl) rfl rfl (by simp[Act.eval]) rfl (NU U fr _ _) ?_;rintro _ _ _ ⟨rfl,U⟩;refine cf C T ?_;show lm _ _ _ _ _ _ _;co_apply nL C (ef.refl _);co_reg (T _);iterate 2 co_op HC.rely U (co_quiet Tq)
   co_apply opsC_nil (T _);have a6:IntKind.i64.wrap ((j:Int)+1)=((j+1:Nat):Int):=by rw[IntKind.wrap_i64]; omega
   simp only[a6];rw[lO,← Bool.and_assoc] at he;exact⟨m-1,by omega,_,_,_,j+1,by omega,rfl,he,U,_,_,_,_,_,_,_,_,rfl⟩
  ·have a1:decide ((j:Int)<(s.size:Int))=false:=decide_eq_false (by omega);co_apply aO C T (ef.refl _);co_reg (T _);co_op HC.rely U (co_quiet Tq);co_apply opsC_nil (T _);co_then;try simp only[a1]
   refine fQ C T ?_;refine aR C T (t:=false) rfl ?_;simp only[if_true,if_false,reduceIte,Bool.false_eq_true];refine y5 C T ?_;simp only[lN,CC,if_true];have a4:(bytesOf s).drop j=[]:=List.drop_eq_nil_of_le (by simp[bytesOf]; have:s.size=s.data.size:=rfl; omega);rw[a4] at he ⊢;co_apply nL C (ef.refl _);co_reg (T _);iterate 2 co_op HC.rely U (co_quiet Tq)
   co_apply opsC_nil (T _);exact⟨0,by omega,.inr ⟨rfl,c,d,fr,rfl,he,U,_,_,_,_,_,_,_,_,_,_,_,_,_,_,_,_,rfl⟩⟩
 ·co_apply aO C T (ef.refl _);co_reg (T _);co_op HC.rely U (co_quiet Tq);co_apply opsC_nil (T _);co_then;refine fQ C T ?_;refine aR C T (t:=false) rfl ?_;simp only[if_true,if_false,reduceIte,Bool.false_eq_true];refine y5 C T ?_;simp only[lN,CC,if_true];rw[gh] at he ⊢;refine bN C T ?_;simp only[ia,Nat.reduceAdd];refine bP C T rfl (by rfl) rfl rfl (by simp[Act.eval]) rfl (FH U fr vs) ?_;rintro _ _ _ ⟨rfl,U⟩;refine cf C T ?_;exact⟨.inl rfl,rfl,_,resultsC_none (by rfl) _,by rw[he],_,_,_,_,U⟩
end
end Go.Proofs.YtgcaionclkbehaaGreatDoor
