import Derived.Test.YtgcaionclkbehaaGreatDoorW4
set_option linter.all false
set_option maxHeartbeats 2000000
set_option maxRecDepth 100000
namespace Go.Proofs.YtgcaionclkbehaaGreatDoor
open Go.Conc Go.RowKit Go.Lib Tryz
variable {N bytes cp j k n off sz z1:Nat}{b0 c:UInt8}{b l stops:Bq}{a:TL}{e t t' ty:TypeId}{i x y:Operand}{cs gU:Aq}{fz uh:Nat × Nat}{P:Program}{kt:TypeId→Bool}{o:Oper}{r:Int}{K K':Nat→Prop}{α:Type}
section
variable {Post:Value→World→Prop}{Ex:Nat→Prop}{w₀:World}{An:bC}
theorem cz:prog.follows .mixedOrders=true:=by kernel_rfl
theorem D3{e1:Nat}(h1:An 1=some (1,z1,e1))(U:∀b,32≤b→An b=none)(n:Nat):ck prog eS An (fun _:Zx=>AtRel) (fun j=>DZ j.1) (fun j=>ZI prog Post 0 j.1) (Bl Ex w₀) (kO prog n) :=
 Cr h1 U (by omega) (Ky 37) ⟨oH 37 L0,fun _ _ _ h=>JB▸h⟩ (by decide) (pZ qh)
def gR (P:Program)(n:Nat):Prim:=fun f=>if f.beq 15 then some (fun args s=>if args.toList.isEmpty∧Rm (s.get 1) (some (.cells cY.toArray 335))=true then some (.bool true,s) else none) else kO P n f
theorem vw:cY.all dT=true:=by decide +kernel
theorem ss(b:Nat):sA.get b=if b=1 then some (.cells cY.toArray 335) else none:=by
 unfold AS.get sA;by_cases h:b<16
 ·have U:b / 16=0:=by omega
  have hm:b % 16=b:=by omega
  rw[U,hm];match b,h with
  | 0,_=>rfl
  | 1,_=>rfl
  | b+2,_=>rw[if_neg (by omega)]; simp
 ·rw[if_neg (by omega)];have U:1≤b / 16:=by omega
  obtain⟨k,hk⟩:∃k,b / 16=k+1:=⟨b / 16-1,by omega⟩;rw[hk];simp
theorem J4{e1:Nat}(h1:An 1=some (1,z1,e1))(a0:∀b,32≤b→An b=none):∃n,ck prog eS An (fun _:Zx=>AtRel) (fun j=>DZ j.1) (fun j=>ZI prog Post 0 j.1) (Bl Ex w₀) (gR prog n):=by
 obtain⟨n,hn⟩:=Xh;obtain⟨s',⟨m,Ol⟩,ML⟩:=IE hn;have hL:=D3 (Post:=Post) (Ex:=Ex) (w₀:=w₀) h1 a0 n;refine⟨n,?_,?_⟩
 ·intro f g args s v s' U h;unfold gR at U;split at U
  ·cases U;simp only at h;split at h
   ·cases h; exact Nat.le_refl _
   ·cases h
  ·exact hL.nx f g args s v s' U h
 ·intro f g args s v s2 U h;unfold gR at U;split at U
  ·next he =>
   have he:=Nat.eq_of_beq_eq_true he;subst he;cases U;simp only at h;split at h
   ·next hc =>
    obtain⟨ha,ho⟩:=hc;cases h;have ha:args=#[]:=by apply Array.toList_inj.1; simpa using ha
    subst ha;exact Sound.EY (k:=32) (m:=1) (c:=1) (s0:=sA) (s1:=s') qh h1 a0 vw ss rfl ML (pU ho) rfl rfl ((gH qh cz dq hL cI m).2 _ _ _ _ _ Ol).toW
   ·cases h
  ·exact hL.sound f g args s v s2 U h
end
theorem qZ:∀{l:Bq} {k:Nat},c∉l→jN c.toNat l k = -1
 | [],k,_=>rfl
 | b::l,k,h=>by unfold jN;rw[lA];simp only[List.mem_cons,not_or] at h;rw[show(b==c)=false by simp; exact fun e=>h.1 e.symm];simp only[if_false,Bool.false_eq_true];exact qZ h.2
theorem ou:∀{a:Bq} {k:Nat},c∉a→jN c.toNat (a++c::b) k=a.length+k
 | [],k,_=>by rw[List.nil_append];unfold jN;rw[lA];simp
 | x::a,k,h=>by rw[List.cons_append];unfold jN;rw[lA];simp only[List.mem_cons,not_or] at h;rw[show(x==c)=false by simp; exact fun e=>h.1 e.symm];simp only[if_false,Bool.false_eq_true];rw[ou h.2];simp only[List.length_cons];omega
section
variable {n:Nat}{s:AS}
theorem Gl(l:Bq)(c:UInt8)(s:AS):Ef (gR prog n) 341 #[str l,str [c]] s (.int .i64 (if cJ [c] l=true then 0 else jN (((c.toNat:Nat):Int).toNat % 256) l 0)) s:=by
 refine EF.of (by kernel_rfl) func341 rfl ?_;iterate 2 refine EW.seq (EW.go 50 (by kernel_rfl) ?_)
 refine EW.seq (EW.block (EW.seq (EW.go 50 (by kernel_rfl) (EW.cond (b:=cJ [c] l) (by kernel_rfl) (fun U=>?_) (fun U=>?_)))))
 ·rw[if_pos U];refine EW.zh 50 .ret (by kernel_rfl) ?_;exact⟨.inr rfl,by kernel_rfl,by kernel_rfl⟩
 ·rw[if_neg (by rw[U]; simp)];refine EW.zh 50 .ret (by kernel_rfl) ?_;exact⟨.inr rfl,by kernel_rfl,by kernel_rfl⟩
theorem toNat_mod(c:UInt8):((c.toNat:Nat):Int).toNat % 256=c.toNat:=by have:=c.toNat_lt;rw[Int.toNat_natCast];exact Nat.mod_eq_of_lt this
theorem Du{a:Bq}(h:c∉a):Ef (gR prog n) 341 #[str (a++c::b),str [c]] s (num a.length) s:=by
 have:=Gl (n:=n) (a++c::b) c s;rw[toNat_mod,ou h] at this;by_cases hb:cJ [c] (a++c::b)=true
 ·have e:=(ga _ _).1 hb;have ha:a=[]:=by
   cases a with
   | nil=>rfl
   | cons x a=>simp at e
  subst ha;rw[if_pos hb] at this;exact this
 ·rw[if_neg hb] at this;exact this
def Il (c:UInt8)(x a b:List UInt8)(t:Bool):Prop:=(t=false∧c∉x∧a=x∧b=[])∨(t=true∧c∉a∧x=a++c::b)
theorem Hz(a b:Bq)(c:UInt8):((a++c::b).take a.length).drop 0=a:=by simp
theorem FE(a b:Bq)(c:UInt8):((a++c::b).take (a++c::b).length).drop (a.length+1)=b:=by rw[List.take_length,show a++c::b=(a++[c])++b by simp,show a.length+1=(a++[c]).length by simp,List.drop_left]
end
section
variable {n:Nat}{s:AS}{pr:Prim}
abbrev z0:AS:=⟨[],32⟩
end
section
variable {P:Program}{kt:TypeId→Bool}{c:fj}{a:TL}{s s':AS}{o:Oper}{v:Value}
theorem se{lo hi:Option Operand}{b i:Nat}(U:o.op=.slice t x lo hi none)(ht:P.underlying t=some (.slice e))(hx:a.at x=.slice (some ⟨b,off,none⟩) n cp)(hs:s.get b=some (.cells cs e fz))(hz:bI P e=some sz)(hb:bF n cp (lo.map a.at) (hi.map a.at)=some (i,j))(a0:i<cp):bK P kt c a o s=some (.slice (some ⟨b,off+i*sz,none⟩) (j-i) (cp-i),s):=by
 have e:fP P t (a.at x) (lo.map a.at) (hi.map a.at) ((none:Option Operand).map a.at) s=some (.slice (some ⟨b,off+i*sz,none⟩) (j-i) (cp-i)):=by unfold fP;rw[ht,hx];simp only[Option.map_none];rw[hz,hs];simp only;rw[if_pos trivial,hb];simp only;rw[if_pos a0]
 unfold bK;rw[if_neg (by rw[U]; simp[eV]),U];simp only;rw[e]
end
theorem vY{c:fj}{s:AS}{b:Nat}{sp:Option Nat}{kd:IntKind}{j:Int}(U:o.op=.indexAddr t x i)(ht:P.underlying t=some (.slice e))(a0:bI P e=some sz)(hx:a.at x=.slice (some ⟨b,off,sp⟩) n cp)(hi:a.at i=.int kd j)(h0:0≤j)(h1:j<n)(hk:off+j.toNat*sz=k):bK P kt c a o s=some (am b k,s):=by rw[Cn U ht a0 hx hi h0 h1,hk]
def YQ (P:Program)(t:TypeId):Bool:=match P.underlying t with
 | some d=>!d.isRow
 | none=>false
def Y3 (P:Program)(t:TypeId):Option Nat:=match P.underlying t with
 | some (.slice e)=>bI P e
 | _=>none
theorem yn{L:List FuncId}{pr:Prim}(h:∀f,f∈L→pr f=none)(f:FuncId)(U:f∈L:=by decide):pr f=none:=h f U
def XB (P : Program) (t : TypeId) : Bool := match P.underlying t with
  | some d => d.isRow
  | none => false
section
variable {P:Program}{kt:TypeId→Bool}{pr:Prim}{c:fj}{a:TL}{s s1:AS}{o:Oper}{x y:Operand}{t:TypeId}{v:Value}{ops:Array Oper}{rest:List Oper}{K:TL→AS→Prop}{KT:List (TL × Value × AS)→Prop}{g:FuncId}{args:Aq}{cl:Call}
theorem yl(b off:Nat)(v:Value)(hs:s.get b=some (.cells cs ty fz))(ho:o.op=.load t x:=by rfl)(U:YQ P t=true:=by kernel_rfl)(hx:a.at x=am b off:=by kernel_rfl)(hv:cs[off]?=some v:=by rfl):bK P kt c a o s=some (v,s):=by
 unfold YQ at U;cases h:P.underlying t with
 | none=>rw[h] at U; cases U
 | some d=>rw[h] at U; exact bO ho h (by simpa using U) hx hs hv
theorem yA(b off n:Nat)(r:Aq)(hs:s.get b=some (.cells cs ty fz))(hl:off+n≤cs.size)(ho:o.op=.load t x:=by rfl)(U:XB P t=true:=by kernel_rfl)(hz:bI P t=some n:=by kernel_rfl)(hx:a.at x=am b off:=by kernel_rfl)(hr:(cs.toList.drop off |>.take n).toArray=r:=by kernel_rfl):bK P kt c a o s=some (.agg r,s):=by
 unfold XB at U;cases h:P.underlying t with
 | none=>rw[h] at U; cases U
 | some d=>rw[h] at U; exact g8 ho h U hz hx hs hl hr
theorem yb{op:BinOp}{z}(u w:Value)(h:cX op u w=some v)(U:o.op=.binOp op t x y z:=by rfl)(hx:a.at x=u:=by kernel_rfl)(hy:a.at y=w:=by kernel_rfl):bK P kt c a o s=some (v,s):=dt U hx hy h
theorem yi(b off n cp k:Nat)(sp:Option Nat)(kd:IntKind)(j:Int)(sz:Nat)(h0:0≤j)(h1:j<n)(hk:off+j.toNat*sz=k)(ho:o.op=.indexAddr t x i:=by rfl)(U:Y3 P t=some sz:=by kernel_rfl)(hx:a.at x=.slice (some ⟨b,off,sp⟩) n cp:=by kernel_rfl)(hi:a.at i=.int kd j:=by kernel_rfl):bK P kt c a o s=some (am b k,s):=by
 unfold Y3 at U;split at U
 ·next e h=>exact vY ho h U hx hi h0 h1 hk
 ·cases U
theorem ys(b off:Nat)(w:Value)(hs:s.get b=some (.cells cs ty fz))(hl:off+1≤cs.size)(ho:o.op=.store t x y:=by rfl)(hx:a.at x=am b off:=by kernel_rfl)(hy:a.at y=w:=by kernel_rfl)(U:w.cells=#[w]:=by rfl)(h1:w.oneCell'=true:=by rfl)(hz:bI P t=some 1:=by kernel_rfl):bK P kt c a o s=some (undef,s.set b (some (.cells (putAt cs off [w]) ty fz))):=ir ho hx hy U h1 hz hs hl
theorem yp{z}(i j r:Int)(hr:i+j=r)(hs : -2000000000≤r∧r≤2000000000)(U:o.op=.binOp .add t x y z:=by rfl)(hx:a.at x=num i:=by kernel_rfl)(hy:a.at y=num j:=by kernel_rfl):bK P kt c a o s=some (num r,s):=mG U hx hy hr hs
theorem yf(h:EF P kt pr g args s v s1)(k:EO P kt pr ops rest (a.put o.dst v) s1 K)(hw:Region.wanted o (bB ops a)=true:=by kernel_rfl)(ho:o.op=.call cl:=by rfl)(hc:cl.callee=.value (.func g):=by rfl)(hn:jh P (.func g)=false:=by kernel_rfl)(U:(#[]++cl.args.map a.at++#[]:Aq)=args:=by kernel_rfl):EO P kt pr ops (o::rest) a s K:=EO.fR args hw ho hc hn U h k
theorem yt(h:EF P kt pr g args s v s1)(k:ET P kt pr ops rest (a.put o.dst v) s1 (fun tr=>KT ((a,v,s1)::tr)))(hw:Region.wanted o (bB ops a)=true:=by kernel_rfl)(ho:o.op=.call cl:=by rfl)(hc:cl.callee=.value (.func g):=by rfl)(hn:jh P (.func g)=false:=by kernel_rfl)(U:(#[]++cl.args.map a.at++#[]:Aq)=args:=by kernel_rfl):ET P kt pr ops (o::rest) a s KT:=ET.fR args hw ho hc hn U h k
theorem yc{f:Operand}(first cap:Aq)(h:EF P kt pr g args s v s1)(k:EO P kt pr ops rest (a.put o.dst v) s1 K)(hw:Region.wanted o (bB ops a)=true:=by kernel_rfl)(ho:o.op=.call cl:=by rfl)(hc:cl.callee=.value f:=by rfl)(hn:jh P f=false:=by kernel_rfl)(hf:a.at f=.func (.func g) first cap:=by kernel_rfl)(U:first++cl.args.map a.at++cap=args:=by kernel_rfl):EO P kt pr ops (o::rest) a s K:=EO.call hw ho hc hn hf U h k
theorem yR{fn:Func}{s':AS}(h1:dA P fn a s=some v:=by kernel_rfl)(h2:s=s':=by kernel_rfl):EW P kt pr .ret a s (fun e U s1=>(e=.normal∨e=.ret)∧dA P fn U s1=some v∧s1=s'):=EW.ret ⟨.inr rfl,h1,h2⟩
end
theorem y8(h : -9223372036854775808≤r∧r≤9223372036854775807):jG .i64 r=r:=by
 unfold jG;simp only;split
 ·rfl
 ·rw[IntKind.wrap_i64]; omega
theorem ik{c:fj}{s:AS}{z}{i j:Int}(U:o.op=.binOp .sub t x y z)(hx:a.at x=num i)(hy:a.at y=num j)(hr:i-j=r)(hs : -9223372036854775808≤r∧r≤9223372036854775807):bK P kt c a o s=some (num r,s):=by refine dP (by rw[U]; rfl) (by rw[U]; trivial) ?_;unfold bQ;rw[U];simp only;rw[hx,hy];unfold cX;simp only[if_pos];rw[hr,y8 hs]
theorem Ss(h : -9223372036854775808≤r∧r≤9223372036854775807):IntKind.i64.wrap r=r:=by rw[IntKind.wrap_i64]; omega
section
variable {pr:Prim}{s:AS}{n:Nat}
theorem Mc {b K:Nat} {p:Value} (hN:N≤b) (hb:b<s.nx) (hs:s.get b=some (.cells #[p,.slice none 0 0] 119)) (hp:p=.pointer none∨p=am b 0) (hK:K≤1000000):∃s',EF prog mB (gR prog n) 272 #[am b 0,num ((K+1:Nat):Int)] s (.tuple #[]) s'∧BW s' N b []∧mK N s s':=by
 obtain ⟨s1,hc,c1,c2,c3⟩:=vq (pr:=gR prog n) (by kernel_rfl) hs hp
 have a0:aE prog 55 (am b 1) s1=some (.slice none 0 0):=by
  unfold aE
  simp only [am,c2,underlying55]
  rfl
 refine EF.gu (by kernel_rfl) func272 rfl ?_
 refine EW.seq (EW.region (by kernel_rfl) ?_)
 refine EO.go 1 5 (by kernel_rfl) ?_
 refine EO.gm s (by kernel_rfl) ?_
 refine EO.fR #[am b 0] (by kernel_rfl) rfl rfl (by kernel_rfl) (by kernel_rfl) hc ?_
 refine EO.nil ?_
 refine EW.seq (EW.go 5 (by kernel_rfl) ?_)
 refine EW.gm s1 (by kernel_rfl) ?_
 refine EW.seq (EW.draw (by kernel_rfl) (by kernel_rfl) (by kernel_rfl) ?_)
 iterate 2
  refine ET.q (by kernel_rfl) (by kernel_rfl) ?_
  refine ET.q (by kernel_rfl) (by kernel_rfl) ?_
  refine ET.q (by kernel_rfl) (by kernel_rfl) ?_
  refine ET.gm s1 (by kernel_rfl) ?_
  refine ET.op (by kernel_rfl) (bO (b:=b) (off:=1) (v:=.slice none 0 0) rfl underlying55 rfl (by kernel_rfl) c2 rfl) ?_
  refine ET.q (by kernel_rfl) (by kernel_rfl) ?_
 iterate 2
  refine ET.q (by kernel_rfl) (by kernel_rfl) ?_
 refine ET.op (by kernel_rfl) (dt (u:=num 0) (w:=num ((K+1:Nat):Int)) rfl (by kernel_rfl) (by kernel_rfl) (bD (b:=true) (decide_eq_true (by omega)))) ?_
 refine ET.nil ⟨aM [(aE prog 55 (am b 1) s1,.slice none 0 0),(aE prog 55 (am b 1) s1,.slice none 0 0)] (by kernel_rfl) (by simp [aU,a0]),_,_,_,_,_,_,rfl,rfl,?_⟩
 refine EW.qg (by kernel_rfl) ?_
 refine EW.region (by kernel_rfl) ?_
 refine EO.go 2 5 (by kernel_rfl) ?_
 refine EO.gm s1 (by kernel_rfl) ?_
 have U:EF prog mB (gR prog n) 344 #[am b 0,num ((K+1:Nat):Int)] s1 (.tuple #[]) ((s1.set b (some (.cells #[am b 0,.slice (some ⟨s1.nx,0,none⟩) 0 0] 119 (0,0)))).add (.cells #[] 5 (1,1))):=by
  refine EF.qN (g:=fun args s=>match args.toList with
   | [.pointer (some ⟨b,0,none⟩),.int .i64 n]=>match s.get b with
    | some (.cells cs 119 (0,0))=>match cs.toList with
     | [p,.slice none 0 0]=>if 0≤n∧n≤1000000000 then some (.tuple #[],(s.set b (some (.cells #[p,.slice (some ⟨s.nx,0,none⟩) 0 0] 119 (0,0)))).add (.cells #[] 5 (1,1))) else none
     | _=>none
    | _=>none
   | _=>none) (by kernel_rfl) ?_
  simp only [am]
  rw [c2]
  simp only
  rw [if_pos ⟨by omega,by omega⟩]
  rfl
 refine EO.fR #[am b 0,num ((K+1:Nat):Int)] (by kernel_rfl) rfl rfl (by kernel_rfl) (by kernel_rfl) U ?_
 refine EO.nil ⟨.inl rfl,by kernel_rfl,?_⟩
 refine ⟨⟨hN,by simp; omega,am b 0,.slice (some ⟨s1.nx,0,none⟩) 0 0,by rw [AS.aH,if_neg (by simp; omega),AS.aK,if_pos rfl],.inr rfl,.inr ⟨s1.nx,(1,1),rfl,by omega,by simp,by omega,by rw [AS.aH,if_pos (by simp)]; rfl⟩⟩,by simp; omega,fun k hk=>?_⟩
 rw [AS.aH,if_neg (by simp; omega),AS.aK,if_neg (by omega),c3 k (by omega)]
end
theorem Cm{c:fj}{s s':AS}{v:Value}{sl z w:Value}{d:Nat}(U:o.op=.call { callee:=.builtin .append,args:=#[x,y],argTypes:=#[t,t] })(hx:a.at x=sl)(hy:a.at y=.slice (sq d) 1 k)(ht:P.underlying t=some (.slice e))(hi:(P.info? e).map (fun i=>(i.zero,i.size,i.bytes))=some (some z,1,bytes))(hz:z.cells.size=1)(hb:bytes≤1000)(a1:kt e=false)(hd:s.get d=some (.cells #[w] e fz))(a0:dx sl (sq d)=true)(ho:w.oneCell'=true)(h:aZ P e sl [w] 1 s=some (v,s')):bK P kt c a o s=some (v,s'):=by
 have hq:bQ P a o=none:=by unfold bQ;rw[U]
 have hc:dQ s 1 (sq d) 1=some [w]:=by unfold dQ;simp only;rw[hd];rfl
 unfold bK;rw[if_neg (by rw[U]; simp[eV])];rw[U];simp only;rw[hq];simp only[List.map_cons,List.map_nil];rw[hx,hy];unfold eB;simp only[if_true];rw[ht];simp only;rw[hi];simp only;rw[hc];simp only;rw[if_pos ⟨hz,by omega,hb,by omega,a1,a0,by simp[ho]⟩];exact h
theorem Ck{c:fj}{s:AS}{z}{i j:Int}(U:o.op=.binOp .add t x y z)(hx:a.at x=num i)(hy:a.at y=num j)(hr:i+j=r)(hs : -9223372036854775808≤r∧r≤9223372036854775807):bK P kt c a o s=some (num r,s):=by refine dP (by rw[U]; rfl) (by rw[U]; trivial) ?_;unfold bQ;rw[U];simp only;rw[hx,hy];unfold cX;simp only[if_pos];rw[hr,y8 hs]
section
variable {rn:Nat}{all:Iq}{s:AS}
theorem uo(l:Bq)(c:UInt8)(s:AS):Ef (cR rn all) 341 #[str l,str [c]] s (.int .i64 (if cJ [c] l=true then 0 else jN (((c.toNat:Nat):Int).toNat % 256) l 0)) s:=by
 refine EF.of (by kernel_rfl) func341 rfl ?_;iterate 2 refine EW.seq (EW.go 50 (by kernel_rfl) ?_)
 refine EW.seq (EW.block (EW.seq (EW.go 50 (by kernel_rfl) (EW.cond (b:=cJ [c] l) (by kernel_rfl) (fun U=>?_) (fun U=>?_)))))
 ·rw[if_pos U];refine EW.zh 50 .ret (by kernel_rfl) ?_;exact⟨.inr rfl,by kernel_rfl,by kernel_rfl⟩
 ·rw[if_neg (by rw[U]; simp)];refine EW.zh 50 .ret (by kernel_rfl) ?_;exact⟨.inr rfl,by kernel_rfl,by kernel_rfl⟩
theorem Dt(h:c∉l):Ef (cR rn all) 341 #[str l,str [c]] s (num (-1)) s:=by have:=uo (rn:=rn) (all:=all) l c s;rw[toNat_mod,qZ h,iG (by rintro rfl; simp at h)] at this;exact this
theorem Aw{a:Bq}(h:c∉a):Ef (cR rn all) 341 #[str (a++c::b),str [c]] s (num a.length) s:=by
 have:=uo (rn:=rn) (all:=all) (a++c::b) c s;rw[toNat_mod,ou h] at this;by_cases hb:cJ [c] (a++c::b)=true
 ·have e:=(ga _ _).1 hb;have ha:a=[]:=by
   cases a with
   | nil=>rfl
   | cons x a=>simp at e
  subst ha;rw[if_pos hb] at this;exact this
 ·rw[if_neg hb] at this;exact this
theorem IV{x a:Bq}{t:Bool}(h:Il c x a b t)(U:x.length≤1000000):Ef (cR rn all) 331 #[str x,str [c]] s (.tuple #[str a,str b,.bool t]) s:=by
 refine EF.of (by kernel_rfl) func331 rfl ?_;refine EW.seq (EW.go 50 (by kernel_rfl) (EW.seq (EW.seq (EW.region (by kernel_rfl) (EO.go 2 50 (by kernel_rfl) ?_)))));rcases h with ⟨rfl,h,rfl,rfl⟩|⟨rfl,h,rfl⟩
 ·refine EO.fR #[str a,str [c]] (by kernel_rfl) rfl rfl (by kernel_rfl) (by kernel_rfl) (Dt h) (EO.fin 50 (by kernel_rfl) (EW.go 50 (by kernel_rfl) (EW.zh 50 .ret (by kernel_rfl) ?_)));exact⟨.inr rfl,by kernel_rfl,by kernel_rfl⟩
 ·have hl:a.length+(b.length+1)≤1000000:=by simpa using U
  refine EO.fR #[str (a++c::b),str [c]] (by kernel_rfl) rfl rfl (by kernel_rfl) (by kernel_rfl) (Aw h) (EO.fin 50 (by kernel_rfl) (EW.seq (EW.go 50 (by kernel_rfl) (EW.qg (by kernel_rfl) (EW.seq (EW.draw (by kernel_rfl) (by kernel_rfl) (by kernel_rfl) ?_))))));iterate 2 refine ET.q (by kernel_rfl) (by kernel_rfl) ?_
  refine ET.op (by kernel_rfl) (kK (l:=a++c::b) (i:=0) (j:=a.length) rfl underlying9 (by kernel_rfl) ((show _=bF (a++c::b).length (a++c::b).length none (some (num a.length)) by kernel_rfl).trans (rD (by omega) (by simp; omega))) (Hz _ _ _)) ?_;iterate 4 refine ET.q (by kernel_rfl) (by kernel_rfl) ?_
  refine ET.op (by kernel_rfl) (mG (i:=a.length) (j:=1) (r:=a.length+1) rfl (by kernel_rfl) (by kernel_rfl) rfl (by omega)) (ET.op (by kernel_rfl) (kK (l:=a++c::b) (i:=a.length+1) (j:=(a++c::b).length) rfl underlying9 (by kernel_rfl) ((show _=bF (a++c::b).length (a++c::b).length (some (num (a.length+1))) none by kernel_rfl).trans (lB (by omega) (by simp; omega))) (FE _ _ _)) ?_);iterate 3 refine ET.q (by kernel_rfl) (by kernel_rfl) ?_
  refine ET.nil ⟨by kernel_rfl,_,_,_,_,_,_,rfl,rfl,?_⟩;refine EW.ret ?_;exact⟨.inr rfl,by kernel_rfl,by kernel_rfl⟩
theorem zR{x a:Bq}{t:Bool}(h:Il c x a b t)(U:x.length≤1000000):Ef (cR rn all) 262 #[str x,str [c]] s (.tuple #[str a,str b,.bool t]) s:=by refine EF.of (by kernel_rfl) func262 rfl ?_;refine EW.seq (EW.go 50 (by kernel_rfl) (EW.seq (EW.region (by kernel_rfl) (EO.go 2 50 (by kernel_rfl) (EO.fR #[str x,str [c]] (by kernel_rfl) rfl rfl (by kernel_rfl) (by kernel_rfl) (IV h U) (EO.fin 50 (by kernel_rfl) (EW.ret ?_)))))));exact⟨.inr rfl,by kernel_rfl,by kernel_rfl⟩
end
section
variable {rn:Nat}{all:Iq}{s:AS}
theorem mK.low{M:Nat}{s':AS}(h:mK M s s')(hl:N≤M):mK N s s':=⟨h.1,fun k U=>h.2 k (by omega)⟩
end
def dz (all:List Int)(k:Nat):Int:=all[k]?.getD (-1)
section
variable {rn:Nat}{all:Iq}{s:AS}{pr:Prim}
theorem T8(U:pr 146=cR rn all 146)(k:Nat):Ef pr 146 #[am rn 0,num (k:Nat)] s (.int .i32 (dz all k)) s:=by refine EF.qN (U.trans rfl) ?_;simp only[am];rw[if_pos ⟨trivial,by omega⟩];simp[dz]
theorem ku(a2:pr 70=none)(U:pr 146=cR rn all 146){c:Nat}{p:Nat}(hs:s.get c=some (.cells cs t fz))(h0:cs[0]?=some (am rn 0))(h1:cs[1]?=some (num (k:Nat)))(hk:k+p≤1000000):Ef pr 70 #[am c 0,num (p:Nat)] s (.int .i32 (dz all (k+p))) s:=by
 have a0:=T8 (s:=s) U (k+p);generalize dz all (k+p)=r at a0 ⊢;have Ey:aE prog 84 (am c 0) s=some (am rn 0):=by unfold aE;simp only[am,hs,underlying84];exact h0
 have a3:aE prog 3 (am c 1) s=some (num (k:Nat)):=by unfold aE;simp only[am,hs,underlying3];exact h1
 have a1:∀x∈[(aE prog 84 (am c 0) s,am rn 0),(aE prog 3 (am c 1) s,num (k:Nat))],x.1=some x.2∧aU 20 x.2=true:=by
  intro x hx;simp only[List.mem_cons,List.not_mem_nil,or_false] at hx;rcases hx with rfl|rfl
  ·exact⟨Ey,rfl⟩
  ·exact⟨a3,rfl⟩
 refine EF.of a2 func70 rfl ?_;refine zs (EW.seq (EW.draw (by kernel_rfl) (by kernel_rfl) (by kernel_rfl) ?_));iterate 3 refine zq ?_
 refine zt s (zu (bO (b:=c) (off:=0) (v:=am rn 0) rfl underlying84 rfl (by kernel_rfl) hs h0) ?_);iterate 3 refine zq ?_
 refine zt s (zu (bO (b:=c) (off:=1) (v:=num (k:Nat)) rfl underlying3 rfl (by kernel_rfl) hs h1) (zq (zt s (zu (yp (k:Nat) (p:Nat) ((k+p:Nat):Int) (by omega) (by omega)) (yt a0 (zq (ET.nil ⟨aM [(aE prog 84 (am c 0) s,am rn 0),(aE prog 3 (am c 1) s,num (k:Nat))] (by kernel_rfl) a1,_,_,_,_,_,_,rfl,rfl,?_⟩)))))));exact yR
theorem Fa(a3:pr 70=none)(a4:pr 71=none)(a0:pr 146=cR rn all 146){c:Nat}(a5:c<s.nx)(hs:s.get c=some (.cells cs t fz))(h0:cs[0]?=some (am rn 0))(h1:cs[1]?=some (num (k:Nat)))(hk:k≤1000000)(hl:dz all k≠60):Ef pr 71 #[am c 0] s .nilFunc (s.add (.cells #[am c 0] 196)):=by
 have a1:(s.add (.cells #[am c 0] 196)).get c=some (.cells cs t fz):=by rw[AS.aH,if_neg (by omega)]; exact hs
 have U:=ku (s:=s.add (.cells #[am c 0] 196)) a3 a0 (p:=0) a1 h0 h1 (by omega);rw[Nat.add_zero] at U;have a2:(s.add (.cells #[am c 0] 196)).get s.nx=some (.cells #[am c 0] 196):=by rw[AS.aH,if_pos rfl]
 refine EF.of a4 func71 rfl ?_;refine zs (za (s.add (.cells #[am c 0] 196)) ?_);generalize s.add (.cells #[am c 0] 196)=s2 at a1 U a2;generalize dz all k=r at U hl;refine EW.seq (zr (zp (yl s.nx 0 (am c 0) a2) (yf U (zp (yb (.int .i32 r) (.int .i32 60) (cO (b:=true) (by simp[hl]))) (EO.nil (zH (EW.zh 5 .ret (by kernel_rfl) ?_)))))));exact⟨.inr rfl,by kernel_rfl,by kernel_rfl⟩
end
theorem Gj(h:c∈l):0≤jN c.toNat l 0:=by obtain⟨a,b,rfl,U⟩:=List.eq_append_cons_of_mem h;rw[ou U];omega
def Rj:List FuncId:=[70,150,160,247,257,259,260,264,324,328,334,366]
structure OM(rn:Nat)(all:List Int)(pr:Prim):Prop where
 D1:pr 146=cR rn all 146
 Xn:pr 92=cR rn all 92
 Rz:pr 373=bL 373
 no:∀f,f∈Rj→pr f=none
section
variable {rn:Nat}{all:Iq}{s:AS}{pr:Prim}
theorem BU(hp:OM rn all pr){b:UInt8}(hb:b.toNat<128)(stops:Bq):Ef pr 328 #[.int .i32 ((b.toNat:Nat):Int),str stops] s (.bool (decide (0≤jN b.toNat stops 0))) s:=by
 have a0:Ef pr 334 #[str stops,.int .u8 ((b.toNat:Nat):Int)] s (num (jN b.toNat stops 0)) s:=by
  have a1:Ef pr 373 #[str stops,.int .u8 ((b.toNat:Nat):Int)] s (num (jN b.toNat stops 0)) s:=by obtain⟨g,hg⟩:∃g,bL 373=some g:=⟨_,rfl⟩;have h0:=EF.eval (P:=prog) (kt:=mB) (pr:=bL) (f:=373) (args:=#[str stops,.int .u8 ((b.toNat:Nat):Int)]) (s:=s) (v:=num (jN (((b.toNat:Nat):Int).toNat % 256) stops 0)) (s':=s) 1 (by kernel_rfl);rw[toNat_mod] at h0;obtain⟨m,h0⟩:=h0;refine EF.qN (hp.Rz.trans hg) ?_;unfold br at h0;rw[hg] at h0;exact h0
  generalize jN b.toNat stops 0=ix at a1 ⊢;refine EF.of (hp.no 334 (by decide)) func334 rfl ?_;refine zs (zr (zc 2 a1 (zf ?_)));exact EW.ret ⟨.inr rfl,by kernel_rfl,by kernel_rfl⟩
 generalize jN b.toNat stops 0=ix at a0;have a2:Ef pr 264 #[str stops,.int .i32 ((b.toNat:Nat):Int)] s (num ix) s:=by refine EF.of (hp.no 264 (by decide)) func264 rfl ?_;refine zs (EW.block (zr (zk 1 (zp (yb (.int .i32 0) (.int .i32 ((b.toNat:Nat):Int)) (dY (b:=true) (decide_eq_true (by omega)))) (zk 2 (zp (yb (.int .i32 ((b.toNat:Nat):Int)) (.int .i32 128) (n7 (b:=true) (decide_eq_true (by omega)))) (zf (zH (zr (zg 2 s (EO.op (v:=.int .u8 ((b.toNat:Nat):Int)) (s1:=s) (by kernel_rfl) ((show _=some (Value.int .u8 (IntKind.u8.wrap ((b.toNat:Nat):Int)),s) by kernel_rfl).trans (by rw[IntKind.wrap_u8,show((b.toNat:Nat):Int) % 256=(b.toNat:Nat) by omega])) (zo s (yf a0 (zf ?_))))))))))))));exact EW.ret ⟨.inr rfl,by kernel_rfl,by kernel_rfl⟩
 have U:Ef pr 160 #[str stops,.int .i32 ((b.toNat:Nat):Int)] s (.bool (decide (0≤ix))) s:=by refine EF.of (hp.no 160 (by decide)) func160 rfl ?_;refine zs (zr (zc 2 a2 (zp (yb (num ix) (num 0) (iI (b:=decide (0≤ix)) rfl)) ?_)));generalize decide (0≤ix)=bb;refine zf ?_;exact EW.ret ⟨.inr rfl,by kernel_rfl,by kernel_rfl⟩
 generalize decide (0≤ix)=bb at U ⊢;refine EF.of (hp.no 328 (by decide)) func328 rfl ?_;refine zs (zr (zc 2 U (zf ?_)));exact EW.ret ⟨.inr rfl,by kernel_rfl,by kernel_rfl⟩
theorem Gn(hp:OM rn all pr){b:UInt8}(U:b.toNat<128)(h:b∉stops):Ef pr 328 #[.int .i32 ((b.toNat:Nat):Int),str stops] s (.bool false) s:=by have:=BU hp (s:=s) U stops;rw[qZ h] at this;exact this
theorem Dv(hp:OM rn all pr){b:UInt8}(U:b.toNat<128)(h:b∈stops):Ef pr 328 #[.int .i32 ((b.toNat:Nat):Int),str stops] s (.bool true) s:=by have:=BU hp (s:=s) U stops;rw[decide_eq_true (Gj h)] at this;exact this
variable {St:Nat→AS}{c:Nat}{p q r:Value}
theorem mM{a b:Option Value × Value}(ha:a.1=some a.2∧aU 20 a.2=true)(hb:b.1=some b.2∧aU 20 b.2=true):∀x∈[a,b],x.1=some x.2∧aU 20 x.2=true:=by
 intro x U;simp only[List.mem_cons,List.not_mem_nil,or_false] at U;rcases U with rfl|rfl
 ·exact ha
 ·exact hb
def Hc(c:Nat)(stops:List UInt8)(k:Nat)(x:Nat→Value):TL:=[am c 0,str stops,x 2,x 3,x 4,num (k:Nat)]++kl x 6 31
abbrev bR:List UInt8:=[9,10,12,13,32]
end
def To:AS:=⟨((⟨sA.hp,64⟩:AS).add (.cells #[.slice none 0 0] 56)).hp,66⟩
def Lk (k:Nat):AS:=To.add (.cells #[am 65 0,num (k:Nat),.pointer none,.slice none 0 0,.slice none 0 0] 121)
abbrev Pk:Obj:=.cells #[am 66 0] 196
def sc2 (bs:List UInt8)(k:Nat):AS:=((To.add (.cells #[am 65 0,num (k:Nat),am 66 2,.slice (some ⟨68,0,none⟩) bs.length bs.length,.slice none 0 0] 121)).add Pk).add (.cells (ll bs) 5 (1,1))
def NH (bs:List UInt8)(k:Nat):AS:=(sc2 bs k).add Pk
abbrev aG:Value:=.slice none 0 0
abbrev Kw(nm:List UInt8)(at_:Value):Obj:=.cells #[str nm,at_,.bool false] 262
abbrev QX(b:UInt8):Obj:=.stringIter ⟨#[b]⟩ 1
abbrev Pg:Obj:=.cells #[.pointer none,.slice none 0 0] 119
abbrev K2(a b:List UInt8):Obj:=.cells #[str a,str b] 47
def g1 (bs:List UInt8)(k:Nat):AS:=(NH bs k).add (Kw [] aG)
def g2 (bs:List UInt8)(k:Nat):AS:=(((NH bs k).add (Kw [97] aG)).add Pg).add (QX 97)
def g3 (bs:List UInt8)(k:Nat):AS:=(g2 bs k).add (K2 [] [])
def g4 (bs:List UInt8)(k:Nat):AS:=(((g3 bs k).add Pg).add (QX 98)).add (K2 [98] [])
def g5 (bs vh:List UInt8)(k:Nat):AS:=((((g2 bs k).add (K2 [98] vh)).add Pg).add (QX 98)).add (K2 [98] vh)
def g6 (bs vh:List UInt8)(k:Nat):AS:=((((((((((NH bs k).add (Kw [97] (.slice (some ⟨79,0,none⟩) 1 1))).add Pg).add (QX 97)).add (K2 [98] vh)).add Pg).add (QX 98)).add (K2 [98] vh)).add (K2 [98] vh)).add (K2 [98] vh)).add (.cells #[str [98],str vh] 47 (1,1))
abbrev Sg:Value:=.slice (some ⟨79,0,none⟩) 1 1
abbrev wx(bs:List UInt8):List Value:=[num 1,str bs,str [],aG,.bool false]
abbrev NW:List Value:=[num 2,str [],str [97],Sg,.bool false]
abbrev Sb(k:Nat)(l:Value):Obj:=.cells #[am 65 0,num (k:Nat),.pointer none,aG,l] 121
def h1 (bs vh:List UInt8)(k:Nat):AS:=(g6 bs vh k).add (Kw [97] Sg)
def Mg (bs vh:List UInt8)(k:Nat):AS:=(h1 bs vh k).add (.cells NW.toArray 60)
def e1 (bs vh:List UInt8)(k:Nat):AS:=((((Mg bs vh k).set 68 none).add (.cells (wx bs).toArray 60)).add (.cells (wx bs).toArray 60 (1,1))).set 66 (some (Sb k (.slice (some ⟨83,0,none⟩) 1 1)))
def h2 (bs vh:List UInt8)(k:Nat):AS:=((((e1 bs vh k).add (.cells NW.toArray 60)).set 83 none).add (.cells (wx bs++NW).toArray 60 (1,1))).set 66 (some (Sb k (.slice (some ⟨85,0,none⟩) 2 2)))
def h3 (bs vh:List UInt8)(k:Nat):AS:=((h2 bs vh k).add (.cells #[str [115,99,114,105,112,116],str [115,116,121,108,101]] 9)).add (.cells #[str [116,105,116,108,101],str [116,101,120,116,97,114,101,97]] 9)
section
variable {n:Nat}{V:Aq→Option Value}{all:Iq}{s:AS}{bs vh:Bq}
theorem M1{a:Option Value × Value}(ha:a.1=some a.2∧aU 20 a.2=true):∀x∈[a],x.1=some x.2∧aU 20 x.2=true:=by intro x U;simp only[List.mem_cons,List.not_mem_nil,or_false] at U;subst U;exact ha
end
def KI (l:List UInt8):Prop:=∀b∈l,b.toNat<128
theorem Ul{b:UInt8}(h:b.toNat<128):Lib.encodeRune ((b.toNat:Nat):Int)=[b]:=by unfold Lib.encodeRune;rw[Lib.encodeRuneZ_one (by omega) (by omega)];simp
def AS.only(s:AS):List Nat→AS
 | []=>⟨[],s.nx⟩
 | b::l=>match s.get b with
  | some o=>if nz o=true then (s.only l).set b (some o) else s.only l
  | none=>s.only l
theorem Cj(l:List Nat):wV fun s=>s.only l:=by
 intro s;induction l with
 | nil=>exact⟨rfl,fun b o h=>by simp only[AS.only] at h; unfold AS.get at h; simp at h⟩
 | cons b l U =>
  simp only[AS.only];split
  ·next o ho =>
   split
   ·next a0 =>
    refine⟨U.1,fun b' o' h=>?_⟩;rw[AS.aK] at h;split at h
    ·next e=>cases h; rw[e]; exact⟨ho,a0⟩
    ·exact U.2 b' o' h
   ·exact U
  ·exact U
theorem pR(d:α):∀(n:Nat) (l:List α) (x y:α),lS d n (lS d n l x) y=lS d n l y
 | 0,l,x,y=>by simp[lS]
 | n+1,l,x,y=>by have:=pR d n l.tail x y;simp[lS,this]
theorem pS(d:α):∀(n:Nat) (l:List α),n<l.length→lS d n l (l.getD n d)=l
 | 0,x::l,h=>by simp[lS]
 | n+1,x::l,h=>by have:=pS d n l (by simpa using h);simp only[lS,List.headD_cons,List.tail_cons,List.getD_cons_succ];rw[this]
 | _,[],h=>by simp at h
theorem AS.set_set(s:AS)(b:Nat)(x y:Option Obj):(s.set b x).set b y=s.set b y:=by unfold AS.set;simp only[ms,if_true];rw[pR,pR]
theorem AS.yP{s:AS}{b:Nat}{o:Obj}(h:s.get b=some o):s.set b (some o)=s:=by
 unfold AS.get at h;have h1:b % 16<(s.hp.getD (b / 16) []).length:=by
  by_cases U:b % 16<(s.hp.getD (b / 16) []).length
  ·exact U
  ·rw[List.getD_eq_getElem?_getD,List.getElem?_eq_none (by omega)] at h; cases h
 have h2:b / 16<s.hp.length:=by
  by_cases U:b / 16<s.hp.length
  ·exact U
  ·rw[List.getD_eq_getElem?_getD,List.getElem?_eq_none (by omega)] at h1; simp at h1
 unfold AS.set;have e:lS none (b % 16) (s.hp.getD (b / 16) []) (some o)=s.hp.getD (b / 16) []:=by have:=pS none (b % 16) (s.hp.getD (b / 16) []) h1;rw[h] at this;exact this
 rw[e,pS [] (b / 16) s.hp h2]
def Has (s:AS)(b:Nat)(o:Obj):Prop:=b<s.nx∧s.get b=some o
section
variable {s s' s1 s2:AS}{b c:Nat}{o o':Obj}
theorem Has.add(h:Has s b o)(x:Obj):Has (s.add x) b o:=⟨by have:=h.1; simp; omega,by rw[AS.aH,if_neg (by have:=h.1; omega)]; exact h.2⟩
theorem Has.new(s:AS)(o:Obj):Has (s.add o) s.nx o:=⟨by simp,by rw[AS.aH,if_pos rfl]⟩
theorem Has.set(h:Has s b o)(U:b≠c)(x:Option Obj):Has (s.set c x) b o:=⟨h.1,by rw[AS.aK,if_neg U]; exact h.2⟩
theorem Has.put(h:Has s b o)(o':Obj):Has (s.set b (some o')) b o':=⟨h.1,by rw[AS.aK,if_pos rfl]⟩
theorem Has.ne(h:Has s b (.cells cs t fz))(U:Has s c (.cells gU t' uh))(ht:t≠t'):b≠c:=fun e=>by
 have h1:=h.2;rw[e,U.2] at h1;injection h1 with q
 injection q with _ q2
 exact ht q2.symm
def aQ (K:Nat→Prop)(s s':AS):Prop:=s.nx≤s'.nx∧∀b,b<s.nx→¬K b→s'.get b=s.get b
theorem aQ.refl(s:AS):aQ K s s:=⟨Nat.le_refl _,fun _ _ _=>rfl⟩
theorem aQ.add(h:aQ K s s')(x:Obj):aQ K s (s'.add x):=⟨by have:=h.1; simp; omega,fun b hb hk=>by rw[AS.aH,if_neg (by have:=h.1; omega)]; exact h.2 b hb hk⟩
theorem aQ.set(h:aQ K s s')(hc:c<s.nx→K c)(x:Option Obj):aQ K s (s'.set c x):=⟨h.1,fun b U hk=>by rw[AS.aK,if_neg (fun e=>hk (by subst e; exact hc U))]; exact h.2 b U hk⟩
theorem aQ.trans(h:aQ K s s1)(U:aQ K' s1 s2)(hk:∀b,b<s.nx→K' b→K b):aQ K s s2:=⟨Nat.le_trans h.1 U.1,fun b hb hn=>by have:=h.1;rw[U.2 b (by omega) fun z=>hn (hk b hb z),h.2 b hb hn]⟩
theorem Has.fr(h:Has s b o)(U:aQ K s s')(hk:¬K b):Has s' b o:=⟨by have:=h.1; have:=U.1; omega,(U.2 b h.1 hk).trans h.2⟩
end
abbrev fI(rn k:Nat)(p q r:Value):Obj:=.cells #[am rn 0,num (k:Nat),p,q,r] 121
def sp (s:AS)(c rn:Nat)(p q r:Value)(k:Nat):AS:=s.set c (some (fI rn k p q r))
section
variable {s:AS}{c rn k k':Nat}{p q r:Value}
theorem dV:(sp s c rn p q r k).get c=some (fI rn k p q r):=by unfold sp; rw[AS.aK,if_pos rfl]
theorem nJ:(sp s c rn p q r k).set c (some (fI rn k' p q r))=sp s c rn p q r k':=by unfold sp; rw[AS.set_set]
theorem mH(h:s.get c=some (fI rn k p q r)):sp s c rn p q r k=s:=AS.yP h
end
def ej (l:Int)(stops:List UInt8):Bool:=stops.any fun b=>l==((b.toNat:Nat):Int)
def ux:List FuncId:=[40,70,71,72,73,84,148,149,156,158,159,248,249,252,253,257,259,260,261,322,324,325,326,364,365,366]
structure wE(rn:Nat)(all:List Int)(pr:Prim):Prop where
 D1:pr 146=cR rn all 146
 Xn:pr 92=cR rn all 92
 one:∀(s:AS) (l:Int) (stops:List UInt8),(l = -1∨l∈all)→KI stops→EF prog mB pr 328 #[.int .i32 l,str stops] s (.bool (ej l stops)) s
 no:∀f,f∈ux→pr f=none
 pos:∀l∈all,0≤l
 len:all.length≤100000
def gL (all:List Int)(stops:List UInt8)(k:Nat):Nat:=k+((all.drop k).takeWhile fun l=>!ej l stops).length
def mO (all:List Int)(some_:List UInt8)(k:Nat):Nat:=k+((all.drop k).takeWhile fun l=>ej l some_).length
theorem CF{f:α→Bool}:∀{l:List α} {j:Nat},j<(l.takeWhile f).length→∃x,l[j]?=some x∧f x=true
 | [],j,h=>by simp at h
 | x::l,j,h=>by
  rw[List.takeWhile_cons] at h;split at h
  ·next U =>
   cases j with
   | zero=>exact⟨x,rfl,U⟩
   | succ j=>exact CF (l:=l) (by simpa using h)
  ·simp at h
theorem wz(f:α→Bool):∀l:List α,l[(l.takeWhile f).length]?=none∨∃x,l[(l.takeWhile f).length]?=some x∧f x=false
 | []=>.inl rfl
 | x::l=>by
  rw[List.takeWhile_cons];split
  ·simpa using wz f l
  ·next U=>exact .inr ⟨x,rfl,by simpa using U⟩
theorem lQ(all:Iq)(k j:Nat):dz all (k+j)=((all.drop k)[j]?).getD (-1):=by unfold dz; rw[List.getElem?_drop]
theorem j6{all:Iq}{x:Int}(h:(all.drop k)[j]?=some x):dz all (k+j)=x∧x∈all:=⟨by rw[lQ,h]; rfl,List.mem_of_mem_drop (List.mem_of_getElem? h)⟩
theorem p9(f:α→Bool)(l:List α):(l.takeWhile f).length≤l.length:=(List.takeWhile_sublist f).length_le
def ec (all:List Int)(k j:Nat):List UInt8:=bw ((all.drop k).take (j-k))
section
variable {rn:Nat}{all:Iq}{pr:Prim}{s:AS}{c:Nat}{p q r:Value}
theorem wE.at(U:wE rn all pr)(k:Nat):dz all k = -1∨dz all k∈all:=by
 unfold dz;cases h:all[k]? with
 | none=>exact .inl rfl
 | some x=>exact .inr (List.mem_of_getElem? h)
theorem Iy(U:wE rn all pr)(i:Nat)(hk:k+i≤1000000):Ef pr 70 #[am c 0,num (i:Nat)] (sp s c rn p q r k) (.int .i32 (dz all (k+i))) (sp s c rn p q r k):=ku (U.no 70 (by decide)) U.D1 dV rfl rfl hk
theorem gE(hp:wE rn all pr)(U:k≤1000000):Ef pr 70 #[am c 0,num 0] (sp s c rn p q r k) (.int .i32 (dz all k)) (sp s c rn p q r k):=Iy hp 0 U
theorem wj(U:wE rn all pr)(hj:j≤1000000):Ef pr 92 #[am rn 0,num (k:Nat),num (j:Nat)] s (str (ec all k j)) s:=by refine EF.qN (U.Xn.trans rfl) ?_;simp only[am];rw[if_pos ⟨trivial,by omega,by omega,by omega⟩];simp[ec]
theorem Cz(k:Nat):aE prog 84 (am c 0) (sp s c rn p q r k)=some (am rn 0):=by unfold aE;simp only[am,dV,underlying84];rfl
theorem Hs(k:Nat):aE prog 3 (am c 1) (sp s c rn p q r k)=some (num (k:Nat)):=by unfold aE;simp only[am,dV,underlying3];rfl
theorem KC(hp:wE rn all pr)(a5:KI stops)(hk:k≤200000):Ef pr 259 #[am c 0,str stops] (sp s c rn p q r k) (str (ec all k (gL all stops k))) (sp s c rn p q r (gL all stops k)):=by
 have a4:=fun (j:Nat)=>CF (f:=fun l=>!ej l stops) (l:=all.drop k) (j:=j);have a1:=wz (fun l=>!ej l stops) (all.drop k);have jc:=p9 (fun l=>!ej l stops) (all.drop k);have BM:(all.drop k).length≤all.length:=by simp
 have a6:=hp.len;unfold gL;generalize ((all.drop k).takeWhile fun l=>!ej l stops).length=m at a4 a1 jc ⊢;refine EF.of (hp.no 259 (by decide)) func259 rfl ?_;refine zs (za (sp s c rn p q r k) (zr (zg 3 (sp s c rn p q r k) (zp (yl c 1 (num (k:Nat)) dV) (zf (za (sp s c rn p q r k) ?_))))));refine EW.fill (Hc c stops k) (by kernel_rfl) ?_;intro x0;refine EW.seq (EW.block ?_);refine EW.mono (EW.eD (Q:=fun e a' s'=>e=.exit 0∧s'=sp s c rn p q r (k+m)∧∃x,a'=Hc c stops k x) (fun u a' s'=>∃j,u+j=m∧s'=sp s c rn p q r (k+j)∧∃x,a'=Hc c stops k x) ?_ m _ _ ⟨0,by omega,rfl,x0,rfl⟩) ?_
 ·rintro u a' s' ⟨j,hu,rfl,x,rfl⟩;have pK:=gE (s:=s) (c:=c) (p:=p) (q:=q) (r:=r) hp (k:=k+j) (by omega);by_cases hj:j<m
  ·obtain⟨l,U,a2⟩:=a4 j hj;obtain⟨a3,a0⟩:=j6 U;have Ey:=hp.pos l a0;rw[a3] at pK;have FY:=hp.one (sp s c rn p q r (k+j)) l stops (.inr a0) a5;rw[show ej l stops=false by simpa using a2] at FY;refine EW.seq (zr (zc 1 pK (zp (yb (.int .i32 l) (.int .i32 (-1)) (cO (b:=true) (bne_iff_ne.2 (by omega)))) (zc 2 pK (zc 1 FY (zf (za (sp s c rn p q r (k+j)) (zT (EW.block (zx (zg 3 (sp s c rn p q r (k+j)) (zp (yl c 1 (num ((k+j:Nat):Int)) dV) (zp (yp ((k+j:Nat):Int) 1 ((k+(j+1):Nat):Int) (by omega) (by omega)) (zg 2 (sp s c rn p q r (k+j)) (zp (ys c 1 (num ((k+(j+1):Nat):Int)) dV (by simp)) (EO.nil ?_))))))))))))))));exact⟨u-1,by omega,j+1,by omega,nJ,bG (by kernel_rfl)⟩
  ·obtain rfl:j=m:=by omega
   rcases a1 with U|⟨l,U,a2⟩
   ·have e:dz all (k+j) = -1:=by rw[lQ,U]; rfl
    rw[e] at pK;refine EW.seq (zr (zc 1 pK (zf (za (sp s c rn p q r (k+j)) (zG (EW.exit ?_))))));exact⟨rfl,rfl,bG (by kernel_rfl)⟩
   ·obtain⟨a3,a0⟩:=j6 U;have Ey:=hp.pos l a0;rw[a3] at pK;have FY:=hp.one (sp s c rn p q r (k+j)) l stops (.inr a0) a5;rw[show ej l stops=true by simpa using a2] at FY;refine EW.seq (zr (zc 1 pK (zp (yb (.int .i32 l) (.int .i32 (-1)) (cO (b:=true) (bne_iff_ne.2 (by omega)))) (zc 2 pK (zc 1 FY (zf (za (sp s c rn p q r (k+j)) (zG (EW.exit ?_)))))))));exact⟨rfl,rfl,bG (by kernel_rfl)⟩
 rintro e a' s' ⟨rfl,rfl,x,rfl⟩;have vI:=wj hp (s:=sp s c rn p q r (k+m)) (k:=k) (j:=k+m) (by omega);generalize ec all k (k+m)=tx at vI ⊢;refine EW.seq (EW.draw (by kernel_rfl) (by kernel_rfl) (by kernel_rfl) ?_);iterate 3 refine zq ?_
 refine zt (sp s c rn p q r (k+m)) (zu (yl c 0 (am rn 0) dV) ?_);iterate 4 refine zq ?_
 refine zt (sp s c rn p q r (k+m)) (zu (yl c 1 (num ((k+m:Nat):Int)) dV) (yt vI (zq (ET.nil ⟨aM [(aE prog 84 (am c 0) (sp s c rn p q r (k+m)),am rn 0),(aE prog 3 (am c 1) (sp s c rn p q r (k+m)),num ((k+m:Nat):Int))] (by kernel_rfl) (mM ⟨Cz _,rfl⟩ ⟨Hs _,rfl⟩),_,_,_,_,_,_,rfl,rfl,?_⟩))));exact yR
theorem N2(U:wE rn all pr)(stops:Bq)(k:Nat):k≤gL all stops k∧gL all stops k≤k+100000:=by
 have h1:=p9 (fun l=>!ej l stops) (all.drop k);have h2:(all.drop k).length≤all.length:=by simp
 have h3:=U.len;unfold gL;omega
theorem Lr(hp:wE rn all pr)(hb:b0.toNat<128)(hk:k≤200000):Ef pr 260 #[am c 0,str [b0]] (sp s c rn p q r k) (str (ec all k (gL all [b0] k))) (sp s c rn p q r (gL all [b0] k+1)):=by have U:=KC (s:=s) (c:=c) (p:=p) (q:=q) (r:=r) hp (stops:=[b0]) (by intro b h; simp at h; subst h; exact hb) (k:=k) hk;have wJ:=N2 hp [b0] k;generalize ec all k (gL all [b0] k)=tx at U ⊢;generalize gL all [b0] k=k1 at *;refine EF.of (hp.no 260 (by decide)) func260 rfl ?_;refine zs (zr (zc 2 U (zf (za (sp s c rn p q r k1) (zr (zg 3 (sp s c rn p q r k1) (zp (yl c 1 (num (k1:Nat)) dV) (zk 2 (zp (yp (k1:Nat) 1 ((k1+1:Nat):Int) (by omega) (by omega)) (zg 2 (sp s c rn p q r k1) (zp (ys c 1 (num ((k1+1:Nat):Int)) dV (by simp)) (EO.nil (EW.gm (sp s c rn p q r (k1+1)) nJ (zs ?_))))))))))))));exact yR
theorem sF:KI bR:=by intro b h; simp at h; rcases h with rfl|rfl|rfl|rfl|rfl<;>decide
def Hb(c:Nat)(x:Nat→Value):TL:=[am c 0]++kl x 1 11
theorem G8(hp:wE rn all pr)(hk:k≤200000):Ef pr 257 #[am c 0] (sp s c rn p q r k) (.tuple #[]) (sp s c rn p q r (mO all bR k)):=by
 have a6:=fun (j:Nat)=>CF (f:=fun l=>ej l bR) (l:=all.drop k) (j:=j);have a2:=wz (fun l=>ej l bR) (all.drop k);have jc:=p9 (fun l=>ej l bR) (all.drop k);have BM:(all.drop k).length≤all.length:=by simp
 have a7:=hp.len;unfold mO;generalize ((all.drop k).takeWhile fun l=>ej l bR).length=m at a6 a2 jc ⊢;refine EF.of (hp.no 257 (by decide)) func257 rfl ?_;refine za (sp s c rn p q r k) ?_;refine EW.fill (Hb c) (by kernel_rfl) ?_;intro x0;refine EW.block ?_;refine EW.mono (EW.eD (Q:=fun e a' s'=>e=.exit 0∧s'=sp s c rn p q r (k+m)∧∃x,a'=Hb c x) (fun u a' s'=>∃j,u+j=m∧s'=sp s c rn p q r (k+j)∧∃x,a'=Hb c x) ?_ m _ _ ⟨0,by omega,rfl,x0,rfl⟩) ?_
 ·rintro u a' s' ⟨j,hu,rfl,x,rfl⟩;have a1:=gE (s:=s) (c:=c) (p:=p) (q:=q) (r:=r) hp (k:=k+j) (by omega);by_cases hj:j<m
  ·obtain⟨l,a0,a3⟩:=a6 j hj;obtain⟨a4,a5⟩:=j6 a0;rw[a4] at a1;have U:=hp.one (sp s c rn p q r (k+j)) l bR (.inr a5) sF;rw[show ej l bR=true by simpa using a3] at U;refine EW.seq (zr (zc 1 a1 (zc 0 U (EO.nil (zT (EW.block (zx (zg 3 (sp s c rn p q r (k+j)) (zp (yl c 1 (num ((k+j:Nat):Int)) dV) (zp (yp ((k+j:Nat):Int) 1 ((k+(j+1):Nat):Int) (by omega) (by omega)) (zg 2 (sp s c rn p q r (k+j)) (zp (ys c 1 (num ((k+(j+1):Nat):Int)) dV (by simp)) (EO.nil ?_)))))))))))));exact⟨u-1,by omega,j+1,by omega,nJ,bG (by kernel_rfl)⟩
  ·obtain rfl:j=m:=by omega
   have U:Ef pr 328 #[.int .i32 (dz all (k+j)),str bR] (sp s c rn p q r (k+j)) (.bool false) (sp s c rn p q r (k+j)):=by
    rcases a2 with a0|⟨l,a0,a3⟩
    ·have e:dz all (k+j) = -1:=by rw[lQ,a0]; rfl
     rw[e];exact hp.one _ _ bR (.inl rfl) sF
    ·obtain⟨a4,a5⟩:=j6 a0;rw[a4]
     have:=hp.one (sp s c rn p q r (k+j)) l bR (.inr a5) sF;rw[show ej l bR=false by simpa using a3] at this;exact this
   generalize dz all (k+j)=l at a1 U;refine EW.seq (zr (zc 1 a1 (zc 0 U (EO.nil (zG (EW.exit ?_))))));exact⟨rfl,rfl,bG (by kernel_rfl)⟩
 rintro e a' s' ⟨rfl,rfl,x,rfl⟩;exact⟨.inl rfl,(by kernel_rfl),(by kernel_rfl)⟩
def sw(all:List Int)(k:Nat):Bool:=decide (k<mO all (bR++[47]) k)&&(dz all (mO all (bR++[47]) k-1)==47)
theorem Ho:KI (bR++[47]):=by intro b h; simp at h; rcases h with rfl|rfl|rfl|rfl|rfl|rfl<;>decide
def wo(c:Nat)(b:Bool)(x:Nat→Value):TL:=[am c 0,x 1,.bool b]++kl x 3 14
theorem Kh(hp:wE rn all pr)(hk:k≤200000):Ef pr 324 #[am c 0] (sp s c rn p q r k) (.bool (sw all k)) (sp s c rn p q r (mO all (bR++[47]) k)):=by
 have a6:=fun (j:Nat)=>CF (f:=fun l=>ej l (bR++[47])) (l:=all.drop k) (j:=j);have a3:=wz (fun l=>ej l (bR++[47])) (all.drop k);have jc:=p9 (fun l=>ej l (bR++[47])) (all.drop k);have BM:(all.drop k).length≤all.length:=by simp
 have a7:=hp.len;unfold sw mO;generalize ((all.drop k).takeWhile fun l=>ej l (bR++[47])).length=m at a6 a3 jc ⊢;refine EF.of (hp.no 324 (by decide)) func324 rfl ?_;refine zs (za (sp s c rn p q r k) ?_);refine EW.fill (wo c false) (by kernel_rfl) ?_;intro x0;refine EW.seq (EW.block ?_);refine EW.mono (EW.eD (Q:=fun e a' s'=>e=.exit 0∧s'=sp s c rn p q r (k+m)∧∃x,a'=wo c (decide (k<k+m)&&(dz all (k+m-1)==47)) x) (fun u a' s'=>∃j,u+j=m∧s'=sp s c rn p q r (k+j)∧∃x,a'=wo c (decide (k<k+j)&&(dz all (k+j-1)==47)) x) ?_ m _ _ ⟨0,by omega,rfl,x0,by simp[wo]⟩) ?_
 ·rintro u a' s' ⟨j,hu,rfl,x,rfl⟩;have a0:=gE (s:=s) (c:=c) (p:=p) (q:=q) (r:=r) hp (k:=k+j) (by omega);by_cases hj:j<m
  ·obtain⟨l,a1,a4⟩:=a6 j hj;obtain⟨a2,a5⟩:=j6 a1;have iN:(decide (k<k+(j+1))&&(dz all (k+(j+1)-1)==47))=(l==47):=by rw[show k+(j+1)-1=k+j by omega,a2]; simp
   rw[a2] at a0;have U:=hp.one (sp s c rn p q r (k+j)) l (bR++[47]) (.inr a5) Ho;rw[show ej l (bR++[47])=true by simpa using a4] at U;generalize (decide (k<k+j)&&(dz all (k+j-1)==47))=b0;refine EW.seq (zr (zc 1 a0 (zc 0 U (EO.nil (zT (EW.block (zr (zc 1 a0 (zp (yb (.int .i32 l) (.int .i32 47) (gF (b:=l==47) rfl)) ?_)))))))));generalize Ml:(l==(47:Int))=b1 at iN;refine zf (za (sp s c rn p q r (k+j)) (zx (zg 3 (sp s c rn p q r (k+j)) (zp (yl c 1 (num ((k+j:Nat):Int)) dV) (zp (yp ((k+j:Nat):Int) 1 ((k+(j+1):Nat):Int) (by omega) (by omega)) (zg 2 (sp s c rn p q r (k+j)) (zp (ys c 1 (num ((k+(j+1):Nat):Int)) dV (by simp)) (EO.nil ?_))))))));exact⟨u-1,by omega,j+1,by omega,nJ,by rw[iN]; exact bG (by kernel_rfl)⟩
  ·obtain rfl:j=m:=by omega
   have U:Ef pr 328 #[.int .i32 (dz all (k+j)),str (bR++[47])] (sp s c rn p q r (k+j)) (.bool false) (sp s c rn p q r (k+j)):=by
    rcases a3 with a1|⟨l,a1,a4⟩
    ·have e:dz all (k+j) = -1:=by rw[lQ,a1]; rfl
     rw[e];exact hp.one _ _ (bR++[47]) (.inl rfl) Ho
    ·obtain⟨a2,a5⟩:=j6 a1;rw[a2]
     have:=hp.one (sp s c rn p q r (k+j)) l (bR++[47]) (.inr a5) Ho;rw[show ej l (bR++[47])=false by simpa using a4] at this;exact this
   generalize (decide (k<k+j)&&(dz all (k+j-1)==47))=b0;generalize dz all (k+j)=l at a0 U;refine EW.seq (zr (zc 1 a0 (zc 0 U (EO.nil (zG (EW.exit ?_))))));exact⟨rfl,rfl,bG (by kernel_rfl)⟩
 rintro e a' s' ⟨rfl,rfl,x,rfl⟩;generalize (decide (k<k+m)&&(dz all (k+m-1)==47))=b0;refine zs ?_;exact yR
def gz (all:List Int)(k:Nat):List UInt8 × Nat:=if dz all k=34 then (ec all (k+1) (gL all [34] (k+1)),gL all [34] (k+1)+1) else if dz all k=39 then (ec all (k+1) (gL all [39] (k+1)),gL all [39] (k+1)+1) else (ec all k (gL all (bR++[62]) k),gL all (bR++[62]) k)
theorem KD(hp:wE rn all pr)(hk:k≤150000)(U:dz all k=34):Ef pr 366 #[am c 0] (sp s c rn p q r k) (str (gz all k).1) (sp s c rn p q r (gz all k).2):=by have a0:=gE (s:=s) (c:=c) (p:=p) (q:=q) (r:=r) hp (k:=k) (by omega);unfold gz;rw[if_pos U];rw[U] at a0;have qY:=Lr (s:=s) (c:=c) (p:=p) (q:=q) (r:=r) hp (b0:=34) (by decide) (k:=k+1) (by omega);generalize ec all (k+1) (gL all [34] (k+1))=tx at qY ⊢;generalize gL all [34] (k+1)+1=k1 at qY ⊢;refine EF.of (hp.no 366 (by decide)) func366 rfl ?_;refine zs (EW.seq (zr (zc 1 a0 (zf (za (sp s c rn p q r k) (zs (EW.block (zs (za (sp s c rn p q r k) (zH (zr (zg 3 (sp s c rn p q r k) (zp (yl c 1 (num (k:Nat)) dV) (zp (yp (k:Nat) 1 ((k+1:Nat):Int) (by omega) (by omega)) (zg 2 (sp s c rn p q r k) (zp (ys c 1 (num ((k+1:Nat):Int)) dV (by simp)) (EO.nil (EW.gm (sp s c rn p q r (k+1)) nJ (zr (zc 3 qY (zf ?_)))))))))))))))))))));exact EW.ret ⟨.inr rfl,(by kernel_rfl),(by kernel_rfl)⟩
end
end Go.Proofs.YtgcaionclkbehaaGreatDoor
