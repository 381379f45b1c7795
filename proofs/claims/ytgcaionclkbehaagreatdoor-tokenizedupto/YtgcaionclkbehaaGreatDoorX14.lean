import Derived.Test.YtgcaionclkbehaaGreatDoorX11
set_option linter.all false
set_option maxHeartbeats 8000000
set_option maxRecDepth 100000
namespace Go.Proofs.YtgcaionclkbehaaGreatDoor
open Go.Conc Go.RowKit Go.Lib Tryz
variable [Inhabited KC]
def cU (t:Bq):Bq:=t.map λb=>if 65<=b.toNat/\b.toNat<=90 then UInt8.ofNat (b.toNat+32) else b
def Vf (t w:Bq)(k:Nat):Bool:=decide (k+w.length<=t.length)&&ce (cU<|(t.take<|k+w.length).drop k) w
section
variable {pr:Prim}{s:AS}{t w:Bq}{k:Nat}
def C1(h:pr 350=none)(a:∀u:Bq,u.length<=1000000->Ef pr 379 #[str u] s (str<|cU u) s)(e:t.length<=1000000)(d:k<=1000000)(f:w.length<=1000):Ef pr 350 #[str t,num k,str w] s (.bool<|Vf t w k) s:=by
 unfold Vf;refine aQ h func350 O<|zs<|EW.seq<|zr<|zk 2<|zp (di (l:=w) O underlying9 kq)<|zp (dV (i:=(k:Int)) (j:=(w.length:Int)) (r:=((k+w.length:Nat):Int)) O kq kq oq oq)<|zk 1<|zp (di (l:=t) O underlying9 kq) ?_;by_cases c:k+w.length<=t.length
 .refine zp (aI (u:=num ((k+w.length:Nat):Int)) (w:=num (t.length:Int)) O kq kq<|db<|fD oq)<|EO.nil<|aJ kq<|EW.skip ?_;rw[tD c,Bool.true_and];exact zr<|zk 4<|zp (di (l:=w) O underlying9 kq)<|zp (dV (i:=(k:Int)) (j:=(w.length:Int)) (r:=((k+w.length:Nat):Int)) O kq kq oq oq)<|zp (Ay (l:=t) (i:=k) O underlying9 kq<|(show _=bM t.length t.length (some<|num (k:Int)) (some<|num _) from kq).trans<|zM oq c)<|zc 0 (a ((t.take<|k+w.length).drop k)<|by rw[List.length_drop,List.length_take];omega)<|zk 1<|zp (aI (u:=str<|cU<|(t.take<|k+w.length).drop k) (w:=str w) O kq kq<|nt O)<|zf<|EW.ret ⟨.inr O,kq,kq⟩
 .refine zp (aI (u:=num ((k+w.length:Nat):Int)) (w:=num (t.length:Int)) O kq kq<|db<|tD oq)<|EO.nil ?_;rw[fD c,Bool.false_and];exact bU kq<|zs<|EW.ret ⟨.inr O,kq,kq⟩
def Yd (a n:Nat):Int:=if lu (n:Int)<a then (lu (n:Int):Int) else -1
def YB (L:List Nat)(pr:Prim):Prim:=λf=>bif L.contains f then none else pr f
def LV{L:List Nat}(h:∀f∈L,pr f=none):pr=YB L pr:=by
 funext f;unfold YB;cases hc:L.contains f with
 | false=>rfl
 | true=>exact h f<|by simpa using hc
def Om(s:AS):BB (λn=>Ef (YB [279,391] pr) 391 #[.int .u8 (n:Int),num 10] s (num<|Yd 10 n) s) 256:=by
 iterate 256 refine⟨?_,fH 30 kq⟩
 trivial
def On(s:AS):BB (λn=>Ef (YB [279,391] pr) 391 #[.int .u8 (n:Int),num 16] s (num<|Yd 16 n) s) 256:=by
 iterate 256 refine⟨?_,fH 30 kq⟩
 trivial
def Oo(h:pr 391=none)(e:pr 279=none){a:Nat}(d:a=10\/a=16)(c:UInt8):Ef pr 391 #[.int .u8 (c.toNat:Int),num a] s (num<|Yd a c.toNat) s:=by
 rw[LV (pr:=pr) (L:=[279,391]) (by intro f b;simp at b;rcases b with rfl|rfl<;>assumption)];rcases d with rfl|rfl
 .exact lj (Om s) c.toNat_lt
 .exact lj (On s) c.toNat_lt
end
section
variable {pr:Prim}{s:AS}
def EL(h:pr 392=none){v:Nat}(j:v<=2000000):Ef pr 392 #[num v] s (num<|vX v) s:=by
 by_cases c:v=0\/v=128\/v=130\/v=133\/v=145\/v=146\/v=147\/v=148\/v=149\/v=150\/v=151\/v=153
 .rw[LV (pr:=pr) (L:=[392]) (by intro f a;simp at a;subst a;exact h)];rcases c with rfl|rfl|rfl|rfl|rfl|rfl|rfl|rfl|rfl|rfl|rfl|rfl<;>exact fH 40 kq
 .have e:vX v=if v=0\/(55296<=v/\v<=57343)\/1114111<v then 65533 else (v:Int):=by unfold vX;split<;>first|rfl|(exfalso;omega)
  rw[e];refine aQ h func392 O<|zs<|EW.seq<|zs<|EW.block<|zr<|zp (aI (u:=num (v:Int)) (w:=num 128) O kq kq<|fh (b:=false)<|bF.2 oq)<|zf<|aJ kq<|zr<|zp (aI (u:=num (v:Int)) (w:=num 130) O kq kq<|fh (b:=false)<|bF.2 oq)<|zf<|aJ kq<|zr<|zp (aI (u:=num (v:Int)) (w:=num 133) O kq kq<|fh (b:=false)<|bF.2 oq)<|zf<|aJ kq<|zr<|zp (aI (u:=num (v:Int)) (w:=num 145) O kq kq<|fh (b:=false)<|bF.2 oq)<|zf<|aJ kq<|zr<|zp (aI (u:=num (v:Int)) (w:=num 146) O kq kq<|fh (b:=false)<|bF.2 oq)<|zf<|aJ kq<|zr<|zp (aI (u:=num (v:Int)) (w:=num 147) O kq kq<|fh (b:=false)<|bF.2 oq)<|zf<|aJ kq<|zr<|zp (aI (u:=num (v:Int)) (w:=num 148) O kq kq<|fh (b:=false)<|bF.2 oq)<|zf<|aJ kq<|zr<|zp (aI (u:=num (v:Int)) (w:=num 149) O kq kq<|fh (b:=false)<|bF.2 oq)<|zf<|aJ kq<|zr<|zp (aI (u:=num (v:Int)) (w:=num 150) O kq kq<|fh (b:=false)<|bF.2 oq)<|zf<|aJ kq<|zr<|zp (aI (u:=num (v:Int)) (w:=num 151) O kq kq<|fh (b:=false)<|bF.2 oq)<|zf<|aJ kq<|zr<|zp (aI (u:=num (v:Int)) (w:=num 153) O kq kq<|fh (b:=false)<|bF.2 oq)<|zf<|aJ kq<|EW.skip<|EW.seq<|zr<|zk 1<|zp (aI (u:=num (v:Int)) (w:=num 0) O kq kq<|fh (b:=false)<|bF.2 oq)<|zk 2 ?_;by_cases d:55296<=v
  .refine zp (aI (u:=num (v:Int)) (w:=num 55296) O kq kq<|jp (b:=true)<|tD oq)<|zk 2 ?_;by_cases g:v<=57343
   .refine zp (aI (u:=num (v:Int)) (w:=num 57343) O kq kq<|j7 (b:=true)<|tD oq)<|zf ?_;rw[ip oq];exact bU kq<|zs<|EW.ret ⟨.inr O,kq,kq⟩
   .refine zp (aI (u:=num (v:Int)) (w:=num 57343) O kq kq<|j7 (b:=false)<|fD oq)<|zk 4 ?_;by_cases i:1114111<v
    .refine zp (aI (u:=num (v:Int)) (w:=num 1114111) O kq kq<|db (b:=true)<|tD oq)<|zf ?_;rw[ip oq];exact bU kq<|zs<|EW.ret ⟨.inr O,kq,kq⟩
    .refine zp (aI (u:=num (v:Int)) (w:=num 1114111) O kq kq<|db (b:=false)<|fD oq)<|zf ?_;rw[iw oq];exact aJ kq<|EW.skip<|zs<|EW.ret ⟨.inr O,kq,kq⟩
  .refine zp (aI (u:=num (v:Int)) (w:=num 55296) O kq kq<|jp (b:=false)<|fD oq)<|zk 7<|zp (aI (u:=num (v:Int)) (w:=num 1114111) O kq kq<|db (b:=false)<|fD oq)<|zf ?_;rw[iw oq];exact aJ kq<|EW.skip<|zs<|EW.ret ⟨.inr O,kq,kq⟩
end
def RA(t:Bq)(p k base:Nat)(x:Nq):TL:=[str t,num p,x 2,x 3,num 0,num 0,num k,num base]++fW x 8 62
def wN(t:Bq)(p k base fr n:Nat)(x:Nq):TL:=[str t,num p,x 2,x 3,num 0,num 0,num k,num base,num fr,num n]++fW x 10 60
def QT (t:Bq)(p:Nat):Int × Nat :=
 let u:=t.drop<|p+2
 let d:=kO (nu u) (u.drop<|jD u) 0
 if d.2=0 then (0,0) else (vX d.1,p+2+jD u+d.2+bif lg 59 (u.drop<|jD u+d.2) then 1 else 0)
def oX{t:Bq}{k:Nat}{c:UInt8}:lg c (t.drop k)=match t[k]? with|none=>false|some y=>y.toNat.beq c.toNat:=by
 cases h:t[k]? with
 | none=>rw[List.drop_eq_nil_of_le (List.getElem?_eq_none_iff.1 h)];rfl
 | some y =>obtain⟨a,e⟩:=gS.1 h;rw[List.drop_eq_getElem_cons a,e];rfl
def GN(a:Nat):∀(l:Bq) (v:Nat),v<=2000000->(kO a l v).1<=2000000
 | [],v,h=>h
 | b::l,v,h=>by
  unfold kO;split
  .exact GN a l _ oq
  .exact h
section
variable {pr:Prim}{s:AS}{t:Bq}{p:Nat}
def D5(h:pr 388=none)(M:pr 391=none)(K:pr 279=none)(O:pr 392=none)(ht:t.length<=1000000)(hp:p<=1000000):Ef pr 388 #[str t,num p] s (.tuple #[num (QT t p).1,num ((QT t p).2:Nat)]) s:=by
 refine aQ h func388 rfl<|zs<|zr<|zk 1<|zp (dV (i:=(p:Int)) (j:=2) (r:=((p+2:Nat):Int)) rfl kq kq oq oq)<|zf<|zs<|EW.fill (RA t p (p+2) 10) kq ?_;intro x0;refine EW.seq<|EW.mono (Q:=λe o C=>e=.normal/\C=s/\∃x,o=RA t p (p+2+jD (t.drop<|p+2)) (nu<|t.drop<|p+2) x) ?_ ?_
 .refine zr<|zk 2<|zp (di (l:=t) rfl underlying9 kq) ?_;by_cases J:p+2<t.length
  .have z:t[p+2]?=some t[p+2]:=gE J;generalize t[p+2]=b at z;have y:lg 120 (t.drop<|p+2)=((b.toNat:Int)==120):=by
    rw[oX,z];show b.toNat.beq 120=_;cases B:b.toNat.beq 120 with
    | true=>rw[ja B];rfl
    | false=>rw[bF.2 (λe=>Nat.ne_of_beq_eq_false B oq)]
   have Y:lg 88 (t.drop<|p+2)=((b.toNat:Int)==88):=by
    rw[oX,z];show b.toNat.beq 88=_;cases B:b.toNat.beq 88 with
    | true=>rw[ja B];rfl
    | false=>rw[bF.2 (λe=>Nat.ne_of_beq_eq_false B oq)]
   refine zp (aI (u:=num ((p+2:Nat):Int)) (w:=num (t.length:Int)) rfl kq kq<|cj (b:=true)<|tD oq)<|zk 3<|zp (gp (k:=.i64) (l:=t) (n:=((p+2:Nat):Int)) (b:=b) rfl underlying9 kq kq oq<|by rw[Iu];exact z) ?_;cases q1:lg 120 (t.drop<|p+2) with
   | true =>refine zp (aI (u:=.int .u8 (b.toNat:Int)) (w:=.int .u8 120) rfl kq kq<|cQ (b:=true)<|y.symm.trans q1)<|zf<|bU kq<|zs<|zx<|zk 1<|zp (dV (i:=((p+2:Nat):Int)) (j:=1) (r:=((p+2+1:Nat):Int)) rfl kq kq oq oq)<|zf ?_;rw[show jD (t.drop<|p+2)=1 by unfold jD;rw[q1];rfl,show nu (t.drop<|p+2)=16 by unfold nu;rw[q1];rfl];exact⟨rfl,kq,aP kq⟩
   | false =>
    refine zp (aI (u:=.int .u8 (b.toNat:Int)) (w:=.int .u8 120) rfl kq kq<|cQ (b:=false)<|y.symm.trans q1)<|zk 3<|zp (gp (k:=.i64) (l:=t) (n:=((p+2:Nat):Int)) (b:=b) rfl underlying9 kq kq oq<|by rw[Iu];exact z) ?_;cases q2:lg 88 (t.drop<|p+2) with
    | true =>refine zp (aI (u:=.int .u8 (b.toNat:Int)) (w:=.int .u8 88) rfl kq kq<|cQ (b:=true)<|Y.symm.trans q2)<|zf<|bU kq<|zs<|zx<|zk 1<|zp (dV (i:=((p+2:Nat):Int)) (j:=1) (r:=((p+2+1:Nat):Int)) rfl kq kq oq oq)<|zf ?_;rw[show jD (t.drop<|p+2)=1 by unfold jD;rw[q1,q2];rfl,show nu (t.drop<|p+2)=16 by unfold nu;rw[q1,q2];rfl];exact⟨rfl,kq,aP kq⟩
    | false =>refine zp (aI (u:=.int .u8 (b.toNat:Int)) (w:=.int .u8 88) rfl kq kq<|cQ (b:=false)<|Y.symm.trans q2)<|zf<|aJ kq<|EW.skip ?_;rw[show jD (t.drop<|p+2)=0 by unfold jD;rw[q1,q2];rfl,show nu (t.drop<|p+2)=10 by unfold nu;rw[q1,q2];rfl,Nat.add_zero];exact⟨rfl,kq,aP kq⟩
  .have y:t.drop (p+2)=[]:=List.drop_eq_nil_of_le oq;refine zp (aI (u:=num ((p+2:Nat):Int)) (w:=num (t.length:Int)) rfl kq kq<|cj (b:=false)<|fD oq)<|zf<|aJ kq<|EW.skip ?_;rw[show jD (t.drop<|p+2)=0 by rw[y];rfl,show nu (t.drop<|p+2)=10 by rw[y];rfl,Nat.add_zero];exact⟨rfl,kq,aP kq⟩
 .rintro e o S ⟨rfl,rfl,x,rfl⟩;have P:nu (t.drop<|p+2)=10\/nu (t.drop<|p+2)=16:=by unfold nu;cases lg 120 (t.drop<|p+2)||lg 88 (t.drop<|p+2)<;>simp
  have oy:jD (t.drop<|p+2)<=1:=(K4 _).2;unfold QT;simp only[List.drop_drop];rw[show p+2+(jD (t.drop<|p+2)+(kO (nu<|t.drop<|p+2) (t.drop<|p+2+jD (t.drop<|p+2)) 0).2)=p+2+jD (t.drop<|p+2)+(kO (nu<|t.drop<|p+2) (t.drop<|p+2+jD (t.drop<|p+2)) 0).2 by omega];generalize nu (t.drop<|p+2)=a at *;have Yp:p+2+jD (t.drop<|p+2)<=1000003:=oq
  generalize p+2+jD (t.drop<|p+2)=f at *;have hD:(kO a (t.drop f) 0).1<=2000000:=GN _ _ _ oq;generalize U:kO a (t.drop f) 0=D at *;refine zs<|zs<|EW.fill (wN t p f a f 0) kq ?_;intro x1;refine EW.seq<|EW.block<|EW.mono (aZ (Q:=λe o C=>e=.exit 0/\C=S/\D.2<=1000000/\∃x,o=wN t p (f+D.2) a f D.1 x) (λu o C=>C=S/\∃q n,q<=1000000/\n<=2000000/\kO a (t.drop<|f+q) n=(D.1,u)/\u+q=D.2/\∃x,o=wN t p (f+q) a f n x) ?_ D.2 _ _ ⟨kq,0,0,oq,oq,U,rfl,x1,rfl⟩) ?_
  .rintro u o A ⟨rfl,q,n,B,hn,c,huq,x,rfl⟩;refine EW.seq<|zr<|zk 2<|zp (di (l:=t) rfl underlying9 kq) ?_;by_cases J:f+q<t.length
   .refine zp (aI (u:=num ((f+q:Nat):Int)) (w:=num (t.length:Int)) rfl kq kq<|cj (b:=true)<|tD oq)<|EO.nil<|bU kq<|EW.skip ?_;have z:t[f+q]?=some t[f+q]:=gE J;rw[List.drop_eq_getElem_cons J] at c;generalize t[f+q]=b at z c;have E:=Oo (s:=A) M K P b;unfold kO at c;refine EW.block<|zr<|zk 2<|zp (gp (k:=.i64) (l:=t) (n:=((f+q:Nat):Int)) (b:=b) rfl underlying9 kq kq oq<|by rw[Iu];exact z)<|zc 1 E<|zf<|za A ?_;unfold Yd at *;by_cases Z:lu (b.toNat:Int)<a
    .rw[ip Z] at c |-;generalize lu (b.toNat:Int)=d at *;refine EW.seq<|zr<|zk 1<|zp (aI (u:=num (d:Int)) (w:=num 0) rfl kq kq<|cj (b:=false)<|fD oq)<|EO.nil<|aJ kq<|EW.skip ?_;have R:(n:Int)*(a:Nat)<=32000000/\0<=(n:Int)*(a:Nat)/\(n:Int)*(a:Nat)=((n*a:Nat):Int):=by rcases P with rfl|rfl<;>omega
     have hd16:d<16:=oq
     have V:(n:Int)*(a:Nat)=((n*a:Nat):Int):=R.2.2;generalize n*a=m at *;have hvb:m<=32000000:=oq
     have I:t.drop (f+q+1)=t.drop (f+(q+1)):=rfl;rw[I] at c;have G:kO a (t.drop<|f+(q+1)) (min (m+d) 2000000)=(D.1,u-1):=by generalize kO a (t.drop<|f+(q+1)) (min (m+d) 2000000)=N at c;have⟨N1,N2⟩:=N;simp only[Prod.mk.injEq] at c |-;omega
     have hu1:1<=u:=by have:=congrArg Prod.snd c;simp only at this;omega
     refine zr<|zg 2 A<|zp (v:=num m) (s1:=A) ((show _=some (num<|IntKind.i64.wrap<|(n:Int)*(a:Nat),A) from kq).trans<|by rw[V,NV oq])<|zg 1 A<|zp (dV (i:=(m:Int)) (j:=(d:Int)) (r:=((m+d:Nat):Int)) rfl kq kq oq oq)<|zf<|za A<|EW.seq<|EW.mono (Q:=λe o C=>e=.normal/\C=A/\∃x,o=wN t p (f+q) a f (min (m+d) 2000000) x) ?_ ?_
     .refine zr<|zk 1 ?_;by_cases hg:2000000<m+d
      .rw[show min (m+d) 2000000=2000000 by omega];exact zp (aI (u:=num ((m+d:Nat):Int)) (w:=num 2000000) rfl kq kq<|db (b:=true)<|tD oq)<|EO.nil<|bU kq<|EW.go 9 kq ⟨rfl,kq,aP kq⟩
      .rw[show min (m+d) 2000000=m+d by omega];exact zp (aI (u:=num ((m+d:Nat):Int)) (w:=num 2000000) rfl kq kq<|db (b:=false)<|fD oq)<|EO.nil<|aJ kq<|EW.skip ⟨rfl,kq,aP kq⟩
     .rintro e a2 S3 ⟨rfl,rfl,x2,rfl⟩;have W:min (m+d) 2000000<=2000000:=oq
      generalize min (m+d) 2000000=nv at *;exact zx<|zk 1<|zp (dV (i:=((f+q:Nat):Int)) (j:=1) (r:=((f+(q+1):Nat):Int)) rfl kq kq oq oq)<|zf ⟨u-1,oq,kq,q+1,nv,oq,W,G,oq,aP kq⟩
    .rw[iw Z] at c |-;refine EW.seq<|zr<|zk 1<|zp (aI (u:=num<|-1) (w:=num 0) rfl kq kq<|cj (b:=true) rfl)<|EO.nil<|bU kq<|EW.exit ?_;have X:u=0:=by cases c;rfl
     have F:n=D.1:=by cases c;rfl
     refine⟨rfl,rfl,oq,?_⟩;rw[<-F,show D.2=q by omega];exact aP kq
   .have y:t.drop (f+q)=[]:=List.drop_eq_nil_of_le oq;rw[y] at c;have X:u=0:=by cases c;rfl
    have F:n=D.1:=by cases c;rfl
    refine zp (aI (u:=num ((f+q:Nat):Int)) (w:=num (t.length:Int)) rfl kq kq<|cj (b:=false)<|fD oq)<|EO.nil<|aJ kq<|EW.exit ⟨rfl,rfl,oq,?_⟩;rw[<-F,show D.2=q by omega];exact aP kq
  .rintro e o A ⟨rfl,rfl,hD2,x,rfl⟩;refine EW.seq<|zr<|zk 2 ?_;by_cases T:D.2=0
   .rw[ip T];exact zp (aI (u:=num ((f+D.2:Nat):Int)) (w:=num (f:Int)) rfl kq kq<|fh (b:=true)<|by rw[T];simp)<|EO.nil<|bU kq<|zs<|EW.ret ⟨.inr rfl,kq,kq⟩
   .rw[iw T];refine zp (aI (u:=num ((f+D.2:Nat):Int)) (w:=num (f:Int)) rfl kq kq<|fh (b:=false)<|bF.2 oq)<|EO.nil<|aJ kq<|EW.skip ?_;have Yq:f+D.2<=2000003:=oq
    generalize f+D.2=g at *;have H:=EL (s:=A) O hD;refine EW.seq<|EW.mono (Q:=λe o C=>e=.normal/\C=A/\∃x,o=wN t p (g+bif lg 59 (t.drop g) then 1 else 0) a f D.1 x) ?_ ?_
    .refine zr<|zk 2<|zp (di (l:=t) rfl underlying9 kq) ?_;by_cases J:g<t.length
     .have z:t[g]?=some t[g]:=gE J;generalize t[g]=b at z;have y:lg 59 (t.drop g)=((b.toNat:Int)==59):=by
       rw[oX,z];show b.toNat.beq 59=_;cases B:b.toNat.beq 59 with
       | true=>rw[ja B];rfl
       | false=>rw[bF.2 (λe=>Nat.ne_of_beq_eq_false B oq)]
      refine zp (aI (u:=num (g:Int)) (w:=num (t.length:Int)) rfl kq kq<|cj (b:=true)<|tD oq)<|zk 3<|zp (gp (k:=.i64) (l:=t) (n:=(g:Int)) (b:=b) rfl underlying9 kq kq oq<|by rw[Iu];exact z) ?_;cases q1:lg 59 (t.drop g) with
      | true =>exact zp (aI (u:=.int .u8 (b.toNat:Int)) (w:=.int .u8 59) rfl kq kq<|cQ (b:=true)<|y.symm.trans q1)<|zf<|bU kq<|zx<|zk 1<|zp (dV (i:=(g:Int)) (j:=1) (r:=((g+1:Nat):Int)) rfl kq kq oq oq)<|zf ⟨rfl,kq,aP kq⟩
      | false =>exact zp (aI (u:=.int .u8 (b.toNat:Int)) (w:=.int .u8 59) rfl kq kq<|cQ (b:=false)<|y.symm.trans q1)<|zf<|aJ kq<|EW.skip ⟨rfl,kq,aP kq⟩
     .have y:t.drop g=[]:=List.drop_eq_nil_of_le oq;refine zp (aI (u:=num (g:Int)) (w:=num (t.length:Int)) rfl kq kq<|cj (b:=false)<|fD oq)<|zf<|aJ kq<|EW.skip ?_;rw[y];exact⟨rfl,kq,aP kq⟩
    .rintro e a2 S3 ⟨rfl,rfl,x2,rfl⟩;generalize (g+bif lg 59 (t.drop g) then 1 else 0)=k2 at *;generalize vX D.1=L at *;exact zr<|zc 1 H<|zf<|EW.ret ⟨.inr rfl,kq,kq⟩
end
