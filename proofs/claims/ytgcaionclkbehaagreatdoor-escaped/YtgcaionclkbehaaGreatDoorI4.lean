import Derived.Test.YtgcaionclkbehaaGreatDoorR6
import Derived.Test.YtgcaionclkbehaaGreatDoorH15
set_option linter.all false
set_option maxHeartbeats 4000000
set_option maxRecDepth 100000
namespace Go.Proofs.YtgcaionclkbehaaGreatDoor
open Go.Conc Go.RowKit Go.Lib Tryz
variable {ab c nb rn:Nat}{all:Iq}{v w:Bq}{fa fz:Nat × Nat}{kt:TypeId→Bool}
def q1 (nm bs:List UInt8)(k:Nat):AS:=(qA nm (To.add (OD k (am 66 2) (.slice (some ⟨78,0,none⟩) bs.length bs.length) Sf))).add (.cells (ll bs) 5 (1,1))
abbrev Tt(nm:List UInt8):List Value:=[num 3,str [],str nm,aG,.bool false]
abbrev Ts(d m:Nat):Value:=.slice (some ⟨d,0,none⟩) m m
def YY (nm bs:List UInt8)(k:Nat):AS:=((q1 nm bs k).add Pk).add Pk
def p0 (nm bs:List UInt8)(k:Nat):AS:=(YY nm bs k).add (Kw [] aG)
def p1 (nm bs:List UInt8)(k:Nat):AS:=(YY nm bs k).add (Kw nm aG)
def p2 (nm bs:List UInt8)(k:Nat):AS:=(p1 nm bs k).add (Kw nm aG)
def p3 (nm bs:List UInt8)(k:Nat):AS:=(p2 nm bs k).add (.cells (Tt nm).toArray 60)
def p4 (nm bs:List UInt8)(k:Nat):AS:=(((((p3 nm bs k).set 78 none).add (.cells (wx bs).toArray 60)).set 77 none).add (.cells (OE nm++wx bs).toArray 60 (1,1))).set 66 (some (OD k (.pointer none) aG (Ts 85 2)))
def q2 (nm bs:List UInt8)(k:Nat):AS:=((((p4 nm bs k).add (.cells (Tt nm).toArray 60)).set 85 none).add (.cells (OE nm++wx bs++Tt nm).toArray 60 (1,1))).set 66 (some (OD k (.pointer none) aG (Ts 87 3)))
def q3 (nm bs bz:List UInt8)(k:Nat):AS:=((q2 nm bs k).add (.cells (ll bz) 5 (1,1))).set 66 (some (OD k (am 66 2) (.slice (some ⟨88,0,none⟩) bz.length bz.length) (Ts 87 3)))
def q4 (nm bs bz:List UInt8)(k:Nat):AS:=(((((q3 nm bs bz k).set 88 none).add (.cells (wx bz).toArray 60)).set 87 none).add (.cells (OE nm++wx bs++Tt nm++wx bz).toArray 60 (1,1))).set 66 (some (OD k (.pointer none) aG (Ts 90 4)))
section
variable {i:Nat}{cap:Bool}{cl:List Nat}
theorem Jw(a:List Nat):(qL a).length=a.length:=by simp[qL]
end
def rM (sp:List Nat)(c:Nat):List Nat:=if c∈sp then 38::(if c=38 then [97,109,112,59] else if c=60 then [108,116,59] else if c=62 then [103,116,59] else [113,117,111,116,59]) else [c]
theorem I5{sp:List Nat}(U:sp=[38,34]∨sp=[38,60,62])(hc:It c):(Dw c).flatMap (gw (sp.map UInt8.ofNat))=dR (rM sp c)∧∀x∈rM sp c,It x∧(c≠0→x≠0)∧(c≠13→x≠13)∧(x∈sp→x=38):=by
 rcases hc with hc|rfl
 ·have key:∀c:_root_.Fin 128,∀sp∈[[38,34],[38,60,62]],(Dw c.1).flatMap (gw (sp.map UInt8.ofNat))=dR (rM sp c.1)∧∀x∈rM sp c.1,(x<128∨x=233)∧(c.1≠0→x≠0)∧(c.1≠13→x≠13)∧(x∈sp→x=38):=by decide
  exact key ⟨c,hc⟩ sp (by rcases U with rfl|rfl<;>simp)
 ·rcases U with rfl|rfl<;>exact⟨by decide,by unfold It; decide⟩
def fS (sp:List Nat)(cl:List Nat):List Nat:=cl.flatMap (rM sp)
theorem vx{sp:List Nat}(a0:sp=[38,34]∨sp=[38,60,62]):∀{cl:List Nat},Pl cl→(dR cl).flatMap (gw (sp.map UInt8.ofNat))=dR (fS sp cl)∧Pl (fS sp cl)∧∀x∈fS sp cl,x∈sp→x=38
 | [],_=>⟨rfl,fun x U=>by simp[fS] at U,fun x U=>by simp[fS] at U⟩
 | c::cl,h=>by
  obtain⟨h1,h2,h3⟩:=vx a0 (cl:=cl) fun x U=>h x (by simp[U]);obtain⟨c1,c2,c3⟩:=h c (by simp);obtain⟨g1,g2⟩:=I5 a0 c1;refine⟨?_,fun x U=>?_,fun x U=>?_⟩
  ·show(Dw c++dR cl).flatMap _=dR (rM sp c++fS sp cl);rw[List.flatMap_append,fD,g1,h1]
  ·rcases List.mem_append.1 (show x∈rM sp c++fS sp cl from U) with U|U
   ·exact⟨(g2 x U).1,(g2 x U).2.1 c2,(g2 x U).2.2.1 c3⟩
   ·exact h2 x U
  ·rcases List.mem_append.1 (show x∈rM sp c++fS sp cl from U) with U|U
   ·exact(g2 x U).2.2.2
   ·exact h3 x U
def sQ (a b:List Int):List Int:=([60,104,116,109,108,62,60,104,101,97,100,62,60,47,104,101,97,100,62,60,98,111,100,121,62]++[60,113,32,118,61,34]++a++[34,62]++b++[60,47,113,62,60,47,98,111,100,121,62,60,47,104,116,109,108,62])
def JM:List (List UInt8):=[[104,116,109,108],[104,101,97,100],[98,111,100,121],[113],[118]]
def bM(v w:List UInt8)(a b:List Int):Nat→St
 | 0=>⟨0,[],[]⟩
 | 1=>⟨6,[],[⟨2,[],[104,116,109,108],[],false⟩]⟩
 | 2=>⟨12,[],[⟨2,[],[104,116,109,108],[],false⟩,⟨2,[],[104,101,97,100],[],false⟩]⟩
 | 3=>⟨19,[],[⟨2,[],[104,116,109,108],[],false⟩,⟨2,[],[104,101,97,100],[],false⟩,⟨3,[],[104,101,97,100],[],false⟩]⟩
 | 4=>⟨25,[],[⟨2,[],[104,116,109,108],[],false⟩,⟨2,[],[104,101,97,100],[],false⟩,⟨3,[],[104,101,97,100],[],false⟩,⟨2,[],[98,111,100,121],[],false⟩]⟩
 | 5=>⟨33+a.length,[],[⟨2,[],[104,116,109,108],[],false⟩,⟨2,[],[104,101,97,100],[],false⟩,⟨3,[],[104,101,97,100],[],false⟩,⟨2,[],[98,111,100,121],[],false⟩,⟨2,[],[113],[([118],v)],false⟩]⟩
 | 6=>⟨33+a.length+b.length,w,[⟨2,[],[104,116,109,108],[],false⟩,⟨2,[],[104,101,97,100],[],false⟩,⟨3,[],[104,101,97,100],[],false⟩,⟨2,[],[98,111,100,121],[],false⟩,⟨2,[],[113],[([118],v)],false⟩]⟩
 | 7=>⟨37+a.length+b.length,[],[⟨2,[],[104,116,109,108],[],false⟩,⟨2,[],[104,101,97,100],[],false⟩,⟨3,[],[104,101,97,100],[],false⟩,⟨2,[],[98,111,100,121],[],false⟩,⟨2,[],[113],[([118],v)],false⟩,⟨1,w,[],[],false⟩,⟨3,[],[113],[],false⟩]⟩
 | 8=>⟨44+a.length+b.length,[],[⟨2,[],[104,116,109,108],[],false⟩,⟨2,[],[104,101,97,100],[],false⟩,⟨3,[],[104,101,97,100],[],false⟩,⟨2,[],[98,111,100,121],[],false⟩,⟨2,[],[113],[([118],v)],false⟩,⟨1,w,[],[],false⟩,⟨3,[],[113],[],false⟩,⟨3,[],[98,111,100,121],[],false⟩]⟩
 | _=>⟨51+a.length+b.length,[],[⟨2,[],[104,116,109,108],[],false⟩,⟨2,[],[104,101,97,100],[],false⟩,⟨3,[],[104,101,97,100],[],false⟩,⟨2,[],[98,111,100,121],[],false⟩,⟨2,[],[113],[([118],v)],false⟩,⟨1,w,[],[],false⟩,⟨3,[],[113],[],false⟩,⟨3,[],[98,111,100,121],[],false⟩,⟨3,[],[104,116,109,108],[],false⟩]⟩
section
variable {a b:Iq}{v w:Bq}{pr:Prim}{c:Nat}{W:Bq→Int→Prop}{wr:Bq→Int→Bq}
theorem im.to{x y y':St}(h:im pr rn c all x y)(U:y.k=y'.k)(ht:y.tx=y'.tx)(hu:y.us=y'.us):im pr rn c all x y':=by cases y; cases y';cases U; cases ht; cases hu;exact h
theorem C3(U:Bn 65 (sQ a b) (fun t=>t) wr (fun t=>t∈JM) W pr)(ha:∀x∈a,x≠34)(hb:b≠[])(a3:∀x∈b,x≠60∧x ≠ -1)(a1:W (bw a) 1)(a2:W (bw b) 0)(a4:wr (bw a) 1=v)(a0:wr (bw b) 0=w)(hw:w≠[])(a5:w.length≤1000):∀i,i<9→im pr 65 c (sQ a b) (bM v w a b i) (bM v w a b (i+1)):=by
 intro i hi;match i,hi with
 | 0,_ =>refine im.to (oN (c:=c) U (pre:=[]) (nm:=[104,116,109,108]) (aN:=[]) (rest:=[60,104,101,97,100,62,60,47,104,101,97,100,62,60,98,111,100,121,62]++[60,113,32,118,61,34]++a++[34,62]++b++[60,47,113,62,60,47,98,111,100,121,62,60,47,104,116,109,108,62]) (k:=(bM v w a b 0).k) (tx:=(bM v w a b 0).tx) (us:=(bM v w a b 0).us) (by simp[sQ,jp,lz]) (by simp[bM]) ⟨⟨_,_,rfl,by decide⟩,by decide⟩ (by decide) (fun a ha=>by simp at ha) (by simp[bM]) (by simp[bM]) (by decide) (by decide)) rfl rfl rfl
 | 1,_ =>refine im.to (oN (c:=c) U (pre:=[60,104,116,109,108,62]) (nm:=[104,101,97,100]) (aN:=[]) (rest:=[60,47,104,101,97,100,62,60,98,111,100,121,62]++[60,113,32,118,61,34]++a++[34,62]++b++[60,47,113,62,60,47,98,111,100,121,62,60,47,104,116,109,108,62]) (k:=(bM v w a b 1).k) (tx:=(bM v w a b 1).tx) (us:=(bM v w a b 1).us) (by simp[sQ,jp,lz]) (by simp[bM]) ⟨⟨_,_,rfl,by decide⟩,by decide⟩ (by decide) (fun a ha=>by simp at ha) (by simp[bM]) (by simp[bM]) (by decide) (by decide)) rfl rfl rfl
 | 2,_ =>refine im.to (vu (c:=c) U (pre:=[60,104,116,109,108,62,60,104,101,97,100,62]) (nm:=[104,101,97,100]) (rest:=[60,98,111,100,121,62]++[60,113,32,118,61,34]++a++[34,62]++b++[60,47,113,62,60,47,98,111,100,121,62,60,47,104,116,109,108,62]) (k:=(bM v w a b 2).k) (tx:=(bM v w a b 2).tx) (us:=(bM v w a b 2).us) (by simp[sQ]) (by simp[bM]) ⟨⟨_,_,rfl,by decide⟩,by decide⟩ (by decide) (by simp[bM]) (by simp[bM])) rfl rfl rfl
 | 3,_ =>refine im.to (oN (c:=c) U (pre:=[60,104,116,109,108,62,60,104,101,97,100,62,60,47,104,101,97,100,62]) (nm:=[98,111,100,121]) (aN:=[]) (rest:=[60,113,32,118,61,34]++a++[34,62]++b++[60,47,113,62,60,47,98,111,100,121,62,60,47,104,116,109,108,62]) (k:=(bM v w a b 3).k) (tx:=(bM v w a b 3).tx) (us:=(bM v w a b 3).us) (by simp[sQ,jp,lz]) (by simp[bM]) ⟨⟨_,_,rfl,by decide⟩,by decide⟩ (by decide) (fun a ha=>by simp at ha) (by simp[bM]) (by simp[bM]) (by decide) (by decide)) rfl rfl rfl
 | 4,_ =>refine im.to (oN (c:=c) U (pre:=[60,104,116,109,108,62,60,104,101,97,100,62,60,47,104,101,97,100,62,60,98,111,100,121,62]) (nm:=[113]) (aN:=[([118],a)]) (rest:=b++[60,47,113,62,60,47,98,111,100,121,62,60,47,104,116,109,108,62]) (k:=(bM v w a b 4).k) (tx:=(bM v w a b 4).tx) (us:=(bM v w a b 4).us) (by simp[sQ,jp,lz]) (by simp[bM]) ⟨⟨_,_,rfl,by decide⟩,by decide⟩ (by decide) (fun x hx=>by simp at hx; subst hx; exact⟨⟨⟨_,_,rfl,by decide,by decide,by decide⟩,(by decide:∀x∈[(118:Int)],ej x p6=false),fun x hx=>by simp[ej]; exact ha x hx⟩,(by decide:bw [118]∈JM),a1⟩) (by simp[bM]) (by simp[bM]) (by decide) (by decide)) (by simp[bM,jp,lz]; omega) rfl (by simp only[bM,Hw,List.foldl_cons,List.foldl_nil,a4]; kernel_rfl)
 | 5,_ =>refine im.to (HK (c:=c) U (pre:=[60,104,116,109,108,62,60,104,101,97,100,62,60,47,104,101,97,100,62,60,98,111,100,121,62]++[60,113,32,118,61,34]++a++[34,62]) (wl:=b) (rest:=[47,113,62,60,47,98,111,100,121,62,60,47,104,116,109,108,62]) (k:=(bM v w a b 5).k) (tx:=(bM v w a b 5).tx) (us:=(bM v w a b 5).us) (by simp[sQ]) (by simp[bM]; omega) hb a3 (.inr ⟨_,_,rfl,by decide⟩) a2 (by simp[bM,a0]; omega)) rfl (by simp[bM,a0]) rfl
 | 6,_ =>refine im.to (vu (c:=c) U (pre:=[60,104,116,109,108,62,60,104,101,97,100,62,60,47,104,101,97,100,62,60,98,111,100,121,62]++[60,113,32,118,61,34]++a++[34,62]++b) (nm:=[113]) (rest:=[60,47,98,111,100,121,62,60,47,104,116,109,108,62]) (k:=(bM v w a b 6).k) (tx:=(bM v w a b 6).tx) (us:=(bM v w a b 6).us) (by simp[sQ]) (by simp[bM]; omega) ⟨⟨_,_,rfl,by decide⟩,by decide⟩ (by decide) (by simp[bM]; omega) (by simp[bM])) (by simp[bM]; omega) rfl (by simp[bM,rL,hw]; kernel_rfl)
 | 7,_ =>refine im.to (vu (c:=c) U (pre:=[60,104,116,109,108,62,60,104,101,97,100,62,60,47,104,101,97,100,62,60,98,111,100,121,62]++[60,113,32,118,61,34]++a++[34,62]++b++[60,47,113,62]) (nm:=[98,111,100,121]) (rest:=[60,47,104,116,109,108,62]) (k:=(bM v w a b 7).k) (tx:=(bM v w a b 7).tx) (us:=(bM v w a b 7).us) (by simp[sQ]) (by simp[bM]; omega) ⟨⟨_,_,rfl,by decide⟩,by decide⟩ (by decide) (by simp[bM]) (by simp[bM])) (by simp[bM]; omega) rfl rfl
 | 8,_ =>refine im.to (vu (c:=c) U (pre:=[60,104,116,109,108,62,60,104,101,97,100,62,60,47,104,101,97,100,62,60,98,111,100,121,62]++[60,113,32,118,61,34]++a++[34,62]++b++[60,47,113,62,60,47,98,111,100,121,62]) (nm:=[104,116,109,108]) (rest:=[]) (k:=(bM v w a b 8).k) (tx:=(bM v w a b 8).tx) (us:=(bM v w a b 8).us) (by simp[sQ]) (by simp[bM]; omega) ⟨⟨_,_,rfl,by decide⟩,by decide⟩ (by decide) (by simp[bM]) (by simp[bM])) (by simp[bM]; omega) rfl rfl
 | i+9,hi=>omega
end
def dL (ab:Nat)(w:List UInt8):List aW:=[⟨1,-1,[104,116,109,108],[],.slice none 0 0⟩,⟨1,0,[104,101,97,100],[],.slice none 0 0⟩,⟨1,0,[98,111,100,121],[],.slice none 0 0⟩,⟨1,2,[113],[],.slice (some ⟨ab,0,none⟩) 1 1⟩,⟨2,3,[],w,.slice none 0 0⟩]
def ei (v w:List UInt8):Nat→List UInt8
 | 0=>[60]++[104,116,109,108]++cF []++[62]
 | 1=>[60]++[104,101,97,100]++cF []++[62]
 | 2=>[60]++[98,111,100,121]++cF []++[62]
 | 3=>[60]++[113]++cF [([118],v)]++[62]
 | _=>li w
def qI (v w:List UInt8):List UInt8:=[60,104,116,109,108,62,60,104,101,97,100,62,60,47,104,101,97,100,62,60,98,111,100,121,62,60,113,32,118,61,34]++iL v++[34,62]++li w++[60,47,113,62,60,47,98,111,100,121,62,60,47,104,116,109,108,62]
theorem I8(ab:Nat)(v w:Bq):(cL (dL ab w) (ei v w) (fun _=>false) 5).dH=[0,2,3]:=by kernel_rfl
theorem I9(ab:Nat)(v w:Bq):(cL (dL ab w) (ei v w) (fun _=>false) 5).oR++bE (dL ab w) (cL (dL ab w) (ei v w) (fun _=>false) 5).dH=qI v w:=by
 rw[I8];have e:(cL (dL ab w) (ei v w) (fun _=>false) 5).oR=((((([]++[]++ei v w 0)++[]++ei v w 1)++[60,47,104,101,97,100,62]++ei v w 2)++[]++ei v w 3)++[]++ei v w 4):=by kernel_rfl
 rw[e];simp[ei,qI,cF,kY,bE,iw,vT,dL]
section
variable {pr:Prim}{s s1:AS}
theorem jC(hv:v.length≤100)(hw:w.length≤100):(iL v).length≤3000∧(li w).length≤8000:=by have U:=jD 38 (new:=ly) (k:=5) (by decide) (by decide) v;have a2:=jD 34 (new:=Cs) (k:=6) (by decide) (by decide) (dS 38 ly v);have b1:=jD 38 (new:=ly) (k:=5) (by decide) (by decide) w;have b2:=jD 60 (new:=M4) (k:=4) (by decide) (by decide) (dS 38 ly w);have b3:=jD 62 (new:=SR) (k:=4) (by decide) (by decide) (dS 60 M4 (dS 38 ly w));unfold iL li;omega
theorem FI(U:v.length≤100)(hw:w.length≤100)(i:Nat):(ei v w i).length≤9000:=by
 have:=jC U hw;match i with
 | 0=>simp[ei,cF]
 | 1=>simp[ei,cF]
 | 2=>simp[ei,cF]
 | 3=>simp[ei,cF,kY]; omega
 | i+4=>simp only[ei]; omega
theorem L1(hp:N9 pr)(a0:pr 127=bL 127)(hv:v.length≤100)(hw:w.length≤100)(a2:∀s,Ef pr 266 #[str v] s (str (iL v)) s)(a3:∀s,Ef pr 267 #[str w] s (str (li w)) s)(a5:ab<s.nx)(a6:nb<s.nx)(ha:s.get ab=some (.cells #[str [118],str v] 47 fa))(hn:s.get nb=some (.cells (aX (dL ab w)) 44 fz))(a7:s.nx<s1.nx)(a4:∀k,k<s.nx→s1.get k=s.get k):∀i x,(dL ab w)[i]?=some x→uZ pr s1 (dL ab w) (ei v w) (fun _=>false) s.nx nb c s1.nx i x:=by
 have a1:=(a4 nb a6).trans hn;have Oi:=(a4 ab a5).trans ha;have oq:=FI hv hw;have Jm:∀s',sU s.nx s1.nx s1 s'→s'.get nb=some (.cells (aX (dL ab w)) 44 fz)∧nb<s'.nx:=fun s' hf=>⟨(hf.2 nb (by omega) (by omega) (by omega) (dg a1 (by decide)) (kJ a1 (by decide))).trans a1,by have:=hf.1; omega⟩;have haa:∀s',sU s.nx s1.nx s1 s'→bT s' (.slice (sq ab) 1 1) [([118],v)]:=fun s' hf=>.inr ⟨ab,1,fa,rfl,by have:=hf.1; omega,(hf.2 ab (by omega) (by omega) (by omega) (dg Oi (by decide)) (kJ Oi (by decide))).trans Oi⟩;have um:∀(nm:Bq) (vd:Bool),(([[97,114,101,97],[98,97,115,101],[98,114],[99,111,108],[101,109,98,101,100],[104,114],[105,109,103],[105,110,112,117,116],[108,105,110,107],[109,101,116,97],[115,111,117,114,99,101],[116,114,97,99,107],[119,98,114]]:List (Bq)).any fun t=>cJ nm t)=vd→∀(s':AS) (d:Nat),s'.get d=some (.cells l8 9)→Ef pr 127 #[str nm,.slice (sq d) 13 13] s' (.bool vd) s':=fun nm vd V9 s' d hd=>pO a0 (l7:=[[97,114,101,97],[98,97,115,101],[98,114],[99,111,108],[101,109,98,101,100],[104,114],[105,109,103],[105,110,112,117,116],[108,105,110,107],[109,101,116,97],[115,111,117,114,99,101],[116,114,97,99,107],[119,98,114]]) (c:=13) (fz:=(0,0)) hd (by decide) V9;have lM:(dL ab w).length=5:=rfl;intro i x U;match i,U with
 | 0,U =>
  obtain rfl:(⟨1,-1,[104,116,109,108],[],.slice none 0 0⟩:aW)=x:=by simpa[dL] using U
  have e1:(cL (dL ab w) (ei v w) (fun _=>false) 0).oR=[]:=by kernel_rfl
  have e2:dU (-1) (cL (dL ab w) (ei v w) (fun _=>false) 0).dH=[]:=by kernel_rfl
  refine⟨.inl rfl,fun _=>⟨rfl,rfl,rfl⟩,fun h=>absurd h (by decide),rfl,?_,fun s' l' hf hb hl=>by obtain⟨q1,q2⟩:=Jm s' hf;have q3:=oq 0;exact n6 hp.w (i:=0) (aN:=[]) hb q1 U rfl (.inl ⟨rfl,rfl⟩) (by simp[cF,kY]; have:=(jC hv hw).1; omega) (by simp) (by rw[lM]; decide) (by intro p hp s; simp at hp),fun _=>um _ _ rfl⟩;have h0:=oq 0;have h1:=oq 1;have h2:=oq 2;have h3:=oq 3;have h4:=oq 4;rw[e1,show(dU _ _:List Nat)=[] from e2];simp[bE,iw,vT,dL];omega
 | 1,U =>
  obtain rfl:(⟨1,0,[104,101,97,100],[],.slice none 0 0⟩:aW)=x:=by simpa[dL] using U
  have e1:(cL (dL ab w) (ei v w) (fun _=>false) 1).oR=([]++[]++ei v w 0):=by kernel_rfl
  have e2:dU 0 (cL (dL ab w) (ei v w) (fun _=>false) 1).dH=[]:=by kernel_rfl
  have e3:dO 0 (cL (dL ab w) (ei v w) (fun _=>false) 1).dH=[0]:=by kernel_rfl
  refine⟨.inl rfl,fun h=>absurd h (by decide),fun _=>by rw[show(dO _ _:List Nat)=[0] from e3]; simp,rfl,?_,fun s' l' hf hb hl=>by obtain⟨q1,q2⟩:=Jm s' hf;have q3:=oq 1;exact n6 hp.w (i:=1) (aN:=[]) hb q1 U rfl (.inl ⟨rfl,rfl⟩) (by simp[cF,kY]; have:=(jC hv hw).1; omega) (by simp) (by rw[lM]; decide) (by intro p hp s; simp at hp),fun _=>um _ _ rfl⟩;have h0:=oq 0;have h1:=oq 1;have h2:=oq 2;have h3:=oq 3;have h4:=oq 4;rw[e1,show(dU _ _:List Nat)=[] from e2];simp[bE,iw,vT,dL];omega
 | 2,U =>
  obtain rfl:(⟨1,0,[98,111,100,121],[],.slice none 0 0⟩:aW)=x:=by simpa[dL] using U
  have e1:(cL (dL ab w) (ei v w) (fun _=>false) 2).oR=(([]++[]++ei v w 0)++[]++ei v w 1):=by kernel_rfl
  have e2:dU 0 (cL (dL ab w) (ei v w) (fun _=>false) 2).dH=[1]:=by kernel_rfl
  have e3:dO 0 (cL (dL ab w) (ei v w) (fun _=>false) 2).dH=[0]:=by kernel_rfl
  refine⟨.inl rfl,fun h=>absurd h (by decide),fun _=>by rw[show(dO _ _:List Nat)=[0] from e3]; simp,rfl,?_,fun s' l' hf hb hl=>by obtain⟨q1,q2⟩:=Jm s' hf;have q3:=oq 2;exact n6 hp.w (i:=2) (aN:=[]) hb q1 U rfl (.inl ⟨rfl,rfl⟩) (by simp[cF,kY]; have:=(jC hv hw).1; omega) (by simp) (by rw[lM]; decide) (by intro p hp s; simp at hp),fun _=>um _ _ rfl⟩;have h0:=oq 0;have h1:=oq 1;have h2:=oq 2;have h3:=oq 3;have h4:=oq 4;rw[e1,show(dU _ _:List Nat)=[1] from e2];simp[bE,iw,vT,dL];omega
 | 3,U =>
  obtain rfl:(⟨1,2,[113],[],.slice (sq ab) 1 1⟩:aW)=x:=by simpa[dL] using U
  have e1:(cL (dL ab w) (ei v w) (fun _=>false) 3).oR=((([]++[]++ei v w 0)++[]++ei v w 1)++[60,47,104,101,97,100,62]++ei v w 2):=by kernel_rfl
  have e2:dU 2 (cL (dL ab w) (ei v w) (fun _=>false) 3).dH=[]:=by kernel_rfl
  have e3:dO 2 (cL (dL ab w) (ei v w) (fun _=>false) 3).dH=[0,2]:=by kernel_rfl
  refine⟨.inl rfl,fun h=>absurd h (by decide),fun _=>by rw[show(dO _ _:List Nat)=[0,2] from e3]; simp,rfl,?_,fun s' l' hf hb hl=>by obtain⟨q1,q2⟩:=Jm s' hf;have q3:=oq 3;exact n6 hp.w (i:=3) (aN:=[([118],v)]) hb q1 U rfl (haa s' hf) (by simp[cF,kY]; have:=(jC hv hw).1; omega) (by simp) (by rw[lM]; decide) (by intro p hp s; simp at hp; subst hp; exact a2 s),fun _=>um _ _ rfl⟩;have h0:=oq 0;have h1:=oq 1;have h2:=oq 2;have h3:=oq 3;have h4:=oq 4;rw[e1,show(dU _ _:List Nat)=[] from e2];simp[bE,iw,vT,dL];omega
 | 4,U =>
  obtain rfl:(⟨2,3,[],w,.slice none 0 0⟩:aW)=x:=by simpa[dL] using U
  have e1:(cL (dL ab w) (ei v w) (fun _=>false) 4).oR=(((([]++[]++ei v w 0)++[]++ei v w 1)++[60,47,104,101,97,100,62]++ei v w 2)++[]++ei v w 3):=by kernel_rfl
  have e2:dU 3 (cL (dL ab w) (ei v w) (fun _=>false) 4).dH=[]:=by kernel_rfl
  have e3:dO 3 (cL (dL ab w) (ei v w) (fun _=>false) 4).dH=[0,2,3]:=by kernel_rfl
  refine⟨.inr rfl,fun h=>absurd h (by decide),fun _=>by rw[show(dO _ _:List Nat)=[0,2,3] from e3]; simp,rfl,?_,fun s' l' hf hb hl=>by obtain⟨q1,q2⟩:=Jm s' hf;exact E9 hp.w (i:=4) (pi:=3) (px:=⟨1,2,[113],[],.slice (sq ab) 1 1⟩) (out:=li w) hb q1 q2 U rfl (.inl ⟨rfl,rfl⟩) rfl rfl (by have:=(jC hv hw).2; simp only[ei] at hl; omega) (by rw[lM]; decide) (fun s d hd=>pO a0 (l7:=[[115,99,114,105,112,116],[115,116,121,108,101]]) (c:=2) (fz:=(0,0)) hd (by decide) rfl) a3,fun h=>absurd (show(2:Int)=1 from h) (by decide)⟩;have h0:=oq 0;have h1:=oq 1;have h2:=oq 2;have h3:=oq 3;have h4:=oq 4;rw[e1,show(dU _ _:List Nat)=[] from e2];simp[bE,iw,vT,dL];omega
 | i+5,U=>simp[dL] at U
end
section
variable {pr:Prim}{s:AS}
theorem rN(U:v.length≤100)(hw:w.length≤100):(qI v w).length≤12000∧qI v w≠[]:=by have:=jC U hw;refine⟨?_,by simp[qI]⟩;simp[qI];omega
theorem zW(hp:N9 pr)(a6:pr 84=none)(a5:pr 46=none)(a4:pr 28=none)(U:pr 127=bL 127)(hv:v.length≤100)(hw:w.length≤100)(a0:∀s,Ef pr 266 #[str v] s (str (iL v)) s)(a1:∀s,Ef pr 267 #[str w] s (str (li w)) s)(a7:ab<s.nx)(a3:nb<s.nx)(ha:s.get ab=some (.cells #[str [118],str v] 47 fa))(hn:s.get nb=some (.cells (aX (dL ab w)) 44 fz)) :
  ∃s',Ef pr 28 #[eE nb 5 c] s (.tuple #[str (qI v w),num 0]) s'∧s.nx≤s'.nx∧∀k,k<s.nx→EC (s.get k)→Ih (s.get k)→s'.get k=s.get k:=by
 have a2:=rN hv hw;have lM:(dL ab w).length=5:=rfl;have et:=I9 ab v w;have e2:=congrArg List.length et;rw[List.length_append] at e2
 have:=Em (pr:=pr) (s:=s) hp a6 a5 a4 (c:=c) (ns:=dL ab w) (out:=ei v w) (vd:=fun _=>false) hn a3 (by rw[lM]; decide) (by rw[lM]; decide) (fun s1 q1 q2=>L1 hp U hv hw a0 a1 a7 a3 ha hn q1 q2) (by rw[lM]; omega) (by rw[lM,et]; exact a2.2);rw[lM,et] at this;exact this
end
section
variable {s:AS}
theorem I4(p q:ByteArray):fT prog (Op.equal 47 (.agg #[.string p,.string q]) (.agg #[.string p,.string q]))=some true:=by
 have U:∀(d:Nat) (x:ByteArray),fT prog (Op.equalIn (d+1) 9 (.string x) (.string x))=some true:=by
  intro d x;rw[Op.equalIn];have hx:(x==x)=true:=by obtain⟨x⟩:=x; show(x==x)=true; exact beq_self_eq_true x
  simp[underlying9,hx]
 have p0:∀x y:ByteArray,fT prog (part 9 #[.string x,.string y] 0)=some (.string x):=fun x y=>by kernel_rfl
 have p1:∀x y:ByteArray,fT prog (part 9 #[.string x,.string y] 1)=some (.string y):=fun x y=>by kernel_rfl
 show fT prog (Op.equalIn (9999+1) 47 _ _)=_;rw[Op.equalIn];simp only[cP,dp,underlying47,Option.bind_some];rw[show fT prog program=some prog from rfl];simp only[Option.bind_some];rw[if_neg (by rw[show prog.stoodInHeld 47=false by kernel_rfl]; decide)];rw[← Array.forIn_toList];simp only[List.forIn_cons,List.forIn_nil,cP,p0,p1,U 9998,Option.bind_some,ne_eq,String.reduceEq,not_false_eq_true,if_true,Bool.not_true,Bool.false_eq_true,if_false,lH]
theorem JU{c:fj}{a:TL}{o:Oper}{x y:Operand}{t:TypeId}{p q:Bq}(U:o.op=.binOp .neq 47 x y t)(hx:a.at x=.agg #[str p,str q])(hy:a.at y=.agg #[str p,str q]):bK prog kt c a o s=some (.bool false,s):=by
 refine dP (by rw[U]; rfl) (by rw[U]; trivial) ?_;have he:cX .neq (.agg #[str p,str q]) (.agg #[str p,str q])=none:=rfl;have hp:lC prog .neq 47 (.agg #[str p,str q]) (.agg #[str p,str q])=none:=rfl;unfold bQ;rw[U];simp only;rw[hx,hy,he];simp only;rw[hp];simp only;unfold rP;have MF:o.op.operands.toList=[x,y]:=by rw[U]; rfl
 rw[MF];have hf:([x,y].all fun z=>rX (a.at z))=true:=by simp only[List.all_cons,List.all_nil,hx,hy]; rfl
 rw[if_pos hf];have hv:fT prog (execOp a.at o)=some (.value (.bool false)):=by
  unfold execOp;rw[U];simp only[hx,hy,cP];have hg:fT prog (eqGuard .neq 47 x y (.agg #[str p,str q]) (.agg #[str p,str q]))=some ():=by kernel_rfl
  rw[hg];simp only[Option.bind_some,binOp,cP,I4,lH,Bool.not_true]
 rw[hv];rfl
end
theorem BV{a:Option Value × Value}{l:List (Option Value × Value)}(ha:a.1=some a.2∧aU 20 a.2=true)(hl:∀x∈l,x.1=some x.2∧aU 20 x.2=true):∀x∈a::l,x.1=some x.2∧aU 20 x.2=true:=fun x U=>by
 rcases List.mem_cons.1 U with rfl|U
 ·exact ha
 ·exact hl x U
theorem YR:∀x∈([]:List (Option Value × Value)),x.1=some x.2∧aU 20 x.2=true:=fun x U=>by simp at U
theorem uu(l:Bq):cX .neq (str l) (str l)=some (.bool false):=by unfold cX;simp only;rw[(ga l l).2 rfl];rfl
def NM (va vb:Value)(i:Nat)(x:Nat→Value):TL:=[va,vb,x 2,x 3,.bool false,num (i:Nat)]++kl x 6 104
def Ha(va vb:Value)(i j:Nat)(x:Nat→Value):TL:=[va,vb,x 2,x 3,.bool false,num (i:Nat),num (j:Nat)]++kl x 7 103
section
variable {s:AS}{pr:Prim}{va vb:Value}{xs ys:List aW}{us:List Nd}
theorem NG(aa:pr 22=none)(hA:qE s va xs)(hB:qE s vb ys)(hx:gP s xs us)(hy:gP s ys us)(hu:∀u∈us,u.c9.length≤100000)(hn:us.length≤100000):Ef pr 22 #[va,vb] s (.bool true) s:=by
 obtain⟨d1,k1,f1,rfl,g1⟩:=hA;obtain⟨d2,k2,f2,rfl,g2⟩:=hB;rw[hx.1,hy.1];generalize hN:us.length=N at *;refine EF.of aa func22 rfl ?_;refine zs (EW.seq (zr (zk 4 (zp (yb (num (N:Nat)) (num (N:Nat)) (cO (b:=false) (bne_self_eq_false _))) (EO.nil (za s (zF (EW.seq (zs ?_)))))))));refine EW.fill (NM (.slice (sq d1) N k1) (.slice (sq d2) N k2) 0) (by kernel_rfl) ?_;intro x0;refine za s (EW.block ?_);refine EW.mono (EW.eD (Q:=fun e a' s1=>e=.exit 0∧s1=s∧∃x,a'=NM (.slice (sq d1) N k1) (.slice (sq d2) N k2) N x) (fun m a' s1=>s1=s∧∃i,i+m=N∧∃x,a'=NM (.slice (sq d1) N k1) (.slice (sq d2) N k2) i x) ?_ N _ _ ⟨rfl,0,by omega,x0,rfl⟩) ?_
 ·rintro m a' S ⟨rfl,i,af,x,rfl⟩;by_cases hi:i<N
  ·have hU:us[i]?=some us[i]:=List.getElem?_eq_getElem (by omega);have Th:=hu us[i] (List.getElem_mem _);generalize us[i]=u at hU Th;have hX:xs[i]?=some (xs[i]'(by rw[hx.1]; omega)):=List.getElem?_eq_getElem _;generalize (xs[i]'(by rw[hx.1]; omega))=X at hX;have hY:ys[i]?=some (ys[i]'(by rw[hy.1]; omega)):=List.getElem?_eq_getElem _;generalize (ys[i]'(by rw[hy.1]; omega))=Y at hY;have mX:=hx.2 i X u hX hU;have mY:=hy.2 i Y u hY hU;have tX:=mX.2.2.2.2;have tY:=mY.2.2.2.2;obtain⟨a6,a5,e1⟩:=tX.len;obtain⟨a9,a7,e2⟩:=tY.len;rw[e1] at tX;rw[e2] at tY;generalize Qt:u.c9.length=U at *;have e1:=e1.symm;have e2:=e2.symm;have a0:(aX xs)[i*5+0]?=some (num u.kind):=by rw[ea hX 0 (by decide),← mX.1]; rfl
   have b0:(aX ys)[i*5+0]?=some (num u.kind):=by rw[ea hY 0 (by decide),← mY.1]; rfl
   have a1:(aX xs)[i*5+1]?=some (num u.parent):=by rw[ea hX 1 (by decide),← mX.2.1]; rfl
   have b1:(aX ys)[i*5+1]?=some (num u.parent):=by rw[ea hY 1 (by decide),← mY.2.1]; rfl
   have a2:(aX xs)[i*5+2]?=some (str u.name):=by rw[ea hX 2 (by decide),← mX.2.2.1]; rfl
   have b2:(aX ys)[i*5+2]?=some (str u.name):=by rw[ea hY 2 (by decide),← mY.2.2.1]; rfl
   have a3:(aX xs)[i*5+3]?=some (str u.text):=by rw[ea hX 3 (by decide),← mX.2.2.2.1]; rfl
   have b3:(aX ys)[i*5+3]?=some (str u.text):=by rw[ea hY 3 (by decide),← mY.2.2.2.1]; rfl
   have a4:(aX xs)[i*5+4]?=some (.slice a6 U a5):=by rw[ea hX 4 (by decide),e1]; rfl
   have b4:(aX ys)[i*5+4]?=some (.slice a9 U a7):=by rw[ea hY 4 (by decide),e2]; rfl
   have m0:=bH (P:=prog) (t:=3) underlying3 rfl g1.2 a0;have n0:=bH (P:=prog) (t:=3) underlying3 rfl g2.2 b0;have m1:=bH (P:=prog) (t:=3) underlying3 rfl g1.2 a1;have n1:=bH (P:=prog) (t:=3) underlying3 rfl g2.2 b1;have m2:=bH (P:=prog) (t:=9) underlying9 rfl g1.2 a2;have n2:=bH (P:=prog) (t:=9) underlying9 rfl g2.2 b2;have m3:=bH (P:=prog) (t:=9) underlying9 rfl g1.2 a3;have n3:=bH (P:=prog) (t:=9) underlying9 rfl g2.2 b3;have m4:=bH (P:=prog) (t:=42) underlying42 rfl g1.2 a4;have n4:=bH (P:=prog) (t:=42) underlying42 rfl g2.2 b4;refine EW.seq (zr (zk 3 (zp (yb (num (i:Nat)) (num (N:Nat)) (bD (b:=true) (decide_eq_true (by omega)))) (EO.nil (za S (zT (EW.seq (EW.block ?_))))))))
   ·refine EW.seq (EW.seq (EW.draw (by kernel_rfl) (by kernel_rfl) (by kernel_rfl) ?_));iterate 2 refine zq ?_
    refine zu (yi d1 0 N k1 (i*5) none .i64 (i:Nat) 5 (by omega) (by omega) (by omega)) (zq (zt S (zu (bO (b:=d1) (off:=i*5+0) (v:=num u.kind) rfl underlying3 rfl (by kernel_rfl) g1.2 a0) ?_)));iterate 2 refine zq ?_
    refine zu (yi d2 0 N k2 (i*5) none .i64 (i:Nat) 5 (by omega) (by omega) (by omega)) (zq (zt S (zu (bO (b:=d2) (off:=i*5+0) (v:=num u.kind) rfl underlying3 rfl (by kernel_rfl) g2.2 b0) (zu (yb (num u.kind) (num u.kind) (cO (b:=false) (bne_self_eq_false _))) (zq ?_)))));iterate 2 refine zq ?_
    refine zu (yi d1 0 N k1 (i*5) none .i64 (i:Nat) 5 (by omega) (by omega) (by omega)) (zq (zt S (zu (bO (b:=d1) (off:=i*5+1) (v:=num u.parent) rfl underlying3 rfl (by kernel_rfl) g1.2 a1) ?_)));iterate 2 refine zq ?_
    refine zu (yi d2 0 N k2 (i*5) none .i64 (i:Nat) 5 (by omega) (by omega) (by omega)) (zq (zt S (zu (bO (b:=d2) (off:=i*5+1) (v:=num u.parent) rfl underlying3 rfl (by kernel_rfl) g2.2 b1) (zu (yb (num u.parent) (num u.parent) (cO (b:=false) (bne_self_eq_false _))) ?_))));iterate 2 refine zq ?_
    iterate 2 refine zq ?_
    refine zu (yi d1 0 N k1 (i*5) none .i64 (i:Nat) 5 (by omega) (by omega) (by omega)) (zq (zt S (zu (bO (b:=d1) (off:=i*5+2) (v:=str u.name) rfl underlying9 rfl (by kernel_rfl) g1.2 a2) ?_)));iterate 2 refine zq ?_
    refine zu (yi d2 0 N k2 (i*5) none .i64 (i:Nat) 5 (by omega) (by omega) (by omega)) (zq (zt S (zu (bO (b:=d2) (off:=i*5+2) (v:=str u.name) rfl underlying9 rfl (by kernel_rfl) g2.2 b2) (zu (yb (str u.name) (str u.name) (uu u.name)) ?_))));iterate 2 refine zq ?_
    iterate 2 refine zq ?_
    refine zu (yi d1 0 N k1 (i*5) none .i64 (i:Nat) 5 (by omega) (by omega) (by omega)) (zq (zt S (zu (bO (b:=d1) (off:=i*5+3) (v:=str u.text) rfl underlying9 rfl (by kernel_rfl) g1.2 a3) ?_)));iterate 2 refine zq ?_
    refine zu (yi d2 0 N k2 (i*5) none .i64 (i:Nat) 5 (by omega) (by omega) (by omega)) (zq (zt S (zu (bO (b:=d2) (off:=i*5+3) (v:=str u.text) rfl underlying9 rfl (by kernel_rfl) g2.2 b3) (zu (yb (str u.text) (str u.text) (uu u.text)) ?_))));iterate 2 refine zq ?_
    iterate 2 refine zq ?_
    refine zu (yi d1 0 N k1 (i*5) none .i64 (i:Nat) 5 (by omega) (by omega) (by omega)) (zq (zt S (zu (bO (b:=d1) (off:=i*5+4) (v:=.slice a6 U a5) rfl underlying42 rfl (by kernel_rfl) g1.2 a4) (zq ?_))));iterate 2 refine zq ?_
    refine zu (yi d2 0 N k2 (i*5) none .i64 (i:Nat) 5 (by omega) (by omega) (by omega)) (zq (zt S (zu (bO (b:=d2) (off:=i*5+4) (v:=.slice a9 U a7) rfl underlying42 rfl (by kernel_rfl) g2.2 b4) (zq (zu (yb (num (U:Nat)) (num (U:Nat)) (cO (b:=false) (bne_self_eq_false _))) (zq (ET.nil ⟨aM [(aE prog 3 (am d1 (i*5+0)) S,num u.kind),(aE prog 3 (am d2 (i*5+0)) S,num u.kind),(aE prog 3 (am d1 (i*5+1)) S,num u.parent),(aE prog 3 (am d2 (i*5+1)) S,num u.parent),(aE prog 9 (am d1 (i*5+2)) S,str u.name),(aE prog 9 (am d2 (i*5+2)) S,str u.name),(aE prog 9 (am d1 (i*5+3)) S,str u.text),(aE prog 9 (am d2 (i*5+3)) S,str u.text),(aE prog 42 (am d1 (i*5+4)) S,.slice a6 U a5),(aE prog 42 (am d2 (i*5+4)) S,.slice a9 U a7)] (by kernel_rfl) (BV ⟨m0,rfl⟩ (BV ⟨n0,rfl⟩ (BV ⟨m1,rfl⟩ (BV ⟨n1,rfl⟩ (BV ⟨m2,rfl⟩ (BV ⟨n2,rfl⟩ (BV ⟨m3,rfl⟩ (BV ⟨n3,rfl⟩ (BV ⟨m4,by cases a6<;>rfl⟩ (BV ⟨n4,by cases a9<;>rfl⟩ YR)))))))))),_,_,_,_,_,_,rfl,rfl,?_⟩)))))));refine za S (zF (zs ?_));refine EW.fill (Ha (.slice (sq d1) N k1) (.slice (sq d2) N k2) i 0) (by kernel_rfl) ?_;intro x1;refine za S (EW.block ?_);refine EW.mono (EW.eD (Q:=fun e a' s1=>e=.exit 2∧s1=S∧∃x,a'=Ha (.slice (sq d1) N k1) (.slice (sq d2) N k2) i U x) (fun m a' s1=>s1=S∧∃j,j+m=U∧∃x,a'=Ha (.slice (sq d1) N k1) (.slice (sq d2) N k2) i j x) ?_ U _ _ ⟨rfl,0,by omega,x1,rfl⟩) ?_
    ·rintro m' a' S' ⟨rfl,j,ag,x2,rfl⟩;by_cases hj:j<U
     ·have hP:u.c9[j]?=some (u.c9[j]'(by omega)):=List.getElem?_eq_getElem _;generalize (u.c9[j]'(by omega))=p at hP;obtain⟨z1,z2⟩:=u7 hP;obtain⟨Oa,fa1,rfl,y1⟩:∃ab fz,a6=some ⟨ab,0,none⟩∧S'.get ab=some (.cells (fA u.c9) 47 fz):=by
       rcases tX with ⟨_,z⟩|⟨ab,c,fz,z,_,y⟩
       ·rw[z] at Qt; simp at Qt; omega
       ·cases z; exact⟨ab,fz,rfl,y⟩
      obtain⟨a8,ae,rfl,y2⟩:∃ab fz,a9=some ⟨ab,0,none⟩∧S'.get ab=some (.cells (fA u.c9) 47 fz):=by
       rcases tY with ⟨_,z⟩|⟨ab,c,fz,z,_,y⟩
       ·rw[z] at Qt; simp at Qt; omega
       ·cases z; exact⟨ab,fz,rfl,y⟩
      have v1:=iA (P:=prog) (t:=47) (n:=2) underlying47 rfl (by kernel_rfl) y1 (off:=j*2) z1;have v2:=iA (P:=prog) (t:=47) (n:=2) underlying47 rfl (by kernel_rfl) y2 (off:=j*2) z1;rw[z2] at v1 v2;refine EW.seq (zr (zk 3 (zp (yi d1 0 N k1 (i*5) none .i64 (i:Nat) 5 (by omega) (by omega) (by omega)) (zg 1 S' (zp (bO (b:=d1) (off:=i*5+4) (v:=.slice (sq Oa) U a5) rfl underlying42 rfl (by kernel_rfl) g1.2 a4) (zk 1 (zp (yb (num (j:Nat)) (num (U:Nat)) (bD (b:=true) (decide_eq_true (by omega)))) (EO.nil (za S' (zT (EW.seq (EW.block (EW.seq (EW.draw (by kernel_rfl) (by kernel_rfl) (by kernel_rfl) ?_))))))))))))));iterate 2 refine zq ?_
      refine zu (yi d1 0 N k1 (i*5) none .i64 (i:Nat) 5 (by omega) (by omega) (by omega)) (zq (zt S' (zu (bO (b:=d1) (off:=i*5+4) (v:=.slice (sq Oa) U a5) rfl underlying42 rfl (by kernel_rfl) g1.2 a4) (zq (zu (yi Oa 0 U a5 (j*2) none .i64 (j:Nat) 2 (by omega) (by omega) (by omega)) (zt S' (zu (g8 (b:=Oa) (off:=j*2) (n:=2) (r:=#[str p.1,str p.2]) rfl underlying47 rfl (by kernel_rfl) (by kernel_rfl) y1 z1 z2) ?_)))))));iterate 2 refine zq ?_
      refine zu (yi d2 0 N k2 (i*5) none .i64 (i:Nat) 5 (by omega) (by omega) (by omega)) (zq (zt S' (zu (bO (b:=d2) (off:=i*5+4) (v:=.slice (sq a8) U a7) rfl underlying42 rfl (by kernel_rfl) g2.2 b4) (zq (zu (yi a8 0 U a7 (j*2) none .i64 (j:Nat) 2 (by omega) (by omega) (by omega)) (zt S' (zu (g8 (b:=a8) (off:=j*2) (n:=2) (r:=#[str p.1,str p.2]) rfl underlying47 rfl (by kernel_rfl) (by kernel_rfl) y2 z1 z2) (zu (JU (p:=p.1) (q:=p.2) rfl (by kernel_rfl) (by kernel_rfl)) (ET.nil ⟨aM [(aE prog 42 (am d1 (i*5+4)) S',.slice (sq Oa) U a5),(aE prog 47 (am Oa (j*2)) S',.agg #[str p.1,str p.2]),(aE prog 42 (am d2 (i*5+4)) S',.slice (sq a8) U a7),(aE prog 47 (am a8 (j*2)) S',.agg #[str p.1,str p.2])] (by kernel_rfl) (BV ⟨m4,rfl⟩ (BV ⟨v1,rfl⟩ (BV ⟨n4,rfl⟩ (BV ⟨v2,rfl⟩ YR)))),_,_,_,_,_,_,rfl,rfl,?_⟩)))))))));refine za S' (zF (zx (zk 1 (zp (yp (j:Nat) 1 ((j+1:Nat):Int) (by omega) (by omega)) (zf ?_)))));exact⟨m'-1,by omega,rfl,j+1,by omega,bG (by kernel_rfl)⟩
     ·obtain rfl:j=U:=by omega
      refine EW.seq (zr (zk 3 (zp (yi d1 0 N k1 (i*5) none .i64 (i:Nat) 5 (by omega) (by omega) (by omega)) (zg 1 S' (zp (bO (b:=d1) (off:=i*5+4) (v:=.slice a6 j a5) rfl underlying42 rfl (by kernel_rfl) g1.2 a4) (zk 1 (zp (yb (num (j:Nat)) (num (j:Nat)) (bD (b:=false) (decide_eq_false (by omega)))) (EO.nil (za S' (zG (EW.exit ?_)))))))))));exact⟨rfl,rfl,bG (by kernel_rfl)⟩
    ·rintro e a' S' ⟨rfl,rfl,x2,rfl⟩;refine zx (zk 1 (zp (yp (i:Nat) 1 ((i+1:Nat):Int) (by omega) (by omega)) (zf ?_)));exact⟨m-1,by omega,rfl,i+1,by omega,bG (by kernel_rfl)⟩
  ·obtain rfl:i=N:=by omega
   refine EW.seq (zr (zk 3 (zp (yb (num (i:Nat)) (num (i:Nat)) (bD (b:=false) (decide_eq_false (by omega)))) (EO.nil (za S (zG (EW.exit ?_)))))));exact⟨rfl,rfl,bG (by kernel_rfl)⟩
 ·rintro e a' S ⟨rfl,rfl,x,rfl⟩;refine zs ?_;exact yR
end
theorem DN{l:List aW}{i:Nat}{x:aW}(h:l[i]?=some x)(w:Value):putAt (aX l) (i*5+4) [w]=aX (l.set i { x with c9:=w }):=by
 apply Array.ext_getElem?;intro k;have key:∀(l:List aW) (i k:Nat),l[i]?=some x→((l.flatMap aW.cells).set (i*5+4) w)=(l.set i { x with c9:=w }).flatMap aW.cells:=by
  intro l;induction l with
  | nil=>intro i k h; simp at h
  | cons y l ih =>
   intro i k h;match i with
   | 0=>simp at h; subst h; rfl
   | i+1 =>have:=ih i k (by simpa using h);rw[show(i+1)*5+4=(i*5+4)+5 by omega];show _::_::_::_::_::((l.flatMap aW.cells).set (i*5+4) w)=_;rw[this];rfl
 have hp:putAt (aX l) (i*5+4) [w]=((l.flatMap aW.cells).set (i*5+4) w).toArray:=by
  unfold putAt;have eH:i*5+4<(l.flatMap aW.cells).length:=by have h1:=jk l;have h2:=(List.getElem?_eq_some_iff.1 h).1;rw[List.size_toArray] at h1;omega
  rw[List.set_eq_take_append_cons_drop,if_pos eH];simp
 rw[hp,key l i k h]
section
variable {s:AS}{pr:Prim}{v:Value}{xs:List aW}{us:List Nd}
theorem uw:∀{xs:List aW},(∀x∈xs,x.c9.oneCell'=true)→(xs.flatMap aW.cells).all Value.oneCell'=true
 | [],_=>rfl
 | x::xs,h=>by have:=uw (xs:=xs) fun y hy=>h y (by simp[hy]);rw[List.flatMap_cons,List.all_append,this];have h1:=h x (by simp);show((true&&(true&&(true&&(true&&(x.c9.oneCell'&&true)))))&&true)=true;rw[h1];rfl
theorem wY{b d n k:Nat}(h:d<b):dx (.slice (sq b) n k) (sq d)=true:=by
 show(!Nat.beq b d)=true;cases U:Nat.beq b d with
 | true=>have:=Nat.eq_of_beq_eq_true U; omega
 | false=>rfl
theorem Fx(U:pr 41=none)(hA:qE s v xs)(hn:xs.length≤100000)(hp:0<xs.length)(ho:∀x∈xs,x.c9.oneCell'=true):∃s' d,Ef pr 41 #[v] s (.slice (sq d) xs.length xs.length) s'∧Has s' d (.cells (aX xs) 44 (1,1))∧aQ (fun _=>False) s s'∧s.nx≤d:=by obtain⟨d0,k0,fz,rfl,hd⟩:=hA;have jc:=jk xs;have z1:=Has.new s (.cells #[] 44);have Ms:=hd.add (.cells #[] 44);have xY:=fM (P:=prog) (s:=s.add (.cells #[] 44)) (e:=44) (news:=xs.flatMap aW.cells) (m:=xs.length) (d:=s.nx) (n:=0) (k:=0) (sz:=5) (by omega) z1.2 (by kernel_rfl) (by simp) (by omega);rw[Nat.zero_add] at xY;have hf:aQ (fun _=>False) s (((s.add (.cells #[] 44)).set s.nx none).add (.cells (aX xs) 44 (1,1))):=(((aQ.refl s).add _).set (fun h=>by omega) _).add _;have Dk:=Has.new ((s.add (.cells #[] 44)).set s.nx none) (.cells (aX xs) 44 (1,1));generalize hN:xs.length=N at *;refine⟨_,(s.add (.cells #[] 44)).nx,?_,Dk,hf,by simp⟩;refine EF.of U func41 rfl ?_;refine zs (EW.seq (zr (zf (za s (zF (zr (zg 2 (s.add (.cells #[] 44)) (zp (gZ (sl:=.slice (sq s.nx) 0 0) (news:=xs.flatMap aW.cells) (d:=d0) (m:=N) (k:=k0) (sz:=5) (z:=Lt) (bytes:=72) rfl (by kernel_rfl) (by kernel_rfl) underlying38 (by kernel_rfl) rfl (by decide) (by decide) (by kernel_rfl) Ms.2 (wY hd.1) (by omega) (by rw[jc]; exact Nat.le_refl _) (by rw[List.take_of_length_le (by rw[Array.length_toList,jc]; exact Nat.le_refl _)]) (uw ho) xY) (zf ?_)))))))));exact yR
theorem CQ(l:jH):(fA l).toList.all Value.oneCell'=true:=by
 induction l with
 | nil=>rfl
 | cons x l U=>simp[fA,Value.oneCell'] at U ⊢
theorem Fv(a0:pr 42=none){l:jH}(hA:bT s v l)(hn:l.length≤100000):∃s' w,Ef pr 42 #[v] s w s'∧bT s' w l∧aQ (fun _=>False) s s':=by
 rcases hA with ⟨rfl,rfl⟩|⟨d0,k0,fz,rfl,a1,hd⟩
 ·refine⟨s,aG,?_,.inl ⟨rfl,rfl⟩,aQ.refl s⟩;refine EF.of a0 func42 rfl ?_;refine zs (EW.seq (zr (zf (za s (zH (zs ?_))))));exact EW.ret ⟨.inr rfl,(by kernel_rfl),(by kernel_rfl)⟩
 ·have U:=ni l;have z1:=Has.new s (.cells #[] 47);have Ms:=Has.add (s:=s) ⟨a1,hd⟩ (.cells #[] 47);have V0:=wY (n:=0) (k:=0) a1;obtain⟨s',w,xY,hw,hf,Wh⟩:∃s' w,aZ prog 47 (.slice (sq s.nx) 0 0) (fA l).toList l.length (s.add (.cells #[] 47))=some (w,s')∧bT s' w l∧aQ (fun _=>False) s s'∧∃ad cp,w=.slice ad l.length cp:=by
   by_cases h0:l=[]
   ·subst h0;exact⟨_,_,qc (.inr ⟨_,_,_,rfl⟩),.inr ⟨_,_,_,rfl,z1.1,z1.2⟩,(aQ.refl s).add _,_,_,rfl⟩
   ·have a2:l.length≠0:=fun e=>h0 (List.length_eq_zero_iff.1 e);have xY:=fM (P:=prog) (s:=s.add (.cells #[] 47)) (e:=47) (news:=(fA l).toList) (m:=l.length) (d:=s.nx) (n:=0) (k:=0) (sz:=2) a2 z1.2 (by kernel_rfl) (by simp) (by omega);rw[Nat.zero_add] at xY;have Dk:=Has.new ((s.add (.cells #[] 47)).set s.nx none) (.cells (fA l) 47 (1,1));exact⟨_,_,xY,.inr ⟨_,_,_,rfl,Dk.1,Dk.2⟩,(((aQ.refl s).add _).set (fun h=>by omega) _).add _,_,_,rfl⟩
  obtain⟨ad,cp,rfl⟩:=Wh;refine⟨s',_,?_,hw,hf⟩;have At:=CQ l;generalize hN:l.length=N at *;refine EF.of a0 func42 rfl ?_;refine zs (EW.seq (zr (zf (za s (zF (zr (zg 2 (s.add (.cells #[] 47)) (zp (gZ (sl:=.slice (sq s.nx) 0 0) (news:=(fA l).toList) (d:=d0) (m:=N) (k:=k0) (sz:=2) (z:=.agg #[str [],str []]) (bytes:=32) rfl (by kernel_rfl) (by kernel_rfl) underlying42 (by kernel_rfl) rfl (by decide) (by decide) (by kernel_rfl) Ms.2 V0 (by omega) (by rw[U]; exact Nat.le_refl _) (by rw[List.take_of_length_le (by rw[Array.length_toList,U]; exact Nat.le_refl _)]) At xY) (zf ?_)))))))));exact EW.ret ⟨.inr rfl,(by kernel_rfl),(by kernel_rfl)⟩
def NN (B:Value)(v:Value)(n i:Nat)(x:Nat→Value):TL:=[B,x 1,aG,v,x 4,x 5,x 6,x 7,x 8,x 9,v,num (n:Nat),num (i:Nat)]++kl x 13 14
theorem gP.one(h:gP s xs us):∀x∈xs,x.c9.oneCell'=true:=fun x hx=>by
 obtain⟨i,U⟩:=List.mem_iff_getElem?.1 hx;have eH:i<us.length:=by rw[← h.1]; exact(List.getElem?_eq_some_iff.1 U).1
 obtain⟨ad,cp,e⟩:=(h.2 i x _ U (List.getElem?_eq_getElem eH)).2.2.2.2.len;rw[e]; rfl
theorem JO(h23:pr 23=none)(h41:pr 41=none)(h42:pr 42=none){B:Nat}(hB:Has s B (.cells #[v] 82))(hA:qE s v xs)(hm:gP s xs us)(hu:∀u∈us,u.c9.length≤100000)(hn:us.length≤100000)(hp:0<us.length):∃s' w ys,Ef pr 23 #[am B 0] s w s'∧qE s' w ys∧gP s' ys us∧aQ (fun _=>False) s s':=by
 suffices h:Ew pr (match Tryz.f23.body with|some c=>c|none=>.skip) ((#[am B 0]:Aq).toList++List.replicate (Tryz.f23.ntmps-(#[am B 0]:Aq).toList.length) undef) s (fun e a' s1=>(e=.normal∨e=.ret)∧∃w ys,dA prog Tryz.f23 a' s1=some w∧qE s1 w ys∧gP s1 ys us∧aQ (fun _=>False) s s1) by obtain⟨m,e,a',s1,h1,he,w,ys,h2,h3⟩:=h;exact⟨s1,w,ys,EF.of h23 func23 rfl ⟨m,e,a',s1,h1,he,h2,rfl⟩,h3⟩
 obtain⟨S,d,c1,c2,c3,c4⟩:=Fx h41 hA (by rw[hm.1]; exact hn) (by rw[hm.1]; exact hp) hm.one;have hmS:gP S xs us:=hm.fk c3 fun _ _ _ _=>id;obtain⟨d0,k0,f0,rfl,hd0⟩:=hA;rw[hm.1] at hB c1;generalize hN:us.length=N at *;refine zs (zr (zg 3 s (zp (bO (b:=B) (off:=0) (v:=.slice (sq d0) N k0) rfl underlying38 rfl (by kernel_rfl) hB.2 rfl) (zc 0 c1 (zf (za S (EW.seq (zr (zf ?_)))))))));refine EW.fill (NN (am B 0) (.slice (sq d) N N) N 0) (by kernel_rfl) ?_;intro x0;refine za S (EW.block ?_);refine EW.mono (EW.eD (Q:=fun e a' s1=>e=.exit 0∧(∃ys,ys.length=N∧Has s1 d (.cells (aX ys) 44 (1,1))∧gP s1 ys us)∧aQ (fun _=>False) s s1∧∃x,a'=NN (am B 0) (.slice (sq d) N N) N N x) (fun m a' s1=>∃i,i+m=N∧(∃ys,ys.length=N∧Has s1 d (.cells (aX ys) 44 (1,1))∧gP s1 ys us)∧aQ (fun _=>False) s s1∧∃x,a'=NN (am B 0) (.slice (sq d) N N) N i x) ?_ N _ _ ⟨0,by omega,⟨xs,by rw[hm.1,hN],c2,hmS⟩,c3,x0,rfl⟩) ?_
 ·rintro m a' U ⟨i,him,⟨ys,QT,QS,QU⟩,S8,x,rfl⟩;by_cases hi:i<N
  ·have hU:us[i]?=some us[i]:=List.getElem?_eq_getElem (by omega);have Th:=hu us[i] (List.getElem_mem _);generalize us[i]=u at hU Th;have hY:ys[i]?=some ys[i]:=List.getElem?_eq_getElem (by omega);generalize ys[i]=Y at hY;have mY:=QU.2 i Y u hY hU;have tY:=mY.2.2.2.2;obtain⟨V,w,q1,q2,q3⟩:=Fv h42 tY Th;have a4:(aX ys)[i*5+4]?=some Y.c9:=by rw[ea hY 4 (by decide)]; rfl
   have jc:=jk ys;obtain⟨ad,cp,e1⟩:=tY.len;rw[e1] at a4 q1;obtain⟨KX,K3,e2⟩:=q2.len;subst e2;have MT:=QS.fr q3 id;have Wm:gP V ys us:=QU.fk q3 fun _ _ _ _=>id;have VL:=DN hY (.slice KX u.c9.length K3);generalize Qt:u.c9.length=nA at *;have r1:Has (V.set d (some (.cells (aX (ys.set i { Y with c9:=.slice KX nA K3 })) 44 (1,1)))) d (.cells (aX (ys.set i { Y with c9:=.slice KX nA K3 })) 44 (1,1)):=MT.put _;have Vd:aQ (fun x=>x=d) V (V.set d (some (.cells (aX (ys.set i { Y with c9:=.slice KX nA K3 })) 44 (1,1)))):=aQ.set (K:=fun x=>x=d) (aQ.refl V) (fun _=>rfl) _;have r2:gP (V.set d (some (.cells (aX (ys.set i { Y with c9:=.slice KX nA K3 })) 44 (1,1)))) (ys.set i { Y with c9:=.slice KX nA K3 }) us:=by
    refine⟨by rw[List.length_set,QT,hN],fun j y u' hy Ib=>?_⟩;have yg:∀x cs fz,Has V x (.cells cs 47 fz)→¬x=d:=fun x cs fz hx=>hx.ne MT (by decide);rw[List.getElem?_set] at hy;split at hy
    ·next e =>
     subst e;split at hy
     ·cases hy;rw[hU] at Ib;cases Ib;refine⟨mY.1,mY.2.1,mY.2.2.1,mY.2.2.2.1,q2.fk Vd fun y hy=>?_⟩;rcases q2 with ⟨z,_⟩|⟨ab,c,fz,z,z1,z2⟩
      ·rw[z] at hy; exact(cj hy).elim
      ·rw[z] at hy; rw[cW hy]; exact yg _ _ _ ⟨z1,z2⟩
     ·cases hy
    ·exact(Wm.fk Vd yg).2 j y u' hy Ib
   refine zr (zp (dt (u:=num (i:Nat)) (w:=num (N:Nat)) rfl (by kernel_rfl) (by kernel_rfl) (bD (b:=true) (decide_eq_true (by omega)))) (EO.nil (EW.seq (zT (EW.seq (EW.block (za U (zs (za U (zx (zk 4 (zp (vY (b:=d) (off:=0) (n:=N) (cp:=N) (k:=i*5) (sp:=none) (kd:=.i64) (j:=(i:Nat)) (sz:=5) rfl underlying38 (by kernel_rfl) (by kernel_rfl) (by kernel_rfl) (by omega) (by omega) (by omega)) (zg 1 U (zp (bO (b:=d) (off:=i*5+4) (v:=.slice ad nA cp) rfl underlying42 rfl (by kernel_rfl) QS.2 a4) (zc 0 q1 (zp (vY (b:=d) (off:=0) (n:=N) (cp:=N) (k:=i*5) (sp:=none) (kd:=.i64) (j:=(i:Nat)) (sz:=5) rfl underlying38 (by kernel_rfl) (by kernel_rfl) (by kernel_rfl) (by omega) (by omega) (by omega)) (zg 1 V (zp (ir (b:=d) (off:=i*5+4) (w:=.slice KX nA K3) rfl (by kernel_rfl) (by kernel_rfl) rfl rfl (by kernel_rfl) MT.2 (by rw[jc]; omega)) (EO.nil (za (V.set d (some (.cells (putAt (aX ys) (i*5+4) [.slice KX nA K3]) 44 (1,1)))) ?_))))))))))))))))))));rw[VL];refine zx (zp (mG (i:=(i:Nat)) (j:=1) (r:=((i+1:Nat):Int)) rfl (by kernel_rfl) (by kernel_rfl) (by omega) (by omega)) (zf ?_));refine⟨m-1,by omega,i+1,by omega,⟨_,by rw[List.length_set,QT],r1,r2⟩,(S8.trans q3 fun _ _ z=>z).trans Vd (fun y hy z=>by omega),bG (by kernel_rfl)⟩
  ·obtain rfl:i=N:=by omega
   refine zr (zp (dt (u:=num (i:Nat)) (w:=num (i:Nat)) rfl (by kernel_rfl) (by kernel_rfl) (bD (b:=false) (decide_eq_false (by omega)))) (EO.nil (za U (EW.seq (zG (EW.exit ?_))))));exact⟨rfl,⟨ys,QT,QS,QU⟩,S8,bG (by kernel_rfl)⟩
 ·rintro e a' U ⟨rfl,⟨ys,QT,QS,QU⟩,S8,x,rfl⟩;refine zs ?_;exact EW.ret ⟨.inr rfl,_,ys,(by kernel_rfl),⟨d,N,(1,1),by rw[QT],QS⟩,QU,S8⟩
end
def Np (cv cw:List Nat):List Nat:=[60,104,116,109,108,62,60,104,101,97,100,62,60,47,104,101,97,100,62,60,98,111,100,121,62]++[60,113,32,118,61,34]++fS [38,34] cv++[34,62]++fS [38,60,62] cw++[60,47,113,62,60,47,98,111,100,121,62,60,47,104,116,109,108,62]
section
variable {cv cw:List Nat}{s:AS}
theorem Pl.app{a b:List Nat}(U:Pl a)(hb:Pl b):Pl (a++b):=fun c hc=>by
 rcases List.mem_append.1 hc with h|h
 ·exact U c h
 ·exact hb c h
theorem tW(hv:Pl cv)(hw:Pl cw):iL (dR cv)=dR (fS [38,34] cv)∧li (dR cw)=dR (fS [38,60,62] cw)∧Pl (fS [38,34] cv)∧Pl (fS [38,60,62] cw)∧(∀x∈fS [38,34] cv,x≠34)∧∀x∈fS [38,60,62] cw,x≠60:=by
 obtain⟨U,a2,a3⟩:=vx (.inl rfl) hv;obtain⟨b1,b2,b3⟩:=vx (.inr rfl) hw;refine⟨(tU _).trans U,(tV _).trans b1,a2,b2,fun x hx e=>?_,fun x hx e=>?_⟩
 ·have:=a3 x hx (by rw[e]; simp);omega
 ·have:=b3 x hx (by rw[e]; simp);omega
theorem RA(hv:Pl cv)(hw:Pl cw):qI (dR cv) (dR cw)=dR (Np cv cw)∧Pl (Np cv cw)∧qL (Np cv cw)=sQ (qL (fS [38,34] cv)) (qL (fS [38,60,62] cw)):=by
 obtain⟨h1,h2,h3,U,h5,h6⟩:=tW hv hw;refine⟨?_,?_,?_⟩
 ·unfold Np qI;rw[fD,fD,fD,fD,fD,h1,h2];rfl
 ·have k1:Pl [60,104,116,109,108,62,60,104,101,97,100,62,60,47,104,101,97,100,62,60,98,111,100,121,62]:=by unfold Pl It; decide
  have k2:Pl [60,113,32,118,61,34]:=by unfold Pl It; decide
  have k3:Pl [34,62]:=by unfold Pl It; decide
  have k4:Pl [60,47,113,62,60,47,98,111,100,121,62,60,47,104,116,109,108,62]:=by unfold Pl It; decide
  exact((((k1.app k2).app h3).app k3).app U).app k4
 ·unfold Np sQ qL;rw[List.map_append,List.map_append,List.map_append,List.map_append,List.map_append];rfl
theorem EF.evalW{P:Program}{pr:Prim}{f:FuncId}{args:Aq}{v:Value}(n:Nat)(h:(br P kt pr n f args s).map Prod.fst=some v):∃s1,EF P kt pr f args s v s1:=by
 cases U:br P kt pr n f args s with
 | none=>rw[U] at h; cases h
 | some r =>rw[U] at h;obtain⟨v',s1⟩:=r;cases h;exact⟨s1,n,U⟩
theorem JN{un:Bq→Int→Option (Bq)}:∀x∈JM,∃s1,Ef (OB prog 0 un all) 258 #[str x] ⟨[],66⟩ (str x) s1:=by intro x U;simp only[JM,List.mem_cons,List.not_mem_nil,or_false] at U;rcases U with rfl|rfl|rfl|rfl|rfl<;>exact EF.evalW 200 (by kernel_rfl)
structure EN(oI:Prim)(us:List Nd):Prop where
 run:∀s:AS,s.nx=66→s.get 1=some (.cells cY.toArray 335)→s.get 64=some (.cells #[aG] 82)→∃s3 w xs,EW prog mB oI (match Tryz.f38.body with|some c=>c|none=>.skip) ([am 65 0,am 64 0]++List.replicate 5 undef) s (fun e _ s'=>(e=.normal∨e=.ret)∧s'=s3)∧Has s3 64 (.cells #[w] 82)∧qE s3 w xs∧gP s3 xs us∧aQ (fun x=>x=64) s s3∧∀x,blk w x→66≤x
theorem GU(hv:Pl cv)(hw:Pl cw)(a7:cw≠[])(lv:(dR cv).length≤61)(lw:(dR cw).length≤61):∃oI,zy 65 oI (bV ⟨(qI (dR cv) (dR cw)).toArray⟩)∧EN oI (ta (dR cv) (dR cw)):=by
 obtain⟨h1,h2,h3,h4,h5,h6⟩:=tW hv hw;obtain⟨p1,p2,p3⟩:=RA hv hw;have Dc:bV ⟨(qI (dR cv) (dR cw)).toArray⟩=sQ (qL (fS [38,34] cv)) (qL (fS [38,60,62] cw)):=by rw[p1,AD p2,p3]
 have ai:=(rN (v:=dR cv) (w:=dR cw) (by omega) (by omega)).1;have F8:(Np cv cw).length≤12000:=by have:=(q8 (Np cv cw)).1; rw[← p1] at this; omega
 have a2:∀l∈sQ (qL (fS [38,34] cv)) (qL (fS [38,60,62] cw)),∃c:Nat,It c∧l=((c:Nat):Int):=by intro l hl;rw[← p3] at hl;obtain⟨c,U,rfl⟩:=List.mem_map.1 hl;exact⟨c,(p2 c U).1,rfl⟩
 have a4:(sQ (qL (fS [38,34] cv)) (qL (fS [38,60,62] cw))).length≤100000:=by rw[← p3,Jw]; omega
 have u1:bw (qL (fS [38,34] cv))=iL (dR cv):=by rw[wB fun c U=>(h3 c U).1,h1]
 have u2:bw (qL (fS [38,60,62] cw))=li (dR cw):=by rw[wB fun c U=>(h4 c U).1,h2]
 have hB:qL (fS [38,60,62] cw)≠[]:=by
  intro e;have e2:=congrArg bw e;rw[u2] at e2;obtain⟨c,r,rfl⟩:=List.exists_cons_of_ne_nil a7;have:li (dR (c::r))≠[]:=by
   rw[h2];intro e3;have e4:=(q8 (fS [38,60,62] (c::r))).1;rw[e3] at e4;have e5:(rM [38,60,62] c++fS [38,60,62] r).length≤0:=e4;rw[List.length_append] at e5;have e6:1≤(rM [38,60,62] c).length:=by unfold rM; split<;>simp
   omega
  exact this e2
 have a9:dR cw≠[]:=by
  intro e
  have:=(q8 cw).1;rw[e] at this;exact a7 (List.length_eq_zero_iff.1 (by simpa using this))
 have aj:=jC (v:=dR cv) (w:=dR cw) (by omega) (by omega);have Uz:∀x∈qL (fS [38,34] cv),x≠34:=fun x hx=>by
  obtain⟨c,U,rfl⟩:=List.mem_map.1 hx
  have:=h5 c U;omega
 have a5:∀x∈qL (fS [38,60,62] cw),x≠60∧x ≠ -1:=fun x hx=>by
  obtain⟨c,U,rfl⟩:=List.mem_map.1 hx
  have:=h6 c U;omega
 rw[Dc];clear p1 p2 p3 Dc F8;have ae:=tU (dR cv);have hfw:=tV (dR cw);generalize qL (fS [38,34] cv)=A at *;generalize qL (fS [38,60,62] cw)=B at *;clear h1 h2 h3 h4 h5 h6;generalize dR cv=v at *;generalize dR cw=w at *;obtain⟨un,V6⟩:∃un:Bq→Int→Option (Bq),un=fun x k=>if x=iL v∧k=1 then some v else if x=li w∧k=0 then some w else none:=⟨_,rfl⟩;have Y5:un (iL v) 1=some v:=by rw[V6]; simp
 have aa:un (li w) 0=some w:=by rw[V6]; simp
 have hE:∀x k y,un x k=some y→EL x y:=by
  intro x k y h;rw[V6] at h;simp only at h;split at h
  ·next U=>cases h; rw[U.1]; exact⟨_,.inl rfl,ae,by omega,by omega⟩
  ·split at h
   ·next U=>cases h; rw[U.1]; exact⟨_,.inr rfl,hfw,by omega,by omega⟩
   ·cases h
 obtain⟨w0,s0,ah⟩:=Nr (names:=JM) (un:=un) (all:=sQ A B) (x:=w) (by omega);obtain⟨tr,QI⟩:∃tr:Bq→Option (Bq),tr=fun x=>if x=w then some w0 else none:=⟨_,rfl⟩;have tr1:tr w=some w0:=by rw[QI]; simp
 refine⟨J6 prog un JM tr (sQ A B),J8 hE JN fun x y a0=>?_,⟨fun s Ow ag VS=>?_⟩⟩
 ·rw[QI] at a0;simp only at a0;split at a0
  ·next e=>cases a0; rw[e]; exact⟨s0,ah⟩
  ·cases a0
 have hJ:=RE (un:=un) (names:=JM) (tr:=tr) a2 a4;have MO:=fun c=>C3 (c:=c) (v:=v) (w:=w) hJ Uz hB a5 (by rw[u1]; exact⟨v,Y5⟩) (by rw[u2]; exact⟨w,aa⟩) (by rw[u1]; show(un (iL v) 1).getD []=v; rw[Y5]; rfl) (by rw[u2]; show(un (li w) 0).getD []=w; rw[aa]; rfl) a9 (by omega);have hlA:A.length+B.length≤100000:=by have:=a4; unfold sQ at this; simp at this; omega
 have a8:=I7 (pr:=J6 prog un JM tr (sQ A B)) (v:=v) (w:=w) GP J7 (GQ tr1);obtain⟨S1,v1,ts,e1,e2,e3,e4,e5⟩:=Xi (s:=s) (Lf (un:=un) (names:=JM) (tr:=tr) a2 a4) (n:=9) (st:=bM v w A B) rfl (fun i hi=>MO s.nx i hi) (by
  show dz (sQ A B) (51+A.length+B.length) = -1;unfold dz;rw[List.getElem?_eq_none (by unfold sQ; simp; omega)];rfl) (fun i hi=>by
  have:i=0∨i=1∨i=2∨i=3∨i=4∨i=5∨i=6∨i=7∨i=8∨i=9:=by omega
  rcases this with rfl|rfl|rfl|rfl|rfl|rfl|rfl|rfl|rfl|rfl<;>simp[bM]<;>omega) ⟨by omega,ag⟩ (by omega);have e3:fY S1 ts (LZ v w):=e3;obtain⟨S2,wv,xs,f1,f2,f3,f4,f5⟩:=NY (s:=S1) GP e2 e3 (by simp[LZ]) a8 rfl;have a3:aQ (fun _=>False) s S2:=e4.trans f4 fun _ _ z=>z;have a1:Has S2 64 (.cells #[aG] 82):=Has.fr (s:=s) ⟨by omega,VS⟩ a3 id;obtain⟨vd,vc,Wa⟩:∃ad cp,v1=.slice ad ts.length cp:=by
  rcases e2 with ⟨rfl,rfl⟩|⟨d,fz,rfl,_⟩
  ·exact⟨none,0,rfl⟩
  ·exact⟨_,_,rfl⟩
 subst Wa;obtain⟨nd,nc,nf,af,a6⟩:=f2;subst af;have tj:aQ (fun x=>x=64) S2 (S2.set 64 (some (.cells #[.slice (sq nd) xs.length nc] 82))):=aQ.set (K:=fun x=>x=64) (aQ.refl S2) (fun _=>rfl) _;refine⟨S2.set 64 (some (.cells #[.slice (sq nd) xs.length nc] 82)),_,xs,?_,a1.put _,⟨nd,nc,nf,rfl,a6.fr tj (a6.ne a1 (by decide))⟩,f3.fk tj fun x cs fz hx=>hx.ne a1 (by decide),(a3.mono fun _ _ z=>z.elim).trans tj (fun _ _ z=>z),fun x hx=>?_⟩
 ·generalize ts.length=nT at *;refine zx (zc 1 e1 (zc 0 f1 (zg 1 S2 (zp (ys 64 0 (.slice (sq nd) xs.length nc) a1.2 (by simp)) (EO.nil ?_)))));exact⟨.inl rfl,(by kernel_rfl)⟩
 ·have:=f5 x hx
  have:=e4.1;omega
end
end Go.Proofs.YtgcaionclkbehaaGreatDoor
