import Derived.Test.YtgcaionclkbehaaGreatDoorQuiet
import Derived.Deep.MidRow
import Derived.Great.BuildSlice
import Derived.Lib.BufferWrite
import Derived.Lib.Bytealg
import Derived.Laws.Slices
import Derived.Laws.Runes
set_option linter.all false
set_option maxHeartbeats 2000000
set_option maxRecDepth 100000
namespace Go.Proofs.YtgcaionclkbehaaGreatDoor
section
open Go.Conc Go.RowKit Go.Lib Tryz
variable {e:TypeId}{b n sz N0:Nat}{v:Value}{Oe:Nat->Prop}{o':Obj}{xs:Vq}{KT:TypeId->Prop}{M:World->Nat->Prop}{w aK w':World}{l:Hq}{ι:Type}{P:Program}{X:ι->Gq}{fn:FuncId}{Q:gY ι}{a:Act}{vs:ι}{H:Hq->World->Prop}
variable {x:Operand}{t ty:TypeId}{s:ByteArray}{i id k len off p' pos:Nat}{K:Cfg}{v':Value}{tk:Iq}{en:Bool}{o:Oper}{cs:Vq}{cells cur cur':Aq}{fz:Nat × Nat}{α:Type}{ops:Array Oper}{rest:List Nat}{d:TypeDesc}
structure HL(M:World->Nat->Prop)(O:Nat->Prop)(N0:Nat)(Ex:Nat->Prop)(w₀:World)(l:Hq)(w:World):Prop where
 kept:Kept M O Ex w₀ w
 size:N0<=w.heap.size
 own:∀b o,(b,o)∈l->M w b/\w.heap[b]?=some o/\(Ex b\/w₀.heap.size<=b)
 nodup:(l.map Prod.fst).Nodup
variable {Ex:Nat->Prop}{w₀:World}
section
variable {O:Nat->Prop}{R:Wq}{D:World->World->Array Event->Prop}{o:Obj}
def HL.rely(E:Env KT N0 M O R D)(h:HL M O N0 Ex w₀ l w)(r:R w aK):HL M O N0 Ex w₀ l aK :=
 ⟨h.kept.rely E r,lT h.size<|E.size r,λb o hm=>⟨E.stay r (h.own b o hm).1,(E.keep r (h.own b o hm).1).trans (h.own b o hm).2.1,(h.own b o hm).2.2⟩,h.nodup⟩
def HL.perm{a:Hq}(h:HL M O N0 Ex w₀ l w)(p:a.Perm l):HL M O N0 Ex w₀ a w:=⟨h.kept,h.size,λb o c=>h.own b o<|p.mem_iff.1 c,(p.map Prod.fst).nodup_iff.2 h.nodup⟩
def HL.drop{x:Nat × Obj}(h:HL M O N0 Ex w₀ (x::l) w):HL M O N0 Ex w₀ l w:=⟨h.kept,h.size,λb o a=>h.own b o<|Dv _ a,(List.nodup_cons.1 h.nodup).2⟩
def HL.head(h:HL M O N0 Ex w₀ ((b,o)::l) w):M w b/\w.heap[b]?=some o/\(Ex b\/w₀.heap.size<=b):=h.own b o<|List.mem_cons_self ..
theorem HL.grown(E:Env KT N0 M O R D)(h:HL M O N0 Ex w₀ l w)(a:Own KT M w (w.alloc o)):HL M O N0 Ex w₀ ((w.heap.size,o)::l) (w.alloc o):=by
 refine⟨h.kept.own E a λb c _=>Below.heap_alloc _ _ _<|E.lt<|h.kept.mine b c,by simp[World.size_alloc];have:=h.size;omega,λb f U=>?_,?_⟩
 .rcases oc.1 U with e|U
  .cases e;exact⟨E.new h.size a lr<|by simp_all,heap_alloc_new w _,.inr h.kept.grow⟩
  .have⟨h1,h2,h3⟩:=h.own b f U;exact⟨E.mine a h1,(Below.heap_alloc _ _ _<|E.lt h1).trans h2,h3⟩
 .refine List.nodup_cons.2 ⟨λU=>?_,h.nodup⟩;have⟨p,d,e⟩:=List.mem_map.1 U;have g:=E.lt (h.own p.1 p.2 d).1;grind
def HL.turn(E:Env KT N0 M O R D)(h:HL M O N0 Ex w₀ ((b,o)::l) w)(a:Own KT M w w')(i:w'.heap[b]?=some o')(g:∀k,k≠b->w'.heap[k]?=w.heap[k]?):HL M O N0 Ex w₀ ((b,o')::l) w':=by
 have j:=List.nodup_cons.1 h.nodup;refine⟨h.kept.own E a λk c n=>g k λe=>?_,lT h.size a.grow,λk f m=>?_,h.nodup⟩
 .subst e;rcases h.head.2.2 with z|z
  .exact n z
  .have:=E.lt c;omega
 .rcases oc.1 m with e|VQ
  .cases e;exact⟨E.mine a h.head.1,i,h.head.2.2⟩
  .have⟨h1,h2,h3⟩:=h.own k f<|Dv _ VQ;have d:k≠b:=λe=>j.1<|List.mem_map.2 ⟨_,VQ,e⟩;exact⟨E.mine a h1,(g k d).trans h2,h3⟩
theorem HL.past(E:Env KT N0 M O R D)(h:HL M O N0 Ex w₀ l w)(k:Kept M O (λ_=>False) w w')(U:N0<=w'.heap.size):HL M O N0 Ex w₀ l w' :=
 ⟨h.kept.trans E k<|λ_ z=>z.elim,U,λb o a=>⟨k.mine _ (h.own b o a).1,(k.block _ (h.own b o a).1 id).trans (h.own b o a).2.1,(h.own b o a).2.2⟩,h.nodup⟩
end
section
variable {R:ι->Wq}{D:ι->World->World->Array Event->Prop}{O:Nat->Prop}
section
variable (ht:P.underlying t=some .string)
def Kg(w:World):(Instr.range t<|.string s).run P w=.ok (.pointer<|sq w.heap.size) (w.alloc<|.stringIter s 0):=by simp[Instr.range,run_underlying ht,newObj,Sem.run]
def A5(w:World)(es:Array Event):(Instr.range t<|.string s).events P w es=es:=by simp[Instr.range,newObj,underlying,ht];rfl
end
section
variable (hb:w.heap[b]?=some (.stringIter s pos))
def mJ:(getObj b).run P w=.ok (.stringIter s pos) w:=by simp[getObj,Sem.run,hb]
def pk(es:Array Event):(getObj b).events P w es=es.push ⟨.obj b,false,false⟩:=by unfold Sem.events;simp only[getObj,Sem.runT,hb,Obj.isChan]
end
def Ee(o:Obj)(a:w.heap[b]?=some (.stringIter s pos)):(setObj b o).run P w=.ok () { w with heap:=w.heap.setIfInBounds b o }:=by simp[setObj,Sem.run,a]
section
variable (hb:w.heap[b]?=some (.stringIter s pos))
def wS(es:Array Event):(setObj b<|.stringIter s p').events P w es=es.push ⟨.obj b,true,false⟩:=by unfold Sem.events;simp only[setObj,Sem.runT,hb,Obj.isChan]
def Np(a:pos<s.size) :
  (Instr.next (.pointer<|sq b) true t).run P w=.ok (.tuple #[.bool true,.int .i64 pos,.int .i32 (Utf8.decode s pos).1]) { w with heap:=w.heap.setIfInBounds b (.stringIter s<|pos+(Utf8.decode s pos).2) }:=by simp[Instr.next,mJ hb,Ee _ hb,a,goInt]
def Db(a:pos<s.size)(es:Array Event) :
  (Instr.next (.pointer<|sq b) true t).events P w es=(es.push ⟨.obj b,false,false⟩).push ⟨.obj b,true,false⟩:=by simp[Instr.next,mJ hb,pk hb,wS hb,a,goInt]
def BJ(a:¬pos<s.size) :
  (Instr.next (.pointer<|sq b) true t).run P w=.ok (.tuple #[.bool false]) w:=by simp[Instr.next,mJ hb,a]
def vB(a:¬pos<s.size)(es:Array Event) :
  (Instr.next (.pointer<|sq b) true t).events P w es=es.push ⟨.obj b,false,false⟩:=by simp[Instr.next,mJ hb,pk hb,a]
end
end
section
variable {O:Nat->Prop}{R:Wq}{D:World->World->Array Event->Prop}
def HL.over(E:Env KT N0 M O R D)(h:HL M O N0 Ex w₀ l w)(k:Kept M O Oe w w')(hs:N0<=w'.heap.size)(hl:∀b o,(b,o)∈l->¬Oe b)(hx:∀b,Oe b->Ex b\/w₀.heap.size<=b):HL M O N0 Ex w₀ l w' :=
 ⟨h.kept.trans E k hx,hs,λb o hm=>⟨k.mine _ (h.own b o hm).1,(k.block _ (h.own b o hm).1<|hl b o hm).trans (h.own b o hm).2.1,(h.own b o hm).2.2⟩,h.nodup⟩
end
structure HX(K:Cfg)(Ex:Nat->Prop)(w₀:World)(all:Iq)(Rb:Nat)(i:Ph)(l:Hq)(w:World):Prop where
 hl:HL (dK K) (jZ K) K.N0 Ex w₀ l w
 row:∃v tk rest en,tk++rest=all/\KA rest en i/\HW K (tO Rb v) w Rb v v tk en w/\(∀b o,(b,o)∈l->¬tO Rb v b)/\∀b,tO Rb v b->Ex b\/w₀.heap.size<=b
variable {N Pb B Rb:Nat}{Shun Mz:Loc->Prop}{val:Value}{all:Iq}{l':Hq}
section
variable {Az:Gq}{i:Ph}{o:Obj}
def HX.early(h:HX K Ex w₀ all Rb i l w):i.early:=by have⟨_,_,_,_,_,a,_⟩:=h.row;exact a.early
variable [ConcR.Payload][ConcX.Payload]
variable [ConcX.Shy (Cfg.Wg<|aJ prog N Pb Shun val B Mz) (Cfg.C<|aJ prog N Pb Shun val B Mz)]
section
variable (F:Cfg.Fit (aJ prog N Pb Shun val B Mz))
section
variable (h:HX (aJ prog N Pb Shun val B Mz) Ex w₀ all Rb i l w)
def HX.env:Env fa (N+9) (dK<|aJ prog N Pb Shun val B Mz) (jZ<|aJ prog N Pb Shun val B Mz) (rK (aJ prog N Pb Shun val B Mz) i) (yT (aJ prog N Pb Shun val B Mz) i):=C5 F h.early
def HX.rely(r:rK (aJ prog N Pb Shun val B Mz) i w aK):HX (aJ prog N Pb Shun val B Mz) Ex w₀ all Rb i l aK:=by have E:=h.env F;have⟨v,e,a,b,h1,h2,h3,c,d⟩:=h.row;exact⟨h.hl.rely E r,v,e,a,b,h1,h2,(h3.z8 E r).ol,c,d⟩
end
end
def HX.drop{x:Nat × Obj}(h:HX K Ex w₀ all Rb i (x::l) w):HX K Ex w₀ all Rb i l w:=by have⟨v,g,a,c,h1,h2,h3,d,e⟩:=h.row;exact⟨h.hl.drop,v,g,a,c,h1,h2,h3,λb o f=>d b o<|Dv _ f,e⟩
def HW.still(h:HW K Oe w₀ Rb v v tk en w)(hb:∀b,tO Rb v b->w'.heap[b]?=w.heap[b]?)(hm:∀b,dK K w b->dK K w' b)(hs:K.N0<=w'.heap.size):HW K (tO Rb v) w' Rb v v tk en w' :=
 ⟨(hb Rb<|.inl Y).trans h.rb,hm _ h.mr,.inl<|.inl Y,⟨(h.ro.same λk hk=>⟨hb k<|.inr hk,hm _ (h.ro.own k hk).1⟩).row,λk hk=>⟨hm _ (h.ro.own k hk).1,.inl<|.inr hk⟩,h.ro.nil⟩,hs,Kept.refl _⟩
def HW.lt(F:K.Fit)(h:HW K Oe w₀ Rb v v tk en w)(b:Nat)(a:tO Rb v b):b<w.heap.size:=by
 rcases a with rfl|a
 .exact h.mr.1
 .exact(h.ro.own b a).1.1
def HX.grown(F:Cfg.Fit (aJ prog N Pb Shun val B Mz))(h:HX (aJ prog N Pb Shun val B Mz) Ex w₀ all Rb i l w)(d:Own fa (dK<|aJ prog N Pb Shun val B Mz) w (w.alloc o)):HX (aJ prog N Pb Shun val B Mz) Ex w₀ all Rb i ((w.heap.size,o)::l) (w.alloc o):=by
 have E:=h.env F;have⟨v,n,c,f,h1,h2,h3,g,j⟩:=h.row;refine⟨h.hl.grown E d,v,n,c,f,h1,h2,h3.still (λb a=>Below.heap_alloc _ _ _<|h3.lt F b a) (λb a=>E.mine d a)<|by simp[World.size_alloc];have:=h.hl.size;omega,λb m k=>?_,j⟩;rcases oc.1 k with e|VQ
 .cases e;exact λa=>absurd (h3.lt F _ a)<|Nat.lt_irrefl _
 .exact g b m VQ
theorem HX.turn(F:Cfg.Fit (aJ prog N Pb Shun val B Mz))(h:HX (aJ prog N Pb Shun val B Mz) Ex w₀ all Rb i ((b,o)::l) w)(U:Own fa (dK<|aJ prog N Pb Shun val B Mz) w w')(c:w'.heap[b]?=some o')(f:∀k,k≠b->w'.heap[k]?=w.heap[k]?):HX (aJ prog N Pb Shun val B Mz) Ex w₀ all Rb i ((b,o')::l) w':=by have E:=h.env F;have⟨v,p,a,g,h1,h2,h3,j,m⟩:=h.row;refine⟨h.hl.turn E U c f,v,p,a,g,h1,h2,h3.still (λk d=>f k λe=>j b o (List.mem_cons_self ..)<|e▸d) (λb c=>E.mine U c)<|lT h.hl.size U.grow,λk n q=>?_,m⟩;grind
theorem HX.past(F:Cfg.Fit (aJ prog N Pb Shun val B Mz))(h:HX (aJ prog N Pb Shun val B Mz) Ex w₀ all Rb i l w)(k:Kept (dK<|aJ prog N Pb Shun val B Mz) (jZ<|aJ prog N Pb Shun val B Mz) (λ_=>False) w w')(U:N+9<=w'.heap.size):HX (aJ prog N Pb Shun val B Mz) Ex w₀ all Rb i l w':=by
 have⟨v,g,c,d,h1,h2,h3,e,f⟩:=h.row;refine⟨h.hl.past (h.env F) k U,v,g,c,d,h1,h2,h3.still (λb a=>k.block b ?_ id) (λb a=>k.mine b a) U,e,f⟩;rcases a with rfl|a
 .exact h3.mr
 .exact(h3.ro.own b a).1
def HX.at(F:Cfg.Fit (aJ prog N Pb Shun val B Mz))(D:all.length<=1000000)(h:HX (aJ prog N Pb Shun val B Mz) Ex w₀ all Rb i l w)(a:Nat) :
  gj prog (XM (aJ prog N Pb Shun val B Mz) Az) 146 #[.pointer (sq Rb),.int .i64 (a:Int)] i w (λt x A=>x=.int .i32 (all[a]?.getD (-1))/\HX (aJ prog N Pb Shun val B Mz) Ex w₀ all Rb t l A):=by
 have E:=h.env F;have⟨v,P,u,O,h1,h2,h3,p,q⟩:=h.row;have⟨f,c,C,m,g,G⟩:=aaK (Az:=Az) F all a h1 D h3 h2;refine⟨f,c,C,m,g,nO G ?_⟩;rintro t e M A ⟨J,K,x,L,rfl,y,n,d,k,H,I,j⟩;have s:=j.exs;refine⟨J,K,_,L,Y,h.hl.over E j.old j.size p q,y,n,d,k,H,I,j.ol,λb o r g=>?_,λb g=>?_⟩
 .rcases s b g with z|z
  .exact p b o r z
  .have:=E.lt (h.hl.own b o r).1;omega
 .rcases s b g with z|z
  .exact q b z
  .exact .inr<|lT h.hl.kept.grow z
end
def oz(e:TypeId)(sz:Nat)(v:Value)(n:Nat)(xs:Vq)(rl:Hq):Prop :=
 xs.length=n*sz/\((v=.slice none 0 0/\n=0/\rl=[]) \/
  ∃g cap cur,v=.slice (some ⟨g,0,none⟩) n cap/\rl=[(g,.cells cur e)]/\0<n/\n<=cap/\cap<=maxLen/\cur.size=cap*sz/\cur.toList.take (n*sz)=xs)
def kV(e:TypeId)(sz:Nat)(v:Value)(n:Nat)(xs:Vq)(rl:Hq):Prop :=
 xs.length=n*sz/\((v=.slice none 0 0/\n=0/\rl=[]) \/
  ∃g cap cur,v=.slice (some ⟨g,0,none⟩) n cap/\rl=[(g,.cells cur e)]/\n<=cap/\cap<=maxLen/\cur.size=cap*sz/\cur.toList.take (n*sz)=xs)
theorem oz.zero{rl:Hq}(h:oz e sz v n xs rl):kV e sz v n xs rl :=
 ⟨h.1,h.2.imp id λ⟨g,a,b,h1,h2,_,U⟩=>⟨g,a,b,h1,h2,U⟩⟩
def oz.nil(e:TypeId)(sz:Nat):oz e sz (.slice none 0 0) 0 [] []:=⟨iq,.inl ⟨Y,Y,Y⟩⟩
variable {rl:Hq}
section
variable {O:Nat->Prop}{R:Wq}{D:World->World->Array Event->Prop}{news:Vq}
section
variable (h:kV e sz v n xs rl)
def kV.YJ(a:HL M O N0 Ex w₀ (rl++l) w):w.ownsRow 0 e sz v n xs:=by
 refine⟨h.1,?_⟩;rcases h.2 with ⟨h1,h2,_⟩|⟨g,cap,cur,h1,h2,h4,h5,h6,h7⟩
 .exact .inl ⟨h1,h2⟩
 .exact .inr ⟨g,cap,cur,h1,Nat.zero_le _,(a.own g _<|by rw[h2];simp).2.1,h4,h5,h6,h7⟩
def kV.block(b:v.ownBlock=some k):∃a,rl=[(k,.cells a e)]:=by
 rcases h.2 with ⟨h1,_,_⟩|⟨g,cap,a,h1,h2,_⟩
 .rw[h1] at b;cases b
 .rw[h1] at b;cases b;exact⟨a,h2⟩
end
def HL.right(h:HL M O N0 Ex w₀ (rl++l) w):HL M O N0 Ex w₀ l w:=⟨h.kept,h.size,λb o a=>h.own b o<|MC _ a,by have:=h.nodup;rw[Bf] at this;exact(List.nodup_append.1 this).2.1⟩
theorem HL.rW(h:HL M O N0 Ex w₀ (rl++l) w){o:Obj}(h1:(k,o)∈rl)(h2:(k,o')∈l):False:=by have U:=h.nodup;grind
theorem Cb{P:Program}(E:Env KT N0 M O R D)(he:¬KT e)(h:HL M O N0 Ex w₀ (rl++l) w)(V:kV e sz v n xs rl)(t ty:TypeId)(z:Value)(bytes:Nat)(ht:P.underlying t=some (.slice e))(hi:(P.info? e).map (λi=>(i.zero,i.size,i.bytes))=some (some z,sz,bytes))(hz:z.cells.size=sz)(ar:0<sz)
 (a:Addr)(m c:Nat)(G:0<m)(hl:news.length=m*sz)(U:∀j u,news[j]?=some u->w.cell? (a.add j)=some u)(ha:M w a.block)(h1:∀u∈news,u.oneCell'=true)(hn:n+m<=maxLen)(F:(n+m)*bytes<=140737488355328) :
  ∃H r ai,(Builtin.append_ #[t,t] ty #[v,.slice (some a) m c]).run P w=.ok H r/\HL M O N0 Ex w₀ (ai++l) r/\oz e sz H (n+m) (xs++news) ai/\Own KT M w r/\(∀b,b<w.heap.size->v.ownBlock≠some b->r.heap[b]?=w.heap[b]?) /\
   (∀k,H.ownBlock=some k->v.ownBlock=some k\/w.heap.size<=k) /\
   (∀B∈(Builtin.append_ #[t,t] ty #[v,.slice (some a) m c]).events P w #[],yv (M r) B)/\∀B∈(Builtin.append_ #[t,t] ty #[v,.slice (some a) m c]).events P w #[],∀N,B.loc=.mark N->Conc.Neutral N:=by
 have⟨i0,hi,Y,Z,a9⟩:=info_parts hi;have p:=V.YJ h;have⟨H,r,A,T,hg,K,sy⟩:=run_append_own_at (P:=P) w 0 t ty e i0 z sz bytes ht hi Y Z a9 hz ar v n xs p a m c news hl U h1 hn F<|Nat.zero_le _;have aq:=rX (P:=P) 0 t ty e i0 z sz bytes ht hi Y Z a9 v n xs p a m c news hl U h1 hn F A;have ab:=events_append_where (P:=P) w 0 t ty e i0 z sz bytes ht hi Y Z a9 v n xs p a m c news hl U h1 hn F;have L:∀k,v.ownBlock=some k->M w k/\(Ex k\/w₀.heap.size<=k)/\∃d,w.heap[k]?=some (.cells d e):=by intro k x;have⟨d,J⟩:=V.block x;have⟨s,y,z3⟩:=h.own k _ (by rw[J];simp:(k,Obj.cells d e)∈rl++l);exact⟨s,z3,d,y⟩
 have C:Own KT M w r:=by
  rcases aq with rfl|⟨k,cs,x,rfl⟩|⟨cs,rfl⟩
  .exact fw _
  .have⟨s,_,d,Q⟩:=L k x;exact Own.setRow Q s he
  .have:=eB (KT:=KT) (M:=M) (w:=w.drew) (cs:=cs) (t:=e) he;exact⟨this.tape,this.os,this.output,this.grow,λb F G=>heap_alloc_old w.drew _ b F,λb o' hh x=>(this.kt b o' hh x)⟩
 have W:∀b,b<w.heap.size->v.ownBlock≠some b->r.heap[b]?=w.heap[b]?:=λb F hx=>hg.block b F<|λe=>hx e.symm;have S:∀k,H.ownBlock=some k->v.ownBlock=some k\/w.heap.size<=k:=gq
 have ao:H≠.slice Option.none 0 0:=λe=>by have:=(K.1 e).2;omega
 have⟨ae,ah⟩:=T;rcases ah with ⟨e,_⟩|⟨g,cap,d,rfl,_,Q,Xc,Rh,ZE,Xd⟩
 .exact absurd e ao
 have ak:∀o,(g,o)∈l->False:=by
  intro o T;rcases S g rfl with z|z
  .have⟨f,J⟩:=V.block z;exact h.rW (k:=g) (o:=.cells f e) (by rw[J];simp) T
  .have:=E.lt (h.own g o<|MC _ T).1;omega
 have aj:M r g:=by
  rcases S g rfl with z|z
  .exact E.mine C (L g z).1
  .exact E.new h.size C z (oF.1 Q).1
 have ag:∀b o,(b,o)∈l->v.ownBlock≠some b:=by intro b o G x;have⟨f,J⟩:=V.block x;exact h.rW (k:=b) (o:=.cells f e) (by rw[J];simp) G
 refine⟨_,r,[(g,.cells d e)],A,⟨h.kept.own E C λb aa hx=>W b (E.lt<|h.kept.mine b aa) λx=>?_,lT h.size C.grow,λb o G=>?_,?_⟩,⟨ae,.inr ⟨g,cap,d,rfl,rfl,oq,Xc,Rh,ZE,Xd⟩⟩,C,W,S,λB X=>?_,λB X N I=>?_⟩
 .rcases(L b x).2.1 with z|z
  .exact hx z
  .have:=E.lt aa;omega
 .rcases List.mem_append.1 G with z|z
  .rw[List.mem_singleton] at z;cases z;refine⟨aj,Q,?_⟩;rcases S g rfl with z|z
   .exact(L g z).2.1
   .exact .inr<|lT h.kept.grow z
  .have⟨s,y,z3⟩:=h.own b o<|MC _ z;exact⟨E.mine C s,(W b (E.lt s)<|ag b o z).trans y,z3⟩
 .refine List.nodup_cons.2 ⟨λG=>?_,h.right.nodup⟩;have⟨q,hq,e'⟩:=List.mem_map.1 G;have e2:q.1=g:=e';exact ak q.2<|by rw[<-e2];exact hq
 .rcases ab B X with ⟨ad,s,y⟩|⟨N,rfl,I⟩
  .refine .inl ⟨ad,s,E.mine C ?_⟩;rcases y with ⟨_,y⟩|y
   .rw[y];exact ha
   .exact(L _ y.symm).1
  .obtain rfl:N=.noRoom:=I;exact .inr<|.inr ⟨by simp[MemAct.ofEvent,MemAct.touch?],iq,iq,by simp[MemAct.ofEvent]⟩
 .rcases ab B X with ⟨ad,s,_⟩|⟨mk',rfl,af⟩
  .rw[s] at I;cases I
  .cases I;exact af
end
theorem ss(w:World)(t u ty e:TypeId)(i:TypeInfo)(z:Value)(C:P.underlying t=some (.slice e))(D:P.underlying u=some .string)(hi:P.info? e=some i)(M:i.zero=some z)(A:i.size=1)(K:i.bytes=1)
 (v:Value)(n:Nat)(xs:Vq)(y:w.ownsRow 0 e 1 v n xs)(s:ByteArray)(S:n+s.size<=maxLen)(Y:n+s.size<=140737488355328) :
  ∀U∈(Builtin.append_ #[t,u] ty #[v,.string s]).events P w #[],(∃c,U.loc=.cell c/\some c.block=v.ownBlock)\/∃m,U=⟨.mark m,false,true⟩/\Conc.Neutral m:=by
 have Z:n+s.size<=9223372036854775807:=by simp only[maxLen] at S;omega
 let B:Nat->Prop:=λg=>some g=v.ownBlock;let Q:Event->Prop:=λe=>e.readsIn B\/∃m,e=⟨.mark m,false,true⟩/\Conc.Neutral m;have d:∀U:Event,Q U->(∃c,U.loc=.cell c/\some c.block=v.ownBlock)\/∃m,U=⟨.mark m,false,true⟩/\Conc.Neutral m :=
  λU h=>h.elim (λ⟨c,N,_,O⟩=>.inl ⟨c,N,O⟩) .inr;have a:∀e∈(#[]:Array Event),Q e:=by intro e T;simp at T
 have str:∀(o:World) (k sz:Nat) b q p,Value.string s=.slice (some b) q p->B b.block/\∀j,j<k*sz->(o.cell?<|b.add j).isSome:=by intro _ _ _ _ _ _ e;cases e
 have l:∀(o:World) (k sz abT aaL:Nat) b q p,Value.slice none abT aaL=.slice (some b) q p->B b.block/\∀j,j<k*sz->(o.cell?<|b.add j).isSome:=gq
 intro U f;rcases y.2 with ⟨rfl,rfl⟩|⟨g,cap,cur,rfl,hbg,hg,hnc,VN,ER,htake⟩
 .by_cases L:s.size=0
  .simp[Builtin.append_,run_underlying C,run_underlying D,sizeOf,typeInfo,hi,A,Builtin.lenOf,L] at f;exact d U<|(events_firstCells_in B _ _ _ _ _ (by first|exact str _ _ _|exact l _ _ _ _ _) U f).elim (a U) .inl
  .have F:¬(9223372036854775807<(s.size:Int)):=oq
   have E:¬(281474976710656<Builtin.nextslicecap s.size 0*i.bytes):=by rw[nextslicecap_zero oq,K];omega
   have r:=run_firstCells_string (P:=P) w.drew i.size s;have V:=run_firstCells_string (P:=P) w.drew 1 s;simp[Builtin.append_,run_underlying C,run_underlying D,sizeOf,typeInfo,zeroValue,hi,M,Builtin.lenOf,L,F,E,Question.forced,run_firstCells_none,r,newRow] at f;exact d U<|(events_firstCells_in B _ _ _ _ _ (by first|exact str _ _ _|exact l _ _ _ _ _) U f).elim (λh=>(events_firstCells_in B _ _ _ _ _ (by first|exact str _ _ _|exact l _ _ _ _ _) U h).elim (λh2=>(Conc.events_askRoom _ _ _ U h2).elim (a U) .inr) .inl) .inl
 .have I:=y.cells (g:=g) rfl;have x:∀(o:World),(∀c,o.cell? c=w.cell? c)->∀b q p,Value.slice (sq g) n cap=.slice (some b) q p->B b.block/\∀j,j<n*i.size->(o.cell?<|b.add j).isSome:=by intro o H b q p e;cases e;exact⟨by simp[B,Value.ownBlock],λj W=>by rw[H];exact isSome_of_list I<|by rw[y.1,<-A];exact W⟩
  by_cases J:n+s.size<=cap
  .have R:n+s.size<=cur.size:=by rw[ER];omega
   have r:=run_firstCells_string (P:=P) w 1 s;simp[Builtin.append_,run_underlying C,run_underlying D,sizeOf,typeInfo,hi,A,Builtin.lenOf,J,r,Addr.add_lit] at f;rcases events_storeCells_at (P:=P) g n e (strCells s) 0 cur w _ hg (by simpa[strCells_length] using R) (strCells_oneCell s) U f with h|⟨c,h2,h3⟩
   .exact d U<|(events_firstCells_in B _ _ _ _ _ (str _ _ _) U h).elim (a U) .inl
   .exact .inl ⟨c,h2,by simp[Value.ownBlock,h3]⟩
  .have X:=J;have F:¬(9223372036854775807<((n:Int)+(s.size:Int))):=oq
   have E:¬(281474976710656<Builtin.nextslicecap (n+s.size) cap*i.bytes):=by have:=growslice_fits (need:=n+s.size) (old:=cap) (bytes:=i.bytes) oq (by rw[K];omega);omega
   simp[Builtin.append_,run_underlying C,run_underlying D,sizeOf,typeInfo,zeroValue,hi,M,Builtin.lenOf,X,F,E,Question.forced,(run_firstCells_string (P:=P) w.drew i.size s),(run_firstCells_some (P:=P) w.drew i.size n ⟨g,0,none⟩ n cap xs (by rw[A];exact y.1)<|by simpa using I),newRow] at f;exact d U<|(events_firstCells_in B _ _ _ _ _ (by first|exact str _ _ _|exact x _<|λ_=>rfl) U f).elim (λh=>(events_firstCells_in B _ _ _ _ _ (by first|exact str _ _ _|exact x _<|λ_=>rfl) U h).elim (λh2=>(Conc.events_askRoom _ _ _ U h2).elim (a U) .inr) .inl) .inl
theorem tW{w':World}(t u ty e:TypeId)(i:TypeInfo)(z:Value)(b:P.underlying t=some (.slice e))(c:P.underlying u=some .string)(hi:P.info? e=some i)(m:i.zero=some z)(h:i.size=1)(x:i.bytes=1)
 (v:Value)(n:Nat)(xs:Vq)(f:w.ownsRow 0 e 1 v n xs)(s:ByteArray)(r:n+s.size<=maxLen)(q:n+s.size<=140737488355328)(U:(Builtin.append_ #[t,u] ty #[v,.string s]).run P w=.ok v' w') :
  (w'=w\/(∃g d,v.ownBlock=some g/\w'=w.setRow g d)\/∃d,w'=w.drew.alloc (.cells d e))/\(v'.ownBlock=v.ownBlock\/v'.ownBlock=some w.heap.size):=by
 rcases f.2 with ⟨rfl,rfl⟩|⟨g,cap,cur,rfl,a8,hg,ae,aa,ab,a6⟩
 .by_cases l:s.size=0
  .have k:=run_firstCells_string (P:=P) w 1 s;rw[l] at k;simp[Builtin.append_,run_underlying b,run_underlying c,sizeOf,typeInfo,hi,h,Builtin.lenOf,l,k] at U;grind
  .have a:=run_append_nil_string w t u ty e i z b c hi m s oq oq gq;rw[a] at U;cases U;exact⟨.inr<|.inr ⟨_,Y⟩,.inr Y⟩
 .by_cases p:n+s.size<=cap
  .have a:=run_append_room_string w t u ty e i b c hi h g n cap cur hg s p gq;rw[a] at U;cases U;exact⟨.inr<|.inl ⟨g,_,Y,Y⟩,.inl Y⟩
  .have o:=f.cells Y;have a:=run_append_grow_string w t u ty e i z b c hi m ⟨g,0,none⟩ n cap xs gq o s oq oq<|growslice_fits oq gq;rw[a] at U;cases U;exact⟨.inr<|.inr ⟨_,Y⟩,.inr Y⟩
section
variable {O:Nat->Prop}{R:Wq}{D:World->World->Array Event->Prop}
theorem vJ(E:Env KT N0 M O R D)(he:¬KT e)(h:HL M O N0 Ex w₀ (rl++l) w)(x:kV e 1 v n xs rl)(t u ty:TypeId)(Z:P.underlying t=some (.slice e))(hu:P.underlying u=some .string)(hi:(P.info? e).map (λi=>(i.zero,i.size,i.bytes))=some (some<|.int .u8 0,1,1))
 (s:ByteArray)(Y:n+s.size<=140737488355328) :
  ∃A c W,(Builtin.append_ #[t,u] ty #[v,.string s]).run P w=.ok A c/\HL M O N0 Ex w₀ (W++l) c/\(kV e 1 A (n+s.size) (xs++strCells s) W/\(oz e 1 v n xs rl->oz e 1 A (n+s.size) (xs++strCells s) W))/\Own KT M w c/\(∀b,b<w.heap.size->v.ownBlock≠some b->c.heap[b]?=w.heap[b]?) /\
   (∀k,A.ownBlock=some k->v.ownBlock=some k\/w.heap.size<=k) /\
   (∀F∈(Builtin.append_ #[t,u] ty #[v,.string s]).events P w #[],yv (M c) F):=by
 have⟨i0,hi,S,T,V⟩:=info_parts hi;have d:=x.YJ h;have r:n+s.size<=maxLen:=by unfold maxLen;omega
 have⟨A,c,Q,N,hg,aq⟩:=run_append_own_string (P:=P) w 0 t u ty e i0 Z hu hi S T V v n xs d s r Y<|Nat.zero_le _;have⟨ao,sy⟩:=tW (P:=P) t u ty e i0 _ Z hu hi S T V v n xs d s r Y Q;have aj:=ss (P:=P) w t u ty e i0 _ Z hu hi S T V v n xs d s r Y;have H:∀k,v.ownBlock=some k->M w k/\(Ex k\/w₀.heap.size<=k)/\∃a,w.heap[k]?=some (.cells a e):=by intro k j;have⟨a,y⟩:=x.block j;have⟨p,I,z3⟩:=h.own k _ (by rw[y];simp:(k,Obj.cells a e)∈rl++l);exact⟨p,z3,a,I⟩
 have f:Own KT M w c:=by
  rcases ao with rfl|⟨k,cs,j,rfl⟩|⟨cs,rfl⟩
  .exact fw _
  .have⟨p,_,a,J⟩:=H k j;exact Own.setRow J p he
  .have:=eB (KT:=KT) (M:=M) (w:=w.drew) (cs:=cs) (t:=e) he;exact⟨this.tape,this.os,this.output,this.grow,λb X m=>heap_alloc_old w.drew _ b X,λb o' hh j=>(this.kt b o' hh j)⟩
 have U:∀b,b<w.heap.size->v.ownBlock≠some b->c.heap[b]?=w.heap[b]?:=λb X hx=>hg.block b X<|λe=>hx e.symm;have B:∀k,A.ownBlock=some k->v.ownBlock=some k\/w.heap.size<=k:=gq
 have a7:∀b o,(b,o)∈l->v.ownBlock≠some b:=by intro b o m j;have⟨C,y⟩:=x.block j;exact h.rW (k:=b) (o:=.cells C e) (by rw[y];simp) m
 have a3:=h.kept.own E f λb G hx=>U b (E.lt<|h.kept.mine b G) λj=>by
  rcases(H b j).2.1 with z|z
  .exact hx z
  .have:=E.lt G;omega
 have af:∀b o,(b,o)∈l->M c b/\c.heap[b]?=some o/\(Ex b\/w₀.heap.size<=b):=λb o z=>by have⟨p,I,z3⟩:=h.own b o<|MC _ z;exact⟨E.mine f p,(U b (E.lt p)<|a7 b o z).trans I,z3⟩
 have a6:∀F∈(Builtin.append_ #[t,u] ty #[v,.string s]).events P w #[],yv (M c) F:=λF ae=>by
  rcases aj F ae with ⟨ad,p,I⟩|⟨mk,rfl,al⟩
  .exact .inl ⟨ad,p,E.mine f (H _ I.symm).1⟩
  .obtain rfl:mk=.noRoom:=al;exact .inr<|.inr ⟨by simp[MemAct.ofEvent,MemAct.touch?],iq,iq,by simp[MemAct.ofEvent]⟩
 have⟨K,ah⟩:=N;rcases ah with ⟨e1,L⟩|⟨g,cap,a,rfl,_,J,Xc,Rh,ZE,Xd⟩
 .exact⟨A,c,[],Q,⟨a3,lT h.size f.grow,λb o m=>af b o<|by simpa using m,by simpa using h.right.nodup⟩,⟨⟨K,.inl ⟨e1,L,rfl⟩⟩,λ_=>⟨K,.inl ⟨e1,L,rfl⟩⟩⟩,f,U,B,a6⟩
 have ag:oz e 1 v n xs rl->0<n+s.size:=λx=>by
  apply Classical.byContradiction;intro hp
  have ar:v=.slice Option.none 0 0:=by
   rcases x.2 with ⟨z,_⟩|⟨_,_,_,_,_,z,_⟩
   .exact z
   .omega
  grind
 have ak:∀o,(g,o)∈l->False:=by
  intro o N;rcases B g rfl with z|z
  .exact a7 g o N z
  .have:=E.lt (h.own g o<|MC _ N).1;omega
 have ai:M c g:=by
  rcases B g rfl with z|z
  .exact E.mine f (H g z).1
  .exact E.new h.size f z (oF.1 J).1
 refine⟨_,c,[(g,.cells a e)],Q,⟨a3,lT h.size f.grow,λb o m=>?_,?_⟩,⟨⟨K,.inr ⟨g,cap,a,rfl,rfl,Xc,Rh,ZE,Xd⟩⟩,λx=>⟨K,.inr ⟨g,cap,a,rfl,rfl,ag x,Xc,Rh,ZE,Xd⟩⟩⟩,f,U,B,a6⟩
 .rcases List.mem_append.1 m with z|z
  .rw[List.mem_singleton] at z;cases z;refine⟨ai,J,?_⟩;rcases B g rfl with z|z
   .exact(H g z).2.1
   .exact .inr<|lT h.kept.grow z
  .exact af b o z
 .refine List.nodup_cons.2 ⟨λm=>?_,h.right.nodup⟩;have⟨q,hq,e'⟩:=List.mem_map.1 m;have L:q.1=g:=e';exact ak q.2<|by rw[<-L];exact hq
end
def mW(l:Hq)(b:Nat):Prop:=∃o,(b,o)∈l
variable {l1 TW:Hq}
section
variable {O:Nat->Prop}{R:Wq}{D:World->World->Array Event->Prop}
def HL.left(h:HL M O N0 Ex w₀ (l1++l) w):HL M O N0 Ex w₀ l1 w:=⟨h.kept,h.size,λb o a=>h.own b o<|KM _ a,by have:=h.nodup;rw[Bf] at this;exact(List.nodup_append.1 this).1⟩
def HL.ol(h:HL M O N0 Ex w₀ l w):HL M O N0 (mW l) w l w:=⟨Kept.refl w,h.size,λb o a=>⟨(h.own b o a).1,(h.own b o a).2.1,.inl ⟨o,a⟩⟩,h.nodup⟩
theorem HL.call(E:Env KT N0 M O R D)(h:HL M O N0 Ex w₀ (l1++l) w)(U:HL M O N0 (mW l1) w TW w'):HL M O N0 Ex w₀ (TW++l) w':=by
 have j:∀b,mW l1 b->Ex b\/w₀.heap.size<=b:=λb ⟨o,a⟩=>(h.own b o<|KM _ a).2.2;have n:∀b o,(b,o)∈l->¬mW l1 b:=λb o a ⟨t,d⟩=>h.rW d a;refine⟨h.kept.trans E U.kept j,U.size,λb o a=>?_,?_⟩
 .rcases List.mem_append.1 a with z|z
  .have⟨c,g,i⟩:=U.own b o z;exact⟨c,g,i.elim (j b) λz=>.inr<|lT h.kept.grow z⟩
  .have⟨c,g,i⟩:=h.own b o<|MC _ z;exact⟨U.kept.mine b c,(U.kept.block b c<|n b o z).trans g,i⟩
 .rw[Bf];refine List.nodup_append.2 ⟨U.nodup,h.right.nodup,λx m y r e=>?_⟩;obtain⟨q,p,rfl⟩:=List.mem_map.1 m;have⟨k,f,s⟩:=List.mem_map.1 r;rcases(U.own q.1 q.2 p).2.2 with z|z
  .grind
  .have:=E.lt (h.own k.1 k.2<|MC _ f).1;omega
end
section
variable {i:Ph}
variable [ConcR.Payload][ConcX.Payload]
variable [ConcX.Shy (Cfg.Wg<|aJ prog N Pb Shun val B Mz) (Cfg.C<|aJ prog N Pb Shun val B Mz)]
theorem HX.call(F:Cfg.Fit (aJ prog N Pb Shun val B Mz))(h:HX (aJ prog N Pb Shun val B Mz) Ex w₀ all Rb i (l1++l) w)(U:HL (dK<|aJ prog N Pb Shun val B Mz) (jZ<|aJ prog N Pb Shun val B Mz) (N+9) (mW l1) w TW w'):HX (aJ prog N Pb Shun val B Mz) Ex w₀ all Rb i (TW++l) w':=by
 have⟨v,m,d,g,h1,h2,h3,j,k⟩:=h.row;have f:∀b,tO Rb v b->¬mW l1 b:=λb a ⟨o,e⟩=>j b o (KM _ e) a;have e:∀b,tO Rb v b->dK (aJ prog N Pb Shun val B Mz) w b:=λb a=>by
  rcases a with rfl|a
  .exact h3.mr
  .exact(h3.ro.own b a).1
 refine⟨h.hl.call (h.env F) U,v,m,d,g,h1,h2,h3.still (λb a=>U.kept.block b (e b a)<|f b a) (λb a=>U.kept.mine b a) U.size,λb o c=>?_,k⟩;rcases List.mem_append.1 c with z|z
 .rcases(U.own b o z).2.2 with ⟨o',y⟩|y
  .grind
  .exact λa=>by have:=h3.lt F b a;omega
 .grind
end
def xE{w:World}(a:w.heap[b]?=some (.cells cur t fz))(c:∀j v,cs[j]?=some v->cur[off+j]?=some v):w.rangeAt b off cs:=λj v d=>by simp[World.cell?,a,c j v d]
theorem jN(w:World)(b off:Nat)(ty:TypeId)(cs:Vq)(d:TypeDesc)(m:w.rangeAt b off cs)(f:P.underlying ty=some d)(q:d.isRow=true)(hi:(P.info? ty).map (·.size)=some cs.length) :
  ∀c∈(Instr.loadAt ty<|.pointer<|some ⟨b,off,none⟩).events P w #[],∃e:Addr,c.loc=.cell e/\e.block=b:=by
 intro c k;cases hq:P.info? ty with
 | none=>simp[hq] at hi
 | some i =>
  have p:i.size=cs.length:=gq
  have l:(isAgg ty).run P w=.ok true w:=by unfold isAgg;rw[Sem.run_bind,run_underlying f w];cases d<;>simp_all [TypeDesc.isRow]
  have U:∀a,(isAgg ty).events P w a=a:=λa=>by unfold isAgg;simp only[Sem.events_bind,run_underlying f w];cases d<;>simp[underlying,f]
  simp[Instr.loadAt,Instr.sureAddr,loadVar,Sem.events_bind,l,U,sizeOf,typeInfo,hq,p] at k;have o:∀a,∀c∈(loadCells ⟨b,off,none⟩ cs.length).events P w a,c∈a\/c.readsIn (λg=>g=b):=λa =>events_loadCellsFrom_at ⟨b,off,none⟩ (λg=>g=b) Y cs.length 0 #[] w a (λj n=>by have h:=m j cs[j] (gE n);rw[Nat.zero_add,Addr.add_mid,h];rfl);rcases o _ c k with h|⟨e,h1,_,h3⟩
  .simp at h
  .exact⟨e,h1,h3⟩
structure Co(KT:TypeId->Prop)(N0:Nat)(M:World->Nat->Prop)(O:Nat->Prop)(R:Wq)(D:World->World->Array Event->Prop)(H:Hq->World->Prop):Prop where
 env:Env KT N0 M O R D
 rely:∀{l w aK},H l w->R w aK->H l aK
 size:∀{l w},H l w->N0<=w.heap.size
 own:∀{l w b o},H l w->(b,o)∈l->M w b/\w.heap[b]?=some o
 nodup:∀{l w},H l w->(l.map Prod.fst).Nodup
 grown:∀{l w o},H l w->Own KT M w (w.alloc o)->H ((w.heap.size,o)::l) (w.alloc o)
 turn:∀{l w w' b o o'},H ((b,o)::l) w->Own KT M w w'->w'.heap[b]?=some o'->(∀k,k≠b->w'.heap[k]?=w.heap[k]?)->H ((b,o')::l) w'
 perm:∀{l l' w},H l w->l'.Perm l->H l' w
 drop:∀{x l w},H (x::l) w->H l w
 past:∀{l w w'},H l w->Kept M O (λ_=>False) w w'->N0<=w'.heap.size->H l w'
 call:∀{l1 TW l w w'},H (l1++l) w->HL M O N0 (mW l1) w TW w'->H (TW++l) w'
section
variable {O:Nat->Prop}{R:Wq}{D:World->World->Array Event->Prop}
def HL.co(E:Env KT N0 M O R D):Co KT N0 M O R D (HL M O N0 Ex w₀) where
 env:=E
 rely h r:=h.rely E r
 size h:=h.size
 own h hm:=⟨(h.own _ _ hm).1,(h.own _ _ hm).2.1⟩
 nodup h:=h.nodup
 grown h hO:=h.grown E hO
 turn h hO hb hk:=h.turn E hO hb hk
 perm h p:=h.perm p
 drop h:=h.drop
 past h k hs:=h.past E k hs
 call h h':=h.call E h'
def Co.hl(Z:Co KT N0 M O R D H)(h:H l w):HL M O N0 (mW l) w l w:=⟨Kept.refl w,Z.size h,λb o a=>⟨(Z.own h a).1,(Z.own h a).2,.inl ⟨o,a⟩⟩,Z.nodup h⟩
def oj:∀{l:List α} {k:Nat} {x:α},l[k]?=some x->(x::l.eraseIdx k).Perm l
 | y::l,0,x,h=>by simp at h;subst h;exact .refl _
 | y::l,k+1,x,h=>((List.Perm.swap y x<|l.eraseIdx k)).trans<|.cons y<|oj<|by simpa using h
def xz:∀{l:List α} {k:Nat} {x y:α},l[k]?=some x->(l.set k y).Perm (y::l.eraseIdx k)
 | z::l,0,x,y,h=>.refl _
 | z::l,k+1,x,y,h=>(List.Perm.cons z<|xz<|by simpa using h).trans<|List.Perm.swap y z _
def Co.front(Z:Co KT N0 M O R D H)(h:H l w)(k:Nat){o:Obj}(a:l[k]?=some (b,o)):H ((b,o)::l.eraseIdx k) w:=by exact Z.perm h<|oj a
def Co.BZ(Z:Co KT N0 M O R D H)(h:H l w)(k:Nat){o:Obj}(a:l[k]?=some (b,o))(c:Own KT M w w')(d:w'.heap[b]?=some o')(e:∀k,k≠b->w'.heap[k]?=w.heap[k]?):H (l.set k (b,o')) w':=by exact Z.perm (Z.turn (Z.front h k a) c d e)<|xz a
end
def putAt(cur:Aq)(off:Nat)(cs:Vq):Aq:=(cur.toList.take off++cs++cur.toList.drop (off+cs.length)).toArray
variable {R:ι->Wq}{D:ι->World->World->Array Event->Prop}{O:Nat->Prop}
section
variable (C:cG P true R D X)
section
variable (Z:Co KT N0 M O (R vs) (D vs) H)
def JO{cs:Aq}(q:ops[i]?=some o)(u:Region.wanted o (yielded ops a.tmps)=true)(f:o.op=.box t x)(v:(a.eval x).cells=cs)(s:¬KT t)
 (m:H l w)(h:∀b k,H ((b,.cells cs t)::l) k->cP X fn ops rest vs Q (a.put o.dst<|.pointer<|sq b) k):cP X fn ops (i::rest) vs Q a w:=by
 refine aM C q u λc p K n=>?_;have d:=Z.rely m p;have j:Own KT M c (c.alloc<|.cells cs t):=eB s;have r:(execOp a.eval o).run P c=.ok (.value<|.pointer<|sq c.heap.size) (c.alloc<|.cells cs t):=by simp[execOp,f,G8,v]
 have g:(execOp a.eval o).events P c #[]=#[]:=by simp[execOp,f,wF]
 rw[r];refine n _ _ ⟨?_,h _ _<|Z.grown d j⟩;rw[listed_nil g];exact Z.env.kZ (Z.size d) j<|λe g=>by simp at g
def DO{z:Value}{cs:Aq}(r:ops[i]?=some o)(v:Region.wanted o (yielded ops a.tmps)=true)(f:o.op=.alloc t)(k:∀w,(zeroValue t).run P w=.ok z w)(x:z.cells=cs)(u:¬KT t)
 (n:H l w)(h:∀b m,H ((b,.cells cs t)::l) m->cP X fn ops rest vs Q (a.put o.dst<|.pointer<|sq b) m):cP X fn ops (i::rest) vs Q a w:=by
 refine aM C r v λc q K p=>?_;have d:=Z.rely n q;have j:Own KT M c (c.alloc<|.cells cs t):=eB u;have s:(execOp a.eval o).run P c=.ok (.value<|.pointer<|sq c.heap.size) (c.alloc<|.cells cs t):=by simp[execOp,f,tU k,x]
 have g:(execOp a.eval o).events P c #[]=#[]:=by simp[execOp,f,nT k]
 rw[s];refine p _ _ ⟨?_,h _ _<|Z.grown d j⟩;rw[listed_nil g];exact Z.env.kZ (Z.size d) j<|λe g=>by simp at g
end
end
theorem jz(U:P.underlying ty=some d)(a:d.isRow=false)(w:World):(isAgg ty).run P w=.ok false w:=by unfold isAgg;rw[Sem.run_bind,run_underlying U w];cases d<;>simp_all [TypeDesc.isRow]
def lB(a:P.underlying ty=some d)(w:World)(es:Array Event):(isAgg ty).events P w es=es:=by unfold isAgg;simp only[Sem.events_bind,run_underlying a w];cases d<;>simp[underlying,a]
section
variable (C:cG P true R D X)
section
variable (Z:Co KT N0 M O (R vs) (D vs) H)
def og{cs:Aq}(k:Nat)(D:ops[i]?=some o)(G:Region.wanted o (yielded ops a.tmps)=true)(j:o.op=.load ty x)(p:a.eval x=.pointer (some ⟨b,off,none⟩))
 (m:P.underlying ty=some d)(n:d.isRow=false)(r:H l w)(A:l[k]?=some (b,.cells cs t fz))(F:cs[off]?=some v)(h:∀q,H l q->cP X fn ops rest vs Q (a.put o.dst v) q):cP X fn ops (i::rest) vs Q a w:=by
 refine aM C D G λc u K s=>?_;have e:=Z.rely r u;have⟨B,y⟩:=Z.own e<|mG A;have f:c.cell? ⟨b,off,none⟩=some v:=by simp[World.cell?,y,F]
 have E:(execOp a.eval o).run P c=.ok (.value v) c:=by simp[execOp,j,p,Instr.loadAt,Instr.sureAddr,loadVar,jz m n,load,Sem.run,f]
 have z:(execOp a.eval o).events P c #[]=#[⟨.cell ⟨b,off,none⟩,false,false⟩]:=by simp[execOp,j,p,Instr.loadAt,Instr.sureAddr,loadVar,jz m n,lB m,events_load,f]
 rw[E];refine s _ _ ⟨Z.env.kZ (Z.size e) (fw _) λI g=>?_,h c e⟩;have g:=mem_listed g;rw[z] at g;simp at g;subst g;exact .inl ⟨_,Y,B⟩
def yI(k:Nat)(L:ops[i]?=some o)(M:Region.wanted o (yielded ops a.tmps)=true)(m:o.op=.load ty x)(u:a.eval x=.pointer (some ⟨b,off,none⟩))
 (s:P.underlying ty=some d)(r:d.isRow=true)(hi:(P.info? ty).map (·.size)=some cs.length)(B:H l w)(I:l[k]?=some (b,.cells cur t fz))(G:∀j v,cs[j]?=some v->cur[off+j]?=some v)
 (h:∀y,H l y->cP X fn ops rest vs Q (a.put o.dst<|.agg cs.toArray) y):cP X fn ops (i::rest) vs Q a w:=by
 refine aM C L M λc E K D=>?_;have e:=Z.rely B E;have⟨J,F⟩:=Z.own e<|mG I;have g:=xE F G;have f:=run_loadAt_mid c b off ty cs d g s r hi;have q:(execOp a.eval o).run P c=.ok (.value<|.agg cs.toArray) c:=by unfold execOp;simp only[m,u,Sem.run_bind,Sem.run_pure,Result.andThen_ok,f]
 have p:(execOp a.eval o).events P c #[]=(Instr.loadAt ty<|.pointer<|some ⟨b,off,none⟩).events P c #[]:=by unfold execOp;simp only[m,u,Sem.events_bind,f,Result.evThen_ok,Sem.events_pure]
 rw[q];refine D _ _ ⟨Z.env.kZ (Z.size e) (fw _) λA n=>?_,h c e⟩;have n:=mem_listed n;rw[p] at n;have⟨z,h1,h2⟩:=jN c b off ty cs d g s r hi A n;exact .inl ⟨z,h1,by rw[h2];exact J⟩
end
end
theorem ve(C:cG P true R D X)(Z:Co KT N0 M O (R vs) (D vs) H){y:Operand}(k:Nat)(T:ops[i]?=some o)(W:Region.wanted o (yielded ops a.tmps)=true)(q:o.op=.store ty x y)(u:a.eval x=.pointer (some ⟨b,off,none⟩))(A:(a.eval y).cells=cs.toArray)
 (hi:(P.info? ty).map (·.size)=some cs.length)(h1:∀v∈cs,v.oneCell'=true)(V:¬KT t)(L:H l w)(g:l[k]?=some (b,.cells cur t))(Y:off+cs.length<=cur.size)(E:putAt cur off cs=cur')
 (h:∀B,H (l.set k (b,.cells cur' t)) B->cP X fn ops rest vs Q (a.put o.dst undef) B):cP X fn ops (i::rest) vs Q a w:=by
 subst E;refine aM C T W λc S K N=>?_;have d:=Z.rely L S;have⟨r,f⟩:=Z.own d<|mG g;cases hq:P.info? ty with
 | none=>simp[hq] at hi
 | some I =>
  have s:I.size=cs.length:=gq
  have U:=run_storeCells_at (P:=P) b off t cs 0 cur c f oq h1;have p:=events_storeCells_at (P:=P) b off t cs 0 cur c #[] f oq h1;have U:(storeCells ⟨b,off,none⟩ cs).run P c=.ok () (c.setRow b<|putAt cur off cs):=U;have e:(Instr.storeAt ty (.pointer<|some ⟨b,off,none⟩)<|a.eval y).run P c=.ok () (c.setRow b<|putAt cur off cs):=by simp[Instr.storeAt,Instr.sureAddr,storeVar,sizeOf,typeInfo,hq,s,A,U]
  have G:(Instr.storeAt ty (.pointer<|some ⟨b,off,none⟩)<|a.eval y).events P c #[]=(storeCells ⟨b,off,none⟩ cs).events P c #[]:=by simp[Instr.storeAt,Instr.sureAddr,storeVar,sizeOf,typeInfo,hq,s,A]
  have m:Own KT M c (c.setRow b<|putAt cur off cs):=Own.setRow f r V;have n:(execOp a.eval o).run P c=.ok .skip (c.setRow b<|putAt cur off cs):=by unfold execOp;simp only[q,u,Sem.run_bind,Sem.run_pure,Result.andThen_ok,e]
  have F:(execOp a.eval o).events P c #[]=(Instr.storeAt ty (.pointer<|some ⟨b,off,none⟩)<|a.eval y).events P c #[]:=by unfold execOp;simp only[q,u,Sem.events_bind,e,Result.evThen_ok,Sem.events_pure]
  rw[n];refine N _ _ ⟨Z.env.kZ (Z.size d) m λJ j=>?_,h _<|Z.BZ d k g m ?_ λk g=>?_⟩
  .have j:=mem_listed j;rw[F,G] at j;rcases p J j with z|⟨ad,z1,z2⟩
   .simp at z
   .exact .inl ⟨ad,z1,by rw[z2];exact Z.env.mine m r⟩
  .simp[World.setRow,LZ,f]
  .simp[World.setRow,LZ,Ne.symm g]
section
variable {i:Ph}
def HX.perm(h:HX K Ex w₀ all Rb i l w)(p:l'.Perm l):HX K Ex w₀ all Rb i l' w:=by have⟨v,g,a,c,h1,h2,h3,d,e⟩:=h.row;exact⟨h.hl.perm p,v,g,a,c,h1,h2,h3,λb o f=>d b o<|p.mem_iff.1 f,e⟩
variable [ConcR.Payload][ConcX.Payload]
variable [ConcX.Shy (Cfg.Wg<|aJ prog N Pb Shun val B Mz) (Cfg.C<|aJ prog N Pb Shun val B Mz)]
def HX.co(F:Cfg.Fit (aJ prog N Pb Shun val B Mz))(h:HX (aJ prog N Pb Shun val B Mz) Ex w₀ all Rb i l w):Co fa (N+9) (dK<|aJ prog N Pb Shun val B Mz) (jZ<|aJ prog N Pb Shun val B Mz) (rK (aJ prog N Pb Shun val B Mz) i) (yT (aJ prog N Pb Shun val B Mz) i) (λl w=>HX (aJ prog N Pb Shun val B Mz) Ex w₀ all Rb i l w) where
 env:=h.env F
 rely h r:=h.rely F r
 size h:=h.hl.size
 own h hm:=⟨(h.hl.own _ _ hm).1,(h.hl.own _ _ hm).2.1⟩
 nodup h:=h.hl.nodup
 grown h hO:=h.grown F hO
 turn h hO hb hk:=h.turn F hO hb hk
 perm h p:=h.perm p
 drop h:=h.drop
 past h k hs:=h.past F k hs
 call h h':=h.call F h'
end
theorem vu(w:World)(t e:TypeId)(b:Nat)(a:Array (Nat × Value))(cells:Aq)(c:TypeInfo)(z:Value)
 (g:P.underlying t=some (.slice e))(f:P.info? e=some c)(j:c.zero=some z)(U:¬b*c.size>2 ^ 24)
 (h:Instr.fill (λi=>some (i*c.size,c.size)) ((Array.range<|b*c.size).map (z.cells[· % z.cells.size]!)) a.toList=some cells)(es:Array Event) :
  (Instr.buildSlice t b a).run P w=.ok (.slice (sq w.heap.size) b b) (w.alloc<|.cells cells e)/\(Instr.buildSlice t b a).events P w es=es:=by
 by_cases d:b*c.size=0
 .rw[d] at h;have k:Array.range 0=#[]:=Y;have l:Instr.fill (λi=>some (i*c.size,c.size)) #[] a.toList=some cells:=gq
  constructor;iterate 2
   .simp[Instr.buildSlice,run_underlying g,sizeOf,typeInfo,f,d,k,l,newRow]
 .exact⟨run_buildSlice w t e b a cells c z g f j U d h,(by simp[Instr.buildSlice,run_underlying g,sizeOf,typeInfo,zeroValue,f,j,U,d,h,newRow])⟩
def sliced(P:Program)(e:TypeId)(len:Nat)(parts:List (Nat × Value)):Option (Aq) :=
 match P.info? e with
 | some ie=>match ie.zero with
  | some z=>if len*ie.size>2 ^ 24 then none else Instr.fill (λi=>some (i*ie.size,ie.size)) ((Array.range<|len*ie.size).map (z.cells[· % z.cells.size]!)) parts
  | none=>none
 | none=>none
def uu(C:cG P true R D X)(Z:Co KT N0 M O (R vs) (D vs) H){d:Array (Nat × Operand)}(y:ops[i]?=some o)(F:Region.wanted o (yielded ops a.tmps)=true)(j:o.op=.buildSlice t len d)(E:P.underlying t=some (.slice e))(B:¬KT e)(g:sliced P e len (d.map λ(i,x)=>(i,a.eval x)).toList=some cells)
 (s:H l w)(h:∀b q,H ((b,.cells cells e)::l) q->cP X fn ops rest vs Q (a.put o.dst<|.slice (sq b) len len) q):cP X fn ops (i::rest) vs Q a w:=by
 refine aM C y F λc v K u=>?_;have f:=Z.rely s v;unfold sliced at g;cases Rl:P.info? e with
 | none=>simp[Rl] at g
 | some p =>
  cases hz:p.zero with
  | none=>simp[Rl,hz] at g
  | some z =>
   simp only[Rl,hz] at g;split at g
   .cases g
   .rename_i hn
    have m:=λr=>vu c t e len (d.map λ(i,x)=>(i,a.eval x)) cells p z E Rl hz hn g r;have n:Own KT M c (c.alloc<|.cells cells e):=eB B;have A:(execOp a.eval o).run P c=.ok (.value<|.slice (sq c.heap.size) len len) (c.alloc<|.cells cells e):=by unfold execOp;simp only[j,Sem.run_bind,(m #[]).1,Result.andThen_ok,Sem.run_pure]
    have k:(execOp a.eval o).events P c #[]=#[]:=by unfold execOp;simp only[j,Sem.events_bind,(m #[]).1,(m _).2,Result.evThen_ok,Sem.events_pure]
    rw[A];refine u _ _ ⟨?_,h _ _<|Z.grown f n⟩;rw[listed_nil k];exact Z.env.kZ (Z.size f) n<|λe k=>by simp at k
def iM(ops:Array Oper):Bool:=(List.range ops.size).all λi=>((ops[i]?).map (·.after.all λe=>!Region.binds .any e||decide (e.on<i))).getD false
theorem nY(h:iM ops=true)(U:ops[i]?=some o){e:Edge}(c:e∈o.after)(b:Region.binds .any e=true):e.on<i:=by
 unfold iM at h;rw[aT] at h;have a:=(oF.1 U).1
 have:=h i<|List.mem_range.2 a;rw[U] at this;simp only[Option.map_some,Option.getD_some,Array.all_eq_true_iff_forall_mem] at this;grind
def rQ(ops:Array Oper)(J:Nat->Bool)(i:Nat):Prop:=∀o,ops[i]?=some o->∀e∈o.after,Region.binds .any e=true->J e.on=true
section
variable {main:Bool}{R:ι->Wq}{D:ι->World->World->Array Event->Prop}
theorem ll(C:cG P main R D X)(S:LetsDraw (D vs))(V:P.follows .mixedOrders=true)(W:ops.size=n)(K:iM ops=true)
 (f:(Nat->Bool)->ι->Act->World->Prop)(O:∀d,R vs w d->f (λ_=>false) vs a { d with drawn:=d.drawn+1 })
 (B:∀J z vs a w,(∀k,k<n->J k=z k)->f J vs a w->f z vs a w)
 (L:∀(J:Nat->Bool) (i:Nat) (vs:ι) (a:Act) (w:World),f J vs a w->i<n->J i=false->rQ ops J i->∀j,(∀g m q,f (λk=>if k=i then true else J k) g m q->cP X fn ops j g Q m q)->cP X fn ops (i::j) vs Q a w)
 (A:∀(J:Nat->Bool) (vs:ι) (a:Act) (w:World),(∀k,k<n->J k=true)->f J vs a w->cP X fn ops [] vs Q a w):iO X fn (.region id ops true) vs Q a w:=by
 have y:∀(U t:Nat) (c:Array Bool) (vs:ι) (a:Act) (w:World),c.size=n->c.toList.count false<=U->f (λk=>c.getD k false) vs a w->cP X fn ops (Region.linearise.go .any ops U t c []) vs Q a w:=by
  intro U;induction U with
  | zero =>
   intro t c vs a w Y u r;refine A _ vs a w (λk l=>?_) r;rw[Jw,gF oq,Option.getD_some];cases e:c[k]'oq with
   | true=>rfl
   | false=>exact absurd gq<|List.count_eq_zero.1<|Nat.le_zero.1 u
  | succ U Z =>
   intro t c vs a w Y u r;by_cases H:Region.ready .any ops c=[]
   .rw[L4 H];refine A _ vs a w (λk l=>?_) r;induction k using Nat.strongRecOn with
    | _ k af =>
     cases e:c.getD k false with
     | true=>rfl
     | false =>
      exfalso;have G:k<ops.size:=oq
      have E:k∈Region.ready .any ops c:=by
       refine mem_ready.2 ⟨?_,ops[k],gF G,λed F s=>?_⟩
       .grind
       .have ab:=nY K (gF G) F s;grind
      grind
   .have M:=HU.2 H;obtain⟨i,I⟩:∃i,(Region.ready .any ops c)[t % (Region.ready .any ops c).length]?=some i:=⟨_,gE<|Nat.mod_lt _ M⟩;have E:=mem_ready.1<|mG I;have⟨T,o,ho,F⟩:=E;have x:i<n:=gq
    have aa:c[i]?=some false:=by rw[Jw,gF oq,Option.getD_some] at T;grind
    rw[vY I];refine L _ i vs a w r x gq (λo' ae e a9 s=>?_) _ λg m q v=>Z _ _ g m q gq ?_<|B _ _ g m q (λk l=>?_) v
    .grind
    .grind
    .by_cases e:k=i
     .subst e;simp[show k<c.size by omega]
     .simp[Jw,e,Ne.symm e]
 intro b k N s l u;refine C.step rfl λd p=>?_;rw[stepG_region_draw];refine⟨S _,?_⟩;simp only[Region.schedule,V,Bool.true_or,if_true];have e:Region.linearise .any ops (d.tape d.drawn<|.order b.fn id)=Region.linearise.go .any ops n (d.tape d.drawn<|.order b.fn id) (Array.replicate n false) []:=by unfold Region.linearise;rw[W]
 rw[e];exact y n _ _ vs a _ iq iq (B _ _ vs a _ (λk l=>by simp[Jw,l])<|O d p) b k N s l u
end
def iy {α:Type}(P:Program):Sem α->Option α
 | .pure a=>some a
 | .program k=>iy P<|k P
 | _=>none
def pC {α:Type}(d:α):Nat->List α->α->List α
 | 0,l,x=>x::l.tail
 | n+1,l,x=>l.headD d::pC d n l.tail x
structure AS where
 hp:List (List<|Option Obj)
 nx:Nat
def AS.get(s:AS)(b:Nat):Option Obj:=(s.hp.getD (b / 16) []).getD (b % 16) none
def AS.set(s:AS)(b:Nat)(o:Option Obj):AS:=⟨pC [] (b / 16) s.hp<|pC none (b % 16) (s.hp.getD (b / 16) []) o,s.nx⟩
def AS.add(s:AS)(o:Obj):AS:=⟨(s.set s.nx<|some o).hp,s.nx+1⟩
def eW:Value->Bool
 | .bool _|.int _ _|.string _|.pointer none|.slice none _ _|.nilFunc|.nilIface=>true
 | _=>false
def q9:Value->Bool
 | .agg cs=>cs.toList.all eW
 | v=>eW v
def aC (b off:Nat):Value:=.pointer<|some ⟨b,off,none⟩
def YT (P:Program)(t:TypeId):Bool:=match P.underlying t with
 | some d=>d.isRow
 | none=>false
def cz(P:Program)(t:TypeId):Option Nat:=(P.info? t).map (·.size)
def oJ(P:Program)(t:TypeId):Bool:=match P.info? t with
 | some i=>match i.zero with
  | some z=>z.cells.toList.all eW
  | none=>false
 | none=>false
def Vm:Option Go.Next->Option Value
 | some (.value v)=>some v
 | _=>none
def bV(P:Program)(t:TypeId)(x:Value)(s:AS):Option Value:=match x with
 | .pointer (some ⟨b,off,none⟩)=>match s.get b with
  | some (.cells cs _ _)=>match P.underlying t with
   | some d=>if d.isRow then match cz P t with
     | some n=>if off+n<=cs.size then some (.agg (cs.toList.drop off |>.take n).toArray) else none
     | none=>none
    else cs[off]?
   | none=>none
  | some (.chan _ cs _ _ _ _)=>match P.underlying t with
   | some d=>if d.isRow then none else match cs[off]? with
    | some v=>if eW v=true then some v else none
    | none=>none
   | none=>none
  | _=>none
 | _=>none
def ly(P:Program)(t:TypeId)(x y:Value)(s:AS):Option AS:=match x with
 | .pointer (some ⟨b,off,none⟩)=>match s.get b with
  | some (.cells cs ty fz) =>
   if cz P t=some y.cells.size/\off+y.cells.size<=cs.size/\y.cells.toList.all Value.oneCell'=true then some (s.set b<|some<|.cells (putAt cs off y.cells.toList) ty fz) else none
  | _=>none
 | _=>none
def fC(s:AS)(sz:Nat)(ad:Option Addr)(n:Nat):Option (Vq):=match ad with
 | none=>if n=0 then some [] else none
 | some ⟨b,off,_⟩=>match s.get b with
  | some (.cells cs _ _)=>if off+n*sz<=cs.size then some (cs.toList.drop off |>.take (n*sz)) else none
  | _=>none
def ce(P:Program)(e:TypeId)(x:Value)(news:Vq)(m:Nat)(s:AS):Option (Value × AS):=match x with
 | .slice none 0 0=>if m=0 then some (x,s) else some (.slice (some ⟨s.nx,0,none⟩) m m,s.add<|.cells news.toArray e (1,1))
 | .slice (some ⟨b,0,none⟩) n _=>if m=0 then some (x,s) else match s.get b,cz P e with
  | some (.cells cs t _),some sz =>
   if t=e/\n*sz<=cs.size/\n+m<=1000000000 then some (.slice (some ⟨s.nx,0,none⟩) (n+m)<|n+m,(s.set b none).add<|.cells (cs.toList.take (n*sz)++news).toArray e (1,1)) else none
  | _,_=>none
 | .slice (some ⟨_,_,some _⟩) 0 0=>if m=0 then none else some (.slice (some ⟨s.nx,0,none⟩) m m,s.add<|.cells news.toArray e (1,1))
 | _=>none
def l7 {α:Type}:List α->Nat->Nat
 | [],n=>n
 | _::l,n=>l7 l<|n+1
def cZ:Bq->Bq->Bool
 | [],[]=>true
 | x::l,y::m=>if x.toNat.beq y.toNat then cZ l m else false
 | _,_=>false
def eU(k:IntKind)(r:Int):Int:=match k with
 | .i64|.i32=>if -2000000000<=r/\r<=2000000000 then r else k.wrap r
 | _=>k.wrap r
abbrev TL:=Vq
def TL.at:TL->Operand->Value
 | l,.tmp t=>l.getD t undef
 | _,.const v=>v
 | _,.global g=>.pointer<|some ⟨g,0,none⟩
 | _,.func f=>.func (.func f) #[] #[]
def Du:Vq->Nat->Value->Vq
 | [],_,_=>[]
 | _::l,0,v=>v::l
 | x::l,n+1,v=>x::Du l n v
def TL.put(a:TL)(d:Option Tmp)(v:Value):TL:=match d with
 | some t=>Du a t v
 | none=>a
def cg(ops:Array Oper)(a:TL)(j:Nat):Option Bool:=match ops.toList[j]? with
 | some o=>match o.dst with
  | some d=>match a[d]? with
   | some (.bool b)=>some b
   | _=>none
  | none=>none
 | none=>none
def DF:Operand->Bool
 | .tmp _|.func _=>true
 | .const v=>eW v
 | .global _=>false
def oG(ops:Array Oper):Bool:=ops.toList.all λo=>o.op.operands.toList.all DF
def mD(l:Vq):Option (Bq):=match l with
 | []=>some []
 | .int .u8 x::r=>if 0<=x/\x<256 then match mD r with
   | some a=>some (x.toNat.toUInt8::a)
   | none=>none
  else none
 | _=>none
def ej:Value->Option Addr->Bool
 | .slice (some ⟨b,_,none⟩) _ _,some ⟨b',_,_⟩=>!b.beq b'
 | _,_=>true
def kQ:Value->Bool
 | .slice (some ⟨_,_,some _⟩) _ _=>false
 | _=>true
def gl(P:Program)(kt:TypeId->Bool)(b:Builtin)(args:Vq)(d:List TypeId)(s:AS):Option (Value × AS):=match b,args,d with
 | .append,[x,.slice y m _],[t,t']=>if t=t' then match P.underlying t with
   | some (.slice e)=>match (P.info? e).map (λi=>(i.zero,i.size,i.bytes)) with
    | some (some z,sz,bytes)=>match fC s sz y m with
     | some a=>if z.cells.size=sz/\0<sz/\bytes<=1000/\m<=1000000000/\kt e=false/\ej x y=true/\a.all Value.oneCell'=true then ce P e x a m s else none
     | none=>none
    | _=>none
   | _=>none
  else none
 | .append,[x,.string str],[t,t']=>match P.underlying t,P.underlying t' with
  | some (.slice e),some .string=>match (P.info? e).map (λi=>(i.zero,i.size,i.bytes)) with
   | some (some<|Value.int IntKind.u8 0,1,1)=>if str.size<=1000000000/\kt e=false/\kQ x=true then ce P e x (strCells str) str.size s else none
   | _=>none
  | _,_=>none
 | .copy,[.slice (some ⟨b,off,none⟩) n _,.string str],[t,_]=>match P.underlying t,s.get b with
  | some (.slice e),some (.cells cs bt fz)=>if cz P e=some 1/\str.size=n/\off+n<=cs.size then some (goInt<|l7 str.data.toList 0,s.set b<|some<|.cells (putAt cs off<|strCells str) bt fz) else none
  | _,_=>none
 | .unsafeString,[.pointer (some ⟨b,0,none⟩),.int .i64 n],[pt,_]=>match P.underlying pt,s.get b with
  | some (.pointer e),some (.cells cs t _)=>if P.cellsOf e=1/\t=e/\0<n/\n<=1000000000/\n.toNat<=cs.size then match mD (cs.toList.take n.toNat) with
    | some c=>some (.string ⟨c.toArray⟩,s.set b none)
    | none=>none
   else none
  | _,_=>none
 | _,_,_=>none
def dV(c:BinOp)(x y:Value):Option Value:=match x,y with
 | .int k a,.int k' b=>if k=k' then match c with
   | .add=>some<|.int k<|eU k<|a+b
   | .sub=>some<|.int k<|eU k<|a-b
   | .eql=>some<|.bool<|a==b
   | .neq=>some<|.bool<|a != b
   | .lss=>some<|.bool<|decide (a<b)
   | .leq=>some<|.bool<|decide (a<=b)
   | .gtr=>some<|.bool<|decide (a>b)
   | .geq=>some<|.bool<|decide (a>=b)
   | _=>none
  else none
 | .string a,.string b=>match c with
  | .eql=>some<|.bool<|cZ a.data.toList b.data.toList
  | .neq=>some<|.bool<|!cZ a.data.toList b.data.toList
  | .add=>if l7 a.data.toList 0+l7 b.data.toList 0<=1000000000 then some (.string ⟨(a.data.toList++b.data.toList).toArray⟩) else none
  | _=>none
 | _,_=>none
def pe(P:Program)(a:BinOp)(t:TypeId)(x y:Value):Option Value:=match x,y,P.underlying t with
 | .pointer (some p),.pointer<|some q,some (.pointer e)=>match cz P e with
  | some (_+1)=>if p.block=q.block then match a with
    | .eql=>some<|.bool<|p==q
    | .neq=>some<|.bool<|!(p==q)
    | _=>none
   else none
  | _=>none
 | .pointer (some _),.pointer none,some (.pointer _)|.pointer none,.pointer<|some _,some (.pointer _)|.slice (some _) _ _,.slice none _ _,some (.slice _)|.slice none _ _,.slice (some _) _ _,some<|.slice _
 | .func _ _ _,.nilFunc,some (.func _ _ _)|.nilFunc,.func _ _ _,some (.func _ _ _)|.map (some<|_+1),.int .i64 0,_=>match a with
  | .eql=>some<|.bool false
  | .neq=>some<|.bool true
  | _=>none
 | _,_,_=>none
def vA (P:Program)(a:TL)(o:Oper):Option Value :=
 if o.op.operands.toList.all λx=>q9 (a.at x) then match Vm (iy P<|execOp a.at o) with
  | some v=>if q9 v then some v else none
  | none=>none
 else none
def bS(n c:Nat)(lo hi:Option Value):Option (Nat × Nat):=match hi with
 | none=>match lo with
  | none=>some (0,n)
  | some (.int _ i)=>if 0<=i/\i<=n then some (i.toNat,n) else none
  | _=>none
 | some (.int _ k)=>if 0<=k/\k<=c then match lo with
   | none=>some (0,k.toNat)
   | some (.int _ i)=>if 0<=i/\i<=k then some (i.toNat,k.toNat) else none
   | _=>none
  else none
 | _=>none
def jh(P:Program)(t:TypeId)(x:Value)(lo hi a:Option Value)(s:AS):Option Value:=match P.underlying t,x,a with
 | some (.slice e),.slice (some ⟨b,off,none⟩) n c,none=>match cz P e,s.get b with
  | some sz,some (.cells _ bt _)=>if bt=e then match bS n c lo hi with
    | some (l,h)=>if l<c then some (.slice (some ⟨b,off+l*sz,none⟩) (h-l)<|c-l) else if l=h then some (.slice (some ⟨b,off,some 0⟩) 0 1) else none
    | none=>none
   else none
  | _,_=>none
 | some (.slice e),.slice (some ⟨b,off,none⟩) _ _,some (.int _ 0)=>match cz P e,lo,hi with
  | some _,none,some (.int _ 0)=>some<|.slice (some ⟨b,off,some 0⟩) 0 0
  | _,_,_=>none
 | some .string,.string str,none=>match bS (l7 str.data.toList 0) (l7 str.data.toList 0) lo hi with
  | some (l,h)=>some<|.string ⟨((str.data.toList.take h).drop l).toArray⟩
  | none=>none
 | some (.slice e),.slice none 0 0,none=>match cz P e,bS 0 0 lo hi with
  | some _,some _=>some<|.slice none 0 0
  | _,_=>none
 | _,_,_=>none
def cI(P:Program)(a:TL)(o:Oper):Option Value:=match o.op with
 | .move x|.assign x=>some<|a.at x
 | .pick c x y=>match a.at c with
  | .bool b=>some<|if b then a.at x else a.at y
  | _=>none
 | .build t parts=>if oJ P t=false then none else match P.built t (parts.map λ(i,x)=>(i,a.at x)).toList with
  | some c=>some<|.agg c
  | none=>none
 | .nilCheck x=>match a.at x with
  | .pointer (some p)=>some<|.pointer<|some p
  | .func (.func f) x y=>some<|.func (.func f) x y
  | _=>none
 | .makeFunc (.func f) first cap=>some<|.func (.func f) (first.map a.at)<|cap.map a.at
 | .extract t ix=>match a.at t with
  | .tuple vs=>vs[ix]?
  | _=>none
 | .fieldAddr t x f=>match P.underlying t,a.at x with
  | some (.struct fields),.pointer (some ⟨b,off,none⟩)=>match fields[f]? with
   | some g=>match cz P g.type with
    | some (_+1)=>some<|aC b<|off+g.offset
    | _=>none
   | none=>none
  | _,_=>none
 | .indexAddr t x ix=>match P.underlying t,a.at x,a.at ix with
  | some (.slice e),.slice (some ⟨b,off,_⟩) n _,.int _ i=>match cz P e with
   | some d=>if 0<=i/\i<n then some (aC b<|off+i.toNat*d) else none
   | none=>none
  | some (.array n e),.pointer<|some ⟨b,off,none⟩,.int _ i=>match cz P e with
   | some d=>if 0<=i/\i<n then some (aC b<|off+i.toNat*d) else none
   | none=>none
  | _,_,_=>none
 | .binOp op t x y _=>match dV op (a.at x) (a.at y) with
  | some v=>some v
  | none=>match pe P op t (a.at x) (a.at y) with
   | some v=>some v
   | none=>vA P a o
 | .convert t u x=>match P.underlying t,P.underlying u,a.at x with
  | some _,some<|.int k,.int _ n=>some<|.int k<|eU k n
  | _,_,_=>vA P a o
 | .index t x i=>match P.underlying t,a.at x,a.at i with
  | some .string,.string str,.int _ n=>if 0<=n then match str.data.toList[n.toNat]? with
    | some b=>some<|.int .u8 b.toNat
    | none=>none
   else none
  | _,_,_=>vA P a o
 | .call c=>match c.callee,c.args.toList,c.argTypes.toList with
  | .builtin .len,[x],[t]=>match a.at x,P.underlying t with
   | .slice _ n _,some (.slice _)=>some<|goInt n
   | .string str,some .string=>some<|goInt<|l7 str.data.toList 0
   | _,_=>none
  | .builtin .unsafeSliceData,[x],_=>match a.at x with
   | .slice (some ⟨b,off,none⟩) _ (_+1)=>some<|.pointer<|some ⟨b,off,none⟩
   | _=>vA P a o
  | .builtin .cap,[x],[t]=>match a.at x,P.underlying t with
   | .slice (some ⟨_,_,none⟩) _ c,some (.slice _)=>some<|.map<|some c
   | _,_=>vA P a o
  | .builtin .min,_,_|.builtin .max,_,_|.builtin .unsafeString,_,_=>vA P a o
  | _,_,_=>none
 | .unOp _ _ _=>vA P a o
 | _=>none
def mc(P:Program):Operand->Bool
 | .func g=>match P.funcs[g]? with
  | some fn => fn.body.isNone && fn.name == "internal" ++ String.singleton (Char.ofNat 47) ++ "abi.NoEscape"
  | none=>false
 | _=>false
def ir(P:Program)(t u:TypeId)(x:Value)(s:AS):Option Value:=match P.underlying t,P.underlying u,x with
 | some (.pointer e),some .unsafePointer,.pointer (some ⟨b,off,none⟩)=>match s.get b,cz P e with
  | some (.cells cs _ _),some (_+1)=>if off<cs.size then some x else none
  | _,_=>none
 | some .unsafePointer,some<|.pointer e,.pointer (some ⟨b,off,none⟩)=>match s.get b,cz P e with
  | some (.cells cs bt (0,0)),some (_+1)=>if liesAt P P.depth bt (cs.size / P.cellsOf bt) off e 1=true then some x else none
  | _,_=>none
 | _,_,_=>none
def wR(P:Program)(kt:TypeId->Bool)(a:TL)(o:Oper):Option (Obj × (Nq)):=match o.op with
 | .alloc t=>if oJ P t=false\/kt t=true\/cz P t=none then none else match (P.info? t).map (·.zero) with
  | some (some z)=>some (.cells z.cells t,λb=>aC b 0)
  | _=>none
 | .box t x=>if kt t=true\/cz P t=none then none else some (.cells (a.at x).cells t,λb=>aC b 0)
 | .buildSlice t len parts=>match P.underlying t with
  | some (.slice e)=>if oJ P e=false\/kt e=true\/1000000000<len then none else match sliced P e len (parts.map λ(i,x)=>(i,a.at x)).toList with
   | some c=>some (.cells c e,λb=>.slice (some ⟨b,0,none⟩) len len)
   | none=>none
  | _=>none
 | .range t x=>match P.underlying t,a.at x with
  | some .string,.string str=>if kt (1000+str.size)=true then none else some (.stringIter str 0,λb=>aC b 0)
  | _,_=>none
 | .makeSlice t x y=>match P.underlying t,a.at x,a.at y with
  | some (.slice e),.int .i64 n,.int .i64 m=>match (P.info? e).map (λi=>(i.zero,i.size,i.bytes)) with
   | some (some z,sz,bytes)=>if n=m/\0<n/\n<=1000000000/\oJ P e=true/\kt e=false/\bytes<=1000 then some (.cells (madeCells z.cells<|n.toNat*sz) e,λb=>.slice (some ⟨b,0,none⟩) n.toNat n.toNat) else none
   | _=>none
  | _,_,_=>none
 | _=>none
def fR:Op->Bool
 | .alloc _|.box _ _|.buildSlice _ _ _|.range _ _|.makeSlice _ _ _=>true
 | _=>false
def cf (P:Program)(kt:TypeId->Bool)(call:FuncId->Aq->AS->Option (Value × AS))(a:TL)(o:Oper)(s:AS):Option (Value × AS) :=
 if fR o.op then match wR P kt a o with
  | some (ob,mk)=>some (mk s.nx,s.add ob)
  | none=>none
 else match o.op with
 | .load t x=>match bV P t (a.at x) s with
  | some v=>some (v,s)
  | none=>none
 | .store t x y=>match ly P t (a.at x) (a.at y) s with
  | some s'=>some (undef,s')
  | none=>none
 | .slice t x lo hi mx=>match jh P t (a.at x) (lo.map a.at) (hi.map a.at) (mx.map a.at) s with
  | some v=>some (v,s)
  | none=>none
 | .next it true=>match a.at it with
  | .pointer (some ⟨b,0,none⟩)=>match s.get b with
   | some (.stringIter str pos) =>
    if pos<str.size then if kt (1000+str.size)=true then none else some (.tuple #[.bool true,goInt pos,.int .i32 (Utf8.decode str pos).1],s.set b<|some<|.stringIter str<|pos+(Utf8.decode str pos).2)
    else some (.tuple #[.bool false],s)
   | _=>none
  | _=>none
 | .call c=>match c.callee with
  | .value f=>if mc P f=true then match c.args.toList with
    | [x]=>some (a.at x,s)
    | _=>none
   else match a.at f with
   | .func (.func g) first cap=>call g (first++c.args.map a.at++cap) s
   | _=>none
  | .builtin b=>match cI P a o with
   | some v=>some (v,s)
   | none=>gl P kt b (c.args.toList.map a.at) c.argTypes.toList s
  | _=>none
 | .convert t u x=>match cI P a o with
  | some v=>some (v,s)
  | none=>match ir P t u (a.at x) s with
   | some v=>some (v,s)
   | none=>none
 | _=>match cI P a o with
  | some v=>some (v,s)
  | none=>none
def eh(P:Program)(kt:TypeId->Bool)(call:FuncId->Aq->AS->Option (Value × AS))(ops:Array Oper):List Oper->TL->AS->Option (TL × AS)
 | [],a,s=>some (a,s)
 | o::rest,a,s =>
  if Region.wanted o (cg ops a) then
   match cf P kt call a o s with
   | some (v,s')=>eh P kt call ops rest (a.put o.dst v) s'
   | none=>none
  else eh P kt call ops rest (a.put o.dst undef) s
def AX(P:Program)(kt:TypeId->Bool)(call:FuncId->Aq->AS->Option (Value × AS))(ops:Array Oper)(a:TL)(s:AS):Option (TL × AS):=eh P kt call ops ops.toList a s
def sn (P:Program)(kt:TypeId->Bool)(call:FuncId->Aq->AS->Option (Value × AS))(ops:Array Oper):List Oper->TL->AS->Option (List<|TL × Value × AS)
 | [],_,_=>some []
 | o::rest,a,s =>
  if Region.wanted o (cg ops a) then
   match cf P kt call a o s with
   | some (v,s')=>match sn P kt call ops rest (a.put o.dst v) s' with
    | some tr=>some ((a,v,s')::tr)
    | none=>none
   | none=>none
  else match sn P kt call ops rest (a.put o.dst undef) s with
   | some tr=>some ((a,undef,s)::tr)
   | none=>none
def kindOf(P:Program)(o:Oper):Nat :=
 if fR o.op then 2 else match o.op with
  | .load _ _=>1
  | .store _ _ _|.next _ _=>3
  | .slice t _ _ _ _=>match P.underlying t with
   | some .string=>0
   | _=>3
  | .convert t u _=>match P.underlying t,P.underlying u with
   | some .unsafePointer,_|_,some .unsafePointer=>3
   | _,_=>0
  | .call c=>match c.callee with
   | .builtin .len|.builtin .min|.builtin .max|.builtin .cap|.builtin .unsafeSliceData=>0
   | _=>3
  | _=>0
def Hk(acc:List Nat)(o:Oper):Nat:=o.after.toList.foldl (λm e=>if Region.binds .any e then m ||| (1 <<< e.on ||| acc.getD e.on 0) else m) 0
def ij:List Oper->List Nat->List Nat
 | [],acc=>acc
 | o::rest,acc=>ij rest<|acc++[Hk acc o]
def qB:Nat->Value->Value->Bool
 | 0,_,_=>false
 | n+1,x,y=>match x,y with
  | .bool a,.bool b=>a==b
  | .int k a,.int k' b=>k==k'&&a==b
  | .string a,.string b=>cZ a.data.toList b.data.toList
  | .pointer a,.pointer b=>a==b
  | .slice a n c,.slice a' n' c'=>a==a'&&n.beq n'&&c.beq c'
  | .func f x y,.func f' x' y'=>f==f'&&x.toList.length.beq x'.toList.length&&y.toList.length.beq y'.toList.length&&(x.toList.zip x'.toList).all (λp=>qB n p.1 p.2)&&(y.toList.zip y'.toList).all (λp=>qB n p.1 p.2)
  | .agg x,.agg x'=>x.toList.length.beq x'.toList.length&&(x.toList.zip x'.toList).all (λp=>qB n p.1 p.2)
  | .nilFunc,.nilFunc=>true
  | .nilIface,.nilIface=>true
  | _,_=>false
def tmpsOf(o:Oper):List Nat:=o.op.operands.toList.filterMap λx=>match x with
 | .tmp t=>some t
 | _=>none
def FY(P:Program)(ops:List Oper)(kJ:List Nat)(q:Nat):Bool :=
 let n:=ops.length
 let has:=λi j=>(kJ.getD i 0).testBit j
 let ks:=ops.map (kindOf P)
 (List.range n).all (λi=>decide (i<q)||(List.range i).all (has i)) &&
 (List.range q).all (λi=>match ops[i]? with
  | some o=>(tmpsOf o).all (λt=>(List.range q).all λj=>((ops[j]?).bind (·.dst) != some t)||has i j) &&
   (match o.guard with|some (j,_)=>has i j&&decide (j<q)|none=>true) &&
   (List.range q).all (λj=>(i==j)||o.dst==none||(ops[j]?).bind (·.dst) != o.dst)
  | none=>false) &&
 (List.range q).all (λi=>(ks.getD i 0 != 3)||(List.range i).all λj=>(ks.getD j 0).blt 2||has i j)
def kL(kJ:List Nat):Nat->Nat
 | 0=>0
 | n+1=>if (List.range n).all (λj=>(kJ.getD n 0).testBit j) then kL kJ n else n+1
def jQ(tr:List (TL × Value × AS))(s:AS)(m:Nat):AS:=match m with
 | 0=>s
 | m+1=>match tr[m]? with
  | some (_,_,s')=>s'
  | none=>s
def qm(P:Program)(ops:Array Oper)(kJ:List Nat)(q:Nat)(tr:List (TL × Value × AS))(s:AS):Bool :=
 let has:=λi j=>(kJ.getD i 0).testBit j
 let es:=(List.range q).filter λi=>(match ops.toList[i]? with|some o=>kindOf P o|none=>0)==3
 (List.range q).all λr=>match ops.toList[r]?,tr[r]? with
  | some o,some (a,v,_)=>match o.op with
   | .load t x=>(0::es.map (·+1)).all λp =>
    (es.any λe=>(e.blt p&&has e r)||(!e.blt p&&has r e)) ||
    (match bV P t (a.at x) (jQ tr s p) with
     | some b=>qB 20 b v
     | none=>false)||!(Region.wanted o<|cg ops a)
   | _=>true
  | _,_=>false
def nZ(P:Program)(kt:TypeId->Bool)(call:FuncId->Aq->AS->Option (Value × AS))(ops:Array Oper)(a:TL)(s:AS):Option (TL × AS) :=
 let kJ:=ij ops.toList []
 let q:=kL kJ ops.toList.length
 if iM ops=false\/FY P ops.toList kJ q=false then none else
 match sn P kt call ops ops.toList a s with
 | some b=>if qm P ops kJ q b s=false then none else match b.reverse,ops.toList.reverse with
  | (a',v,s')::_,o::_=>some (a'.put o.dst v,s')
  | _,_=>none
 | none=>none
def mS(P:Program)(tmps:TL)(s:AS):ResultVar->Option Value
 | .tmp t=>some<|tmps.getD t undef
 | .cell t ty=>bV P ty (tmps.getD t undef) s
def di(P:Program)(fn:Func)(tmps:TL)(s:AS):Option Value :=
 match fn.results.toList with
 | [r]=>mS P tmps s r
 | rs=>match rs.mapM (mS P tmps s) with
  | some vs=>some<|.tuple vs.toArray
  | none=>none
abbrev Prim:=FuncId->Option (Aq->AS->Option (Value × AS))
def gV (P:Program)(kt:TypeId->Bool)(pr:Prim):Nat->Code->TL->AS->Option (Exit × TL × AS)
 | 0,_,_,_=>none
 | n+1,c,a,s=>match c with
  | .skip=>some (.normal,a,s)
  | .ret=>some (.ret,a,s)
  | .exit id=>some (.exit id,a,s)
  | .label _=>some (.normal,a,s)
  | .seq x y=>match gV P kt pr n x a s with
   | some (.normal,a',s')=>gV P kt pr n y a' s'
   | r=>r
  | .cond x y z=>match a.at x with
   | .bool true=>gV P kt pr n y a s
   | .bool false=>gV P kt pr n z a s
   | _=>none
  | .block id x=>match gV P kt pr n x a s with
   | some (.exit k,a',s')=>if k=id then some (.normal,a',s') else some (.exit k,a',s')
   | r=>r
  | .loop x=>match gV P kt pr n x a s with
   | some (.normal,a',s')=>gV P kt pr n (.loop x) a' s'
   | r=>r
  | .scope x=>gV P kt pr n x a s
  | .region _ ops draw=>if oG ops=false then none else
   match (if draw then nZ P kt else AX P kt) (λf args s=>match pr f with
    | some g=>g args s
    | none=>match P.funcs[f]? with
     | some fn=>match fn.body with
      | some b=>match gV P kt pr n b (args.toList++List.replicate (fn.ntmps-args.toList.length) undef) s with
       | some (e,a',s')=>match e with
        | .normal|.ret=>(di P fn a' s').map (·,s')
        | _=>none
       | none=>none
      | none=>none
     | none=>none) ops a s with
   | some (a',s')=>some (.normal,a',s')
   | none=>none
  | _=>none
def ck(P:Program)(kt:TypeId->Bool)(pr:Prim)(n:Nat)(f:FuncId)(args:Aq)(s:AS):Option (Value × AS) :=
 match pr f with
 | some g=>g args s
 | none=>match P.funcs[f]? with
  | some fn=>match fn.body with
   | some b=>match gV P kt pr n b (args.toList++List.replicate (fn.ntmps-args.toList.length) undef) s with
    | some (e,a',s')=>match e with
     | .normal|.ret=>(di P fn a' s').map (·,s')
     | _=>none
    | none=>none
   | none=>none
  | none=>none
end
section
open Go.Conc Go.RowKit Go.Lib
variable {α ι:Type}{x:Value}{Q:gY ι}{i:ι}
variable {a a' b' cs qG p p' q q':Aq}{b c c' d e g len n n' off pos z:Nat}{x' y y':Value}{o o' Rz ob RA:Obj}{f:Fn}{op:BinOp}{t:TypeId}{place:Nat->Option (Nat × Nat)}{ps YO:List (Nat × Value)}
theorem qh(d:α):∀(n:Nat) (l:List α) (x:α) (m:Nat),(pC d n l x).getD m d=if m=n then x else l.getD m d
 | 0,l,x,0=>by simp[pC]
 | 0,l,x,m+1=>by cases l<;>simp[pC]
 | n+1,l,x,0=>by cases l<;>simp[pC]
 | n+1,l,x,m+1=>by have:=qh d n l.tail x m;cases l<;>simp_all [pC]
theorem AS.aN(s:AS)(b b':Nat)(o:Option Obj):(s.set b o).get b'=if b'=b then o else s.get b':=by
 unfold AS.get AS.set;rw[qh];by_cases h:b' / 16=b / 16
 .rw[ip h,qh];grind
 .grind
def AS.aZ(s:AS)(b':Nat)(o:Obj):(s.add o).get b'=if b'=s.nx then some o else s.get b':=by have:(s.add o).get b'=(s.set s.nx<|some o).get b':=Y;rw[this,AS.aN]
@[simp] theorem AS.Uj (s:AS) (b:Nat) (o:Option Obj):(s.set b o).nx=s.nx:=Y
@[simp] theorem AS.nx_add (s:AS) (o:Obj):(s.add o).nx=s.nx+1:=Y
abbrev eN:=Nat->Option (Nat × Nat × Nat)
def eN.le(S S':eN):Prop:=∀b x,S b=some x->S' b=some x
def eN.le_refl(S:eN):S.le S:=λ_ _ h=>h
def aQ:=@eN.le_refl
def eN.le_trans{S S' a:eN}(h:S.le S')(c:S'.le a):S.le a:=λb x e=>c b x<|h b x e
def cQ:=@eN.le_trans
def AR (R:Value->Value->Prop)(a b:Aq):Prop:=a.size=b.size/\∀(i:Nat) (x y:Value),a[i]?=some x->b[i]?=some y->R x y
def VD (S:eN):Nat->Value->Value->Prop
 | 0,_,_=>False
 | d+1,x,v=>match x with
  | .pointer (some ⟨b,off,none⟩)=>∃g z e,S b=some (g,z,e)/\v=.pointer (some ⟨g,off,none⟩)
  | .slice (some ⟨b,off,none⟩) n c=>∃g z e c',S b=some (g,z,e)/\v=.slice (some ⟨g,off,none⟩) n c'/\n<=c/\c<=c'/\c'<=maxLen/\off+c'*e=z
  | .slice (some ⟨b,_,some _⟩) n c=>∃g z e o' c',S b=some (g,z,e)/\v=.slice (some ⟨g,o',none⟩) 0 c'/\n=0/\(c=0->c'=0)/\c'<=maxLen
  | .map (some k)=>∃m:Nat,v=goInt m/\k<=m
  | .func f x y=>∃x' y',v=.func f x' y'/\AR (VD S d) x x'/\AR (VD S d) y y'
  | .agg x=>∃x',v=.agg x'/\AR (VD S d) x x'
  | .tuple x=>∃x',v=.tuple x'/\AR (VD S d) x x'
  | x=>eW x=true/\v=x
def VR (S:eN)(x v:Value):Prop:=∃d,VD S d x v
def AR.imp{R c:Value->Value->Prop}{b:Aq}(h:AR R a b)(i:∀x y,R x y->c x y):AR c a b:=⟨h.1,λk x y d e=>i x y<|h.2 k x y d e⟩
def VD.imp{S S':eN}(a:S.le S'):∀{d d':Nat} {x v:Value},VD S d x v->d<=d'->VD S' d' x v
 | 0,_,_,_,h,_=>h.elim
 | d+1,0,_,_,_,h=>absurd h oq
 | d+1,d'+1,x,v,h,hd=>by
  have ih:∀x y,VD S d x y->VD S' d' x y:=λx y h=>VD.imp a h oq;unfold VD at h |-;split at h
  .have⟨g,z,e,h1,h2⟩:=h;exact⟨g,z,e,a _ _ h1,h2⟩
  .have⟨g,z,e,c,h1,h2⟩:=h;exact⟨g,z,e,c,a _ _ h1,h2⟩
  .have⟨g,z,e,i,f,h1,h2⟩:=h;exact⟨g,z,e,i,f,a _ _ h1,h2⟩
  .exact h
  .have⟨b,j,h1,h2,h3⟩:=h;exact⟨b,j,h1,h2.imp ih,h3.imp ih⟩
  iterate 2
   .have⟨b,h1,h2⟩:=h;exact⟨b,h1,h2.imp ih⟩
  .exact h
def VR.mono{S S':eN}{v:Value}(h:VR S x v)(a:S.le S'):VR S' x v:=h.elim λd h=>⟨d,h.imp a<|iz d⟩
def AR.mono{S S':eN}{b:Aq}(h:AR (VR S) a b)(c:S.le S'):AR (VR S') a b:=h.imp λ_ _ h=>h.mono c
variable {S:eN}{v:Value}
def VR.sc(a:eW x=true)(h:VR S x v):v=x:=by
 have⟨d,h⟩:=h;cases d with
 | zero=>exact h.elim
 | succ d =>unfold VD at h;split at h<;>first|exact h.2|(simp[eW] at a)
theorem VR.fl(U:q9 x=true)(h:VR S x v):v=x:=by
 unfold q9 at U;split at U
 .next a =>
  have⟨d,h⟩:=h;match d,h with
  | 0,h=>exact h.elim
  | d+1,h =>
   unfold VD at h;obtain⟨c,rfl,h1,h2⟩:=h;congr 1;apply Array.ext_getElem?;intro i;by_cases f:i<a.size
   .have e1:a[i]?=some a[i]:=gF f;have b:c[i]?=some _:=gF oq;have e:eW a[i]=true:=aT.1 U _ iq;rw[e1,b,VR.sc e ⟨d,h2 i _ _ e1 b⟩]
   .grind
 .exact VR.sc U h
def bD(a:eW x=true):VR S x x:=by refine⟨1,?_⟩;unfold VD;split<;>first|exact⟨a,rfl⟩|(simp[eW] at a)
def VR.mp{p:Option Nat}(h:VR S (.map p) v):∃k m:Nat,p=some k/\v=goInt m/\k<=m:=by
 have⟨d,h⟩:=h;cases d with
 | zero=>exact h.elim
 | succ d=>cases p with
  | none=>exact absurd h.1<|by simp[eW]
  | some k=>obtain⟨m,h1,h2⟩:=h;exact⟨k,m,Y,h1,h2⟩
def VR.ptr(h:VR S (.pointer<|some ⟨b,off,none⟩) v):∃g z e,S b=some (g,z,e)/\v=.pointer (some ⟨g,off,none⟩):=by
 have⟨d,h⟩:=h;cases d with
 | zero=>exact h.elim
 | succ d=>exact h
def dj(h:S b=some (g,z,e)):VR S (.pointer<|some ⟨b,off,none⟩) (.pointer<|some ⟨g,off,none⟩):=⟨1,g,z,e,h,Y⟩
def VR.kS{p:Addr}(h:VR S (.pointer<|some p) v):p.spot=none:=by
 have⟨d,h⟩:=h;have⟨b,a,sp⟩:=p;cases sp with
 | none=>rfl
 | some q=>cases d with
  | zero=>exact h.elim
  | succ d=>exact absurd h.1<|by simp[eW]
def VR.sl(h:VR S (.slice (some ⟨b,off,none⟩) n c) v):∃g z e a,S b=some (g,z,e)/\v=.slice (some ⟨g,off,none⟩) n a/\n<=c/\c<=a/\a<=maxLen/\off+a*e=z:=by
 have⟨d,h⟩:=h;cases d with
 | zero=>exact h.elim
 | succ d=>exact h
def kD(h:S b=some (g,z,e))(h1:n<=c)(h2:c<=c')(h3:c'<=maxLen)(a:off+c'*e=z):VR S (.slice (some ⟨b,off,none⟩) n c) (.slice (some ⟨g,off,none⟩) n c'):=⟨1,g,z,e,c',h,Y,h1,h2,h3,a⟩
def VR.m6{ad:Addr}(h:VR S (.slice (some ad) n c) v):∃g z e f a,S ad.block=some (g,z,e)/\v=.slice (some ⟨g,f,none⟩) n a/\n<=a/\a<=maxLen/\(n=0\/f=ad.off):=by
 have⟨d,h⟩:=h;have⟨b,j,sp⟩:=ad;cases d with
 | zero=>exact h.elim
 | succ d =>
  cases sp with
  | none=>obtain⟨g,z,e,a,h1,h2,h3,k,i,_⟩:=h;exact⟨g,z,e,j,a,h1,h2,oq,i,.inr Y⟩
  | some q=>obtain⟨g,z,e,f,a,h1,h2,h3,k,i⟩:=h;subst h3;exact⟨g,z,e,f,a,h1,h2,oq,i,.inl Y⟩
def VR.Qf{q}(h:VR S (.slice (some ⟨b,off,some q⟩) n c) v):∃g z e f a,S b=some (g,z,e)/\v=.slice (some ⟨g,f,none⟩) 0 a/\n=0/\(c=0->a=0)/\a<=maxLen:=by
 have⟨d,h⟩:=h;cases d with
 | zero=>exact h.elim
 | succ d=>exact h
def tJ{o':Nat}{q}(h:S b=some (g,z,e))(h1:c=0->c'=0)(h2:c'<=maxLen):VR S (.slice (some ⟨b,off,some q⟩) 0 c) (.slice (some ⟨g,o',none⟩) 0 c'):=⟨1,g,z,e,o',c',h,Y,Y,h1,h2⟩
def VR.fn(h:VR S (.func f p q) v):∃a b,v=.func f a b/\AR (VR S) p a/\AR (VR S) q b:=by
 have⟨d,h⟩:=h;cases d with
 | zero=>exact h.elim
 | succ d=>obtain⟨a,b,h1,h2,h3⟩:=h;exact⟨a,b,h1,h2.imp λ_ _ h=>⟨d,h⟩,h3.imp λ_ _ h=>⟨d,h⟩⟩
def VR.ag(h:VR S (.agg p) v):∃a,v=.agg a/\AR (VR S) p a:=by
 have⟨d,h⟩:=h;cases d with
 | zero=>exact h.elim
 | succ d=>obtain⟨a,h1,h2⟩:=h;exact⟨a,h1,h2.imp λ_ _ h=>⟨d,h⟩⟩
def VR.tu(h:VR S (.tuple p) v):∃a,v=.tuple a/\AR (VR S) p a:=by
 have⟨d,h⟩:=h;cases d with
 | zero=>exact h.elim
 | succ d=>obtain⟨a,h1,h2⟩:=h;exact⟨a,h1,h2.imp λ_ _ h=>⟨d,h⟩⟩
theorem uM:∀(a b:Vq),(∀(i:Nat) (x y:Value),a[i]?=some x->b[i]?=some y->VR S x y)->∃d,∀(i:Nat) (x y:Value),a[i]?=some x->b[i]?=some y->VD S d x y
 | [],b,_=>⟨0,λi x y h=>by simp at h⟩
 | x::a,[],_=>⟨0,λi x y _ h=>by simp at h⟩
 | x::a,y::b,h=>by
  have⟨d,hd⟩:=uM a b λi x y e f=>h (i+1) x y gq gq;have⟨g,c⟩:=h 0 x y Y Y;refine⟨max d g,λi j k e f=>?_⟩;cases i with
  | zero=>simp at e f;subst e f;exact c.imp (aQ S)<|Nat.le_max_right _ _
  | succ i=>exact(hd i j k gq gq).imp (aQ S) (Nat.le_max_left _ _)
theorem AR.AN{b:Aq}(h:AR (VR S) a b):∃d,AR (VD S d) a b:=by have⟨d,c⟩:=uM a.toList b.toList λi x y e f=>h.2 i x y gq gq;exact⟨d,h.1,λi x y e f=>c i x y gq gq⟩
section
variable (h:AR (VR S) p p')
def mv:VR S (.agg p) (.agg p'):=by have⟨d,a⟩:=h.AN;exact⟨d+1,p',Y,a⟩
def ju:VR S (.tuple p) (.tuple p'):=by have⟨d,a⟩:=h.AN;exact⟨d+1,p',Y,a⟩
def mw(c:AR (VR S) q q'):VR S (.func f p q) (.func f p' q'):=by have⟨d,e⟩:=h.AN;have⟨b,a⟩:=c.AN;exact⟨max d b+1,p',q',Y,e.imp λ_ _ h=>h.imp (aQ S)<|Nat.le_max_left _ _,a.imp λ_ _ h=>h.imp (aQ S)<|Nat.le_max_right _ _⟩
end
def AR.nil:AR (VR S) #[] #[]:=⟨Y,λi x y h=>by simp at h⟩
def AR.one(h:VR S x v):AR (VR S) #[x] #[v]:=⟨Y,λi c d a b=>by
 cases i with
 | zero=>simp at a b;subst a b;exact h
 | succ i=>simp at a⟩
def gn:=@AR.one
def AR.append{b:Aq}(h:AR (VR S) a b)(e:AR (VR S) a' b'):AR (VR S) (a++a') (b++b'):=by
 refine⟨by simp[h.1,e.1],λi x y d c=>?_⟩;rw[Array.getElem?_append] at d c;rw[<-h.1] at c;split at d
 .rw[ip (by assumption)] at c;exact h.2 i x y d c
 .rw[iw (by assumption)] at c;exact e.2 _ x y d c
theorem AR.replicate(n:Nat)(d:VR S x v):AR (VR S) (Array.replicate n x) (Array.replicate n v):=by refine⟨iq,λi a b U c=>?_⟩;grind
def fx:VR S undef undef:=ju AR.nil
def VR.cells(h:VR S x v):AR (VR S) x.cells v.cells:=by
 cases x with
 | agg p=>obtain⟨i,rfl,a⟩:=h.ag;exact a
 | tuple p=>obtain⟨i,rfl,a⟩:=h.tu;exact gn<|ju a
 | map p=>obtain⟨k,m,rfl,rfl,a⟩:=h.mp;exact gn h
 | func f p q=>obtain⟨i,r,rfl,h1,h2⟩:=h.fn;exact gn<|mw h1 h2
 | pointer p =>
  cases p with
  | none=>rw[h.sc Y];exact gn<|bD Y
  | some p =>
   have⟨b,j,sp⟩:=p
   have:=h.kS;simp at this;subst this;obtain⟨g,z,e,h1,rfl⟩:=h.ptr;exact gn<|dj h1
 | slice p n c =>
  cases p with
  | none=>rw[h.sc Y];exact gn<|bD Y
  | some p =>obtain⟨g,z,e,o,l,h1,rfl,h2⟩:=h.m6;exact gn h
 | bool b=>rw[h.sc Y];exact gn<|bD Y
 | int k n=>rw[h.sc Y];exact gn<|bD Y
 | string s=>rw[h.sc Y];exact gn<|bD Y
 | nilFunc=>rw[h.sc Y];exact gn<|bD Y
 | nilIface=>rw[h.sc Y];exact gn<|bD Y
 | _=>obtain⟨d,h⟩:=h;cases d with
  | zero=>exact h.elim
  | succ d=>exact absurd h.1<|by simp[eW]
def VR.Ib(h:VR S x v):v.oneCell'=x.oneCell':=by
 cases x with
 | agg p=>obtain⟨i,rfl,a⟩:=h.ag;rfl
 | tuple p=>obtain⟨i,rfl,a⟩:=h.tu;rfl
 | map p=>obtain⟨k,m,rfl,rfl,a⟩:=h.mp;rfl
 | func f p q=>obtain⟨i,r,rfl,h1,h2⟩:=h.fn;rfl
 | pointer p =>
  cases p with
  | none=>rw[h.sc Y]
  | some p =>
   have⟨b,j,sp⟩:=p
   have:=h.kS;simp at this;subst this;obtain⟨g,z,e,h1,rfl⟩:=h.ptr;rfl
 | slice p n c =>
  cases p with
  | none=>rw[h.sc Y]
  | some p=>obtain⟨g,z,e,o,l,h1,rfl,h2⟩:=h.m6;rfl
 | bool b=>rw[h.sc Y]
 | int k n=>rw[h.sc Y]
 | string s=>rw[h.sc Y]
 | nilFunc=>rw[h.sc Y]
 | nilIface=>rw[h.sc Y]
 | _=>obtain⟨d,h⟩:=h;cases d with
  | zero=>exact h.elim
  | succ d=>exact absurd h.1<|by simp[eW]
def OR (S:eN)(z:Nat):Obj->Obj->Prop
 | .cells cs t fz,o'=>∃qG,o'=.cells qG t/\qG.size=z/\(cs.size<=z/\(fz=(0,0)->cs.size=z))/\∀(i:Nat) (x y:Value),cs[i]?=some x->qG[i]?=some y->VR S x y
 | .stringIter s p,o'=>o'=.stringIter s p
 | .chan t cs _ f1 f2 _,o'=>o'=.cells cs t (f1,f2)
 | _,_=>False
def OR.mono{S S':eN}(c:S.le S')(h:OR S z o o'):OR S' z o o':=by
 unfold OR at h |-;split at h
 .have⟨a,h1,h2,h3,b⟩:=h;exact⟨a,h1,h2,h3,λi x y d e=>(b i x y d e).mono c⟩
 .exact h
 .exact h
 .exact h.elim
structure gz(P:Program)(KT:TypeId->Prop)(An:eN)(S:eN)(s:AS)(l:Hq):Prop where
 live:∀b o,s.get b=some o->∃g z e o',S b=some (g,z,e)/\(g,o')∈l/\OR S z o o'/\∀cs t fz,o=.cells cs t fz->cz P t=some e/\¬KT t
 inj:∀b b' o o' x x',s.get b=some o->s.get b'=some o'->S b=some x->S b'=some x'->x.1=x'.1->b=b'
 lt:∀b o,s.get b=some o->b<s.nx
 an:An.le S
variable {P:Program}{KT:TypeId->Prop}{An:eN}{s:AS}{l:Hq}
section
variable {S':eN}
def eN.put(S:eN)(b:Nat)(x:Nat × Nat × Nat):eN:=λk=>if k=b then some x else S k
theorem eM{x:Nat × Nat × Nat}(h:S b=none):S.le (S.put b x):=λk y U=>by unfold eN.put;grind
def eS{x:Nat × Nat × Nat}:S.put b x b=some x:=by simp[eN.put]
theorem gz.grown(h:gz P KT An S s l)(i:S s.nx=none)(r:∀o,(g,o)∉l)(p:OR (S.put s.nx (g,z,e)) z o o')(q:∀k t m,o=.cells k t m->cz P t=some e/\¬KT t):gz P KT An (S.put s.nx (g,z,e)) (s.add o) ((g,o')::l) where
 live b ob U:=by
  rw[AS.aZ] at U
  split at U
  .
   next a =>
   subst a
   cases U
   exact⟨g,z,e,o',eS,List.mem_cons_self ..,p,q⟩
  .
   have⟨f,j,a,c,h1,h2,h3,n⟩:=h.live b ob U
   exact⟨f,j,a,c,eM i _ _ h1,Dv _ h2,h3.mono<|eM i,n⟩
 inj b b' o1 o2 x x' U uU hx a0 he:=by
  rw[AS.aZ] at U uU
  unfold eN.put at hx a0
  split at U<;>split at uU
  .
   omega
  .
   next e1 d =>
   rw[ip e1] at hx
   rw[iw d] at a0
   cases hx
   have⟨f,j,a,c,h1,h2,_⟩:=h.live b' o2 uU
   grind
  .
   next e1 d =>
   rw[iw e1] at hx
   rw[ip d] at a0
   cases a0
   have⟨f,j,a,c,h1,h2,_⟩:=h.live b o1 U
   grind
  .
   next e1 d =>
   rw[iw e1] at hx
   rw[iw d] at a0
   exact h.inj b b' o1 o2 x x' U uU hx a0 he
 lt b ob U:=by
  rw[AS.aZ] at U
  split at U
  .
   next a=>simp[a]
  .
   have:=h.lt b ob U;simp;omega
 an:=cQ h.an<|eM i
end
section
variable {β:Type}
@[simp] theorem jL (x:α):iy P (Pure.pure x:Sem α)=some x:=Y
@[simp] theorem VB (x:α):iy P (.pure x:Sem α)=some x:=Y
def zm(t:Sem α)(k:α->Sem β):iy P (t.bind k)=(iy P t).bind λa=>iy P (k a):=by
 induction t with
 | pure a=>rfl
 | program f ih=>simp only[Sem.bind,iy];exact ih P
 | _=>rfl
@[simp] theorem dD (t:Sem α) (k:α->Sem β):iy P (t >>= k)=(iy P t).bind λa=>iy P (k a):=zm t k
@[simp] theorem ZA (f:α->β) (t:Sem α):iy P (Functor.map f t)=(iy P t).map f:=by show iy P (t.bind<|Sem.pure ∘ f)=_;rw[zm];cases iy P t<;>rfl
def mE{t:Sem α}{x:α}(h:iy P t=some x)(w:World)(es:Array Event):t.run P w=.ok x w/\t.events P w es=es:=by
 induction t with
 | pure a=>simp[iy] at h;subst h;exact⟨Y,Y⟩
 | program f ih=>exact ih P h
 | _=>simp[iy] at h
@[simp] theorem dW (t:TypeId):iy P (underlying t)=P.underlying t:=by unfold underlying program;simp only[dD,iy];simp;cases P.underlying t<;>rfl
@[simp] theorem sk (t:TypeId):iy P (typeInfo t)=P.info? t:=by unfold typeInfo program;simp only[dD,iy];simp;cases P.info? t<;>rfl
@[simp] theorem n6 (t:TypeId):iy P (sizeOf t)=cz P t:=by unfold sizeOf cz;simp only[dD,sk];cases P.info? t<;>rfl
@[simp] theorem VC (why:String):iy P (stuck why:Sem α)=none:=Y
@[simp] theorem KE (u:Unsupported):iy P (unsupported u:Sem α)=none:=Y
end
def EG(k:IntKind)(r:Int):eU k r=k.wrap r:=by
 unfold eU;split;iterate 2
  .split
   .next h=>simp only[IntKind.wrap,IntKind.bits,IntKind.signed];simp;omega
   .rfl
 .rfl
theorem AF:∀l m:Bq,cZ l m=(l==m)
 | [],[]=>rfl
 | [],_::_=>rfl
 | _::_,[]=>rfl
 | x::l,y::m=>by
  have h:x.toNat.beq y.toNat=(x==y):=by rw[Bool.eq_iff_iff];simp only[Nat.beq_eq,beq_iff_eq];exact⟨λh=>UInt8.toNat_inj.1 h,λh=>by rw[h]⟩
  simp only[cZ,h,AF l m];grind
def kF:∀(l:List α) (n:Nat),l7 l n=n+l.length
 | [],n=>rfl
 | _::l,n=>by simp only[l7,kF l,lC];omega
def AL(x:ByteArray):x.toList=x.data.toList:=by exact ByteArray.toList_eq x
def qZ{a b:ByteArray}(h:a.data.toList=b.data.toList):a=b:=by obtain⟨⟨l⟩⟩:=a;obtain⟨⟨m⟩⟩:=b;simp at h;subst h;rfl
variable {a:Act}{o:Oper}{aA:TL}
theorem C7(t:TypeId)(h:dV op x y=some v):eW v=true/\eW x=true/\eW y=true/\iy P (binOp op t x y)=some v/\∀X Y,iy P (eqGuard op t X Y x y)=some ():=by
 unfold dV at h;split at h
 .split at h
  .next e =>
   subst e;refine⟨?_,I,I,?_,λX Y=>by cases op<;>rfl⟩
   .split at h<;>first|(cases h;rfl)|cases h
   .split at h<;>first|(cases h;simp[binOp,Op.intArith,Op.intCmp,EG])|cases h
  .cases h
 .refine⟨?_,I,I,?_,λX Y=>by cases op<;>rfl⟩
  .split at h;iterate 2
    .cases h;rfl
   .split at h
    .cases h;rfl
    .cases h
   .cases h
  .split at h;iterate 2
    .cases h;simp[binOp,Op.stringOp,AF,AL]
   .split at h
    .next a b _ U =>
     cases h;simp only[kF,Nat.zero_add] at U;have h1:a.size=a.data.toList.length:=by simp_all
     have h2:b.size=b.data.toList.length:=by rw[KO];rfl
     have c:¬(((a.size+b.size:Nat):Int)>IntKind.i64.max):=by rw[h1,h2];simp[IntKind.max,IntKind.bits,IntKind.signed];omega
     have e:(⟨(a.data.toList++b.data.toList).toArray⟩)=a++b:=by apply qZ;simp
     rw[e];simp only[binOp,Op.stringOp];rw[iw c];rfl
    .cases h
   .cases h
 .cases h
def gh (S:eN)(aA:TL)(a:Act)(o:Oper):Prop:=∀x∈o.op.operands,VR S (aA.at x)<|a.eval x
theorem GW(U:q9 x=true):VR S x x:=by
 unfold q9 at U;split at U
 .exact mv ⟨Y,λi u v b a=>by rw[b] at a;cases a;rw[aT] at U;exact bD<|U u gq⟩
 .exact bD U
theorem gJ(d:gh S aA a o)(f:(∀x∈o.op.operands,a.eval x=aA.at x)->execOp a.eval o=execOp aA.at o)(h:vA P aA o=some v):VR S v v/\iy P (execOp a.eval o)=some (.value v):=by
 unfold vA at h;split at h
 .next b =>
  split at h
  .next j U =>
   split at h
   .next c =>
    cases h;refine⟨GW c,?_⟩;have g:∀x∈o.op.operands,a.eval x=aA.at x:=λx i=>(d x i).fl (by rw[aT] at b;exact b x gq);rw[f g];unfold Vm at U;split at U
    .next e=>cases U;exact e
    .cases U
   .cases h
  .cases h
 .cases h
theorem FN{xs:Array Operand}(h:∀x∈xs,VR S (aA.at x)<|a.eval x):AR (VR S) (xs.map aA.at) (xs.map a.eval):=by refine⟨iq,λi x y U b=>?_⟩;grind
def OS{t:Nat}{p q:Addr}(c:P.underlying t=some (.pointer e))(b:cz P e=some (n+1))(a:p.block=q.block):iy P (Op.equalIn (d+1) t (.pointer<|some p)<|.pointer<|some q)=some (p==q):=by simp only[Op.equalIn,dD,dW,c,yY,n6,b,ne_eq,Nat.add_eq_zero_iff,Nat.succ_ne_self,and_false,not_false_eq_true,if_true,sameAddr,a,beq_self_eq_true];simp
def Hw{t:Nat}{p:Addr}(a:P.underlying t=some (.pointer e)):iy P (Op.equalIn (d+1) t (.pointer<|some p)<|.pointer none)=some false/\iy P (Op.equalIn (d+1) t (.pointer none)<|.pointer<|some p)=some false:=by constructor<;>simp only[Op.equalIn,dD,dW,a,yY]<;>rfl
def Hx{t:Nat}{p:Addr}(a:P.underlying t=some (.slice e)):iy P (Op.equalIn (d+1) t (.slice (some p) n c)<|.slice none n' c')=some false/\iy P (Op.equalIn (d+1) t (.slice none n' c')<|.slice (some p) n c)=some false:=by constructor<;>simp only[Op.equalIn,dD,dW,a,yY]<;>rfl
def Hv{t:Nat}{x y:Array TypeId}{b:Bool}(a:P.underlying t=some (.func x y b)):iy P (Op.equalIn (d+1) t (.func f p q) .nilFunc)=some false/\iy P (Op.equalIn (d+1) t .nilFunc<|.func f p q)=some false:=by constructor<;>simp only[Op.equalIn,dD,dW,a,yY]<;>rfl
def n8(b:BinOp)(t:TypeId)(X Y:Operand)(d:∀c,x≠.agg c)(a:x≠.nilIface):iy P (eqGuard b t X Y x y)=some ():=by unfold eqGuard;cases b<;>first|rfl|(cases x<;>first|rfl|exact absurd rfl (d _)|exact absurd rfl a)
def CQ{b:Bool}(h1:∀k n,x≠.int k n)(h2:∀s,x≠.string s)(h3:∀k n,x≠.float k n)(a:∀k n m,x≠.complex k n m)(h:iy P (Op.equalIn (9999+1) t x y)=some b):iy P (binOp .eql t x y)=some (.bool b)/\iy P (binOp .neq t x y)=some (.bool !b):=by
 have h:iy P (Op.equal t x y)=some b:=h;cases x with
 | int k n=>exact absurd Y<|h1 k n
 | string s=>exact absurd Y<|h2 s
 | float k n=>exact absurd Y<|h3 k n
 | complex k n m=>exact absurd Y<|a k n m
 | _=>exact⟨by simp only[binOp,dD,h];rfl,by simp only[binOp,dD,h];rfl⟩
def nL(h:(match op with|.eql=>some (Value.bool false)|.neq=>some (.bool true)|_=>none)=some v)(h1:∀k n,x≠.int k n)(h2:∀s,x≠.string s)(h3:∀k n,x≠.float k n)(h4:∀k n m,x≠.complex k n m)(h5:∀c,x≠.agg c)(h6:x≠.nilIface)
 (he:iy P (Op.equalIn (9999+1) t x y)=some false):eW v=true/\iy P (binOp op t x y)=some v/\∀X Y,iy P (eqGuard op t X Y x y)=some ():=by
 have:=CQ h1 h2 h3 h4 he;cases op<;>simp at h
 .subst h;exact⟨I,this.1,λX Y=>n8 _ _ _ _ h5 h6⟩
 .subst h;exact⟨I,this.2,λX Y=>n8 _ _ _ _ h5 h6⟩
def AU(i:VR S x x')(j:VR S y y')(h:pe P op t x y=some v):eW v=true/\iy P (binOp op t x' y')=some v/\∀X Y,iy P (eqGuard op t X Y x' y')=some ():=by
 unfold pe at h;split at h
 .next p q e a =>
  split at h
  .next n B =>
   split at h
   .next s =>
    have⟨b,c,sp⟩:=p;have⟨G,f,F⟩:=q;have h1:=i.kS;have h2:=j.kS;simp at h1 h2 s;subst h1 h2 s;obtain⟨g,z,e1,h3,rfl⟩:=i.ptr;obtain⟨I,L,H,r,rfl⟩:=j.ptr;rw[h3] at r;cases r;have l:=CQ iq iq iq iq<|OS (d:=9999) (p:=⟨g,c,none⟩) (q:=⟨g,f,none⟩) a B W;have A:((⟨g,c,none⟩:Addr)==⟨g,f,none⟩)=((⟨b,c,none⟩:Addr)==⟨b,f,none⟩):=by rw[Bool.eq_iff_iff];simp
    rw[A] at l;split at h
    .cases h;exact⟨W,l.1,λX Y=>n8 _ _ _ _ iq iq⟩
    .cases h;exact⟨W,l.2,λX Y=>n8 _ _ _ _ iq iq⟩
    .cases h
   .cases h
  .cases h
 .next p e a =>obtain⟨b,c,sp⟩:=p;have h1:=i.kS;simp at h1;subst h1;obtain⟨g,z,e1,h3,rfl⟩:=i.ptr;rw[j.sc W];exact nL h iq iq iq iq iq iq (Hw a).1
 .next p e a =>obtain⟨b,c,sp⟩:=p;have h1:=j.kS;simp at h1;subst h1;obtain⟨g,z,e1,h3,rfl⟩:=j.ptr;rw[i.sc W];exact nL h iq iq iq iq iq iq (Hw a).2
 .next a =>obtain⟨g,z,e1,C,u,h3,rfl,_⟩:=i.m6;rw[j.sc W];exact nL h iq iq iq iq iq iq (Hx a).1
 .next a =>obtain⟨g,z,e1,C,u,h3,rfl,_⟩:=j.m6;rw[i.sc W];exact nL h iq iq iq iq iq iq (Hx a).2
 .next a =>obtain⟨D,E,rfl,_⟩:=i.fn;rw[j.sc W];exact nL h iq iq iq iq iq iq (Hv a).1
 .next a =>obtain⟨D,E,rfl,_⟩:=j.fn;rw[i.sc W];exact nL h iq iq iq iq iq iq (Hv a).2
 .next k _ =>
  obtain⟨K,m,w,rfl,J⟩:=i.mp;cases w;rw[j.sc W];have o:¬m=0:=oq
  cases op<;>simp at h;iterate 2
   .subst h;exact⟨W,by simp[binOp,goInt,Op.intCmp,o],λX Y=>W⟩
 .cases h
theorem BH(l:gh S aA a o)(F:∀t G,o.op≠.build t G)(h:cI P aA o=some v):∃O,VR S v O/\iy P (execOp a.eval o)=some (.value O):=by
 unfold cI at h;unfold gh at l;split at h;iterate 2
  .next x U =>cases h;rw[U] at l;exact⟨_,l x<|by simp[Op.operands],by simp[execOp,U]⟩
 .next c x y U =>
  rw[U] at l;have M:=l c (by simp[Op.operands]);split at h
  .next b F =>
   cases h;rw[F] at M;refine⟨if b then a.eval x else a.eval y,?_,?_⟩
   .cases b
    .exact l y<|by simp[Op.operands]
    .exact l x<|by simp[Op.operands]
   .simp[execOp,U,(M.sc rfl),asBool]
  .cases h
 .grind
 .next x U =>
  rw[U] at l;have j:=l x (by simp[Op.operands]);split at h
  .next p E =>
   cases h;rw[E] at j;obtain⟨b,r,sp⟩:=p
   have:=j.kS;simp at this;subst this;obtain⟨g,z,e,h1,h2⟩:=j.ptr;exact⟨_,h2▸dj h1,by simp[execOp,U,h2]⟩
  .next f p q E =>cases h;rw[E] at j;obtain⟨p',q',h1,h2,h3⟩:=j.fn;exact⟨_,mw h2 h3,by simp[execOp,U,h1]⟩
  .cases h
 .next f first cap U =>cases h;rw[U] at l;refine⟨_,mw (FN λx j=>l x<|by simp[Op.operands,j])<|FN λx j=>l x<|by simp[Op.operands,j],by simp[execOp,U,Instr.makeFunc]⟩
 .next t K U =>
  rw[U] at l;have j:=l t (by simp[Op.operands]);split at h
  .next vs w =>
   rw[w] at j;obtain⟨W,h1,h2,h3⟩:=j.tu;have N:K<W.size:=gq
   exact⟨W[K],h3 K _ _ h<|Array.getElem?_eq_getElem N,by simp[execOp,U,h1,Instr.extract,Array.getElem?_eq_getElem N]⟩
  .cases h
 .next t x f U =>
  rw[U] at l;have j:=l x (by simp[Op.operands]);split at h
  .next a5 b r D E =>
   rw[E] at j;obtain⟨g,z,e,h1,h2⟩:=j.ptr;split at h
   .next fd hf =>
    split at h
    .next n J =>cases h;exact⟨_,dj h1,by simp[execOp,U,h2,Instr.fieldAt,D,hf,Instr.sureAddr,fieldPlace,J,Addr.add]⟩
    .cases h
   .cases h
  .cases h
 .next t x K U =>
  rw[U] at l;have j:=l x (by simp[Op.operands]);have C:=l K (by simp[Op.operands]);split at h
  .next e b r sp n c k i D E R =>
   rw[E] at j;rw[R] at C;have C:=C.sc rfl;obtain⟨g,z,Z,o',A,h1,h2,h3,s,I⟩:=j.m6;split at h
   .next sz J =>
    split at h
    .next T =>
     cases h;have:o'=r:=gq
     subst this;exact⟨_,dj h1,by simp[execOp,U,h2,C,Instr.indexAt,asIntOf,D,J,T,Addr.add]⟩
    .cases h
   .cases h
  .next n e b r k i D E R =>
   rw[E] at j;rw[R] at C;have C:=C.sc rfl;obtain⟨g,z,Z,h1,h2⟩:=j.ptr;split at h
   .next sz J =>
    split at h
    .next T =>cases h;exact⟨_,dj h1,by simp[execOp,U,h2,C,Instr.indexAt,asIntOf,D,J,T,Addr.add,Instr.sureAddr]⟩
    .cases h
   .cases h
  .cases h
 .next op t x y ty U =>
  rw[U] at l;have j:=l x (by simp[Op.operands]);have hy:=l y (by simp[Op.operands]);split at h
  .next O w =>cases h;obtain⟨h1,h2,h3,s,I⟩:=C7 (P:=P) t w;refine⟨v,bD h1,?_⟩;simp only[execOp,U,j.sc h2,hy.sc h3,dD,I,s];rfl
  .split at h
   .next O w =>cases h;obtain⟨h1,h2,h3⟩:=AU j hy w;refine⟨v,bD h1,?_⟩;simp only[execOp,U,dD,h3,h2];rfl
   .obtain⟨h1,h2⟩:=gJ (S:=S) (by unfold gh; rw[U]; exact l) (λm=>by rw[U] at m; simp only[execOp,U,m x<|by simp[Op.operands],m y<|by simp[Op.operands]]) h;exact⟨v,h1,h2⟩
 .next t u x U =>
  rw[U] at l;have j:=l x (by simp[Op.operands]);split at h
  .next d k k' n h1 h2 h3 =>cases h;rw[h3] at j;refine⟨_,bD rfl,?_⟩;simp[execOp,U,j.sc rfl,convert,h1,h2,Conv.intToInt,EG]
  .obtain⟨h1,h2⟩:=gJ (S:=S) (by unfold gh; rw[U]; exact l) (λm=>by rw[U] at m; simp only[execOp,U,m x<|by simp[Op.operands]]) h;exact⟨v,h1,h2⟩
 .next t x i U =>
  rw[U] at l;have j:=l x (by simp[Op.operands]);have C:=l i (by simp[Op.operands]);split at h
  .next str k n h1 h2 h3 =>
   rw[h2] at j;rw[h3] at C;split at h
   .next hn =>
    split at h
    .next b F =>
     cases h;refine⟨_,bD rfl,?_⟩;have a6:str[n.toNat]?=some b:=by
      have N:n.toNat<str.size:=by have:=(List.getElem?_eq_some_iff.1 F).1;rw[KO] at this;exact this
      rw[getElem?_pos str n.toNat N]
      have:=(List.getElem?_eq_some_iff.1 F).2;simp at this;rw[<-this];rfl
     simp[execOp,U,j.sc rfl,C.sc rfl,Instr.index,asIntOf,h1,hn,a6]
    .cases h
   .cases h
  .obtain⟨h1,h2⟩:=gJ (S:=S) (by unfold gh; rw[U]; exact l) (λm=>by rw[U] at m; simp only[execOp,U,m x<|by simp[Op.operands],m i<|by simp[Op.operands]]) h;exact⟨v,h1,h2⟩
 .next c U =>
  rw[U] at l;have Q:∀x∈c.args,VR S (aA.at x) (a.eval x):=λx j=>l x (by simp[Op.operands,Call.operands,j]);have B:(∀x∈o.op.operands,a.eval x=aA.at x)->∀b,c.callee=.builtin b->execOp a.eval o=execOp aA.at o:=λm b F=>by rw[U] at m;have:c.args.map a.eval=c.args.map aA.at:=Array.map_congr_left λx j=>m x (by simp[Op.operands,Call.operands,j]);simp only[execOp,U,resolve,F,this]
  split at h
  .next x t h1 h2 h3 =>
   have j:=Q x (by simpa using(show x∈c.args.toList by rw[h2]; simp));have H:c.args.map a.eval=#[a.eval x]:=by apply wu.1; simp[h2]
   have L:c.argTypes=#[t]:=gq
   split at h
   .next X n Y e w D =>
    cases h;rw[w] at j;refine⟨_,bD rfl,?_⟩;have:∃V A,a.eval x=.slice V n A:=by
     cases X with
     | none=>rw[j.sc rfl]; exact⟨_,_,rfl⟩
     | some X=>obtain⟨g,z,e,o',A,_,h2,_⟩:=j.m6; exact⟨_,_,h2⟩
    obtain⟨V,A,j⟩:=this;simp[execOp,U,resolve,h1,invoke,builtin,H,L,j,Builtin.len_,D]
   .next str w D =>cases h;rw[w] at j;refine⟨_,bD rfl,?_⟩;simp[execOp,U,resolve,h1,invoke,builtin,H,L,j.sc rfl,Builtin.len_,D,kF]
   .cases h
  .rename_i x h1 h2
   have j:=Q x (by simpa using(show x∈c.args.toList by rw[h2]; simp));have H:c.args.map a.eval=#[a.eval x]:=by apply wu.1; simp[h2]
   split at h
   .next b r n Y w =>
    cases h;rw[w] at j;obtain⟨g,z,e,A,h3,s,I,h6,_⟩:=j.sl;refine⟨_,dj h3,?_⟩;have:A≠0:=oq
    have hd:Builtin.unsafeSliceData_ c.argTypes o.type #[.slice (some ⟨g,r,none⟩) n A]=if A≠0 then pure (.pointer<|some ⟨g,r,none⟩) else (do if (<-viewAt g).isSome then pure (.pointer<|some ⟨g,r,none⟩) else pure (.pointer<|some ⟨<-newObj (.view ⟨g,r,none⟩<|<-elemOf o.type),0,none⟩)):=rfl;rw[if_pos this] at hd;simp[execOp,U,resolve,h1,invoke,builtin,H,s,hd]
   .obtain⟨h3,s⟩:=gJ (S:=S) (by unfold gh; rw[U]; exact l) (λm=>B m _ h1) h;exact⟨v,h3,s⟩
  .next x t h1 h2 h3 =>
   have j:=Q x (by simpa using(show x∈c.args.toList by rw[h2]; simp));have H:c.args.map a.eval=#[a.eval x]:=by apply wu.1; simp[h2]
   have L:c.argTypes=#[t]:=gq
   split at h
   .next b r n Y e w D =>cases h;rw[w] at j;obtain⟨g,z,Z,A,s,I,h6,h7,_⟩:=j.sl;exact⟨goInt A,⟨1,A,rfl,h7⟩,by simp[execOp,U,resolve,h1,invoke,builtin,H,L,I,Builtin.cap_,D]⟩
   .obtain⟨h3,s⟩:=gJ (S:=S) (by unfold gh; rw[U]; exact l) (λm=>B m _ h1) h;exact⟨v,h3,s⟩
  .next h1 =>obtain⟨h3,s⟩:=gJ (S:=S) (by unfold gh; rw[U]; exact l) (λm=>B m _ h1) h;exact⟨v,h3,s⟩
  .next h1 =>obtain⟨h3,s⟩:=gJ (S:=S) (by unfold gh; rw[U]; exact l) (λm=>B m _ h1) h;exact⟨v,h3,s⟩
  .next h1 =>obtain⟨h3,s⟩:=gJ (S:=S) (by unfold gh; rw[U]; exact l) (λm=>B m _ h1) h;exact⟨v,h3,s⟩
  .cases h
 .next op t x U =>rw[U] at l;obtain⟨h1,h2⟩:=gJ (S:=S) (by unfold gh; rw[U]; exact l) (λm=>by rw[U] at m; simp only[execOp,U,m x<|by simp[Op.operands]]) h;exact⟨v,h1,h2⟩
 .cases h
theorem AR.set(h:AR (VR S) cs qG)(c:VR S x y)(i:Nat):AR (VR S) (cs.setIfInBounds i x) (qG.setIfInBounds i y):=by
 refine⟨by simp[h.1],λk u b a U=>?_⟩;rw[Array.getElem?_setIfInBounds] at a U;rw[<-h.1] at U;by_cases e:i=k
 .grind
 .rw[iw e] at a U;exact h.2 k u b a U
def PR (S:eN):List (Nat × Value)->List (Nat × Value)->Prop
 | [],[]=>True
 | (i,x)::l,(j,y)::m=>i=j/\VR S x y/\PR S l m
 | _,_=>False
theorem Di(off:Nat):∀(l U:Vq) (k:Nat) (cs a:Aq),l.length=U.length->(∀(i:Nat) (x y:Value),l[i]?=some x->U[i]?=some y->VR S x y)->AR (VR S) cs a ->
  AR (VR S) ((l.zipIdx k).foldl (λcs x=>cs.setIfInBounds (off+x.2) x.1) cs) ((U.zipIdx k).foldl (λcs (x:Value × Nat)=>cs.setIfInBounds (off+x.2) x.1) a)
 | [],[],k,cs,a,_,_,h=>by simpa using h
 | x::l,y::U,k,cs,a,hl,hr,h=>by simp only[List.zipIdx_cons,List.foldl_cons];exact Di off l U (k+1) _ _ gq (λi x y b c=>hr (i+1) x y gq gq)<|h.set (hr 0 x y Y Y) _
 | [],_::_,_,_,_,hl,_,_=>by simp at hl
 | _::_,[],_,_,_,hl,_,_=>by simp at hl
theorem su:∀(ps b:List (Nat × Value)) (cs a c:Aq),AR (VR S) cs a->PR S ps b->Instr.fill place cs ps=some c->∃d,Instr.fill place a b=some d/\AR (VR S) c d
 | [],[],cs,a,c,h,_,U=>by simp[Instr.fill] at U |-;subst U;exact h
 | (i,x)::ps,(j,y)::b,cs,a,c,h,⟨e,hx,hp⟩,U=>by
  subst e;unfold Instr.fill at U |-;split at U
  .cases U
  .next off size a0 =>
   have hc:=hx.cells;rw[<-hc.1,<-h.1];split at U
   .cases U
   .next f =>
    rw[iw f];refine su ps b _ _ c ?_ hp U
    have:=Di off x.cells.toList y.cells.toList 0 cs a (by simp[hc.1]) (λi u k l g=>hc.2 i u k gq gq) h;rw[<-Array.foldl_toList,<-Array.foldl_toList,Array.toList_zipIdx,Array.toList_zipIdx];exact this
 | [],_::_,_,_,_,_,h,_=>h.elim
 | _::_,[],_,_,_,_,h,_=>h.elim
theorem uv:∀(ps:List (Nat × Operand)),(∀x∈ps.map (·.2),VR S (aA.at x)<|a.eval x)->PR S (ps.map λ(i,x)=>(i,aA.at x)) (ps.map λ(i,x)=>(i,a.eval x))
 | [],_=>trivial
 | (i,x)::ps,h=>⟨Y,h x iq,uv ps λy U=>h y gq⟩
theorem gQ{c:Aq}(h:c.toList.all eW=true):AR (VR S) c c:=by refine⟨Y,λi x y a U=>?_⟩;rw[a] at U;cases U;rw[aT] at h;exact bD<|h x gq
def Je{c:Aq}(a:oJ P t=true)(i:PR S ps YO)(h:P.built t ps=some c):∃g,P.built t YO=some g/\AR (VR S) c g:=by
 unfold Program.built at h |-;unfold oJ at a;split at h
 .next j n e b f =>
  rw[b] at a;try simp only[b,f]
  split at h
  .next z k h1 h2 =>
   simp only[h1] at a;try simp only[h1,h2]
   exact su _ _ _ _ c (gQ a) i h
  .cases h
 .next j d b f =>
  rw[b] at a;try simp only[b,f]
  split at h
  .next z l h1 h2 =>
   simp only[h1] at a;try simp only[h1,h2]
   exact su _ _ _ _ c (gQ a) i h
  .cases h
 .cases h
theorem D4(f:gh S aA a o)(h:cI P aA o=some v):∃g,VR S v g/\∀w,(execOp a.eval o).run P w=.ok (.value g) w/\(execOp a.eval o).events P w #[]=#[]:=by
 by_cases j:∃t b,o.op=.build t b
 .obtain⟨t,b,U⟩:=j;unfold cI at h;rw[U] at h;simp only at h;split at h
  .cases h
  .next k =>
   have k:oJ P t=true:=by simp_all
   split at h
   .next c l =>
    cases h;unfold gh at f;rw[U] at f;obtain⟨d,h1,h2⟩:=Je k (by simpa using uv b.toList λx m=>f x<|by simpa[Op.operands] using m) l;have h1:P.built t (b.map λ(i,x)=>(i,a.eval x)).toList=some d:=by simp_all
    refine⟨_,mv h2,λw=>⟨?_,?_⟩⟩
    .simp[execOp,U,run_build w t _ d h1]
    .simp[execOp,U,run_build w t _ d h1,lx w t _ d h1]
   .cases h
 .obtain⟨g,h1,h2⟩:=BH f (λt b e=>j ⟨t,b,e⟩) h;exact⟨g,h1,λw=>mE h2 w #[]⟩
structure Cy{ι:Type}(P:Program)(KT:TypeId->Prop)(N0:ι->Nat)(M:ι->World->Nat->Prop)(O:ι->Nat->Prop)(R:ι->World->World->Prop)(D:ι->World->World->Array Event->Prop)(X:ι->Goroutine->World->Prop)(Hd:ι->List (Nat × Obj)->World->Prop):Prop where
 C:cG P true R D X
 T:∀i,Terms (R i) (D i)
 ne:∀ g bL,mc P (.func g)=true->P.funcs[g]?=some bL->(bL.name == "runtime.NumGoroutine")=false/\Extern.findNext bL=none/\Extern.find bL=some Extern.AbiNoEscape.same
 Z:∀{i l w},Hd i l w->Co KT (N0 i) (M i) (O i) (R i) (D i) (Hd i)
variable {fn:FuncId}{w:World}{s':AS}{fr:Hq}{ops:Array Oper}{j:Nat}{rest:List Nat}
variable {N0:ι->Nat}{M:ι->World->Nat->Prop}{O:ι->Nat->Prop}{R:ι->Wq}{D:ι->World->World->Array Event->Prop}{X:ι->Gq}{Hd:ι->Hq->World->Prop}
def Out (P:Program)(KT:TypeId->Prop)(An:eN)(Hd:ι->Hq->World->Prop)(S:eN)(s s':AS)(fr:Hq)(v:Value)(K:ι->Value->World->Prop):Prop :=
 ∀i' S' l' w' v',S.le S'->(∀b,b<s.nx\/s'.nx<=b->S' b=S b)->gz P KT An S' s' l'->Hd i' (l'++fr) w'->VR S' v v'->K i' v' w'
def xv(Y:Cy P KT N0 M O R D X Hd)(m:ops[j]?=some o)(n:Region.wanted o (yielded ops a.tmps)=true)(d:gh S aA a o)(g:gz P KT An S s l)(e:Hd i (l++fr) w)(h:cI P aA o=some v)
 (k:Out P KT An Hd S s s fr v λp c q=>cP X fn ops rest p Q (a.put o.dst c) q):cP X fn ops (j::rest) i Q a w:=by have⟨c,h1,h2⟩:=D4 d h;refine dQ Y.C Y.T m n λb K f=>?_;rw[(h2 b).1];exact f _ (k i S l w c (aQ S) (λ_ _=>I) g e h1) (h2 b).2
theorem gz.at(U:gz P KT An S s l)(f:s.get b=some ob)(h:S b=some (g,z,e)):∃k a,l[k]?=some (g,a)/\k<l.length/\(l++fr)[k]?=some (g,a)/\OR S z ob a/\∀c t d,ob=.cells c t d->cz P t=some e/\¬KT t:=by have⟨j,o,i,a,h1,h2,h3,m⟩:=U.live b ob f;rw[h] at h1;cases h1;have⟨k,n⟩:=List.mem_iff_getElem?.1 h2;grind
theorem Ii(Y:Cy P KT N0 M O R D X Hd)(K:ops[j]?=some o)(L:Region.wanted o (yielded ops a.tmps)=true){x:Operand}(E:o.op=.load t x)(H:gh S aA a o)(y:gz P KT An S s l)(q:Hd i (l++fr) w)(h:bV P t (aA.at x) s=some v)
 (k:Out P KT An Hd S s s fr v λi' v' p=>cP X fn ops rest i' Q (a.put o.dst v') p):cP X fn ops (j::rest) i Q a w:=by
 unfold gh at H;rw[E] at H;have V:=H x (by simp[Op.operands]);unfold bV at h;split at h
 .next b f hp =>
  rw[hp] at V;have⟨g,z,e,h1,h2⟩:=V.ptr;split at h
  .next cs ty fz I =>
   have⟨F,o',hk,W,B,G,a7⟩:=y.at (fr:=fr) I h1;obtain⟨r,rfl,hz,⟨Cn,hex⟩,c⟩:=G;split at h
   .next d A =>
    split at h
    .next J =>
     split at h
     .next n T =>
      split at h
      .next a9 =>
       cases h;refine yI Y.C (Y.Z q) F (cs:=(r.toList.drop f).take n) K L E h2 A J (by unfold cz at T;rw[T];simp;omega) q B ?_ λp U=>k i S l p _ (aQ S) (λ_ _=>rfl) y U<|mv ?_
       .grind
       .refine⟨by simp;omega,λm u u' A aa=>?_⟩;grind
      .cases h
     .cases h
    .next J =>
     have N:f<r.size:=gq
     refine og Y.C (Y.Z q) F K L E h2 A gq q B (gF N) λp U=>k i S l p _ (aQ S) (λ_ _=>rfl) y U<|c f v _ h<|gF N
   .cases h
  .next ty cs q1 q2 q3 q4 I =>
   have⟨F,o',hk,W,B,G,a7⟩:=y.at (fr:=fr) I h1;cases G;split at h
   .next d A =>
    split at h
    .cases h
    .next J =>
     split at h
     .next v0 a8 =>
      split at h
      .next a6 =>cases h;exact og Y.C (Y.Z q) F K L E h2 A gq q B a8 λp U=>k i S l p _ (aQ S) (λ_ _=>rfl) y U<|bD a6
      .cases h
     .cases h
   .cases h
  .cases h
 .cases h
theorem gz.xX(U:gz P KT An S s l){k:Nat}(o:s.get b=some ob)(p:S b=some (g,z,e))(q:l[k]?=some (g,o'))(F:(l.map Prod.fst).Nodup)(w:OR S z RA Rz)(y:∀A t B,RA=.cells A t B->cz P t=some e/\¬KT t):gz P KT An S (s.set b<|some RA) (l.set k (g,Rz)) where
 live b' o1 h1:=by
  rw[AS.aN] at h1
  have u:=(gS.1 q).1
  split at h1
  .
   next a =>
   subst a
   cases h1
   exact⟨g,z,e,Rz,p,List.mem_iff_getElem?.2 ⟨k,by simp[u]⟩,w,y⟩
  .
   next v =>
   have⟨C,E,a,c,h2,h3,d,i⟩:=U.live b' o1 h1
   refine⟨C,E,a,c,h2,?_,d,i⟩
   have⟨m,j⟩:=List.mem_iff_getElem?.1 h3
   refine List.mem_iff_getElem?.2 ⟨m,?_⟩
   rw[List.getElem?_set]
   split
   .
    next r =>
    subst r
    rw[q] at j
    cases j
    exact absurd (U.inj b' b o1 ob _ _ h1 o h2 p Y) v
   .
    exact j
 inj k k' o1 o2 x x' h1 h2 hx Dq he:=by
  rw[AS.aN] at h1 h2
  have f:∀{m:Nat} {c:Obj},(if m=b then some RA else s.get m)=some c->∃n,s.get m=some n:=λ{m c} h=>gq
  have⟨n,d⟩:=f h1
  have⟨D,i⟩:=f h2
  exact U.inj k k' n D x x' d i hx Dq he
 lt k o1 h1:=by
  rw[AS.aN] at h1
  split at h1
  .
   next a=>subst a;exact U.lt _ _ o
  .
   exact U.lt k o1 h1
 an:=U.an
theorem Cy.Bn(Y:Cy P KT N0 M O R D X Hd)(U:Hd i (l++fr) w):(l.map Prod.fst).Nodup:=by have:=(Y.Z U).nodup U;grind
theorem z5{xs ys:Vq}(h:qG.size=z)(d:cs.size<=z)(c:∀(i:Nat) (x y:Value),cs[i]?=some x->qG[i]?=some y->VR S x y)(f:xs.length=ys.length)(g:∀(i:Nat) (x y:Value),xs[i]?=some x->ys[i]?=some y->VR S x y)(e:off+xs.length<=cs.size) :
  (putAt qG off ys).size=z/\(putAt cs off xs).size<=z/\∀(i:Nat) (x y:Value),(putAt cs off xs)[i]?=some x->(putAt qG off ys)[i]?=some y->VR S x y:=by
 refine⟨by simp[putAt];omega,by simp[putAt];omega,λm x y U a=>?_⟩;simp only[putAt,LY,vt] at U a;rw[List.getElem?_append] at U a;have e1:(cs.toList.take off).length=off:=by simp;omega
 have b:(qG.toList.take off).length=off:=by simp;omega
 rw[e1] at U;rw[b] at a;split at U
 .grind
 .grind
theorem MW(Y:Cy P KT N0 M O R D X Hd)(ho:ops[j]?=some o)(hw:Region.wanted o (yielded ops a.tmps)=true){x y:Operand}(H:o.op=.store t x y)(p:gh S aA a o)(K:gz P KT An S s l)(r:Hd i (l++fr) w)(h:ly P t (aA.at x) (aA.at y) s=some s')
 (k:Out P KT An Hd S s s' fr undef λi' v' F=>cP X fn ops rest i' Q (a.put o.dst v') F):cP X fn ops (j::rest) i Q a w:=by
 unfold gh at p;rw[H] at p;have T:=p x (by simp[Op.operands]);have hy:=p y (by simp[Op.operands]);unfold ly at h;split at h
 .next b off hp =>
  rw[hp] at T;have⟨g,z,e,h1,h2⟩:=T.ptr;split at h
  .next cs V J L =>
   have⟨kk,o',hk,a5,W,a6,I⟩:=K.at (fr:=fr) L h1;obtain⟨q,rfl,hz,⟨B,v⟩,d⟩:=a6;split at h
   .next hc =>
    have⟨G,a7,a8⟩:=hc;cases h;have c:=hy.cells;have n:∀u∈(a.eval y).cells.toList,u.oneCell'=true:=by
     intro u N;have⟨m,hm⟩:=List.mem_iff_getElem?.1 N;have E:m<(aA.at y).cells.size:=by rw[c.1];have:=(gS.1 hm).1;simpa using this
     have:=c.2 m _ u (gF E) gq;rw[this.Ib];grind
    have U:=z5 (S:=S) (xs:=(aA.at y).cells.toList) (ys:=(a.eval y).cells.toList) (off:=off) hz B d (by simp[c.1]) (λm u u' N hu'=>c.2 m u u' gq gq) gq;refine ve Y.C (Y.Z r) (cs:=(a.eval y).cells.toList) (cur':=putAt q off (a.eval y).cells.toList) kk ho hw H h2 iq ?_ n (I cs V J rfl).2 r W ?_ rfl λF f=>?_
    .unfold cz at G;rw[G];simp[c.1]
    .simp;rw[<-c.1];omega
    rw[List.set_append_left _ _ a5] at f;refine k i S _ F undef (aQ S) (λ_ _=>rfl) (K.xX L h1 hk (Y.Bn r) ⟨_,rfl,U.1,⟨U.2.1,λA=>by have:=v A;simp[putAt];omega⟩,U.2.2⟩ λcs1 t1 fz1 he=>?_) f fx;cases he;exact I cs V J rfl
   .cases h
  .cases h
 .cases h
def zA(off:Nat):∀(l:List (Value × Nat)) (cs:Aq),(l.foldl (λcs (x:Value × Nat)=>cs.setIfInBounds (off+x.2) x.1) cs).size=cs.size
 | [],cs=>rfl
 | x::l,cs=>by simp only[List.foldl_cons];rw[zA off l];simp
def zw:∀(ps:List (Nat × Value)) (cs c:Aq),Instr.fill place cs ps=some c->c.size=cs.size
 | [],cs,c,h=>by simp[Instr.fill] at h;rw[h]
 | (i,x)::ps,cs,c,h=>by
  unfold Instr.fill at h;split at h
  .cases h
  .split at h
   .cases h
   .rw[zw ps _ c h,<-Array.foldl_toList];exact zA _ _ _
theorem GN{e:TypeId}{c:Aq}(U:oJ P e=true)(l:PR S ps YO)(h:sliced P e len ps=some c):∃a g,sliced P e len YO=some a/\AR (VR S) c a/\cz P e=some g/\c.size=len*g:=by
 unfold sliced at h |-;unfold oJ at U;split at h
 .next f b =>
  simp only[b] at U;split at h
  .next z j =>
   simp only[j] at U;split at h
   .cases h
   .next n =>
    have i:((Array.range<|len*f.size).map (z.cells[· % z.cells.size]!)).toList.all eW=true:=by
     rw[aT];intro x d;simp only[Array.toList_map,List.mem_map] at d;obtain⟨m,_,rfl⟩:=d;rw[aT] at U;by_cases k:m % z.cells.size<z.cells.size
     .grind
     .rw[getElem!_neg z.cells _ k];rfl
    have⟨a,h1,h2⟩:=su ps YO _ _ c (gQ i) l h;refine⟨a,f.size,?_,h2,by simp[cz,b],?_⟩
    .grind
    .rw[zw _ _ _ h];simp
  .cases h
 .cases h
section
variable {kt:TypeId->Bool}
def DT(C:cG P true R D X)(Z:Co KT (N0 i) (M i) (O i) (R i) (D i) (Hd i)){x:Operand}{str:ByteArray}(u:ops[j]?=some o)(z:Region.wanted o (yielded ops a.tmps)=true)(f:o.op=.range t x)(m:P.underlying t=some .string)(n:a.eval x=.string str)(v:¬KT (1000+str.size))
 (q:Hd i l w)(h:∀b p,Hd i ((b,.stringIter str 0)::l) p->cP X fn ops rest i Q (a.put o.dst<|.pointer<|sq b) p):cP X fn ops (j::rest) i Q a w:=by
 refine aM C u z λc s K r=>?_;have d:=Z.rely q s;have k:Own KT (M i) c (c.alloc<|.stringIter str 0):=yh v;have y:(execOp a.eval o).run P c=.ok (.value<|.pointer<|sq c.heap.size) (c.alloc<|.stringIter str 0):=by simp[execOp,f,n,Kg m]
 have g:(execOp a.eval o).events P c #[]=#[]:=by simp[execOp,f,n,A5 m]
 rw[y];refine r _ _ ⟨?_,h _ _<|Z.grown d k⟩;rw[listed_nil g];exact Z.env.kZ (Z.size d) k<|λe g=>by simp at g
def rO{fz:Nat × Nat}(h:AR (VR S) cs qG):OR S qG.size (.cells cs t fz) (.cells qG t):=⟨qG,Y,Y,⟨by rw[h.1];exact lr,λ_=>h.1⟩,h.2⟩
theorem F4(C:cG P true R D X)(Z:Co KT (N0 i) (M i) (O i) (R i) (D i) (Hd i)){e:TypeId}{x y:Operand}{U:TypeInfo}{z:Value}(W:ops[j]?=some o)(hw:Region.wanted o (yielded ops a.tmps)=true)(s:o.op=.makeSlice t x y)(g:P.underlying t=some (.slice e))(hi:P.info? e=some U)(B:U.zero=some z)(v:a.eval x=.int .i64 (n:Int))(A:a.eval y=.int .i64 (n:Int))(a6:0<n)(V:n<=1000000000)(N:U.bytes<=1000)(q:¬KT e)
 (I:Hd i l w)(h:∀b F,Hd i ((b,.cells (madeCells z.cells<|n*U.size) e)::l) F->cP X fn ops rest i Q (a.put o.dst<|.slice (sq b) n n) F):cP X fn ops (j::rest) i Q a w:=by
 refine aM C W hw λc L K J=>?_;have d:=Z.rely I L;have u:Own KT (M i) c (c.alloc<|.cells (madeCells z.cells<|n*U.size) e):=eB q;have S:U.bytes*n<=1000*1000000000:=Nat.mul_le_mul N V;have T:(U.bytes:Int)*(n:Int)<=281474976710656:=gq
 have p:IntKind.i64.wrap (n:Int)=n:=by rw[IntKind.wrap_i64];omega
 have k:¬(n:Int)<0:=oq
 have m:¬(281474976710656<(U.bytes:Int)*(n:Int)):=oq
 have E:¬(n*U.bytes>140737488355328):=gq
 have r:(Instr.makeSlice t (.int .i64 (n:Int))<|.int .i64 (n:Int)).run P c=.ok (.slice (sq c.heap.size) n n) (c.alloc<|.cells (madeCells z.cells<|n*U.size) e):=by
  by_cases f:n*U.size=0
  .simp[Instr.makeSlice,run_underlying g,asInt,asIntOf,typeInfo,hi,sizeOf,p,k,m,f,newRow,madeCells,Array.range_zero']
  .simp[Instr.makeSlice,run_underlying g,asInt,asIntOf,typeInfo,hi,sizeOf,zeroValue,B,p,k,m,f,newRow,madeCells]
 have H:(Instr.makeSlice t (.int .i64 (n:Int))<|.int .i64 (n:Int)).events P c #[]=#[]:=by
  by_cases f:n*U.size=0
  .simp[Instr.makeSlice,underlying,g,asInt,asIntOf,typeInfo,hi,sizeOf,p,k,m,f,newRow,askRoom,roomBytes,E]
  .simp[Instr.makeSlice,underlying,g,asInt,asIntOf,typeInfo,hi,sizeOf,zeroValue,B,p,k,m,newRow,askRoom,roomBytes,E]
 have Y:(execOp a.eval o).run P c=.ok (.value<|.slice (sq c.heap.size) n n) (c.alloc<|.cells (madeCells z.cells<|n*U.size) e):=by unfold execOp;simp only[s,v,A,Sem.run_bind,r,Result.andThen_ok,Sem.run_pure]
 have G:(execOp a.eval o).events P c #[]=#[]:=by unfold execOp;simp only[s,v,A,Sem.events_bind,r,H,Result.evThen_ok,Sem.events_pure]
 rw[Y];refine J _ _ ⟨?_,h _ _<|Z.grown d u⟩;rw[listed_nil G];exact Z.env.kZ (Z.size d) u<|λe q=>by simp at q
theorem Pq{z:Aq}(h:z.toList.all eW=true)(n:Nat):(madeCells z n).toList.all eW=true:=by
 rw[aT];intro x U;simp only[madeCells,Array.toList_map,List.mem_map] at U;obtain⟨m,_,rfl⟩:=U;rw[aT] at h;by_cases a:m % z.size<z.size
 .grind
 .rw[getElem!_neg z _ a];rfl
theorem MT(Y:Cy P KT N0 M O R D X Hd)(u:∀t,kt t=false->¬KT t)(J:ops[j]?=some o)(N:Region.wanted o (yielded ops a.tmps)=true)(q:gh S aA a o)(r:Hd i l w){mk:Nq}(h:wR P kt aA o=some (ob,mk))
 (k:∀g z e o' d v',Hd i ((g,o')::l) d->(∀f G,S.le f->f G=some (g,z,e)->OR f z ob o'/\VR f (mk G) v')->(∀H t fz,ob=.cells H t fz->cz P t=some e/\¬KT t)->cP X fn ops rest i Q (a.put o.dst v') d):cP X fn ops (j::rest) i Q a w:=by
 unfold gh at q;unfold wR at h;split at h
 .next t U =>
  split at h
  .cases h
  .next E =>
   simp only[not_or,Bool.not_eq_false,Bool.not_eq_true] at E;obtain⟨hz,B,K⟩:=E;split at h
   .next z W =>
    cases h;obtain⟨e,he⟩:=Option.ne_none_iff_exists'.1 K;have F:z.cells.toList.all eW=true:=by
     unfold oJ at hz;cases a3:P.info? t with
     | none=>simp[a3] at W
     | some it =>grind
    have a7:∀w,(zeroValue t).run P w=.ok z w:=by
     intro w;have:iy P (zeroValue t)=some z:=by
      unfold zeroValue;simp only[dD,sk];cases a3:P.info? t with
      | none=>simp[a3] at W
      | some it =>
       have:it.zero=some z:=by simp_all
       simp[this]
     exact(mE this w #[]).1
    refine DO Y.C (Y.Z r) J N U a7 rfl (u t B) r λg d s=>k g z.cells.size e _ d _ s (λf G I v=>⟨rO<|gQ F,dj v⟩) λH t' fz b=>?_;cases b;exact⟨he,u _ B⟩
   .cases h
 .next t x U =>
  split at h
  .cases h
  .next E =>simp only[not_or,Bool.not_eq_true] at E;obtain⟨B,K⟩:=E;cases h;obtain⟨e,he⟩:=Option.ne_none_iff_exists'.1 K;rw[U] at q;have A:=(q x<|by simp[Op.operands]).cells;refine JO Y.C (Y.Z r) J N U rfl (u t B) r λg d s=>k g (a.eval x).cells.size e _ d _ s (λf G I v=>⟨rO<|A.mono I,dj v⟩) λH t' fz b=>?_;cases b;exact⟨he,u _ B⟩
 .next t len p U =>
  split at h
  .next e L =>
   split at h
   .cases h
   .next E =>
    simp only[not_or,Bool.not_eq_false,Bool.not_eq_true,Nat.not_lt] at E;obtain⟨hz,B,hl⟩:=E;split at h
    .next c b =>
     cases h;rw[U] at q;obtain⟨c',V,h1,h2,h3,h4⟩:=GN hz (by simpa using uv (S:=S) (aA:=aA) (a:=a) p.toList λx A=>q x<|by simpa[Op.operands] using A) b;have h1:sliced P e len (p.map λ(i,x)=>(i,a.eval x)).toList=some c':=by simp_all
     refine uu Y.C (Y.Z r) J N U L (u e B) h1 r λg d s=>k g c'.size V _ d _ s (λf G I v=>⟨rO<|h2.mono I,kD v (iz _) (iz _) (by simp[maxLen]; omega)<|by rw[<-h2.1,h4]; omega⟩) λH t' fz b=>?_;cases b;exact⟨h3,u _ B⟩
    .cases h
  .cases h
 .next t x U =>
  rw[U] at q;have A:=q x (by simp[Op.operands]);split at h
  .next str L K =>
   split at h
   .cases h
   next hq =>cases h;rw[K] at A;exact DT Y.C (Y.Z r) J N U L (A.sc rfl) (u _<|by simp_all) r λg d s=>k g 0 0 _ d _ s (λf G I v=>⟨rfl,dj v⟩) λH t' fz b=>by cases b
  .cases h
 .next t x y U =>
  rw[U] at q;have A:=q x (by simp[Op.operands]);have hy:=q y (by simp[Op.operands]);split at h
  .next e n m L h1 h2 =>
   rw[h1] at A;rw[h2] at hy;split at h
   .next z V bytes W =>
    split at h
    .next b =>
     obtain⟨rfl,c2,c3,c4,c5,c6⟩:=b;cases h;obtain⟨it,a4,q1,q2,q3⟩:=info_parts W;have F:z.cells.toList.all eW=true:=by unfold oJ at c4;simpa[a4,q1] using c4
     have a6:n=(n.toNat:Int):=oq
     have a5:=A.sc rfl;have T:=hy.sc rfl;rw[a6] at a5 T;refine F4 Y.C (Y.Z r) J N U L a4 q1 a5 T oq oq oq (u e c5) r λg d s=>k g (n.toNat*V) V _ d _ s (λf G I v=>⟨?_,kD v (iz _) (iz _) (by simp[maxLen]; omega) oq⟩) λH t' fz b=>?_
     .rw[q2]
      have:=rO (S:=f) (t:=e) (fz:=(0,0))<|gQ (S:=f)<|Pq F<|n.toNat*V;rw[size_madeCells] at this;exact this
     .cases b;exact⟨by simp[cz,a4,q2],u _ c5⟩
    .cases h
   .cases h
  .cases h
 .cases h
theorem Cy.fresh(Y:Cy P KT N0 M O R D X Hd)(U:Hd i ((g,o')::l++fr) w):∀o,(g,o)∉l:=by
 intro b a
 have:=(Y.Z U).nodup U;grind
theorem PU(Y:Cy P KT N0 M O R D X Hd)(ho:ops[j]?=some o)(hw:Region.wanted o (yielded ops a.tmps)=true){x:Operand}(lz:o.op=.next x true)(hA:gh S aA a o)(hS:gz P KT An S s l)(hF:Hd i (l++fr) w){str:ByteArray}(hx:aA.at x=.pointer (sq b))(hb:s.get b=some (.stringIter str pos))(hq:pos<str.size->¬KT (1000+str.size))
 (k1:pos<str.size->Out P KT An Hd S s (s.set b<|some<|.stringIter str<|pos+(Utf8.decode str pos).2) fr (.tuple #[.bool true,goInt pos,.int .i32 (Utf8.decode str pos).1]) λi' v' w'=>cP X fn ops rest i' Q (a.put o.dst v') w')
 (k0:¬pos<str.size->Out P KT An Hd S s s fr (.tuple #[.bool false]) λi' v' w'=>cP X fn ops rest i' Q (a.put o.dst v') w'):cP X fn ops (j::rest) i Q a w:=by
 unfold gh at hA;rw[lz] at hA;have Dq:=hA x (by simp[Op.operands]);rw[hx] at Dq;have⟨g,z,e,h1,h2⟩:=Dq.ptr;have⟨kk,o',hk,mH,Oj,Om,XT⟩:=hS.at (fr:=fr) hb h1;cases Om;have Z:=Y.Z hF;refine aM Y.C ho hw λaK hR K hK=>?_;have Dl:=Z.rely hF hR;have⟨hm,hg⟩:=Z.own Dl<|mG Oj;by_cases hp:pos<str.size
 .have hO:Own KT (M i) aK { aK with heap:=aK.heap.setIfInBounds g (.stringIter str<|pos+(Utf8.decode str pos).2) }:=Cc (hq hp) hm;have hr:(execOp a.eval o).run P aK=.ok (.value<|.tuple #[.bool true,.int .i64 pos,.int .i32 (Utf8.decode str pos).1]) { aK with heap:=aK.heap.setIfInBounds g (.stringIter str<|pos+(Utf8.decode str pos).2) }:=by simp[execOp,lz,h2,Np hg hp]
  have he:(execOp a.eval o).events P aK #[]=#[⟨.obj g,false,false⟩,⟨.obj g,true,false⟩]:=by simp[execOp,lz,h2,Db hg hp]
  rw[hr];have Rg:=Z.BZ Dl kk Oj hO (o':=.stringIter str<|pos+(Utf8.decode str pos).2) gq (λq hq=>by simp[Ne.symm hq]);rw[List.set_append_left _ _ mH] at Rg;refine hK _ _ ⟨Z.env.kZ (Z.size Dl) hO λev hl=>?_,k1 hp i S _ _ _ (aQ S) (λ_ _=>I) (hS.xX hb h1 hk (Y.Bn hF) I λcs t fz hc=>by cases hc) Rg<|ju<|gQ I⟩;have hl:=mem_listed hl;rw[he] at hl;simp at hl;rcases hl with rfl|rfl
  iterate 2
   .exact .inr<|.inl ⟨g,_,I,Z.env.mine hO hm⟩
 .have hr:(execOp a.eval o).run P aK=.ok (.value<|.tuple #[.bool false]) aK:=by simp[execOp,lz,h2,BJ hg hp]
  have he:(execOp a.eval o).events P aK #[]=#[⟨.obj g,false,false⟩]:=by simp[execOp,lz,h2,vB hg hp]
  rw[hr];refine hK _ _ ⟨Z.env.kZ (Z.size Dl) (fw _) λev hl=>?_,k0 hp i S l aK _ (aQ S) (λ_ _=>I) hS Dl<|ju<|gQ I⟩;have hl:=mem_listed hl;rw[he] at hl;simp at hl;subst hl;exact .inr<|.inl ⟨g,_,I,hm⟩
end
end
section
open Go.Conc Go.RowKit Go.Lib
variable {v:Value}{ops:Array Oper}{o:Oper}{call:FuncId->Aq->AS->Option (Value × AS)}{s s':AS}{ι:Type}{R:ι->Wq}{D:ι->World->World->Array Event->Prop}{X:ι->Gq}{Q:gY ι}{i:ι}
variable {b bt c c' cap cp cy m n off sz:Nat}{lo mx:Option Operand}{hi:Option Value}{e it pt t t' ty u:TypeId}{x y:Operand}{v' x' z:Value}{news us vs xs xsA xsR:Vq}{fz:Nat × Nat}{args cs cur first tmps:Aq}{f:FuncId}{α β:Type}
variable {P:Program}{S:eN}
def lJ{sl:Bool}{l h:Nat}{lo:Option Value}(e:bS n c lo hi=some (l,h))(hc:c<=c')(hn:n<=c):iy P (Instr.sliceBounds sl n c' lo hi none)=some (l,h,c')/\l<=h/\h<=c:=by
 unfold bS at e;split at e
 .split at e
  .cases e;exact⟨by simp[Instr.sliceBounds],Nat.zero_le _,hn⟩
  .next k i =>
   split at e
   .next hi =>cases e;exact⟨by simp[Instr.sliceBounds,Instr.sliceBound,asIntOf,hi],oq,hn⟩
   .cases e
  .cases e
 .next k i =>
  split at e
  .next hi =>
   have h1:0<=i/\i<=c':=oq
   split at e
   .cases e;exact⟨by simp[Instr.sliceBounds,Instr.sliceBound,asIntOf,h1],Nat.zero_le _,oq⟩
   .next k2 i2 =>
    split at e
    .next hi2 =>
     cases e;have h2:0<=i2/\i2<=i.toNat:=oq
     refine⟨?_,oq,oq⟩;simp only[Instr.sliceBounds,Instr.sliceBound,asIntOf,dD,jL,yY,ip h1,ip h2]
    .cases e
   .cases e
  .cases e
 .cases e
def ub{lo:Option Value}{r:Nat × Nat}(e:bS n c lo hi=some r):(∀v,lo=some v->eW v=true)/\(∀v,hi=some v->eW v=true):=by
 unfold bS at e;split at e
 .split at e
  .simp
  .exact⟨λv h=>by cases h;rfl,iq⟩
  .cases e
 .split at e
  .split at e
   .exact⟨iq,λv h=>by cases h;rfl⟩
   .exact⟨λv h=>by cases h;rfl,λv h=>by cases h;rfl⟩
   .cases e
  .cases e
 .cases e
variable {KT:TypeId->Prop}{An:eN}{fn:FuncId}{a:Act}{w:World}{l fr:Hq}{aA:TL}{j:Nat}{rest:List Nat}{kt:TypeId->Bool}
variable {N0:ι->Nat}{M:ι->World->Nat->Prop}{O:ι->Nat->Prop}{Hd:ι->Hq->World->Prop}
def oh(b:∀x,lo=some x->VR S (aA.at x) (a.eval x))(h:∀v,lo.map aA.at=some v->eW v=true):lo.map a.eval=lo.map aA.at:=by
 cases lo with
 | none=>rfl
 | some x=>simp;exact(b x Y).sc (h _ Y)
theorem Ej{hi:Option Operand}(Y:o.op=.slice t x lo hi mx)(G:gh S aA a o)(hS:gz P KT An S s l)(h:jh P t (aA.at x) (lo.map aA.at) (hi.map aA.at) (mx.map aA.at) s=some v):∃v',VR S v v'/\iy P (execOp a.eval o)=some (.value v'):=by
 unfold gh at G;rw[Y] at G;have D:=G x (by simp[Op.operands]);have A:∀y,lo=some y->VR S (aA.at y) (a.eval y):=λy N=>G y (by simp[Op.operands,N]);have w:∀y,hi=some y->VR S (aA.at y) (a.eval y):=λy N=>G y (by simp[Op.operands,N]);have T:∀y,mx=some y->VR S (aA.at y) (a.eval y):=λy N=>G y (by simp[Op.operands,N]);have m:∀d,P.underlying t=some d->(∀n e,d≠.array n e)->iy P (execOp a.eval o)=(iy P<|Instr.slice t (a.eval x) (lo.map a.eval) (hi.map a.eval)<|mx.map a.eval).map .value:=λd q hd=>by simp only[execOp,Y,Instr.sliceAt,dD,dW,q,yY];cases d<;>first|exact absurd rfl (hd _ _)|(cases iy P _<;>rfl)
 unfold jh at h;split at h
 .next e b j n c q u C =>
  rw[u] at D;have⟨g,z,E,B,h1,h2,h3,Z,h5,h6⟩:=D.sl;split at h
  .next X cs bt fz M hb =>
   split at h
   .next Q =>
    subst Q;split at h
    .next f H U =>
     have⟨J,K⟩:=ub U;have⟨p,L,F⟩:=lJ (P:=P) (sl:=true) U Z h3;have⟨g',z',e2,W,h7,_,_,h8⟩:=hS.live b _ hb;rw[h1] at h7;cases h7;have R:E=X:=gq
     subst R;have I:mx=none:=by cases mx with
      | none=>rfl
      | some y=>simp at C
     have i:=m _ q iq;rw[I,h2,oh A J,oh w K] at i;simp only[Option.map_none,Instr.slice,dD,dW,q,yY,p,n6,M,jL,Option.map_some] at i;split at h
     .next a9 =>
      cases h;have a7:B≠f:=oq
      rw[iw a7,Addr.add_lit] at i;refine⟨.slice (some ⟨g,j+f*E,none⟩) (H-f)<|B-f,kD h1 oq oq oq ?_,i⟩;rw[<-h6,Nat.sub_mul];have:f*E<=B*E:=Nat.mul_le_mul_right _ oq;omega
     .split at h
      .next a6 =>
       cases h;subst a6;have:∃W,(Value.slice (if B=f then some (⟨g,j,none⟩:Addr) else some ((⟨g,j,none⟩:Addr).add<|f*E)) (f-f)<|B-f)=.slice (some ⟨g,W,none⟩) 0 (B-f):=by
        split
        .exact⟨j,iq⟩
        .exact⟨j+f*E,by simp[Addr.add_lit]⟩
       have⟨W,a8⟩:=this;rw[a8] at i;exact⟨_,tJ h1 oq oq,i⟩
      .cases h
    .cases h
   .cases h
  .cases h
 .next e b j n c k q u C =>
  rw[u] at D;have⟨g,z,E,B,h1,h2,h3,Z,h5,h6⟩:=D.sl;split at h
  .next X k2 M hl hh =>
   cases h;have i:=m _ q iq;rw[h2,oh A<|by rw[hl];simp,oh w<|by rw[hh];intro v u;cases u;rfl,oh T<|by rw[C];intro v u;cases u;rfl,hl,hh,C] at i;refine⟨.slice (some ⟨g,j,none⟩) 0 0,tJ h1 iq<|by simp[maxLen],?_⟩;rw[i];have O:(0:Int)<=0/\(0:Int)<=(B:Int):=oq
   have a5:(0:Int)<=0/\(0:Int)<=(((0:Int).toNat:Nat):Int):=iq
   simp only[Instr.slice,dD,dW,q,yY,Instr.sliceBounds,Instr.sliceBound,asIntOf,jL,ip O,ip a5,n6,M];simp
  .cases h
 .next str q u C =>
  rw[u] at D;split at h
  .next f H U =>
   cases h;have⟨J,K⟩:=ub U;have⟨p,L,F⟩:=lJ (P:=P) (sl:=false) U lr lr;have I:mx=none:=by cases mx with
    | none=>rfl
    | some y=>simp at C
   have i:=m _ q iq;have V:l7 str.data.toList 0=str.size:=by rw[kF,Nat.zero_add,KO];rfl
   rw[V] at p F;rw[I,D.sc rfl,oh A J,oh w K] at i;refine⟨_,bD rfl,?_⟩;rw[i];have Q:(⟨((str.data.toList.take H).drop f).toArray⟩:ByteArray)=str.extract f H:=by apply qZ;simp[ByteArray.data_extract,List.drop_take]
   rw[Q];simp[Instr.slice,q,p]
  .cases h
 .next e q u C =>
  rw[u] at D;split at h
  .next X r M U =>
   cases h;have⟨f,H⟩:=r;have⟨J,K⟩:=ub U;have⟨p,L,F⟩:=lJ (P:=P) (sl:=true) U lr lr;have I:mx=none:=by cases mx with
    | none=>rfl
    | some y=>simp at C
   have i:=m _ q iq;rw[I,D.sc rfl,oh A J,oh w K] at i;refine⟨_,bD rfl,?_⟩;rw[i];have O:H=0:=oq
   have h1:f=0:=oq
   subst O h1;simp[Instr.slice,q,p,M]
  .cases h
 .cases h
variable {rl:Hq}
section
variable {H:Hq->World->Prop}
theorem mY(C:cG P true R D X)(Z:Co KT (N0 i) (M i) (O i) (R i) (D i) H){bytes:Nat}(k:Nat)(ho:ops[j]?=some o)(hw:Region.wanted o (yielded ops a.tmps)=true)(F:o.op=.call { callee:=.builtin .append,args:=#[x,y],argTypes:=#[t,t] })
 (E:∀w,(Builtin.append_ #[t,t] o.type #[a.eval x,.slice (some ⟨bt,off,none⟩) m c]).run P w=(Builtin.append_ #[t,t] o.type #[v,.slice (some ⟨bt,off,none⟩) m c]).run P w/\(Builtin.append_ #[t,t] o.type #[a.eval x,.slice (some ⟨bt,off,none⟩) m c]).events P w #[]=(Builtin.append_ #[t,t] o.type #[v,.slice (some ⟨bt,off,none⟩) m c]).events P w #[])(G:a.eval y=.slice (some ⟨bt,off,none⟩) m c)(he:¬KT e)(ht:P.underlying t=some (.slice e))(hi:(P.info? e).map (λi=>(i.zero,i.size,i.bytes))=some (some z,sz,bytes))(hz:z.cells.size=sz)(N:0<sz)(hm:0<m)(r:news.length=m*sz)(h1:∀u∈news,u.oneCell'=true)(hn:n+m<=maxLen)(J:(n+m)*bytes<=140737488355328)
 (S:H (rl++l) w)(hk:l[k]?=some (bt,.cells cur t' fz))(I:∀j u,news[j]?=some u->cur[off+j]?=some u)(hr:kV e sz v n xs rl)
 (h:∀q U g,H (U++l) g->oz e sz q (n+m) (xs++news) U->cP X fn ops rest i Q (a.put o.dst q) g):cP X fn ops (j::rest) i Q a w:=by
 refine aM C ho hw λb W K T=>?_;have d:=Z.rely S W;have p:(bt,Obj.cells cur t' fz)∈rl++l:=MC _<|List.mem_of_getElem? hk;obtain⟨A,Y⟩:=Z.own d p;obtain⟨q,g,U,f,s,B,V,_,_,FG,_⟩:=Cb (l:=[]) Z.env he (by simpa using(Z.hl d).left.ol) hr t o.type z bytes ht hi hz N ⟨bt,off,none⟩ m c hm r (λj u hu=>by rw[Addr.add_lit]; simp[World.cell?,Y,I j u hu]) A h1 hn J
 .have s:HL (M i) (O i) (N0 i) (mW rl) b U g:=by simpa using s
  have L:(execOp a.eval o).run P b=.ok (.value q) g:=by unfold execOp;simp only[F,resolve,invoke,builtin,Sem.run_bind,Sem.run_pure,Result.andThen_ok,List.map_toArray,rj,List.map_nil,G,(E b).1,f]
  have a7:(execOp a.eval o).events P b #[]=(Builtin.append_ #[t,t] o.type #[v,.slice (some ⟨bt,off,none⟩) m c]).events P b #[]:=by unfold execOp;simp only[F,resolve,invoke,builtin,Sem.events_bind,Sem.run_pure,Sem.events_pure,Result.evThen_ok,List.map_toArray,rj,List.map_nil,G,(E b).1,(E b).2,f]
  rw[L];refine T _ _ ⟨Z.env.kZ (Z.size d) V λev r=>?_,h q U g (Z.call d s) B⟩;have r:=mem_listed r;grind
theorem pI(C:cG P true R D X)(Z:Co KT (N0 i) (M i) (O i) (R i) (D i) H){str:ByteArray}(S:ops[j]?=some o)(Y:Region.wanted o (yielded ops a.tmps)=true)(r:o.op=.call { callee:=.builtin .append,args:=#[x,y],argTypes:=#[t,u] })
 (s:a.eval x=v)(z:a.eval y=.string str)(L:¬KT e)(V:P.underlying t=some (.slice e))(W:P.underlying u=some .string)(hi:(P.info? e).map (λi=>(i.zero,i.size,i.bytes))=some (some<|.int .u8 0,1,1))(N:n+str.size<=140737488355328)
 (F:H (rl++l) w)(T:kV e 1 v n xs rl)
 (h:∀k U f,H (U++l) f->kV e 1 k (n+str.size) (xs++strCells str) U->cP X fn ops rest i Q (a.put o.dst k) f):cP X fn ops (j::rest) i Q a w:=by
 refine aM C S Y λc J K G=>?_;have b:=Z.rely F J;obtain⟨k,f,U,d,g,⟨q,_⟩,I,_,_,p⟩:=vJ (l:=[]) Z.env L (by simpa using(Z.hl b).left.ol) T t u o.type V W hi str N;have g:HL (M i) (O i) (N0 i) (mW rl) c U f:=gq
 have B:(execOp a.eval o).run P c=.ok (.value k) f:=by unfold execOp;simp only[r,resolve,invoke,builtin,Sem.run_bind,Sem.run_pure,Result.andThen_ok,List.map_toArray,rj,List.map_nil,s,z,d]
 have A:(execOp a.eval o).events P c #[]=(Builtin.append_ #[t,u] o.type #[v,.string str]).events P c #[]:=by unfold execOp;simp only[r,resolve,invoke,builtin,Sem.events_bind,Sem.run_pure,Sem.events_pure,Result.evThen_ok,List.map_toArray,rj,List.map_nil,s,z,d]
 rw[B];refine G _ _ ⟨Z.env.kZ (Z.size b) I λE m=>?_,h k U f (Z.call b g) q⟩;have m:=mem_listed m;rw[A] at m;exact p E m
theorem gz.erased(U:gz P KT An S s l){g z e k:Nat}{o':Obj}(p:S b=some (g,z,e))(o:s.get b≠none)(q:l[k]?=some (g,o')):gz P KT An S (s.set b none) (l.eraseIdx k) where
 live b' o1 h1:=by
  rw[AS.aN] at h1
  split at h1
  .
   cases h1
  .
   next d =>
   have⟨a,t,h,c,h2,h3,j,n⟩:=U.live b' o1 h1
   refine⟨a,t,h,c,h2,?_,j,n⟩
   have⟨r,f⟩:=Option.ne_none_iff_exists'.1 o
   have u:a≠g:=λi=>d<|U.inj b' b o1 r _ _ h1 f h2 p i
   have v:=(oj q).mem_iff.2 h3
   grind
 inj m m' o1 o2 x x' h1 h2:=by
  rw[AS.aN] at h1 h2
  split at h1
  .
   cases h1
  .
   split at h2
   .
    cases h2
   .
    exact U.inj m m' o1 o2 x x' h1 h2
 lt m o1 h1:=by
  rw[AS.aN] at h1
  split at h1
  .
   cases h1
  .
   exact U.lt m o1 h1
 an:=U.an
theorem nt(Y:Cy P KT N0 M O R D X Hd)(u:gz P KT An S s l){h:Hq}(B:0<n)(C:0<sz)(r:Hd i (h++(l++fr)) w)(z:kV e sz v' n xsR h)(c:S s.nx=none)(o:cz P e=some sz)(q:¬KT e)(U:xsA.length=n*sz)
 (k:∀(m:Nat) (x y:Value),xsA[m]?=some x->xsR[m]?=some y->VR S x y):∃a j,S.le a/\(∀b,b<s.nx\/s.nx+1<=b->a b=S b)/\gz P KT An a (s.add<|.cells xsA.toArray e (1,1)) j/\Hd i (j++fr) w/\VR a (.slice (sq s.nx) n n) v':=by
 rcases z.2 with ⟨_,h0,_⟩|⟨g,cap,cur,rfl,rfl,h1,h2,h3,h4⟩
 .omega
 have f:=r;have d:OR (S.put s.nx (g,cur.size,sz)) cur.size (.cells xsA.toArray e (1,1)) (.cells cur e):=by
  refine⟨cur,W,W,⟨?_,λp=>by cases p⟩,λm x y A I=>?_⟩
  .simp;rw[U,h3];exact Nat.mul_le_mul_right _ h1
  .have H:m<n*sz:=by rw[<-U];have:=(oF.1 A).1;simpa using this
   refine(k m x y gq ?_).mono (eM c);grind
 refine⟨S.put s.nx _,_,eM c,λb G=>?_,u.grown c (Y.fresh f) d λE t F v=>?_,f,kD eS lr h1 h2 gq⟩
 .unfold eN.put;rw[iw oq]
 .cases v;exact⟨o,q⟩
theorem Fc(j:gz P KT An S s l){ad:Addr}(q:VR S (.slice (some ad) n c) v')(h:fC s sz (some ad) n=some xs)(D:0<n) :
  ∃(g c' k:Nat) (U:Aq) (t:TypeId),v'=.slice (some ⟨g,ad.off,none⟩) n c'/\l[k]?=some (g,.cells U t)/\xs.length=n*sz/\ad.off+n*sz<=U.size/\∀(m:Nat) (x y:Value),xs[m]?=some x->((U.toList.drop ad.off).take<|n*sz)[m]?=some y->VR S x y:=by
 obtain⟨g,z,e,r,c',h1,rfl,h3,B,f⟩:=q.m6;have f:r=ad.off:=oq
 subst f;have⟨b,u,sp⟩:=ad;unfold fC at h;simp only at h;split at h
 .next w t A o =>
  split at h
  .next v =>cases h;have⟨F,G,C,p,_,d,_⟩:=j.at (fr:=[]) o h1;obtain⟨U,rfl,E,⟨i,_⟩,a⟩:=d;grind
  .cases h
 .cases h
theorem D8(q:gz P KT An S s l)(B:VR S (.slice (sq b) n c) v')(r:s.get b=some (.cells cs t fz))(w:t=e)(E:cz P e=some sz)(H:n*sz<=cs.size) :
  ∃(g z a k:Nat) (U:Aq),S b=some (g,z,a)/\l[k]?=some (g,.cells U e)/\kV e sz v' n (U.toList.take<|n*sz) [(g,.cells U e)]/\∀(m:Nat) (x y:Value),(cs.toList.take<|n*sz)[m]?=some x->(U.toList.take<|n*sz)[m]?=some y->VR S x y:=by
 subst w;obtain⟨g,z,a,o,h1,rfl,h3,F,p,G⟩:=B.sl;have⟨D,J,u,v,_,h,A⟩:=q.at (fr:=[]) r h1;obtain⟨U,rfl,I,⟨j,_⟩,d⟩:=h;have f:a=sz:=gq
 subst f;refine⟨g,z,a,D,U,h1,u,⟨by simp;omega,.inr ⟨g,o,U,Y,Y,oq,p,oq,Y⟩⟩,λm x y i C=>?_⟩;rw[HA] at i C;split at i
 .grind
 .cases i
theorem G5{ys:Vq}(h1:xs.length=ys.length)(a:∀(m:Nat) (x y:Value),xs[m]?=some x->ys[m]?=some y->VR S x y)(U:∀(m:Nat) (x y:Value),us[m]?=some x->vs[m]?=some y->VR S x y):∀(m:Nat) (x y:Value),(xs++us)[m]?=some x->(ys++vs)[m]?=some y->VR S x y:=gq
theorem PL{ys:Vq}(h1:xs.length=ys.length)(c:∀(m:Nat) (x y:Value),xs[m]?=some x->ys[m]?=some y->VR S x y)(h:xs.all Value.oneCell'=true):∀u∈ys,u.oneCell'=true:=by
 intro u U;have⟨m,b⟩:=List.mem_iff_getElem?.1 U;have d:=(gS.1 b).1;have a:m<xs.length:=oq
 rw[(c m _ u (gE a) b).Ib];grind
section
variable (ht:P.underlying t=some (.slice e))
def CO{a ad:Option Addr}(d:cz P e=some sz)(b:n<=cap):iy P (Builtin.append_ #[t,t] ty #[.slice a n cap,.slice ad 0 c])=some (.slice a n cap):=by unfold Builtin.append_;cases a<;>cases ad<;>simp[ht,d,Builtin.lenOf,Builtin.firstCells,loadCells,loadCellsFrom,storeCells,b]
def CM{bytes:Nat}{p q:Addr}(hi:(P.info? e).map (λi=>(i.zero,i.size,i.bytes))=some (some z,sz,bytes))(d:0<m)(g:m*bytes<=140737488355328)(w:World) :
  (Builtin.append_ #[t,t] ty #[.slice (some p) 0 0,.slice (some q) m c]).run P w=(Builtin.append_ #[t,t] ty #[.slice none 0 0,.slice (some q) m c]).run P w /\
  (Builtin.append_ #[t,t] ty #[.slice (some p) 0 0,.slice (some q) m c]).events P w #[]=(Builtin.append_ #[t,t] ty #[.slice none 0 0,.slice (some q) m c]).events P w #[]:=by
 have⟨h,hi,h1,h2,h3⟩:=info_parts hi;have b:¬Builtin.nextslicecap m 0*bytes>2 ^ 48:=by
  have:Builtin.nextslicecap m 0=m:=by simp[Builtin.nextslicecap,d]
  rw[this];omega
 have f:¬m<=0:=oq
 have a:m≠0:=oq
 unfold Builtin.append_;constructor;iterate 2
  .simp[run_underlying ht,sizeOf,typeInfo,hi,h2,h3,Builtin.lenOf,Builtin.firstCells,loadCells,loadCellsFrom,a,b]
end
end
def Bv(Y:Cy P KT N0 M O R D X Hd)(ho:ops[j]?=some o)(hw:Region.wanted o (yielded ops a.tmps)=true)(hS:gz P KT An S s l)(hF:Hd i (l++fr) w)(h:iy P (execOp a.eval o)=some (.value v'))(hv:VR S v v')
 (k:Out P KT An Hd S s s fr v λi' v' w'=>cP X fn ops rest i' Q (a.put o.dst v') w'):cP X fn ops (j::rest) i Q a w:=by refine dQ Y.C Y.T ho hw λaK K hK=>?_;rw[(mE h aK #[]).1];exact hK _ (k i S l w v' (aQ S) (λ_ _=>I) hS hF hv) (mE h aK #[]).2
def uQ{c:Call}{b:Builtin}{r:Value}(lz:o.op=.call c)(aa8:c.callee=.builtin b)(sw:c.args=#[x,y])(hts:c.argTypes=#[t,u])
 (h:iy P (match b with|.append=>Builtin.append_ #[t,u] o.type #[a.eval x,a.eval y]|_=>Builtin.unsafeString_ #[t,u] o.type #[a.eval x,a.eval y])=some r)(hb:b=.append\/b=.unsafeString):iy P (execOp a.eval o)=some (.value r):=by
 rcases hb with rfl|rfl
 iterate 2
  .simp only at h;simp[execOp,lz,resolve,aa8,invoke,builtin,sw,hts,h]
theorem JM(Y:Cy P KT N0 M O R D X Hd)(a8:∀t,kt t=false->¬KT t)(ho:ops[j]?=some o)(hw:Region.wanted o (yielded ops a.tmps)=true)(aa:o.op=.call { callee:=.builtin .append,args:=#[x,y],argTypes:=#[t,t] })(hA:gh S aA a o)(H:gz P KT An S s l)(N:Hd i (l++fr) w)
 {yy:Option Addr}{bytes:Nat}(b5:aA.at y=.slice yy m cy)(ht:P.underlying t=some (.slice e))(hi:(P.info? e).map (λi=>(i.zero,i.size,i.bytes))=some (some z,sz,bytes))(a6:fC s sz yy m=some news)(hz:z.cells.size=sz)(a9:0<sz)(av:bytes<=1000)(b4:m<=1000000000)(a7:kt e=false)(al:ej (aA.at x) yy=true)(ar:news.all Value.oneCell'=true)
 (h:ce P e (aA.at x) news m s=some (v,s'))(af:∀b,s.nx<=b->b<s'.nx->S b=none)
 (k:Out P KT An Hd S s s' fr v λi' v' w'=>cP X fn ops rest i' Q (a.put o.dst v') w'):cP X fn ops (j::rest) i Q a w:=by
 have ba:=hA;unfold gh at hA;rw[aa] at hA;have F:=hA x (by simp[Op.operands,Call.operands]);have hy:=hA y (by simp[Op.operands,Call.operands]);rw[b5] at hy;obtain⟨i0,hi0,h1z,h1s,Ta⟩:=info_parts hi;have f:cz P e=some sz:=by simp[cz,hi0,h1s]
 have a4:∀n,n<=1000000000->n*bytes<=140737488355328:=λn hn=>Nat.le_trans (Nat.mul_le_mul hn av) oq;by_cases A:m=0
 .
  subst A;have U:∃p c,a.eval y=.slice p 0 c:=by
   cases yy with
   | none=>rw[hy.sc rfl]; exact⟨_,_,rfl⟩
   | some p=>obtain⟨g,z,e,o',c',_,h2,_⟩:=hy.m6; exact⟨_,_,h2⟩
  obtain⟨p,c,U⟩:=U;have key:∀G n L,a.eval x=.slice G n L->n<=L->iy P (execOp a.eval o)=some (.value<|a.eval x):=λG n L he hn =>uQ aa rfl rfl rfl (by simp only; rw[he,U]; exact CO ht f hn)<|.inl rfl;unfold ce at h;split at h
  .next E =>simp only[if_true] at h;cases h;rw[E] at F;have ag:=F.sc rfl;exact Bv Y ho hw H N (key _ _ _ ag<|iz _) gq k
  .next b n cp E =>simp only[if_true] at h;cases h;rw[E] at F;obtain⟨g,z',e',c',h1,h2,h3,h4,_⟩:=F.sl;exact Bv Y ho hw H N (key _ _ _ h2<|oq) gq k
  .simp at h
  .cases h
 .have K:0<m:=oq
  obtain⟨p,rfl⟩:∃p,yy=some p:=by
   cases yy with
   | none=>simp[fC,A] at a6
   | some p=>exact⟨p,rfl⟩
  obtain⟨gy,b9,ky,J,ty,U,b1,ab,bc,a5⟩:=Fc H hy a6 K;have W:((J.toList.drop p.off).take<|m*sz).length=m*sz:=by simp; omega
  have a3:=PL gq a5 ar;have d:∀(q:Nat) (u:Value),((J.toList.drop p.off).take<|m*sz)[q]?=some u->J[p.off+q]?=some u:=λq u hu=>by
   rw[HA] at hu;split at hu
   .rw[LA] at hu; simpa using hu
   .cases hu
  unfold ce at h;split at h
  .next E =>
   rw[if_neg A] at h;cases h;rw[E] at F;have ag:=F.sc rfl;have T:(l++fr)[ky]?=some (gy,.cells J ty):=gq
   refine mY Y.C (Y.Z N) ky ho hw aa (λw=>by rw[ag]; exact⟨rfl,rfl⟩) U (a8 e a7) ht hi hz a9 K W a3 (by simp[maxLen]; omega) (a4 _<|oq) gq T d (oz.nil e sz).zero λv' Z8 w' r B=>?_;obtain⟨S',l',h1,h2,h3,h4,h5⟩:=nt Y H K a9 r (by simpa using B.zero) (af _ (iz _)<|iq) f (a8 e a7) ab a5;exact k i S' l' w' v' h1 h2 h3 h4 h5
  .next b n cp E =>
   rw[if_neg A] at h;split at h
   .next cs t' fz bd hb au =>
    rw[f] at au;cases au;split at h
    .next hc =>
     obtain⟨aw,ax,ay⟩:=hc;cases h;rw[E] at F;obtain⟨g,zz,e',kx,aj,h1,V,I,XL⟩:=D8 H F hb aw f ax;have az:gy≠g:=by
      rintro rfl;obtain⟨b2,off2,sp2⟩:=p;have ah:∃z2 e2,S b2=some (gy,z2,e2):=by obtain⟨g2,z2,e2,o2,c2,q1,q2,_⟩:=hy.m6;rw[U] at q2;cases q2;exact⟨z2,e2,q1⟩
      obtain⟨z2,e2,ah⟩:=ah;have ae:∃ai,s.get b2=some ai:=by
       unfold fC at a6;simp only at a6;split at a6
       .next q _ _ hq=>exact⟨_,hq⟩
       .cases a6
      obtain⟨ai,ae⟩:=ae
      have:=H.inj b2 b ai _ _ _ ae hb ah h1 rfl;rw[E] at al;simp[ej,this] at al
     have ao:=(List.getElem?_eq_some_iff.1 V).1;have hkL:(l++fr)[kx]?=some (g,.cells aj e):=gq
     have ak:=(Y.Z N).front N kx hkL;rw[List.eraseIdx_append_of_lt_length ao] at ak;have Tt:(gy,Obj.cells J ty)∈l.eraseIdx kx++fr:=by
      refine KM _ ?_;have b3:=(oj V).mem_iff.2<|List.mem_of_getElem? b1;rcases oc.1 b3 with q|q
      .cases q; exact absurd rfl az
      .exact q
     obtain⟨b6,aq⟩:=List.mem_iff_getElem?.1 Tt;refine mY Y.C (Y.Z N) b6 ho hw aa (λw=>⟨rfl,rfl⟩) U (a8 e a7) ht hi hz a9 K W a3 (by simp[maxLen]; omega) (a4 _ ay) ak aq d I λv' Z8 w' r B=>?_;have VH:=H.erased h1 (by rw[hb]; simp) V;have hlx:(cs.toList.take<|n*sz).length=n*sz:=by simp; omega
     have b8:=I.1;obtain⟨S',l',q1,q2,q3,q4,q5⟩:=nt Y VH oq a9 r B.zero (af _ (iz _)<|iq) f (a8 e a7) gq<|G5 gq XL a5;exact k i S' l' w' v' q1 q2 q3 q4 q5
    .cases h
   .cases h
  .next E =>
   rw[if_neg A] at h;cases h;rw[E] at F;obtain⟨g,zz,e',o',c',h1,h2,h3,h4,h5⟩:=F.Qf;have Ti:=h4 rfl;subst Ti;have T:(l++fr)[ky]?=some (gy,.cells J ty):=gq
   refine mY Y.C (Y.Z N) ky ho hw aa (λw=>by rw[h2]; exact CM ht hi K (a4 _ b4) w) U (a8 e a7) ht hi hz a9 K W a3 (by simp[maxLen]; omega) (a4 _<|oq) gq T d (oz.nil e sz).zero λv' Z8 w' r B=>?_;obtain⟨S',l',q1,q2,q3,q4,q5⟩:=nt Y H K a9 r (by simpa using B.zero) (af _ (iz _)<|iq) f (a8 e a7) ab a5;exact k i S' l' w' v' q1 q2 q3 q4 q5
  .cases h
def ou(str:ByteArray):∀(m:Nat) (x y:Value),(strCells str)[m]?=some x->(strCells str)[m]?=some y->VR S x y:=λm x y a c=>by rw[a] at c;cases c;unfold strCells at a;rw[List.getElem?_map,sT] at a;obtain⟨b,_,rfl⟩:=a;exact bD Y
theorem FZ(Y:Cy P KT N0 M O R D X Hd)(T:∀t,kt t=false->¬KT t)(ho:ops[j]?=some o)(hw:Region.wanted o (yielded ops a.tmps)=true)(W:o.op=.call { callee:=.builtin .append,args:=#[x,y],argTypes:=#[t,u] })(hA:gh S aA a o)(H:gz P KT An S s l)(F:Hd i (l++fr) w)
 {str:ByteArray}(ae:aA.at y=.string str)(ht:P.underlying t=some (.slice e))(hu:P.underlying u=some .string)(hi:(P.info? e).map (λi=>(i.zero,i.size,i.bytes))=some (some<|.int .u8 0,1,1))(ah:str.size<=1000000000)(U:kt e=false)(a7:kQ (aA.at x)=true)
 (h:ce P e (aA.at x) (strCells str) str.size s=some (v,s'))(a5:∀b,s.nx<=b->b<s'.nx->S b=none)
 (k:Out P KT An Hd S s s' fr v λi' L N=>cP X fn ops rest i' Q (a.put o.dst L) N):cP X fn ops (j::rest) i Q a w:=by
 unfold gh at hA;rw[W] at hA;have p:=hA x (by simp[Op.operands,Call.operands]);have hy:=hA y (by simp[Op.operands,Call.operands]);rw[ae] at hy;have E:=hy.sc rfl;obtain⟨i0,hi0,h1z,h1s,Ta⟩:=info_parts hi;have c:cz P e=some 1:=by simp[cz,hi0,h1s]
 have a6:(strCells str).length=str.size*1:=by rw[strCells_length,Nat.mul_one]
 by_cases V:str.size=0
 .have K:∀f n q,a.eval x=.slice f n q->n<=q->iy P (execOp a.eval o)=some (.value<|a.eval x):=λf n q he hn =>uQ W rfl rfl rfl (by simp only; rw[he,E]; have h1:(str.extract 0 0).data.map (λb=>Value.int .u8 b.toNat)=#[]:=(by apply wu.1;simp);unfold Builtin.append_;cases f<;>simp[ht,hu,c,Builtin.lenOf,Builtin.firstCells,storeCells,hn,V])<|.inl rfl;rw[V] at h;unfold ce at h;split at h
  .next d =>simp only[if_true] at h;cases h;rw[d] at p;have B:=p.sc rfl;exact Bv Y ho hw H F (K _ _ _ B<|iz _) gq k
  .next b n cp d =>simp only[if_true] at h;cases h;rw[d] at p;obtain⟨g,z',e',c',h1,h2,h3,h4,_⟩:=p.sl;exact Bv Y ho hw H F (K _ _ _ h2<|oq) gq k
  .simp at h
  .cases h
 .have ab:0<str.size:=oq
  unfold ce at h;split at h
  .next d =>rw[if_neg V] at h;cases h;rw[d] at p;have B:=p.sc rfl;refine pI Y.C (Y.Z F) (rl:=[]) (l:=l++fr) (xs:=[]) (n:=0) ho hw W B E (T e U) ht hu hi oq gq (oz.nil e 1).zero λL Z8 N r z=>?_;obtain⟨S',l',h1,h2,h3,h4,h5⟩:=nt Y H ab oq r (by simpa using z) (a5 _ (iz _)<|iq) c (T e U) a6<|ou str;exact k i S' l' N L h1 h2 h3 h4 h5
  .next b n cp d =>
   rw[if_neg V] at h;split at h
   .next cs t' fz ai hb a8 =>
    rw[c] at a8;cases a8;split at h
    .next hc =>
     obtain⟨a9,aa,ag⟩:=hc;cases h;rw[d] at p;obtain⟨g,zz,e',kx,G,h1,J,m,A⟩:=D8 (l:=l) H p hb a9 c aa;have I:=(List.getElem?_eq_some_iff.1 J).1;have hkL:(l++fr)[kx]?=some (g,.cells G e):=gq
     have a4:=(Y.Z F).front F kx hkL;rw[List.eraseIdx_append_of_lt_length I] at a4;refine pI Y.C (Y.Z F) ho hw W rfl E (T e U) ht hu hi oq a4 m λL Z8 N r z=>?_;have VH:=H.erased h1 (by rw[hb]; simp) J;have hlx:(cs.toList.take<|n*1).length=n*1:=by simp; omega
     have af:=m.1;obtain⟨S',l',q1,q2,q3,q4,q5⟩:=nt Y VH oq oq r z (a5 _ (iz _)<|iq) c (T e U) gq<|G5 gq A<|ou str;exact k i S' l' N L q1 q2 q3 q4 q5
    .cases h
   .cases h
  .next d =>rw[d] at a7;simp[kQ] at a7
  .cases h
def mR:∀{l:Vq} {bs:Bq},mD l=some bs->l=bs.map λb=>Value.int .u8 b.toNat
 | [],bs,h=>by simp[mD] at h;subst h;rfl
 | x::l,bs,h=>by
  unfold mD at h;split at h
  .next e=>cases e
  .next y r e =>
   cases e;split at h
   .next hr =>
    split at h
    .next bs' hb =>
     cases h;rw[mR hb];simp only[rj];congr 2;have:(y.toNat.toUInt8).toNat=y.toNat:=by rw[Nat.toUInt8,UInt8.toNat_ofNat'];omega
     rw[this];omega
    .cases h
   .cases h
  .cases h
theorem PW(Y:Cy P KT N0 M O R D X Hd)(ho:ops[j]?=some o)(hw:Region.wanted o (yielded ops a.tmps)=true)(G:o.op=.call { callee:=.builtin .unsafeString,args:=#[x,y],argTypes:=#[pt,it] })(A:gh S aA a o)(hS:gz P KT An S s l)(hF:Hd i (l++fr) w)
 {n:Int}{bs:Bq}(hx:aA.at x=.pointer (sq b))(hy:aA.at y=.int .i64 n)(hp:P.underlying pt=some (.pointer e))(hb:s.get b=some (.cells cs t fz))(a5:P.cellsOf e=1)(ae:t=e)(ag:0<n)(ah:n<=1000000000)(ai:n.toNat<=cs.size)(a4:mD (cs.toList.take n.toNat)=some bs)
 (k:Out P KT An Hd S s (s.set b none) fr (.string ⟨bs.toArray⟩) λi' v' w'=>cP X fn ops rest i' Q (a.put o.dst v') w'):cP X fn ops (j::rest) i Q a w:=by
 subst ae;unfold gh at A;rw[G] at A;have a8:=A x (by simp[Op.operands,Call.operands]);have m:=A y (by simp[Op.operands,Call.operands]);rw[hx] at a8;rw[hy] at m;have m:=m.sc rfl;have⟨g,z,e',h1,h2⟩:=a8.ptr;have⟨kk,o',hk,T,p,Om,XT⟩:=hS.at (fr:=fr) hb h1;obtain⟨v,rfl,hz,⟨Cn,hex⟩,h⟩:=Om;have H:bs.length=n.toNat:=by have:=congrArg List.length<|mR a4;simp at this;omega
 have a6:bs≠[]:=by rintro rfl;simp at H;omega
 have a9:a.eval y=.int .i64 (bs.length:Int):=gq
 have Z:=Y.Z hF;refine aM Y.C ho hw λc hR K hK=>?_;have d:=Z.rely hF hR;have⟨V,L⟩:=Z.own d<|mG p;have u:c.shape? g=some (t,v.size):=by simp[World.shape?,L]
 have U:∀j x,bs[j]?=some x->c.cell? ((⟨g,0,none⟩:Addr).add j)=some (.int .u8 x.toNat):=λq b1 F=>by
  rw[Addr.add_lit];have af:q<bs.length:=(gS.1 F).1;have I:cs[q]?=some (.int .u8 b1.toNat):=by
   have:(cs.toList.take n.toNat)[q]?=some (.int .u8 b1.toNat):=by rw[mR a4];simp[F]
   rw[HA,ip oq] at this;simpa using this
  have a7:q<v.size:=oq
  have:=(h q _ _ I<|gF a7).sc rfl;simp[World.cell?,L,this,a7]
 have B:Own KT (M i) c (c.freeze ⟨g,0,none⟩ bs.length):=Own.freeze L V (XT cs t fz rfl).2 _;have f:=Lib.run_unsafeString_row c pt it o.type t hp a5 g v.size u bs a6 oq oq U;have J:=nn c pt it o.type t hp a5 g v.size u bs a6 oq oq U;have hr2:(execOp a.eval o).run P c=.ok (.value<|.string ⟨bs.toArray⟩) (c.freeze ⟨g,0,none⟩ bs.length):=by unfold execOp;simp only[G,resolve,invoke,builtin,Sem.run_bind,Sem.run_pure,Result.andThen_ok,List.map_toArray,rj,List.map_nil,h2,a9,f]
 have ab:(execOp a.eval o).events P c #[]=(Builtin.unsafeString_ #[pt,it] o.type #[.pointer (sq g),.int .i64 bs.length]).events P c #[]:=by unfold execOp;simp only[G,resolve,invoke,builtin,Sem.events_bind,Sem.run_pure,Sem.events_pure,Result.evThen_ok,List.map_toArray,rj,List.map_nil,h2,a9,f]
 rw[hr2];have a3:=Z.front d kk p;rw[List.eraseIdx_append_of_lt_length T] at a3;have r:=Z.env.lt V;obtain⟨ob,W⟩:∃ob,(c.freeze ⟨g,0,none⟩ bs.length).heap[g]?=some ob:=by have N:=lL r B.grow;exact⟨_,gF N⟩
 have aa:=Z.drop<|Z.turn a3 B W λq F=>ug _ F;refine hK _ _ ⟨Z.env.kZ (Z.size d) B λev E=>?_,k i S _ _ _ (aQ S) (λ_ _=>rfl) (hS.erased h1 (by rw[hb];simp) hk) aa<|bD rfl⟩;have E:=mem_listed E;rw[ab] at E;have⟨ad,q1,q2⟩:=J ev E;exact .inl ⟨ad,q1,by rw[q2];exact Z.env.mine B V⟩
theorem PN(Y:Cy P KT N0 M O R D X Hd)(ho:ops[j]?=some o)(hw:Region.wanted o (yielded ops a.tmps)=true)(T:o.op=.call { callee:=.builtin .copy,args:=#[x,y],argTypes:=#[t,u] })(H:gh S aA a o)(hS:gz P KT An S s l)(V:Hd i (l++fr) w)
 {str:ByteArray}{m:TypeId}(hx:aA.at x=.slice (some ⟨b,off,none⟩) n cp)(hy:aA.at y=.string str)(ht:P.underlying t=some (.slice e))(hb:s.get b=some (.cells cs m fz))(a5:cz P e=some 1)(hn:str.size=n)(aa:off+n<=cs.size)
 (k:Out P KT An Hd S s (s.set b<|some<|.cells (putAt cs off<|strCells str) m fz) fr (goInt<|l7 str.data.toList 0) λi' v' w'=>cP X fn ops rest i' Q (a.put o.dst v') w'):cP X fn ops (j::rest) i Q a w:=by
 unfold gh at H;rw[T] at H;have a8:=H x (by simp[Op.operands,Call.operands]);have h:=H y (by simp[Op.operands,Call.operands]);rw[hx] at a8;rw[hy] at h;have h:=h.sc rfl;have⟨g,z,e',v,h1,h2,h3,h4,h5,h6⟩:=a8.sl;have⟨kk,o',hk,mH,B,Om,a7⟩:=hS.at (fr:=fr) hb h1;obtain⟨U,rfl,hz,⟨Cn,hex⟩,p⟩:=Om;have Z:=Y.Z V;refine aM Y.C ho hw λc hR K hK=>?_;have d:=Z.rely V hR;have⟨hm,I⟩:=Z.own d<|mG B;have ZR:=strCells_length str;have f:=run_copy_row_string (P:=P) c t u o.type e g off n v str U m ht a5 I oq oq;have f:(Builtin.copy_ #[t,u] o.type #[.slice (some ⟨g,off,none⟩) n v,.string str]).run P c=.ok (goInt str.size) (c.setRow g<|putAt U off<|strCells str):=by rw[f];unfold putAt;rw[ZR];rfl
 have F:∀A∈(Builtin.copy_ #[t,u] o.type #[.slice (some ⟨g,off,none⟩) n v,.string str]).events P c #[],∃G:Addr,A.loc=.cell G/\G.block=g:=by
  intro A F;have a9:=events_storeCells_at (P:=P) g off m (strCells str) 0 U c #[] I oq<|strCells_oneCell str;cases L:P.info? e with
  | none=>simp[cz,L] at a5
  | some it =>
   have a6:Nat.min str.size n=str.size:=by simp_all
   have ab:((str.extract 0 str.size).data.map λb=>Value.int .u8 b.toNat).toList=strCells str:=by simp[strCells]
   have N:(Builtin.copy_ #[t,u] o.type #[.slice (some ⟨g,off,none⟩) n v,.string str]).events P c #[]=(storeCells ⟨g,off,none⟩<|strCells str).events P c #[]:=by simp[Builtin.copy_,underlying,ht,Builtin.lenOf,Builtin.firstCells,sizeOf,typeInfo,L,a6];rw[tL (by simp_all)];rfl
   rw[N] at F;rcases a9 A F with z|z
   .simp at z
   .exact z
 have W:Own KT (M i) c (c.setRow g<|putAt U off<|strCells str):=Own.setRow I hm (a7 cs m fz rfl).2;have hr2:(execOp a.eval o).run P c=.ok (.value<|goInt str.size) (c.setRow g<|putAt U off<|strCells str):=by unfold execOp;simp only[T,resolve,invoke,builtin,Sem.run_bind,Sem.run_pure,Result.andThen_ok,List.map_toArray,rj,List.map_nil,h2,h,f]
 have N:(execOp a.eval o).events P c #[]=(Builtin.copy_ #[t,u] o.type #[.slice (some ⟨g,off,none⟩) n v,.string str]).events P c #[]:=by unfold execOp;simp only[T,resolve,invoke,builtin,Sem.events_bind,Sem.run_pure,Sem.events_pure,Result.evThen_ok,List.map_toArray,rj,List.map_nil,h2,h,f]
 rw[hr2];have a4:=Z.BZ d kk B W (o':=.cells (putAt U off<|strCells str) m) (by simp[World.setRow,LZ,I]) (λq L=>by simp[World.setRow,LZ,Ne.symm L]);rw[List.set_append_left _ _ mH] at a4;have r:=z5 (S:=S) (off:=off) hz Cn p rfl (ou str) oq;have E:l7 str.data.toList 0=str.size:=by rw[kF,Nat.zero_add,KO];rfl
 refine hK _ _ ⟨?_,k i S _ _ _ (aQ S) (λ_ _=>rfl) (hS.xX hb h1 hk (Y.Bn V) ⟨_,rfl,r.1,⟨r.2.1,λZH=>by have:=hex ZH;simp[putAt];omega⟩,r.2.2⟩ λcs1 t1 fz1 he=>?_) a4<|by rw[E];exact bD rfl⟩
 .refine Z.env.kZ (Z.size d) W λA J=>?_;have J:=mem_listed J;rw[N] at J;have⟨G,q1,q2⟩:=F A J;exact .inl ⟨G,q1,by rw[q2];exact Z.env.mine W hm⟩
 .cases he;exact a7 cs m fz rfl
section
variable {main:Bool}{b:Frame}{cs:List Frame}
def BP{fn:Func}{d:List Item}{c:Frame}(g:b.kind=.normal)(e:a.defers=[])(f:P.funcs[b.fn]?=some fn)
 (h:(results fn a.tmps).run P w=.ok v w) :
  stepG P main (G { b.at a d with mode:=.returning } (c::cs)) w=.go (G (c.finish v) cs) w (seen P b.fn<|(results fn a.tmps).events P w #[]):=by simp[G,stepG,unwind,doReturn,Frame.at,g,e,f,h,GStep.after]
end
section
variable {vs:ι}
def Leaves(P:Program)(R:ι->Wq)(D:ι->World->World->Array Event->Prop)(f:FuncId)(bL:Func)(vs:ι)(tmps:Aq)(w:World)(Post:ι->Value->World->Prop):Prop :=
 ∀aK,R vs w aK->∃v,(results bL tmps).run P aK=.ok v aK/\D vs aK aK (seen P f<|(results bL tmps).events P aK #[])/\Post vs v aK
def lP(P:Program)(R:ι->World->World->Prop)(D:ι->World->World->Array Event->Prop)(X:ι->Goroutine->World->Prop)(f:FuncId)(args:Array Value)(vs:ι)(w:World)(Post:ι->Value->World->Prop):Prop :=
 ∃ bL c,P.funcs[f]?=some bL/\(bL.name == "runtime.NumGoroutine")=false/\bL.body=some c /\
  iO X f c vs (λiA e a' w'=>(e=.normal\/e=.ret)/\a'.defers=[]/\Leaves P R D f bL iA a'.tmps w' Post) { tmps:=args++Array.replicate (bL.ntmps-args.size) undef,defers:=[] } w
def gj.toE(C:cG P true R D X)(T:∀i,Terms (R i)<|D i){Post uH:ι->Value->World->Prop}(h:gj P X f args vs w Post)(hp:∀vs v w aK,Post vs v w->R vs w aK->uH vs v aK):lP P R D X f args vs w uH:=by have⟨bL,c,hf,hn,hb,h⟩:=h;refine⟨bL,c,hf,hn,hb,nO h λiA e a' w' q=>?_⟩;have⟨h1,h2,v,h3,h4⟩:=q;refine⟨h1,h2,λaK hr=>⟨v,(h3 aK).1,?_,hp _ _ _ _ h4 hr⟩⟩;rw[(h3 aK).2];exact(T iA).idle _
def F3(C:cG P true R D X)(T:∀i,Terms (R i)<|D i){i:Nat}{g:List Nat}{cap:Aq}{args:Array Operand}{ats:Array TypeId}{Post:ι->Value->World->Prop}
 (N:ops[i]?=some o)(Y:Region.wanted o (yielded ops a.tmps)=true)(J:o.op=.call { callee:=.value x,args,argTypes:=ats })(Z:a.eval x=.func (.func f) first cap)
 (t:lP P R D X f (first++args.map a.eval++cap) vs w Post)(y:∀d v p,Post d v p->cP X fn ops g d Q (a.put o.dst v) p):cP X fn ops (i::g) vs Q a w:=by
 obtain⟨r,c,H,u,L,h⟩:=t;intro b k K B M S;have E:r.body.isNone=false:=by rw[L]; rfl
 have z:∀v,(b.at a _).finish v=b.at (a.put o.dst v) (.inRegion ops g::k):=λv=>by rw[Frame.finish_at,N]; rfl
 have j:∀(d:ι) (s:Act) (p:World) l,(s.defers=[]/\Leaves P R D f r d s.tmps p Post) ->
   X d (G { (base f).at s l with mode:=.returning } (b.at a (.inRegion ops (i::g)::k)::K)) p:=by rintro d s p l ⟨U,I⟩;refine C.step rfl λm n=>?_;obtain⟨v,h1,h2,h3⟩:=I m n;rw[BP rfl U H h1,z];exact⟨h2,y d v m h3 b k K B M S⟩
 refine C.step rfl λm n=>?_;obtain⟨W,V⟩:=lG J Z H u E;rw[stepG_enter N Y M W,enter_at _ H L];have I:listed P b.fn a o m=#[]:=listed_nil V;rw[I];refine⟨(T vs).idle _,C.rely (h (base f) [] _ rfl (by simp[base]) λd e s p q=>?_) n⟩;obtain⟨F,q⟩:=q;rcases F with rfl|rfl
 .exact C.step rfl λO A=>by rw[stepG_end]; exact⟨(T d).idle _,C.rely (j d s p [] q) A⟩
 .exact λl=>j d s p l q
end
def Sound(P:Program)(KT:TypeId->Prop)(An:eN)(R:ι->Wq)(D:ι->World->World->Array Event->Prop)(X:ι->Gq)(Hd:ι->Hq->World->Prop)(f:FuncId)(args:Aq)(s:AS)(v:Value)(s':AS):Prop :=
 ∀S l fr i w args',gz P KT An S s l->Hd i (l++fr) w->AR (VR S) args args'->(∀b,s.nx<=b->b<s'.nx->S b=none) ->
  lP P R D X f args' i w λi' v' w'=>∃S' l',S.le S'/\(∀b,b<s.nx\/s'.nx<=b->S' b=S b)/\gz P KT An S' s' l'/\Hd i' (l'++fr) w'/\VR S' v v'
def tB{xs:Array Operand}{f:Operand->Value}{u:Value}(h:xs.toList.map f=[u,v]):∃x y,xs=#[x,y]/\f x=u/\f y=v:=by
 have⟨l⟩:=xs;cases l with
 | nil=>simp at h
 | cons x l =>
  cases l with
  | nil=>simp at h
  | cons y l =>
   cases l with
   | nil=>simp at h;exact⟨x,y,Y,h.1,h.2⟩
   | cons z l=>simp at h
theorem PM(Y:Cy P KT N0 M O R D X Hd)(ho:ops[j]?=some o)(hw:Region.wanted o (yielded ops a.tmps)=true)(I:o.op=.convert t u x)(N:gh S aA a o)(V:gz P KT An S s l)(hF:Hd i (l++fr) w)(h:ir P t u (aA.at x) s=some v)
 (k:Out P KT An Hd S s s fr v λi' v' w'=>cP X fn ops rest i' Q (a.put o.dst v') w'):cP X fn ops (j::rest) i Q a w:=by
 unfold gh at N;rw[I] at N;have G:=N x (by simp[Op.operands]);have Z:=Y.Z hF;have B:∀(f:Addr),a.eval x=.pointer (some f)->(∀U,Hd i (l++fr) U->(convert t u<|.pointer<|some f).run P U=.ok (.pointer<|some f) U/\(convert t u<|.pointer<|some f).events P U #[]=#[])->VR S v (.pointer<|some f)->cP X fn ops (j::rest) i Q a w:=by
  intro f a9 F hv;refine aM Y.C ho hw λU hR K hK=>?_;have r:=Z.rely hF hR;have⟨h1,h2⟩:=F U r;have hr:(execOp a.eval o).run P U=.ok (.value<|.pointer<|some f) U:=by unfold execOp;simp only[I,a9,Sem.run_bind,h1,Result.andThen_ok,Sem.run_pure]
  have he:(execOp a.eval o).events P U #[]=#[]:=by unfold execOp;simp only[I,a9,Sem.events_bind,h1,h2,Result.evThen_ok,Sem.events_pure]
  rw[hr];refine hK _ _ ⟨?_,k i S l U _ (aQ S) (λ_ _=>rfl) V r hv⟩;rw[listed_nil he];exact(Y.T i).idle _
 unfold ir at h;split at h
 .next e b c y A L =>
  rw[L] at G;have⟨g,z,e',h1,h2⟩:=G.ptr;split at h
  .next cs ct fz n W d =>
   split at h
   .next ab =>
    cases h;have⟨kk,o',hk,a8,H,J,aa⟩:=V.at (fr:=fr) W h1;obtain⟨m,rfl,hz,⟨Cn,_⟩,p⟩:=J;have q:(P.info? e).map (λi=>decide (i.size=0))=some false:=by
     unfold cz at d;cases hi:P.info? e with
     | none=>simp[hi] at d
     | some it=>simp[hi] at d |-;omega
    refine B ⟨g,c,none⟩ h2 (λU r=>?_) gq;have⟨hm,hg⟩:=Z.own r<|mG H;have F:U.cell? ⟨g,c,none⟩=some (m[c]'oq):=by simp[World.cell?,hg,show c<m.size by omega]
    exact⟨run_convert_to_unsafe y A q F,events_convert_to_unsafe y A q F #[]⟩
   .cases h
  .cases h
 .next e b c y A L =>
  rw[L] at G;have⟨g,z,e',h1,h2⟩:=G.ptr;split at h
  .next cs bt n W d =>
   split at h
   .next hl =>
    cases h;have⟨kk,o',hk,a8,H,J,aa⟩:=V.at (fr:=fr) W h1;obtain⟨m,rfl,hz,⟨Cn,hex⟩,p⟩:=J;have q:=hex rfl;obtain⟨jt,hj,_⟩:∃jt,P.info? e=some jt/\jt.size=n+1:=by
     unfold cz at d;cases hi:P.info? e with
     | none=>simp[hi] at d
     | some it=>simp[hi] at d;exact⟨it,rfl,d⟩
    refine B ⟨g,c,none⟩ h2 (λU r=>?_) gq;have⟨hm,hg⟩:=Z.own r<|mG H;have E:U.shape? g=some (bt,cs.size):=by simp[World.shape?,hg];omega
    refine⟨Lib.run_from_unsafe U ⟨g,c,none⟩ y A hj E hl,?_⟩;simp[convert,Conv.unsafePointer,Conv.seenAt,viewAt,E,variablesAt,hl,sizeOf,typeInfo,hj,underlying,y,A]
   .cases h
  .cases h
 .cases h
theorem pG(Y:Cy P KT N0 M O R D X Hd)(a9:∀t,kt t=false->¬KT t)(a8:∀f K s v s',call f K s=some (v,s')->Sound P KT An R D X Hd f K s v s')
 (E:ops[j]?=some o)(F:Region.wanted o (yielded ops a.tmps)=true)(r:gh S aA a o)(B:gz P KT An S s l)(A:Hd i (l++fr) w)(h:cf P kt call aA o s=some (v,s'))(a7:∀b,s.nx<=b->b<s'.nx->S b=none)
 (k:Out P KT An Hd S s s' fr v λi' H w'=>cP X fn ops rest i' Q (a.put o.dst H) w'):cP X fn ops (j::rest) i Q a w:=by
 unfold cf at h;split at h
 .
  split at h
  .next ob mk hn =>cases h;refine MT Y a9 E F r A hn λg z e o' w' H VG hr ht=>?_;have ZO:S s.nx=none:=a7 _ lr iq;have⟨h1,h2⟩:=hr (S.put s.nx (g,z,e)) s.nx (eM ZO) eS;refine k i _ _ w' H (eM ZO) (λb Z=>?_) (B.grown ZO (Y.fresh VG) h1 ht) VG h2;unfold eN.put;simp at Z;rw[iw oq]
  .cases h
 .split at h
  .next t x p =>
   split at h
   .next H G=>cases h;exact Ii Y E F p r B A G k
   .cases h
  .next t x y p =>
   split at h
   .next s1 G=>cases h;exact MW Y E F p r B A G k
   .cases h
  .next t x lo hi mx p =>
   split at h
   .next H G=>cases h;have⟨d,h1,h2⟩:=Ej p r B G;refine dQ Y.C Y.T E F λb K m=>?_;rw[(mE h2 b #[]).1];exact m _ (k i S l w d (aQ S) (λ_ _=>I) B A h1) (mE h2 b #[]).2
   .cases h
  .next x p =>
   split at h
   .next b hx =>
    split at h
    .next str pos Z =>
     refine PU Y E F p r B A hx Z (λhp=>?_) (λhp=>?_)<|λhp=>?_;iterate 3
      .grind
    .cases h
   .cases h
  .next c p =>
   split at h
   .next f I =>
    split at h
    .next aa =>
     split at h
     .next x hx =>
      cases h;have⟨ae,a3,a6⟩:=c;simp only at I hx;subst I;have q:=r;unfold gh at q;rw[p] at q;obtain⟨g,rfl⟩:∃g,f=.func g:=by
       cases f with
       | func g=>exact⟨g,rfl⟩
       | _=>simp[mc] at aa
      have a5:=aa;unfold mc at a5;simp only at a5;split at a5
      .next bL af =>
       have⟨n1,n2,n3⟩:=Y.ne g bL aa af;have J:a3=#[x]:=gq
       exact ry Y.C Y.T E F p af n1 gq n2 n3 gq (λw=>Lib.run_noEscape w _) (λw es=>by show Sem.events P (pure (a.eval x):Sem Value) w es=es;simp)<|k i S l w _ (aQ S) (λ_ _=>rfl) B A (q x<|by simp only[Op.operands,Call.operands,Array.mem_append];right;simpa using(show x∈a3.toList by rw[hx];simp))
      .cases a5
     .cases h
    split at h
    .next g first cap hf =>have q:=r;unfold gh at q;rw[p] at q;have Rj:=q f (by simp[Op.operands,Call.operands,I]);rw[hf] at Rj;have⟨p',q',h1,h2,h3⟩:=Rj.fn;have U:AR (VR S) (c.args.map aA.at) (c.args.map a.eval):=FN λx hx=>q x (by simp[Op.operands,Call.operands,hx]);have⟨ae,a3,a6⟩:=c;simp only at I;subst I;refine F3 Y.C Y.T E F p h1 (a8 _ _ _ _ _ h S l fr i w _ B A ((h2.append U).append h3) a7) ?_;rintro i' H w' ⟨S',l',q1,q2,q3,q4,q5⟩;exact k i' S' l' w' H q1 q2 q3 q4 q5
    .cases h
   .next b I =>
    split at h
    .next H G=>cases h;exact xv Y E F r B A G k
    .have⟨ae,a3,a6⟩:=c;simp only at I h;subst I;unfold gl at h;split at h
     .next x1 yy m cy t t' U ab =>
      split at h
      .next ai =>
       subst ai;split at h
       .next e ht =>
        split at h
        .next z sz bytes hi =>
         split at h
         .next news ah =>
          split at h
          .next hc =>
           have⟨N,V,L,c4,c5,c6,c7⟩:=hc;have⟨x,y,J,e1,W⟩:=tB U;subst J;have d:a6=#[t,t]:=gq
           subst d;rw[<-e1] at h c6;exact JM Y a9 E F p r B A W ht hi ah N V L c4 c5 c6 c7 h a7 k
          .cases h
         .cases h
        .cases h
       .cases h
      .cases h
     .next x1 str t t' U ab =>
      split at h
      .next e ht hu =>
       split at h
       .next hi =>
        split at h
        .next hc =>
         have⟨N,V,L⟩:=hc;have⟨x,y,J,e1,W⟩:=tB U;subst J;have d:a6=#[t,t']:=gq
         subst d;rw[<-e1] at h L;exact FZ Y a9 E F p r B A W ht hu hi N V L h a7 k
        .cases h
       .cases h
      .cases h
     .next b off n cp str t u U ab =>
      split at h
      .next e cs bt fz ht Z =>
       split at h
       .next hc =>
        have⟨N,V,L⟩:=hc;cases h;have⟨x,y,J,e1,W⟩:=tB U;subst J;have d:a6=#[t,u]:=gq
        subst d;exact PN Y E F p r B A e1 W ht Z N V L k
       .cases h
      .cases h
     .next b n pt it U ab =>
      split at h
      .next e cs t fz hp Z =>
       split at h
       .next hc =>
        have⟨N,V,L,c4,c5⟩:=hc;split at h
        .next bs ag =>
         cases h;have⟨x,y,J,e1,W⟩:=tB U;subst J;have d:a6=#[pt,it]:=gq
         subst d;exact PW Y E F p r B A e1 W hp Z N V L c4 c5 ag k
        .cases h
       .cases h
      .cases h
     .cases h
   .cases h
  .next t u x p =>
   split at h
   .next H G=>cases h;exact xv Y E F r B A G k
   .split at h
    .next H G=>cases h;exact PM Y E F p r B A G k
    .cases h
  .split at h
   .next H G=>cases h;exact xv Y E F r B A G k
   .cases h
def sS:∀l n v,Du l n v=l.set n v
 | [],_,_=>rfl
 | _::_,0,_=>rfl
 | x::l,n+1,v=>by simp[Du,sS l n v]
def pm{x:Aq}{y:Aq}(h:AR (VR S) x y)(t:Nat):VR S (x.toList.getD t undef) (y.getD t undef):=by
 by_cases a:t<x.size
 .have h1:=gF a;have h2:y[t]?=some (y[t]'(by rw[<-h.1];exact a)):=gF _
  have:=h.2 t _ _ h1 h2;rw[Dj,Jw,h2,Array.getElem?_toList,h1];exact this
 .rw[Dj,Jw,Array.getElem?_toList,Array.getElem?_eq_none oq,Array.getElem?_eq_none<|by rw[<-h.1];omega];exact fx
def kX(h:AR (VR S) aA.toArray a.tmps)(b:DF x=true):VR S (aA.at x) (a.eval x):=by
 cases x with
 | tmp t=>exact pm h t
 | const v=>exact bD b
 | global g=>simp[DF] at b
 | func f=>exact mw AR.nil AR.nil
theorem qo(h:AR (VR S) aA.toArray a.tmps)(U:VR S v v')(d:Option Tmp):AR (VR S) (aA.put d v).toArray (a.put d v').tmps:=by
 cases d with
 | none=>exact h
 | some t =>
  show AR _ (Du aA t v).toArray (a.tmps.setIfInBounds t v');rw[sS]
  have:=h.set U t;grind
def VR.CR{x:Value}{b:Bool}(h:VR S x (.bool b)):x=.bool b:=by
 cases x with
 | agg p=>obtain⟨a,h1,_⟩:=h.ag;cases h1
 | tuple p=>obtain⟨a,h1,_⟩:=h.tu;cases h1
 | map p=>obtain⟨k,m,_,h1,_⟩:=h.mp;cases h1
 | func f p q=>obtain⟨a,o,h1,_⟩:=h.fn;cases h1
 | pointer p =>
  cases p with
  | none=>exact(h.sc Y).symm
  | some p =>
   have⟨b,i,sp⟩:=p
   have:=h.kS;simp at this;subst this;have⟨g,z,e,_,h1⟩:=h.ptr;cases h1
 | slice p n c =>
  cases p with
  | none=>exact(h.sc Y).symm
  | some p=>obtain⟨g,z,e,l,j,_,h1,_⟩:=h.m6;cases h1
 | bool b=>exact(h.sc Y).symm
 | int k n=>exact(h.sc Y).symm
 | string s=>exact(h.sc Y).symm
 | nilFunc=>exact(h.sc Y).symm
 | nilIface=>exact(h.sc Y).symm
 | _=>obtain⟨d,h⟩:=h;cases d with
  | zero=>exact h.elim
  | succ d=>exact absurd h.1<|by simp[eW]
theorem tG{j:Nat}(h:∀d,(ops[j]?).bind (·.dst)=some d->∀b,(aA[d]?=some (.bool b)↔tmps[d]?=some (.bool b))):yielded ops tmps j=cg ops aA j:=by unfold yielded cg;grind
theorem EJ(h:AR (VR S) aA.toArray a.tmps)(ops:Array Oper)(j:Nat):yielded ops a.tmps j=cg ops aA j:=by
 refine tG λd _ b=>⟨λc=>?_,λc=>?_⟩
 .have U:d<a.tmps.size:=by rw[<-h.1];have:=(gS.1 c).1;simpa using this
  have:=h.2 d _ _ (by simpa using c)<|gF U;rw[gF U,this.sc Y]
 .have U:d<aA.toArray.size:=by rw[h.1];exact(oF.1 c).1
  have:=(h.2 d _ _ (gF U) c).CR;grind
def kw(h:AR (VR S) aA.toArray a.tmps)(ops:Array Oper)(o:Oper):Region.wanted o (yielded ops a.tmps)=Region.wanted o (cg ops aA):=by
 unfold Region.wanted;split
 .rfl
 .rw[EJ h]
def uO{x:Value}(h:ce P e x news m s=some (v,s')):s.nx<=s'.nx:=by
 unfold ce at h;split at h
 .split at h<;>(cases h;simp)
 .split at h
  .cases h;simp
  .split at h
   .split at h
    .cases h;simp
    .cases h
   .cases h
 .split at h
  .cases h
  .cases h;simp
 .cases h
def AV{b:Builtin}{args:Vq}{a:List TypeId}(h:gl P kt b args a s=some (v,s')):s.nx<=s'.nx:=by
 unfold gl at h;split at h
 .split at h
  .split at h
   .split at h
    .split at h
     .split at h
      .exact uO h
      .cases h
     .cases h
    .cases h
   .cases h
  .cases h
 .split at h
  .split at h
   .split at h
    .exact uO h
    .cases h
   .cases h
  .cases h
 .split at h
  .split at h
   .cases h;simp
   .cases h
  .cases h
 .split at h
  .split at h
   .split at h
    .cases h;simp
    .cases h
   .cases h
  .cases h
 .cases h
def Fu{x y:Value}(h:ly P t x y s=some s'):s.nx=s'.nx:=by
 unfold ly at h;split at h
 .split at h
  .split at h
   .cases h;simp
   .cases h
  .cases h
 .cases h
theorem vV(hc:∀f args s v s',call f args s=some (v,s')->s.nx<=s'.nx){a:TL}(h:cf P kt call a o s=some (v,s')):s.nx<=s'.nx:=by
 unfold cf at h;split at h
 .split at h
  .cases h;simp
  .cases h
 .split at h
  .grind
  .split at h
   .next hv=>cases h;exact Nat.le_of_eq<|Fu hv
   .cases h
  .grind
  .split at h
   .split at h
    .split at h
     .split at h
      .cases h
      .cases h;simp
     .cases h;simp
    .cases h
   .cases h
  .split at h
   .grind
   .split at h
    .cases h;exact iz _
    .exact AV h
   .cases h
  .grind
  .grind
def pi(hc:∀f args s v s',call f args s=some (v,s')->s.nx<=s'.nx):∀todo {a a':TL} {s s':AS},eh P kt call ops todo a s=some (a',s')->s.nx<=s'.nx
 | [],a,a',s,s',h=>by simp[eh] at h;rw[h.2];exact iz _
 | o::rest,a,a',s,s',h=>by
  unfold eh at h;split at h
  .split at h
   .next v s1 hv=>exact lT (vV hc hv)<|pi hc rest h
   .cases h
  .exact pi hc rest h
section
variable {nS:TL}
def Sa (P:Program)(KT:TypeId->Prop)(An:eN)(Hd:ι->Hq->World->Prop)(S:eN)(s s':AS)(fr:Hq)(nS:TL)(K:ι->Act->World->Prop):Prop :=
 ∀i' S' l' w' a',S.le S'->(∀b,b<s.nx\/s'.nx<=b->S' b=S b)->gz P KT An S' s' l'->Hd i' (l'++fr) w'->AR (VR S') nS.toArray a'.tmps->a'.defers=[]->K i' a' w'
theorem pj(Y:Cy P KT N0 M O R D X Hd)(FH:∀t,kt t=false->¬KT t)(L8:∀f args s v s',call f args s=some (v,s')->Sound P KT An R D X Hd f args s v s')(hc:∀f args s v s',call f args s=some (v,s')->s.nx<=s'.nx)(uX:oG ops=true) :
  ∀(m k:Nat) {S:eN} {l:Hq} {i:ι} {w:World} {a:Act} {aA:TL} {s:AS},m=ops.size-k->k<=ops.size->eh P kt call ops (ops.toList.drop k) aA s=some (nS,s')->gz P KT An S s l->Hd i (l++fr) w->AR (VR S) aA.toArray a.tmps->a.defers=[]->(∀b,s.nx<=b->b<s'.nx->S b=none) ->
   Sa P KT An Hd S s s' fr nS (λi' a' w'=>Q i' .normal a' w')->cP X fn ops (List.range' k m) i Q a w
 | 0,k,S,l,i,w,a,aA,s,hm,hk,h,hS,hF,hA,hd,tQ,K=>by
  have:k=ops.size:=oq
  subst this;rw[List.drop_eq_nil_of_le iq] at h;simp only[eh,xH,Prod.mk.injEq] at h;obtain⟨rfl,rfl⟩:=h;exact bO Y.C Y.T<|K i S l w a (aQ S) (λ_ _=>I) hS hF hA hd
 | m+1,k,S,l,i,w,a,aA,s,hm,hk,h,hS,hF,hA,hd,tQ,K=>by
  have mH:k<ops.size:=oq
  have A8:k<ops.toList.length:=gq
  rw[List.drop_eq_getElem_cons A8] at h;have ho:ops[k]?=some (ops.toList[k]'A8):=gq
  have Te:gh S aA a (ops.toList[k]'A8):=λx hx=>kX hA (by
   unfold oG at uX;rw[aT] at uX
   have:=uX _<|zB A8;rw[aT] at this;exact this x gq);unfold eh at h;show cP X fn ops _ i Q a w;split at h
  .next hw =>
   split at h
   .next v s1 hv =>
    have n1:=vV hc hv;have n2:=pi hc _ h;refine pG Y FH L8 ho (by rw[kw hA];exact hw) Te hS hF hv (λb h1 h2=>tQ b h1 oq) ?_;intro i1 S1 l1 w1 v1 WY VJ WZ hF1 hv1;refine pj Y FH L8 hc uX m (k+1) oq oq h WZ hF1 (qo (hA.mono WY) hv1 _) ?_ (λb h1 h2=>?_) ?_
    .cases OZ:(ops.toList[k]'A8).dst<;>exact hd
    .rw[VJ b (.inr h1)];exact tQ b oq h2
    .intro i2 S2 l2 w2 a2 VH Cm W1 WV WT ZF;exact K i2 S2 l2 w2 a2 (cQ WY VH) (λb hb=>by rw[Cm b oq,VJ b oq]) W1 WV WT ZF
   .cases h
  .next hw =>have n2:=pi hc _ h;refine je Y.C Y.T ho (by rw[kw hA];simpa using hw)<|pj Y FH L8 hc uX m (k+1) oq oq h hS hF (qo hA fx _) ?_ tQ K;cases OZ:(ops.toList[k]'A8).dst<;>exact hd
def Reads{a:Type}(P:Program)(t:Sem a)(w:World)(v:a)(B:Event->Prop):Prop:=t.run P w=.ok v w/\∀b∈t.events P w #[],B b
def Reads.bind{t:Sem α}{k:α->Sem β}{v:α}{u:β}{B:Event->Prop}(h:Reads P t w v B)(c:Reads P (k v) w u B):Reads P (t >>= k) w u B:=by
 refine⟨by rw[Sem.run_bind,h.1];exact c.1,λb a=>?_⟩;rw[Sem.events_bind,h.1] at a;simp only[Result.evThen_ok] at a;rw[Sem.events_acc] at a;rcases Array.mem_append.1 a with q|q
 .exact h.2 b q
 .exact c.2 b q
def Reads.pure(v:α)(B:Event->Prop):Reads P (Pure.pure v:Sem α) w v B:=⟨Y,λa h=>by simp at h⟩
theorem FL(Y:Cy P KT N0 M O R D X Hd)(K:gz P KT An S s l)(y:Hd i (l++fr) w){x:Value}(hx:VR S x x')(h:bV P t x s=some v):∃o,VR S v o/\Reads P (do loadVar t (<-asAddr x')) w o (yv<|M i w):=by
 unfold bV at h;split at h
 .next b a =>
  obtain⟨g,z,e,h1,rfl⟩:=hx.ptr;split at h
  .next cs ty fz H =>
   have⟨kk,o',hk,W,C,E,aa⟩:=K.at (fr:=fr) H h1;obtain⟨p,rfl,hz,⟨Cn,hex⟩,j⟩:=E;have⟨f,B⟩:=(Y.Z y).own y<|mG C;have k:∀{o},Reads P (Instr.loadAt t<|.pointer<|some ⟨g,a,none⟩) w o (yv<|M i w)->Reads P _ w o (yv<|M i w):=λh=>h;split at h
   .next d c =>
    split at h
    .next A =>
     split at h
     .next n Q =>
      split at h
      .next ae =>
       cases h;have L:w.rangeAt g a ((p.toList.drop a).take n):=xE B (by
        intro m u f;rw[HA] at f;split at f
        .rw[LA] at f;simpa using f
        .cases f);have N:(P.info? t).map (·.size)=some ((p.toList.drop a).take n).length:=by unfold cz at Q;rw[Q];simp;omega
       refine⟨_,mv ?_,k ⟨run_loadAt_mid w g a t _ d L c A N,λG U=>?_⟩⟩
       .refine⟨by simp;omega,λm u u' c F=>?_⟩;simp only[LY,HA] at c F;split at c
        .next f =>rw[ip f] at F;rw[LA] at c F;exact j _ u u' (by simpa using c) gq
        .cases c
       .have⟨ad,T,V⟩:=jN w g a t _ d L c A N G U;exact .inl ⟨ad,T,by rw[V];exact f⟩
      .cases h
     .cases h
    .next A =>
     have J:a<p.size:=gq
     have q:w.cell? ⟨g,a,none⟩=some p[a]:=by simp[World.cell?,B,J]
     have r:d.isRow=false:=gq
     refine⟨p[a],j a v _ h<|gF J,k ⟨?_,λG U=>?_⟩⟩
     .simp[Instr.loadAt,Instr.sureAddr,loadVar,jz c r,load,Sem.run,q]
     .have I:(Instr.loadAt t<|.pointer<|some ⟨g,a,none⟩).events P w #[]=#[⟨.cell ⟨g,a,none⟩,false,false⟩]:=by simp[Instr.loadAt,Instr.sureAddr,loadVar,jz c r,lB c,events_load,q]
      rw[I] at U;simp at U;subst U;exact .inl ⟨_,rfl,f⟩
   .cases h
  .next ty cs T V q3 q4 H =>
   have⟨kk,o',hk,W,C,E,aa⟩:=K.at (fr:=fr) H h1;cases E;have⟨f,B⟩:=(Y.Z y).own y<|mG C;have k:∀{o},Reads P (Instr.loadAt t<|.pointer<|some ⟨g,a,none⟩) w o (yv<|M i w)->Reads P _ w o (yv<|M i w):=λh=>h;split at h
   .next d c =>
    split at h
    .cases h
    .next A =>
     split at h
     .next v0 ab =>
      split at h
      .next a9 =>
       cases h;have q:w.cell? ⟨g,a,none⟩=some v:=by simp[World.cell?,B,ab]
       have r:d.isRow=false:=gq
       refine⟨v,bD a9,k ⟨?_,λG U=>?_⟩⟩
       .simp[Instr.loadAt,Instr.sureAddr,loadVar,jz c r,load,Sem.run,q]
       .have I:(Instr.loadAt t<|.pointer<|some ⟨g,a,none⟩).events P w #[]=#[⟨.cell ⟨g,a,none⟩,false,false⟩]:=by simp[Instr.loadAt,Instr.sureAddr,loadVar,jz c r,lB c,events_load,q]
        rw[I] at U;simp at U;subst U;exact .inl ⟨_,rfl,f⟩
      .cases h
     .cases h
   .cases h
  .cases h
 .cases h
theorem Dw{f:α->Option β}:∀{xs:List α} {vs:List β},xs.mapM f=some vs->xs.length=vs.length/\∀(i:Nat) (x:α) (v:β),xs[i]?=some x->vs[i]?=some v->f x=some v
 | [],vs,h=>by simp at h;subst h;exact⟨Y,λi x v U=>by simp at U⟩
 | x::xs,vs,h=>by
  rw[List.mapM_cons] at h;cases U:f x with
  | none=>rw[U] at h;cases h
  | some v =>
   rw[U] at h;cases hm:xs.mapM f with
   | none=>rw[hm] at h;cases h
   | some us =>rw[hm] at h;cases h;have⟨h1,h2⟩:=Dw hm;grind
theorem z9(Y:Cy P KT N0 M O R D X Hd)(E:gz P KT An S s l)(C:Hd i (l++fr) w){bL:Func}(o:AR (VR S) aA.toArray tmps)(h:di P bL aA s=some v):∃q,VR S v q/\Reads P (results bL tmps) w q (yv (M i w)):=by
 have m:∀r u,mS P aA s r=some u->∃j,VR S u j/\Reads P ((λr=>match r with|.tmp t=>pure (tmps.getD t undef)|.cell a t=>do loadVar t (<-asAddr (tmps.getD a undef))) r) w j (yv (M i w)):=by
  intro r u b;cases r with
  | tmp t=>simp[mS] at b;subst b;exact⟨_,pm o t,Reads.pure _ _⟩
  | cell t ty=>exact FL Y E C (pm o t) b
 have c:∀(d:List ResultVar) (e:Vq),d.mapM (mS P aA s)=some e->∃U,e.length=U.length/\(∀(i:Nat) (x y:Value),e[i]?=some x->U[i]?=some y->VR S x y)/\Reads P (d.mapM (λr=>match r with|.tmp t=>pure (tmps.getD t undef)|.cell a t=>do loadVar t (<-asAddr (tmps.getD a undef)))) w U (yv (M i w)):=by
  intro d;induction d with
  | nil=>intro e b;simp at b;subst b;exact⟨[],rfl,λi x y k=>by simp at k,by rw[List.mapM_nil];exact Reads.pure _ _⟩
  | cons r d I =>
   intro e b;rw[List.mapM_cons] at b;cases g:mS P aA s r with
   | none=>rw[g] at b;cases b
   | some u =>
    rw[g] at b;cases hm:d.mapM (mS P aA s) with
    | none=>rw[hm] at b;cases b
    | some A =>
     rw[hm] at b;cases b;have⟨U,h1,h2,h3⟩:=I A hm;have⟨j,J,B⟩:=m r u g;refine⟨j::U,by simp[h1],λi x y k H=>?_,?_⟩
     .grind
     .rw[List.mapM_cons];exact B.bind (h3.bind (Reads.pure _ _))
 have f:∀U,Reads P (bL.results.toList.mapM (λr=>match r with|.tmp t=>pure (tmps.getD t undef)|.cell a t=>do loadVar t (<-asAddr (tmps.getD a undef)))) w U (yv (M i w))->Reads P (results bL tmps) w (if h:U.toArray.size=1 then U.toArray[0] else .tuple U.toArray) (yv (M i w)):=by intro U g;unfold results;rw[Array.mapM_eq_mapM_toList];refine Reads.bind ?_ (Reads.pure _ _);rw[map_eq_pure_bind];exact g.bind (Reads.pure _ _)
 unfold di at h;split at h
 .next r g =>
  have⟨U,h1,h2,h3⟩:=c [r] [v] gq;cases U with
  | nil=>simp at h1
  | cons u U =>
   have:U=[]:=gq
   subst this;refine⟨u,h2 0 v u rfl rfl,?_⟩;grind
 .next d z =>
  split at h
  .next e n =>
   cases h;have⟨U,h1,h2,h3⟩:=c _ e n;have p:=f U h3;have F:¬U.toArray.size=1:=by
    intro G;have:bL.results.toList.length=1:=by rw[(Dw n).1,h1];simpa using G
    match hq2:bL.results.toList,this with
    | [r],_=>exact z r hq2
   rw[dif_neg F] at p;exact⟨_,ju ⟨by simpa using h1,λi x y k H=>h2 i x y gq gq⟩,p⟩
  .cases h
end
end
section
open Go.Conc Go.RowKit Go.Lib Tryz
variable {j m q:Nat}{f:FuncId}{ops:Array Oper}{o:Oper}{v:Value}{s' s1:AS}{args:Aq}{w:World}{ι:Type}{N0:ι->Nat}{M:ι->World->Nat->Prop}{R:ι->Wq}{D:ι->World->World->Array Event->Prop}{X:ι->Gq}{Hd:ι->Hq->World->Prop}{i1:ι}{K:TL->AS->Prop}
variable {a:TL}{b cp e i id m0 n off sz z:Nat}{g:FuncId}{t ty:TypeId}{x y:Operand}{v':Value}{s s0 s1':AS}{α:Type}{o' ob:Obj}{mk:Nq}{k:IntKind}{cap cs first:Aq}{c:Code}{r:Int}{cl:Call}{l:Bq}{fz:Nat × Nat}
def wD{a b:ByteArray}(h:cZ a.data.toList b.data.toList=true):a=b:=by rw[AF] at h;exact qZ<|eq_of_beq h
theorem tM{f:Value × Value->Bool}:∀(l m:Vq),l.length=m.length->(l.zip m).all f=true->(∀p,f p=true->p.1=p.2)->l=m
 | [],[],_,_,_=>rfl
 | x::l,y::m,U,h,hf=>by simp only[List.zip_cons_cons,List.all_cons,nU] at h;rw[show x=y from hf _ h.1,tM l m gq h.2 hf]
 | [],_::_,U,_,_=>by simp at U
 | _::_,[],U,_,_=>by simp at U
theorem kv:∀{n:Nat} {x y:Value},qB n x y=true->x=y
 | 0,_,_,h=>by simp[qB] at h
 | n+1,x,y,h=>by
  have U:∀p:Value × Value,qB n p.1 p.2=true->p.1=p.2:=λp c=>kv c;unfold qB at h;split at h
  .rw[eq_of_beq h]
  .grind
  .rw[wD h]
  .rw[eq_of_beq h]
  .simp only[nU] at h;rw[eq_of_beq h.1.1,iC h.1.2,iC h.2]
  .simp only[nU] at h;obtain⟨⟨⟨⟨h1,h2⟩,h3⟩,a⟩,b⟩:=h;rw[eq_of_beq h1,wu.1<|tM _ _ (iC h2) a U,wu.1<|tM _ _ (iC h3) b U]
  .simp only[nU] at h;rw[wu.1 (tM _ _ (iC h.1) h.2 U)]
  .rfl
  .rfl
  .cases h
theorem Dh{acc:List Nat}:∀(l:List Edge) m,(l.foldl (λm e=>if Region.binds .any e then m ||| (1 <<< e.on ||| acc.getD e.on 0) else m) m).testBit j=true ->
  m.testBit j=true\/∃e∈l,Region.binds .any e=true/\(j=e.on\/(acc.getD e.on 0).testBit j=true)
 | [],m,h=>.inl h
 | e::l,m,h=>by
  simp only[List.foldl_cons] at h;rcases Dh l _ h with q|⟨e',U,q⟩
  .split at q
   .next hb =>
    simp only[Nat.testBit_or,G6] at q;rcases q with q|q|q
    .exact .inl q
    .rw[Nat.one_shiftLeft,Nat.testBit_two_pow] at q;exact .inr ⟨e,iq,hb,.inl gq⟩
    .exact .inr ⟨e,iq,hb,.inr q⟩
   .exact .inl q
  .exact .inr ⟨e',by simp[U],q⟩
theorem uN:∀(U:List Oper) (acc:List Nat),(ij U acc).take acc.length=acc/\(ij U acc).length=acc.length+U.length/\∀(m:Nat) (o:Oper),U[m]?=some o->(ij U acc)[acc.length+m]?=some (Hk ((ij U acc).take<|acc.length+m) o)
 | [],acc=>⟨by simp[ij],by simp[ij],λm o h=>by simp at h⟩
 | o::rest,acc=>by
  have⟨h1,h2,h3⟩:=uN rest<|acc++[Hk acc o];have e:ij (o::rest) acc=ij rest _:=Y;rw[e];have a:(ij rest<|acc++[Hk acc o]).take acc.length=acc:=by have:=congrArg (List.take acc.length) h1;grind
  refine⟨a,by rw[h2];simp;omega,λm c b=>?_⟩;cases m with
  | zero =>
   simp at b;subst b;rw[Nat.add_zero,a]
   have:=congrArg (λl=>l[acc.length]?) h1;grind
  | succ m =>grind
def mF(ops:Array Oper)(i j:Nat):Prop:=((ij ops.toList []).getD i 0).testBit j=true
theorem wY(c:iM ops=true)(d:ops[i]?=some o)(h:mF ops i j):∃e∈o.after,Region.binds .any e=true/\(j=e.on\/mF ops e.on j):=by
 have⟨_,_,h3⟩:=uN ops.toList [];have b:=h3 i o gq;simp only[List.length_nil,Nat.zero_add] at b;unfold mF at h;rw[Dj,b,Option.getD_some] at h;rcases Dh _ _ h with q|⟨e,he,q1,q2⟩
 .simp at q
 .have U:e∈o.after:=by simpa using he
  refine⟨e,U,q1,q2.imp id λq=>?_⟩;have a:=nY c d U q1;unfold mF;rw[Dj,HA,ip a] at q;rw[Dj];exact q
theorem wX(U:iM ops=true):∀(i:Nat) {j:Nat},i<ops.size->mF ops i j->j<i:=by
 intro i;induction i using Nat.strongRecOn with
 | _ i ih =>intro j c h;have a:=gF c;have⟨e,b,h1,h2⟩:=wY U a h;have d:=nY U a b h1;grind
def pZ(ops:Array Oper)(J:Nat->Bool):Prop:=∀i j,i<ops.size->J i=true->mF ops i j->J j=true
def gC(c:iM ops=true){J:Nat->Bool}(f:pZ ops J)(hi:i<ops.size)(g:rQ ops J i)(h:mF ops i j):J j=true:=by
 have a:=gF hi;have⟨e,d,h1,h2⟩:=wY c a h;have b:=g _ a e d h1;rcases h2 with rfl|h2
 .exact b
 .exact f e.on j (by have:=nY c a d h1;omega) b h2
section
variable {P:Program}{kt:TypeId->Bool}{call:FuncId->Aq->AS->Option (Value × AS)}
def EA (tr:List (TL × Value × AS))(m:Nat):Value:=match tr[m]? with
 | some (_,v,_)=>v
 | none=>undef
def vG (todo:List Oper)(tr:List (TL × Value × AS))(a:TL):Nat->TL
 | 0=>a
 | m+1=>(vG todo tr a m).put ((todo[m]?).bind (·.dst))<|EA tr m
def Ad(o:Oper)(rest:List Oper)(tr:List (TL × Value × AS))(a a0:TL)(v:Value)(s1:AS):∀m,vG (o::rest) ((a0,v,s1)::tr) a (m+1)=vG rest tr (a.put o.dst v) m
 | 0=>rfl
 | m+1=>by have:=Ad o rest tr a a0 v s1 m;rw[vG,this,vG];rfl
def uW(x:TL × Value × AS)(tr:List (TL × Value × AS))(s:AS):∀m,m<=tr.length->jQ (x::tr) s (m+1)=jQ tr x.2.2 m
 | 0,_=>rfl
 | m+1,h=>by have:tr[m]?=some tr[m]:=gE oq;simp[jQ,this]
def E3(P:Program)(kt:TypeId->Bool)(call:FuncId->Aq->AS->Option (Value × AS))(ops:Array Oper)(o:Oper)(a:TL)(s:AS)(v:Value)(s':AS):Prop :=
 (Region.wanted o (cg ops a)=true/\cf P kt call a o s=some (v,s'))\/(Region.wanted o (cg ops a)=false/\v=undef/\s'=s)
theorem zn:∀(c:List Oper) {a:TL} {s:AS} {tr:List (TL × Value × AS)},sn P kt call ops c a s=some tr->tr.length=c.length/\∀(m:Nat) (o:Oper),c[m]?=some o ->
  tr[m]?=some (vG c tr a m,EA tr m,jQ tr s<|m+1)/\E3 P kt call ops o (vG c tr a m) (jQ tr s m) (EA tr m) (jQ tr s<|m+1)
 | [],a,s,tr,h=>by simp[sn] at h;subst h;exact⟨Y,λm o h=>by simp at h⟩
 | o::rest,a,s,tr,h=>by
  have key:∀v b U,(Region.wanted o (cg ops a)=true/\cf P kt call a o s=some (v,b))\/(Region.wanted o (cg ops a)=false/\v=undef/\b=s)->sn P kt call ops rest (a.put o.dst v) b=some U->tr=(a,v,b)::U ->
    tr.length=(o::rest).length/\∀(m:Nat) (o':Oper),(o::rest)[m]?=some o'->tr[m]?=some (vG (o::rest) tr a m,EA tr m,jQ tr s<|m+1)/\E3 P kt call ops o' (vG (o::rest) tr a m) (jQ tr s m) (EA tr m) (jQ tr s<|m+1):=by
   rintro v b U f g rfl;have⟨h1,h2⟩:=zn rest g;refine⟨by simp[h1],λm o' d=>?_⟩;cases m with
   | zero =>simp at d;subst d;exact⟨Y,f⟩
   | succ m =>
    have e:rest[m]?=some o':=gq
    have l:m<U.length:=gq
    have⟨n,p⟩:=h2 m o' e;have e1:=Ad o rest U a a v b m;have i:=uW (a,v,b) U s m oq;have j:=uW (a,v,b) U s (m+1) oq;have k:EA ((a,v,b)::U) (m+1)=EA U m:=Y;grind
  unfold sn at h;grind
end
structure lQ(P:Program)(kt:TypeId->Bool)(call:FuncId->Aq->AS->Option (Value × AS))(ops:Array Oper)(q:Nat)(aA:TL)(s:AS)(sl:Nat->TL)(vl:Nq)(hp:Nat->AS):Prop where
 back:iM ops=true
 le:q<=ops.size
 s0:sl 0=aA
 h0:hp 0=s
 sl1:∀m o,ops[m]?=some o->sl (m+1)=(sl m).put o.dst (vl m)
 step:∀m o,ops[m]?=some o->E3 P kt call ops o (sl m) (hp m) (vl m) (hp<|m+1)
 last:∀i j,q<=i->i<ops.size->j<i->mF ops i j
 data:∀i o t j o',i<q->ops[i]?=some o->.tmp t∈o.op.operands->j<q->ops[j]?=some o'->o'.dst=some t->mF ops i j
 guard:∀i o j b,i<q->ops[i]?=some o->o.guard=some (j,b)->mF ops i j/\j<q
 once:∀i j o o' t,i<q->j<q->ops[i]?=some o->ops[j]?=some o'->o.dst=some t->o'.dst=some t->i=j
 chain:∀i j o o',i<q->ops[i]?=some o->kindOf P o=3->j<i->ops[j]?=some o'->2<=kindOf P o'->mF ops i j
 Yf:∀r o t x,r<q->ops[r]?=some o->o.op=.load t x->Region.wanted o (cg ops<|sl r)=true->∀p,(p=0\/∃e o',p=e+1/\e<q/\ops[e]?=some o'/\kindOf P o'=3) ->
  (∀e o',e<q->ops[e]?=some o'->kindOf P o'=3->(e<p->¬mF ops e r)/\(p<=e->¬mF ops r e))->bV P t ((sl r).at x) (hp p)=some (vl r)
variable {aA nS:TL}{sl:Nat->TL}{vl:Nq}{hp:Nat->AS}
section
variable {P:Program}{kt:TypeId->Bool}{call:FuncId->Aq->AS->Option (Value × AS)}{s:AS}
def uY(kJ:List Nat):∀n,kL kJ n<=n
 | 0=>iz _
 | n+1=>by
  unfold kL;split
  .exact lT (uY kJ n) oq
  .exact iz _
theorem fP{f:Nat->Bool}(h:(List.range n).all f=true)(hi:i<n):f i=true:=gq
theorem C1(h:nZ P kt call ops aA s=some (nS,s')):∃q Q vl y,lQ P kt call ops q aA s Q vl y/\Q ops.size=nS/\y ops.size=s':=by
 unfold nZ at h;simp only at h;split at h
 .cases h
 .next H =>
  simp only[not_or,Bool.not_eq_false] at H;have⟨S,B⟩:=H;split at h
  .next A W =>
   split at h
   .cases h
   .next w =>
    simp only[Bool.not_eq_false] at w;have⟨t1,L⟩:=zn _ W;have J:ops.toList.length=ops.size:=iq
    refine⟨kL (ij ops.toList []) ops.toList.length,vG ops.toList A aA,EA A,jQ A s,?_,?_⟩
    .unfold FY at B;simp only[nU] at B;obtain⟨⟨k1,K⟩,k3⟩:=B;have a:∀{i:Nat} {o:Oper},ops[i]?=some o->ops.toList[i]?=some o:=λc=>by simpa using c
     refine⟨S,by rw[<-J];exact uY _ _,rfl,rfl,λm o c=>?_,λm o c=>(L m o<|a c).2,λi j f H k=>?_,λi o t j d f c ht k U C=>?_,λi o j b f c G=>?_,λi j o d t f k c U C D=>?_,λi j o d f c v k U Oj=>?_,λr o t x hr c I hw p y hE=>?_⟩
     .have G:=a c;simp only[vG,G,yY]
     .have:=fP k1 oq;simp only[G6,decide_eq_true_eq] at this;rcases this with z|z
      .omega
      .exact fP z k
     .have:=fP K f;rw[a c] at this;simp only[nU] at this;have h1:=this.1.1;rw[aT] at h1;have h2:=h1 t (by simp only[tmpsOf,List.mem_filterMap];exact⟨.tmp t,by simpa using ht,rfl⟩);have h3:=fP h2 k;rw[a U] at h3;simp only[yY,C,bne_self_eq_false,Bool.false_or] at h3;exact h3
     .have:=fP K f;rw[a c] at this;simp only[nU] at this;have h1:=this.1.2;rw[G] at h1;simp only[nU,decide_eq_true_eq] at h1;exact h1
     .have:=fP K f;rw[a c] at this;simp only[nU] at this;have h1:=fP this.2 k;rw[a U] at h1;simp only[yY,C,D,bne_self_eq_false,Bool.or_false,G6,beq_iff_eq,reduceCtorEq,or_false] at h1;exact h1
     .have:=fP k3 f;have e1:(ops.toList.map<|kindOf P).getD i 0=3:=gq
      simp only[e1,bne_self_eq_false,Bool.false_or] at this;have h1:=fP this k;have Y:(ops.toList.map<|kindOf P).getD j 0=kindOf P d:=gq
      rw[Y] at h1;have Z:(kindOf P d).blt 2=false:=by
       rw[Bool.eq_false_iff];intro hb
       have:=Eq.mp Nat.blt_eq hb;omega
      rw[Z,Bool.false_or] at h1;exact h1
     .unfold qm at w;simp only at w;have h1:=fP w hr;rw[a c,(L r o<|a c).1] at h1;simp only[I] at h1;rw[aT] at h1;have n:p∈0::(((List.range<|kL (ij ops.toList []) ops.toList.length).filter λi=>(match ops.toList[i]? with|some o=>kindOf P o|none=>0)==3).map (·+1)):=by
       rcases y with rfl|⟨e,d,rfl,E,U,v⟩
       .simp
       .refine Dv _<|List.mem_map.2 ⟨e,List.mem_filter.2 ⟨List.mem_range.2 E,?_⟩,rfl⟩;rw[a U];simp[v]
      have h2:=h1 p n;simp only[G6,hw,Bool.not_true,lI,or_false] at h2;rcases h2 with z|z
      .rw[List.any_eq_true] at z;have⟨e,E,z⟩:=z;have⟨g,F⟩:=List.mem_filter.1 E;have g:=List.mem_range.1 g;obtain⟨d,U⟩:∃d,ops[e]?=some d:=⟨_,gF gq⟩;rw[a U] at F;have v:kindOf P d=3:=gq
       have⟨z1,z2⟩:=hE e d g U v;simp only[G6,nU,Bool.not_eq_true'] at z;rcases z with ⟨za,zb⟩|⟨za,zb⟩
       .exact absurd zb<|z1<|Eq.mp Nat.blt_eq za
       .refine absurd zb<|z2 ?_;apply Classical.byContradiction;intro a9;rw[Eq.mpr Nat.blt_eq oq] at za;cases za
      .split at z
       .next v' X=>rw[X,kv z]
       .cases z
    .split at h
     .next R v1 s1 ab O oo T N =>
      cases h;have aa:0<ops.size:=by have:=congrArg List.length N;simp at this;omega
      obtain⟨m,hm⟩:∃m,ops.size=m+1:=⟨ops.size-1,oq⟩;have u:ops.toList[m]?=some O:=by have:=congrArg (λl=>l[0]?) N;simp only[OX] at this;rw[List.getElem?_reverse (by simp;omega)] at this;rw[<-this];congr 1;simp;omega
      have V:A[m]?=some (R,v1,s'):=by have:=congrArg (λl=>l[0]?) T;simp only[OX] at this;rw[List.getElem?_reverse gq] at this;rw[<-this];congr 1;rw[t1];simp;omega
      have⟨M,u2⟩:=L m O u;rw[V] at M;simp only[xH,Prod.mk.injEq] at M;have⟨u3,u4,u5⟩:=M;rw[hm];refine⟨?_,u5.symm⟩;simp only[vG,u,yY,<-u3,<-u4]
     .cases h
  .cases h
end
variable {J':Nat->Bool}{S:eN}
section
variable {P:Program}{kt:TypeId->Bool}{call:FuncId->Aq->AS->Option (Value × AS)}{s:AS}{J:Nat->Bool}{a:Act}
def Cz(ops:Array Oper)(q:Nat)(aA:TL)(vl:Nq)(J:Nat->Bool)(t:Nat)(x:Value):Prop :=
 (∃m o,m<q/\ops[m]?=some o/\o.dst=some t/\J m=true/\x=vl m)\/((∀m o,m<q->ops[m]?=some o->o.dst=some t->J m=false)/\x=aA.getD t undef)
def sa{t:Nat}{x:Value}(h:Cz ops q aA vl J t x)(d:∀m o,m<q->ops[m]?=some o->o.dst=some t->J m=J' m):Cz ops q aA vl J' t x:=by
 rcases h with ⟨m,o,h1,h2,h3,h4,h5⟩|⟨h1,h2⟩
 .exact .inl ⟨m,o,h1,h2,h3,by rw[<-d m o h1 h2 h3];exact h4,h5⟩
 .exact .inr ⟨λm o a b c=>by rw[<-d m o a b c];exact h1 m o a b c,h2⟩
def xL(d:lQ P kt call ops q aA s sl vl hp):∀m,m<=ops.size->(sl m).length=aA.length
 | 0,_=>by rw[d.s0]
 | m+1,h=>by
  have ho:ops[m]?=some (ops[m]'oq):=gF oq;rw[d.sl1 m _ ho]
  have:=xL d m oq;cases hd:(ops[m]'oq).dst with
  | none=>exact this
  | some t=>show(Du _ t<|vl m).length=_;rw[sS,List.length_set];exact this
theorem Lz(d:lQ P kt call ops q aA s sl vl hp){t:Nat}(c:t<aA.length):∀m,m<=q->Cz ops q aA vl (λk=>decide (k<m)) t ((sl m).getD t undef)
 | 0,_=>.inr ⟨λm o _ _ _=>iq,by rw[d.s0]⟩
 | m+1,h=>by
  have hm:m<ops.size:=by have:=d.le;omega
  have U:=gF hm;rw[d.sl1 m _ U];by_cases b:(ops[m]).dst=some t
  .refine .inl ⟨m,_,oq,U,b,iq,?_⟩;rw[b];show(Du _ t<|vl m).getD t undef=_;rw[sS,Dj,List.getElem?_set];simp[(xL d m oq),c]
  .have e:((sl m).put (ops[m]).dst<|vl m).getD t undef=(sl m).getD t undef:=by
    cases a0:(ops[m]).dst with
    | none=>rfl
    | some u =>show(Du _ u<|vl m).getD t undef=_;rw[sS,Dj,List.getElem?_set,iw gq,<-Dj]
   rw[e];refine sa (Lz d c m oq) λk o j i g=>?_;grind
def CI(ops:Array Oper)(q:Nat)(aA:TL)(vl:Nq)(J:Nat->Bool)(S:eN)(a:Act):Prop :=
 a.tmps.size=aA.length/\a.defers=[]/\∀t x,t<aA.length->Cz ops q aA vl J t x->VR S x (a.tmps.getD t undef)
theorem xM(d:lQ P kt call ops q aA s sl vl hp)(U:CI ops q aA vl J S a){t:Nat}(c:m<=q)(e:∀j o,j<q->ops[j]?=some o->o.dst=some t->(J j=true↔j<m)):VR S ((sl m).getD t undef) (a.tmps.getD t undef):=by
 by_cases b:t<aA.length
 .refine U.2.2 t _ b<|sa (Lz d b m c) λj o h1 h2 h3=>?_;grind
 .have h1:(sl m)[t]?=none:=List.getElem?_eq_none (by rw[xL d m (by have:=d.le;omega)];omega);have h2:a.tmps[t]?=none:=Array.getElem?_eq_none (by rw[U.1];omega);rw[Dj,h1,Jw,h2];exact fx
theorem Lg{x:Vq}{y:Aq}{t:Nat}(a:x.length=y.size)(h:VR S (x.getD t undef) (y.getD t undef))(b:Bool):x[t]?=some (.bool b)↔y[t]?=some (.bool b):=by
 by_cases U:t<y.size
 .have h1:x[t]?=some (x[t]'oq):=gE _;have h2:=gF U;rw[Dj,h1,Jw,h2,Option.getD_some,Option.getD_some] at h;rw[h1,h2];constructor
  .intro e;simp only[xH] at e |-;rw[e] at h;exact h.sc Y
  .intro e;simp only[xH] at e |-;rw[e] at h;exact h.CR
 .grind
theorem C0(d:lQ P kt call ops q aA s sl vl hp)(g:CI ops q aA vl J S a)(p:pZ ops J)(v:m<q)(w:ops[m]?=some o)(x:rQ ops J m):Region.wanted o (yielded ops a.tmps)=Region.wanted o (cg ops<|sl m):=by
 have U:m<ops.size:=gq
 unfold Region.wanted;split
 .rfl
 .next j i u =>
  have⟨h,l⟩:=d.guard m o j i v w u;rw[tG λt y b=>?_];have c:(sl m).length=a.tmps.size:=by rw[xL d m oq,g.1]
  refine Lg c (xM d g oq λz A k n r=>?_) b;obtain⟨f,e⟩:∃f,ops[j]?=some f:=⟨_,gF gq⟩;rw[e] at y
  have:=d.once z j A f t k l n e r gq;subst this;exact⟨λ_=>wX d.back m U h,λ_=>gC d.back p U x h⟩
theorem uy(d:lQ P kt call ops q aA s sl vl hp)(U:CI ops q aA vl J S a){S':eN}(i:S.le S')(j:m<q)(l:ops[m]?=some o)(p:J m=false)(n:VR S' (vl m) v'):CI ops q aA vl (λk=>if k=m then true else J k) S' (a.put o.dst v'):=by
 refine⟨?_,?_,λt x c e=>?_⟩
 .cases b:o.dst<;>simp[Act.put,U.1]
 .cases b:o.dst<;>exact U.2.1
 .by_cases b:o.dst=some t
  .have h:x=vl m:=by
    rcases e with ⟨k,f,h1,h2,h3,h4,h5⟩|⟨h1,h2⟩
    .have:=d.once k m f o t h1 j h2 l h3 b;subst this;exact h5
    .grind
   subst h;rw[b];show VR S' (vl m) ((a.tmps.setIfInBounds t v').getD t undef);rw[Jw,Array.getElem?_setIfInBounds];simp only[if_true];rw[ip (by rw[U.1];exact c)];exact n
  .have g:Cz ops q aA vl J t x:=sa e λk f h1 h2 h3=>gq
   have:=(U.2.2 t x c g).mono i;cases ZF:o.dst with
   | none=>exact this
   | some u =>show VR S' x ((a.tmps.setIfInBounds u v').getD t undef);rw[Jw,Array.getElem?_setIfInBounds,iw gq,<-Jw];exact this
theorem uP{a:TL}(U:kindOf P o=0)(h:cf P kt call a o s1=some (v,s1')):s1'=s1/\∀d,cf P kt call a o d=some (v,d):=by
 unfold kindOf at U;split at U
 .cases U
 .next g =>
  unfold cf at h |-;rw[iw g] at h;cases a0:o.op<;>simp only[a0] at U h |-<;>first
   | (cases U;done)
   | skip
  case slice t x lo hi mx =>
   split at U
   .next i =>
    have e:∀d,jh P t (a.at x) (lo.map a.at) (hi.map a.at) (mx.map a.at) d=jh P t (a.at x) (lo.map a.at) (hi.map a.at) (mx.map a.at) s1:=λd=>by unfold jh;grind
    split at h
    .grind
    .cases h
   .cases U
  case call c =>
   rw[a0] at g;cases hc:c.callee with
   | value f=>rw[hc] at U;simp at U
   | invoke r n=>rw[hc] at U;simp at U
   | builtin b =>
    rw[hc] at h U;simp only at h U;split at h
    .grind
    .next j =>exfalso;unfold gl at h;grind
  case convert t u x =>
   rw[a0] at g;have e:∀d,ir P t u (a.at x) d=none:=λd=>by unfold ir;grind
   split at h
   .grind
   .rw[e] at h;cases h
  all_goals
   rw[a0] at g
   split at h
   .grind
   .cases h
end
theorem yG{a:Type}{f:α->a}{l:List α}(h:(l.map f).Nodup){x y:α}(U:x∈l)(b:y∈l)(e:f x=f y):x=y:=by
 induction l with
 | nil=>simp at U
 | cons z l c =>grind
variable {An:eN}
section
variable {P:Program}{KT:TypeId->Prop}{s:AS}{l l':Hq}
def gz.more(h:gz P KT An S s l)(c:∀x∈l,x∈l'):gz P KT An S s l':=⟨λb o a=>by have⟨g,z,e,d,h1,h2,h3⟩:=h.live b o a;exact⟨g,z,e,d,h1,c _ h2,h3⟩,h.inj,h.lt,h.an⟩
theorem gz.Wm(h:gz P KT An S s l){g:Nat}(i:S s.nx=some (g,z,e))(f:(g,o')∈l)(j:OR S z ob o')(k:∀a t c,ob=.cells a t c->cz P t=some e/\¬KT t)(d:∀b o x,s.get b=some o->S b=some x->x.1≠g):gz P KT An S (s.add ob) l where
 live b ob1 hb:=by
  rw[AS.aZ] at hb
  split at hb
  .
   grind
  .
   exact h.live b ob1 hb
 inj b b' o1 o2 x x' hb uU hx Dq he:=by
  rw[AS.aZ] at hb uU
  split at hb<;>split at uU
  .
   omega
  .
   grind
  .
   grind
  .
   exact h.inj b b' o1 o2 x x' hb uU hx Dq he
 lt b ob1 hb:=by
  rw[AS.aZ] at hb
  split at hb
  .
   next U=>simp[U]
  .
   have:=h.lt b ob1 hb;simp;omega
 an:=h.an
end
variable {S0 S1:eN}{a1:Act}{fr l1:Hq}{w1:World}{p:Nat}{B:Nat->Nat × Obj}{As:List Nat}
variable {P:Program}{KT:TypeId->Prop}{O:ι->Nat->Prop}
section
variable {kt:TypeId->Bool}{call:FuncId->Aq->AS->Option (Value × AS)}{s:AS}{J:Nat->Bool}{a:Act}{l:Hq}{i:ι}
def oQ(P:Program)(kt:TypeId->Bool)(ops:Array Oper)(sl:Nat->TL)(vl:Nq)(hp:Nat->AS)(m:Nat)(ob:Obj)(mk:Nq):Prop :=
 ∃o,ops[m]?=some o/\kindOf P o=2/\Region.wanted o (cg ops<|sl m)=true/\wR P kt (sl m) o=some (ob,mk)/\hp (m+1)=(hp m).add ob/\vl m=mk (hp m).nx
structure Cd(P:Program)(KT:TypeId->Prop)(An:eN)(Hd:ι->Hq->World->Prop)(kt:TypeId->Bool)(ops:Array Oper)(q:Nat)(aA:TL)(s:AS)(sl:Nat->TL)(vl:Nq)(hp:Nat->AS)(S0:eN)(fr:Hq)(J:Nat->Bool)(i:ι)(a:Act)(w:World)(p:Nat)(S:eN)(l:Hq)(B:Nat->Nat × Obj)(As:List Nat):Prop where
 pq:p<=q
 KD:∀m o,m<q->ops[m]?=some o->kindOf P o=3->(J m=true↔m<p)
 VV:p=0\/∃e o',p=e+1/\e<q/\ops[e]?=some o'/\kindOf P o'=3
 low:∀m ob mk,m<p->oQ P kt ops sl vl hp m ob mk->J m=true
 nd:As.Nodup
 mem:∀m,m∈As↔(m<q/\p<=m/\J m=true/\∃ob mk,oQ P kt ops sl vl hp m ob mk)
 yM:gz P KT An S (hp p) l
 hd:Hd i (l++(As.map B++fr)) w
 D5:∀m∈As,∃ob mk z e,oQ P kt ops sl vl hp m ob mk/\S (hp m).nx=some ((B m).1,z,e)/\OR S z ob (B m).2/\∀cs t fz,ob=.cells cs t fz->cz P t=some e/\¬KT t
 fresh:∀b,(hp p).nx<=b->b<(hp ops.size).nx->S b≠none->∃m∈As,b=(hp m).nx
 le:S0.le S
 out:∀b,b<s.nx\/(hp ops.size).nx<=b->S b=S0 b
 nK:CI ops q aA vl J S a
def HI(c:∀f a s v b,call f a s=some (v,b)->s.nx<=b.nx)(d:lQ P kt call ops q aA s sl vl hp)(e:m<ops.size):(hp m).nx<=(hp<|m+1).nx:=by
 have g:=gF e;rcases d.step m _ g with ⟨_,h⟩|⟨_,_,h⟩
 .exact vV c h
 .rw[h];exact iz _
def eI(hc:∀f args s v s',call f args s=some (v,s')->s.nx<=s'.nx)(d:lQ P kt call ops q aA s sl vl hp):∀{m'},m<=m'->m'<=ops.size->(hp m).nx<=(hp m').nx
 | 0,h,_=>by rw[Nat.le_zero.1 h];exact iz _
 | m'+1,h,h'=>by
  by_cases e:m=m'+1
  .rw[e];exact iz _
  .exact lT (eI hc d oq oq)<|HI hc d oq
def oQ.nx(h:oQ P kt ops sl vl hp m ob mk):(hp<|m+1).nx=(hp m).nx+1:=by have⟨o,_,_,_,_,h,_⟩:=h;rw[h];rfl
theorem zI(d:lQ P kt call ops q aA s sl vl hp)(e:ops[m]?=some o)(j:kindOf P o≠3):(∃b a,oQ P kt ops sl vl hp m b a)\/((¬∃b a,oQ P kt ops sl vl hp m b a)/\hp (m+1)=hp m):=by
 rcases d.step m o e with ⟨hw,h⟩|⟨hw,hv,h⟩
 .by_cases h2:fR o.op=true
  .have i:kindOf P o=2:=by unfold kindOf;rw[ip h2]
   have U:=h;unfold cf at U;rw[ip h2] at U;split at U
   .next b a c =>simp only[xH,Prod.mk.injEq] at U;exact .inl ⟨b,a,o,e,i,hw,c,U.2.symm,U.1.symm⟩
   .cases U
  .right;refine⟨?_,?_⟩
   .rintro⟨b,a,o',a0,_,_,c,_⟩;rw[e] at a0;cases a0;unfold wR at c;cases f:o.op<;>simp only[f] at c h2<;>first|(cases c;done)|(simp[fR] at h2)
   .by_cases k:∃t x,o.op=.load t x
    .have⟨t,x,f⟩:=k;unfold cf at h;grind
    .have g:kindOf P o=0:=by unfold kindOf at j |-;grind
     exact(uP g h).1
 .grind
theorem Cd.merge(Y:Cy P KT N0 M O R D X Hd)(d:lQ P kt call ops q aA s sl vl hp)(h:Cd P KT An Hd kt ops q aA s sl vl hp S0 fr J i a w p S l B As)(h0:m0<=q)(H:∀m o,p<=m->m<m0->ops[m]?=some o->kindOf P o≠3)(G:∀m,p<=m->m<m0->(∃F E,oQ P kt ops sl vl hp m F E)->m∈As) :
  ∀m,p<=m->m<=m0->gz P KT An S (hp m) (l++(As.filter (·<m0)).map B)/\∀b o,(hp m).get b=some o->(∃u,(hp p).get b=some u)\/∃n∈As,n<m/\b=(hp n).nx:=by
 have y:=(Y.Z h.hd).nodup h.hd;rw[Bf,Bf,List.nodup_append,List.nodup_append] at y;obtain⟨I,⟨j,_,_⟩,t⟩:=y;rw[List.map_map] at j;intro m;induction m with
 | zero =>
  intro h1 _;have:p=0:=oq
  subst this;exact⟨h.yM.more λx c=>KM _ c,λb o f=>.inl ⟨o,f⟩⟩
 | succ m L =>
  intro h1 h2;by_cases e:p=m+1
  .subst e;exact⟨h.yM.more λx c=>KM _ c,λb o f=>.inl ⟨o,f⟩⟩
  .obtain⟨K,i2⟩:=L oq oq;have r:m<ops.size:=by have:=d.le; omega
   have C:=Array.getElem?_eq_getElem r;rcases zI d C (H m _ oq oq C) with hA|⟨_,hA⟩
   .have U:=G m oq oq hA;obtain⟨F,E,z,e',N,Q,T,V⟩:=h.D5 m U;obtain⟨o1,_,_,_,_,W,_⟩:=N;rw[W];refine⟨K.Wm Q (MC _<|List.mem_map.2 ⟨m,List.mem_filter.2 ⟨U,by simp; omega⟩,rfl⟩) T V λb k x f c=>?_,λb k f=>?_⟩
    .intro A;rcases i2 b k f with ⟨u,uU⟩|⟨n,KG,mH,rfl⟩
     .obtain⟨g,zz,ee,oo,r1,v,_⟩:=h.yM.live b u uU;rw[r1] at c;cases c;exact t g (List.mem_map.2 ⟨_,v,rfl⟩) (B m).1 (KM _<|List.mem_map.2 ⟨B m,List.mem_map.2 ⟨m,U,rfl⟩,rfl⟩) A
     .obtain⟨_,_,z',e2,_,v,_⟩:=h.D5 n KG;rw[v] at c;cases c
      have:=yG j KG U A;omega
    .rw[AS.aZ] at f;grind
   .grind
end
variable {fn:FuncId}
section
variable {kt:TypeId->Bool}{call:FuncId->Aq->AS->Option (Value × AS)}{s:AS}{J:Nat->Bool}{a:Act}{l:Hq}{i:ι}{Q:gY ι}{rest:List Nat}
abbrev jJ(J:Nat->Bool)(m:Nat):Nat->Bool:=λk=>if k=m then true else J k
def Cd.Yh(h:Cd P KT An Hd kt ops q aA s sl vl hp S0 fr J i a w p S l B As)(e:J m=false)(b:∃d c,oQ P kt ops sl vl hp m d c):p<=m:=by apply Classical.byContradiction;intro f;obtain⟨d,c,b⟩:=b;rw[h.low m d c oq b] at e;cases e
theorem Cd.same(d:lQ P kt call ops q aA s sl vl hp)(h:Cd P KT An Hd kt ops q aA s sl vl hp S0 fr J i a w p S l B As)(r:m<q)(t:ops[m]?=some o)(n:J m=false)(D:kindOf P o≠3)(C:¬∃f c,oQ P kt ops sl vl hp m f c)(U:S.le S1)(g:∀b,S1 b=S b)(u:VR S1 (vl m) v')(j:gz P KT An S1 (hp p) l1)(k:Hd i1 (l1++(As.map B++fr)) w1) :
  Cd P KT An Hd kt ops q aA s sl vl hp S0 fr (jJ J m) i1 (a.put o.dst v') w1 p S1 l1 B As where
 pq:=h.pq
 KD m' o' h1 h2 h3:=by
  by_cases e:m'=m
  .
   grind
  .
   simp only[jJ,if_neg e]; exact h.KD m' o' h1 h2 h3
 VV:=h.VV
 low m' f c h1 h2:=by
  by_cases e:m'=m
  .
   simp[jJ,e]
  .
   simp only[jJ,if_neg e]; exact h.low m' f c h1 h2
 nd:=h.nd
 mem m':=by
  rw[h.mem]
  grind
 yM:=j
 hd:=k
 D5 m' KG:=by
  obtain⟨f,c,z,e,v,x,y,A⟩:=h.D5 m' KG
  exact⟨f,c,z,e,v,U _ _ x,y.mono U,A⟩
 fresh b h1 h2 h3:=h.fresh b h1 h2 gq
 le:=cQ h.le U
 out b hb:=by rw[g]; exact h.out b hb
 nK:=uy d h.nK U r t n u
theorem Cd.new(F:∀f A s v s',call f A s=some (v,s')->s.nx<=s'.nx)(Y:Cy P KT N0 M O R D X Hd)(d:lQ P kt call ops q aA s sl vl hp)(h:Cd P KT An Hd kt ops q aA s sl vl hp S0 fr J i a w p S l B As)(hm:m<q)(ho:ops[m]?=some o)(I:J m=false)(u:oQ P kt ops sl vl hp m ob mk)(aa:∀b,s.nx<=b->b<(hp ops.size).nx->S0 b=none)
 {g:Nat}(hF:Hd i1 ((g,o')::(l++(As.map B++fr))) w1)(hr:∀H nm,S.le H->H nm=some (g,z,e)->OR H z ob o'/\VR H (mk nm) v')(ht:∀cs t fz,ob=.cells cs t fz->cz P t=some e/\¬KT t) :
  S (hp m).nx=none/\Cd P KT An Hd kt ops q aA s sl vl hp S0 fr (jJ J m) i1 (a.put o.dst v') w1 p (S.put (hp m).nx (g,z,e)) l (λk=>if k=m then (g,o') else B k) (m::As):=by
 have a8:=h.Yh I ⟨ob,mk,u⟩;have Xx:m<ops.size:=gq
 have T:m∉As:=λz=>by rw[((h.mem m).1 z).2.2.1] at I;cases I
 have a9:s.nx<=(hp m).nx:=by rw[<-d.h0];exact eI F d (Nat.zero_le _) oq
 have a6:(hp m).nx<(hp ops.size).nx:=by have h1:=u.nx;have h2:=eI F d (m:=m+1) oq lr;omega
 have a3:S (hp m).nx=none:=by
  apply Classical.byContradiction;intro hn;have⟨m',c,e'⟩:=h.fresh _ (eI F d a8 oq) a6 hn;have⟨W,q2,q3,RA,mk',V⟩:=(h.mem m').1 c;have a5:m'≠m:=λz=>T<|z▸c;have n1:=u.nx;have n2:=V.nx;by_cases mH:m'<m
  .have:=eI F d (m:=m'+1) (m':=m) oq oq;omega
  .have:=eI F d (m:=m+1) (m':=m') oq (by have:=d.le;omega);omega
 have U:S.le (S.put (hp m).nx (g,z,e)):=eM a3;have C:As.map (λk=>if k=m then (g,o') else B k)=As.map B:=by refine List.map_congr_left λk hk=>?_;grind
 have⟨a7,ae⟩:=hr _ (hp m).nx U eS;have hk2:kindOf P o=2:=by have⟨n,W,q2,_⟩:=u;grind
 have ab:vl m=mk (hp m).nx:=by have⟨_,_,_,_,_,_,q⟩:=u;exact q
 refine⟨a3,h.pq,λm' n h1 h2 h3=>?_,h.VV,λm' r j h1 h2=>?_,List.nodup_cons.2 ⟨T,h.nd⟩,λm'=>?_,⟨λb n y=>?_,λb b' n K x x' y E hx G he=>?_,h.yM.lt,cQ h.yM.an U⟩,?_,λm' c=>?_,λb h1 h2 h3=>?_,cQ h.le U,λb y=>?_,uy d h.nK U hm ho I gq⟩
 .by_cases e1:m'=m
  .grind
  .simp only[jJ,iw e1];exact h.KD m' n h1 h2 h3
 .by_cases e1:m'=m
  .simp[jJ,e1]
  .simp only[jJ,iw e1];exact h.low m' r j h1 h2
 .by_cases e1:m'=m
  .grind
  .simp only[jJ,oc,e1,false_or];exact h.mem m'
 .have⟨g1,Q,e1,K,L,N,r3,r4⟩:=h.yM.live b n y;exact⟨g1,Q,e1,K,U _ _ L,N,r3.mono U,r4⟩
 .have⟨g1,Q,e1,o3,L,_⟩:=h.yM.live b n y;have⟨g2,z2,e2,o4,N,_⟩:=h.yM.live b' K E;rw[U _ _ L] at hx;rw[U _ _ N] at G;cases hx;cases G;exact h.yM.inj b b' n K _ _ y E L N he
 .rw[rj,C];simp only[if_true];exact(Y.Z hF).perm hF List.perm_middle
 .rcases oc.1 c with rfl|c
  .refine⟨ob,mk,z,e,u,?_,?_,ht⟩
   .rw[ip rfl];exact eS
   .rw[ip rfl];exact a7
  .have a5:m'≠m:=λz=>T<|z▸c;have⟨r,j,Q,e1,W,q2,q3,q4⟩:=h.D5 m' c;rw[iw a5];exact⟨r,j,Q,e1,W,U _ _ q2,q3.mono U,q4⟩
 .by_cases e1:b=(hp m).nx
  .grind
  .have:S b≠none:=by intro hn;apply h3;unfold eN.put;grind
   have⟨m',c,e2⟩:=h.fresh b h1 h2 this;grind
 .unfold eN.put;rw[iw oq];exact h.out b y
theorem Cd.Sr(Y:Cy P KT N0 M O R D X Hd)(d:lQ P kt call ops q aA s sl vl hp)(h:Cd P KT An Hd kt ops q aA s sl vl hp S0 fr J i a w p S l B As)(u:pZ ops J)(r:m<q)(t:ops[m]?=some o)(j:J m=false)(n:kindOf P o=3)(x:rQ ops J m) :
  p<=m/\gz P KT An S (hp m) (l++(As.filter (·<m)).map B)/\Hd i ((l++(As.filter (·<m)).map B)++((As.filter<|λk=>!decide (k<m)).map B++fr)) w:=by
 have v:m<ops.size:=gq
 have f:p<=m:=by apply Classical.byContradiction;intro E;rw[(h.KD m o r t n).2 oq] at j;cases j
 have U:∀b c,b<m->ops[b]?=some c->2<=kindOf P c->J b=true:=λb c h1 h2 h3=>gC d.back u v x<|d.chain m b o c r t n h1 h2 h3;refine⟨f,(h.merge Y d oq (λb c h1 h2 h3 y=>?_) (λb h1 h2 h3=>?_) m f<|iz _).1,(Y.Z h.hd).perm h.hd ?_⟩
 .have:=(h.KD b c oq h3 y).1<|U b c h2 h3 oq;omega
 .obtain⟨A,z,g⟩:=h3;have e:=g;obtain⟨c,C,F,_⟩:=e;exact(h.mem b).2 ⟨oq,h1,U b c h2 C oq,A,z,g⟩
 .rw[vt,<-vt ((As.filter (·<m)).map B)];refine List.Perm.append_left _<|List.Perm.append_right _ ?_;rw[<-Bf];exact(List.filter_append_perm _ _).map B
theorem Cd.WA(r:∀f c s v H,call f c s=some (v,H)->s.nx<=H.nx)(d:lQ P kt call ops q aA s sl vl hp)(h:Cd P KT An Hd kt ops q aA s sl vl hp S0 fr J i a w p S l B As)(E:pZ ops J)(t:m<q)(u:ops[m]?=some o)(O:J m=false)(y:kindOf P o=3)(F:rQ ops J m)(W:p<=m)
 (j:S.le S1)(x:∀b,b<(hp m).nx\/(hp<|m+1).nx<=b->S1 b=S b)(Q:VR S1 (vl m) v')(I:gz P KT An S1 (hp<|m+1) l1)(N:Hd i1 (l1++((As.filter<|λk=>!decide (k<m)).map B++fr)) w1) :
  Cd P KT An Hd kt ops q aA s sl vl hp S0 fr (jJ J m) i1 (a.put o.dst v') w1 (m+1) S1 l1 B (As.filter<|λk=>!decide (k<m)) where
 pq:=oq
 KD m' g h1 h2 h3:=by
  have U:m<ops.size:=gq
  by_cases e:m'=m
  .
   subst e; simp[jJ]
  .
   simp only[jJ,if_neg e]
   rw[h.KD m' g h1 h2 h3]
   constructor
   .
    intro; omega
   .
    intro L
    exact(h.KD m' g h1 h2 h3).1 (gC d.back E U F<|d.chain m m' o g t u y oq h2 oq)
 VV:=.inr ⟨m,o,Y,t,u,y⟩
 low m' C A h1 h2:=by
  have U:m<ops.size:=gq
  by_cases e:m'=m
  .
   simp[jJ,e]
  .
   simp only[jJ,if_neg e]
   obtain⟨g,D,G,_⟩:=h2
   exact gC d.back E U F (d.chain m m' o g t u y oq D oq)
 nd:=h.nd.filter _
 mem m':=by
  rw[List.mem_filter,h.mem]
  grind
 yM:=I
 hd:=N
 D5 m' n:=by
  obtain⟨C,A,z,e,D,G,R,T⟩:=h.D5 m' (List.mem_filter.1 n).1
  exact⟨C,A,z,e,D,j _ _ G,R.mono j,T⟩
 fresh b h1 h2 h3:=by
  have U:m<ops.size:=gq
  have K:S b≠none:=gq
  have V:=eI r d (m:=p) (m':=m+1) oq oq
  obtain⟨m',n,e⟩:=h.fresh b oq h2 K
  refine⟨m',List.mem_filter.2 ⟨n,?_⟩,e⟩
  simp only[Bool.not_eq_true',decide_eq_false_iff_not]
  intro L
  obtain⟨_,_,_,C,A,M⟩:=(h.mem m').1 n
  have X:=M.nx
  have:=eI r d (m:=m'+1) (m':=m+1) oq oq
  omega
 le:=cQ h.le j
 out b hb:=by
  have U:m<ops.size:=gq
  rw[x b,h.out b hb]
  rcases hb with hb|hb
  .
   left
   have:=eI r d (m:=0) (m':=m) (Nat.zero_le _) oq
   rw[d.h0] at this
   omega
  .
   right
   have:=eI r d (m:=m+1) oq<|iz _
   omega
 nK:=uy d h.nK j t u O Q
section
variable (hc:∀f args s v s',call f args s=some (v,s')->s.nx<=s'.nx)
def Can (P:Program)(KT:TypeId->Prop)(An:eN)(Hd:ι->Hq->World->Prop)(s:AS)(sl:Nat->TL)(hp:Nat->AS)(S0:eN)(fr:Hq)(m:Nat)(i:ι)(a:Act)(w:World):Prop :=
 ∃S l,S0.le S/\(∀b,b<s.nx\/(hp m).nx<=b->S b=S0 b)/\gz P KT An S (hp m) l/\Hd i (l++fr) w/\AR (VR S) (sl m).toArray a.tmps/\a.defers=[]
def Cd.all(Y:Cy P KT N0 M O R D X Hd)(d:lQ P kt call ops q aA s sl vl hp)(h:Cd P KT An Hd kt ops q aA s sl vl hp S0 fr J i a w p S l B As)(k:∀m,m<q->J m=true)(n:∀b,s.nx<=b->b<(hp ops.size).nx->S0 b=none):Can P KT An Hd s sl hp S0 fr q i a w:=by
 have r:∀m∈As,m<q:=λm c=>((h.mem m).1 c).1;have f:As.filter (·<q)=As:=List.filter_eq_self.2 λm c=>by simp[r m c]
 have c:=(h.merge Y d (iz _) (λm o h1 h2 h3 E=>?_) (λm h1 h2 h3=>(h.mem m).2 ⟨h2,h1,k m h2,h3⟩) q h.pq<|iz _).1
 .rw[f] at c;refine⟨S,l++As.map B,h.le,λb g=>?_,c,by rw[vt]; exact h.hd,⟨?_,λt x y I K=>?_⟩,h.nK.2.1⟩
  .rcases g with g|g
   .exact h.out b<|.inl g
   .by_cases H:(hp ops.size).nx<=b
    .exact h.out b<|.inr H
    .have z:S0 b=none:=by
      refine n b ?_ oq
      have:=eI hc d (Nat.zero_le _) d.le;rw[d.h0] at this;omega
     rw[z];apply Classical.byContradiction;intro v;have G:=eI hc d h.pq d.le;obtain⟨m',u,e⟩:=h.fresh b oq oq v;obtain⟨T,_,_,Q,L,F⟩:=(h.mem m').1 u;have N:=F.nx
     have:=eI hc d (m:=m'+1) oq d.le;omega
  .rw[List.size_toArray,xL d q d.le,h.nK.1]
  .have A:(sl q)[t]?=some x:=by simpa using I
   have:=xM d h.nK (t:=t) (iz _) λj o C _ _=>⟨λ_=>C,λ_=>k j C⟩;rw[Dj,A,Jw,K] at this;exact this
 .have:=(h.KD m o oq h3 E).1<|k m oq;omega
end
theorem Fo(Y:Cy P KT N0 M O R D X Hd)(b3:P.follows .mixedOrders=true)(af:∀t,kt t=false->¬KT t)(a6:∀f G s v s',call f G s=some (v,s')->Sound P KT An R D X Hd f G s v s')(I:∀f G s v s',call f G s=some (v,s')->s.nx<=s'.nx)(ag:oG ops=true)
 (h:nZ P kt call ops aA s=some (nS,s'))(hS:gz P KT An S0 s l)(hF:Hd i (l++fr) w)(hA:AR (VR S0) aA.toArray a.tmps)(hd:a.defers=[])(ab:∀b,s.nx<=b->b<s'.nx->S0 b=none)
 (K:Sa P KT An Hd S0 s s' fr nS (λH F N=>Q H .normal F N)):iO X fn (.region id ops true) i Q a w:=by
 obtain⟨q,sl,vl,W,d,rfl,rfl⟩:=C1 h;refine ll Y.C (Y.Z hF).env.CZ b3 rfl d.back (λJ H F N=>pZ ops J/\((∃m,q<=m/\m<=ops.size/\(∀k,k<ops.size->(J k=true↔k<m))/\Can P KT An Hd s sl W S0 fr m H F N)\/((∀k,q<=k->k<ops.size->J k=false)/\∃p S l B As,Cd P KT An Hd kt ops q aA s sl vl W S0 fr J H F N p S l B As))) (λaK hR=>?_) ?_ ?_ ?_
 .refine⟨λx y _ hx=>(by cases hx),.inr ⟨λk _ _=>rfl,0,S0,l,λ_=>(0,.pending #[] 0),[],Nat.zero_le _,λm o _ _ _=>iq,.inl rfl,λm ob mk u=>oq,iq,λm=>iq,by rw[d.h0];exact hS,?_,λm u=>by simp at u,λb h1 h2 h3=>?_,aQ S0,λb hb=>rfl,by rw[<-hA.1];simp,hd,λt x ht hx=>?_⟩⟩
  .have ah:=(Y.Z hF).rely hF hR;exact(Y.Z hF).rely ah ((Y.Z hF).env.wP _)
  .rw[d.h0] at h1;exact absurd (ab b h1 h2) h3
  .rcases hx with ⟨m,o,_,_,_,j,_⟩|⟨_,rfl⟩
   .cases j
   .exact pm hA t
 .rintro J J' H F N j ⟨U,hI⟩;refine⟨λx y hx hJx hh=>?_,?_⟩
  .have b5:=wX d.back x hx hh;rw[<-j y oq];exact U x y hx gq hh
  .rcases hI with ⟨m,h1,h2,h3,h4⟩|⟨h1,p,S,l,B,As,h2⟩
   .grind
   .have hq:∀k,k<q->J k=J' k:=λk L=>j k (by have:=d.le;omega);refine .inr ⟨λk L n=>by rw[<-j k n];exact h1 k L n,p,S,l,B,As,h2.pq,λm o u c L=>by rw[<-hq m u];exact h2.KD m o u c L,h2.VV,λm ob mk u hA=>?_,h2.nd,λm=>?_,h2.yM,h2.hd,h2.D5,h2.fresh,h2.le,h2.out,h2.nK.1,h2.nK.2.1,λt x ht hx=>h2.nK.2.2 t x ht<|sa hx λm o u _ _=>(hq m u).symm⟩
    .rw[<-hq m (by have:=h2.pq;omega)];exact h2.low m ob mk u hA
    .rw[h2.mem];grind
 .rintro J m H F N ⟨U,hI⟩ u j a5 rest hK;have c:ops[m]?=some ops[m]:=gF u;have r:pZ ops (jJ J m):=by
   intro x y i a g;by_cases f:y=m
   .simp[jJ,f]
   .simp only[jJ,iw f];by_cases e:x=m
    .subst e;exact gC d.back U u a5 g
    .simp only[jJ,iw e] at a;exact U x y i a g
  by_cases A:m<q
  .
   rcases hI with ⟨m',h1,h2,h3,h4⟩|⟨h1,p,S,l,B,As,h2⟩
   .grind
   have a0:∀k,q<=k->k<ops.size->jJ J m k=false:=λk L n=>gq
   have a4:gh S (sl m) F (ops[m]):=by
    intro x w;have b:m<ops.size:=gq
    have C:DF x=true:=by unfold oG at ag;grind
    cases x with
    | tmp t =>refine xM d h2.nK oq λj y n e l=>?_;have T:=d.data m (ops[m]) t j y A c w n e l;exact⟨λ_=>wX d.back m b T,λ_=>gC d.back U b a5 T⟩
    | const v=>exact bD C
    | global g=>simp[DF] at C
    | func f=>exact mw AR.nil AR.nil
   have ax:=C0 d h2.nK U A c a5;have hpn:p<=ops.size:=by have:=d.le;have:=h2.pq;omega
   by_cases a9:kindOf P ops[m]=3
   .have⟨ak,av,al⟩:=h2.Sr Y d U A c j a9 a5;rcases d.step m _ c with ⟨hw,FG⟩|⟨hw,hv,hh⟩
    .refine pG Y af a6 c gq a4 av al FG (λb b1 b2=>?_) ?_
     .apply Classical.byContradiction;intro hn;have m1:=eI I d (m:=p) (m':=m) ak oq;have m2:=eI I d (m:=m+1) (m':=ops.size) oq lr;have⟨m',KG,e⟩:=h2.fresh b oq oq hn;have⟨q1,q2,q3,ob,mk,ae⟩:=(h2.mem m').1 KG;have n1:=ae.nx;by_cases mH:m'<m
      .have:=eI I d (m:=m'+1) (m':=m) oq oq;omega
      .have ar:m'≠m:=λz=>by rw[z] at q3;rw[j] at q3;cases q3
       have:=eI I d (m:=m+1) (m':=m') oq (by have:=d.le;omega);omega
     .intro i1 E l1 V v1 r1 r2 r3 r4 r5;exact hK i1 _ V ⟨r,.inr ⟨a0,m+1,E,l1,B,_,h2.WA I d U A c j a9 a5 ak r1 r2 r5 r3 r4⟩⟩
    .refine je Y.C Y.T c gq<|hK H _ N ⟨r,.inr ⟨a0,m+1,S,_,B,_,h2.WA I d U A c j a9 a5 ak (aQ S) (λ_ _=>rfl) (by rw[hv];exact fx) gq al⟩⟩
   .rcases zI d c a9 with ⟨ob,mk,ae⟩|⟨aq,hh⟩
    .have ay:=ae;have⟨o1,q1,q2,q3,q4,q5,q6⟩:=ay;rw[c] at q1;cases q1;exact MT Y af c gq a4 h2.hd q4 λg z e o' V v1 ah hr ht=>(hK H _ V ⟨r,.inr ⟨a0,p,_,l,_,_,(h2.new I Y d A c j ae ab ah hr ht).2⟩⟩)
    .have a7:∀i1 E l1 V v1,S.le E->(∀b,b<(W p).nx\/(W p).nx<=b->E b=S b)->gz P KT An E (W p) l1->Hd i1 (l1++(As.map B++fr)) V->VR E (vl m) v1->cP X fn ops rest i1 Q (F.put (ops[m]).dst v1) V:=λi1 E l1 V v1 r1 r2 r3 r4 r5 =>hK i1 _ V ⟨r,.inr ⟨a0,p,E,l1,B,As,h2.same d A c j a9 aq r1 (λb=>r2 b oq) r5 r3 r4⟩⟩;rcases d.step m _ c with ⟨hw,FG⟩|⟨hw,hv,_⟩
     .have aw:Region.wanted ops[m] (yielded ops F.tmps)=true:=by rw[ax];exact hw
      by_cases hl:∃t x,(ops[m]).op=.load t x
      .have⟨t,x,au⟩:=hl;have Xu:=d.Yf m _ t x A c au hw p h2.VV λe o' he Ol n=>⟨λmH hh'=>?_,λhge hh'=>?_⟩
       .exact Ii Y c aw au a4 h2.yM h2.hd Xu a7
       .
        have ai:=(h2.KD e o' he Ol n).2 mH
        have:=U e m gq ai hh';rw[j] at this;cases this
       .have ai:=gC d.back U u a5 hh'
        have:=(h2.KD e o' he Ol n).1 ai;omega
      .have az:kindOf P ops[m]=0:=by
        have hn:¬fR (ops[m]).op=true:=by
         intro hn;apply aq;have a3:=FG;unfold cf at a3;rw[ip hn] at a3;split at a3
         .next ob mk hq =>simp only[xH,Prod.mk.injEq] at a3;exact⟨ob,mk,_,c,by unfold kindOf;rw[ip hn],hw,hq,a3.2.symm,a3.1.symm⟩
         .cases a3
        unfold kindOf at a9 |-;grind
       exact pG Y af a6 c aw a4 h2.yM h2.hd ((uP az FG).2<|W p) (λb b1 b2=>oq) a7
     .exact je Y.C Y.T c gq<|a7 H S l N undef (aQ S) (λ_ _=>rfl) h2.yM h2.hd<|by rw[hv];exact fx
  .
   have a8:∀k,k<m->J k=true:=λk L=>gC d.back U u a5<|d.last m k oq u L;have Tf:∀k,m<k->k<ops.size->J k=false:=λk L n=>by
    cases hb:J k with
    | false=>rfl
    | true =>have:=U k m n hb<|d.last k m oq n L;rw[j] at this;cases this
   have aa:Can P KT An Hd s sl W S0 fr m H F N:=by
    rcases hI with ⟨m',h1,h2,h3,h4⟩|⟨h1,p,S,l,B,As,h2⟩
    .have:m'=m:=by
      have h5:¬m<m':=λz=>by rw[(h3 m u).2 z] at j;cases j
      have h6:¬m'<m:=λz=>by have:=(h3 m' oq).1<|a8 m' z;omega
      omega
     rw[<-this];exact h4
    .have:m=q:=by
      have h5:¬q<m:=λz=>by have:=h1 q lr oq;rw[a8 q z] at this;cases this
      omega
     rw[this];exact h2.all I Y d (λk L=>a8 k oq) ab
   have⟨S,l,c1,c2,c3,c4,c5,c6⟩:=aa;have a4:gh S (sl m) F ops[m]:=λx hx=>kX c5 (by
    unfold oG at ag;rw[aT] at ag
    have:=ag ops[m] gq;rw[aT] at this;exact this x gq);have Dn:∀i1 E l1 V v1,S.le E->(∀b,b<(W m).nx\/(W<|m+1).nx<=b->E b=S b)->gz P KT An E (W<|m+1) l1->Hd i1 (l1++fr) V->VR E (vl m) v1->cP X fn ops rest i1 Q (F.put (ops[m]).dst v1) V:=by
    intro i1 E l1 V v1 r1 r2 r3 r4 r5;refine hK i1 _ V ⟨r,.inl ⟨m+1,oq,oq,λk L=>?_,E,l1,cQ c1 r1,λb hb=>?_,r3,r4,?_,?_⟩⟩
    .by_cases e:k=m
     .simp[e]
     .simp only[iw e];constructor
      .intro aj;apply Classical.byContradiction;intro hn;rw[Tf k oq L] at aj;cases aj
      .intro aj;exact a8 k oq
    .have b4:=HI I d u;have hm0:=eI I d (m:=0) (m':=m) (Nat.zero_le _) oq;rw[d.h0] at hm0;rw[r2 b oq,c2 b oq]
    .rw[d.sl1 m _ c];exact qo (c5.mono r1) r5 _
    .cases (ops[m]).dst<;>exact c6
   have ax:=kw c5 ops ops[m];rcases d.step m _ c with ⟨hw,FG⟩|⟨hw,hv,hh⟩
   .refine pG Y af a6 c gq a4 c3 c4 FG (λb b1 b2=>?_) Dn;rw[c2 b (.inr b1)];have hm0:=eI I d (m:=0) (m':=m) (Nat.zero_le _) oq;have hm1:=eI I d (m:=m+1) (m':=ops.size) oq lr;rw[d.h0] at hm0;exact ab b oq oq
   .exact je Y.C Y.T c gq<|Dn H S l N undef (aQ S) (λ_ _=>rfl) gq c4<|by rw[hv];exact fx
 .rintro J H F N j ⟨U,hI⟩;have aa:Can P KT An Hd s sl W S0 fr ops.size H F N:=by
   rcases hI with ⟨m',h1,h2,h3,h4⟩|⟨h1,p,S,l,B,As,h2⟩
   .have:m'=ops.size:=by
     apply Classical.byContradiction;intro ar
     have:=(h3 m' oq).1<|j m' oq;omega
    rw[<-this];exact h4
   .have:q=ops.size:=by
     apply Classical.byContradiction;intro ar
     have:=d.le
     have:=h1 q lr oq;rw[j q oq] at this;cases this
    have hh:=h2.all I Y d (λk L=>j k oq) ab;rw[this] at hh;exact hh
  have⟨S,l,c1,c2,c3,c4,c5,c6⟩:=aa;exact bO Y.C Y.T<|K H S l N F c1 c2 c3 c4 c5 c6
end
section
variable {P:Program}{main:Bool}{Q:gY ι}{a:Act}{vs:ι}
def Eo{b:Frame}{k:List Item}{cs:List Frame}:stepG P main (G (b.at a (.code (.scope c)::k)) cs) w=.go (G (b.at a (.code c::.inScope c::k)) cs) w:=by simp[G,stepG,stepG.exec,Frame.at]
def yN{b:Frame}{k:List Item}{cs:List Frame}:stepG P main (G (b.at a (.inScope c::k)) cs) w=.go (G (b.at a k) cs) w:=by simp[G,stepG,stepG.exec,Frame.at]
def Kv(C:cG P main R D X)(T:∀i,Terms (R i)<|D i)(h:iO X fn c vs Q a w):iO X fn (.scope c) vs Q a w:=by
 intro b k n o r f;have s:X vs (G (b.at a (.code c::.inScope c::k)) n) w:=by
  refine h b _ n o r λm e u v q=>?_;cases e with
  | normal=>exact C.step Y λg d=>by rw[yN];exact⟨(T m).idle _,C.rely (f _ _ _ _ q) d⟩
  | exit id =>obtain⟨t,j,p⟩:=f _ _ _ _ q;exact⟨t,by simp[exitTo,j],p⟩
  | ret=>exact f _ _ _ _ q
  | goto l=>exact f _ _ _ _ q
  | panic ch=>exact f _ _ _ _ q
  | outgrown=>exact f _ _ _ _ q
 exact C.step Y λg d=>by rw[Eo];exact⟨(T vs).idle _,C.rely s d⟩
end
section
variable {Q:gY ι}{a:Act}{i:ι}{s:AS}{l rl:Hq}{rest:List Nat}{kt:TypeId->Bool}{pr:Prim}
structure cR(P:Program)(KT:TypeId->Prop)(An:eN)(R:ι->Wq)(D:ι->World->World->Array Event->Prop)(X:ι->Gq)(Hd:ι->Hq->World->Prop)(pr:Prim):Prop where
 nx:∀f g args s v s',pr f=some g->g args s=some (v,s')->s.nx<=s'.nx
 sound:∀f g args s v s',pr f=some g->g args s=some (v,s')->Sound P KT An R D X Hd f args s v s'
def lY(n:Nat)(id:Nat)(ops:Array Oper)(draw:Bool)(a:TL)(s:AS):gV P kt pr (n+1) (.region id ops draw) a s=if oG ops=false then none else
  match (if draw then nZ P kt else AX P kt) (ck P kt pr n) ops a s with
  | some (a',s')=>some (.normal,a',s')
  | none=>none:=Y
theorem Da(t:∀f g b s v s',pr f=some g->g b s=some (v,s')->s.nx<=s'.nx):∀(n:Nat),(∀(c:Code) (a U:TL) (s s':AS) (e:Exit),gV P kt pr n c a s=some (e,U,s')->s.nx<=s'.nx)/\∀f b s v s',ck P kt pr n f b s=some (v,s')->s.nx<=s'.nx:=by
 intro n;have d:∀n,(∀(c:Code) (a U:TL) (s s':AS) (e:Exit),gV P kt pr n c a s=some (e,U,s')->s.nx<=s'.nx)->∀f b s v s',ck P kt pr n f b s=some (v,s')->s.nx<=s'.nx:=by
  intro n p f b s v s' h;unfold ck at h;split at h
  .next g q=>exact t f g b s v s' q h
  .split at h
   .split at h
    .split at h
     .next e m u o =>
      have:=p _ _ _ _ _ _ o;split at h;iterate 2
       .simp at h;obtain⟨r,w,rfl,rfl⟩:=h;exact this
      .cases h
     .cases h
    .cases h
   .cases h
 induction n with
 | zero =>
  have k:∀(c:Code) (a U:TL) (s s':AS) (e:Exit),gV P kt pr 0 c a s=some (e,U,s')->s.nx<=s'.nx:=λc a U s s' e h=>by simp[gV] at h
  exact⟨k,d 0 k⟩
 | succ n i =>
  have⟨i,j⟩:=i;have h1:∀(c:Code) (a U:TL) (s s':AS) (e:Exit),gV P kt pr (n+1) c a s=some (e,U,s')->s.nx<=s'.nx:=by
   intro c a U s s' e h;cases c with
   | skip=>simp[gV] at h;obtain⟨_,_,rfl⟩:=h;exact iz _
   | ret=>simp[gV] at h;obtain⟨_,_,rfl⟩:=h;exact iz _
   | exit id=>simp[gV] at h;obtain⟨_,_,rfl⟩:=h;exact iz _
   | label id=>simp[gV] at h;obtain⟨_,_,rfl⟩:=h;exact iz _
   | seq x y =>simp only[gV] at h;grind
   | cond x y z =>simp only[gV] at h;grind
   | block id x =>simp only[gV] at h;grind
   | loop x =>simp only[gV] at h;grind
   | scope x=>simp only[gV] at h;exact i _ _ _ _ _ _ h
   | region id ops a0 =>
    rw[lY] at h;split at h
    .cases h
    .split at h
     .next m u l =>
      cases h;cases a0 with
      | true=>obtain⟨q,b,c,a,d,_,rfl⟩:=C1 l
              have:=eI j d (Nat.zero_le _) lr;rw[d.h0] at this;exact this
      | false=>exact pi j _ l
     .cases h
   | _=>simp[gV] at h
  exact⟨h1,d _ h1⟩
def yU(X:ι->Gq)(fn:FuncId)(x:Code)(vs:ι)(Q:gY ι)(a:Act)(w:World):Prop :=
 ∀(b:Frame) (k:List Item) (cs:List Frame),b.fn=fn->b.kind≠.early->(∀iA e a' w',Q iA e a' w'->tR X iA b k cs e a' w')->X vs (G (b.at a (.code x::.inLoop x::k)) cs) w
section
variable (C:cG P true R D X)
section
variable (T:∀i,Terms (R i)<|D i)
def u0{x:Code}(h:iO X fn x i (Ak (λr g o=>yU X fn x r Q g o) Q) a w):yU X fn x i Q a w:=by
 intro b k j m n c;refine h b _ j m n λf e g o q=>?_;cases e with
 | normal=>exact C.step Y λp d=>by rw[stepG_inLoop];exact⟨(T f).idle _,C.rely (q b k j m n c) d⟩
 | exit id=>exact(c _ _ _ _ q).push Y iq
 | ret=>exact(c _ _ _ _ q).push Y iq
 | goto l=>exact c _ _ _ _ q
 | panic ch=>exact c _ _ _ _ q
 | outgrown=>exact c _ _ _ _ q
def B6{x:Code}(h:yU X fn x i Q a w):iO X fn (.loop x) i Q a w:=λb k e f j g =>C.step Y λd c=>by rw[stepG_loop];exact⟨(T i).idle _,C.rely (h b k e f j g) c⟩
end
end
def Aw(P:Program)(KT:TypeId->Prop)(An:eN)(kt:TypeId->Bool)(pr:Prim)(X:ι->Gq)(Hd:ι->Hq->World->Prop)(n:Nat):Prop :=
 ∀(c:Code) (fn:FuncId) (aA nS:TL) (s s':AS) (e:Exit) (S:eN) (l fr:Hq) (i:ι) (w:World) (a:Act) (Q:gY ι),gV P kt pr n c aA s=some (e,nS,s')->gz P KT An S s l->Hd i (l++fr) w->AR (VR S) aA.toArray a.tmps->a.defers=[]->(∀b,s.nx<=b->b<s'.nx->S b=none) ->
   Sa P KT An Hd S s s' fr nS (λi' a' w'=>Q i' e a' w')->iO X fn c i Q a w/\∀x,c=.loop x->yU X fn x i Q a w
def only(h:iO X fn c i Q a w)(b:∀x,c≠.loop x):iO X fn c i Q a w/\∀x,c=.loop x->yU X fn x i Q a w:=⟨h,λx e=>absurd e<|b x⟩
theorem jM (Y:Cy P KT N0 M O R D X Hd) (hm:P.follows .mixedOrders=true) (FH:∀ t,kt t=false->¬ KT t) (hp:cR P KT An R D X Hd pr) (Jy:∀ (f:FuncId) (bL:Func),P.funcs[f]?=some bL->(bL.name == "runtime.NumGoroutine")=false):∀ (n:Nat),
  Aw P KT An kt pr X Hd n /\
  ∀f args s v s',ck P kt pr n f args s=some (v,s')->Sound P KT An R D X Hd f args s v s':=by
 intro n
 have G9:∀n,Aw P KT An kt pr X Hd n->∀f args s v s',ck P kt pr n f args s=some (v,s')->Sound P KT An R D X Hd f args s v s':=by
  intro n hC f args s v s' h
  unfold ck at h
  split at h
  .
   next g hg=>exact hp.sound f g args s v s' hg h
  .
   split at h
   .
    next bL hf =>
    split at h
    .
     next c hb =>
     split at h
     .
      next e a1 s1 Xa =>
      have hex:(e=.normal\/e=.ret)/\(di P bL a1 s1).map (·,s1)=some (v,s'):=by
       grind
      obtain ⟨hex,h⟩:=hex
      simp only [sT,Prod.mk.injEq] at h
      obtain ⟨r,hr,rfl,rfl⟩:=h
      intro S l fr i w args' hS hF hA tQ
      refine ⟨bL,c,hf,Jy f bL hf,hb,?_⟩
      refine (hC c f _ a1 s s1 e S l fr i w _ _ Xa hS hF ?_ I tQ ?_).1
      .
       have:args.toList.length=args'.size:=by rw [<-hA.1]; simp
       have h2:=hA.append<|AR.replicate (S:=S) (x:=undef) (v:=undef) (bL.ntmps-args'.size) fx
       have he:(args.toList++List.replicate (bL.ntmps-args.toList.length) undef).toArray=args++Array.replicate (bL.ntmps-args'.size) undef:=by
        grind
       grind
      .
       intro i' S' l' w' a' h1 h2 h3 h4 h5 h6
       refine ⟨hex,h6,λaK XH=>?_⟩
       have L5:=(Y.Z h4).rely h4 XH
       obtain ⟨v',hv,Jz⟩:=z9 Y h3 L5 h5 hr
       refine ⟨v',Jz.1,?_,S',l',h1,h2,h3,L5,hv⟩
       exact (Y.Z L5).env.kZ ((Y.Z L5).size L5) (fw _) λev FG=>Jz.2 ev<|mem_seen FG
     .
      cases h
    .
     cases h
   .
    cases h
 induction n with
 | zero =>
  have h0:Aw P KT An kt pr X Hd 0:=λc fn aA nS s s' e S l fr i w a Q h=>by simp [gV] at h
  exact ⟨h0,G9 0 h0⟩
 | succ n ih =>
  obtain ⟨ih,ihc⟩:=ih
  have nx:=Da (P:=P) (kt:=kt) hp.nx n
  have h1:Aw P KT An kt pr X Hd (n+1):=?_
  .
   exact ⟨h1,G9 _ h1⟩
  intro c fn aA nS s s' e S l fr i w a Q h hS hF hA hd tQ K
  cases c with
  | skip=>simp [gV] at h; obtain ⟨rfl,rfl,rfl⟩:=h; exact only (nP Y.C Y.T<|K i S l w a (aQ S) (λ_ _=>I) hS hF hA hd) iq
  | ret=>simp [gV] at h; obtain ⟨rfl,rfl,rfl⟩:=h; exact only (qq Y.C Y.T<|K i S l w a (aQ S) (λ_ _=>I) hS hF hA hd) iq
  | exit id=>simp [gV] at h; obtain ⟨rfl,rfl,rfl⟩:=h; exact only (tF Y.C Y.T<|K i S l w a (aQ S) (λ_ _=>I) hS hF hA hd) iq
  | label id=>simp [gV] at h; obtain ⟨rfl,rfl,rfl⟩:=h; exact only (Ku Y.C Y.T<|K i S l w a (aQ S) (λ_ _=>I) hS hF hA hd) iq
  | seq x y =>
   refine only ?_ iq
   simp only [gV] at h
   split at h
   .
    next a1 s1 hx =>
    have n1:=nx.1 _ _ _ _ _ _ hx
    have n2:=nx.1 _ _ _ _ _ _ h
    refine cu Y.C Y.T (ih x fn aA a1 s s1 .normal S l fr i w a _ hx hS hF hA hd (λb h1 h2=>tQ b h1 oq) ?_).1
    intro i1 S1 l1 w1 a2 q1 q2 q3 q4 q5 q6
    refine (ih y fn a1 nS s1 s' e S1 l1 fr i1 w1 a2 Q h q3 q4 q5 q6 (λb h1 h2=>by rw [q2 b (.inr h1)]; exact tQ b oq h2) ?_).1
    intro i2 S2 l2 w2 a3 r1 r2 r3 r4 r5 r6
    exact K i2 S2 l2 w2 a3 (cQ q1 r1) (λb hb=>by rw [r2 b oq,q2 b oq]) r3 r4 r5 r6
   .
    next ES =>
    refine cu Y.C Y.T (ih x fn aA nS s s' e S l fr i w a _ h hS hF hA hd tQ ?_).1
    intro i1 S1 l1 w1 a2 q1 q2 q3 q4 q5 q6
    have:=K i1 S1 l1 w1 a2 q1 q2 q3 q4 q5 q6
    cases e with
    | normal=>exact absurd h<|ES nS s'
    | _=>exact this
  | cond x y z =>
   refine only ?_ iq
   have lz:∀t,aA.at x=.bool t->a.eval x=.bool t:=λt ht=>by
    cases x with
    | tmp q=>have:=kX (x:=.tmp q) hA I; rw [ht] at this; exact this.sc I
    | const q=>exact ht
    | global q=>exact ht
    | func q=>exact ht
   simp only [gV] at h
   split at h
   .
    next ht=>exact fT Y.C Y.T (lz true ht) (ih y fn aA nS s s' e S l fr i w a Q h hS hF hA hd tQ K).1
   .
    next ht=>exact fT Y.C Y.T (lz false ht) (ih z fn aA nS s s' e S l fr i w a Q h hS hF hA hd tQ K).1
   .
    cases h
  | block id x =>
   refine only ?_ iq
   simp only [gV] at h
   split at h
   .
    next k a1 s1 hx =>
    have hs1:a1=nS/\s1=s':=gq
    obtain ⟨rfl,rfl⟩:=hs1
    refine jC Y.C Y.T (ih x fn aA a1 s s1 (.exit k) S l fr i w a _ hx hS hF hA hd tQ ?_).1
    intro i1 S1 l1 w1 a2 q1 q2 q3 q4 q5 q6
    have:=K i1 S1 l1 w1 a2 q1 q2 q3 q4 q5 q6
    simp only [lZ]
    grind
   .
    next ES =>
    refine jC Y.C Y.T (ih x fn aA nS s s' e S l fr i w a _ h hS hF hA hd tQ ?_).1
    intro i1 S1 l1 w1 a2 q1 q2 q3 q4 q5 q6
    have:=K i1 S1 l1 w1 a2 q1 q2 q3 q4 q5 q6
    cases e with
    | exit k=>exact absurd h<|ES k nS s'
    | _=>exact this
  | loop x =>
   have hl:yU X fn x i Q a w:=by
    simp only [gV] at h
    split at h
    .
     next a1 s1 hx =>
     have n1:=nx.1 _ _ _ _ _ _ hx
     have n2:=nx.1 _ _ _ _ _ _ h
     refine u0 Y.C Y.T (ih x fn aA a1 s s1 .normal S l fr i w a _ hx hS hF hA hd (λb h1 h2=>tQ b h1 oq) ?_).1
     intro i1 S1 l1 w1 a2 q1 q2 q3 q4 q5 q6
     refine (ih (.loop x) fn a1 nS s1 s' e S1 l1 fr i1 w1 a2 Q h q3 q4 q5 q6 (λb h1 h2=>by rw [q2 b (.inr h1)]; exact tQ b oq h2) ?_).2 x I
     intro i2 S2 l2 w2 a3 r1 r2 r3 r4 r5 r6
     exact K i2 S2 l2 w2 a3 (cQ q1 r1) (λb hb=>by rw [r2 b oq,q2 b oq]) r3 r4 r5 r6
    .
     next ES =>
     refine u0 Y.C Y.T (ih x fn aA nS s s' e S l fr i w a _ h hS hF hA hd tQ ?_).1
     intro i1 S1 l1 w1 a2 q1 q2 q3 q4 q5 q6
     have:=K i1 S1 l1 w1 a2 q1 q2 q3 q4 q5 q6
     cases e with
     | normal=>exact absurd h<|ES nS s'
     | _=>exact this
   exact ⟨B6 Y.C Y.T hl,λy hy=>by cases hy; exact hl⟩
  | scope x=>simp only [gV] at h; exact only (Kv Y.C Y.T (ih x fn aA nS s s' e S l fr i w a Q h hS hF hA hd tQ K).1) iq
  | region id ops draw =>
   refine only ?_ iq
   rw [lY] at h
   split at h
   .
    cases h
   .
    next uX =>
    have uX:oG ops=true:=gq
    split at h
    .
     next a1 s1 hx =>
     cases h
     cases draw with
     | true=>exact Fo Y hm FH ihc nx.2 uX hx hS hF hA hd tQ K
     | false =>
      refine bv Y.C Y.T ?_
      have Dq:eh P kt (ck P kt pr n) ops (ops.toList.drop 0) aA s=some (nS,s'):=hx
      have:=pj (Q:=Q) (fn:=fn) Y FH ihc nx.2 uX ops.size 0 oq oq Dq hS hF hA hd tQ K
      rw [List.range_eq_range']
      exact this
    .
     cases h
  | _=>simp [gV] at h
end
section
variable (s:ByteArray)
def lb(w:World)(es:Array Event):(Builtin.len_ #[9] 3 #[.string s]).events prog w es=es:=by simp[Builtin.len_,go_sem]
def lf(k:IntKind)(h:Int)(w:World)(es:Array Event)(a:0<=h)(h1:h<=s.size):(Instr.sliceAt 9 (.string s) none (some<|.int k h) none).events prog w es=es:=by simp[Instr.sliceAt,Instr.slice,Instr.sliceBounds,Instr.sliceBound,underlying,underlying9,asIntOf,a,h1]
def lg(k:IntKind)(h:Int)(w:World)(es:Array Event)(a:0<=h)(h1:h<=s.size):(Instr.sliceAt 9 (.string s) (some<|.int k h) none none).events prog w es=es:=by simp[Instr.sliceAt,Instr.slice,Instr.sliceBounds,Instr.sliceBound,underlying,underlying9,asIntOf,a,h1]
def ji(k k':IntKind)(l h:Int)(w:World)(es:Array Event)(a:0<=l)(h1:l<=h)(h2:h<=s.size):(Instr.sliceAt 9 (.string s) (some<|.int k l) (some<|.int k' h) none).events prog w es=es:=by
 have h3:0<=h:=oq
 simp[Instr.sliceAt,Instr.slice,Instr.sliceBounds,Instr.sliceBound,underlying,underlying9,asIntOf, *];intros;omega
def oD(i:Int)(w:World)(es:Array Event)(a:0<=i)(h1:i<s.size):(Instr.index 9 (.string s)<|.int .i64 i).events prog w es=es:=by simp[Instr.index,underlying,underlying9,asIntOf, *]
end
theorem Fg{s:ByteArray}(h:i<s.size)(U:(s[i]'h).toNat<128):Utf8.decode s i=((s[i]'h).toNat,1):=by
 have e:(s.get!<|i+0).toNat=(s[i]'h).toNat:=by rw[Nat.add_zero];congr 1;cases s;exact getElem!_pos _ i h
 unfold Utf8.decode;grind
section
variable (s:ByteArray)
def AY(c:Int)(w:World)(es:Array Event):(Extern.BytealgIndexByte.indexByte #[.string s,.int .u8 c]).events prog w es=es:=by
 change Sem.events prog (do
  let b <-Extern.Bytes.bytesOf (.string s)
  let c' <-Extern.Bytes.asByte (.int .u8 c)
  match (List.range b.size).find? λi=>b[i]! == c' with
  | some i=>pure<|goInt i
  | none=>pure<|goInt<|-1) w es=_;simp only[Extern.Bytes.bytesOf,Extern.Bytes.asByte,Sem.events_bind,Sem.run_pure,Sem.events_pure,Result.evThen_ok];split<;>rfl
def Pc(c:Int):Int:=Lib.indexByte s.data.toList c.toNat.toUInt8
def Ba(c:Int):QR prog 373 #[.string s,.int .u8 c] (.int .i64<|Pc s c):=by
 intro f R D X C T i w;refine jw func373 rq Y ?_;simp only[ntmps373,bZ,Nat.reduceAdd,Nat.reduceSub];refine cu C T<|bv C T ?_;simp only[jb];refine dQ C T Y rq λ_ b a=>?_;go_simp;refine a _ ?_ (by first|(simp[go_sem];done)|(simp[go_sem, *];done)|(simp[go_sem,lb,lf,lg,ji,oD, *];done));try walk_nrm
 refine bO C T ?_;refine cu C T<|bv C T ?_;simp only[jb,Nat.reduceAdd];iterate 2
  refine dQ C T Y rq λ_ b a=>?_
  go_simp
  refine a _ ?_<|by first|(simp[go_sem];done)|(simp[go_sem, *];done)|(simp[go_sem,lb,lf,lg,ji,oD, *];done)
 refine ry C T Y rq Y func386 rq rq kq kq (x:=.int .i64<|Pc s c) (by simp[Act.eval]) (λw=>Lib.run_indexByteString s c w) (λw d=>AY s c w d) ?_;try walk_nrm
 refine dQ C T Y rq λ_ b a=>?_;go_simp;refine a _ ?_ (by first|(simp[go_sem];done)|(simp[go_sem, *];done)|(simp[go_sem,lb,lf,lg,ji,oD, *];done));try walk_nrm
 refine bO C T ?_;refine qq C T ⟨.inr Y,Y,_,resultsC_tmp rq _,Y,?_,Y⟩;simp
end
abbrev gX:=FuncId->Aq->AS->Option (Value × AS)
def qQ(c c':gX):Prop:=∀f args s r,c f args s=some r->c' f args s=some r
section
variable {P:Program}{kt:TypeId->Bool}{pr:Prim}{c c':gX}
theorem qd(i:qQ c c'){r:Value × AS}(h:cf P kt c a o s=some r):cf P kt c' a o s=some r:=by
 unfold cf at h |-;split
 .grind
 .next k =>
  rw[iw k] at h;cases U:o.op with
  | call cl =>
   rw[U] at h;simp only at h |-;split
   .next f j =>
    rw[j] at h;simp only at h;split
    .grind
    .next d =>
     rw[iw d] at h;split at h
     .next g first e l=>exact i _ _ _ _ h
     .cases h
   .grind
   .grind
  | next m b=>rw[U] at h;cases b<;>exact h
  | _=>rw[U] at h;exact h
def kl(hc:qQ c c'):∀{rest:List Oper} {a:TL} {s:AS} {r:TL × AS},eh P kt c ops rest a s=some r->eh P kt c' ops rest a s=some r
 | [],a,s,r,h=>h
 | o::rest,a,s,r,h=>by
  unfold eh at h |-;split
  .next hw =>
   rw[ip hw] at h;split at h
   .next v s' ho=>rw[qd hc ho];exact kl hc h
   .cases h
  .next hw=>rw[iw hw] at h;exact kl hc h
def qf(hc:qQ c c'):∀{rest:List Oper} {a:TL} {s:AS} {r:List _},sn P kt c ops rest a s=some r->sn P kt c' ops rest a s=some r
 | [],a,s,r,h=>h
 | o::rest,a,s,r,h=>by
  unfold sn at h |-;split
  .next hw =>
   rw[ip hw] at h;split at h
   .next v s' ho =>
    rw[qd hc ho];split at h
    .next tr ht=>simp only;rw[qf hc ht];exact h
    .cases h
   .cases h
  .next hw =>
   rw[iw hw] at h;split at h
   .next tr ht=>rw[qf hc ht];exact h
   .cases h
theorem C9(b:qQ c c'){r:TL × AS}(h:nZ P kt c ops a s=some r):nZ P kt c' ops a s=some r:=by
 unfold nZ at h |-;simp only at h |-;split
 .grind
 .next U =>
  rw[iw U] at h;split at h
  .next e d=>rw[qf b d];exact h
  .cases h
theorem qH(h:∀c a s r,gV P kt pr n c a s=some r->gV P kt pr m c a s=some r):qQ (ck P kt pr n) (ck P kt pr m):=by
 intro f b s r U;unfold ck at U |-;split
 .grind
 .grind
theorem C8:∀(n:Nat) (c:Code) (a:TL) (s:AS) (r:Exit × TL × AS),gV P kt pr n c a s=some r->gV P kt pr (n+1) c a s=some r
 | 0,c,a,s,r,h=>by unfold gV at h;cases h
 | n+1,c,a,s,r,h=>by
  have ih:=C8 n;have b:qQ (ck P kt pr n) (ck P kt pr<|n+1):=qH ih;cases c with
  | seq x y =>unfold gV at h |-;grind
  | cond x y z =>unfold gV at h |-;grind
  | block id x =>unfold gV at h |-;grind
  | loop x =>unfold gV at h |-;grind
  | scope x=>unfold gV at h |-;exact ih _ _ _ _ h
  | region id ops U =>
   rw[lY] at h |-;split
   .grind
   .next f =>
    rw[iw f] at h;cases U with
    | true =>
     simp only[if_true] at h |-;split at h
     .next e g d=>rw[C9 b d];exact h
     .cases h
    | false =>
     simp only[if_false,lI] at h |-;split at h
     .next e g d=>unfold AX at d |-;rw[kl b d];exact h
     .cases h
  | skip=>exact h
  | ret=>exact h
  | exit id=>exact h
  | label id=>exact h
  | _=>unfold gV at h;cases h
def pf(b:n<=m){c:Code}{r:Exit × TL × AS}(h:gV P kt pr n c a s=some r):gV P kt pr m c a s=some r:=by
 induction b with
 | refl=>exact h
 | step _ d=>exact C8 _ _ _ _ _ d
def jy(hm:n<=m):qQ (ck P kt pr n) (ck P kt pr m):=qH λ_ _ _ _ h=>pf hm h
end
section
variable (P:Program)
section
variable (kt:TypeId->Bool)
section
variable (pr:Prim)
def EF(f:FuncId)(args:Aq)(s:AS)(v:Value)(s':AS):Prop:=∃n,ck P kt pr n f args s=some (v,s')
def EW(c:Code)(a:TL)(s:AS)(Q:Exit->TL->AS->Prop):Prop:=∃n e a' s',gV P kt pr n c a s=some (e,a',s')/\Q e a' s'
def EO(ops:Array Oper)(rest:List Oper)(a:TL)(s:AS)(K:TL->AS->Prop):Prop:=∃n a' s',eh P kt (ck P kt pr n) ops rest a s=some (a',s')/\K a' s'
def ET(ops:Array Oper)(rest:List Oper)(a:TL)(s:AS)(K:List (TL × Value × AS)->Prop):Prop:=∃n tr,sn P kt (ck P kt pr n) ops rest a s=some tr/\K tr
end
end
end
section
variable {P:Program}{kt:TypeId->Bool}{pr:Prim}{a:TL}{s:AS}{Q:Exit->TL->AS->Prop}{KT:List (TL × Value × AS)->Prop}{rest:List Oper}{x y:Code}
def EW.mono{b:Exit->TL->AS->Prop}(h:EW P kt pr c a s Q)(f:∀e a s,Q e a s->b e a s):EW P kt pr c a s b:=by have⟨n,e,d,g,h1,h2⟩:=h;exact⟨n,e,d,g,h1,f _ _ _ h2⟩
def bn:=@EW.mono
def EW.skip(h:Q .normal a s):EW P kt pr .skip a s Q:=⟨1,_,_,_,Y,h⟩
def EW.ret(h:Q .ret a s):EW P kt pr .ret a s Q:=⟨1,_,_,_,Y,h⟩
def aD:=@EW.ret
def EW.exit(h:Q (.exit id) a s):EW P kt pr (.exit id) a s Q:=⟨1,_,_,_,Y,h⟩
def aR:=@EW.exit
def xV(P:Program)(kt:TypeId->Bool)(pr:Prim)(y:Code)(Q:Exit->TL->AS->Prop):Exit->TL->AS->Prop:=λe a s=>match e with
 | .normal=>EW P kt pr y a s Q
 | e=>Q e a s
def EW.seq(h:EW P kt pr x a s (xV P kt pr y Q)):EW P kt pr (.seq x y) a s Q:=by
 have⟨n,e,b,g,h1,h2⟩:=h;cases e with
 | normal =>obtain⟨m,d,c,i,h3,f⟩:=h2;refine⟨max n m+1,d,c,i,?_,f⟩;unfold gV;simp only;rw[pf (Nat.le_max_left n m) h1];exact pf (Nat.le_max_right n m) h3
 | _ =>refine⟨n+1,_,b,g,?_,h2⟩;unfold gV;simp only;rw[h1]
def aB:=@EW.seq
def oy{t:Operand}(c:a.at t=.bool true)(h:EW P kt pr x a s Q):EW P kt pr (.cond t x y) a s Q:=by have⟨n,e,b,d,h1,h2⟩:=h;exact⟨n+1,e,b,d,by unfold gV;simp only;rw[c];exact h1,h2⟩
def mq{t:Operand}(c:a.at t=.bool false)(h:EW P kt pr y a s Q):EW P kt pr (.cond t x y) a s Q:=by have⟨n,e,b,d,h1,h2⟩:=h;exact⟨n+1,e,b,d,by unfold gV;simp only;rw[c];exact h1,h2⟩
def EW.cond{t:Operand}{b:Bool}(c:a.at t=.bool b)(h1:b=true->EW P kt pr x a s Q)(h2:b=false->EW P kt pr y a s Q):EW P kt pr (.cond t x y) a s Q:=by
 cases b with
 | true=>exact oy c<|h1 Y
 | false=>exact mq c<|h2 Y
def E6(b:Nat)(Q:Exit->TL->AS->Prop):Exit->TL->AS->Prop:=λe a s=>match e with
 | .exit k=>if k=b then Q .normal a s else Q (.exit k) a s
 | e=>Q e a s
def EW.block(h:EW P kt pr x a s (E6 id Q)):EW P kt pr (.block id x) a s Q:=by
 have⟨n,e,c,d,h1,h2⟩:=h;unfold E6 at h2;cases e with
 | exit k =>
  simp only at h2;by_cases b:k=id
  .rw[ip b] at h2;exact⟨n+1,.normal,c,d,by unfold gV;simp only;rw[h1];simp[b],h2⟩
  .rw[iw b] at h2;exact⟨n+1,.exit k,c,d,by unfold gV;simp only;rw[h1];simp[b],h2⟩
 | _=>exact⟨n+1,_,c,d,by unfold gV;simp only;rw[h1],h2⟩
def aF:=@EW.block
def EW.scope(h:EW P kt pr x a s Q):EW P kt pr (.scope x) a s Q:=by have⟨n,e,b,c,h1,h2⟩:=h;exact⟨n+1,e,b,c,by unfold gV;exact h1,h2⟩
def EW.loop(h:EW P kt pr x a s (xV P kt pr (.loop x) Q)):EW P kt pr (.loop x) a s Q:=by
 have⟨n,e,b,g,h1,h2⟩:=h;cases e with
 | normal =>obtain⟨m,d,c,i,h3,f⟩:=h2;refine⟨max n m+1,d,c,i,?_,f⟩;unfold gV;simp only;rw[pf (Nat.le_max_left n m) h1];exact pf (Nat.le_max_right n m) h3
 | _ =>refine⟨n+1,_,b,g,?_,h2⟩;unfold gV;simp only;rw[h1]
def ic:=@EW.loop
def EO.nil(h:K a s):EO P kt pr ops [] a s K:=⟨0,a,s,Y,h⟩
def am:=@EO.nil
def EO.op(e:Region.wanted o (cg ops a)=true)(h:cf P kt (λ_ _ _=>none) a o s=some (v,s1))(k:EO P kt pr ops rest (a.put o.dst v) s1 K):EO P kt pr ops (o::rest) a s K:=by have⟨n,c,g,h1,h2⟩:=k;refine⟨n,c,g,?_,h2⟩;unfold eh;rw[ip e,qd (λf b s r d=>by cases d) h];exact h1
def bU:=@EO.op
theorem Ha{f:Operand}{c:gX}(b:o.op=.call cl)(d:cl.callee=.value f)(e:mc P f=false)(h:a.at f=.func (.func g) first cap)(U:first++cl.args.map a.at++cap=args):cf P kt c a o s=c g args s:=by
 unfold cf;have i:fR o.op=false:=by rw[b];rfl
 grind
def EO.call{f:Operand}(l:Region.wanted o (cg ops a)=true)(e:o.op=.call cl)(c:cl.callee=.value f)(d:mc P f=false)(j:a.at f=.func (.func g) first cap)(b:first++cl.args.map a.at++cap=args)(h:EF P kt pr g args s v s1)(k:EO P kt pr ops rest (a.put o.dst v) s1 K):EO P kt pr ops (o::rest) a s K:=by have⟨n,i,p,h1,h2⟩:=k;have⟨m,h⟩:=h;refine⟨max n m,i,p,?_,h2⟩;unfold eh;rw[ip l,Ha e c d j b,jy (Nat.le_max_right n m) _ _ _ _ h];exact kl (jy<|Nat.le_max_left n m) h1
theorem EW.region(c:oG ops=true)(h:EO P kt pr ops ops.toList a s (λU b=>Q .normal U b)):EW P kt pr (.region id ops false) a s Q:=by have⟨n,U,b,h1,h2⟩:=h;refine⟨n+1,.normal,U,b,?_,h2⟩;rw[lY,iw gq];simp only[if_false,lI];unfold AX;rw[h1]
def eA:=@EW.region
def ET.nil(h:KT []):ET P kt pr ops [] a s KT:=⟨0,[],Y,h⟩
def bq:=@ET.nil
def ET.op(e:Region.wanted o (cg ops a)=true)(h:cf P kt (λ_ _ _=>none) a o s=some (v,s1))(k:ET P kt pr ops rest (a.put o.dst v) s1 (λc=>KT ((a,v,s1)::c))):ET P kt pr ops (o::rest) a s KT:=by have⟨n,c,h1,h2⟩:=k;refine⟨n,_,?_,h2⟩;unfold sn;rw[ip e,qd (λf b s r d=>by cases d) h];simp only;rw[h1]
theorem qv(U:Region.wanted o (cg ops a)=false)(k:ET P kt pr ops rest (a.put o.dst undef) s (λb=>KT ((a,undef,s)::b))):ET P kt pr ops (o::rest) a s KT:=by have⟨n,b,h1,h2⟩:=k;refine⟨n,_,?_,h2⟩;unfold sn;grind
def ET.call{f:Operand}(l:Region.wanted o (cg ops a)=true)(e:o.op=.call cl)(c:cl.callee=.value f)(d:mc P f=false)(j:a.at f=.func (.func g) first cap)(b:first++cl.args.map a.at++cap=args)(h:EF P kt pr g args s v s1)(k:ET P kt pr ops rest (a.put o.dst v) s1 (λi=>KT ((a,v,s1)::i))):ET P kt pr ops (o::rest) a s KT:=by have⟨n,i,h1,h2⟩:=k;have⟨m,h⟩:=h;refine⟨max n m,_,?_,h2⟩;unfold sn;rw[ip l,Ha e c d j b,jy (Nat.le_max_right n m) _ _ _ _ h];simp only;rw[qf (jy<|Nat.le_max_left n m) h1]
theorem aP(i:oG ops=true)(j:iM ops=true)(k:FY P ops.toList (ij ops.toList []) (kL (ij ops.toList []) ops.toList.length)=true)
 (h:ET P kt pr ops ops.toList a s (λd=>qm P ops (ij ops.toList []) (kL (ij ops.toList []) ops.toList.length) d s=true/\∃c v b e o U,d.reverse=(c,v,b)::e/\ops.toList.reverse=o::U/\Q .normal (c.put o.dst v) b)):EW P kt pr (.region id ops true) a s Q:=by have⟨n,d,h1,h2,c,v,b,e,o,U,h3,f,g⟩:=h;refine⟨n+1,.normal,_,b,?_,g⟩;rw[lY,iw gq];simp only[if_true];unfold nZ;simp only;rw[iw gq,h1];simp only;rw[iw (by rw[h2];simp),h3,f]
theorem EF.of{fn:Func}{b:Code}(i:pr f=none)(g:P.funcs[f]?=some fn)(c:fn.body=some b)(h:EW P kt pr b (args.toList++List.replicate (fn.ntmps-args.toList.length) undef) s (λe U a=>(e=.normal\/e=.ret)/\di P fn U a=some v/\a=s')):EF P kt pr f args s v s':=by obtain⟨n,e,U,a,h1,d,h2,rfl⟩:=h;refine⟨n,?_⟩;unfold ck;grind
def aH:=@EF.of
def gp{g:Aq->AS->Option (Value × AS)}(a:pr f=some g)(h:g args s=some (v,s')):EF P kt pr f args s v s':=⟨0,by unfold ck;rw[a];exact h⟩
def EF.eval(n:Nat)(h:ck P kt pr n f args s=some (v,s')):EF P kt pr f args s v s':=⟨n,h⟩
def iQ:=@EF.eval
end
def gA:Nat->Value->Bool
 | 0,_=>false
 | n+1,v=>match v with
  | .agg x=>x.toList.all<|gA n
  | .tuple x=>x.toList.all<|gA n
  | v=>eW v
theorem j0{a:Aq}(h:∀x∈a.toList,VR S x x):AR (VR S) a a:=⟨Y,λi x y b U=>by rw[b] at U;cases U;exact h x gq⟩
theorem AR.C6{a b:Aq}(h:AR (VR S) a b)(U:∀x∈a.toList,∀y,VR S x y->y=x):b=a:=by
 apply wu.1;apply List.ext_getElem?;intro i;rw[Array.getElem?_toList,Array.getElem?_toList];by_cases c:i<a.size
 .have h1:=gF c;have h2:b[i]?=some (b[i]'(by rw[<-h.1];exact c)):=gF _;rw[h1,h2];rw[U _ iq _ (h.2 i _ _ h1 h2)]
 .have h2:¬i<b.size:=by rw[<-h.1];exact c
  grind
def iT:∀{n:Nat} {x v:Value},gA n x=true->VR S x v->v=x
 | 0,x,v,h,_=>by simp[gA] at h
 | n+1,x,v,h,hr=>by
  unfold gA at h;split at h
  .rw[aT] at h;obtain⟨p',rfl,hp⟩:=hr.ag;rw[hp.C6 λx hx y hy=>iT (h x hx) hy]
  .rw[aT] at h;obtain⟨p',rfl,hp⟩:=hr.tu;rw[hp.C6 λx hx y hy=>iT (h x hx) hy]
  .exact hr.sc h
def eL:∀{n:Nat} {x:Value},gA n x=true->VR S x x
 | 0,x,h=>by simp[gA] at h
 | n+1,x,h=>by
  unfold gA at h;split at h
  .rw[aT] at h;exact mv<|j0 λx hx=>eL<|h x hx
  .rw[aT] at h;exact ju<|j0 λx hx=>eL<|h x hx
  .exact bD h
section
variable {P:Program}{KT:TypeId->Prop}{O:ι->Nat->Prop}{s:AS}
theorem lP.mono{i:ι}{Post U:ι->Value->World->Prop}(h:lP P R D X f args i w Post)(j:∀i v w,Post i v w->U i v w):lP P R D X f args i w U:=by have⟨a,c,h1,h2,h3,d⟩:=h;refine⟨a,c,h1,h2,h3,nO d λk e g o q=>⟨q.1,q.2.1,λb r=>?_⟩⟩;have⟨v,l,m,n⟩:=q.2.2 b r;grind
def nw(Y:Cy P KT N0 M O R D X Hd){i:ι}:∀{l fr:Hq},Hd i (l++fr) w->Hd i fr w
 | [],fr,h=>h
 | x::l,fr,h=>nw Y<|(Y.Z h).drop h
def qO(Y:Cy P KT N0 M O R D X Hd){k:Nat}(g:∀b,k<=b->An b=none)(j:args.toList.all (gA m)=true)(p:gA m v=true)(h:Sound P KT An R D X Hd f args ⟨[],k⟩ v s1):Sound P KT An R D X Hd f args s v s:=by
 intro S l q i w c u t r z;rw[aT] at j;have e:=r.C6 λx n y A=>iT (j x n) A;subst e;have d:∀b o,(⟨[],k⟩:AS).get b=some o->False:=λb o a=>by unfold AS.get at a;simp at a
 refine(h An [] _ i w c ⟨λb o a=>(d b o a).elim,λb F o I x T a=>(d b o a).elim,λb o a=>(d b o a).elim,aQ An⟩ t (j0 λx n=>eL<|j x n) λb a _=>g b a).mono ?_;rintro G N Q ⟨E,H,J,K,L,B,C⟩;refine⟨S,l,aQ S,λ_ _=>W,u,nw Y B,?_⟩;rw[iT p C];exact eL p
def lR(P:Program)(KT:TypeId->Prop)(An:eN)(R:ι->Wq)(D:ι->World->World->Array Event->Prop)(X:ι->Gq)(Hd:ι->Hq->World->Prop)(f:FuncId)(args:Aq)(s:AS)(v:Value)(s':AS):Prop :=
 ∀S l fr i w args',gz P KT An S s l->Hd i (l++fr) w->AR (VR S) args args'->(∀b,s.nx<=b->S b=none) ->
  lP P R D X f args' i w λi' v' w'=>∃S' l',gz P KT An S' s' l'/\Hd i' (l'++fr) w'/\VR S' v v'
def Sound.toW(h:Sound P KT An R D X Hd f args s v s'):lR P KT An R D X Hd f args s v s':=λS l e i w a k j g c=>(h S l e i w a k j g λb m _=>c b m).mono λ_ _ _ ⟨d,n,_,_,q⟩=>⟨d,n,q⟩
theorem ms(Y:Cy P KT N0 M O R D X Hd){k c:Nat}{x1:Nat × Nat × Nat}(h1:An c=some x1)(a3:∀b,k<=b->An b=none)(a5:cs.toList.all eW=true)(a9:∀b,s0.get b=if b=c then some (.cells cs t) else none)(hk:s0.nx=k)(aa:s1.get c=some (.cells cs t))(hs:s.get c=some (.cells cs t))(W:args.toList.all (gA m)=true)(hv:gA m v=true)(h:lR P KT An R D X Hd f args s0 v s1):Sound P KT An R D X Hd f args s v s:=by
 intro S l u i w d j hF hA ab;rw[aT] at W a5;have e:=hA.C6 λx G y hy=>iT (W x G) hy;subst e;have hck:c<k:=by
  by_cases a7:c<k
  .exact a7
  .rw[a3 c oq] at h1;cases h1
 have⟨g,z,e,r,J,q2,q3,q4⟩:=j.live c _ hs;have hx1:x1=(g,z,e):=by have:=j.an _ _ h1;rw[J] at this;cases this;rfl
 subst hx1;have a4:∀{A B:eN} {Rz:Obj},OR A z (.cells cs t) Rz->OR B z (.cells cs t) Rz:=λ{A B Rz} hq=>by have⟨Q,r1,r2,K,L⟩:=hq;refine⟨Q,r1,r2,K,λi x y G hy=>?_⟩;have F:=a5 x gq;rw[(L i x y G hy).sc F];exact bD F
 have⟨p,q,hl⟩:=List.append_of_mem q2;have E:(p++(g,r)::q).Perm ([(g,r)]++(p++q)):=List.perm_middle;have T:Hd i ([(g,r)]++((p++q)++u)) w:=(Y.Z hF).perm hF (by
  rw[hl,<-vt];exact(E.append_right u).symm);have I:∀b o,s0.get b=some o->b=c/\o=.cells cs t:=λb o U=>by
  rw[a9] at U;split at U
  .next e=>cases U;exact⟨e,rfl⟩
  .cases U
 refine(h An [(g,r)] ((p++q)++u) i w d ⟨λb o U=>?_,λb b' o r x x' U uU _ _ _=>by rw[(I b o U).1,(I b' r uU).1],λb o U=>by rw[(I b o U).1,hk];exact hck,aQ An⟩ T (j0 λx G=>eL<|W x G) λb U=>a3 b gq).mono ?_
 .obtain⟨rfl,rfl⟩:=I b o U;exact⟨g,z,e,r,h1,iq,a4 q3,q4⟩
 .rintro i' v' w' ⟨S',l',K,L,r5⟩;have⟨g2,z2,e2,H,p1,p2,p3,p4⟩:=K.live c _ aa;have he:(g2,z2,e2)=(g,z,e):=by have:=K.an _ _ h1;rw[p1] at this;cases this;rfl
  cases he;have⟨lc,ld,a6⟩:=List.append_of_mem p2;have n:(lc++(g,H)::ld).Perm _:=List.perm_middle.trans (List.perm_append_singleton _ _).symm;have V:Hd i' ((lc++ld)++(([(g,H)]++(p++q))++u)) w':=(Y.Z L).perm L (by
   rw[a6]
   have:=(n.append_right<|(p++q)++u).symm;simpa[vt] using this);refine⟨S,[(g,H)]++(p++q),aQ S,λ_ _=>rfl,⟨λb o U=>?_,j.inj,j.lt,j.an⟩,nw Y V,?_⟩
  .have⟨gb,zb,eb,ob,N,a,u3,u4⟩:=j.live b o U;by_cases C:b=c
   .subst C;rw[hs] at U;cases U;rw[J] at N;cases N;exact⟨g,z,e,H,J,iq,a4 p3,u4⟩
   .rw[hl] at a;have a8:gb≠g:=λe'=>C<|j.inj b c o _ _ _ U hs N J e';refine⟨gb,zb,eb,ob,N,?_,u3,u4⟩;rcases List.mem_append.1 a with a|a
    .simp[a]
    .rcases oc.1 a with a|a
     .cases a;exact absurd rfl a8
     .simp[a]
  .rw[iT hv r5];exact eL hv
end
def Yz:Option Obj->Option Obj->Bool
 | none,none=>true
 | some (.cells c t f),some (.cells c' t' f')=>t.beq t'&&f.1.beq f'.1&&f.2.beq f'.2&&c.toList.length.beq c'.toList.length&&(c.toList.zip c'.toList).all (λp=>qB 20 p.1 p.2)
 | some (.stringIter x p),some (.stringIter y q)=>p.beq q&&cZ x.data.toList y.data.toList
 | _,_=>false
def Qc (s s':AS):Bool:=s.nx.beq s'.nx&&s.hp.length.beq s'.hp.length&&(s.hp.zip s'.hp).all λp=>p.1.length.beq p.2.length&&(p.1.zip p.2).all λq=>Yz q.1 q.2
def Vo:Value->Value->Bool
 | .tuple x,.tuple y=>x.toList.length.beq y.toList.length&&(x.toList.zip y.toList).all (λp=>qB 20 p.1 p.2)
 | x,y=>qB 20 x y
def chk (r:Option (Value × AS))(v:Value)(s:AS):Bool:=match r with
 | some (v',s')=>Vo v' v&&Qc s' s
 | none=>false
def pY{p:α × α->Bool}(c:∀q:α × α,p q=true->q.1=q.2):∀{a b:List α},a.length.beq b.length=true->(a.zip b).all p=true->a=b
 | [],[],_,_=>rfl
 | [],_::_,hl,_=>by simp at hl
 | _::_,[],hl,_=>by simp at hl
 | x::a,y::b,hl,h=>by
  have hl':a.length.beq b.length=true:=by have:=iC hl;simp only[lC,Nat.add_right_cancel_iff] at this;rw[this];exact Nat.beq_refl _
  simp only[List.zip_cons_cons,List.all_cons,nU] at h;rw[show x=y from c _ h.1,pY c hl' h.2]
def uq{x y:Option Obj}(h:Yz x y=true):x=y:=by
 unfold Yz at h;split at h
 .rfl
 .next c t f a k j =>simp only[nU] at h;obtain⟨⟨⟨⟨h1,h2⟩,h3⟩,d⟩,g⟩:=h;have e:=pY (λq i=>kv i) d g;have b:=wu.1 e;rw[iC h1,b,Prod.ext (iC h2)<|iC h3]
 .simp only[nU] at h;rw[iC h.1,wD h.2]
 .cases h
def rB(h:Qc s s'=true):s=s':=by unfold Qc at h;simp only[nU] at h;obtain⟨⟨h1,h2⟩,h3⟩:=h;have⟨a,b⟩:=s;have⟨c,d⟩:=s';have e1:b=d:=iC h1;have f:a=c:=pY (λq e=>by simp only[nU] at e;exact pY (λr g=>uq g) e.1 e.2) h2 h3;rw[e1,f]
def GS{x y:Value}(h:Vo x y=true):x=y:=by
 unfold Vo at h;split at h
 .next a b =>simp only[nU] at h;have e:=wu.1<|pY (λq c=>kv c) h.1 h.2;rw[e]
 .exact kv h
def Sx{r:Option (Value × AS)}(h:chk r v s=true):r=some (v,s):=by
 unfold chk at h;split at h
 .simp only[nU] at h;rw[GS h.1,rB h.2]
 .cases h
def Z5:Option (TL × AS)->Bool
 | some _=>true
 | none=>false
def oA:Option (TL × AS)->TL
 | some (a,_)=>a
 | none=>[]
def oS:Option (TL × AS)->AS
 | some (_,s)=>s
 | none=>⟨[],0⟩
def cOk:Option (Exit × TL × AS)->Bool
 | some (.normal,_,_)=>true
 | _=>false
def cA:Option (Exit × TL × AS)->TL
 | some (_,a,_)=>a
 | none=>[]
def cS:Option (Exit × TL × AS)->AS
 | some (_,_,s)=>s
 | none=>⟨[],0⟩
section
variable {P:Program}{kt:TypeId->Bool}{pr:Prim}{a:TL}{s:AS}{Q:Exit->TL->AS->Prop}{KT:List (TL × Value × AS)->Prop}{rest:List Oper}{x y:Code}
def n5{c:gX}:∀{l m:List Oper} {a:TL} {s:AS},eh P kt c ops (l++m) a s=(match eh P kt c ops l a s with|some (a',s')=>eh P kt c ops m a' s'|none=>none)
 | [],m,a,s=>rfl
 | o::l,m,a,s=>by
  rw[List.cons_append];simp only[eh];by_cases hw:Region.wanted o (cg ops a)=true
  .simp only[ip hw];cases cf P kt c a o s with
   | none=>rfl
   | some r=>exact n5
  .simp only[iw hw];exact n5
def EO.run(k n:Nat)(b:TL)(s':AS)(h:eh P kt (ck P kt pr n) ops (rest.take k) a s=some (b,s'))(d:EO P kt pr ops (rest.drop k) b s' K):EO P kt pr ops rest a s K:=by have⟨m,c,e,h1,h2⟩:=d;refine⟨max n m,c,e,?_,h2⟩;rw[<-List.take_append_drop k rest,n5,kl (jy<|Nat.le_max_left n m) h];exact kl (jy<|Nat.le_max_right n m) h1
def EO.go(k n:Nat)(h:Z5 (eh P kt (ck P kt pr n) ops (rest.take k) a s)=true)(b:EO P kt pr ops (rest.drop k) (oA<|eh P kt (ck P kt pr n) ops (rest.take k) a s) (oS<|eh P kt (ck P kt pr n) ops (rest.take k) a s) K):EO P kt pr ops rest a s K:=by
 generalize c:eh P kt _ ops _ a s=q at h b;obtain _|⟨a',s'⟩:=q
 .cases h
 .exact EO.run k n a' s' c b
def jk:=@EO.go
def EW.go(n:Nat)(h:cOk (gV P kt pr n c a s)=true)(k:Q .normal (cA<|gV P kt pr n c a s) (cS<|gV P kt pr n c a s)):EW P kt pr c a s Q:=by
 generalize b:gV P kt pr n c a s=q at h k;unfold cOk at h;split at h
 .exact⟨n,_,_,_,b,k⟩
 .cases h
def eJ:=@EW.go
def cE:Option (Exit × TL × AS)->Option Exit
 | some (e,_,_)=>some e
 | none=>none
def kT(n:Nat)(e:Exit)(h:cE (gV P kt pr n c a s)=some e)(k:Q e (cA<|gV P kt pr n c a s) (cS<|gV P kt pr n c a s)):EW P kt pr c a s Q:=by
 generalize b:gV P kt pr n c a s=q at h k;obtain _|⟨e',a',s'⟩:=q
 .cases h
 .cases h;exact⟨n,_,_,_,b,k⟩
def EO.y6(args:Aq)(hw:Region.wanted o (cg ops a)=true)(lz:o.op=.call cl)(KF:cl.callee=.value (.func g))(ES:mc P (.func g)=false)(sw:(#[]++cl.args.map a.at++#[]:Aq)=args)(h:EF P kt pr g args s v s1)(k:EO P kt pr ops rest (a.put o.dst v) s1 K):EO P kt pr ops (o::rest) a s K :=
 EO.call hw lz KF ES Y sw h k
def dF:=@EO.y6
def ET.y6(args:Aq)(hw:Region.wanted o (cg ops a)=true)(lz:o.op=.call cl)(KF:cl.callee=.value (.func g))(ES:mc P (.func g)=false)(sw:(#[]++cl.args.map a.at++#[]:Aq)=args)(h:EF P kt pr g args s v s1)(k:ET P kt pr ops rest (a.put o.dst v) s1 (λtr=>KT ((a,v,s1)::tr))):ET P kt pr ops (o::rest) a s KT :=
 ET.call hw lz KF ES Y sw h k
def EO.I9(s':AS)(h:s=s')(k:EO P kt pr ops rest a s' K):EO P kt pr ops rest a s K:=h▸k
def dY:=@EO.I9
def EW.I9(s':AS)(h:s=s')(k:EW P kt pr c a s' Q):EW P kt pr c a s Q:=h▸k
def fe:=@EW.I9
def EW.fill(f:(Nq)->TL)(h:a=f (λi=>a.getD i undef))(k:∀x,EW P kt pr c (f x) s Q):EW P kt pr c a s Q:=h▸k _
def aV:=@EW.fill
def bw(I:Nat->TL->AS->Prop)(h:∀m a s,I m a s->EW P kt pr c a s (λe a' s'=>match e with|.normal=>∃m',m'<m/\I m' a' s'|e=>Q e a' s')):∀m a s,I m a s->EW P kt pr (.loop c) a s Q:=by
 intro m;induction m using Nat.strongRecOn with
 | _ m ih =>
  intro a s hI;refine ic<|bn (h m a s hI) λe a' s' q=>?_;unfold xV;cases e with
  | normal=>obtain⟨m',hm,WW⟩:=q;exact ih m' hm a' s' WW
  | _=>exact q
end
section
variable {P:Program}{KT:TypeId->Prop}{O:ι->Nat->Prop}{pr:Prim}{kt:TypeId->Bool}
def kR(f:FuncId)(V:Aq->Option Value)(pr:Prim):Prim:=λg=>if g.beq f then some λa s=>match V a with
 | some v=>some (v,s)
 | none=>none
 else pr g
theorem cR.add(Y:Cy P KT N0 M O R D X Hd)(hm:P.follows .mixedOrders=true)(FH:∀ t,kt t=false->¬ KT t)(Jy:∀ (f:FuncId) (bL:Func),P.funcs[f]?=some bL->(bL.name == "runtime.NumGoroutine")=false){k:Nat}(OY:∀ b,k<=b->An b=none)(hp:cR P KT An R D X Hd pr){V:Array Value->Option Value}(hV:∀ args v,V args=some v->args.toList.all (gA m)=true/\gA m v=true/\∃ s1,EF P kt pr f args ⟨[],k⟩ v s1):cR P KT An R D X Hd (kR f V pr):=by
 constructor
 .intro g h args s v s' hf hh;unfold kR at hf;split at hf
  .grind
  .exact hp.nx g h args s v s' hf hh
 .intro g h args s v s' hf hh;unfold kR at hf;split at hf
  .next he =>
   have he:=iC he;subst he;cases hf;simp only at hh;split at hh
   .next v' hv =>cases hh;have⟨h1,h2,s1,n,h3⟩:=hV _ _ hv;exact qO Y OY h1 h2<|(jM Y hm FH hp Jy n).2 _ _ _ _ _ h3
   .cases hh
  .exact hp.sound g h args s v s' hf hh
end
abbrev str(l:Bq):Value:=.string ⟨l.toArray⟩
abbrev num(n:Int):Value:=.int .i64 n
def sM(l:List α):l7 l 0=l.length:=by rw[kF,Nat.zero_add]
def vk(h : -2000000000<=r/\r<=2000000000):eU .i64 r=r:=by unfold eU;simp only;rw[ip h]
def nV{c:Nat}{j:Int}(h:0<=j)(a:j<=c):bS n c none (some<|.int k j)=some (0,j.toNat):=by unfold bS;simp only;rw[ip ⟨h,a⟩]
def ig{c:Nat}{i:Int}(h:0<=i)(a:i<=n):bS n c (some<|.int k i) none=some (i.toNat,n):=by unfold bS;simp only;rw[ip ⟨h,a⟩]
section
variable {P:Program}{kt:TypeId->Bool}{pr:Prim}{c:gX}{a:TL}{s:AS}{Q:Exit->TL->AS->Prop}{KT:List (TL × Value × AS)->Prop}{rest:List Oper}
theorem eG(b:fR o.op=false)(U:match o.op with|.load _ _|.store _ _ _|.slice _ _ _ _ _|.next _ _|.call _=>False|_=>True)(h:cI P a o=some v):cf P kt c a o s=some (v,s):=by unfold cf;grind
def Bx{lo hi:Option Operand}(b:o.op=.slice t x lo hi none)(f:P.underlying t=some .string)(g:a.at x=str l)(d:bS l.length l.length (lo.map a.at) (hi.map a.at)=some (i,j)):cf P kt c a o s=some (str<|(l.take j).drop i,s):=by
 have e:jh P t (a.at x) (lo.map a.at) (hi.map a.at) (none.map a.at) s=some (str<|(l.take j).drop i):=by
  unfold jh;rw[f,g];show(match bS _ _ _ _ with
   | some (l',h)=>some<|Value.string ⟨((l.take h).drop l').toArray⟩
   | none=>none)=_;rw[sM,d]
 unfold cf;rw[iw (by rw[b];simp[fR]),b];simp only;rw[e]
theorem jY{z}{i j:Int}(U:o.op=.binOp .add t x y z)(e:a.at x=num i)(f:a.at y=num j)(b:i+j=r)(d : -2000000000<=r/\r<=2000000000):cf P kt c a o s=some (num r,s):=by refine eG (by rw[U];rfl) gq ?_;unfold cI;rw[U];simp only;rw[e,f];unfold dV;simp only[ip];rw[b,vk d]
theorem PV{z}{i j:Int}(U:o.op=.binOp .sub t x y z)(e:a.at x=num i)(f:a.at y=num j)(b:i-j=r)(d : -2000000000<=r/\r<=2000000000):cf P kt c a o s=some (num r,s):=by refine eG (by rw[U];rfl) gq ?_;unfold cI;rw[U];simp only;rw[e,f];unfold dV;simp only[ip];rw[b,vk d]
theorem Ie{z}{m:Bq}(U:o.op=.binOp .add t x y z)(d:a.at x=str l)(e:a.at y=str m)(b:l.length+m.length<=1000000000):cf P kt c a o s=some (str<|l++m,s):=by refine eG (by rw[U];rfl) gq ?_;unfold cI;rw[U];simp only;rw[d,e];unfold dV;simp only;rw[show l7 l.toArray.toList 0=l.length from sM l,show l7 m.toArray.toList 0=m.length from sM m,ip b]
theorem li{i:Operand}{n:Int}{b:UInt8}(U:o.op=.index t x i)(f:P.underlying t=some .string)(g:a.at x=str l)(hi:a.at i=.int k n)(e:0<=n)(d:l[n.toNat]?=some b):cf P kt c a o s=some (.int .u8 b.toNat,s):=by refine eG (by rw[U];rfl) gq ?_;unfold cI;grind
theorem ta{e:TypeId}{i:Operand}{sp:Option Nat}{j:Int}(U:o.op=.indexAddr t x i)(g:P.underlying t=some (.slice e))(d:cz P e=some sz)(h:a.at x=.slice (some ⟨b,off,sp⟩) n cp)(hi:a.at i=.int k j)(f:0<=j)(h1:j<n):cf P kt c a o s=some (aC b<|off+j.toNat*sz,s):=by refine eG (by rw[U];rfl) gq ?_;unfold cI;grind
def kO{d:TypeDesc}(e:o.op=.load t x)(h:P.underlying t=some d)(f:d.isRow=false)(j:a.at x=aC b off)(g:s.get b=some (.cells cs ty fz))(i:cs[off]?=some v):cf P kt c a o s=some (v,s):=by unfold cf;rw[iw (by rw[e];simp[fR]),e];simp only;unfold bV;rw[j];simp only[aC,g,h,f,i,if_false,lI]
theorem iH{w:Value}(U:o.op=.store t x y)(f:a.at x=aC b off)(g:a.at y=w)(d:w.cells=#[w])(j:w.oneCell'=true)(h:cz P t=some 1)(e:s.get b=some (.cells cs ty fz))(i:off+1<=cs.size):cf P kt c a o s=some (undef,s.set b<|some<|.cells (putAt cs off [w]) ty fz):=by unfold cf;rw[iw (by rw[U];simp[fR]),U];simp only;unfold ly;rw[f,g];simp only[aC,e,d];grind
def EO.fin(n:Nat)(h:Z5 (eh P kt (ck P kt pr n) ops rest a s)=true)(k:K (oA<|eh P kt (ck P kt pr n) ops rest a s) (oS<|eh P kt (ck P kt pr n) ops rest a s)):EO P kt pr ops rest a s K:=by
 generalize b:eh P kt _ ops rest a s=q at h k;obtain _|⟨a',s'⟩:=q
 .cases h
 .exact⟨n,a',s',b,k⟩
end
