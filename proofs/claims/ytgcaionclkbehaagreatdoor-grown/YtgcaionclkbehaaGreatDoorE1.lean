
import Derived.Test.YtgcaionclkbehaaGreatDoorQuiet
import Derived.Deep.MidRow
import Derived.Great.BuildSlice
import Derived.Lib.BufferWrite
set_option linter.all false
set_option maxHeartbeats 2000000
set_option maxRecDepth 100000
namespace Go.Proofs.YtgcaionclkbehaaGreatDoor
open Go.Conc Go.RowKit Go.Lib Tryz
variable {x:Operand}{e t ty:TypeId}{s:ByteArray}{b i id k len n off p' pos sz:Nat}{K:Cfg}{v v':Value}{tk:Iq}{en:Bool}{Hn:Nat->Prop}{o:Oper}{o':Obj}{cs xs:Vq}{cells cur cur':Aq}{fz:Nat × Nat}{α:Type}{ops:Array Oper}{rest:List Nat}{d:TypeDesc}
structure HL(M:World->Nat->Prop)(O:Nat->Prop)(N0:Nat)(Ex:Nat->Prop)(w₀:World)(l:Hq)(w:World):Prop where
 kept:Kept M O Ex w₀ w
 size:N0<=w.heap.size
 own:∀b o,(b,o)∈l->M w b/\w.heap[b]?=some o/\(Ex b\/w₀.heap.size<=b)
 nodup:(l.map Prod.fst).Nodup
variable {Ex:Nat->Prop}{w₀:World}
section
variable {KT:TypeId->Prop}{N0:Nat}{M:World->Nat->Prop}{O:Nat->Prop}{R:Wq}{D:World->World->Array Event->Prop}{w aE w':World}{l:Hq}{b:Nat}{o o':Obj}
def HL.rely(E:Env KT N0 M O R D)(h:HL M O N0 Ex w₀ l w)(r:R w aE):HL M O N0 Ex w₀ l aE :=
 ⟨h.kept.rely E r,lT h.size (E.size r),λb o hm=>⟨E.stay r (h.own b o hm).1,(E.keep r (h.own b o hm).1).trans (h.own b o hm).2.1,(h.own b o hm).2.2⟩,h.nodup⟩
def HL.perm{a:Hq}(h:HL M O N0 Ex w₀ l w)(p:a.Perm l):HL M O N0 Ex w₀ a w:=⟨h.kept,h.size,λb o c=>h.own b o (p.mem_iff.1 c),(p.map Prod.fst).nodup_iff.2 h.nodup⟩
def HL.drop{x:Nat × Obj}(h:HL M O N0 Ex w₀ (x::l) w):HL M O N0 Ex w₀ l w:=⟨h.kept,h.size,λb o a=>h.own b o (Jo _ a),(List.nodup_cons.1 h.nodup).2⟩
def HL.head(h:HL M O N0 Ex w₀ ((b,o)::l) w):M w b/\w.heap[b]?=some o/\(Ex b\/w₀.heap.size<=b):=h.own b o (List.mem_cons_self ..)
theorem HL.grown(E:Env KT N0 M O R D)(h:HL M O N0 Ex w₀ l w)(a:Own KT M w (w.alloc o)):HL M O N0 Ex w₀ ((w.heap.size,o)::l) (w.alloc o):=by
 refine⟨h.kept.own E a λb c _=>Below.heap_alloc _ _ _ (E.lt (h.kept.mine b c)),by simp[World.size_alloc];have:=h.size;omega,λb f U=>?_,?_⟩
 .rcases nk.1 U with e|U
  .cases e;exact⟨E.new h.size a lr (by simp_all),heap_alloc_new w _,.inr h.kept.grow⟩
  .have⟨h1,h2,h3⟩:=h.own b f U;exact⟨E.mine a h1,(Below.heap_alloc _ _ _ (E.lt h1)).trans h2,h3⟩
 .refine List.nodup_cons.2 ⟨λU=>?_,h.nodup⟩;have⟨p,d,e⟩:=List.mem_map.1 U;have g:=E.lt (h.own p.1 p.2 d).1;grind
def HL.turn(E:Env KT N0 M O R D)(h:HL M O N0 Ex w₀ ((b,o)::l) w)(a:Own KT M w w')(i:w'.heap[b]?=some o')(g:∀k,k≠b->w'.heap[k]?=w.heap[k]?):HL M O N0 Ex w₀ ((b,o')::l) w':=by
 have j:=List.nodup_cons.1 h.nodup;refine⟨h.kept.own E a λk c n=>g k λe=>?_,lT h.size a.grow,λk f m=>?_,h.nodup⟩
 .subst e;rcases h.head.2.2 with z|z
  .exact n z
  .have:=E.lt c;omega
 .rcases nk.1 m with e|Sb
  .cases e;exact⟨E.mine a h.head.1,i,h.head.2.2⟩
  .have⟨h1,h2,h3⟩:=h.own k f (Jo _ Sb);have d:k≠b:=λe=>j.1 (List.mem_map.2 ⟨_,Sb,e⟩);exact⟨E.mine a h1,(g k d).trans h2,h3⟩
theorem HL.past(E:Env KT N0 M O R D)(h:HL M O N0 Ex w₀ l w)(k:Kept M O (λ_=>False) w w')(U:N0<=w'.heap.size):HL M O N0 Ex w₀ l w' :=
 ⟨h.kept.trans E k (λ_ z=>z.elim),U,λb o a=>⟨k.mine _ (h.own b o a).1,(k.block _ (h.own b o a).1 id).trans (h.own b o a).2.1,(h.own b o a).2.2⟩,h.nodup⟩
end
variable {ι:Type}
section
variable {P:Program}{R:ι->Wq}{D:ι->World->World->Array Event->Prop}{X:ι->Gq}{fn:FuncId}{Q:ei ι}{a:Act}{w:World}{vs:ι}{KT:TypeId->Prop}{N0:Nat}{M:World->Nat->Prop}{O:Nat->Prop}{l:Hq}
section
variable (ht:P.underlying t=some .string)
def GM(w:World):(Instr.range t (.string s)).run P w=.ok (.pointer (sq w.heap.size)) (w.alloc (.stringIter s 0)):=by simp[Instr.range,run_underlying ht,newObj,Sem.run]
def xi(w:World)(es:Array Event):(Instr.range t (.string s)).events P w es=es:=by simp[Instr.range,newObj,underlying,ht];rfl
end
section
variable (hb:w.heap[b]?=some (.stringIter s pos))
def kG:(getObj b).run P w=.ok (.stringIter s pos) w:=by simp[getObj,Sem.run,hb]
def m7(es:Array Event):(getObj b).events P w es=es.push ⟨.obj b,false,false⟩:=by unfold Sem.events;simp only[getObj,Sem.runT,hb,Obj.isChan]
end
def AO(o:Obj)(a:w.heap[b]?=some (.stringIter s pos)):(setObj b o).run P w=.ok () { w with heap:=w.heap.setIfInBounds b o }:=by simp[setObj,Sem.run,a]
section
variable (hb:w.heap[b]?=some (.stringIter s pos))
def tQ(es:Array Event):(setObj b (.stringIter s p')).events P w es=es.push ⟨.obj b,true,false⟩:=by unfold Sem.events;simp only[setObj,Sem.runT,hb,Obj.isChan]
def J9(a:pos<s.size) :
  (Instr.next (.pointer (sq b)) true t).run P w=.ok (.tuple #[.bool true,.int .i64 pos,.int .i32 (Utf8.decode s pos).1]) { w with heap:=w.heap.setIfInBounds b (.stringIter s (pos+(Utf8.decode s pos).2)) }:=by simp[Instr.next,kG hb,AO _ hb,a,goInt]
def zB(a:pos<s.size)(es:Array Event) :
  (Instr.next (.pointer (sq b)) true t).events P w es=(es.push ⟨.obj b,false,false⟩).push ⟨.obj b,true,false⟩:=by simp[Instr.next,kG hb,m7 hb,tQ hb,a,goInt]
def xT(a:¬pos<s.size) :
  (Instr.next (.pointer (sq b)) true t).run P w=.ok (.tuple #[.bool false]) w:=by simp[Instr.next,kG hb,a]
def sy(a:¬pos<s.size)(es:Array Event) :
  (Instr.next (.pointer (sq b)) true t).events P w es=es.push ⟨.obj b,false,false⟩:=by simp[Instr.next,kG hb,m7 hb,a]
end
end
section
variable {KT:TypeId->Prop}{N0:Nat}{M:World->Nat->Prop}{O:Nat->Prop}{R:Wq}{D:World->World->Array Event->Prop}{Hn:Nat->Prop}{w aE w':World}{l:Hq}
def HL.over(E:Env KT N0 M O R D)(h:HL M O N0 Ex w₀ l w)(k:Kept M O Hn w w')(hs:N0<=w'.heap.size)(hl:∀b o,(b,o)∈l->¬Hn b)(hx:∀b,Hn b->Ex b\/w₀.heap.size<=b):HL M O N0 Ex w₀ l w' :=
 ⟨h.kept.trans E k hx,hs,λb o hm=>⟨k.mine _ (h.own b o hm).1,(k.block _ (h.own b o hm).1 (hl b o hm)).trans (h.own b o hm).2.1,(h.own b o hm).2.2⟩,h.nodup⟩
end
structure HX(K:Cfg)(Ex:Nat->Prop)(w₀:World)(all:Iq)(Rb:Nat)(i:Ph)(l:Hq)(w:World):Prop where
 hl:HL (cO K) (g9 K) K.N0 Ex w₀ l w
 row:∃v tk rest en,tk++rest=all/\G1 rest en i/\HW K (pb Rb v) w Rb v v tk en w/\(∀b o,(b,o)∈l->¬pb Rb v b)/\∀b,pb Rb v b->Ex b\/w₀.heap.size<=b
variable {N Pb B Rb:Nat}{Shun Mz:Loc->Prop}{val:Value}{all:Iq}{l':Hq}
section
variable {w aE w':World}{Az:Gq}{i:Ph}{l:Hq}{b:Nat}{o o':Obj}
def HX.early(h:HX K Ex w₀ all Rb i l w):i.early:=by have⟨_,_,_,_,_,a,_⟩:=h.row;exact a.early
variable [ConcR.Payload][ConcX.Payload]
variable [ConcX.Shy (Cfg.Wg (aC prog N Pb Shun val B Mz)) (Cfg.C (aC prog N Pb Shun val B Mz))]
section
variable (F:Cfg.Fit (aC prog N Pb Shun val B Mz))
section
variable (h:HX (aC prog N Pb Shun val B Mz) Ex w₀ all Rb i l w)
def HX.env:Env eg (N+9) (cO (aC prog N Pb Shun val B Mz)) (g9 (aC prog N Pb Shun val B Mz)) (oa (aC prog N Pb Shun val B Mz) i) (tj (aC prog N Pb Shun val B Mz) i):=zm F h.early
def HX.rely(r:oa (aC prog N Pb Shun val B Mz) i w aE):HX (aC prog N Pb Shun val B Mz) Ex w₀ all Rb i l aE:=by have E:=h.env F;have⟨v,e,a,b,h1,h2,h3,c,d⟩:=h.row;exact⟨h.hl.rely E r,v,e,a,b,h1,h2,(h3.wx E r).mm,c,d⟩
end
end
def HX.drop{x:Nat × Obj}(h:HX K Ex w₀ all Rb i (x::l) w):HX K Ex w₀ all Rb i l w:=by have⟨v,g,a,c,h1,h2,h3,d,e⟩:=h.row;exact⟨h.hl.drop,v,g,a,c,h1,h2,h3,λb o f=>d b o (Jo _ f),e⟩
def HW.still(h:HW K Hn w₀ Rb v v tk en w)(hb:∀b,pb Rb v b->w'.heap[b]?=w.heap[b]?)(hm:∀b,cO K w b->cO K w' b)(hs:K.N0<=w'.heap.size):HW K (pb Rb v) w' Rb v v tk en w' :=
 ⟨(hb Rb (.inl rfl)).trans h.rb,hm _ h.mr,.inl (.inl rfl),⟨(h.ro.same λk hk=>⟨hb k (.inr hk),hm _ (h.ro.own k hk).1⟩).row,λk hk=>⟨hm _ (h.ro.own k hk).1,.inl (.inr hk)⟩,h.ro.nil⟩,hs,Kept.refl _⟩
def HW.lt(F:K.Fit)(h:HW K Hn w₀ Rb v v tk en w)(b:Nat)(a:pb Rb v b):b<w.heap.size:=by
 rcases a with rfl|a
 .exact h.mr.1
 .exact(h.ro.own b a).1.1
def HX.grown(F:Cfg.Fit (aC prog N Pb Shun val B Mz))(h:HX (aC prog N Pb Shun val B Mz) Ex w₀ all Rb i l w)(d:Own eg (cO (aC prog N Pb Shun val B Mz)) w (w.alloc o)):HX (aC prog N Pb Shun val B Mz) Ex w₀ all Rb i ((w.heap.size,o)::l) (w.alloc o):=by
 have E:=h.env F;have⟨v,n,c,f,h1,h2,h3,g,j⟩:=h.row;refine⟨h.hl.grown E d,v,n,c,f,h1,h2,h3.still (λb a=>Below.heap_alloc _ _ _ (h3.lt F b a)) (λb a=>E.mine d a) (by simp[World.size_alloc];have:=h.hl.size;omega),λb m k=>?_,j⟩;rcases nk.1 k with e|Sb
 .cases e;exact λa=>absurd (h3.lt F _ a) (Nat.lt_irrefl _)
 .exact g b m Sb
theorem HX.turn(F:Cfg.Fit (aC prog N Pb Shun val B Mz))(h:HX (aC prog N Pb Shun val B Mz) Ex w₀ all Rb i ((b,o)::l) w)(U:Own eg (cO (aC prog N Pb Shun val B Mz)) w w')(c:w'.heap[b]?=some o')(f:∀k,k≠b->w'.heap[k]?=w.heap[k]?):HX (aC prog N Pb Shun val B Mz) Ex w₀ all Rb i ((b,o')::l) w':=by have E:=h.env F;have⟨v,p,a,g,h1,h2,h3,j,m⟩:=h.row;refine⟨h.hl.turn E U c f,v,p,a,g,h1,h2,h3.still (λk d=>f k λe=>j b o (List.mem_cons_self ..) (e▸d)) (λb c=>E.mine U c) (lT h.hl.size U.grow),λk n q=>?_,m⟩;grind
theorem HX.past(F:Cfg.Fit (aC prog N Pb Shun val B Mz))(h:HX (aC prog N Pb Shun val B Mz) Ex w₀ all Rb i l w)(k:Kept (cO (aC prog N Pb Shun val B Mz)) (g9 (aC prog N Pb Shun val B Mz)) (λ_=>False) w w')(U:N+9<=w'.heap.size):HX (aC prog N Pb Shun val B Mz) Ex w₀ all Rb i l w':=by
 have E:=h.env F;have⟨v,g,c,d,h1,h2,h3,e,f⟩:=h.row;refine⟨h.hl.past E k U,v,g,c,d,h1,h2,h3.still (λb a=>k.block b ?_ id) (λb a=>k.mine b a) U,e,f⟩;rcases a with rfl|a
 .exact h3.mr
 .exact(h3.ro.own b a).1
def HX.at(F:Cfg.Fit (aC prog N Pb Shun val B Mz))(D:all.length<=1000000)(h:HX (aC prog N Pb Shun val B Mz) Ex w₀ all Rb i l w)(a:Nat) :
  eM prog (XM (aC prog N Pb Shun val B Mz) Az) 146 #[.pointer (sq Rb),.int .i64 (a:Int)] i w (λt x A=>x=.int .i32 (all[a]?.getD (-1))/\HX (aC prog N Pb Shun val B Mz) Ex w₀ all Rb t l A):=by
 have E:=h.env F;have⟨v,P,u,O,h1,h2,h3,p,q⟩:=h.row;have⟨f,c,C,m,g,G⟩:=Xi (Az:=Az) F all a h1 D h3 h2;refine⟨f,c,C,m,g,lM G ?_⟩;rintro t e M A ⟨J,K,x,L,rfl,y,n,d,k,H,I,j⟩;have s:∀b,pb Rb y b->pb Rb v b\/w.heap.size<=b:=j.exs;refine⟨J,K,_,L,rfl,h.hl.over E j.old j.size p q,y,n,d,k,H,I,j.mm,λb o r g=>?_,λb g=>?_⟩
 .rcases s b g with z|z
  .exact p b o r z
  .have:=E.lt (h.hl.own b o r).1;omega
 .rcases s b g with z|z
  .exact q b z
  .exact .inr (lT h.hl.kept.grow z)
end
def mA(e:TypeId)(sz:Nat)(v:Value)(n:Nat)(xs:Vq)(rl:Hq):Prop :=
 xs.length=n*sz/\((v=.slice none 0 0/\n=0/\rl=[]) \/
  ∃g cap cur,v=.slice (some ⟨g,0,none⟩) n cap/\rl=[(g,.cells cur e)]/\0<n/\n<=cap/\cap<=maxLen/\cur.size=cap*sz/\cur.toList.take (n*sz)=xs)
def iY(e:TypeId)(sz:Nat)(v:Value)(n:Nat)(xs:Vq)(rl:Hq):Prop :=
 xs.length=n*sz/\((v=.slice none 0 0/\n=0/\rl=[]) \/
  ∃g cap cur,v=.slice (some ⟨g,0,none⟩) n cap/\rl=[(g,.cells cur e)]/\n<=cap/\cap<=maxLen/\cur.size=cap*sz/\cur.toList.take (n*sz)=xs)
theorem mA.zero{rl:Hq}(h:mA e sz v n xs rl):iY e sz v n xs rl :=
 ⟨h.1,h.2.imp id λ⟨g,a,b,h1,h2,_,U⟩=>⟨g,a,b,h1,h2,U⟩⟩
def mA.nil(e:TypeId)(sz:Nat):mA e sz (.slice none 0 0) 0 [] []:=⟨iq,.inl ⟨rfl,rfl,rfl⟩⟩
variable {rl:Hq}
section
variable {KT:TypeId->Prop}{N0:Nat}{M:World->Nat->Prop}{O:Nat->Prop}{R:Wq}{D:World->World->Array Event->Prop}{w w':World}{l:Hq}{e:TypeId}{sz:Nat}{v:Value}{n:Nat}{xs news:Vq}
section
variable (h:iY e sz v n xs rl)
def iY.UN(a:HL M O N0 Ex w₀ (rl++l) w):w.ownsRow 0 e sz v n xs:=by
 refine⟨h.1,?_⟩;rcases h.2 with ⟨h1,h2,_⟩|⟨g,cap,cur,h1,h2,h4,h5,h6,h7⟩
 .exact .inl ⟨h1,h2⟩
 .exact .inr ⟨g,cap,cur,h1,Nat.zero_le _,(a.own g _ (by rw[h2];simp)).2.1,h4,h5,h6,h7⟩
def iY.block(b:v.ownBlock=some k):∃a,rl=[(k,.cells a e)]:=by
 rcases h.2 with ⟨h1,_,_⟩|⟨g,cap,a,h1,h2,_⟩
 .rw[h1] at b;cases b
 .rw[h1] at b;cases b;exact⟨a,h2⟩
end
def HL.right(h:HL M O N0 Ex w₀ (rl++l) w):HL M O N0 Ex w₀ l w:=⟨h.kept,h.size,λb o a=>h.own b o (Jp _ a),by have:=h.nodup;rw[Bz] at this;exact(List.nodup_append.1 this).2.1⟩
theorem HL.po(h:HL M O N0 Ex w₀ (rl++l) w){o:Obj}(h1:(k,o)∈rl)(h2:(k,o')∈l):False:=by have U:=h.nodup;grind
theorem HL.Lr{P:Program}(E:Env KT N0 M O R D)(he:¬KT e)(h:HL M O N0 Ex w₀ (rl++l) w)(V:iY e sz v n xs rl)(t ty:TypeId)(z:Value)(bytes:Nat)(ht:P.underlying t=some (.slice e))(hi:(P.info? e).map (λi=>(i.zero,i.size,i.bytes))=some (some z,sz,bytes))(hz:z.cells.size=sz)(ar:0<sz)
 (a:Addr)(m c:Nat)(G:0<m)(hl:news.length=m*sz)(U:∀j u,news[j]?=some u->w.cell? (a.add j)=some u)(ha:M w a.block)(h1:∀u∈news,u.oneCell'=true)(hn:n+m<=maxLen)(F:(n+m)*bytes<=140737488355328) :
  ∃H r ai,(Builtin.append_ #[t,t] ty #[v,.slice (some a) m c]).run P w=.ok H r/\HL M O N0 Ex w₀ (ai++l) r/\mA e sz H (n+m) (xs++news) ai/\Own KT M w r/\(∀b,b<w.heap.size->v.ownBlock≠some b->r.heap[b]?=w.heap[b]?) /\
   (∀k,H.ownBlock=some k->v.ownBlock=some k\/w.heap.size<=k) /\
   (∀B∈(Builtin.append_ #[t,t] ty #[v,.slice (some a) m c]).events P w #[],u0 (M r) B)/\∀B∈(Builtin.append_ #[t,t] ty #[v,.slice (some a) m c]).events P w #[],∀N,B.loc=.mark N->Conc.Neutral N:=by
 have⟨i0,hi,Y,Z,a9⟩:=info_parts hi;have p:=V.UN h;have⟨H,r,A,T,hg,K,pO⟩:=run_append_own_at (P:=P) w 0 t ty e i0 z sz bytes ht hi Y Z a9 hz ar v n xs p a m c news hl U h1 hn F (Nat.zero_le _);have aq:=pu (P:=P) 0 t ty e i0 z sz bytes ht hi Y Z a9 v n xs p a m c news hl U h1 hn F A;have ab:=events_append_where (P:=P) w 0 t ty e i0 z sz bytes ht hi Y Z a9 v n xs p a m c news hl U h1 hn F;have L:∀k,v.ownBlock=some k->M w k/\(Ex k\/w₀.heap.size<=k)/\∃d,w.heap[k]?=some (.cells d e):=by intro k x;have⟨d,J⟩:=V.block x;have⟨s,y,z3⟩:=h.own k _ (by rw[J];simp:(k,Obj.cells d e)∈rl++l);exact⟨s,z3,d,y⟩
 have C:Own KT M w r:=by
  rcases aq with rfl|⟨k,cs,x,rfl⟩|⟨cs,rfl⟩
  .exact Own.refl _
  .have⟨s,_,d,Q⟩:=L k x;exact Own.setRow Q s he
  .have:=Own.alloc (KT:=KT) (M:=M) (w:=w.drew) (cs:=cs) (t:=e) he;exact⟨this.tape,this.os,this.output,this.grow,λb F G=>heap_alloc_old w.drew _ b F,λb o' hh x=>(this.kt b o' hh x)⟩
 have W:∀b,b<w.heap.size->v.ownBlock≠some b->r.heap[b]?=w.heap[b]?:=λb F hx=>hg.block b F (λe=>hx e.symm);have S:∀k,H.ownBlock=some k->v.ownBlock=some k\/w.heap.size<=k:=gq
 have ao:H≠.slice Option.none 0 0:=λe=>by have:=(K.1 e).2;omega
 have⟨ae,ah⟩:=T;rcases ah with ⟨e,_⟩|⟨g,cap,d,rfl,_,Q,Tm,Tn,VN,VO⟩
 .exact absurd e ao
 have ak:∀o,(g,o)∈l->False:=by
  intro o T;rcases S g rfl with z|z
  .have⟨f,J⟩:=V.block z;exact h.po (k:=g) (o:=.cells f e) (by rw[J];simp) T
  .have:=E.lt (h.own g o (Jp _ T)).1;omega
 have aj:M r g:=by
  rcases S g rfl with z|z
  .exact E.mine C (L g z).1
  .exact E.new h.size C z (oK.1 Q).1
 have ag:∀b o,(b,o)∈l->v.ownBlock≠some b:=by intro b o G x;have⟨f,J⟩:=V.block x;exact h.po (k:=b) (o:=.cells f e) (by rw[J];simp) G
 refine⟨_,r,[(g,.cells d e)],A,⟨h.kept.own E C λb aa hx=>W b (E.lt (h.kept.mine b aa)) λx=>?_,lT h.size C.grow,λb o G=>?_,?_⟩,⟨ae,.inr ⟨g,cap,d,rfl,rfl,by omega,Tm,Tn,VN,VO⟩⟩,C,W,S,λB X=>?_,λB X N I=>?_⟩
 .rcases(L b x).2.1 with z|z
  .exact hx z
  .have:=E.lt aa;omega
 .rcases List.mem_append.1 G with z|z
  .rw[List.mem_singleton] at z;cases z;refine⟨aj,Q,?_⟩;rcases S g rfl with z|z
   .exact(L g z).2.1
   .exact .inr (lT h.kept.grow z)
  .have⟨s,y,z3⟩:=h.own b o (Jp _ z);exact⟨E.mine C s,(W b (E.lt s) (ag b o z)).trans y,z3⟩
 .have al:=h.right.nodup;refine List.nodup_cons.2 ⟨λG=>?_,al⟩;have⟨q,hq,e'⟩:=List.mem_map.1 G;have e2:q.1=g:=e';exact ak q.2 (by rw[<-e2];exact hq)
 .rcases ab B X with ⟨ad,s,y⟩|⟨N,rfl,I⟩
  .refine .inl ⟨ad,s,E.mine C ?_⟩;rcases y with ⟨_,y⟩|y
   .rw[y];exact ha
   .exact(L _ y.symm).1
  .obtain rfl:N=.noRoom:=I;exact .inr (.inr ⟨by simp[MemAct.ofEvent,MemAct.touch?],by simp,by simp,by simp[MemAct.ofEvent]⟩)
 .rcases ab B X with ⟨ad,s,_⟩|⟨mk',rfl,af⟩
  .rw[s] at I;cases I
  .cases I;exact af
end
section
variable {P:Program}{w:World}
theorem pK(w:World)(t u ty e:TypeId)(i:TypeInfo)(z:Value)(C:P.underlying t=some (.slice e))(D:P.underlying u=some .string)(hi:P.info? e=some i)(M:i.zero=some z)(A:i.size=1)(K:i.bytes=1)
 (v:Value)(n:Nat)(xs:Vq)(y:w.ownsRow 0 e 1 v n xs)(s:ByteArray)(S:n+s.size<=maxLen)(Y:n+s.size<=140737488355328) :
  ∀U∈(Builtin.append_ #[t,u] ty #[v,.string s]).events P w #[],(∃c,U.loc=.cell c/\some c.block=v.ownBlock)\/∃m,U=⟨.mark m,false,true⟩/\Conc.Neutral m:=by
 have Z:n+s.size<=9223372036854775807:=by simp only[maxLen] at S;omega
 let B:Nat->Prop:=λg=>some g=v.ownBlock;let Q:Event->Prop:=λe=>e.readsIn B\/∃m,e=⟨.mark m,false,true⟩/\Conc.Neutral m;have d:∀U:Event,Q U->(∃c,U.loc=.cell c/\some c.block=v.ownBlock)\/∃m,U=⟨.mark m,false,true⟩/\Conc.Neutral m :=
  λU h=>h.elim (λ⟨c,N,_,O⟩=>.inl ⟨c,N,O⟩) .inr;have a:∀e∈(#[]:Array Event),Q e:=by intro e T;simp at T
 have str:∀(o:World) (k sz:Nat) b q p,Value.string s=.slice (some b) q p->B b.block/\∀j,j<k*sz->(o.cell? (b.add j)).isSome:=by intro _ _ _ _ _ _ e;cases e
 have l:∀(o:World) (k sz Y0 Xm:Nat) b q p,Value.slice none Y0 Xm=.slice (some b) q p->B b.block/\∀j,j<k*sz->(o.cell? (b.add j)).isSome:=gq
 intro U f;rcases y.2 with ⟨rfl,rfl⟩|⟨g,cap,cur,rfl,hbg,hg,hnc,X0,K8,htake⟩
 .by_cases L:s.size=0
  .simp[Builtin.append_,run_underlying C,run_underlying D,sizeOf,typeInfo,hi,A,Builtin.lenOf,L] at f;exact d U ((events_firstCells_in B _ _ _ _ _ (by first|exact str _ _ _|exact l _ _ _ _ _) U f).elim (a U) .inl)
  .have F:¬(9223372036854775807<(s.size:Int)):=oq
   have E:¬(281474976710656<Builtin.nextslicecap s.size 0*i.bytes):=by rw[nextslicecap_zero oq,K];omega
   have r:=run_firstCells_string (P:=P) w.drew i.size s;have V:=run_firstCells_string (P:=P) w.drew 1 s;simp[Builtin.append_,run_underlying C,run_underlying D,sizeOf,typeInfo,zeroValue,hi,M,Builtin.lenOf,L,F,E,Question.forced,run_firstCells_none,r,newRow] at f;refine d U ((events_firstCells_in B _ _ _ _ _ (by first|exact str _ _ _|exact l _ _ _ _ _) U f).elim (λh=>?_) .inl);refine(events_firstCells_in B _ _ _ _ _ (by first|exact str _ _ _|exact l _ _ _ _ _) U h).elim (λh2=>?_) .inl;exact(Conc.events_askRoom _ _ _ U h2).elim (a U) .inr
 .have I:∀j u,xs[j]?=some u->w.cell? ((⟨g,0,none⟩:Addr).add j)=some u:=y.cells (g:=g) rfl;have x:∀(o:World),(∀c,o.cell? c=w.cell? c)->∀b q p,Value.slice (sq g) n cap=.slice (some b) q p->B b.block/\∀j,j<n*i.size->(o.cell? (b.add j)).isSome:=by intro o H b q p e;cases e;exact⟨by simp[B,Value.ownBlock],λj W=>by rw[H];exact isSome_of_list I (by rw[y.1,<-A];exact W)⟩
  by_cases J:n+s.size<=cap
  .have R:n+s.size<=cur.size:=by rw[K8];omega
   have r:=run_firstCells_string (P:=P) w 1 s;simp[Builtin.append_,run_underlying C,run_underlying D,sizeOf,typeInfo,hi,A,Builtin.lenOf,J,r,Addr.add_lit] at f;rcases events_storeCells_at (P:=P) g n e (strCells s) 0 cur w _ hg (by simpa[strCells_length] using R) (strCells_oneCell s) U f with h|⟨c,h2,h3⟩
   .exact d U ((events_firstCells_in B _ _ _ _ _ (str _ _ _) U h).elim (a U) .inl)
   .exact .inl ⟨c,h2,by simp[Value.ownBlock,h3]⟩
  .have X:¬(n+s.size<=cap):=J;have F:¬(9223372036854775807<((n:Int)+(s.size:Int))):=oq
   have E:¬(281474976710656<Builtin.nextslicecap (n+s.size) cap*i.bytes):=by have:=growslice_fits (need:=n+s.size) (old:=cap) (bytes:=i.bytes) oq (by rw[K];omega);omega
   have r:=run_firstCells_string (P:=P) w.drew i.size s;have G:=run_firstCells_some (P:=P) w.drew i.size n ⟨g,0,none⟩ n cap xs (by rw[A];exact y.1) (by simpa using I);simp[Builtin.append_,run_underlying C,run_underlying D,sizeOf,typeInfo,zeroValue,hi,M,Builtin.lenOf,X,F,E,Question.forced,r,G,newRow] at f;refine d U ((events_firstCells_in B _ _ _ _ _ (by first|exact str _ _ _|exact x _ (λ_=>rfl)) U f).elim (λh=>?_) .inl);refine(events_firstCells_in B _ _ _ _ _ (by first|exact str _ _ _|exact x _ (λ_=>rfl)) U h).elim (λh2=>?_) .inl;exact(Conc.events_askRoom _ _ _ U h2).elim (a U) .inr
theorem qO{w':World}(t u ty e:TypeId)(i:TypeInfo)(z:Value)(b:P.underlying t=some (.slice e))(c:P.underlying u=some .string)(hi:P.info? e=some i)(m:i.zero=some z)(h:i.size=1)(x:i.bytes=1)
 (v:Value)(n:Nat)(xs:Vq)(f:w.ownsRow 0 e 1 v n xs)(s:ByteArray)(r:n+s.size<=maxLen)(q:n+s.size<=140737488355328)(U:(Builtin.append_ #[t,u] ty #[v,.string s]).run P w=.ok v' w') :
  (w'=w\/(∃g d,v.ownBlock=some g/\w'=w.setRow g d)\/∃d,w'=w.drew.alloc (.cells d e))/\(v'.ownBlock=v.ownBlock\/v'.ownBlock=some w.heap.size):=by
 rcases f.2 with ⟨rfl,rfl⟩|⟨g,cap,cur,rfl,a8,hg,ae,aa,ab,a6⟩
 .by_cases l:s.size=0
  .have k:=run_firstCells_string (P:=P) w 1 s;rw[l] at k;simp[Builtin.append_,run_underlying b,run_underlying c,sizeOf,typeInfo,hi,h,Builtin.lenOf,l,k] at U;grind
  .have a:=run_append_nil_string (P:=P) w t u ty e i z b c hi m s oq oq gq;rw[a] at U;cases U;exact⟨.inr (.inr ⟨_,rfl⟩),.inr rfl⟩
 .by_cases p:n+s.size<=cap
  .have a:=run_append_room_string (P:=P) w t u ty e i b c hi h g n cap cur hg s p gq;rw[a] at U;cases U;exact⟨.inr (.inl ⟨g,_,rfl,rfl⟩),.inl rfl⟩
  .have o:∀j u,xs[j]?=some u->w.cell? ((⟨g,0,none⟩:Addr).add j)=some u:=f.cells (g:=g) rfl;have a:=run_append_grow_string (P:=P) w t u ty e i z b c hi m ⟨g,0,none⟩ n cap xs gq o s oq oq (growslice_fits oq gq);rw[a] at U;cases U;exact⟨.inr (.inr ⟨_,rfl⟩),.inr rfl⟩
end
section
variable {KT:TypeId->Prop}{N0:Nat}{M:World->Nat->Prop}{O:Nat->Prop}{R:Wq}{D:World->World->Array Event->Prop}{w w':World}{l:Hq}{e:TypeId}{v:Value}{n:Nat}{xs:Vq}{P:Program}
theorem HL.BK(E:Env KT N0 M O R D)(he:¬KT e)(h:HL M O N0 Ex w₀ (rl++l) w)(x:iY e 1 v n xs rl)(t u ty:TypeId)(Z:P.underlying t=some (.slice e))(hu:P.underlying u=some .string)(hi:(P.info? e).map (λi=>(i.zero,i.size,i.bytes))=some (some (.int .u8 0),1,1))
 (s:ByteArray)(Y:n+s.size<=140737488355328) :
  ∃A c W,(Builtin.append_ #[t,u] ty #[v,.string s]).run P w=.ok A c/\HL M O N0 Ex w₀ (W++l) c/\(iY e 1 A (n+s.size) (xs++strCells s) W/\(mA e 1 v n xs rl->mA e 1 A (n+s.size) (xs++strCells s) W))/\Own KT M w c/\(∀b,b<w.heap.size->v.ownBlock≠some b->c.heap[b]?=w.heap[b]?) /\
   (∀k,A.ownBlock=some k->v.ownBlock=some k\/w.heap.size<=k) /\
   (∀F∈(Builtin.append_ #[t,u] ty #[v,.string s]).events P w #[],u0 (M c) F):=by
 have⟨i0,hi,S,T,V⟩:=info_parts hi;have d:=x.UN h;have r:n+s.size<=maxLen:=by unfold maxLen;omega
 have⟨A,c,Q,N,hg,aq⟩:=run_append_own_string (P:=P) w 0 t u ty e i0 Z hu hi S T V v n xs d s r Y (Nat.zero_le _);have⟨ao,pO⟩:=qO (P:=P) t u ty e i0 _ Z hu hi S T V v n xs d s r Y Q;have aj:=pK (P:=P) w t u ty e i0 _ Z hu hi S T V v n xs d s r Y;have H:∀k,v.ownBlock=some k->M w k/\(Ex k\/w₀.heap.size<=k)/\∃a,w.heap[k]?=some (.cells a e):=by intro k j;have⟨a,y⟩:=x.block j;have⟨p,I,z3⟩:=h.own k _ (by rw[y];simp:(k,Obj.cells a e)∈rl++l);exact⟨p,z3,a,I⟩
 have f:Own KT M w c:=by
  rcases ao with rfl|⟨k,cs,j,rfl⟩|⟨cs,rfl⟩
  .exact Own.refl _
  .have⟨p,_,a,J⟩:=H k j;exact Own.setRow J p he
  .have:=Own.alloc (KT:=KT) (M:=M) (w:=w.drew) (cs:=cs) (t:=e) he;exact⟨this.tape,this.os,this.output,this.grow,λb X m=>heap_alloc_old w.drew _ b X,λb o' hh j=>(this.kt b o' hh j)⟩
 have U:∀b,b<w.heap.size->v.ownBlock≠some b->c.heap[b]?=w.heap[b]?:=λb X hx=>hg.block b X (λe=>hx e.symm);have B:∀k,A.ownBlock=some k->v.ownBlock=some k\/w.heap.size<=k:=gq
 have a7:∀b o,(b,o)∈l->v.ownBlock≠some b:=by intro b o m j;have⟨C,y⟩:=x.block j;exact h.po (k:=b) (o:=.cells C e) (by rw[y];simp) m
 have a3:Kept M O Ex w₀ c:=h.kept.own E f λb G hx=>U b (E.lt (h.kept.mine b G)) λj=>by
  rcases(H b j).2.1 with z|z
  .exact hx z
  .have:=E.lt G;omega
 have af:∀b o,(b,o)∈l->M c b/\c.heap[b]?=some o/\(Ex b\/w₀.heap.size<=b):=λb o z=>by have⟨p,I,z3⟩:=h.own b o (Jp _ z);exact⟨E.mine f p,(U b (E.lt p) (a7 b o z)).trans I,z3⟩
 have a6:∀F∈(Builtin.append_ #[t,u] ty #[v,.string s]).events P w #[],u0 (M c) F:=λF ae=>by
  rcases aj F ae with ⟨ad,p,I⟩|⟨mk,rfl,al⟩
  .exact .inl ⟨ad,p,E.mine f (H _ I.symm).1⟩
  .obtain rfl:mk=.noRoom:=al;exact .inr (.inr ⟨by simp[MemAct.ofEvent,MemAct.touch?],by simp,by simp,by simp[MemAct.ofEvent]⟩)
 have⟨K,ah⟩:=N;rcases ah with ⟨e1,L⟩|⟨g,cap,a,rfl,_,J,Tm,Tn,VN,VO⟩
 .exact⟨A,c,[],Q,⟨a3,lT h.size f.grow,λb o m=>af b o (by simpa using m),by simpa using h.right.nodup⟩,⟨⟨K,.inl ⟨e1,L,rfl⟩⟩,λ_=>⟨K,.inl ⟨e1,L,rfl⟩⟩⟩,f,U,B,a6⟩
 have ag:mA e 1 v n xs rl->0<n+s.size:=λx=>by
  apply Classical.byContradiction;intro hp
  have ar:v=.slice Option.none 0 0:=by
   rcases x.2 with ⟨z,_⟩|⟨_,_,_,_,_,z,_⟩
   .exact z
   .omega
  grind
 have ak:∀o,(g,o)∈l->False:=by
  intro o N;rcases B g rfl with z|z
  .exact a7 g o N z
  .have:=E.lt (h.own g o (Jp _ N)).1;omega
 have ai:M c g:=by
  rcases B g rfl with z|z
  .exact E.mine f (H g z).1
  .exact E.new h.size f z (oK.1 J).1
 refine⟨_,c,[(g,.cells a e)],Q,⟨a3,lT h.size f.grow,λb o m=>?_,?_⟩,⟨⟨K,.inr ⟨g,cap,a,rfl,rfl,Tm,Tn,VN,VO⟩⟩,λx=>⟨K,.inr ⟨g,cap,a,rfl,rfl,ag x,Tm,Tn,VN,VO⟩⟩⟩,f,U,B,a6⟩
 .rcases List.mem_append.1 m with z|z
  .rw[List.mem_singleton] at z;cases z;refine⟨ai,J,?_⟩;rcases B g rfl with z|z
   .exact(H g z).2.1
   .exact .inr (lT h.kept.grow z)
  .exact af b o z
 .refine List.nodup_cons.2 ⟨λm=>?_,h.right.nodup⟩;have⟨q,hq,e'⟩:=List.mem_map.1 m;have L:q.1=g:=e';exact ak q.2 (by rw[<-L];exact hq)
end
def kN(l:Hq)(b:Nat):Prop:=∃o,(b,o)∈l
variable {l1 Qy:Hq}
section
variable {KT:TypeId->Prop}{N0:Nat}{M:World->Nat->Prop}{O:Nat->Prop}{R:Wq}{D:World->World->Array Event->Prop}{w w':World}{l:Hq}
def HL.left(h:HL M O N0 Ex w₀ (l1++l) w):HL M O N0 Ex w₀ l1 w:=⟨h.kept,h.size,λb o a=>h.own b o (G8 _ a),by have:=h.nodup;rw[Bz] at this;exact(List.nodup_append.1 this).1⟩
def HL.mm(h:HL M O N0 Ex w₀ l w):HL M O N0 (kN l) w l w:=⟨Kept.refl w,h.size,λb o a=>⟨(h.own b o a).1,(h.own b o a).2.1,.inl ⟨o,a⟩⟩,h.nodup⟩
theorem HL.call(E:Env KT N0 M O R D)(h:HL M O N0 Ex w₀ (l1++l) w)(U:HL M O N0 (kN l1) w Qy w'):HL M O N0 Ex w₀ (Qy++l) w':=by
 have j:∀b,kN l1 b->Ex b\/w₀.heap.size<=b:=λb ⟨o,a⟩=>(h.own b o (G8 _ a)).2.2;have n:∀b o,(b,o)∈l->¬kN l1 b:=λb o a ⟨t,d⟩=>h.po d a;refine⟨h.kept.trans E U.kept j,U.size,λb o a=>?_,?_⟩
 .rcases List.mem_append.1 a with z|z
  .have⟨c,g,i⟩:=U.own b o z;exact⟨c,g,i.elim (j b) λz=>.inr (lT h.kept.grow z)⟩
  .have⟨c,g,i⟩:=h.own b o (Jp _ z);exact⟨U.kept.mine b c,(U.kept.block b c (n b o z)).trans g,i⟩
 .rw[Bz];refine List.nodup_append.2 ⟨U.nodup,h.right.nodup,λx m y r e=>?_⟩;obtain⟨q,p,rfl⟩:=List.mem_map.1 m;have⟨k,f,s⟩:=List.mem_map.1 r;rcases(U.own q.1 q.2 p).2.2 with z|z
  .grind
  .have:=E.lt (h.own k.1 k.2 (Jp _ f)).1;omega
end
section
variable {w w':World}{i:Ph}{l:Hq}
variable [ConcR.Payload][ConcX.Payload]
variable [ConcX.Shy (Cfg.Wg (aC prog N Pb Shun val B Mz)) (Cfg.C (aC prog N Pb Shun val B Mz))]
theorem HX.call(F:Cfg.Fit (aC prog N Pb Shun val B Mz))(h:HX (aC prog N Pb Shun val B Mz) Ex w₀ all Rb i (l1++l) w)(U:HL (cO (aC prog N Pb Shun val B Mz)) (g9 (aC prog N Pb Shun val B Mz)) (N+9) (kN l1) w Qy w'):HX (aC prog N Pb Shun val B Mz) Ex w₀ all Rb i (Qy++l) w':=by
 have E:=h.env F;have⟨v,m,d,g,h1,h2,h3,j,k⟩:=h.row;have f:∀b,pb Rb v b->¬kN l1 b:=λb a ⟨o,e⟩=>j b o (G8 _ e) a;have e:∀b,pb Rb v b->cO (aC prog N Pb Shun val B Mz) w b:=λb a=>by
  rcases a with rfl|a
  .exact h3.mr
  .exact(h3.ro.own b a).1
 refine⟨h.hl.call E U,v,m,d,g,h1,h2,h3.still (λb a=>U.kept.block b (e b a) (f b a)) (λb a=>U.kept.mine b a) U.size,λb o c=>?_,k⟩;rcases List.mem_append.1 c with z|z
 .rcases(U.own b o z).2.2 with ⟨o',y⟩|y
  .grind
  .exact λa=>by have:=h3.lt F b a;omega
 .grind
end
section
variable {P:Program}
def uF{w:World}(a:w.heap[b]?=some (.cells cur t fz))(c:∀j v,cs[j]?=some v->cur[off+j]?=some v):w.rangeAt b off cs:=λj v d=>by simp[World.cell?,a,c j v d]
theorem ik(w:World)(b off:Nat)(ty:TypeId)(cs:Vq)(d:TypeDesc)(m:w.rangeAt b off cs)(f:P.underlying ty=some d)(q:d.isRow=true)(hi:(P.info? ty).map (·.size)=some cs.length) :
  ∀c∈(Instr.loadAt ty (.pointer (some ⟨b,off,none⟩))).events P w #[],∃e:Addr,c.loc=.cell e/\e.block=b:=by
 intro c k;cases hq:P.info? ty with
 | none=>simp[hq] at hi
 | some i =>
  have p:i.size=cs.length:=gq
  have l:(isAgg ty).run P w=.ok true w:=by unfold isAgg;rw[Sem.run_bind,run_underlying f w];cases d<;>simp_all [TypeDesc.isRow]
  have U:∀a,(isAgg ty).events P w a=a:=λa=>by unfold isAgg;simp only[Sem.events_bind,run_underlying f w];cases d<;>simp[underlying,f]
  simp[Instr.loadAt,Instr.sureAddr,loadVar,Sem.events_bind,l,U,sizeOf,typeInfo,hq,p] at k;have o:∀a,∀c∈(loadCells ⟨b,off,none⟩ cs.length).events P w a,c∈a\/c.readsIn (λg=>g=b):=λa =>events_loadCellsFrom_at ⟨b,off,none⟩ (λg=>g=b) rfl cs.length 0 #[] w a (λj n=>by have h:=m j cs[j] (gE n);rw[Nat.zero_add,Addr.add_mid,h];rfl);rcases o _ c k with h|⟨e,h1,_,h3⟩
  .simp at h
  .exact⟨e,h1,h3⟩
end
structure Co(KT:TypeId->Prop)(N0:Nat)(M:World->Nat->Prop)(O:Nat->Prop)(R:Wq)(D:World->World->Array Event->Prop)(H:Hq->World->Prop):Prop where
 env:Env KT N0 M O R D
 rely:∀{l w aE},H l w->R w aE->H l aE
 size:∀{l w},H l w->N0<=w.heap.size
 own:∀{l w b o},H l w->(b,o)∈l->M w b/\w.heap[b]?=some o
 nodup:∀{l w},H l w->(l.map Prod.fst).Nodup
 grown:∀{l w o},H l w->Own KT M w (w.alloc o)->H ((w.heap.size,o)::l) (w.alloc o)
 turn:∀{l w w' b o o'},H ((b,o)::l) w->Own KT M w w'->w'.heap[b]?=some o'->(∀k,k≠b->w'.heap[k]?=w.heap[k]?)->H ((b,o')::l) w'
 perm:∀{l l' w},H l w->l'.Perm l->H l' w
 drop:∀{x l w},H (x::l) w->H l w
 past:∀{l w w'},H l w->Kept M O (λ_=>False) w w'->N0<=w'.heap.size->H l w'
 call:∀{l1 Qy l w w'},H (l1++l) w->HL M O N0 (kN l1) w Qy w'->H (Qy++l) w'
section
variable {KT:TypeId->Prop}{N0:Nat}{M:World->Nat->Prop}{O:Nat->Prop}{R:Wq}{D:World->World->Array Event->Prop}{H:Hq->World->Prop}{w w':World}{l:Hq}
def HL.co(E:Env KT N0 M O R D):Co KT N0 M O R D (HL M O N0 Ex w₀) where
 env:=E
 rely h r:=h.rely E r
 size h:=h.size
 own h hm:=⟨(h.own _ _ hm).1,(h.own _ _ hm).2.1⟩
 nodup h:=h.nodup
 grown h hO:=h.grown E hO
 turn h hO hb hk:=h.turn E hO hb hk
 perm h p:=h.perm p
 drop h:=h.drop
 past h k hs:=h.past E k hs
 call h h':=h.call E h'
def Co.hl(Z:Co KT N0 M O R D H)(h:H l w):HL M O N0 (kN l) w l w:=⟨Kept.refl w,Z.size h,λb o a=>⟨(Z.own h a).1,(Z.own h a).2,.inl ⟨o,a⟩⟩,Z.nodup h⟩
def ml:∀{l:List α} {k:Nat} {x:α},l[k]?=some x->(x::l.eraseIdx k).Perm l
 | y::l,0,x,h=>by simp at h;subst h;exact .refl _
 | y::l,k+1,x,h=>((List.Perm.swap y x (l.eraseIdx k))).trans (.cons y (ml (by simpa using h)))
def uA:∀{l:List α} {k:Nat} {x y:α},l[k]?=some x->(l.set k y).Perm (y::l.eraseIdx k)
 | z::l,0,x,y,h=>.refl _
 | z::l,k+1,x,y,h=>(List.Perm.cons z (uA (x:=x) (by simpa using h))).trans (List.Perm.swap y z _)
def Co.front(Z:Co KT N0 M O R D H)(h:H l w)(k:Nat){o:Obj}(a:l[k]?=some (b,o)):H ((b,o)::l.eraseIdx k) w:=by exact Z.perm h (ml a)
def Co.yd(Z:Co KT N0 M O R D H)(h:H l w)(k:Nat){o:Obj}(a:l[k]?=some (b,o))(c:Own KT M w w')(d:w'.heap[b]?=some o')(e:∀k,k≠b->w'.heap[k]?=w.heap[k]?):H (l.set k (b,o')) w':=by exact Z.perm (Z.turn (Z.front h k a) c d e) (uA a)
end
def putAt(cur:Aq)(off:Nat)(cs:Vq):Aq:=(cur.toList.take off++cs++cur.toList.drop (off+cs.length)).toArray
variable {P:Program}{R:ι->Wq}{D:ι->World->World->Array Event->Prop}{X:ι->Gq}{fn:FuncId}{Q:ei ι}{a:Act}{w:World}{vs:ι}{KT:TypeId->Prop}{N0:Nat}{M:World->Nat->Prop}{O:Nat->Prop}{H:Hq->World->Prop}{l:Hq}
section
section
variable (C:bW P true R D X)
section
variable (Z:Co KT N0 M O (R vs) (D vs) H)
def Gt{cs:Aq}(q:ops[i]?=some o)(u:Region.wanted o (yielded ops a.tmps)=true)(f:o.op=.box t x)(v:(a.eval x).cells=cs)(s:¬KT t)
 (m:H l w)(h:∀b k,H ((b,.cells cs t)::l) k->ce X fn ops rest vs Q (a.put o.dst (.pointer (sq b))) k):ce X fn ops (i::rest) vs Q a w:=by
 refine aG C q u λc p K n=>?_;have d:=Z.rely m p;have j:Own KT M c (c.alloc (.cells cs t)):=Own.alloc s;have r:(execOp a.eval o).run P c=.ok (.value (.pointer (sq c.heap.size))) (c.alloc (.cells cs t)):=by simp[execOp,f,Dt,v]
 have g:(execOp a.eval o).events P c #[]=#[]:=by simp[execOp,f,tz]
 rw[r];refine n _ _ ⟨?_,h _ _ (Z.grown d j)⟩;rw[listed_nil g];exact Z.env.jb (Z.size d) j (λe g=>by simp at g)
def Am{z:Value}{cs:Aq}(r:ops[i]?=some o)(v:Region.wanted o (yielded ops a.tmps)=true)(f:o.op=.alloc t)(k:∀w,(zeroValue t).run P w=.ok z w)(x:z.cells=cs)(u:¬KT t)
 (n:H l w)(h:∀b m,H ((b,.cells cs t)::l) m->ce X fn ops rest vs Q (a.put o.dst (.pointer (sq b))) m):ce X fn ops (i::rest) vs Q a w:=by
 refine aG C r v λc q K p=>?_;have d:=Z.rely n q;have j:Own KT M c (c.alloc (.cells cs t)):=Own.alloc u;have s:(execOp a.eval o).run P c=.ok (.value (.pointer (sq c.heap.size))) (c.alloc (.cells cs t)):=by simp[execOp,f,qN k,x]
 have g:(execOp a.eval o).events P c #[]=#[]:=by simp[execOp,f,lU k]
 rw[s];refine p _ _ ⟨?_,h _ _ (Z.grown d j)⟩;rw[listed_nil g];exact Z.env.jb (Z.size d) j (λe g=>by simp at g)
end
end
theorem gX(U:P.underlying ty=some d)(a:d.isRow=false)(w:World):(isAgg ty).run P w=.ok false w:=by unfold isAgg;rw[Sem.run_bind,run_underlying U w];cases d<;>simp_all [TypeDesc.isRow]
def jv(a:P.underlying ty=some d)(w:World)(es:Array Event):(isAgg ty).events P w es=es:=by unfold isAgg;simp only[Sem.events_bind,run_underlying a w];cases d<;>simp[underlying,a]
section
variable (C:bW P true R D X)
section
variable (Z:Co KT N0 M O (R vs) (D vs) H)
def mi{cs:Aq}(k:Nat)(D:ops[i]?=some o)(G:Region.wanted o (yielded ops a.tmps)=true)(j:o.op=.load ty x)(p:a.eval x=.pointer (some ⟨b,off,none⟩))
 (m:P.underlying ty=some d)(n:d.isRow=false)(r:H l w)(A:l[k]?=some (b,.cells cs t fz))(F:cs[off]?=some v)(h:∀q,H l q->ce X fn ops rest vs Q (a.put o.dst v) q):ce X fn ops (i::rest) vs Q a w:=by
 refine aG C D G λc u K s=>?_;have e:=Z.rely r u;have⟨B,y⟩:=Z.own e (mG A);have f:c.cell? ⟨b,off,none⟩=some v:=by simp[World.cell?,y,F]
 have E:(execOp a.eval o).run P c=.ok (.value v) c:=by simp[execOp,j,p,Instr.loadAt,Instr.sureAddr,loadVar,gX m n,load,Sem.run,f]
 have z:(execOp a.eval o).events P c #[]=#[⟨.cell ⟨b,off,none⟩,false,false⟩]:=by simp[execOp,j,p,Instr.loadAt,Instr.sureAddr,loadVar,gX m n,jv m,events_load,f]
 rw[E];refine s _ _ ⟨Z.env.jb (Z.size e) (Own.refl _) λI g=>?_,h c e⟩;have g:=mem_listed g;rw[z] at g;simp at g;subst g;exact .inl ⟨_,rfl,B⟩
def vm(k:Nat)(L:ops[i]?=some o)(M:Region.wanted o (yielded ops a.tmps)=true)(m:o.op=.load ty x)(u:a.eval x=.pointer (some ⟨b,off,none⟩))
 (s:P.underlying ty=some d)(r:d.isRow=true)(hi:(P.info? ty).map (·.size)=some cs.length)(B:H l w)(I:l[k]?=some (b,.cells cur t fz))(G:∀j v,cs[j]?=some v->cur[off+j]?=some v)
 (h:∀y,H l y->ce X fn ops rest vs Q (a.put o.dst (.agg cs.toArray)) y):ce X fn ops (i::rest) vs Q a w:=by
 refine aG C L M λc E K D=>?_;have e:=Z.rely B E;have⟨J,F⟩:=Z.own e (mG I);have g:=uF F G;have f:=run_loadAt_mid c b off ty cs d g s r hi;have q:(execOp a.eval o).run P c=.ok (.value (.agg cs.toArray)) c:=by unfold execOp;simp only[m,u,Sem.run_bind,Sem.run_pure,Result.andThen_ok,f]
 have p:(execOp a.eval o).events P c #[]=(Instr.loadAt ty (.pointer (some ⟨b,off,none⟩))).events P c #[]:=by unfold execOp;simp only[m,u,Sem.events_bind,f,Result.evThen_ok,Sem.events_pure]
 rw[q];refine D _ _ ⟨Z.env.jb (Z.size e) (Own.refl _) λA n=>?_,h c e⟩;have n:=mem_listed n;rw[p] at n;have⟨z,h1,h2⟩:=ik c b off ty cs d g s r hi A n;exact .inl ⟨z,h1,by rw[h2];exact J⟩
end
end
theorem sk(C:bW P true R D X)(Z:Co KT N0 M O (R vs) (D vs) H){y:Operand}(k:Nat)(T:ops[i]?=some o)(W:Region.wanted o (yielded ops a.tmps)=true)(q:o.op=.store ty x y)(u:a.eval x=.pointer (some ⟨b,off,none⟩))(A:(a.eval y).cells=cs.toArray)
 (hi:(P.info? ty).map (·.size)=some cs.length)(h1:∀v∈cs,v.oneCell'=true)(V:¬KT t)(L:H l w)(g:l[k]?=some (b,.cells cur t))(Y:off+cs.length<=cur.size)(E:putAt cur off cs=cur')
 (h:∀B,H (l.set k (b,.cells cur' t)) B->ce X fn ops rest vs Q (a.put o.dst undef) B):ce X fn ops (i::rest) vs Q a w:=by
 subst E;refine aG C T W λc S K N=>?_;have d:=Z.rely L S;have⟨r,f⟩:=Z.own d (mG g);cases hq:P.info? ty with
 | none=>simp[hq] at hi
 | some I =>
  have s:I.size=cs.length:=gq
  have U:=run_storeCells_at (P:=P) b off t cs 0 cur c f oq h1;have p:=events_storeCells_at (P:=P) b off t cs 0 cur c #[] f oq h1;have U:(storeCells ⟨b,off,none⟩ cs).run P c=.ok () (c.setRow b (putAt cur off cs)):=U;have e:(Instr.storeAt ty (.pointer (some ⟨b,off,none⟩)) (a.eval y)).run P c=.ok () (c.setRow b (putAt cur off cs)):=by simp[Instr.storeAt,Instr.sureAddr,storeVar,sizeOf,typeInfo,hq,s,A,U]
  have G:(Instr.storeAt ty (.pointer (some ⟨b,off,none⟩)) (a.eval y)).events P c #[]=(storeCells ⟨b,off,none⟩ cs).events P c #[]:=by simp[Instr.storeAt,Instr.sureAddr,storeVar,sizeOf,typeInfo,hq,s,A]
  have m:Own KT M c (c.setRow b (putAt cur off cs)):=Own.setRow f r V;have n:(execOp a.eval o).run P c=.ok .skip (c.setRow b (putAt cur off cs)):=by unfold execOp;simp only[q,u,Sem.run_bind,Sem.run_pure,Result.andThen_ok,e]
  have F:(execOp a.eval o).events P c #[]=(Instr.storeAt ty (.pointer (some ⟨b,off,none⟩)) (a.eval y)).events P c #[]:=by unfold execOp;simp only[q,u,Sem.events_bind,e,Result.evThen_ok,Sem.events_pure]
  rw[n];refine N _ _ ⟨Z.env.jb (Z.size d) m λJ j=>?_,h _ (Z.yd d k g m ?_ λk g=>?_)⟩
  .have j:=mem_listed j;rw[F,G] at j;rcases p J j with z|⟨ad,z1,z2⟩
   .simp at z
   .exact .inl ⟨ad,z1,by rw[z2];exact Z.env.mine m r⟩
  .simp[World.setRow,IF,f]
  .simp[World.setRow,IF,Ne.symm g]
end
section
variable {w w':World}{i:Ph}{l:Hq}
def HX.perm(h:HX K Ex w₀ all Rb i l w)(p:l'.Perm l):HX K Ex w₀ all Rb i l' w:=by have⟨v,g,a,c,h1,h2,h3,d,e⟩:=h.row;exact⟨h.hl.perm p,v,g,a,c,h1,h2,h3,λb o f=>d b o (p.mem_iff.1 f),e⟩
variable [ConcR.Payload][ConcX.Payload]
variable [ConcX.Shy (Cfg.Wg (aC prog N Pb Shun val B Mz)) (Cfg.C (aC prog N Pb Shun val B Mz))]
def HX.co(F:Cfg.Fit (aC prog N Pb Shun val B Mz))(h:HX (aC prog N Pb Shun val B Mz) Ex w₀ all Rb i l w):Co eg (N+9) (cO (aC prog N Pb Shun val B Mz)) (g9 (aC prog N Pb Shun val B Mz)) (oa (aC prog N Pb Shun val B Mz) i) (tj (aC prog N Pb Shun val B Mz) i) (λl w=>HX (aC prog N Pb Shun val B Mz) Ex w₀ all Rb i l w) where
 env:=h.env F
 rely h r:=h.rely F r
 size h:=h.hl.size
 own h hm:=⟨(h.hl.own _ _ hm).1,(h.hl.own _ _ hm).2.1⟩
 nodup h:=h.hl.nodup
 grown h hO:=h.grown F hO
 turn h hO hb hk:=h.turn F hO hb hk
 perm h p:=h.perm p
 drop h:=h.drop
 past h k hs:=h.past F k hs
 call h h':=h.call F h'
end
section
def px(w:World)(t e:TypeId)(c:Nat)(a:Array (Nat × Value))(cells:Aq)(d:TypeInfo)(z:Value)
 (j:P.underlying t=some (.slice e))(g:P.info? e=some d)(k:d.zero=some z)(b:¬c*d.size>2 ^ 24)(f:¬c*d.size=0)
 (h:Instr.fill (λi=>some (i*d.size,d.size)) ((Array.range (c*d.size)).map (z.cells[· % z.cells.size]!)) a.toList=some cells)(es:Array Event) :
  (Instr.buildSlice t c a).events P w es=es:=by simp[Instr.buildSlice,run_underlying j,sizeOf,typeInfo,zeroValue,g,k,b,f,h,newRow]
theorem su(w:World)(t e:TypeId)(b:Nat)(a:Array (Nat × Value))(cells:Aq)(c:TypeInfo)(z:Value)
 (g:P.underlying t=some (.slice e))(f:P.info? e=some c)(j:c.zero=some z)(U:¬b*c.size>2 ^ 24)
 (h:Instr.fill (λi=>some (i*c.size,c.size)) ((Array.range (b*c.size)).map (z.cells[· % z.cells.size]!)) a.toList=some cells)(es:Array Event) :
  (Instr.buildSlice t b a).run P w=.ok (.slice (sq w.heap.size) b b) (w.alloc (.cells cells e))/\(Instr.buildSlice t b a).events P w es=es:=by
 by_cases d:b*c.size=0
 .rw[d] at h;have k:Array.range 0=#[]:=rfl;have l:Instr.fill (λi=>some (i*c.size,c.size)) #[] a.toList=some cells:=gq
  constructor;iterate 2
   .simp[Instr.buildSlice,run_underlying g,sizeOf,typeInfo,f,d,k,l,newRow]
 .exact⟨run_buildSlice w t e b a cells c z g f j U d h,px w t e b a cells c z g f j U d h es⟩
def sliced(P:Program)(e:TypeId)(len:Nat)(parts:List (Nat × Value)):Option (Aq) :=
 match P.info? e with
 | some ie=>match ie.zero with
  | some z=>if len*ie.size>2 ^ 24 then none else Instr.fill (λi=>some (i*ie.size,ie.size)) ((Array.range (len*ie.size)).map (z.cells[· % z.cells.size]!)) parts
  | none=>none
 | none=>none
def rC(C:bW P true R D X)(Z:Co KT N0 M O (R vs) (D vs) H){d:Array (Nat × Operand)}(y:ops[i]?=some o)(F:Region.wanted o (yielded ops a.tmps)=true)(j:o.op=.buildSlice t len d)(E:P.underlying t=some (.slice e))(B:¬KT e)(g:sliced P e len (d.map λ(i,x)=>(i,a.eval x)).toList=some cells)
 (s:H l w)(h:∀b q,H ((b,.cells cells e)::l) q->ce X fn ops rest vs Q (a.put o.dst (.slice (sq b) len len)) q):ce X fn ops (i::rest) vs Q a w:=by
 refine aG C y F λc v K u=>?_;have f:=Z.rely s v;unfold sliced at g;cases Oq:P.info? e with
 | none=>simp[Oq] at g
 | some p =>
  cases hz:p.zero with
  | none=>simp[Oq,hz] at g
  | some z =>
   simp only[Oq,hz] at g;split at g
   .cases g
   .rename_i hn
    have m:=λr=>su c t e len (d.map λ(i,x)=>(i,a.eval x)) cells p z E Oq hz hn g r;have n:Own KT M c (c.alloc (.cells cells e)):=Own.alloc B;have A:(execOp a.eval o).run P c=.ok (.value (.slice (sq c.heap.size) len len)) (c.alloc (.cells cells e)):=by unfold execOp;simp only[j,Sem.run_bind,(m #[]).1,Result.andThen_ok,Sem.run_pure]
    have k:(execOp a.eval o).events P c #[]=#[]:=by unfold execOp;simp only[j,Sem.events_bind,(m #[]).1,(m _).2,Result.evThen_ok,Sem.events_pure]
    rw[A];refine u _ _ ⟨?_,h _ _ (Z.grown f n)⟩;rw[listed_nil k];exact Z.env.jb (Z.size f) n (λe k=>by simp at k)
end
def fW(ops:Array Oper):Bool:=(List.range ops.size).all λi=>((ops[i]?).map (·.after.all λe=>!Region.binds .any e||decide (e.on<i))).getD false
theorem lY(h:fW ops=true)(U:ops[i]?=some o){e:Edge}(c:e∈o.after)(b:Region.binds .any e=true):e.on<i:=by
 unfold fW at h;rw[aT] at h;have a:i<ops.size:=(oK.1 U).1
 have:=h i (List.mem_range.2 a);rw[U] at this;simp only[Option.map_some,Option.getD_some,Array.all_eq_true_iff_forall_mem] at this;grind
def lR(ops:Array Oper)(J:Nat->Bool)(i:Nat):Prop:=∀o,ops[i]?=some o->∀e∈o.after,Region.binds .any e=true->J e.on=true
section
variable {P:Program}{main:Bool}{R:ι->Wq}{D:ι->World->World->Array Event->Prop}{X:ι->Gq}{fn:FuncId}{Q:ei ι}{a:Act}{w:World}{vs:ι}
theorem jk(C:bW P main R D X)(S:LetsDraw (D vs))(V:P.follows .mixedOrders=true)(W:ops.size=n)(K:fW ops=true)
 (f:(Nat->Bool)->ι->Act->World->Prop)(O:∀d,R vs w d->f (λ_=>false) vs a { d with drawn:=d.drawn+1 })
 (B:∀J z vs a w,(∀k,k<n->J k=z k)->f J vs a w->f z vs a w)
 (L:∀(J:Nat->Bool) (i:Nat) (vs:ι) (a:Act) (w:World),f J vs a w->i<n->J i=false->lR ops J i->∀j,(∀g m q,f (λk=>if k=i then true else J k) g m q->ce X fn ops j g Q m q)->ce X fn ops (i::j) vs Q a w)
 (A:∀(J:Nat->Bool) (vs:ι) (a:Act) (w:World),(∀k,k<n->J k=true)->f J vs a w->ce X fn ops [] vs Q a w):fA X fn (.region id ops true) vs Q a w:=by
 have y:∀(U t:Nat) (c:Array Bool) (vs:ι) (a:Act) (w:World),c.size=n->c.toList.count false<=U->f (λk=>c.getD k false) vs a w->ce X fn ops (Region.linearise.go .any ops U t c []) vs Q a w:=by
  intro U;induction U with
  | zero =>
   intro t c vs a w Y u r;refine A _ vs a w (λk l=>?_) r;have h:=List.count_eq_zero.1 (Nat.le_zero.1 u);rw[D4,gF oq,Option.getD_some];cases e:c[k]'oq with
   | true=>rfl
   | false=>exact absurd gq h
  | succ U Z =>
   intro t c vs a w Y u r;by_cases H:Region.ready .any ops c=[]
   .rw[Ce H];refine A _ vs a w (λk l=>?_) r;induction k using Nat.strongRecOn with
    | _ k af =>
     cases e:c.getD k false with
     | true=>rfl
     | false =>
      exfalso;have G:k<ops.size:=oq
      have E:k∈Region.ready .any ops c:=by
       refine mem_ready.2 ⟨?_,ops[k],gF G,λed F s=>?_⟩
       .grind
       .have ab:=lY K (gF G) F s;grind
      grind
   .have M:0<(Region.ready .any ops c).length:=Eg.2 H;obtain⟨i,I⟩:∃i,(Region.ready .any ops c)[t % (Region.ready .any ops c).length]?=some i:=⟨_,gE (Nat.mod_lt _ M)⟩;have E:=mem_ready.1 (mG I);have⟨T,o,ho,F⟩:=E;have x:i<n:=gq
    have aa:c[i]?=some false:=by rw[D4,gF oq,Option.getD_some] at T;grind
    rw[s8 I];refine L _ i vs a w r x gq (λo' ae e a9 s=>?_) _ λg m q v=>Z _ _ g m q gq ?_ (B _ _ g m q (λk l=>?_) v)
    .grind
    .grind
    .by_cases e:k=i
     .subst e;simp[show k<c.size by omega]
     .simp[D4,e,Ne.symm e]
 intro b k N s l u;refine C.step rfl λd p=>?_;rw[stepG_region_draw];refine⟨S _,?_⟩;simp only[Region.schedule,V,Bool.true_or,if_true];have e:Region.linearise .any ops (d.tape d.drawn (.order b.fn id))=Region.linearise.go .any ops n (d.tape d.drawn (.order b.fn id)) (Array.replicate n false) []:=by unfold Region.linearise;rw[W]
 rw[e];exact y n _ (Array.replicate n false) vs a _ iq iq (B _ _ vs a _ (λk l=>by simp[D4,l]) (O d p)) b k N s l u
end
def gn {α:Type}(P:Program):Sem α->Option α
 | .pure a=>some a
 | .program k=>gn P (k P)
 | _=>none
def nj {α:Type}(d:α):Nat->List α->α->List α
 | 0,l,x=>x::l.tail
 | n+1,l,x=>l.headD d::nj d n l.tail x
structure AS where
 hp:List (List (Option Obj))
 nx:Nat
def AS.get(s:AS)(b:Nat):Option Obj:=(s.hp.getD (b / 16) []).getD (b % 16) none
def AS.set(s:AS)(b:Nat)(o:Option Obj):AS:=⟨nj [] (b / 16) s.hp (nj none (b % 16) (s.hp.getD (b / 16) []) o),s.nx⟩
def AS.add(s:AS)(o:Obj):AS:=⟨(s.set s.nx (some o)).hp,s.nx+1⟩
def dX:Value->Bool
 | .bool _|.int _ _|.string _|.pointer none|.slice none _ _|.nilFunc|.nilIface=>true
 | _=>false
def pS:Value->Bool
 | .agg cs=>cs.toList.all dX
 | v=>dX v
def am (b off:Nat):Value:=.pointer (some ⟨b,off,none⟩)
def UY (P:Program)(t:TypeId):Bool:=match P.underlying t with
 | some d=>d.isRow
 | none=>false
def bP(P:Program)(t:TypeId):Option Nat:=(P.info? t).map (·.size)
def mF(P:Program)(t:TypeId):Bool:=match P.info? t with
 | some i=>match i.zero with
  | some z=>z.cells.toList.all dX
  | none=>false
 | none=>false
def RG:Option Go.Next->Option Value
 | some (.value v)=>some v
 | _=>none
def aB(P:Program)(t:TypeId)(x:Value)(s:AS):Option Value:=match x with
 | .pointer (some ⟨b,off,none⟩)=>match s.get b with
  | some (.cells cs _ _)=>match P.underlying t with
   | some d=>if d.isRow then match bP P t with
     | some n=>if off+n<=cs.size then some (.agg (cs.toList.drop off |>.take n).toArray) else none
     | none=>none
    else cs[off]?
   | none=>none
  | some (.chan _ cs _ _ _ _)=>match P.underlying t with
   | some d=>if d.isRow then none else match cs[off]? with
    | some v=>if dX v=true then some v else none
    | none=>none
   | none=>none
  | _=>none
 | _=>none
def jr(P:Program)(t:TypeId)(x y:Value)(s:AS):Option AS:=match x with
 | .pointer (some ⟨b,off,none⟩)=>match s.get b with
  | some (.cells cs ty fz) =>
   if bP P t=some y.cells.size/\off+y.cells.size<=cs.size/\y.cells.toList.all Value.oneCell'=true then some (s.set b (some (.cells (putAt cs off y.cells.toList) ty fz))) else none
  | _=>none
 | _=>none
def ep(s:AS)(sz:Nat)(ad:Option Addr)(n:Nat):Option (Vq):=match ad with
 | none=>if n=0 then some [] else none
 | some ⟨b,off,_⟩=>match s.get b with
  | some (.cells cs _ _)=>if off+n*sz<=cs.size then some (cs.toList.drop off |>.take (n*sz)) else none
  | _=>none
def bK(P:Program)(e:TypeId)(x:Value)(news:Vq)(m:Nat)(s:AS):Option (Value × AS):=match x with
 | .slice none 0 0=>if m=0 then some (x,s) else some (.slice (some ⟨s.nx,0,none⟩) m m,s.add (.cells news.toArray e (1,1)))
 | .slice (some ⟨b,0,none⟩) n _=>if m=0 then some (x,s) else match s.get b,bP P e with
  | some (.cells cs t _),some sz =>
   if t=e/\n*sz<=cs.size/\n+m<=1000000000 then some (.slice (some ⟨s.nx,0,none⟩) (n+m) (n+m),(s.set b none).add (.cells (cs.toList.take (n*sz)++news).toArray e (1,1))) else none
  | _,_=>none
 | .slice (some ⟨_,_,some _⟩) 0 0=>if m=0 then none else some (.slice (some ⟨s.nx,0,none⟩) m m,s.add (.cells news.toArray e (1,1)))
 | _=>none
def jg {α:Type}:List α->Nat->Nat
 | [],n=>n
 | _::l,n=>jg l (n+1)
def cw:Bq->Bq->Bool
 | [],[]=>true
 | x::l,y::m=>if x.toNat.beq y.toNat then cw l m else false
 | _,_=>false
def eQ(k:IntKind)(r:Int):Int:=match k with
 | .i64|.i32=>if -2000000000<=r/\r<=2000000000 then r else k.wrap r
 | _=>k.wrap r
abbrev TL:=Vq
def TL.at:TL->Operand->Value
 | l,.tmp t=>l.getD t undef
 | _,.const v=>v
 | _,.global g=>.pointer (some ⟨g,0,none⟩)
 | _,.func f=>.func (.func f) #[] #[]
def z5:Vq->Nat->Value->Vq
 | [],_,_=>[]
 | _::l,0,v=>v::l
 | x::l,n+1,v=>x::z5 l n v
def TL.put(a:TL)(d:Option Tmp)(v:Value):TL:=match d with
 | some t=>z5 a t v
 | none=>a
def bL(ops:Array Oper)(a:TL)(j:Nat):Option Bool:=match ops.toList[j]? with
 | some o=>match o.dst with
  | some d=>match a[d]? with
   | some (.bool b)=>some b
   | _=>none
  | none=>none
 | none=>none
def Ag:Operand->Bool
 | .tmp _|.func _=>true
 | .const v=>dX v
 | .global _=>false
def lB(ops:Array Oper):Bool:=ops.toList.all λo=>o.op.operands.toList.all Ag
def kz(l:Vq):Option (Bq):=match l with
 | []=>some []
 | .int .u8 x::r=>if 0<=x/\x<256 then match kz r with
   | some a=>some (x.toNat.toUInt8::a)
   | none=>none
  else none
 | _=>none
def dR:Value->Option Addr->Bool
 | .slice (some ⟨b,_,none⟩) _ _,some ⟨b',_,_⟩=>!b.beq b'
 | _,_=>true
def iU:Value->Bool
 | .slice (some ⟨_,_,some _⟩) _ _=>false
 | _=>true
def eN(P:Program)(kt:TypeId->Bool)(b:Builtin)(args:Vq)(d:List TypeId)(s:AS):Option (Value × AS):=match b,args,d with
 | .append,[x,.slice y m _],[t,t']=>if t=t' then match P.underlying t with
   | some (.slice e)=>match (P.info? e).map (λi=>(i.zero,i.size,i.bytes)) with
    | some (some z,sz,bytes)=>match ep s sz y m with
     | some a=>if z.cells.size=sz/\0<sz/\bytes<=1000/\m<=1000000000/\kt e=false/\dR x y=true/\a.all Value.oneCell'=true then bK P e x a m s else none
     | none=>none
    | _=>none
   | _=>none
  else none
 | .append,[x,.string str],[t,t']=>match P.underlying t,P.underlying t' with
  | some (.slice e),some .string=>match (P.info? e).map (λi=>(i.zero,i.size,i.bytes)) with
   | some (some (Value.int IntKind.u8 0),1,1)=>if str.size<=1000000000/\kt e=false/\iU x=true then bK P e x (strCells str) str.size s else none
   | _=>none
  | _,_=>none
 | .copy,[.slice (some ⟨b,off,none⟩) n _,.string str],[t,_]=>match P.underlying t,s.get b with
  | some (.slice e),some (.cells cs bt fz)=>if bP P e=some 1/\str.size=n/\off+n<=cs.size then some (goInt (jg str.data.toList 0),s.set b (some (.cells (putAt cs off (strCells str)) bt fz))) else none
  | _,_=>none
 | .unsafeString,[.pointer (some ⟨b,0,none⟩),.int .i64 n],[pt,_]=>match P.underlying pt,s.get b with
  | some (.pointer e),some (.cells cs t _)=>if P.cellsOf e=1/\t=e/\0<n/\n<=1000000000/\n.toNat<=cs.size then match kz (cs.toList.take n.toNat) with
    | some c=>some (.string ⟨c.toArray⟩,s.set b none)
    | none=>none
   else none
  | _,_=>none
 | _,_,_=>none
def dw(c:BinOp)(x y:Value):Option Value:=match x,y with
 | .int k a,.int k' b=>if k=k' then match c with
   | .add=>some (.int k (eQ k (a+b)))
   | .sub=>some (.int k (eQ k (a-b)))
   | .eql=>some (.bool (a==b))
   | .neq=>some (.bool (a != b))
   | .lss=>some (.bool (decide (a<b)))
   | .leq=>some (.bool (decide (a<=b)))
   | .gtr=>some (.bool (decide (a>b)))
   | .geq=>some (.bool (decide (a>=b)))
   | _=>none
  else none
 | .string a,.string b=>match c with
  | .eql=>some (.bool (cw a.data.toList b.data.toList))
  | .neq=>some (.bool (!cw a.data.toList b.data.toList))
  | .add=>if jg a.data.toList 0+jg b.data.toList 0<=1000000000 then some (.string ⟨(a.data.toList++b.data.toList).toArray⟩) else none
  | _=>none
 | _,_=>none
def oJ(P:Program)(a:BinOp)(t:TypeId)(x y:Value):Option Value:=match x,y,P.underlying t with
 | .pointer (some p),.pointer (some q),some (.pointer e)=>match bP P e with
  | some (_+1)=>if p.block=q.block then match a with
    | .eql=>some (.bool (p==q))
    | .neq=>some (.bool (!(p==q)))
    | _=>none
   else none
  | _=>none
 | .pointer (some _),.pointer none,some (.pointer _)|.pointer none,.pointer (some _),some (.pointer _)|.slice (some _) _ _,.slice none _ _,some (.slice _)|.slice none _ _,.slice (some _) _ _,some (.slice _)
 | .func _ _ _,.nilFunc,some (.func _ _ _)|.nilFunc,.func _ _ _,some (.func _ _ _)|.map (some (_+1)),.int .i64 0,_=>match a with
  | .eql=>some (.bool false)
  | .neq=>some (.bool true)
  | _=>none
 | _,_,_=>none
def tP (P:Program)(a:TL)(o:Oper):Option Value :=
 if o.op.operands.toList.all λx=>pS (a.at x) then match RG (gn P (execOp a.at o)) with
  | some v=>if pS v then some v else none
  | none=>none
 else none
def bD(n c:Nat)(lo hi:Option Value):Option (Nat × Nat):=match hi with
 | none=>match lo with
  | none=>some (0,n)
  | some (.int _ i)=>if 0<=i/\i<=n then some (i.toNat,n) else none
  | _=>none
 | some (.int _ k)=>if 0<=k/\k<=c then match lo with
   | none=>some (0,k.toNat)
   | some (.int _ i)=>if 0<=i/\i<=k then some (i.toNat,k.toNat) else none
   | _=>none
  else none
 | _=>none
def fX(P:Program)(t:TypeId)(x:Value)(lo hi a:Option Value)(s:AS):Option Value:=match P.underlying t,x,a with
 | some (.slice e),.slice (some ⟨b,off,none⟩) n c,none=>match bP P e,s.get b with
  | some sz,some (.cells _ bt _)=>if bt=e then match bD n c lo hi with
    | some (l,h)=>if l<c then some (.slice (some ⟨b,off+l*sz,none⟩) (h-l) (c-l)) else if l=h then some (.slice (some ⟨b,off,some 0⟩) 0 1) else none
    | none=>none
   else none
  | _,_=>none
 | some (.slice e),.slice (some ⟨b,off,none⟩) _ _,some (.int _ 0)=>match bP P e,lo,hi with
  | some _,none,some (.int _ 0)=>some (.slice (some ⟨b,off,some 0⟩) 0 0)
  | _,_,_=>none
 | some .string,.string str,none=>match bD (jg str.data.toList 0) (jg str.data.toList 0) lo hi with
  | some (l,h)=>some (.string ⟨((str.data.toList.take h).drop l).toArray⟩)
  | none=>none
 | some (.slice e),.slice none 0 0,none=>match bP P e,bD 0 0 lo hi with
  | some _,some _=>some (.slice none 0 0)
  | _,_=>none
 | _,_,_=>none
def cj(P:Program)(a:TL)(o:Oper):Option Value:=match o.op with
 | .move x|.assign x=>some (a.at x)
 | .pick c x y=>match a.at c with
  | .bool b=>some (if b then a.at x else a.at y)
  | _=>none
 | .build t parts=>if mF P t=false then none else match P.built t (parts.map λ(i,x)=>(i,a.at x)).toList with
  | some c=>some (.agg c)
  | none=>none
 | .nilCheck x=>match a.at x with
  | .pointer (some p)=>some (.pointer (some p))
  | .func (.func f) x y=>some (.func (.func f) x y)
  | _=>none
 | .makeFunc (.func f) first cap=>some (.func (.func f) (first.map a.at) (cap.map a.at))
 | .extract t ix=>match a.at t with
  | .tuple vs=>vs[ix]?
  | _=>none
 | .fieldAddr t x f=>match P.underlying t,a.at x with
  | some (.struct fields),.pointer (some ⟨b,off,none⟩)=>match fields[f]? with
   | some g=>match bP P g.type with
    | some (_+1)=>some (am b (off+g.offset))
    | _=>none
   | none=>none
  | _,_=>none
 | .indexAddr t x ix=>match P.underlying t,a.at x,a.at ix with
  | some (.slice e),.slice (some ⟨b,off,_⟩) n _,.int _ i=>match bP P e with
   | some d=>if 0<=i/\i<n then some (am b (off+i.toNat*d)) else none
   | none=>none
  | some (.array n e),.pointer (some ⟨b,off,none⟩),.int _ i=>match bP P e with
   | some d=>if 0<=i/\i<n then some (am b (off+i.toNat*d)) else none
   | none=>none
  | _,_,_=>none
 | .binOp op t x y _=>match dw op (a.at x) (a.at y) with
  | some v=>some v
  | none=>match oJ P op t (a.at x) (a.at y) with
   | some v=>some v
   | none=>tP P a o
 | .convert t u x=>match P.underlying t,P.underlying u,a.at x with
  | some _,some (.int k),.int _ n=>some (.int k (eQ k n))
  | _,_,_=>tP P a o
 | .index t x i=>match P.underlying t,a.at x,a.at i with
  | some .string,.string str,.int _ n=>if 0<=n then match str.data.toList[n.toNat]? with
    | some b=>some (.int .u8 b.toNat)
    | none=>none
   else none
  | _,_,_=>tP P a o
 | .call c=>match c.callee,c.args.toList,c.argTypes.toList with
  | .builtin .len,[x],[t]=>match a.at x,P.underlying t with
   | .slice _ n _,some (.slice _)=>some (goInt n)
   | .string str,some .string=>some (goInt (jg str.data.toList 0))
   | _,_=>none
  | .builtin .unsafeSliceData,[x],_=>match a.at x with
   | .slice (some ⟨b,off,none⟩) _ (_+1)=>some (.pointer (some ⟨b,off,none⟩))
   | _=>tP P a o
  | .builtin .cap,[x],[t]=>match a.at x,P.underlying t with
   | .slice (some ⟨_,_,none⟩) _ c,some (.slice _)=>some (.map (some c))
   | _,_=>tP P a o
  | .builtin .min,_,_|.builtin .max,_,_|.builtin .unsafeString,_,_=>tP P a o
  | _,_,_=>none
 | .unOp _ _ _=>tP P a o
 | _=>none
def jV(P:Program):Operand->Bool
 | .func g=>match P.funcs[g]? with
  | some fn => fn.body.isNone && fn.name == "internal" ++ String.singleton (Char.ofNat 47) ++ "abi.NoEscape"
  | none=>false
 | _=>false
def fB(P:Program)(t u:TypeId)(x:Value)(s:AS):Option Value:=match P.underlying t,P.underlying u,x with
 | some (.pointer e),some .unsafePointer,.pointer (some ⟨b,off,none⟩)=>match s.get b,bP P e with
  | some (.cells cs _ _),some (_+1)=>if off<cs.size then some x else none
  | _,_=>none
 | some .unsafePointer,some (.pointer e),.pointer (some ⟨b,off,none⟩)=>match s.get b,bP P e with
  | some (.cells cs bt (0,0)),some (_+1)=>if liesAt P P.depth bt (cs.size / P.cellsOf bt) off e 1=true then some x else none
  | _,_=>none
 | _,_,_=>none
def tO(P:Program)(kt:TypeId->Bool)(a:TL)(o:Oper):Option (Obj × (Nq)):=match o.op with
 | .alloc t=>if mF P t=false\/kt t=true\/bP P t=none then none else match (P.info? t).map (·.zero) with
  | some (some z)=>some (.cells z.cells t,λb=>am b 0)
  | _=>none
 | .box t x=>if kt t=true\/bP P t=none then none else some (.cells (a.at x).cells t,λb=>am b 0)
 | .buildSlice t len parts=>match P.underlying t with
  | some (.slice e)=>if mF P e=false\/kt e=true\/1000000000<len then none else match sliced P e len (parts.map λ(i,x)=>(i,a.at x)).toList with
   | some c=>some (.cells c e,λb=>.slice (some ⟨b,0,none⟩) len len)
   | none=>none
  | _=>none
 | .range t x=>match P.underlying t,a.at x with
  | some .string,.string str=>if kt (1000+str.size)=true then none else some (.stringIter str 0,λb=>am b 0)
  | _,_=>none
 | .makeSlice t x y=>match P.underlying t,a.at x,a.at y with
  | some (.slice e),.int .i64 n,.int .i64 m=>match (P.info? e).map (λi=>(i.zero,i.size,i.bytes)) with
   | some (some z,sz,bytes)=>if n=m/\0<n/\n<=1000000000/\mF P e=true/\kt e=false/\bytes<=1000 then some (.cells (madeCells z.cells (n.toNat*sz)) e,λb=>.slice (some ⟨b,0,none⟩) n.toNat n.toNat) else none
   | _=>none
  | _,_,_=>none
 | _=>none
def eF:Op->Bool
 | .alloc _|.box _ _|.buildSlice _ _ _|.range _ _|.makeSlice _ _ _=>true
 | _=>false
def bN (P:Program)(kt:TypeId->Bool)(call:FuncId->Aq->AS->Option (Value × AS))(a:TL)(o:Oper)(s:AS):Option (Value × AS) :=
 if eF o.op then match tO P kt a o with
  | some (ob,mk)=>some (mk s.nx,s.add ob)
  | none=>none
 else match o.op with
 | .load t x=>match aB P t (a.at x) s with
  | some v=>some (v,s)
  | none=>none
 | .store t x y=>match jr P t (a.at x) (a.at y) s with
  | some s'=>some (undef,s')
  | none=>none
 | .slice t x lo hi mx=>match fX P t (a.at x) (lo.map a.at) (hi.map a.at) (mx.map a.at) s with
  | some v=>some (v,s)
  | none=>none
 | .next it true=>match a.at it with
  | .pointer (some ⟨b,0,none⟩)=>match s.get b with
   | some (.stringIter str pos) =>
    if pos<str.size then if kt (1000+str.size)=true then none else some (.tuple #[.bool true,goInt pos,.int .i32 (Utf8.decode str pos).1],s.set b (some (.stringIter str (pos+(Utf8.decode str pos).2))))
    else some (.tuple #[.bool false],s)
   | _=>none
  | _=>none
 | .call c=>match c.callee with
  | .value f=>if jV P f=true then match c.args.toList with
    | [x]=>some (a.at x,s)
    | _=>none
   else match a.at f with
   | .func (.func g) first cap=>call g (first++c.args.map a.at++cap) s
   | _=>none
  | .builtin b=>match cj P a o with
   | some v=>some (v,s)
   | none=>eN P kt b (c.args.toList.map a.at) c.argTypes.toList s
  | _=>none
 | .convert t u x=>match cj P a o with
  | some v=>some (v,s)
  | none=>match fB P t u (a.at x) s with
   | some v=>some (v,s)
   | none=>none
 | _=>match cj P a o with
  | some v=>some (v,s)
  | none=>none
def cT(P:Program)(kt:TypeId->Bool)(call:FuncId->Aq->AS->Option (Value × AS))(ops:Array Oper):List Oper->TL->AS->Option (TL × AS)
 | [],a,s=>some (a,s)
 | o::rest,a,s =>
  if Region.wanted o (bL ops a) then
   match bN P kt call a o s with
   | some (v,s')=>cT P kt call ops rest (a.put o.dst v) s'
   | none=>none
  else cT P kt call ops rest (a.put o.dst undef) s
def xf(P:Program)(kt:TypeId->Bool)(call:FuncId->Aq->AS->Option (Value × AS))(ops:Array Oper)(a:TL)(s:AS):Option (TL × AS):=cT P kt call ops ops.toList a s
def pI (P:Program)(kt:TypeId->Bool)(call:FuncId->Aq->AS->Option (Value × AS))(ops:Array Oper):List Oper->TL->AS->Option (List (TL × Value × AS))
 | [],_,_=>some []
 | o::rest,a,s =>
  if Region.wanted o (bL ops a) then
   match bN P kt call a o s with
   | some (v,s')=>match pI P kt call ops rest (a.put o.dst v) s' with
    | some tr=>some ((a,v,s')::tr)
    | none=>none
   | none=>none
  else match pI P kt call ops rest (a.put o.dst undef) s with
   | some tr=>some ((a,undef,s)::tr)
   | none=>none
def kindOf(P:Program)(o:Oper):Nat :=
 if eF o.op then 2 else match o.op with
  | .load _ _=>1
  | .store _ _ _|.next _ _=>3
  | .slice t _ _ _ _=>match P.underlying t with
   | some .string=>0
   | _=>3
  | .convert t u _=>match P.underlying t,P.underlying u with
   | some .unsafePointer,_|_,some .unsafePointer=>3
   | _,_=>0
  | .call c=>match c.callee with
   | .builtin .len|.builtin .min|.builtin .max|.builtin .cap|.builtin .unsafeSliceData=>0
   | _=>3
  | _=>0
def y6(acc:List Nat)(o:Oper):Nat:=o.after.toList.foldl (λm e=>if Region.binds .any e then m ||| (1 <<< e.on ||| acc.getD e.on 0) else m) 0
def fw:List Oper->List Nat->List Nat
 | [],acc=>acc
 | o::rest,acc=>fw rest (acc++[y6 acc o])
def og:Nat->Value->Value->Bool
 | 0,_,_=>false
 | n+1,x,y=>match x,y with
  | .bool a,.bool b=>a==b
  | .int k a,.int k' b=>k==k'&&a==b
  | .string a,.string b=>cw a.data.toList b.data.toList
  | .pointer a,.pointer b=>a==b
  | .slice a n c,.slice a' n' c'=>a==a'&&n.beq n'&&c.beq c'
  | .func f x y,.func f' x' y'=>f==f'&&x.toList.length.beq x'.toList.length&&y.toList.length.beq y'.toList.length&&(x.toList.zip x'.toList).all (λp=>og n p.1 p.2)&&(y.toList.zip y'.toList).all (λp=>og n p.1 p.2)
  | .agg x,.agg x'=>x.toList.length.beq x'.toList.length&&(x.toList.zip x'.toList).all (λp=>og n p.1 p.2)
  | .nilFunc,.nilFunc=>true
  | .nilIface,.nilIface=>true
  | _,_=>false
def tmpsOf(o:Oper):List Nat:=o.op.operands.toList.filterMap λx=>match x with
 | .tmp t=>some t
 | _=>none
def CK(P:Program)(ops:List Oper)(fT:List Nat)(q:Nat):Bool :=
 let n:=ops.length
 let has:=λi j=>(fT.getD i 0).testBit j
 let ks:=ops.map (kindOf P)
 (List.range n).all (λi=>decide (i<q)||(List.range i).all (has i)) &&
 (List.range q).all (λi=>match ops[i]? with
  | some o=>(tmpsOf o).all (λt=>(List.range q).all λj=>((ops[j]?).bind (·.dst) != some t)||has i j) &&
   (match o.guard with|some (j,_)=>has i j&&decide (j<q)|none=>true) &&
   (List.range q).all (λj=>(i==j)||o.dst==none||(ops[j]?).bind (·.dst) != o.dst)
  | none=>false) &&
 (List.range q).all (λi=>(ks.getD i 0 != 3)||(List.range i).all λj=>(ks.getD j 0).blt 2||has i j)
def iS(fT:List Nat):Nat->Nat
 | 0=>0
 | n+1=>if (List.range n).all (λj=>(fT.getD n 0).testBit j) then iS fT n else n+1
def ir(tr:List (TL × Value × AS))(s:AS)(m:Nat):AS:=match m with
 | 0=>s
 | m+1=>match tr[m]? with
  | some (_,_,s')=>s'
  | none=>s
def qc(P:Program)(ops:Array Oper)(fT:List Nat)(q:Nat)(tr:List (TL × Value × AS))(s:AS):Bool :=
 let has:=λi j=>(fT.getD i 0).testBit j
 let es:=(List.range q).filter λi=>(match ops.toList[i]? with|some o=>kindOf P o|none=>0)==3
 (List.range q).all λr=>match ops.toList[r]?,tr[r]? with
  | some o,some (a,v,_)=>match o.op with
   | .load t x=>(0::es.map (·+1)).all λp =>
    (es.any λe=>(e.blt p&&has e r)||(!e.blt p&&has r e)) ||
    (match aB P t (a.at x) (ir tr s p) with
     | some b=>og 20 b v
     | none=>false)||!(Region.wanted o (bL ops a))
   | _=>true
  | _,_=>false
def kL(P:Program)(kt:TypeId->Bool)(call:FuncId->Aq->AS->Option (Value × AS))(ops:Array Oper)(a:TL)(s:AS):Option (TL × AS) :=
 let fT:=fw ops.toList []
 let q:=iS fT ops.toList.length
 if fW ops=false\/CK P ops.toList fT q=false then none else
 match pI P kt call ops ops.toList a s with
 | some b=>if qc P ops fT q b s=false then none else match b.reverse,ops.toList.reverse with
  | (a',v,s')::_,o::_=>some (a'.put o.dst v,s')
  | _,_=>none
 | none=>none
def m6(P:Program)(tmps:TL)(s:AS):ResultVar->Option Value
 | .tmp t=>some (tmps.getD t undef)
 | .cell t ty=>aB P ty (tmps.getD t undef) s
def c8(P:Program)(fn:Func)(tmps:TL)(s:AS):Option Value :=
 match fn.results.toList with
 | [r]=>m6 P tmps s r
 | rs=>match rs.mapM (m6 P tmps s) with
  | some vs=>some (.tuple vs.toArray)
  | none=>none
abbrev Prim:=FuncId->Option (Aq->AS->Option (Value × AS))
def fe (P:Program)(kt:TypeId->Bool)(pr:Prim):Nat->Code->TL->AS->Option (Exit × TL × AS)
 | 0,_,_,_=>none
 | n+1,c,a,s=>match c with
  | .skip=>some (.normal,a,s)
  | .ret=>some (.ret,a,s)
  | .exit id=>some (.exit id,a,s)
  | .label _=>some (.normal,a,s)
  | .seq x y=>match fe P kt pr n x a s with
   | some (.normal,a',s')=>fe P kt pr n y a' s'
   | r=>r
  | .cond x y z=>match a.at x with
   | .bool true=>fe P kt pr n y a s
   | .bool false=>fe P kt pr n z a s
   | _=>none
  | .block id x=>match fe P kt pr n x a s with
   | some (.exit k,a',s')=>if k=id then some (.normal,a',s') else some (.exit k,a',s')
   | r=>r
  | .loop x=>match fe P kt pr n x a s with
   | some (.normal,a',s')=>fe P kt pr n (.loop x) a' s'
   | r=>r
  | .scope x=>fe P kt pr n x a s
  | .region _ ops draw=>if lB ops=false then none else
   match (if draw then kL P kt else xf P kt) (λf args s=>match pr f with
    | some g=>g args s
    | none=>match P.funcs[f]? with
     | some fn=>match fn.body with
      | some b=>match fe P kt pr n b (args.toList++List.replicate (fn.ntmps-args.toList.length) undef) s with
       | some (e,a',s')=>match e with
        | .normal|.ret=>(c8 P fn a' s').map (·,s')
        | _=>none
       | none=>none
      | none=>none
     | none=>none) ops a s with
   | some (a',s')=>some (.normal,a',s')
   | none=>none
  | _=>none
def bH(P:Program)(kt:TypeId->Bool)(pr:Prim)(n:Nat)(f:FuncId)(args:Aq)(s:AS):Option (Value × AS) :=
 match pr f with
 | some g=>g args s
 | none=>match P.funcs[f]? with
  | some fn=>match fn.body with
   | some b=>match fe P kt pr n b (args.toList++List.replicate (fn.ntmps-args.toList.length) undef) s with
    | some (e,a',s')=>match e with
     | .normal|.ret=>(c8 P fn a' s').map (·,s')
     | _=>none
    | none=>none
   | none=>none
  | none=>none
end Go.Proofs.YtgcaionclkbehaaGreatDoor
