import Derived.Test.YtgcaionclkbehaaGreatDoorX70
set_option linter.all false
set_option maxHeartbeats 4000000
set_option maxRecDepth 100000
namespace Go.Proofs.YtgcaionclkbehaaGreatDoor
open Go.Conc Go.RowKit Go.Lib Tryz
variable [Inhabited KC]
section
variable {KT:TypeId->Prop}{N0:Nat}{M:World->Nat->Prop}{O:Nat->Prop}{R:Wq}{D:World->World->Array Event->Prop}{Ex:Nat->Prop}{w₀ w w':World}{l:Hq}
def HL.SQ(E:Env KT N0 M O R D)(h:HL M O N0 Ex w₀ l w)(a:Own KT M w w'){o:Obj}(k:w'.heap[w.heap.size]?=some o)(i:∀b,b<w.heap.size->w'.heap[b]?=w.heap[b]?):HL M O N0 Ex w₀ ((w.heap.size,o)::l) w':=by
 refine⟨h.kept.own E a λb c _=>i b<|E.lt<|h.kept.mine b c,lT h.size a.grow,λb f U=>?_,?_⟩
 .rcases pS.1 U with e|U
  .cases e;exact⟨E.new h.size a lr (oa.1 k).1,k,.inr h.kept.grow⟩
  .have⟨j,m,n⟩:=h.own b f U;exact⟨E.mine a j,(i b<|E.lt j).trans m,n⟩
 .refine List.nodup_cons.2 ⟨λU=>?_,h.nodup⟩;have⟨p,d,e⟩:=List.mem_map.1 U;have g:=E.lt (h.own p.1 p.2 d).1;simp only at e;omega
end
section
variable {ι:Type}{P:Program}{KT:TypeId->Prop}{An:dQ}{N0:ι->Nat}{M:ι->World->Nat->Prop}{O:ι->Nat->Prop}{R:ι->Wq}{D:ι->World->World->Array Event->Prop}{X:ι->Gq}{Hd:ι->Hq->World->Prop}{kt:TypeId->Bool}{pr:Prim}
section
variable {fn:FuncId}{Q:fO ι}{a:Act}{w:World}{i:ι}{S:dQ}{s s':AS}{l fr:Hq}{aA:TL}{v:Value}{ops:Array Oper}{j:Nat}{rest:List Nat}{o:Oper}
theorem EX(Y:Cy P KT N0 M O R D X Hd)(Cg:∀t, kt t=false->¬KT t)(ho:ops[j]?=some o)(hw:Region.wanted o (yielded ops a.tmps)=true){x y:Operand}{t e:TypeId}(lx:o.op=.call { callee:=.builtin .append, args:=#[x, y], argTypes:=#[t, t] })(hA:fq S aA a o)(H:gh P KT An S s l)(N:Hd i (l++fr) w)
 {b d n cp cy sz bytes:Nat}{z:Value}{cs:Aq}{fz Gj:Nat × Nat}{news:Vq}{e':TypeId}(hx:aA.at x=.slice (sq b) n cp)(hy:aA.at y=.slice (sq d) 1 cy)(ht:P.underlying t=some (.slice e))(hi:(P.info? e).map (λi=>(i.zero, i.size, i.bytes))=some (some z, sz, bytes))(hz:z.cells.size=sz)(uN:0<sz)(hby:bytes<=1000)(hke:kt e=false)(hb:s.get b=some (.cells cs e fz))(yr:n*sz<=cs.size)(hd:s.get d=some (.cells news.toArray e' Gj))(Z3:news.length=sz)(Z5:news.all Value.oneCell'=true)(hbd:b≠d)(hn:n<=999999999)(oy:∀b, s.nx<=b->b<s.nx+1->S b=none)
 (k1:Out P KT An Hd S s (s.set b (some (.cells (cs.toList.take (n*sz)++news).toArray e (1, 1)))) fr (.slice (sq b) (n+1) (n+1)) λi' v' w'=>cM X fn ops rest i' Q (a.put o.dst v') w')
 (k2:Out P KT An Hd S s (s.add (.cells (cs.toList.take (n*sz)++news).toArray e (1, 1))) fr (.slice (sq s.nx) (n+1) (n+1)) λi' v' w'=>cM X fn ops rest i' Q (a.put o.dst v') w'):cM X fn ops (j::rest) i Q a w:=by
 have Zr:=hA;unfold fq at hA;rw[lx] at hA;have F:=hA x (by simp[Op.operands, Call.operands]);have G:=hA y (by simp[Op.operands, Call.operands]);rw[hx] at F;rw[hy] at G;obtain⟨i0, Th, Zk, r, SW⟩:=info_parts hi;have f:cH P e=some sz:=by simp[cH, Th, r]
 have rT:eH s sz (sq d) 1=some news:=by unfold eH;simp only[hd];rw[if_pos (by simp; omega)];simp only[List.drop_zero, Option.some.injEq];exact List.take_of_length_le (by omega)
 obtain⟨gy, Ye, ky, J, ty, WY, hky, hln, hlJ, k⟩:=vE H G rT (by omega);simp only[Nat.zero_add, List.drop_zero, Nat.one_mul] at WY hln hlJ k;obtain⟨g, zz, e2, kx, U, h1, V, I, Lf⟩:=wG H F hb rfl f yr;have Tj:=Cg e hke;have Zv:=I.2;rcases Zv with ⟨q, _⟩|⟨g', cap, cur, hxr, hgU, Q5, Tc, Q6, Wl⟩
 .obtain⟨g3, z3, e3, c3, q1, q2, _⟩:=F.sl;rw[q2] at q;cases q
 simp only[List.cons.injEq, Prod.mk.injEq, Obj.cells.injEq, and_true] at hgU;obtain⟨rfl, rfl⟩:=hgU;obtain⟨gs, zs_, es, cs_, SY, WX, hv1, Rk, hv3, hv4⟩:=F.sl;rw[h1] at SY;cases SY;rw[hxr] at WX;cases WX;have iX:=(List.getElem?_eq_some_iff.1 V).1;have Ti:(l++fr)[kx]?=some (g, .cells U e):=by rw[List.getElem?_append_left iX]; exact V
 have ZQ:(gy, Obj.cells J ty)∈l++fr:=List.mem_append_left _ (List.mem_of_getElem? hky);obtain⟨nR, Z0⟩:∃nR, nR=J.toList.take sz:=⟨_, rfl⟩;have E:nR.length=1*sz:=by rw[Z0]; simp; omega
 rw[<-Z0] at k;have Rh:∀u∈nR, u.oneCell'=true:=GP (by rw[hln, E]; omega) k Z5;have Lg:(n+1)*bytes<=140737488355328:=Nat.le_trans (Nat.mul_le_mul (show n+1<=1000000000 by omega) hby) (by omega);have hml:n+1<=maxLen:=by simp[maxLen]; omega
 have Yr:(cs.toList.take (n*sz)).length=n*sz:=by simp; omega
 have O8:(U.toList.take (n*sz)).length=n*sz:=I.1;have O9:=zD (S:=S) (us:=news) (vs:=nR) (by rw[Yr, O8]) Lf k;have Z:=Y.Z N;refine aM Y.C ho hw λc hR K hK=>?_;have hF:=Z.rely N hR;have To:=Z.own hF (List.mem_of_getElem? Ti);have Ri:=Z.own hF ZQ;have Tf:=Z.front hF kx Ti;have T:∀(q:Nat) (u:Value), nR[q]?=some u->c.cell? ((⟨gy, 0, none⟩:Addr).add q)=some u:=λq u hu=>by
  rw[Addr.add_lit];rw[Z0, List.getElem?_take] at hu;split at hu
  .simp[World.cell?, Ri.2];simpa using hu
  .cases hu
 obtain⟨q, w', U', A, s3, B, hO, _, hwh, ZH, _⟩:=sM (l:=[]) (P:=P) (rl:=[(g, .cells U e)]) (xs:=U.toList.take (n*sz)) (news:=nR) (n:=n) (v:=a.eval x) Z.env Tj (by simpa using(Z.hl Tf).left.lG) I t o.type z bytes ht hi hz uN ⟨gy, 0, none⟩ 1 Ye (by omega) E T Ri.1 Rh hml Lg;have WL:(execOp a.eval o).run P c=.ok (.value q) w':=by unfold execOp;simp only[lx, resolve, invoke, builtin, Sem.run_bind, Sem.run_pure, Result.andThen_ok, List.map_toArray, List.map_cons, List.map_nil, WY, A]
 have he2:(execOp a.eval o).events P c #[]=(Builtin.append_ #[t, t] o.type #[a.eval x, .slice (sq gy) 1 Ye]).events P c #[]:=by unfold execOp;simp only[lx, resolve, invoke, builtin, Sem.events_bind, Sem.run_pure, Sem.events_pure, Result.evThen_ok, List.map_toArray, List.map_cons, List.map_nil, WY, A]
 rw[WL];refine hK _ _ ⟨Z.env.jb (Z.size hF) hO λev hl=>?_, ?_⟩
 .have hl:=mem_listed hl;rw[he2] at hl;exact ZH ev hl
 rw[hxr] at A hwh;by_cases W:n+1<=cap
 .have Te:n*i0.size+nR.length<=U.size:=by rw[r, E, Q6, <-Nat.add_mul];exact Nat.mul_le_mul_right _ W
  have p:=run_append_room (P:=P) c t o.type e i0 ht Th g n cap U To.2 ⟨gy, 0, none⟩ 1 Ye nR (by rw[r]; exact E) T Rh W Te;rw[A] at p;rw[r] at p;injection p with hq Li
  subst hq;subst Li;have hN1:(U.toList.take (n*sz)++nR++U.toList.drop (n*sz+nR.length)).length=U.size:=by simp only[List.length_append, List.length_drop, Array.length_toList, O8];rw[r] at Te;omega
  generalize hNE:U.toList.take (n*sz)++nR++U.toList.drop (n*sz+nR.length)=NL at *;have a4:=Z.wX hF kx Ti hO (o':=.cells NL.toArray e) (by simp[World.setRow, Ii, To.2]) (λq L=>by simp[World.setRow, Ii, Ne.symm L]);rw[List.set_append_left _ _ iX] at a4;refine k1 i S _ _ _ (λ_ _ h=>h) (λ_ _=>rfl) (H.wY hb h1 V (Y.Ap N) ⟨_, rfl, ?_, ⟨?_, λh=>by cases h⟩, λm x y hm Lc=>?_⟩ λKy t1 fz1 hc=>?_) a4 (j0 h1 (Nat.le_refl _) W Tc hv4)
  .show NL.length=zz;rw[hN1]
   have:=hv4;rw[Nat.zero_add] at this;rw[Q6];obtain⟨kk, ob, hk, _, _, Ip, Is⟩:=H.at (fr:=fr) hb h1
   have:=(Is cs e fz rfl).1;rw[f] at this;cases this;omega
  .have:(cs.toList.take (n*sz)++news).toArray.size=n*sz+sz:=by simp; omega
   rw[this];have e3:zz=U.size:=by
    obtain⟨kk, ob, hk, _, _, Ip, Is⟩:=H.at (fr:=fr) hb h1
    have:=(Is cs e fz rfl).1;rw[f] at this;cases this;rw[Q6];omega
   rw[e3];rw[r, E] at Te;omega
  .refine O9 m x y (by simpa using hm) ?_;have Ld:m<n*sz+sz:=by have:=(Array.getElem?_eq_some_iff.1 hm).1;simp at this;omega
   rw[<-hNE] at Lc;simp only[List.getElem?_toArray] at Lc;rw[List.getElem?_append_left (by rw[List.length_append, O8, E]; omega)] at Lc;exact Lc
  .cases hc;exact⟨by obtain⟨kk, ob, hk, _, _, Ip, Is⟩:=H.at (fr:=fr) hb h1;exact(Is cs e fz rfl).1, Tj⟩
 .have p:=run_append_grow (P:=P) c t o.type e i0 z ht Th Zk ⟨g, 0, none⟩ n cap (U.toList.take (n*sz)) (by rw[r]; exact O8) (λq u hu=>by
   rw[Addr.add_lit];rw[List.getElem?_take] at hu;split at hu
   .simp[World.cell?, To.2];simpa using hu
   .cases hu) ⟨gy, 0, none⟩ 1 Ye nR (by rw[r]; exact E) T (by omega) (by omega) (growslice_fits (by omega) (by rw[SW]; exact Lg));rw[A] at p;injection p with hq Li
  rcases B.2 with ⟨WE, _⟩|⟨g2, Y9, Si, Ir, hU', p1, p2, p3, p4, p5⟩
  .rw[hq] at WE;cases WE
  have hg2:g2=c.heap.size:=by rw[Ir] at hq;cases hq;rfl
  subst hU';have s3':=(s3.own g2 (.cells Si e) (by simp)).2.1;rw[hg2] at s3';have hold:∀b, b<c.heap.size->w'.heap[b]?=c.heap[b]?:=λb hb=>by rw[Li];exact heap_alloc_old c.drew _ b hb
  have Zu:=HL.SQ (KT:=KT) Z.env (by simpa using(Z.hl (l:=[]++(l++fr)) hF).left.lG:HL (M i) (O i) (N0 i) (ly []) c [] c) hO s3' hold;have Cd:=Z.call (l1:=[]) (l:=l++fr) hF Zu;rw[hg2] at Ir;have Zy:jN e sz q (n+1) (U.toList.take (n*sz)++nR) [(c.heap.size, .cells Si e)]:=⟨B.1, .inr ⟨_, Y9, Si, Ir, rfl, p2, p3, p4, p5⟩⟩;obtain⟨S', l', q1, q2, q3, q4, q5⟩:=k9 (X6:=cs.toList.take (n*sz)++news) Y H (by omega) uN Cd Zy (oy _ (Nat.le_refl _) (by omega)) f Tj (by rw[List.length_append, Yr, Nat.add_mul]; omega) O9;exact k2 i S' l' w' q q1 q2 q3 q4 q5
end
section
variable {aA:TL}{s s1:AS}{Q Q2:Exit->TL->AS->Prop}{K:TL->AS->Prop}{c x y:Code}{ops:Array Oper}{o:Oper}{v:Value}
def AA{S:dQ}{a:Act}(c:AR (VR S) aA.toArray a.tmps)(b:jI ops=true){k:Nat}(d:ops[k]?=some o):fq S aA a o:=λx e=>iI c<|by
 unfold jI at b;rw[aT] at b
 have:=b o (by rw[Array.mem_toList_iff];exact Array.mem_of_getElem? d);rw[aT] at this;exact this x<|by simpa using e
def eo(h:WI P KT An X Hd c aA s Q)(u:∀e a s,Q e a s->Q2 e a s):WI P KT An X Hd c aA s Q2 :=
 λm S l n i w a f r p o t d k=>h m S l n i w a f r p o t d λe b y v g x z j q=>k e b y v g x z j<|u _ _ _ q
def ek(Y:Cy P KT N0 M O R D X Hd){j:Nat}(h:WI P KT An X Hd x aA s (jq j Q)):WI P KT An X Hd (.block j x) aA s Q:=by
 intro B S l E i w a J H G F I f k;refine fX Y.C Y.T<|h B S l E i w a _ H G F I f ?_;intro e b y g c n z d q o p r t u v;simp only[kv];unfold jq at q;cases e with
 | exit m =>
  simp only at q |-;by_cases A:m=j
  .rw[ip A] at q |-;exact k _ b y g c n z d q o p r t u v
  .rw[iw A] at q |-;exact k _ b y g c n z d q o p r t u v
 | _=>exact k _ b y g c n z d q o p r t u v
def lP(Y:Cy P KT N0 M O R D X Hd)(I:Nat->TL->AS->Prop)(h:∀m a s,I m a s->WI P KT An X Hd c a s (λe n p=>match e with|.normal=>∃r,r<m/\I r n p|e=>Q e n p)):∀m a s,I m a s->WI P KT An X Hd (.loop c) a s Q:=by
 intro m j s y G S l H i w a Q' A v u B f k;refine sK Y.C Y.T ?_;have F:∀m j s g l i w a,I m j s->S.le g->gh P KT An g s l->Hd i (l++H) w->AR (VR g) j.toArray a.tmps->a.defers=[]->(∀b,s.nx<=b->g b=none)->vx X G c i Q' a w:=by
  intro m;induction m using Nat.strongRecOn with
  | _ m ih =>
   intro j s g l i w a y E A v u B f;refine pd Y.C Y.T<|h m j s y G g l H i w a _ A v u B f ?_;intro e o p J t K Z n q q2 L N U V W;have d:S.le t:=λb x h=>q2 b x<|E b x h;cases e with
   | normal =>obtain⟨r,hm,z⟩:=q;exact ih r hm o p t K J Z n z d L N U V W
   | _=>exact k _ o p J t K Z n q d L N U V W
 exact F m j s S l i w a y (λ_ _ h=>h) A v u B f
def kZ(Y:Cy P KT N0 M O R D X Hd)(b:∀t, kt t=false->¬KT t){k:Nat}(d:ops[k]?=some o)(h:bS P kt (λ_ _ _=>none) aA o s=some (v, s1))(kk:WO P KT An X Hd ops (k+1) (aA.put o.dst v) s1 K)(c:jI ops=true:=by kernel_rfl)(f:Region.wanted o (bK ops aA)=true:=by kernel_rfl):WO P KT An X Hd ops k aA s K:=gg Y b d (λS a _ e=>AA e c d) f h kk
def cJ(s':AS)(kk:WI P KT An X Hd c aA s' Q)(h:s=s':=by kernel_rfl):WI P KT An X Hd c aA s Q:=h▸kk
def jj(f:(Nq)->TL)(h:aA=f (λi=>aA.getD i undef))(k:∀x,WI P KT An X Hd c (f x) s Q):WI P KT An X Hd c aA s Q:=h▸k _
def n5(Y:Cy P KT N0 M O R D X Hd){q:Operand}(o:wa q=true)(h:aA.at q=.bool true)(k:WI P KT An X Hd x aA s Q):WI P KT An X Hd (.cond q x y) aA s Q:=by intro f S l g i w a e m j d n b p;have c:=iI d o;rw[h] at c;exact dP Y.C Y.T (c.sc I)<|k f S l g i w a e m j d n b p
def xh(Y:Cy P KT N0 M O R D X Hd){q:Operand}(o:wa q=true)(h:aA.at q=.bool false)(k:WI P KT An X Hd y aA s Q):WI P KT An X Hd (.cond q x y) aA s Q:=by intro f S l g i w a e m j d n b p;have c:=iI d o;rw[h] at c;exact dP Y.C Y.T (c.sc I)<|k f S l g i w a e m j d n b p
def zm(m:AS)(f:∀b o,m.get b=some o->s.get b=some o)(z:s.nx<=m.nx)(h:WI P KT An X Hd c aA m Q):WI P KT An X Hd c aA s Q:=by intro r S l t i w a q e v u y j k;exact h r S l t i w a q ⟨λb o d=>e.live b o<|f b o d,λb n o p x A d g=>e.inj b n o p x A (f b o d)<|f n p g,λb o d=>lL (e.lt b o<|f b o d) z,e.an⟩ v u y (λb d=>j b oq) k
def j1(Y : Cy P KT N0 M O R D X Hd)(Bj : ∀ (f : FuncId) (aY : Func), P.funcs[f]? = some aY -> (aY.name == "runtime.NumGoroutine") = false){k : Nat}(ho : ops[k]? = some o){xf : Operand}{args : Array Operand}{ats : Array TypeId}(lx : o.op = .call { callee := .value xf, args, argTypes := ats }){f : FuncId}{aY : Func}{first cap : Array Value}(AV : Array Value)(hx : aA.at xf = .func (.func f) first cap)(hav : first ++ args.map aA.at ++ cap = AV)(hf : P.funcs[f]? = some aY)(hb : aY.body = some c)
 (h:WI P KT An X Hd c (AV.toList++List.replicate (aY.ntmps-AV.toList.length) undef) s (λe a' s1=>(e=.normal\/e=.ret)/\∃v, cN P aY a' s1=some v/\WO P KT An X Hd ops (k+1) (aA.put o.dst v) s1 K))(Ae:jI ops=true:=by kernel_rfl)(hw:Region.wanted o (bK ops aA)=true:=by kernel_rfl):WO P KT An X Hd ops k aA s K:=by
 intro fn S l fr i w a Q' hS hF hA hd oy kx;rw[jT (oa.1 ho).1];have Yi:=AA hA Ae ho;unfold fq at Yi;rw[lx] at Yi;have U8:=Yi xf (by simp[Op.operands, Call.operands]);rw[hx] at U8;have⟨p', q', h1, h2, h3⟩:=U8.fn;have oV:AR (VR S) (args.map aA.at) (args.map a.eval):=Al λx hx=>Yi x (by simp[Op.operands, Call.operands, hx]);have JJ:=(h2.append oV).append h3;rw[hav] at JJ;refine wu Y.C Y.T (Post:=λi' v' w'=>∃S' l' v s1, S.le S'/\gh P KT An S' s1 l'/\Hd i' (l'++fr) w'/\VR S' v v'/\(∀b, s1.nx<=b->S' b=none)/\WO P KT An X Hd ops (k+1) (aA.put o.dst v) s1 K) ho (by rw[gr hA]; exact hw) lx h1 ⟨aY, c, hf, Bj f aY hf, hb, ?_⟩ ?_
 .refine h f S l fr i w _ _ hS hF ?_ I oy ?_
  .have:AV.toList.length=(p'++args.map a.eval++q').size:=by rw[<-JJ.1]; simp
   have he:(AV.toList++List.replicate (aY.ntmps-AV.toList.length) undef).toArray=AV++Array.replicate (aY.ntmps-(p'++args.map a.eval++q').size) undef:=by apply vp.1;rw[this];simp
   rw[he];exact (JJ.append<|AR.replicate (S:=S) (x:=undef) (v:=undef) _ eO)
  .rintro e a1 s1 i' S' l' w' a' ⟨hex, v, hr, hk⟩ yr h3 h4 h5 h6 h7;refine⟨hex, h6, λaL WK=>?_⟩;have B8:=(Y.Z h4).rely h4 WK;have⟨v', hv, Rj⟩:=tQ Y h3 B8 h5 hr;exact⟨v', Rj.1, (Y.Z B8).env.jb ((Y.Z B8).size B8) (dM _) λev rT=>Rj.2 ev<|mem_seen rT, S', l', v, s1, yr, h3, B8, hv, h7, hk⟩
 .rintro i' v' w' ⟨S', l', v, s1, yr, h3, h4, hv, h7, hk⟩;refine hk fn S' l' fr i' w' (a.put o.dst v') Q' h3 h4 (ki (hA.mono yr) hv _) ?_ h7<|λ_ _ _ _ _ _ _ q H=>kx _ _ _ _ _ _ _ q<|λb x h=>H b x<|yr b x h;cases Cf:o.dst<;>exact hd
def zn(Y:Cy P KT N0 M O R D X Hd)(G:∀t, kt t=false->¬KT t){k:Nat}(J:ops[k]?=some o){x y:Operand}{t e:TypeId}(N:o.op=.call { callee:=.builtin .append, args:=#[x, y], argTypes:=#[t, t] })
 {b d n cp cy sz bytes:Nat}{z:Value}{cs:Aq}{fz B:Nat × Nat}{news:Vq}{e':TypeId}(hx:aA.at x=.slice (sq b) n cp)(hy:aA.at y=.slice (sq d) 1 cy)(ht:P.underlying t=some (.slice e))(hi:(P.info? e).map (λi=>(i.zero, i.size, i.bytes))=some (some z, sz, bytes))(hz:z.cells.size=sz)(Q:0<sz)(E:bytes<=1000)(F:kt e=false)(j:s.get b=some (.cells cs e fz))(c:n*sz<=cs.size)(hd:s.get d=some (.cells news.toArray e' B))(I:news.length=sz)(u:news.all Value.oneCell'=true)(C:b≠d)(hn:n<=999999999)
 (k1:WO P KT An X Hd ops (k+1) (aA.put o.dst<|.slice (sq b) (n+1)<|n+1) (s.set b<|some<|.cells (cs.toList.take (n*sz)++news).toArray e (1, 1)) K)
 (k2:WO P KT An X Hd ops (k+1) (aA.put o.dst<|.slice (sq s.nx) (n+1)<|n+1) (s.add<|.cells (cs.toList.take (n*sz)++news).toArray e (1, 1)) K)(L:jI ops=true:=by kernel_rfl)(hw:Region.wanted o (bK ops aA)=true:=by kernel_rfl):WO P KT An X Hd ops k aA s K:=by
 intro fn S l fr i w a Q' hS hF v r p kx;rw[jT (oa.1 J).1];refine EX Y G J (by rw[gr v];exact hw) N (AA v L J) hS hF hx hy ht hi hz Q E F j c hd I u C hn (λb h _=>p b h) ?_ ?_
 .intro U A V Z W c m f g T;refine k1 fn A V fr U Z _ Q' f g (ki (v.mono c) T _) ?_ (λb j=>by rw[m b (.inr j)];exact p b<|by simpa using j)<|λ_ _ _ _ _ _ _ q H=>kx _ _ _ _ _ _ _ q<|λb x h=>H b x<|c b x h;cases Cf:o.dst<;>exact r
 .intro U A V Z W c m f g T;refine k2 fn A V fr U Z _ Q' f g (ki (v.mono c) T _) ?_ (λb j=>by rw[m b (.inr j)];exact p b<|by simp at j;omega)<|λ_ _ _ _ _ _ _ q H=>kx _ _ _ _ _ _ _ q<|λb x h=>H b x<|c b x h;cases Cf:o.dst<;>exact r
def FD(Y:Cy P KT N0 M O R D X Hd){k:Nat}(I:ops[k]?=some o){t:TypeId}{d:TypeDesc}{q:Tmp}{nm off g z e:Nat}{vs:Vq}{xs:Aq}(p:o.op=.load t (.tmp q))(hx:aA.at (.tmp q)=aF nm off)(A:An nm=some (g, z, e))(J:P.underlying t=some d)(n:d.isRow=true)(H:(P.info? t).map (·.size)=some vs.length)(hv:∀S, AR (VR S) xs vs.toArray)(j:∀i l w, Hd i l w->M i w g/\w.rangeAt g off vs)(kk:WO P KT An X Hd ops (k+1) (aA.put o.dst<|.agg xs) s K)(hw:Region.wanted o (bK ops aA)=true:=by kernel_rfl):WO P KT An X Hd ops k aA s K:=by
 intro T S l U i w a L F E y hd B kx;rw[jT (oa.1 I).1];have r:a.eval (.tmp q)=.pointer (some ⟨g, off, none⟩):=by have:=iI (x:=.tmp q) y rfl;rw[hx] at this;have⟨g', z', e', u, v⟩:=this.ptr;rw[F.an _ _ A] at u;cases u;exact v
 refine aM Y.C I (by rw[gr y];exact hw) λb W Kx V=>?_;have c:=(Y.Z E).rely E W;have⟨m, G⟩:=j i _ b c;have h:=run_loadAt_mid b g off t vs d G J n H;have hr:(execOp a.eval o).run P b=.ok (.value<|.agg vs.toArray) b:=by unfold execOp;simp only[p, r, Sem.run_bind, Sem.run_pure, Result.andThen_ok, h]
 have he:(execOp a.eval o).events P b #[]=(Instr.loadAt t<|.pointer<|some ⟨g, off, none⟩).events P b #[]:=by unfold execOp;simp only[p, r, Sem.events_bind, h, Result.evThen_ok, Sem.events_pure]
 rw[hr];refine V _ _ ⟨?_, kk T S l U i b _ L F c (ki y (jZ<|hv S) _) ?_ B kx⟩
 .refine(Y.Z c).env.jb ((Y.Z c).size c) (dM _) λQ f=>?_;have f:=mem_listed f;rw[he] at f;have⟨N, u, v⟩:=gM b g off t vs d G J n H Q f;exact .inl ⟨N, u, by rw[v];exact m⟩
 .cases Cf:o.dst<;>exact hd
end
end
