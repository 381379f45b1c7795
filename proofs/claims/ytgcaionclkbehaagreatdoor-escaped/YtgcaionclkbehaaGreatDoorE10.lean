import Derived.Test.YtgcaionclkbehaaGreatDoorE5
set_option linter.all false
set_option maxHeartbeats 2000000
set_option maxRecDepth 100000
namespace Go.Proofs.YtgcaionclkbehaaGreatDoor
open Go.Conc Go.RowKit Go.Lib
variable {b bt bytes c c' cap cp cy m n off sz:Nat}{lo mx:Option Operand}{hi:Option Value}{e it pt t t' ty u:TypeId}{x y:Operand}{v v' x' z:Value}{news us vs xs OI Zf:Vq}{fz:Nat × Nat}{args cs cur first tmps:Aq}{ad base yy:Option Addr}{f:FuncId}{ops:Array Oper}{o:Oper}{call:FuncId→Aq→AS→Option (Value × AS)}{s s':AS}{α β:Type}
section
variable {P:Program}{S:bC}
theorem pv{sl:Bool}{l h:Nat}{lo:Option Value}(e:bF n c lo hi=some (l,h))(hc:c≤c')(U:n≤c):fT P (Instr.sliceBounds sl n c' lo hi none)=some (l,h,c')∧l≤h∧h≤c:=by
 unfold bF at e;split at e
 ·split at e
  ·cases e; exact⟨by simp[Instr.sliceBounds],Nat.zero_le _,U⟩
  ·next k i =>
   split at e
   ·next hi =>cases e;exact⟨by simp[Instr.sliceBounds,Instr.sliceBound,asIntOf,hi],by omega,U⟩
   ·cases e
  ·cases e
 ·next k i =>
  split at e
  ·next hi =>
   have h1:0≤i∧i≤(c':Int):=by omega
   split at e
   ·cases e; exact⟨by simp[Instr.sliceBounds,Instr.sliceBound,asIntOf,h1],Nat.zero_le _,by omega⟩
   ·next k2 i2 =>
    split at e
    ·next a0 =>
     cases e;have h2:0≤i2∧i2≤((i.toNat:Nat):Int):=by omega
     refine⟨?_,by omega,by omega⟩;simp only[Instr.sliceBounds,Instr.sliceBound,asIntOf,cP,lH,Option.bind_some,if_pos h1,if_pos h2]
    ·cases e
   ·cases e
  ·cases e
 ·cases e
theorem pw{lo:Option Value}{r:Nat × Nat}(e:bF n c lo hi=some r):(∀v,lo=some v→dT v=true)∧(∀v,hi=some v→dT v=true):=by
 unfold bF at e;split at e
 ·split at e
  ·simp
  ·exact⟨fun v h=>by cases h; rfl,by simp⟩
  ·cases e
 ·split at e
  ·split at e
   ·exact⟨by simp,fun v h=>by cases h; rfl⟩
   ·exact⟨fun v h=>by cases h; rfl,fun v h=>by cases h; rfl⟩
   ·cases e
  ·cases e
 ·cases e
end
section
variable {ι:Type}{P:Program}{KT:TypeId→Prop}{An:bC}{N0:ι→Nat}{M:ι→World→Nat→Prop}{O:ι→Nat→Prop}{R:ι→Wq}{D:ι→World→World→Array Event→Prop}{X:ι→Gq}{Hd:ι→Hq→World→Prop}
variable {fn:FuncId}{Q:dK ι}{a:Act}{w:World}{i:ι}{S:bC}{s s':AS}{l fr:Hq}{aA:TL}{v:Value}{ops:Array Oper}{j:Nat}{rest:List Nat}{o:Oper}{kt:TypeId→Bool}
theorem kM(U:∀x,lo=some x→VR S (aA.at x) (a.eval x))(h:∀v,lo.map aA.at=some v→dT v=true):lo.map a.eval=lo.map aA.at:=by
 cases lo with
 | none=>rfl
 | some x=>simp; exact(U x rfl).sc (h _ rfl)
theorem yS{hi:Option Operand}(a3:o.op=.slice t x lo hi mx)(hA:eg S aA a o)(hS:eK P KT An S s l)(h:fP P t (aA.at x) (lo.map aA.at) (hi.map aA.at) (mx.map aA.at) s=some v):∃v',VR S v v'∧fT P (execOp a.eval o)=some (.value v'):=by
 unfold eg at hA;rw[a3] at hA;have hx:=hA x (by simp[Op.operands]);have Ap:∀y,lo=some y→VR S (aA.at y) (a.eval y):=fun y hy=>hA y (by simp[Op.operands,hy]);have Oo:∀y,hi=some y→VR S (aA.at y) (a.eval y):=fun y hy=>hA y (by simp[Op.operands,hy]);have hmx:∀y,mx=some y→VR S (aA.at y) (a.eval y):=fun y hy=>hA y (by simp[Op.operands,hy]);have dZ:∀d,P.underlying t=some d→(∀n e,d≠.array n e)→fT P (execOp a.eval o)=(fT P (Instr.slice t (a.eval x) (lo.map a.eval) (hi.map a.eval) (mx.map a.eval))).map .value:=fun d hu hd=>by simp only[execOp,a3,Instr.sliceAt,cP,dp,hu,Option.bind_some];cases d<;>first|exact absurd rfl (hd _ _)|(cases fT P (Instr.slice t (a.eval x) (lo.map a.eval) (hi.map a.eval) (mx.map a.eval))<;>rfl)
 unfold fP at h;split at h
 ·next e b off n c hu hv hm =>
  rw[hv] at hx;obtain⟨g,z,e',c',h1,h2,h3,h4,h5,h6⟩:=hx.sl;split at h
  ·next sz cs bt fz hs hb =>
   split at h
   ·next he =>
    subst he;split at h
    ·next lw hg U =>
     obtain⟨a1,a2⟩:=pw U;obtain⟨my,iN,PO⟩:=pv (P:=P) (sl:=true) U h4 h3;obtain⟨g',z',e2,o',h7,_,_,h8⟩:=hS.live b _ hb;rw[h1] at h7;cases h7;have U9:e'=sz:=by have:=(h8 cs bt fz rfl).1;rw[hs] at this;cases this;rfl
     subst U9;have a0:mx=none:=by cases mx with
      | none=>rfl
      | some y=>simp at hm
     have hr:=dZ _ hu (by simp);rw[a0,h2,kM Ap a1,kM Oo a2] at hr;simp only[Option.map_none,Instr.slice,cP,dp,hu,Option.bind_some,my,nn,hs,lH,Option.map_some] at hr;split at h
     ·next a8 =>
      cases h;have a6:c'≠lw:=by omega
      rw[if_neg a6,Addr.add_lit] at hr;refine⟨.slice (some ⟨g,off+lw*e',none⟩) (hg-lw) (c'-lw),?_,hr⟩;refine VR.Cg h1 (by omega) (by omega) (by omega) ?_;rw[← h6,Nat.sub_mul];have:lw*e'≤c'*e':=Nat.mul_le_mul_right _ (by omega);omega
     ·split at h
      ·next a5 =>
       cases h;subst a5;have:∃o',(Value.slice (if c'=lw then some (⟨g,off,none⟩:Addr) else some ((⟨g,off,none⟩:Addr).add (lw*e'))) (lw-lw) (c'-lw))=.slice (some ⟨g,o',none⟩) 0 (c'-lw):=by
        split
        ·exact⟨off,by simp⟩
        ·exact⟨off+lw*e',by simp[Addr.add_lit]⟩
       obtain⟨o',a7⟩:=this;rw[a7] at hr;exact⟨_,VR.Ce h1 (by omega) (by omega),hr⟩
      ·cases h
    ·cases h
   ·cases h
  ·cases h
 ·next e b off n c k hu hv hm =>
  rw[hv] at hx;obtain⟨g,z,e',c',h1,h2,h3,h4,h5,h6⟩:=hx.sl;split at h
  ·next sz k2 hs hl hh =>
   cases h;have hr:=dZ _ hu (by simp);rw[h2,kM Ap (by rw[hl]; simp),kM Oo (by rw[hh]; intro v hv; cases hv; rfl),kM hmx (by rw[hm]; intro v hv; cases hv; rfl),hl,hh,hm] at hr;refine⟨.slice (some ⟨g,off,none⟩) 0 0,VR.Ce h1 (by simp) (by simp[maxLen]),?_⟩;rw[hr];have h0:(0:Int)≤0∧(0:Int)≤((c':Nat):Int):=by omega
   have a4:(0:Int)≤0∧(0:Int)≤(((0:Int).toNat:Nat):Int):=by simp
   simp only[Instr.slice,cP,dp,hu,Option.bind_some,Instr.sliceBounds,Instr.sliceBound,asIntOf,lH,if_pos h0,if_pos a4,nn,hs];simp
  ·cases h
 ·next str hu hv hm =>
  rw[hv] at hx;split at h
  ·next lw hg U =>
   cases h;obtain⟨a1,a2⟩:=pw U;obtain⟨my,iN,PO⟩:=pv (P:=P) (sl:=false) U (Nat.le_refl _) (Nat.le_refl _);have a0:mx=none:=by cases mx with
    | none=>rfl
    | some y=>simp at hm
   have hr:=dZ _ hu (by simp);have kH:iB str.data.toList 0=str.size:=by rw[iO,Nat.zero_add,Array.length_toList]; rfl
   rw[kH] at my PO;rw[a0,hx.sc rfl,kM Ap a1,kM Oo a2] at hr;refine⟨_,VR.dr rfl,?_⟩;rw[hr];have he:(⟨((str.data.toList.take hg).drop lw).toArray⟩:ByteArray)=str.extract lw hg:=by apply nj;simp[ByteArray.data_extract,List.drop_take]
   rw[he];simp[Instr.slice,hu,my]
  ·cases h
 ·next e hu hv hm =>
  rw[hv] at hx;split at h
  ·next sz r hs U =>
   cases h;obtain⟨lw,hg⟩:=r;obtain⟨a1,a2⟩:=pw U;obtain⟨my,iN,PO⟩:=pv (P:=P) (sl:=true) U (Nat.le_refl _) (Nat.le_refl _);have a0:mx=none:=by cases mx with
    | none=>rfl
    | some y=>simp at hm
   have hr:=dZ _ hu (by simp);rw[a0,hx.sc rfl,kM Ap a1,kM Oo a2] at hr;refine⟨_,VR.dr rfl,?_⟩;rw[hr];have h0:hg=0:=by omega
   have h1:lw=0:=by omega
   subst h0 h1;simp[Instr.slice,hu,my,hs]
  ·cases h
 ·cases h
theorem GF(Y:Cy P KT N0 M O R D X Hd)(ho:ops[j]?=some o)(hw:Region.wanted o (yielded ops a.tmps)=true){hi:Option Operand}(U:o.op=.slice t x lo hi mx)(hA:eg S aA a o)(hS:eK P KT An S s l)(hF:Hd i (l++fr) w)(h:fP P t (aA.at x) (lo.map aA.at) (hi.map aA.at) (mx.map aA.at) s=some v)
 (k:Out P KT An Hd S s s fr v fun i' v' w'=>bU X fn ops rest i' Q (a.put o.dst v') w'):bU X fn ops (j::rest) i Q a w:=by obtain⟨v',h1,h2⟩:=yS U hA hS h;refine bu Y.C Y.T ho hw fun aB K hK=>?_;rw[(mo h2 aB #[]).1];exact hK _ (k i S l w v' (bC.le_refl S) (fun _ _=>rfl) hS hF h1) (mo h2 aB #[]).2
end
section
variable {ι:Type}{P:Program}{KT:TypeId→Prop}{An:bC}{N0:ι→Nat}{M:ι→World→Nat→Prop}{O:ι→Nat→Prop}{R:ι→Wq}{D:ι→World→World→Array Event→Prop}{X:ι→Gq}{Hd:ι→Hq→World→Prop}
variable {fn:FuncId}{Q:dK ι}{a:Act}{w:World}{i:ι}{S:bC}{s s':AS}{l fr rl:Hq}{aA:TL}{v:Value}{ops:Array Oper}{j:Nat}{rest:List Nat}{o:Oper}{kt:TypeId→Bool}{H:Hq→World→Prop}
theorem jQ(C:aV P true R D X)(Z:Co KT (N0 i) (M i) (O i) (R i) (D i) H)(k:Nat)(ho:ops[j]?=some o)(hw:Region.wanted o (yielded ops a.tmps)=true)(a2:o.op=.call { callee:=.builtin .append,args:=#[x,y],argTypes:=#[t,t] })
 (hx:∀w,(Builtin.append_ #[t,t] o.type #[a.eval x,.slice (some ⟨bt,off,none⟩) m c]).run P w=(Builtin.append_ #[t,t] o.type #[v,.slice (some ⟨bt,off,none⟩) m c]).run P w∧(Builtin.append_ #[t,t] o.type #[a.eval x,.slice (some ⟨bt,off,none⟩) m c]).events P w #[]=(Builtin.append_ #[t,t] o.type #[v,.slice (some ⟨bt,off,none⟩) m c]).events P w #[])(hy:a.eval y=.slice (some ⟨bt,off,none⟩) m c)(he:¬KT e)(ht:P.underlying t=some (.slice e))(hi:(P.info? e).map (fun i=>(i.zero,i.size,i.bytes))=some (some z,sz,bytes))(hz:z.cells.size=sz)(a6:0<sz)(hm:0<m)(hl:news.length=m*sz)(h1:∀u∈news,u.oneCell'=true)(hn:n+m≤maxLen)(a3:(n+m)*bytes≤140737488355328)
 (hF:H (rl++l) w)(hk:l[k]?=some (bt,.cells cur t' fz))(a1:∀j u,news[j]?=some u→cur[off+j]?=some u)(hr:gT e sz v n xs rl)
 (h:∀v' U w',H (U++l) w'→kX e sz v' (n+m) (xs++news) U→bU X fn ops rest i Q (a.put o.dst v') w'):bU X fn ops (j::rest) i Q a w:=by
 refine aD C ho hw fun aB hR K hK=>?_;have ce:=Z.rely hF hR;have pL:(bt,Obj.cells cur t' fz)∈rl++l:=List.mem_append_right _ (List.mem_of_getElem? hk);obtain⟨hmb,hb⟩:=Z.own ce pL;obtain⟨v',w',U,dZ,a0,Dm,hO,_,_,ju,_⟩:=HL.IC (l:=[]) (P:=P) (rl:=rl) Z.env he (by simpa using(Z.hl ce).left.kP) hr t o.type z bytes ht hi hz a6 ⟨bt,off,none⟩ m c hm hl (fun j u hu=>by rw[Addr.add_lit]; simp[World.cell?,hb,a1 j u hu]) hmb h1 hn a3
 ·have a0:HL (M i) (O i) (N0 i) (jO rl) aB U w':=by simpa using a0
  have a5:(execOp a.eval o).run P aB=.ok (.value v') w':=by unfold execOp;simp only[a2,resolve,invoke,builtin,Sem.run_bind,Sem.run_pure,Result.andThen_ok,List.map_toArray,List.map_cons,List.map_nil,hy,(hx aB).1,dZ]
  have a4:(execOp a.eval o).events P aB #[]=(Builtin.append_ #[t,t] o.type #[v,.slice (some ⟨bt,off,none⟩) m c]).events P aB #[]:=by unfold execOp;simp only[a2,resolve,invoke,builtin,Sem.events_bind,Sem.run_pure,Sem.events_pure,Result.evThen_ok,List.map_toArray,List.map_cons,List.map_nil,hy,(hx aB).1,(hx aB).2,dZ]
  rw[a5];refine hK _ _ ⟨Z.env.jr (Z.size ce) hO fun ev hl=>?_,h v' U w' (Z.call ce a0) Dm⟩;have hl:=mem_listed hl;rw[a4] at hl;exact ju ev hl
theorem lW(C:aV P true R D X)(Z:Co KT (N0 i) (M i) (O i) (R i) (D i) H){str:ByteArray}(ho:ops[j]?=some o)(hw:Region.wanted o (yielded ops a.tmps)=true)(a0:o.op=.call { callee:=.builtin .append,args:=#[x,y],argTypes:=#[t,u] })
 (hx:a.eval x=v)(hy:a.eval y=.string str)(he:¬KT e)(ht:P.underlying t=some (.slice e))(hu:P.underlying u=some .string)(hi:(P.info? e).map (fun i=>(i.zero,i.size,i.bytes))=some (some (.int .u8 0),1,1))(hn:n+str.size≤140737488355328)
 (hF:H (rl++l) w)(hr:gT e 1 v n xs rl)
 (h:∀v' U w',H (U++l) w'→gT e 1 v' (n+str.size) (xs++strCells str) U→bU X fn ops rest i Q (a.put o.dst v') w'):bU X fn ops (j::rest) i Q a w:=by
 refine aD C ho hw fun aB hR K hK=>?_;have ce:=Z.rely hF hR;obtain⟨v',w',U,dZ,mw,⟨Dm,_⟩,hO,_,_,ju⟩:=HL.zI (l:=[]) (P:=P) (rl:=rl) Z.env he (by simpa using(Z.hl ce).left.kP) hr t u o.type ht hu hi str hn;have mw:HL (M i) (O i) (N0 i) (jO rl) aB U w':=by simpa using mw
 have a2:(execOp a.eval o).run P aB=.ok (.value v') w':=by unfold execOp;simp only[a0,resolve,invoke,builtin,Sem.run_bind,Sem.run_pure,Result.andThen_ok,List.map_toArray,List.map_cons,List.map_nil,hx,hy,dZ]
 have a1:(execOp a.eval o).events P aB #[]=(Builtin.append_ #[t,u] o.type #[v,.string str]).events P aB #[]:=by unfold execOp;simp only[a0,resolve,invoke,builtin,Sem.events_bind,Sem.run_pure,Sem.events_pure,Result.evThen_ok,List.map_toArray,List.map_cons,List.map_nil,hx,hy,dZ]
 rw[a2];refine hK _ _ ⟨Z.env.jr (Z.size ce) hO fun ev hl=>?_,h v' U w' (Z.call ce mw) Dm⟩;have hl:=mem_listed hl;rw[a1] at hl;exact ju ev hl
theorem eK.erased(U:eK P KT An S s l){g z e k:Nat}{o':Obj}(hg:S b=some (g,z,e))(hb:s.get b≠none)(hk:l[k]?=some (g,o')):eK P KT An S (s.set b none) (l.eraseIdx k) where
 live b' o1 h1:=by
  rw[AS.aK] at h1
  split at h1
  ·
   cases h1
  ·
   next a1 =>
   obtain⟨g',z',e',o3,h2,h3,h4,h5⟩:=U.live b' o1 h1
   refine⟨g',z',e',o3,h2,?_,h4,h5⟩
   obtain⟨ob,a2⟩:=Option.ne_none_iff_exists'.1 hb
   have a0:g'≠g:=fun eq=>a1 (U.inj b' b o1 ob _ _ h1 a2 h2 hg eq)
   have hm:(g',o3)∈(g,o')::l.eraseIdx k:=(kN hk).mem_iff.2 h3
   rcases List.mem_cons.1 hm with q|q
   ·
    cases q; exact absurd rfl a0
   ·
    exact q
 inj m m' o1 o2 x x' h1 h2:=by
  rw[AS.aK] at h1 h2
  split at h1
  ·
   cases h1
  ·
   split at h2
   ·
    cases h2
   ·
    exact U.inj m m' o1 o2 x x' h1 h2
 lt m o1 h1:=by
  rw[AS.aK] at h1
  split at h1
  ·
   cases h1
  ·
   exact U.lt m o1 h1
 an:=U.an
theorem j0(Y:Cy P KT N0 M O R D X Hd)(hS:eK P KT An S s l){a3:Hq}(a7:0<n)(a8:0<sz)(hF:Hd i (a3++(l++fr)) w)(hr:gT e sz v' n Zf a3)(a0:S s.nx=none)(a4:bI P e=some sz)(a6:¬KT e)(U:OI.length=n*sz)
 (a2:∀(m:Nat) (x y:Value),OI[m]?=some x→Zf[m]?=some y→VR S x y):∃S' l',S.le S'∧(∀b,b<s.nx∨s.nx+1≤b→S' b=S b)∧eK P KT An S' (s.add (.cells OI.toArray e (1,1))) l'∧Hd i (l'++fr) w∧VR S' (.slice (sq s.nx) n n) v':=by
 rcases hr.2 with ⟨_,h0,_⟩|⟨g,cap,cur,rfl,rfl,h1,h2,h3,h4⟩
 ·omega
 have a1:Hd i ((g,Obj.cells cur e)::l++fr) w:=hF;have BQ:OR (S.put s.nx (g,cur.size,sz)) cur.size (.cells OI.toArray e (1,1)) (.cells cur e):=by
  refine⟨cur,rfl,rfl,⟨?_,fun a5=>by cases a5⟩,fun m x y hx hy=>?_⟩
  ·simp; rw[U,h3]; exact Nat.mul_le_mul_right _ h1
  ·have hm:m<n*sz:=by rw[← U]; have:=(Array.getElem?_eq_some_iff.1 hx).1; simpa using this
   refine(a2 m x y (by simpa using hx) ?_).mono (bC.jP a0);rw[← h4,List.getElem?_take,if_pos hm];simpa using hy
 refine⟨S.put s.nx (g,cur.size,sz),_,bC.jP a0,fun b hb=>?_,hS.grown a0 (Y.fresh a1) BQ fun cs t fz hc=>?_,a1,VR.Cg bC.iv (Nat.le_refl _) h1 h2 (by rw[h3]; omega)⟩
 ·unfold bC.put;rw[if_neg (by omega)]
 ·cases hc;exact⟨a4,a6⟩
theorem zO(hS:eK P KT An S s l){ad:Addr}(hv:VR S (.slice (some ad) n c) v')(h:dQ s sz (some ad) n=some xs)(hn:0<n) :
  ∃(g c' k:Nat) (U:Aq) (t:TypeId),v'=.slice (some ⟨g,ad.off,none⟩) n c'∧l[k]?=some (g,.cells U t)∧xs.length=n*sz∧ad.off+n*sz≤U.size∧∀(m:Nat) (x y:Value),xs[m]?=some x→((U.toList.drop ad.off).take (n*sz))[m]?=some y→VR S x y:=by
 obtain⟨g,z,e,o',c',h1,rfl,h3,h4,h5⟩:=hv.jR;have h5:o'=ad.off:=by omega
 subst h5;obtain⟨b,off,sp⟩:=ad;unfold dQ at h;simp only at h;split at h
 ·next cs t fz hb =>
  split at h
  ·next a1 =>
   cases h;obtain⟨kk,ob,hk,a2,_,a0,_⟩:=hS.at (fr:=[]) hb h1;obtain⟨U,rfl,hz,⟨Vu,_⟩,gr⟩:=a0;refine⟨g,c',kk,U,t,rfl,hk,by simp; omega,by simp only at *; omega,fun m x y hx hy=>?_⟩;rw[List.getElem?_take] at hx hy;split at hx
   ·next hm =>rw[if_pos hm] at hy;rw[List.getElem?_drop] at hx hy;exact gr _ x y (by simpa using hx) (by simpa using hy)
   ·cases hx
  ·cases h
 ·cases h
theorem yL(hS:eK P KT An S s l)(hv:VR S (.slice (sq b) n c) v')(hb:s.get b=some (.cells cs t fz))(ht:t=e)(a0:bI P e=some sz)(hn:n*sz≤cs.size) :
  ∃(g z e' k:Nat) (U:Aq),S b=some (g,z,e')∧l[k]?=some (g,.cells U e)∧gT e sz v' n (U.toList.take (n*sz)) [(g,.cells U e)]∧∀(m:Nat) (x y:Value),(cs.toList.take (n*sz))[m]?=some x→(U.toList.take (n*sz))[m]?=some y→VR S x y:=by
 subst ht;obtain⟨g,z,e',c',h1,rfl,h3,h4,h5,h6⟩:=hv.sl;obtain⟨kk,ob,hk,eH,_,BQ,MP⟩:=hS.at (fr:=[]) hb h1;obtain⟨U,rfl,hz,⟨Vu,_⟩,gr⟩:=BQ;have U9:e'=sz:=by have:=(MP cs t fz rfl).1;rw[a0] at this;cases this;rfl
 subst U9;refine⟨g,z,e',kk,U,h1,hk,⟨by simp; omega,.inr ⟨g,c',U,rfl,rfl,by omega,h5,by omega,rfl⟩⟩,fun m x y hx hy=>?_⟩;rw[List.getElem?_take] at hx hy;split at hx
 ·next hm =>rw[if_pos hm] at hy;exact gr m x y (by simpa using hx) (by simpa using hy)
 ·cases hx
theorem Bv{ys:Vq}(h1:xs.length=ys.length)(hx:∀(m:Nat) (x y:Value),xs[m]?=some x→ys[m]?=some y→VR S x y)(hu:∀(m:Nat) (x y:Value),us[m]?=some x→vs[m]?=some y→VR S x y):∀(m:Nat) (x y:Value),(xs++us)[m]?=some x→(ys++vs)[m]?=some y→VR S x y:=by
 intro m x y h U;rw[List.getElem?_append] at h U;rw[← h1] at U;split at h
 ·rw[if_pos (by assumption)] at U;exact hx m x y h U
 ·rw[if_neg (by assumption)] at U;exact hu _ x y h U
theorem JP{ys:Vq}(h1:xs.length=ys.length)(hx:∀(m:Nat) (x y:Value),xs[m]?=some x→ys[m]?=some y→VR S x y)(h:xs.all Value.oneCell'=true):∀u∈ys,u.oneCell'=true:=by
 intro u U;obtain⟨m,hm⟩:=List.mem_iff_getElem?.1 U;have hl:=(List.getElem?_eq_some_iff.1 hm).1;have hl':m<xs.length:=by omega
 rw[(hx m _ u (List.getElem?_eq_getElem hl') hm).Ci];rw[List.all_eq_true] at h;exact h _ (List.getElem_mem _)
theorem w5(ht:P.underlying t=some (.slice e))(hs:bI P e=some sz)(U:n≤cap):fT P (Builtin.append_ #[t,t] ty #[.slice base n cap,.slice ad 0 c])=some (.slice base n cap):=by unfold Builtin.append_;cases base<;>cases ad<;>simp[ht,hs,Builtin.lenOf,Builtin.firstCells,loadCells,loadCellsFrom,storeCells,U]
theorem u6{str:ByteArray}(ht:P.underlying t=some (.slice e))(hu:P.underlying u=some .string)(hs:bI P e=some sz)(hn:n≤cap)(U:str.size=0):fT P (Builtin.append_ #[t,u] ty #[.slice base n cap,.string str])=some (.slice base n cap):=by
 have h1:(str.extract 0 0).data.map (fun b=>Value.int .u8 b.toNat)=#[]:=by apply Array.toList_inj.1;simp[ByteArray.data_extract]
 unfold Builtin.append_;cases base<;>simp[ht,hu,hs,Builtin.lenOf,Builtin.firstCells,storeCells,hn,U,h1]
theorem wZ{p q:Addr}(ht:P.underlying t=some (.slice e))(hi:(P.info? e).map (fun i=>(i.zero,i.size,i.bytes))=some (some z,sz,bytes))(hm:0<m)(hb:m*bytes≤140737488355328)(w:World) :
  (Builtin.append_ #[t,t] ty #[.slice (some p) 0 0,.slice (some q) m c]).run P w=(Builtin.append_ #[t,t] ty #[.slice none 0 0,.slice (some q) m c]).run P w ∧
  (Builtin.append_ #[t,t] ty #[.slice (some p) 0 0,.slice (some q) m c]).events P w #[]=(Builtin.append_ #[t,t] ty #[.slice none 0 0,.slice (some q) m c]).events P w #[]:=by
 obtain⟨i0,hi,h1,h2,h3⟩:=info_parts hi;have hc:¬Builtin.nextslicecap m 0*bytes>2 ^ 48:=by
  have:Builtin.nextslicecap m 0=m:=by simp[Builtin.nextslicecap,hm]
  rw[this];omega
 have U:¬m≤0:=by omega
 have a0:m≠0:=by omega
 unfold Builtin.append_;constructor;iterate 2
  ·simp[run_underlying ht,sizeOf,typeInfo,hi,h1,h2,h3,Builtin.lenOf,Builtin.firstCells,loadCells,loadCellsFrom,U,a0,hc]
end
section
variable {ι:Type}{P:Program}{KT:TypeId→Prop}{An:bC}{N0:ι→Nat}{M:ι→World→Nat→Prop}{O:ι→Nat→Prop}{R:ι→Wq}{D:ι→World→World→Array Event→Prop}{X:ι→Gq}{Hd:ι→Hq→World→Prop}
variable {fn:FuncId}{Q:dK ι}{a:Act}{w:World}{i:ι}{S:bC}{s s':AS}{l fr rl:Hq}{aA:TL}{v:Value}{ops:Array Oper}{j:Nat}{rest:List Nat}{o:Oper}{kt:TypeId→Bool}
theorem vX(Y:Cy P KT N0 M O R D X Hd)(ho:ops[j]?=some o)(hw:Region.wanted o (yielded ops a.tmps)=true)(hS:eK P KT An S s l)(U:Hd i (l++fr) w)(h:fT P (execOp a.eval o)=some (.value v'))(hv:VR S v v')
 (k:Out P KT An Hd S s s fr v fun i' v' w'=>bU X fn ops rest i' Q (a.put o.dst v') w'):bU X fn ops (j::rest) i Q a w:=by refine bu Y.C Y.T ho hw fun aB K hK=>?_;rw[(mo h aB #[]).1];exact hK _ (k i S l w v' (bC.le_refl S) (fun _ _=>rfl) hS U hv) (mo h aB #[]).2
theorem ql{c:Call}{b:Builtin}{r:Value}(a1:o.op=.call c)(a0:c.callee=.builtin b)(U:c.args=#[x,y])(a2:c.argTypes=#[t,u])
 (h:fT P (match b with|.append=>Builtin.append_ #[t,u] o.type #[a.eval x,a.eval y]|_=>Builtin.unsafeString_ #[t,u] o.type #[a.eval x,a.eval y])=some r)(hb:b=.append∨b=.unsafeString):fT P (execOp a.eval o)=some (.value r):=by
 rcases hb with rfl|rfl
 iterate 2
  ·simp only at h;simp[execOp,a1,resolve,a0,invoke,builtin,U,a2,h]
theorem DO(Y:Cy P KT N0 M O R D X Hd)(a8:∀t,kt t=false→¬KT t)(ho:ops[j]?=some o)(hw:Region.wanted o (yielded ops a.tmps)=true)(ae:o.op=.call { callee:=.builtin .append,args:=#[x,y],argTypes:=#[t,t] })(hA:eg S aA a o)(hS:eK P KT An S s l)(hF:Hd i (l++fr) w)
 (b6:aA.at y=.slice yy m cy)(ht:P.underlying t=some (.slice e))(hi:(P.info? e).map (fun i=>(i.zero,i.size,i.bytes))=some (some z,sz,bytes))(a6:dQ s sz yy m=some news)(hz:z.cells.size=sz)(a9:0<sz)(ax:bytes≤1000)(b5:m≤1000000000)(a7:kt e=false)(aq:dx (aA.at x) yy=true)(av:news.all Value.oneCell'=true)
 (h:aZ P e (aA.at x) news m s=some (v,s'))(ai:∀b,s.nx≤b→b<s'.nx→S b=none)
 (k:Out P KT An Hd S s s' fr v fun i' v' w'=>bU X fn ops rest i' Q (a.put o.dst v') w'):bU X fn ops (j::rest) i Q a w:=by
 unfold eg at hA;rw[ae] at hA;have hx:=hA x (by simp[Op.operands,Call.operands]);have hy:=hA y (by simp[Op.operands,Call.operands]);rw[b6] at hy;obtain⟨i0,Oq,Z9,Ur,Mg⟩:=info_parts hi;have Eu:bI P e=some sz:=by simp[bI,Oq,Ur]
 have a3:∀n,n≤1000000000→n*bytes≤140737488355328:=fun n hn=>Nat.le_trans (Nat.mul_le_mul hn ax) (by omega);by_cases Ez:m=0
 ·
  subst Ez;have U:∃ad c,a.eval y=.slice ad 0 c:=by
   cases yy with
   | none=>rw[hy.sc rfl]; exact⟨_,_,rfl⟩
   | some ad=>obtain⟨g,z,e,o',c',_,h2,_⟩:=hy.jR; exact⟨_,_,h2⟩
  obtain⟨ad,c,U⟩:=U;have key:∀base n cap,a.eval x=.slice base n cap→n≤cap→fT P (execOp a.eval o)=some (.value (a.eval x)):=fun base n cap he hn =>ql ae rfl rfl rfl (by simp only; rw[he,U]; exact w5 ht Eu hn) (.inl rfl);unfold aZ at h;split at h
  ·next hv =>simp only[if_true] at h;cases h;rw[hv] at hx;have aj:=hx.sc rfl;exact vX Y ho hw hS hF (key _ _ _ aj (Nat.le_refl _)) (by rw[hv]; exact hx) k
  ·next b n cp hv =>simp only[if_true] at h;cases h;rw[hv] at hx;obtain⟨g,z',e',c',h1,h2,h3,h4,_⟩:=hx.sl;exact vX Y ho hw hS hF (key _ _ _ h2 (by omega)) (by rw[hv]; exact hx) k
  ·simp at h
  ·cases h
 ·have a1:0<m:=by omega
  obtain⟨ad,rfl⟩:∃ad,yy=some ad:=by
   cases yy with
   | none=>simp[dQ,Ez] at a6
   | some ad=>exact⟨ad,rfl⟩
  obtain⟨gy,b8,ky,a0,ty,U,aa,a4,b9,a5⟩:=zO hS hy a6 a1;have Td:((a0.toList.drop ad.off).take (m*sz)).length=m*sz:=by simp; omega
  have a2:=JP (by rw[a4,Td]) a5 av;have Ar:∀(q:Nat) (u:Value),((a0.toList.drop ad.off).take (m*sz))[q]?=some u→a0[ad.off+q]?=some u:=fun q u hu=>by
   rw[List.getElem?_take] at hu;split at hu
   ·rw[List.getElem?_drop] at hu; simpa using hu
   ·cases hu
  unfold aZ at h;split at h
  ·next hv =>
   rw[if_neg Ez] at h;cases h;rw[hv] at hx;have aj:=hx.sc rfl;have Dh:(l++fr)[ky]?=some (gy,.cells a0 ty):=by rw[List.getElem?_append_left (List.getElem?_eq_some_iff.1 aa).1]; exact aa
   refine jQ Y.C (Y.Z hF) (rl:=[]) (l:=l++fr) (xs:=[]) (n:=0) ky ho hw ae (fun w=>by rw[aj]; exact⟨rfl,rfl⟩) U (a8 e a7) ht hi hz a9 a1 Td a2 (by simp[maxLen]; omega) (a3 _ (by omega)) (by simpa using hF) Dh Ar (kX.nil e sz).zero fun v' Tp w' mw Dm=>?_;obtain⟨S',l',h1,h2,h3,h4,h5⟩:=j0 Y hS a1 a9 mw (by simpa using Dm.zero) (ai _ (Nat.le_refl _) (by simp)) Eu (a8 e a7) a4 a5;exact k i S' l' w' v' h1 h2 h3 h4 h5
  ·next b n cp hv =>
   rw[if_neg Ez] at h;split at h
   ·next cs t' fz ba hb aw =>
    rw[Eu] at aw;cases aw;split at h
    ·next hc =>
     obtain⟨ay,az,b1⟩:=hc;cases h;rw[hv] at hx;obtain⟨g,zz,e',kx,ag,h1,K7,ot,Ge⟩:=yL (l:=l) hS hx hb ay Eu az;have b3:gy≠g:=by
      rintro rfl;obtain⟨b2,off2,sp2⟩:=ad;have ak:∃z2 e2,S b2=some (gy,z2,e2):=by obtain⟨g2,z2,e2,o2,c2,q1,q2,_⟩:=hy.jR;rw[U] at q2;cases q2;exact⟨z2,e2,q1⟩
      obtain⟨z2,e2,ak⟩:=ak;have ah:∃al,s.get b2=some al:=by
       unfold dQ at a6;simp only at a6;split at a6
       ·next q _ _ hq=>exact⟨_,hq⟩
       ·cases a6
      obtain⟨al,ah⟩:=ah
      have:=hS.inj b2 b al _ _ _ ah hb ak h1 rfl;rw[hv] at aq;simp[dx,this] at aq
     have af:=(List.getElem?_eq_some_iff.1 K7).1;have Vp:(l++fr)[kx]?=some (g,.cells ag e):=by rw[List.getElem?_append_left af]; exact K7
     have ao:=(Y.Z hF).front hF kx Vp;rw[List.eraseIdx_append_of_lt_length af] at ao;have pL:(gy,Obj.cells a0 ty)∈l.eraseIdx kx++fr:=by
      refine List.mem_append_left _ ?_;have b4:(gy,Obj.cells a0 ty)∈(g,Obj.cells ag e)::l.eraseIdx kx:=(kN K7).mem_iff.2 (List.mem_of_getElem? aa);rcases List.mem_cons.1 b4 with q|q
      ·cases q; exact absurd rfl b3
      ·exact q
     obtain⟨b7,ar⟩:=List.mem_iff_getElem?.1 pL;refine jQ Y.C (Y.Z hF) (rl:=[(g,.cells ag e)]) (l:=l.eraseIdx kx++fr) b7 ho hw ae (fun w=>⟨rfl,rfl⟩) U (a8 e a7) ht hi hz a9 a1 Td a2 (by simp[maxLen]; omega) (a3 _ b1) ao ar Ar ot fun v' Tp w' mw Dm=>?_;have zi:=hS.erased h1 (by rw[hb]; simp) K7;have MC:(cs.toList.take (n*sz)).length=n*sz:=by simp; omega
     have au:=ot.1;obtain⟨S',l',q1,q2,q3,q4,q5⟩:=j0 Y zi (by omega) a9 mw Dm.zero (ai _ (Nat.le_refl _) (by simp)) Eu (a8 e a7) (OI:=cs.toList.take (n*sz)++news) (by rw[List.length_append,MC,a4,Nat.add_mul]) (Bv (by rw[MC,au]) Ge a5);exact k i S' l' w' v' q1 q2 q3 q4 q5
    ·cases h
   ·cases h
  ·next hv =>
   rw[if_neg Ez] at h;cases h;rw[hv] at hx;obtain⟨g,zz,e',o',c',h1,h2,h3,h4,h5⟩:=hx.Kj;have wH:=h4 rfl;subst wH;have Dh:(l++fr)[ky]?=some (gy,.cells a0 ty):=by rw[List.getElem?_append_left (List.getElem?_eq_some_iff.1 aa).1]; exact aa
   refine jQ Y.C (Y.Z hF) (rl:=[]) (l:=l++fr) (xs:=[]) (n:=0) (v:=.slice none 0 0) ky ho hw ae (fun w=>by rw[h2]; exact wZ ht hi a1 (a3 _ b5) w) U (a8 e a7) ht hi hz a9 a1 Td a2 (by simp[maxLen]; omega) (a3 _ (by omega)) (by simpa using hF) Dh Ar (kX.nil e sz).zero fun v' Tp w' mw Dm=>?_;obtain⟨S',l',q1,q2,q3,q4,q5⟩:=j0 Y hS a1 a9 mw (by simpa using Dm.zero) (ai _ (Nat.le_refl _) (by simp)) Eu (a8 e a7) a4 a5;exact k i S' l' w' v' q1 q2 q3 q4 q5
  ·cases h
theorem kU(str:ByteArray):∀(m:Nat) (x y:Value),(strCells str)[m]?=some x→(strCells str)[m]?=some y→VR S x y:=fun m x y U hy=>by rw[U] at hy;cases hy;unfold strCells at U;rw[List.getElem?_map,Option.map_eq_some_iff] at U;obtain⟨b,_,rfl⟩:=U;exact VR.dr rfl
theorem AQ(Y:Cy P KT N0 M O R D X Hd)(a1:∀t,kt t=false→¬KT t)(ho:ops[j]?=some o)(hw:Region.wanted o (yielded ops a.tmps)=true)(a3:o.op=.call { callee:=.builtin .append,args:=#[x,y],argTypes:=#[t,u] })(hA:eg S aA a o)(hS:eK P KT An S s l)(hF:Hd i (l++fr) w)
 {str:ByteArray}(ag:aA.at y=.string str)(ht:P.underlying t=some (.slice e))(hu:P.underlying u=some .string)(hi:(P.info? e).map (fun i=>(i.zero,i.size,i.bytes))=some (some (.int .u8 0),1,1))(ai:str.size≤1000000000)(a0:kt e=false)(a8:fG (aA.at x)=true)
 (h:aZ P e (aA.at x) (strCells str) str.size s=some (v,s'))(a6:∀b,s.nx≤b→b<s'.nx→S b=none)
 (k:Out P KT An Hd S s s' fr v fun i' v' w'=>bU X fn ops rest i' Q (a.put o.dst v') w'):bU X fn ops (j::rest) i Q a w:=by
 unfold eg at hA;rw[a3] at hA;have hx:=hA x (by simp[Op.operands,Call.operands]);have hy:=hA y (by simp[Op.operands,Call.operands]);rw[ag] at hy;have qK:=hy.sc rfl;obtain⟨i0,Oq,Z9,Ur,Mg⟩:=info_parts hi;have Eu:bI P e=some 1:=by simp[bI,Oq,Ur]
 have a4:(strCells str).length=str.size*1:=by rw[strCells_length,Nat.mul_one]
 by_cases a2:str.size=0
 ·have key:∀base n cap,a.eval x=.slice base n cap→n≤cap→fT P (execOp a.eval o)=some (.value (a.eval x)):=fun base n cap he hn =>ql a3 rfl rfl rfl (by simp only; rw[he,qK]; exact u6 ht hu Eu hn a2) (.inl rfl);rw[a2] at h;unfold aZ at h;split at h
  ·next U =>simp only[if_true] at h;cases h;rw[U] at hx;have jB:=hx.sc rfl;exact vX Y ho hw hS hF (key _ _ _ jB (Nat.le_refl _)) (by rw[U]; exact hx) k
  ·next b n cp U =>simp only[if_true] at h;cases h;rw[U] at hx;obtain⟨g,z',e',c',h1,h2,h3,h4,_⟩:=hx.sl;exact vX Y ho hw hS hF (key _ _ _ h2 (by omega)) (by rw[U]; exact hx) k
  ·simp at h
  ·cases h
 ·have af:0<str.size:=by omega
  unfold aZ at h;split at h
  ·next U =>rw[if_neg a2] at h;cases h;rw[U] at hx;have jB:=hx.sc rfl;refine lW Y.C (Y.Z hF) (rl:=[]) (l:=l++fr) (xs:=[]) (n:=0) ho hw a3 jB qK (a1 e a0) ht hu hi (by omega) (by simpa using hF) (kX.nil e 1).zero fun v' Tp w' mw Dm=>?_;obtain⟨S',l',h1,h2,h3,h4,h5⟩:=j0 Y hS af (by omega) mw (by simpa using Dm) (a6 _ (Nat.le_refl _) (by simp)) Eu (a1 e a0) a4 (kU str);exact k i S' l' w' v' h1 h2 h3 h4 h5
  ·next b n cp U =>
   rw[if_neg a2] at h;split at h
   ·next cs t' fz aj hb a9 =>
    rw[Eu] at a9;cases a9;split at h
    ·next hc =>
     obtain⟨aa,ae,ah⟩:=hc;cases h;rw[U] at hx;obtain⟨g,zz,e',kx,XV,h1,K7,ot,Ge⟩:=yL (l:=l) hS hx hb aa Eu ae;have Qj:=(List.getElem?_eq_some_iff.1 K7).1;have Vp:(l++fr)[kx]?=some (g,.cells XV e):=by rw[List.getElem?_append_left Qj]; exact K7
     have a5:=(Y.Z hF).front hF kx Vp;rw[List.eraseIdx_append_of_lt_length Qj] at a5;refine lW Y.C (Y.Z hF) (rl:=[(g,.cells XV e)]) (l:=l.eraseIdx kx++fr) ho hw a3 rfl qK (a1 e a0) ht hu hi (by omega) a5 ot fun v' Tp w' mw Dm=>?_;have zi:=hS.erased h1 (by rw[hb]; simp) K7;have MC:(cs.toList.take (n*1)).length=n*1:=by simp; omega
     have a7:=ot.1;obtain⟨S',l',q1,q2,q3,q4,q5⟩:=j0 Y zi (by omega) (by omega) mw Dm (a6 _ (Nat.le_refl _) (by simp)) Eu (a1 e a0) (OI:=cs.toList.take (n*1)++strCells str) (by rw[List.length_append,MC,a4,Nat.add_mul]) (Bv (by rw[MC,a7]) Ge (kU str));exact k i S' l' w' v' q1 q2 q3 q4 q5
    ·cases h
   ·cases h
  ·next U =>rw[U] at a8;simp[fG] at a8
  ·cases h
theorem jL:∀{l:Vq} {U:Bq},jy l=some U→l=U.map fun b=>Value.int .u8 b.toNat
 | [],U,h=>by simp[jy] at h; subst h; rfl
 | x::l,U,h=>by
  unfold jy at h;split at h
  ·next e=>cases e
  ·next y r e =>
   cases e;split at h
   ·next hr =>
    split at h
    ·next a0 hb =>
     cases h;rw[jL hb];simp only[List.map_cons];congr 2;have:(y.toNat.toUInt8).toNat=y.toNat:=by rw[Nat.toUInt8,UInt8.toNat_ofNat'];omega
     rw[this];omega
    ·cases h
   ·cases h
  ·cases h
theorem JX(Y:Cy P KT N0 M O R D X Hd)(ho:ops[j]?=some o)(hw:Region.wanted o (yielded ops a.tmps)=true)(a2:o.op=.call { callee:=.builtin .unsafeString,args:=#[x,y],argTypes:=#[pt,it] })(hA:eg S aA a o)(hS:eK P KT An S s l)(hF:Hd i (l++fr) w)
 {n:Int}{U:Bq}(hx:aA.at x=.pointer (sq b))(hy:aA.at y=.int .i64 n)(hp:P.underlying pt=some (.pointer e))(hb:s.get b=some (.cells cs t fz))(a5:P.cellsOf e=1)(af:t=e)(ah:0<n)(ai:n≤1000000000)(aj:n.toNat≤cs.size)(a4:jy (cs.toList.take n.toNat)=some U)
 (k:Out P KT An Hd S s (s.set b none) fr (.string ⟨U.toArray⟩) fun i' v' w'=>bU X fn ops rest i' Q (a.put o.dst v') w'):bU X fn ops (j::rest) i Q a w:=by
 subst af;unfold eg at hA;rw[a2] at hA;have a8:=hA x (by simp[Op.operands,Call.operands]);have qK:=hA y (by simp[Op.operands,Call.operands]);rw[hx] at a8;rw[hy] at qK;have qK:=qK.sc rfl;obtain⟨g,z,e',h1,h2⟩:=a8.ptr;obtain⟨kk,o',hk,eH,kG,BQ,MP⟩:=hS.at (fr:=fr) hb h1;obtain⟨a1,rfl,hz,⟨wJ,hex⟩,gr⟩:=BQ;have hbl:U.length=n.toNat:=by have:=congrArg List.length (jL a4);simp at this;omega
 have a6:U≠[]:=by rintro rfl;simp at hbl;omega
 have a9:a.eval y=.int .i64 (U.length:Int):=by rw[qK]; congr 1; omega
 have Z:=Y.Z hF;refine aD Y.C ho hw fun aB hR K hK=>?_;have ce:=Z.rely hF hR;obtain⟨hm,hg⟩:=Z.own ce (List.mem_of_getElem? kG);have rV:aB.shape? g=some (t,a1.size):=by simp[World.shape?,hg]
 have a0:∀j x,U[j]?=some x→aB.cell? ((⟨g,0,none⟩:Addr).add j)=some (.int .u8 x.toNat):=fun q b1 hq=>by
  rw[Addr.add_lit];have ag:q<U.length:=(List.getElem?_eq_some_iff.1 hq).1;have hcq:cs[q]?=some (.int .u8 b1.toNat):=by
   have:(cs.toList.take n.toNat)[q]?=some (.int .u8 b1.toNat):=by rw[jL a4]; simp[hq]
   rw[List.getElem?_take,if_pos (by omega)] at this;simpa using this
  have a7:q<a1.size:=by omega
  have:=(gr q _ _ hcq (Array.getElem?_eq_getElem a7)).sc rfl;simp[World.cell?,hg,this,a7]
 have hO:Own KT (M i) aB (aB.freeze ⟨g,0,none⟩ U.length):=Own.freeze hg hm (MP cs t fz rfl).2 _;have dZ:=Lib.run_unsafeString_row (P:=P) aB pt it o.type t hp a5 g a1.size rV U a6 (by omega) (by omega) a0;have ju:=jX (P:=P) aB pt it o.type t hp a5 g a1.size rV U a6 (by omega) (by omega) a0;have MK:(execOp a.eval o).run P aB=.ok (.value (.string ⟨U.toArray⟩)) (aB.freeze ⟨g,0,none⟩ U.length):=by unfold execOp;simp only[a2,resolve,invoke,builtin,Sem.run_bind,Sem.run_pure,Result.andThen_ok,List.map_toArray,List.map_cons,List.map_nil,h2,a9,dZ]
 have ae:(execOp a.eval o).events P aB #[]=(Builtin.unsafeString_ #[pt,it] o.type #[.pointer (sq g),.int .i64 U.length]).events P aB #[]:=by unfold execOp;simp only[a2,resolve,invoke,builtin,Sem.events_bind,Sem.run_pure,Sem.events_pure,Result.evThen_ok,List.map_toArray,List.map_cons,List.map_nil,h2,a9,dZ]
 rw[MK];have a3:=Z.front ce kk kG;rw[List.eraseIdx_append_of_lt_length eH] at a3;have Di:=Z.env.lt hm;obtain⟨ob,hob⟩:∃ob,(aB.freeze ⟨g,0,none⟩ U.length).heap[g]?=some ob:=by have F8:g<(aB.freeze ⟨g,0,none⟩ U.length).heap.size:=Nat.lt_of_lt_of_le Di hO.grow;exact⟨_,Array.getElem?_eq_getElem F8⟩
 have aa:=Z.drop (Z.turn a3 hO hob fun q hq=>pJ _ hq);refine hK _ _ ⟨?_,k i S _ _ _ (bC.le_refl S) (fun _ _=>rfl) (hS.erased h1 (by rw[hb]; simp) hk) aa (VR.dr rfl)⟩;refine Z.env.jr (Z.size ce) hO fun ev hl=>?_;have hl:=mem_listed hl;rw[ae] at hl;obtain⟨ad,q1,q2⟩:=ju ev hl;exact .inl ⟨ad,q1,by rw[q2]; exact Z.env.mine hO hm⟩
theorem JR(Y:Cy P KT N0 M O R D X Hd)(ho:ops[j]?=some o)(hw:Region.wanted o (yielded ops a.tmps)=true)(a2:o.op=.call { callee:=.builtin .copy,args:=#[x,y],argTypes:=#[t,u] })(hA:eg S aA a o)(hS:eK P KT An S s l)(hF:Hd i (l++fr) w)
 {str:ByteArray}{bt:TypeId}(hx:aA.at x=.slice (some ⟨b,off,none⟩) n cp)(hy:aA.at y=.string str)(ht:P.underlying t=some (.slice e))(hb:s.get b=some (.cells cs bt fz))(a4:bI P e=some 1)(hn:str.size=n)(a9:off+n≤cs.size)
 (k:Out P KT An Hd S s (s.set b (some (.cells (putAt cs off (strCells str)) bt fz))) fr (goInt (iB str.data.toList 0)) fun i' v' w'=>bU X fn ops rest i' Q (a.put o.dst v') w'):bU X fn ops (j::rest) i Q a w:=by
 unfold eg at hA;rw[a2] at hA;have a7:=hA x (by simp[Op.operands,Call.operands]);have qK:=hA y (by simp[Op.operands,Call.operands]);rw[hx] at a7;rw[hy] at qK;have qK:=qK.sc rfl;obtain⟨g,z,e',c',h1,h2,h3,h4,h5,h6⟩:=a7.sl;obtain⟨kk,o',hk,eH,kG,BQ,a6⟩:=hS.at (fr:=fr) hb h1;obtain⟨U,rfl,hz,⟨wJ,hex⟩,gr⟩:=BQ;have Z:=Y.Z hF;refine aD Y.C ho hw fun aB hR K hK=>?_;have ce:=Z.rely hF hR;obtain⟨hm,hg⟩:=Z.own ce (List.mem_of_getElem? kG);have QF:(strCells str).length=str.size:=strCells_length str;have dZ:=run_copy_row_string (P:=P) aB t u o.type e g off n c' str U bt ht a4 hg (by omega) (by omega);have dZ:(Builtin.copy_ #[t,u] o.type #[.slice (some ⟨g,off,none⟩) n c',.string str]).run P aB=.ok (goInt str.size) (aB.setRow g (putAt U off (strCells str))):=by rw[dZ];unfold putAt;rw[QF];rfl
 have a0:∀ev∈(Builtin.copy_ #[t,u] o.type #[.slice (some ⟨g,off,none⟩) n c',.string str]).events P aB #[],∃ad:Addr,ev.loc=.cell ad∧ad.block=g:=by
  intro ev a0;have a8:=events_storeCells_at (P:=P) g off bt (strCells str) 0 U aB #[] hg (by omega) (strCells_oneCell str);cases hq:P.info? e with
  | none=>simp[bI,hq] at a4
  | some it =>
   have a5:Nat.min str.size n=str.size:=by rw[hn]; exact Nat.min_self n
   have aa:((str.extract 0 str.size).data.map fun b=>Value.int .u8 b.toNat).toList=strCells str:=by simp[strCells,ByteArray.data_extract]
   have a1:(Builtin.copy_ #[t,u] o.type #[.slice (some ⟨g,off,none⟩) n c',.string str]).events P aB #[]=(storeCells ⟨g,off,none⟩ (strCells str)).events P aB #[]:=by simp[Builtin.copy_,run_underlying ht,underlying,ht,Builtin.lenOf,Builtin.firstCells,sizeOf,typeInfo,hq,a5];rw[List.take_of_length_le (by rw[List.length_map,Array.length_toList]; exact Nat.le_refl _)];rfl
   rw[a1] at a0;rcases a8 ev a0 with z|z
   ·simp at z
   ·exact z
 have hO:Own KT (M i) aB (aB.setRow g (putAt U off (strCells str))):=Own.setRow hg hm (a6 cs bt fz rfl).2;have MK:(execOp a.eval o).run P aB=.ok (.value (goInt str.size)) (aB.setRow g (putAt U off (strCells str))):=by unfold execOp;simp only[a2,resolve,invoke,builtin,Sem.run_bind,Sem.run_pure,Result.andThen_ok,List.map_toArray,List.map_cons,List.map_nil,h2,qK,dZ]
 have a1:(execOp a.eval o).events P aB #[]=(Builtin.copy_ #[t,u] o.type #[.slice (some ⟨g,off,none⟩) n c',.string str]).events P aB #[]:=by unfold execOp;simp only[a2,resolve,invoke,builtin,Sem.events_bind,Sem.run_pure,Sem.events_pure,Result.evThen_ok,List.map_toArray,List.map_cons,List.map_nil,h2,qK,dZ]
 rw[MK];have a3:=Z.Bf ce kk kG hO (o':=.cells (putAt U off (strCells str)) bt) (by simp[World.setRow,Array.getElem?_modify,hg]) (fun q hq=>by simp[World.setRow,Array.getElem?_modify,Ne.symm hq]);rw[List.set_append_left _ _ eH] at a3;have VJ:=uC (S:=S) (xs:=strCells str) (ys:=strCells str) (off:=off) hz wJ gr rfl (kU str) (by omega);have jc:iB str.data.toList 0=str.size:=by rw[iO,Nat.zero_add,Array.length_toList]; rfl
 refine hK _ _ ⟨?_,k i S _ _ _ (bC.le_refl S) (fun _ _=>rfl) (hS.wy hb h1 hk (Y.AL hF) ⟨_,rfl,VJ.1,⟨VJ.2.1,fun wI=>by have:=hex wI; simp[putAt]; omega⟩,VJ.2.2⟩ fun ZP t1 ZY he=>?_) a3 (by rw[jc]; exact VR.dr rfl)⟩
 ·refine Z.env.jr (Z.size ce) hO fun ev hl=>?_;have hl:=mem_listed hl;rw[a1] at hl;obtain⟨ad,q1,q2⟩:=a0 ev hl;exact .inl ⟨ad,q1,by rw[q2]; exact Z.env.mine hO hm⟩
 ·cases he;exact a6 cs bt fz rfl
end
section
variable {P:Program}{main:Bool}{b:Frame}{a:Act}{cs:List Frame}{w:World}
theorem wq{fn:Func}{U:List Item}{c:Frame}(hn:b.kind=.normal)(hd:a.defers=[])(hf:P.funcs[b.fn]?=some fn)
 (hr:(results fn a.tmps).run P w=.ok v w) :
  stepG P main (G { b.at a U with mode:=.returning } (c::cs)) w=.go (G (c.finish v) cs) w (seen P b.fn ((results fn a.tmps).events P w #[])):=by simp[G,stepG,unwind,doReturn,Frame.at,hn,hd,hf,hr,GStep.after]
end
section
variable {ι:Type}{P:Program}{R:ι→Wq}{D:ι→World→World→Array Event→Prop}{X:ι→Gq}{fn:FuncId}{Q:dK ι}{a:Act}{w:World}{vs:ι}
def Leaves(P:Program)(R:ι→World→World→Prop)(D:ι→World→World→Array Event→Prop)(f:FuncId)(aJ:Func)(vs:ι)(tmps:Array Value)(w:World)(Post:ι→Value→World→Prop):Prop :=
 ∀aB,R vs w aB→∃v,(results aJ tmps).run P aB=.ok v aB∧D vs aB aB (seen P f ((results aJ tmps).events P aB #[]))∧Post vs v aB
def jI(P:Program)(R:ι→World→World→Prop)(D:ι→World→World→Array Event→Prop)(X:ι→Goroutine→World→Prop)(f:FuncId)(args:Array Value)(vs:ι)(w:World)(Post:ι→Value→World→Prop):Prop :=
 ∃ aJ c, P.funcs[f]? = some aJ ∧ (aJ.name == "runtime.NumGoroutine") = false ∧ aJ.body = some c ∧
  fx X f c vs (fun eY e a' w'=>(e=.normal∨e=.ret)∧a'.defers=[]∧Leaves P R D f aJ eY a'.tmps w' Post) { tmps:=args++Array.replicate (aJ.ntmps-args.size) undef,defers:=[] } w
theorem ew.Y4(C:aV P true R D X)(T:∀i,Terms (R i) (D i)){Post U:ι→Value→World→Prop}(h:ew P X f args vs w Post)(hp:∀vs v w aB,Post vs v w→R vs w aB→U vs v aB):jI P R D X f args vs w U:=by obtain⟨aJ,c,hf,hn,hb,h⟩:=h;refine⟨aJ,c,hf,hn,hb,l9 h fun eY e a' w' q=>?_⟩;obtain⟨h1,h2,v,h3,h4⟩:=q;refine⟨h1,h2,fun aB hr=>⟨v,(h3 aB).1,?_,hp _ _ _ _ h4 hr⟩⟩;rw[(h3 aB).2];exact(T eY).idle _
theorem AV(C:aV P true R D X)(T:∀i,Terms (R i) (D i)){i:Nat}{rest:List Nat}{cap:Aq}{args:Array Operand}{ats:Array TypeId}{Post:ι→Value→World→Prop}
 (ho:ops[i]?=some o)(hw:Region.wanted o (yielded ops a.tmps)=true)(a6:o.op=.call { callee:=.value x,args,argTypes:=ats })(hx:a.eval x=.func (.func f) first cap)
 (a2:jI P R D X f (first++args.map a.eval++cap) vs w Post)(a4:∀U v w',Post U v w'→bU X fn ops rest U Q (a.put o.dst v) w'):bU X fn ops (i::rest) vs Q a w:=by
 obtain⟨aJ,c,hf,a3,hb,h⟩:=a2;intro b k cs jA hk hc;have Mm:aJ.body.isNone=false:=by rw[hb]; rfl
 have a5:∀v,(b.at a (.inRegion ops (i::rest)::k)).finish v=b.at (a.put o.dst v) (.inRegion ops rest::k):=fun v=>by rw[Frame.finish_at,ho]; rfl
 have a0:∀(U:ι) (a':Act) (w':World) (a1:List Item),(a'.defers=[]∧Leaves P R D f aJ U a'.tmps w' Post) →
   X U (G { (base f).at a' a1 with mode:=.returning } (b.at a (.inRegion ops (i::rest)::k)::cs)) w':=by rintro U a' w' a1 ⟨hd,hl⟩;refine C.step rfl fun aB aF=>?_;obtain⟨v,h1,h2,h3⟩:=hl aB aF;rw[wq (b:=base f) rfl hd hf h1,a5];exact⟨h2,a4 U v aB h3 b k cs jA hk hc⟩
 refine C.step rfl fun aB aF=>?_;obtain⟨hr,he⟩:=iQ (P:=P) (w:=aB) a6 hx hf a3 Mm;rw[stepG_enter ho hw hk hr,enter_at _ hf hb];have hl:listed P b.fn a o aB=#[]:=listed_nil he;rw[hl];refine⟨(T vs).idle _,C.rely (h (base f) [] _ rfl (by simp[base]) fun U e a' w' q=>?_) aF⟩;obtain⟨P5,q⟩:=q;rcases P5 with rfl|rfl
 ·exact C.step rfl fun dI fW=>by rw[stepG_end]; exact⟨(T U).idle _,C.rely (a0 U a' w' [] q) fW⟩
 ·exact fun a1=>a0 U a' w' a1 q
end
section
variable {ι:Type}{P:Program}{KT:TypeId→Prop}{An:bC}{N0:ι→Nat}{M:ι→World→Nat→Prop}{O:ι→Nat→Prop}{R:ι→Wq}{D:ι→World→World→Array Event→Prop}{X:ι→Gq}{Hd:ι→Hq→World→Prop}
variable {fn:FuncId}{Q:dK ι}{a:Act}{w:World}{i:ι}{S:bC}{s s':AS}{l fr rl:Hq}{aA:TL}{v:Value}{ops:Array Oper}{j:Nat}{rest:List Nat}{o:Oper}{kt:TypeId→Bool}
def Sound(P:Program)(KT:TypeId→Prop)(An:bC)(R:ι→World→World→Prop)(D:ι→World→World→Array Event→Prop)(X:ι→Goroutine→World→Prop)(Hd:ι→List (Nat × Obj)→World→Prop)(f:FuncId)(args:Array Value)(s:AS)(v:Value)(s':AS):Prop :=
 ∀S l fr i w args',eK P KT An S s l→Hd i (l++fr) w→AR (VR S) args args'→(∀b,s.nx≤b→b<s'.nx→S b=none) →
  jI P R D X f args' i w fun i' v' w'=>∃S' l',S.le S'∧(∀b,b<s.nx∨s'.nx≤b→S' b=S b)∧eK P KT An S' s' l'∧Hd i' (l'++fr) w'∧VR S' v v'
theorem oQ{xs:Array Operand}{f:Operand→Value}{u:Value}(h:xs.toList.map f=[u,v]):∃x y,xs=#[x,y]∧f x=u∧f y=v:=by
 obtain⟨l⟩:=xs;cases l with
 | nil=>simp at h
 | cons x l =>
  cases l with
  | nil=>simp at h
  | cons y l =>
   cases l with
   | nil=>simp at h; exact⟨x,y,rfl,h.1,h.2⟩
   | cons z l=>simp at h
theorem JQ(Y:Cy P KT N0 M O R D X Hd)(ho:ops[j]?=some o)(hw:Region.wanted o (yielded ops a.tmps)=true)(a5:o.op=.convert t u x)(hA:eg S aA a o)(hS:eK P KT An S s l)(hF:Hd i (l++fr) w)(h:fq P t u (aA.at x) s=some v)
 (k:Out P KT An Hd S s s fr v fun i' v' w'=>bU X fn ops rest i' Q (a.put o.dst v') w'):bU X fn ops (j::rest) i Q a w:=by
 unfold eg at hA;rw[a5] at hA;have hx:=hA x (by simp[Op.operands]);have Z:=Y.Z hF;have fin:∀(ad:Addr),a.eval x=.pointer (some ad)→(∀U,Hd i (l++fr) U→(convert t u (.pointer (some ad))).run P U=.ok (.pointer (some ad)) U∧(convert t u (.pointer (some ad))).events P U #[]=#[])→VR S v (.pointer (some ad))→bU X fn ops (j::rest) i Q a w:=by
  intro ad a8 hc hv;refine aD Y.C ho hw fun U hR K hK=>?_;have a0:=Z.rely hF hR;obtain⟨h1,h2⟩:=hc U a0;have hr:(execOp a.eval o).run P U=.ok (.value (.pointer (some ad))) U:=by unfold execOp;simp only[a5,a8,Sem.run_bind,h1,Result.andThen_ok,Sem.run_pure]
  have he:(execOp a.eval o).events P U #[]=#[]:=by unfold execOp;simp only[a5,a8,Sem.events_bind,h1,h2,Result.evThen_ok,Sem.events_pure]
  rw[hr];refine hK _ _ ⟨?_,k i S l U _ (bC.le_refl S) (fun _ _=>rfl) hS a0 hv⟩;rw[listed_nil he];exact(Y.T i).idle _
 unfold fq at h;split at h
 ·next e b off a1 a2 a3 =>
  rw[a3] at hx;obtain⟨g,z,e',h1,h2⟩:=hx.ptr;split at h
  ·next cs ct fz n hb hs =>
   split at h
   ·next aa =>
    cases h;obtain⟨kk,o',hk,a7,a4,a6,a9⟩:=hS.at (fr:=fr) hb h1;obtain⟨gU,rfl,hz,⟨wJ,_⟩,gr⟩:=a6;have kH:(P.info? e).map (fun i=>decide (i.size=0))=some false:=by
     unfold bI at hs;cases hi:P.info? e with
     | none=>simp[hi] at hs
     | some it=>simp[hi] at hs ⊢; omega
    refine fin ⟨g,off,none⟩ h2 (fun U a0=>?_) (by rw[a3]; exact VR.gl h1);obtain⟨hm,hg⟩:=Z.own a0 (List.mem_of_getElem? a4);have hc:U.cell? ⟨g,off,none⟩=some (gU[off]'(by omega)):=by simp[World.cell?,hg,show off<gU.size by omega]
    exact⟨run_convert_to_unsafe (P:=P) a1 a2 kH hc,events_convert_to_unsafe (P:=P) a1 a2 kH hc #[]⟩
   ·cases h
  ·cases h
 ·next e b off a1 a2 a3 =>
  rw[a3] at hx;obtain⟨g,z,e',h1,h2⟩:=hx.ptr;split at h
  ·next cs bt n hb hs =>
   split at h
   ·next hl =>
    cases h;obtain⟨kk,o',hk,a7,a4,a6,a9⟩:=hS.at (fr:=fr) hb h1;obtain⟨gU,rfl,hz,⟨wJ,hex⟩,gr⟩:=a6;have kH:=hex rfl;obtain⟨jt,hj,_⟩:∃jt,P.info? e=some jt∧jt.size=n+1:=by
     unfold bI at hs;cases hi:P.info? e with
     | none=>simp[hi] at hs
     | some it=>simp[hi] at hs; exact⟨it,rfl,hs⟩
    refine fin ⟨g,off,none⟩ h2 (fun U a0=>?_) (by rw[a3]; exact VR.gl h1);obtain⟨hm,hg⟩:=Z.own a0 (List.mem_of_getElem? a4);have rV:U.shape? g=some (bt,cs.size):=by simp[World.shape?,hg]; omega
    refine⟨Lib.run_from_unsafe U ⟨g,off,none⟩ a1 a2 hj rV hl,?_⟩;simp[convert,run_underlying a1,run_underlying a2,Conv.unsafePointer,Conv.seenAt,viewAt,rV,variablesAt,hl,sizeOf,typeInfo,hj,underlying,a1,a2]
   ·cases h
  ·cases h
 ·cases h
theorem lV(Y:Cy P KT N0 M O R D X Hd)(a8:∀t,kt t=false→¬KT t)(a9:∀f args s v s',call f args s=some (v,s')→Sound P KT An R D X Hd f args s v s')
 (ho:ops[j]?=some o)(hw:Region.wanted o (yielded ops a.tmps)=true)(hA:eg S aA a o)(hS:eK P KT An S s l)(hF:Hd i (l++fr) w)(h:bK P kt call aA o s=some (v,s'))(a7:∀b,s.nx≤b→b<s'.nx→S b=none)
 (k:Out P KT An Hd S s s' fr v fun i' v' w'=>bU X fn ops rest i' Q (a.put o.dst v') w'):bU X fn ops (j::rest) i Q a w:=by
 unfold bK at h;split at h
 ·
  split at h
  ·next ob mk hn =>cases h;refine GD Y a8 ho hw hA hF hn fun g z e o' w' v' mw hr ht=>?_;have Ow:S s.nx=none:=a7 _ (Nat.le_refl _) (by simp);obtain⟨h1,h2⟩:=hr (S.put s.nx (g,z,e)) s.nx (bC.jP Ow) bC.iv;refine k i _ _ w' v' (bC.jP Ow) (fun b hb=>?_) (hS.grown Ow (Y.fresh mw) h1 ht) mw h2;unfold bC.put;simp at hb;rw[if_neg (by omega)]
  ·cases h
 ·split at h
  ·next t x a0 =>
   split at h
   ·next v' hv=>cases h; exact Cp Y ho hw a0 hA hS hF hv k
   ·cases h
  ·next t x y a0 =>
   split at h
   ·next s1 hv=>cases h; exact GG Y ho hw a0 hA hS hF hv k
   ·cases h
  ·next t x lo hi mx a0 =>
   split at h
   ·next v' hv=>cases h; exact GF Y ho hw a0 hA hS hF hv k
   ·cases h
  ·next x a0 =>
   split at h
   ·next b hx =>
    split at h
    ·next str pos hb =>
     refine JW Y ho hw a0 hA hS hF hx hb (fun hp=>?_) (fun hp=>?_) (fun hp=>?_)
     ·rw[if_pos hp] at h;split at h
      ·cases h
      next hq=>exact a8 _ (by simpa using hq)
     ·rw[if_pos hp] at h;split at h
      ·cases h
      cases h; exact k
     ·rw[if_neg hp] at h; cases h; exact k
    ·cases h
   ·cases h
  ·next c a0 =>
   split at h
   ·next f a1 =>
    split at h
    ·next aa =>
     split at h
     ·next x hx =>
      cases h;obtain⟨ae,a3,a6⟩:=c;simp only at a1 hx;subst a1;have Et:=hA;unfold eg at Et;rw[a0] at Et;have QR:=Et x (by simp only[Op.operands,Call.operands,Array.mem_append]; right; simpa using(show x∈a3.toList by rw[hx]; simp));obtain⟨g,rfl⟩:∃g,f=.func g:=by
       cases f with
       | func g=>exact⟨g,rfl⟩
       | _=>simp[jh] at aa
      have a2:=aa;unfold jh at a2;simp only at a2;split at a2
      ·next aJ af =>
       obtain⟨n1,n2,n3⟩:=Y.ne g aJ aa af;have a4:a3=#[x]:=by apply Array.toList_inj.1; simp[hx]
       refine nB Y.C Y.T ho hw a0 af n1 (by simp only[Bool.and_eq_true] at a2; exact a2.1) n2 n3 (x:=a.eval x) (args':=#[a.eval x]) (by rw[a4]; simp) (fun w=>Lib.run_noEscape w _) (fun w es=>by show Sem.events P (pure (a.eval x):Sem Value) w es=es; simp) ?_;exact k i S l w _ (bC.le_refl S) (fun _ _=>rfl) hS hF QR
      ·cases a2
     ·cases h
    split at h
    ·next g first cap hf =>have Et:=hA;unfold eg at Et;rw[a0] at Et;have Qb:=Et f (by simp[Op.operands,Call.operands,a1]);rw[hf] at Qb;obtain⟨p',q',h1,h2,h3⟩:=Qb.fn;have U:AR (VR S) (c.args.map aA.at) (c.args.map a.eval):=AH fun x hx=>Et x (by simp[Op.operands,Call.operands,hx]);have H4:=a9 _ _ _ _ _ h S l fr i w _ hS hF ((h2.append U).append h3) a7;obtain⟨ae,a3,a6⟩:=c;simp only at a1;subst a1;refine AV Y.C Y.T ho hw a0 h1 H4 ?_;rintro i' v' w' ⟨S',l',q1,q2,q3,q4,q5⟩;exact k i' S' l' w' v' q1 q2 q3 q4 q5
    ·cases h
   ·next b a1 =>
    split at h
    ·next v' hv=>cases h; exact sb Y ho hw hA hS hF hv k
    ·obtain⟨ae,a3,a6⟩:=c;simp only at a1 h;subst a1;unfold eB at h;split at h
     ·next x1 yy m cy t t' U a5 =>
      split at h
      ·next ai =>
       subst ai;split at h
       ·next e ht =>
        split at h
        ·next z sz bytes hi =>
         split at h
         ·next news ah =>
          split at h
          ·next hc =>
           obtain⟨c1,c2,c3,c4,c5,c6,c7⟩:=hc;obtain⟨x,y,a4,e1,e2⟩:=oQ U;subst a4;have Av:a6=#[t,t]:=by apply Array.toList_inj.1; simp[a5]
           subst Av;rw[← e1] at h c6;exact DO Y a8 ho hw a0 hA hS hF e2 ht hi ah c1 c2 c3 c4 c5 c6 c7 h a7 k
          ·cases h
         ·cases h
        ·cases h
       ·cases h
      ·cases h
     ·next x1 str t t' U a5 =>
      split at h
      ·next e ht hu =>
       split at h
       ·next hi =>
        split at h
        ·next hc =>
         obtain⟨c1,c2,c3⟩:=hc;obtain⟨x,y,a4,e1,e2⟩:=oQ U;subst a4;have Av:a6=#[t,t']:=by apply Array.toList_inj.1; simp[a5]
         subst Av;rw[← e1] at h c3;exact AQ Y a8 ho hw a0 hA hS hF e2 ht hu hi c1 c2 c3 h a7 k
        ·cases h
       ·cases h
      ·cases h
     ·next b off n cp str t u U a5 =>
      split at h
      ·next e cs bt fz ht hb =>
       split at h
       ·next hc =>
        obtain⟨c1,c2,c3⟩:=hc;cases h;obtain⟨x,y,a4,e1,e2⟩:=oQ U;subst a4;have Av:a6=#[t,u]:=by apply Array.toList_inj.1; simp[a5]
        subst Av;exact JR Y ho hw a0 hA hS hF e1 e2 ht hb c1 c2 c3 k
       ·cases h
      ·cases h
     ·next b n pt it U a5 =>
      split at h
      ·next e cs t fz hp hb =>
       split at h
       ·next hc =>
        obtain⟨c1,c2,c3,c4,c5⟩:=hc;split at h
        ·next bs ag =>
         cases h;obtain⟨x,y,a4,e1,e2⟩:=oQ U;subst a4;have Av:a6=#[pt,it]:=by apply Array.toList_inj.1; simp[a5]
         subst Av;exact JX Y ho hw a0 hA hS hF e1 e2 hp hb c1 c2 c3 c4 c5 ag k
        ·cases h
       ·cases h
      ·cases h
     ·cases h
   ·cases h
  ·next t u x a0 =>
   split at h
   ·next v' hv=>cases h; exact sb Y ho hw hA hS hF hv k
   ·split at h
    ·next v' hv=>cases h; exact JQ Y ho hw a0 hA hS hF hv k
    ·cases h
  ·split at h
   ·next v' hv=>cases h; exact sb Y ho hw hA hS hF hv k
   ·cases h
end
theorem oB:∀(l:Vq) (n:Nat) (v:Value),yo l n v=l.set n v
 | [],_,_=>rfl
 | _::_,0,_=>rfl
 | x::l,n+1,v=>by simp[yo,oB l n v]
section
variable {S:bC}{aA:TL}{a:Act}
theorem lJ{x:Aq}{y:Aq}(h:AR (VR S) x y)(t:Nat):VR S (x.toList.getD t undef) (y.getD t undef):=by
 by_cases U:t<x.size
 ·have h1:x[t]?=some x[t]:=Array.getElem?_eq_getElem U;have h2:y[t]?=some (y[t]'(by rw[← h.1]; exact U)):=Array.getElem?_eq_getElem _
  have:=h.2 t _ _ h1 h2;rw[List.getD_eq_getElem?_getD,Array.getD_eq_getD_getElem?,h2,Array.getElem?_toList,h1];exact this
 ·rw[List.getD_eq_getElem?_getD,Array.getD_eq_getD_getElem?,Array.getElem?_toList,Array.getElem?_eq_none (by omega),Array.getElem?_eq_none (by rw[← h.1]; omega)];exact VR.undef
theorem zJ(h:AR (VR S) aA.toArray a.tmps)(U:yx x=true):VR S (aA.at x) (a.eval x):=by
 cases x with
 | tmp t=>exact lJ h t
 | const v=>exact VR.dr U
 | global g=>simp[yx] at U
 | func f=>exact VR.yw AR.nil AR.nil
theorem rk(h:AR (VR S) aA.toArray a.tmps)(U:VR S v v')(d:Option Tmp):AR (VR S) (aA.put d v).toArray (a.put d v').tmps:=by
 cases d with
 | none=>exact h
 | some t =>
  show AR (VR S) (yo aA t v).toArray (a.tmps.setIfInBounds t v');rw[oB]
  have:=h.set U t;rw[List.setIfInBounds_toArray] at this;exact this
theorem VR.w9{x:Value}{b:Bool}(h:VR S x (.bool b)):x=.bool b:=by
 cases x with
 | agg p=>obtain⟨p',h1,_⟩:=h.ag; cases h1
 | tuple p=>obtain⟨p',h1,_⟩:=h.tu; cases h1
 | map p=>obtain⟨k,m,_,h1,_⟩:=h.mp; cases h1
 | func f p q=>obtain⟨p',U,h1,_⟩:=h.fn; cases h1
 | pointer p =>
  cases p with
  | none=>exact(h.sc rfl).symm
  | some p =>
   obtain⟨b,off,sp⟩:=p
   have:=h.iu;simp at this;subst this;obtain⟨g,z,e,_,h1⟩:=h.ptr;cases h1
 | slice p n c =>
  cases p with
  | none=>exact(h.sc rfl).symm
  | some p=>obtain⟨g,z,e,o',c',_,h1,_⟩:=h.jR; cases h1
 | bool b=>exact(h.sc rfl).symm
 | int k n=>exact(h.sc rfl).symm
 | string s=>exact(h.sc rfl).symm
 | nilFunc=>exact(h.sc rfl).symm
 | nilIface=>exact(h.sc rfl).symm
 | _=>obtain⟨d,h⟩:=h; cases d with
  | zero=>exact h.elim
  | succ d=>exact absurd h.1 (by simp[dT])
theorem o9{j:Nat}(h:∀d,(ops[j]?).bind (·.dst)=some d→∀b,(aA[d]?=some (.bool b)↔tmps[d]?=some (.bool b))):yielded ops tmps j=bB ops aA j:=by
 unfold yielded bB;rw[Array.getElem?_toList];cases ho:ops[j]? with
 | none=>rfl
 | some o =>
  simp only[Option.bind_some];cases hd:o.dst with
  | none=>rfl
  | some d =>
   simp only[Option.bind_some];have h:=h d (by rw[ho]; simp[hd]);cases ha:aA[d]? with
   | none =>
    cases U:tmps[d]? with
    | none=>rfl
    | some v=>cases v with
     | bool b=>rw[ha,U] at h; exact absurd ((h b).2 rfl) (by simp)
     | _=>rfl
   | some x =>
    cases x with
    | bool b=>rw[(h b).1 ha]
    | _ =>
     cases U:tmps[d]? with
     | none=>rfl
     | some v=>cases v with
      | bool b=>rw[ha,U] at h; exact absurd ((h b).2 rfl) (by simp)
      | _=>rfl
theorem zd(h:AR (VR S) aA.toArray a.tmps)(ops:Array Oper)(j:Nat):yielded ops a.tmps j=bB ops aA j:=by
 refine o9 fun d _ b=>⟨fun hb=>?_,fun hb=>?_⟩
 ·have U:d<a.tmps.size:=by rw[← h.1]; have:=(List.getElem?_eq_some_iff.1 hb).1; simpa using this
  have:=h.2 d _ _ (by simpa using hb) (Array.getElem?_eq_getElem U);rw[Array.getElem?_eq_getElem U,this.sc rfl]
 ·have U:d<aA.toArray.size:=by rw[h.1]; exact(Array.getElem?_eq_some_iff.1 hb).1
  have:=(h.2 d _ _ (Array.getElem?_eq_getElem U) hb).w9;have h2:aA.toArray[d]?=some (.bool b):=by rw[Array.getElem?_eq_getElem U,this]
  simpa using h2
theorem kV(h:AR (VR S) aA.toArray a.tmps)(ops:Array Oper)(o:Oper):Region.wanted o (yielded ops a.tmps)=Region.wanted o (bB ops aA):=by
 unfold Region.wanted;split
 ·rfl
 ·rw[zd h]
end
section
variable {P:Program}{kt:TypeId→Bool}{call:FuncId→Aq→AS→Option (Value × AS)}
theorem qj{x:Value}(h:aZ P e x news m s=some (v,s')):s.nx≤s'.nx:=by
 unfold aZ at h;split at h
 ·split at h<;>(cases h; simp)
 ·split at h
  ·cases h; simp
  ·split at h
   ·split at h
    ·cases h; simp
    ·cases h
   ·cases h
 ·split at h
  ·cases h
  ·cases h; simp
 ·cases h
theorem vz{b:Builtin}{args:Vq}{ts:List TypeId}(h:eB P kt b args ts s=some (v,s')):s.nx≤s'.nx:=by
 unfold eB at h;split at h
 ·split at h
  ·split at h
   ·split at h
    ·split at h
     ·split at h
      ·exact qj h
      ·cases h
     ·cases h
    ·cases h
   ·cases h
  ·cases h
 ·split at h
  ·split at h
   ·split at h
    ·exact qj h
    ·cases h
   ·cases h
  ·cases h
 ·split at h
  ·split at h
   ·cases h; simp
   ·cases h
  ·cases h
 ·split at h
  ·split at h
   ·split at h
    ·cases h; simp
    ·cases h
   ·cases h
  ·cases h
 ·cases h
theorem Ad{x y:Value}(h:iM P t x y s=some s'):s.nx=s'.nx:=by
 unfold iM at h;split at h
 ·split at h
  ·split at h
   ·cases h; simp
   ·cases h
  ·cases h
 ·cases h
theorem qW(U:∀f args s v s',call f args s=some (v,s')→s.nx≤s'.nx){a:TL}(h:bK P kt call a o s=some (v,s')):s.nx≤s'.nx:=by
 unfold bK at h;split at h
 ·split at h
  ·cases h; simp
  ·cases h
 ·split at h
  ·split at h
   ·cases h; exact Nat.le_refl _
   ·cases h
  ·split at h
   ·next hv=>cases h; exact Nat.le_of_eq (Ad hv)
   ·cases h
  ·split at h
   ·cases h; exact Nat.le_refl _
   ·cases h
  ·split at h
   ·split at h
    ·split at h
     ·split at h
      ·cases h
      ·cases h; simp
     ·cases h; simp
    ·cases h
   ·cases h
  ·split at h
   ·split at h
    ·split at h
     ·cases h; exact Nat.le_refl _
     ·cases h
    ·split at h
     ·exact U _ _ _ _ _ h
     ·cases h
   ·split at h
    ·cases h; exact Nat.le_refl _
    ·exact vz h
   ·cases h
  ·split at h
   ·cases h; exact Nat.le_refl _
   ·split at h
    ·cases h; exact Nat.le_refl _
    ·cases h
  ·split at h
   ·cases h; exact Nat.le_refl _
   ·cases h
theorem lE(hc:∀f args s v s',call f args s=some (v,s')→s.nx≤s'.nx):∀(U:List Oper) {a a':TL} {s s':AS},cD P kt call ops U a s=some (a',s')→s.nx≤s'.nx
 | [],a,a',s,s',h=>by simp[cD] at h; rw[h.2]; exact Nat.le_refl _
 | o::rest,a,a',s,s',h=>by
  unfold cD at h;split at h
  ·split at h
   ·next v s1 hv=>exact Nat.le_trans (qW hc hv) (lE hc rest h)
   ·cases h
  ·exact lE hc rest h
end
section
variable {ι:Type}{P:Program}{KT:TypeId→Prop}{An:bC}{N0:ι→Nat}{M:ι→World→Nat→Prop}{O:ι→Nat→Prop}{R:ι→Wq}{D:ι→World→World→Array Event→Prop}{X:ι→Gq}{Hd:ι→Hq→World→Prop}
variable {fn:FuncId}{Q:dK ι}{a:Act}{w:World}{i:ι}{S:bC}{s s':AS}{l fr rl:Hq}{aA iF:TL}{v:Value}{ops:Array Oper}{j:Nat}{rest:List Nat}{o:Oper}{kt:TypeId→Bool}
def Lx (P:Program)(KT:TypeId→Prop)(An:bC)(Hd:ι→List (Nat × Obj)→World→Prop)(S:bC)(s s':AS)(fr:List (Nat × Obj))(iF:TL)(K:ι→Act→World→Prop):Prop :=
 ∀i' S' l' w' a',S.le S'→(∀b,b<s.nx∨s'.nx≤b→S' b=S b)→eK P KT An S' s' l'→Hd i' (l'++fr) w'→AR (VR S') iF.toArray a'.tmps→a'.defers=[]→K i' a' w'
theorem lF(Y:Cy P KT N0 M O R D X Hd)(Ao:∀t,kt t=false→¬KT t)(mT:∀f args s v s',call f args s=some (v,s')→Sound P KT An R D X Hd f args s v s')(hc:∀f args s v s',call f args s=some (v,s')→s.nx≤s'.nx)(BP:j8 ops=true) :
  ∀(m k:Nat) {S:bC} {l:Hq} {i:ι} {w:World} {a:Act} {aA:TL} {s:AS},m=ops.size-k→k≤ops.size→cD P kt call ops (ops.toList.drop k) aA s=some (iF,s')→eK P KT An S s l→Hd i (l++fr) w→AR (VR S) aA.toArray a.tmps→a.defers=[]→(∀b,s.nx≤b→b<s'.nx→S b=none) →
   Lx P KT An Hd S s s' fr iF (fun i' a' w'=>Q i' .normal a' w')→bU X fn ops (List.range' k m) i Q a w
 | 0,k,S,l,i,w,a,aA,s,hm,hk,h,hS,hF,hA,hd,np,K=>by
  have:k=ops.size:=by omega
  subst this;rw[List.drop_eq_nil_of_le (by simp)] at h;simp only[cD,Option.some.injEq,Prod.mk.injEq] at h;obtain⟨rfl,rfl⟩:=h;exact aS Y.C Y.T (K i S l w a (bC.le_refl S) (fun _ _=>rfl) hS hF hA hd)
 | m+1,k,S,l,i,w,a,aA,s,hm,hk,h,hS,hF,hA,hd,np,K=>by
  have eH:k<ops.size:=by omega
  have Di:k<ops.toList.length:=by simpa using eH
  rw[List.drop_eq_getElem_cons Di] at h;have ho:ops[k]?=some (ops.toList[k]'Di):=by rw[Array.getElem?_eq_getElem eH]; simp
  have Of:eg S aA a (ops.toList[k]'Di):=fun x hx=>zJ hA (by
   unfold j8 at BP;rw[List.all_eq_true] at BP
   have:=BP _ (List.getElem_mem Di);rw[List.all_eq_true] at this;exact this x (by simpa using hx));unfold cD at h;show bU X fn ops (k::List.range' (k+1) m) i Q a w;split at h
  ·next hw =>
   split at h
   ·next v s1 hv =>
    have n1:=qW hc hv;have n2:=lE hc _ h;refine lV Y Ao mT ho (by rw[kV hA]; exact hw) Of hS hF hv (fun b h1 h2=>np b h1 (by omega)) ?_;intro i1 S1 l1 w1 v1 Og my F0 PH V7;refine lF Y Ao mT hc BP m (k+1) (by omega) (by omega) h F0 PH (rk (hA.mono Og) V7 _) ?_ (fun b h1 h2=>?_) ?_
    ·cases P4:(ops.toList[k]'Di).dst<;>exact hd
    ·rw[my b (.inr h1)]; exact np b (by omega) h2
    ·intro i2 S2 l2 w2 a2 zi iN PK Mi hA3 U6;exact K i2 S2 l2 w2 a2 (bC.le_trans Og zi) (fun b hb=>by rw[iN b (by omega),my b (by omega)]) PK Mi hA3 U6
   ·cases h
  ·next hw =>have n2:=lE hc _ h;refine gg Y.C Y.T ho (by rw[kV hA]; simpa using hw) ?_;refine lF Y Ao mT hc BP m (k+1) (by omega) (by omega) h hS hF (rk hA VR.undef _) ?_ np K;cases P4:(ops.toList[k]'Di).dst<;>exact hd
def Reads{α:Type}(P:Program)(t:Sem α)(w:World)(v:α)(B:Event→Prop):Prop:=t.run P w=.ok v w∧∀ev∈t.events P w #[],B ev
theorem Reads.bind{t:Sem α}{k:α→Sem β}{v:α}{u:β}{B:Event→Prop}(h:Reads P t w v B)(h':Reads P (k v) w u B):Reads P (t >>= k) w u B:=by
 refine⟨by rw[Sem.run_bind,h.1]; exact h'.1,fun ev U=>?_⟩;rw[Sem.events_bind,h.1] at U;simp only[Result.evThen_ok] at U;rw[Sem.events_acc] at U;rcases Array.mem_append.1 U with q|q
 ·exact h.2 ev q
 ·exact h'.2 ev q
theorem Reads.pure(v:α)(B:Event→Prop):Reads P (Pure.pure v:Sem α) w v B:=⟨rfl,fun U h=>by simp at h⟩
theorem AF(Y:Cy P KT N0 M O R D X Hd)(hS:eK P KT An S s l)(hF:Hd i (l++fr) w){x:Value}(hx:VR S x x')(h:aE P t x s=some v):∃v',VR S v v'∧Reads P (do loadVar t (← asAddr x')) w v' (uX (M i w)):=by
 unfold aE at h;split at h
 ·next b off =>
  obtain⟨g,z,e,h1,rfl⟩:=hx.ptr;split at h
  ·next cs ty fz hb =>
   obtain⟨kk,o',hk,a7,a5,a6,a9⟩:=hS.at (fr:=fr) hb h1;obtain⟨U,rfl,hz,⟨wJ,hex⟩,gr⟩:=a6;obtain⟨hm,hg⟩:=(Y.Z hF).own hF (List.mem_of_getElem? a5);have Yz:∀{v'},Reads P (Instr.loadAt t (.pointer (some ⟨g,off,none⟩))) w v' (uX (M i w))→Reads P (do loadVar t (← asAddr (.pointer (some ⟨g,off,none⟩)))) w v' (uX (M i w)):=fun h=>h;split at h
   ·next d hu =>
    split at h
    ·next hd =>
     split at h
     ·next n hn =>
      split at h
      ·next a8 =>
       cases h;have hc:w.rangeAt g off ((U.toList.drop off).take n):=sn hg (by
        intro m u hm;rw[List.getElem?_take] at hm;split at hm
        ·rw[List.getElem?_drop] at hm; simpa using hm
        ·cases hm);have hi:(P.info? t).map (·.size)=some ((U.toList.drop off).take n).length:=by unfold bI at hn; rw[hn]; simp; omega
       refine⟨_,VR.yv (p':=((U.toList.drop off).take n).toArray) ?_,Yz ⟨run_loadAt_mid (P:=P) w g off t _ d hc hu hd hi,fun ev a0=>?_⟩⟩
       ·refine⟨by simp; omega,fun m u u' hu a1=>?_⟩;simp only[List.getElem?_toArray,List.getElem?_take] at hu a1;split at hu
        ·next hm =>rw[if_pos hm] at a1;rw[List.getElem?_drop] at hu a1;exact gr _ u u' (by simpa using hu) (by simpa using a1)
        ·cases hu
       ·obtain⟨ad,q1,q2⟩:=jz w g off t _ d hc hu hd hi ev a0;exact .inl ⟨ad,q1,by rw[q2]; exact hm⟩
      ·cases h
     ·cases h
    ·next hd =>
     have a4:off<U.size:=by have:=(Array.getElem?_eq_some_iff.1 h).1; omega
     have a2:w.cell? ⟨g,off,none⟩=some U[off]:=by simp[World.cell?,hg,a4]
     have a3:d.isRow=false:=by simpa using hd
     refine⟨U[off],gr off v _ h (Array.getElem?_eq_getElem a4),Yz ⟨?_,fun ev a0=>?_⟩⟩
     ·simp[Instr.loadAt,Instr.sureAddr,loadVar,mz hu a3,load,Sem.run,a2]
     ·have he:(Instr.loadAt t (.pointer (some ⟨g,off,none⟩))).events P w #[]=#[⟨.cell ⟨g,off,none⟩,false,false⟩]:=by simp[Instr.loadAt,Instr.sureAddr,loadVar,mz hu a3,ox hu,events_load,a2]
      rw[he] at a0;simp at a0;subst a0;exact .inl ⟨_,rfl,hm⟩
   ·cases h
  ·cases h
 ·cases h
theorem yq{f:α→Option β}:∀{xs:List α} {vs:List β},xs.mapM f=some vs→xs.length=vs.length∧∀(i:Nat) (x:α) (v:β),xs[i]?=some x→vs[i]?=some v→f x=some v
 | [],vs,h=>by simp at h; subst h; exact⟨rfl,fun i x v U=>by simp at U⟩
 | x::xs,vs,h=>by
  rw[List.mapM_cons] at h;cases U:f x with
  | none=>rw[U] at h; cases h
  | some v =>
   rw[U] at h;cases hm:xs.mapM f with
   | none=>rw[hm] at h; cases h
   | some us =>
    rw[hm] at h;cases h;obtain⟨h1,h2⟩:=yq hm;refine⟨by simp[h1],fun i y u hy hu=>?_⟩;cases i with
    | zero=>simp at hy hu; subst hy hu; exact U
    | succ i=>exact h2 i y u (by simpa using hy) (by simpa using hu)
theorem uG(Y:Cy P KT N0 M O R D X Hd)(hS:eK P KT An S s l)(hF:Hd i (l++fr) w){aJ:Func}(hA:AR (VR S) aA.toArray tmps)(h:dA P aJ aA s=some v):∃v',VR S v v'∧Reads P (results aJ tmps) w v' (uX (M i w)):=by
 have one:∀r u,lG P aA s r=some u→∃u',VR S u u'∧Reads P ((fun r=>match r with|.tmp t=>pure (tmps.getD t undef)|.cell a t=>do loadVar t (← asAddr (tmps.getD a undef)):ResultVar→Sem Value) r) w u' (uX (M i w)):=by
  intro r u hu;cases r with
  | tmp t=>simp[lG] at hu; subst hu; exact⟨_,lJ hA t,Reads.pure _ _⟩
  | cell t ty=>exact AF Y hS hF (lJ hA t) hu
 have many:∀(rs:List ResultVar) (us:Vq),rs.mapM (lG P aA s)=some us→∃U,us.length=U.length∧(∀(i:Nat) (x y:Value),us[i]?=some x→U[i]?=some y→VR S x y)∧Reads P (rs.mapM (fun r=>match r with|.tmp t=>pure (tmps.getD t undef)|.cell a t=>do loadVar t (← asAddr (tmps.getD a undef)):ResultVar→Sem Value)) w U (uX (M i w)):=by
  intro rs;induction rs with
  | nil=>intro us hu; simp at hu; subst hu; exact⟨[],rfl,fun i x y hx=>by simp at hx,by rw[List.mapM_nil]; exact Reads.pure _ _⟩
  | cons r rs ih =>
   intro us hu;rw[List.mapM_cons] at hu;cases hr:lG P aA s r with
   | none=>rw[hr] at hu; cases hu
   | some u =>
    rw[hr] at hu;cases hm:rs.mapM (lG P aA s) with
    | none=>rw[hm] at hu; cases hu
    | some a2 =>
     rw[hm] at hu;cases hu;obtain⟨U,h1,h2,h3⟩:=ih a2 hm;obtain⟨u',h4,h5⟩:=one r u hr;refine⟨u'::U,by simp[h1],fun i x y hx hy=>?_,?_⟩
     ·cases i with
      | zero=>simp at hx hy; subst hx hy; exact h4
      | succ i=>exact h2 i x y (by simpa using hx) (by simpa using hy)
     ·rw[List.mapM_cons];exact h5.bind (h3.bind (Reads.pure _ _))
 have whole:∀U,Reads P (aJ.results.toList.mapM (fun r=>match r with|.tmp t=>pure (tmps.getD t undef)|.cell a t=>do loadVar t (← asAddr (tmps.getD a undef)):ResultVar→Sem Value)) w U (uX (M i w))→Reads P (results aJ tmps) w (if h:U.toArray.size=1 then U.toArray[0] else .tuple U.toArray) (uX (M i w)):=by intro U hr;unfold results;rw[Array.mapM_eq_mapM_toList];refine Reads.bind (v:=U.toArray) ?_ (Reads.pure _ _);rw[map_eq_pure_bind];exact hr.bind (Reads.pure _ _)
 unfold dA at h;split at h
 ·next r hr =>
  obtain⟨U,h1,h2,h3⟩:=many [r] [v] (by rw[List.mapM_cons,h]; rfl);cases U with
  | nil=>simp at h1
  | cons u U =>
   have:U=[]:=by simpa using h1.symm
   subst this;refine⟨u,h2 0 v u rfl rfl,?_⟩
   have:=whole [u] (by rw[hr]; exact h3);simpa using this
 ·next rs a1 =>
  split at h
  ·next us a0 =>
   cases h;obtain⟨U,h1,h2,h3⟩:=many _ us a0;have hw:=whole U h3;have hl:¬U.toArray.size=1:=by
    intro hq;have:aJ.results.toList.length=1:=by rw[(yq a0).1,h1]; simpa using hq
    match VM:aJ.results.toList,this with
    | [r],_=>exact a1 r VM
   rw[dif_neg hl] at hw;exact⟨_,VR.sa ⟨by simpa using h1,fun i x y hx hy=>h2 i x y (by simpa using hx) (by simpa using hy)⟩,hw⟩
  ·cases h
end
end Go.Proofs.YtgcaionclkbehaaGreatDoor
