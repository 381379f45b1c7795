import Derived.Test.YtgcaionclkbehaaGreatDoorE5
set_option linter.all false
namespace Go.Proofs.YtgcaionclkbehaaGreatDoor
section
open Go.Conc Go.RowKit Go.Lib
section
variable {P : Program} {S : Who}
theorem bounds_of {sl : Bool} {n c c' l h : Nat} {lo hi : Option Value} (e : zd5 n c lo hi = some (l,h)) (hc : c ≤ c') (hn : n ≤ c) : evS P (Instr.sliceBounds sl n c' lo hi none) = some (l,h,c') ∧ l ≤ h ∧ h ≤ c := by
 unfold zd5 at e
 split at e
 ·
  split at e
  ·
   cases e; exact ⟨by simp [Instr.sliceBounds],Nat.zero_le _,hn⟩
  ·
   next k i =>
   split at e
   ·
    next hi =>
    cases e
    exact ⟨by simp [Instr.sliceBounds,Instr.sliceBound,asIntOf,hi],by omega,hn⟩
   ·
    cases e
  ·
   cases e
 ·
  next k i =>
  split at e
  ·
   next hi =>
   have h1 : 0 ≤ i ∧ i ≤ (c' : Int) := by omega
   split at e
   ·
    cases e; exact ⟨by simp [Instr.sliceBounds,Instr.sliceBound,asIntOf,h1],Nat.zero_le _,by omega⟩
   ·
    next k2 i2 =>
    split at e
    ·
     next hi2 =>
     cases e
     have h2 : 0 ≤ i2 ∧ i2 ≤ ((i.toNat : Nat) : Int) := by omega
     refine ⟨?_,by omega,by omega⟩
     simp only [Instr.sliceBounds,Instr.sliceBound,asIntOf,evS_bind,evS_pure,Option.bind_some,if_pos h1,if_pos h2]
    ·
     cases e
   ·
    cases e
  ·
   cases e
 ·
  cases e
theorem bounds_sc {n c : Nat} {lo hi : Option Value} {r : Nat × Nat} (e : zd5 n c lo hi = some r) : (∀ v,lo = some v → isSc v = true) ∧ (∀ v,hi = some v → isSc v = true) := by
 unfold zd5 at e
 split at e
 ·
  split at e
  ·
   simp
  ·
   exact ⟨fun v h => by cases h; rfl,by simp⟩
  ·
   cases e
 ·
  split at e
  ·
   split at e
   ·
    exact ⟨by simp,fun v h => by cases h; rfl⟩
   ·
    exact ⟨fun v h => by cases h; rfl,fun v h => by cases h; rfl⟩
   ·
    cases e
  ·
   cases e
 ·
  cases e
end
section
variable {ι : Type} {P : Program} {KT : TypeId → Prop} {An : Who} {N0 : ι → Nat} {M : ι → World → Nat → Prop} {O : ι → Nat → Prop} {R : ι → World → World → Prop} {D : ι → World → World → Array Event → Prop} {X : ι → Goroutine → World → Prop} {Hd : ι → List (Nat × Obj) → World → Prop}
variable {fn : FuncId} {Q : PostI ι} {a : Act} {w : World} {i : ι} {S : Who} {s s' : AS} {l fr : List (Nat × Obj)} {aA : TL} {v : Value} {ops : Array Oper} {j : Nat} {rest : List Nat} {o : Oper} {kt : TypeId → Bool}
theorem opt_sc {lo : Option Operand} (hA : ∀ x,lo = some x → VR S (aA.at x) (a.eval x)) (h : ∀ v,lo.map aA.at = some v → isSc v = true) : lo.map a.eval = lo.map aA.at := by
 cases lo with
 | none => rfl
 | some x => simp; exact (hA x rfl).sc (h _ rfl)
theorem slice_sound {t : TypeId} {x : Operand} {lo hi mx : Option Operand} (hop : o.op = .slice t x lo hi mx) (hA : OpdR S aA a o) (hS : Sim P KT An S s l) (h : evSlice P t (aA.at x) (lo.map aA.at) (hi.map aA.at) (mx.map aA.at) s = some v) : ∃ v',VR S v v' ∧ evS P (execOp a.eval o) = some (.value v') := by
 unfold OpdR at hA
 rw [hop] at hA
 have hx := hA x (by simp [Op.operands])
 have hlo : ∀ y,lo = some y → VR S (aA.at y) (a.eval y) := fun y hy => hA y (by simp [Op.operands,hy])
 have hhi : ∀ y,hi = some y → VR S (aA.at y) (a.eval y) := fun y hy => hA y (by simp [Op.operands,hy])
 have hmx : ∀ y,mx = some y → VR S (aA.at y) (a.eval y) := fun y hy => hA y (by simp [Op.operands,hy])
 have hrun : ∀ d,P.underlying t = some d → (∀ n e,d ≠ .array n e) → evS P (execOp a.eval o) = (evS P (Instr.slice t (a.eval x) (lo.map a.eval) (hi.map a.eval) (mx.map a.eval))).map .value := fun d hu hd => by
  simp only [execOp,hop,Instr.sliceAt,evS_bind,evS_underlying,hu,Option.bind_some]
  cases d <;> first | exact absurd rfl (hd _ _) | (cases evS P (Instr.slice t (a.eval x) (lo.map a.eval) (hi.map a.eval) (mx.map a.eval)) <;> rfl)
 unfold evSlice at h
 split at h
 ·
  next e b off n c hu hv hm =>
  rw [hv] at hx
  obtain ⟨g,z,e',c',h1,h2,h3,h4,h5,h6⟩ := hx.sl
  split at h
  ·
   next sz cs bt fz hs hb =>
   split at h
   ·
    next he =>
    subst he
    split at h
    ·
     next lw hg hbd =>
     obtain ⟨hs1,hs2⟩ := bounds_sc hbd
     obtain ⟨hb1,hb2,hb3⟩ := bounds_of (P := P) (sl := true) hbd h4 h3
     obtain ⟨g',z',e2,o',h7,_,_,h8⟩ := hS.live b _ hb
     rw [h1] at h7
     cases h7
     have hee : e' = sz := by
      have := (h8 cs bt fz rfl).1
      rw [hs] at this
      cases this
      rfl
     subst hee
     have hmn : mx = none := by cases mx with
      | none => rfl
      | some y => simp at hm
     have hr := hrun _ hu (by simp)
     rw [hmn,h2,opt_sc hlo hs1,opt_sc hhi hs2] at hr
     simp only [Option.map_none,Instr.slice,evS_bind,evS_underlying,hu,Option.bind_some,hb1,evS_sizeOf,hs,evS_pure,Option.map_some] at hr
     split at h
     ·
      next hlc =>
      cases h
      have hne : c' ≠ lw := by omega
      rw [if_neg hne,Addr.add_lit] at hr
      refine ⟨.slice (some ⟨g,off + lw * e',none⟩) (hg - lw) (c' - lw),?_,hr⟩
      refine VR.of_sl h1 (by omega) (by omega) (by omega) ?_
      rw [← h6,Nat.sub_mul]
      have : lw * e' ≤ c' * e' := Nat.mul_le_mul_right _ (by omega)
      omega
     ·
      split at h
      ·
       next hlh =>
       cases h
       subst hlh
       have : ∃ o',(Value.slice (if c' = lw then some (⟨g,off,none⟩ : Addr) else some ((⟨g,off,none⟩ : Addr).add (lw * e'))) (lw - lw) (c' - lw)) = .slice (some ⟨g,o',none⟩) 0 (c' - lw) := by
        split
        ·
         exact ⟨off,by simp⟩
        ·
         exact ⟨off + lw * e',by simp [Addr.add_lit]⟩
       obtain ⟨o',ho'⟩ := this
       rw [ho'] at hr
       exact ⟨_,VR.of_flag h1 (by omega) (by omega),hr⟩
      ·
       cases h
    ·
     cases h
   ·
    cases h
  ·
   cases h
 ·
  next e b off n c k hu hv hm =>
  rw [hv] at hx
  obtain ⟨g,z,e',c',h1,h2,h3,h4,h5,h6⟩ := hx.sl
  split at h
  ·
   next sz k2 hs hl hh =>
   cases h
   have hr := hrun _ hu (by simp)
   rw [h2,opt_sc hlo (by rw [hl]; simp),opt_sc hhi (by rw [hh]; intro v hv; cases hv; rfl),opt_sc hmx (by rw [hm]; intro v hv; cases hv; rfl),hl,hh,hm] at hr
   refine ⟨.slice (some ⟨g,off,none⟩) 0 0,VR.of_flag h1 (by simp) (by simp [maxLen]),?_⟩
   rw [hr]
   have h0 : (0 : Int) ≤ 0 ∧ (0 : Int) ≤ ((c' : Nat) : Int) := by omega
   have h0' : (0 : Int) ≤ 0 ∧ (0 : Int) ≤ (((0 : Int).toNat : Nat) : Int) := by simp
   simp only [Instr.slice,evS_bind,evS_underlying,hu,Option.bind_some,Instr.sliceBounds,Instr.sliceBound,asIntOf,evS_pure,if_pos h0,if_pos h0',evS_sizeOf,hs]
   simp
  ·
   cases h
 ·
  next str hu hv hm =>
  rw [hv] at hx
  split at h
  ·
   next lw hg hbd =>
   cases h
   obtain ⟨hs1,hs2⟩ := bounds_sc hbd
   obtain ⟨hb1,hb2,hb3⟩ := bounds_of (P := P) (sl := false) hbd (Nat.le_refl _) (Nat.le_refl _)
   have hmn : mx = none := by cases mx with
    | none => rfl
    | some y => simp at hm
   have hr := hrun _ hu (by simp)
   have hsz : lenL str.data.toList 0 = str.size := by rw [zl8,Nat.zero_add,Array.length_toList]; rfl
   rw [hsz] at hb1 hb3
   rw [hmn,hx.sc rfl,opt_sc hlo hs1,opt_sc hhi hs2] at hr
   refine ⟨_,VR.of_sc rfl,?_⟩
   rw [hr]
   have he : (⟨((str.data.toList.take hg).drop lw).toArray⟩ : ByteArray) = str.extract lw hg := by
    apply bytes_inj'
    simp [ByteArray.data_extract,List.drop_take]
   rw [he]
   simp [Instr.slice,hu,hb1]
  ·
   cases h
 ·
  next e hu hv hm =>
  rw [hv] at hx
  split at h
  ·
   next sz r hs hbd =>
   cases h
   obtain ⟨lw,hg⟩ := r
   obtain ⟨hs1,hs2⟩ := bounds_sc hbd
   obtain ⟨hb1,hb2,hb3⟩ := bounds_of (P := P) (sl := true) hbd (Nat.le_refl _) (Nat.le_refl _)
   have hmn : mx = none := by cases mx with
    | none => rfl
    | some y => simp at hm
   have hr := hrun _ hu (by simp)
   rw [hmn,hx.sc rfl,opt_sc hlo hs1,opt_sc hhi hs2] at hr
   refine ⟨_,VR.of_sc rfl,?_⟩
   rw [hr]
   have h0 : hg = 0 := by omega
   have h1 : lw = 0 := by omega
   subst h0 h1
   simp [Instr.slice,hu,hb1,hs]
  ·
   cases h
 ·
  cases h
theorem op_slice (Y : Cy P KT N0 M O R D X Hd) (ho : ops[j]? = some o) (hw : Region.wanted o (yielded ops a.tmps) = true) {t : TypeId} {x : Operand} {lo hi mx : Option Operand} (hop : o.op = .slice t x lo hi mx) (hA : OpdR S aA a o) (hS : Sim P KT An S s l) (hF : Hd i (l ++ fr) w) (h : evSlice P t (aA.at x) (lo.map aA.at) (hi.map aA.at) (mx.map aA.at) s = some v)
  (k : Out P KT An Hd S s s fr v fun i' v' w' => OpsI X fn ops rest i' Q (a.put o.dst v') w') : OpsI X fn ops (j :: rest) i Q a w := by
 obtain ⟨v',h1,h2⟩ := slice_sound hop hA hS h
 refine za1 Y.C Y.T ho hw fun w₁ K hK => ?_
 rw [(evS_run h2 w₁ #[]).1]
 exact hK _ (k i S l w v' (Who.le_refl S) (fun _ _ => rfl) hS hF h1) (evS_run h2 w₁ #[]).2
end
end
section
open Go.Conc Go.RowKit Go.Lib
section
variable {ι : Type} {P : Program} {KT : TypeId → Prop} {An : Who} {N0 : ι → Nat} {M : ι → World → Nat → Prop} {O : ι → Nat → Prop} {R : ι → World → World → Prop} {D : ι → World → World → Array Event → Prop} {X : ι → Goroutine → World → Prop} {Hd : ι → List (Nat × Obj) → World → Prop}
variable {fn : FuncId} {Q : PostI ι} {a : Act} {w : World} {i : ι} {S : Who} {s s' : AS} {l fr rl : List (Nat × Obj)} {aA : TL} {v : Value} {ops : Array Oper} {j : Nat} {rest : List Nat} {o : Oper} {kt : TypeId → Bool} {H : List (Nat × Obj) → World → Prop}
theorem opsI_append0C (C : ClosedI P true R D X) (Z : Co KT (N0 i) (M i) (O i) (R i) (D i) H) {x y : Operand} {t e t' : TypeId} {sz n m c : Nat} {v z : Value} {bytes bt off : Nat} {xs news : List Value} {cur : Array Value} {fz : Nat × Nat} (k : Nat) (ho : ops[j]? = some o) (hw : Region.wanted o (yielded ops a.tmps) = true) (hop : o.op = .call { callee := .builtin .append,args := #[x,y],argTypes := #[t,t] })
  (hx : ∀ w,(Builtin.append_ #[t,t] o.type #[a.eval x, .slice (some ⟨bt,off,none⟩) m c]).run P w = (Builtin.append_ #[t,t] o.type #[v, .slice (some ⟨bt,off,none⟩) m c]).run P w ∧ (Builtin.append_ #[t,t] o.type #[a.eval x, .slice (some ⟨bt,off,none⟩) m c]).events P w #[] = (Builtin.append_ #[t,t] o.type #[v, .slice (some ⟨bt,off,none⟩) m c]).events P w #[]) (hy : a.eval y = .slice (some ⟨bt,off,none⟩) m c) (he : ¬ KT e) (ht : P.underlying t = some (.slice e)) (hi : (P.info? e).map (fun i => (i.zero,i.size,i.bytes)) = some (some z,sz,bytes)) (hz : z.cells.size = sz) (hsz : 0 < sz) (hm : 0 < m) (hl : news.length = m * sz) (h1 : ∀ u ∈ news,u.oneCell' = true) (hn : n + m ≤ maxLen) (hby : (n + m) * bytes ≤ 140737488355328)
  (hF : H (rl ++ l) w) (hk : l[k]? = some (bt, .cells cur t' fz)) (hnews : ∀ j u,news[j]? = some u → cur[off + j]? = some u) (hr : RowIn0 e sz v n xs rl)
  (h : ∀ v' rl' w',H (rl' ++ l) w' → RowIn e sz v' (n + m) (xs ++ news) rl' → OpsI X fn ops rest i Q (a.put o.dst v') w') : OpsI X fn ops (j :: rest) i Q a w := by
 refine za0 C ho hw fun w₁ hR K hK => ?_
 have hF₁ := Z.rely hF hR
 have hmem : (bt,Obj.cells cur t' fz) ∈ rl ++ l := List.mem_append_right _ (List.mem_of_getElem? hk)
 obtain ⟨hmb,hb⟩ := Z.own hF₁ hmem
 obtain ⟨v',w',rl',hrun,hF',hr',hO,_,_,hev,_⟩ := HL.append0 (l := []) (P := P) (rl := rl) Z.env he (by simpa using (Z.hl hF₁).left.rebase) hr t o.type z bytes ht hi hz hsz ⟨bt,off,none⟩ m c hm hl (fun j u hu => by rw [Addr.add_lit]; simp [World.cell?,hb,hnews j u hu]) hmb h1 hn hby
 ·
  have hF' : HL (M i) (O i) (N0 i) (keysOf rl) w₁ rl' w' := by simpa using hF'
  have hr2 : (execOp a.eval o).run P w₁ = .ok (.value v') w' := by
   unfold execOp
   simp only [hop,resolve,invoke,builtin,Sem.run_bind,Sem.run_pure,Result.andThen_ok,List.map_toArray,List.map_cons,List.map_nil,hy,(hx w₁).1,hrun]
  have he2 : (execOp a.eval o).events P w₁ #[] = (Builtin.append_ #[t,t] o.type #[v, .slice (some ⟨bt,off,none⟩) m c]).events P w₁ #[] := by
   unfold execOp
   simp only [hop,resolve,invoke,builtin,Sem.events_bind,Sem.run_pure,Sem.events_pure,Result.evThen_ok,List.map_toArray,List.map_cons,List.map_nil,hy,(hx w₁).1,(hx w₁).2,hrun]
  rw [hr2]
  refine hK _ _ ⟨Z.env.does (Z.size hF₁) hO fun ev hl => ?_,h v' rl' w' (Z.call hF₁ hF') hr'⟩
  have hl := mem_listed hl
  rw [he2] at hl
  exact hev ev hl
theorem opsI_appendS0C (C : ClosedI P true R D X) (Z : Co KT (N0 i) (M i) (O i) (R i) (D i) H) {x y : Operand} {t u e : TypeId} {n : Nat} {v : Value} {xs : List Value} {str : ByteArray} (ho : ops[j]? = some o) (hw : Region.wanted o (yielded ops a.tmps) = true) (hop : o.op = .call { callee := .builtin .append,args := #[x,y],argTypes := #[t,u] })
  (hx : a.eval x = v) (hy : a.eval y = .string str) (he : ¬ KT e) (ht : P.underlying t = some (.slice e)) (hu : P.underlying u = some .string) (hi : (P.info? e).map (fun i => (i.zero,i.size,i.bytes)) = some (some (.int .u8 0),1,1)) (hn : n + str.size ≤ 140737488355328)
  (hF : H (rl ++ l) w) (hr : RowIn0 e 1 v n xs rl)
  (h : ∀ v' rl' w',H (rl' ++ l) w' → RowIn0 e 1 v' (n + str.size) (xs ++ strCells str) rl' → OpsI X fn ops rest i Q (a.put o.dst v') w') : OpsI X fn ops (j :: rest) i Q a w := by
 refine za0 C ho hw fun w₁ hR K hK => ?_
 have hF₁ := Z.rely hF hR
 obtain ⟨v',w',rl',hrun,hF',⟨hr',_⟩,hO,_,_,hev⟩ := HL.appendStr0 (l := []) (P := P) (rl := rl) Z.env he (by simpa using (Z.hl hF₁).left.rebase) hr t u o.type ht hu hi str hn
 have hF' : HL (M i) (O i) (N0 i) (keysOf rl) w₁ rl' w' := by simpa using hF'
 have hr2 : (execOp a.eval o).run P w₁ = .ok (.value v') w' := by
  unfold execOp
  simp only [hop,resolve,invoke,builtin,Sem.run_bind,Sem.run_pure,Result.andThen_ok,List.map_toArray,List.map_cons,List.map_nil,hx,hy,hrun]
 have he2 : (execOp a.eval o).events P w₁ #[] = (Builtin.append_ #[t,u] o.type #[v, .string str]).events P w₁ #[] := by
  unfold execOp
  simp only [hop,resolve,invoke,builtin,Sem.events_bind,Sem.run_pure,Sem.events_pure,Result.evThen_ok,List.map_toArray,List.map_cons,List.map_nil,hx,hy,hrun]
 rw [hr2]
 refine hK _ _ ⟨Z.env.does (Z.size hF₁) hO fun ev hl => ?_,h v' rl' w' (Z.call hF₁ hF') hr'⟩
 have hl := mem_listed hl
 rw [he2] at hl
 exact hev ev hl
theorem Sim.erased (hS : Sim P KT An S s l) {b g z e k : Nat} {o' : Obj} (hg : S b = some (g,z,e)) (hb : s.get b ≠ none) (hk : l[k]? = some (g,o')) : Sim P KT An S (s.set b none) (l.eraseIdx k) where
 live b' o1 h1 := by
  rw [AS.get_set] at h1
  split at h1
  ·
   cases h1
  ·
   next hne =>
   obtain ⟨g',z',e',o3,h2,h3,h4,h5⟩ := hS.live b' o1 h1
   refine ⟨g',z',e',o3,h2,?_,h4,h5⟩
   obtain ⟨ob,hob⟩ := Option.ne_none_iff_exists'.1 hb
   have hgg : g' ≠ g := fun eq => hne (hS.inj b' b o1 ob _ _ h1 hob h2 hg eq)
   have hm : (g',o3) ∈ (g,o') :: l.eraseIdx k := (perm_front hk).mem_iff.2 h3
   rcases List.mem_cons.1 hm with q | q
   ·
    cases q; exact absurd rfl hgg
   ·
    exact q
 inj m m' o1 o2 x x' h1 h2 := by
  rw [AS.get_set] at h1 h2
  split at h1
  ·
   cases h1
  ·
   split at h2
   ·
    cases h2
   ·
    exact hS.inj m m' o1 o2 x x' h1 h2
 lt m o1 h1 := by
  rw [AS.get_set] at h1
  split at h1
  ·
   cases h1
  ·
   exact hS.lt m o1 h1
 an := hS.an
theorem grown_row (Y : Cy P KT N0 M O R D X Hd) (hS : Sim P KT An S s l) {e : TypeId} {sz n : Nat} {v' : Value} {xsA xsR : List Value} {rl' : List (Nat × Obj)} (hn0 : 0 < n) (hsz : 0 < sz) (hF : Hd i (rl' ++ (l ++ fr)) w) (hr : RowIn0 e sz v' n xsR rl') (hfr : S s.nx = none) (hes : sizeT P e = some sz) (hke : ¬ KT e) (hlen : xsA.length = n * sz)
  (hrel : ∀ (m : Nat) (x y : Value),xsA[m]? = some x → xsR[m]? = some y → VR S x y) : ∃ S' l',S.le S' ∧ (∀ b,b < s.nx ∨ s.nx + 1 ≤ b → S' b = S b) ∧ Sim P KT An S' (s.add (.cells xsA.toArray e (1,1))) l' ∧ Hd i (l' ++ fr) w ∧ VR S' (.slice (some ⟨s.nx,0,none⟩) n n) v' := by
 rcases hr.2 with ⟨_,h0,_⟩ | ⟨g,cap,cur,rfl,rfl,h1,h2,h3,h4⟩
 ·
  omega
 have hF2 : Hd i ((g,Obj.cells cur e) :: l ++ fr) w := hF
 have hor : OR (S.put s.nx (g,cur.size,sz)) cur.size (.cells xsA.toArray e (1,1)) (.cells cur e) := by
  refine ⟨cur,rfl,rfl,⟨?_,fun hfz => by cases hfz⟩,fun m x y hx hy => ?_⟩
  ·
   simp; rw [hlen,h3]; exact Nat.mul_le_mul_right _ h1
  ·
   have hm : m < n * sz := by rw [← hlen]; have := (Array.getElem?_eq_some_iff.1 hx).1; simpa using this
   refine (hrel m x y (by simpa using hx) ?_).mono (Who.le_put hfr)
   rw [← h4,List.getElem?_take,if_pos hm]
   simpa using hy
 refine ⟨S.put s.nx (g,cur.size,sz),_,Who.le_put hfr,fun b hb => ?_,hS.grown hfr (Y.fresh hF2) hor fun cs t fz hc => ?_,hF2,VR.of_sl Who.put_self (Nat.le_refl _) h1 h2 (by rw [h3]; omega)⟩
 ·
  unfold Who.put
  rw [if_neg (by omega)]
 ·
  cases hc
  exact ⟨hes,hke⟩
theorem cells_real (hS : Sim P KT An S s l) {sz n c : Nat} {ad : Addr} {v' : Value} {xs : List Value} (hv : VR S (.slice (some ad) n c) v') (h : zj5 s sz (some ad) n = some xs) (hn : 0 < n) :
  ∃ (g c' k : Nat) (cs' : Array Value) (t : TypeId),v' = .slice (some ⟨g,ad.off,none⟩) n c' ∧ l[k]? = some (g, .cells cs' t) ∧ xs.length = n * sz ∧ ad.off + n * sz ≤ cs'.size ∧ ∀ (m : Nat) (x y : Value),xs[m]? = some x → ((cs'.toList.drop ad.off).take (n * sz))[m]? = some y → VR S x y := by
 obtain ⟨g,z,e,o',c',h1,rfl,h3,h4,h5⟩ := hv.sl_any
 have h5 : o' = ad.off := by omega
 subst h5
 obtain ⟨b,off,sp⟩ := ad
 unfold zj5 at h
 simp only at h
 split at h
 ·
  next cs t fz hb =>
  split at h
  ·
   next hle =>
   cases h
   obtain ⟨kk,ob,hk,hlt,_,hor,_⟩ := hS.at (fr := []) hb h1
   obtain ⟨cs',rfl,hz,⟨hle2,_⟩,hcell⟩ := hor
   refine ⟨g,c',kk,cs',t,rfl,hk,by simp; omega,by simp only at *; omega,fun m x y hx hy => ?_⟩
   rw [List.getElem?_take] at hx hy
   split at hx
   ·
    next hm =>
    rw [if_pos hm] at hy
    rw [List.getElem?_drop] at hx hy
    exact hcell _ x y (by simpa using hx) (by simpa using hy)
   ·
    cases hx
  ·
   cases h
 ·
  cases h
theorem row_real (hS : Sim P KT An S s l) {e : TypeId} {sz n c b : Nat} {cs : Array Value} {t : TypeId} {fz : Nat × Nat} {v' : Value} (hv : VR S (.slice (some ⟨b,0,none⟩) n c) v') (hb : s.get b = some (.cells cs t fz)) (ht : t = e) (hsz : sizeT P e = some sz) (hn : n * sz ≤ cs.size) :
  ∃ (g z e' k : Nat) (cs' : Array Value),S b = some (g,z,e') ∧ l[k]? = some (g, .cells cs' e) ∧ RowIn0 e sz v' n (cs'.toList.take (n * sz)) [(g, .cells cs' e)] ∧ ∀ (m : Nat) (x y : Value),(cs.toList.take (n * sz))[m]? = some x → (cs'.toList.take (n * sz))[m]? = some y → VR S x y := by
 subst ht
 obtain ⟨g,z,e',c',h1,rfl,h3,h4,h5,h6⟩ := hv.sl
 obtain ⟨kk,ob,hk,hlt,_,hor,hty⟩ := hS.at (fr := []) hb h1
 obtain ⟨cs',rfl,hz,⟨hle2,_⟩,hcell⟩ := hor
 have hee : e' = sz := by
  have := (hty cs t fz rfl).1
  rw [hsz] at this
  cases this
  rfl
 subst hee
 refine ⟨g,z,e',kk,cs',h1,hk,⟨by simp; omega, .inr ⟨g,c',cs',rfl,rfl,by omega,h5,by omega,rfl⟩⟩,fun m x y hx hy => ?_⟩
 rw [List.getElem?_take] at hx hy
 split at hx
 ·
  next hm =>
  rw [if_pos hm] at hy
  exact hcell m x y (by simpa using hx) (by simpa using hy)
 ·
  cases hx
theorem app_rel {xs ys us vs : List Value} (h1 : xs.length = ys.length) (hx : ∀ (m : Nat) (x y : Value),xs[m]? = some x → ys[m]? = some y → VR S x y) (hu : ∀ (m : Nat) (x y : Value),us[m]? = some x → vs[m]? = some y → VR S x y) : ∀ (m : Nat) (x y : Value),(xs ++ us)[m]? = some x → (ys ++ vs)[m]? = some y → VR S x y := by
 intro m x y h h'
 rw [List.getElem?_append] at h h'
 rw [← h1] at h'
 split at h
 ·
  rw [if_pos (by assumption)] at h'
  exact hx m x y h h'
 ·
  rw [if_neg (by assumption)] at h'
  exact hu _ x y h h'
theorem one_rel {xs ys : List Value} (h1 : xs.length = ys.length) (hx : ∀ (m : Nat) (x y : Value),xs[m]? = some x → ys[m]? = some y → VR S x y) (h : xs.all Value.oneCell' = true) : ∀ u ∈ ys,u.oneCell' = true := by
 intro u hu
 obtain ⟨m,hm⟩ := List.mem_iff_getElem?.1 hu
 have hl := (List.getElem?_eq_some_iff.1 hm).1
 have hl' : m < xs.length := by omega
 rw [(hx m _ u (List.getElem?_eq_getElem hl') hm).oneCell]
 rw [List.all_eq_true] at h
 exact h _ (List.getElem_mem _)
theorem append_zero {t e ty : TypeId} {sz : Nat} {base ad : Option Addr} {n cap c : Nat} (ht : P.underlying t = some (.slice e)) (hs : sizeT P e = some sz) (hn : n ≤ cap) : evS P (Builtin.append_ #[t,t] ty #[.slice base n cap, .slice ad 0 c]) = some (.slice base n cap) := by
 unfold Builtin.append_
 cases base <;> cases ad <;> simp [ht,hs,Builtin.lenOf,Builtin.firstCells,loadCells,loadCellsFrom,storeCells,hn]
theorem append_zeroS {t u e ty : TypeId} {sz : Nat} {base : Option Addr} {n cap : Nat} {str : ByteArray} (ht : P.underlying t = some (.slice e)) (hu : P.underlying u = some .string) (hs : sizeT P e = some sz) (hn : n ≤ cap) (h0 : str.size = 0) : evS P (Builtin.append_ #[t,u] ty #[.slice base n cap, .string str]) = some (.slice base n cap) := by
 have h1 : (str.extract 0 0).data.map (fun b => Value.int .u8 b.toNat) = #[] := by
  apply Array.toList_inj.1
  simp [ByteArray.data_extract]
 unfold Builtin.append_
 cases base <;> simp [ht,hu,hs,Builtin.lenOf,Builtin.firstCells,storeCells,hn,h0,h1]
theorem append_cap0 {t e ty : TypeId} {z : Value} {sz bytes m c : Nat} {p q : Addr} (ht : P.underlying t = some (.slice e)) (hi : (P.info? e).map (fun i => (i.zero,i.size,i.bytes)) = some (some z,sz,bytes)) (hm : 0 < m) (hb : m * bytes ≤ 140737488355328) (w : World) :
  (Builtin.append_ #[t,t] ty #[.slice (some p) 0 0, .slice (some q) m c]).run P w = (Builtin.append_ #[t,t] ty #[.slice none 0 0, .slice (some q) m c]).run P w ∧
  (Builtin.append_ #[t,t] ty #[.slice (some p) 0 0, .slice (some q) m c]).events P w #[] = (Builtin.append_ #[t,t] ty #[.slice none 0 0, .slice (some q) m c]).events P w #[] := by
 obtain ⟨i0,hi,h1,h2,h3⟩ := info_parts hi
 have hc : ¬ Builtin.nextslicecap m 0 * bytes > 2 ^ 48 := by
  have : Builtin.nextslicecap m 0 = m := by simp [Builtin.nextslicecap,hm]
  rw [this]
  omega
 have hm' : ¬ m ≤ 0 := by omega
 have hm2 : m ≠ 0 := by omega
 unfold Builtin.append_
 constructor
 iterate 2
  ·
   simp [run_underlying ht,sizeOf,typeInfo,hi,h1,h2,h3,Builtin.lenOf,Builtin.firstCells,loadCells,loadCellsFrom,hm',hm2,hc]
end
end
section
open Go.Conc Go.RowKit Go.Lib
section
variable {ι : Type} {P : Program} {KT : TypeId → Prop} {An : Who} {N0 : ι → Nat} {M : ι → World → Nat → Prop} {O : ι → Nat → Prop} {R : ι → World → World → Prop} {D : ι → World → World → Array Event → Prop} {X : ι → Goroutine → World → Prop} {Hd : ι → List (Nat × Obj) → World → Prop}
variable {fn : FuncId} {Q : PostI ι} {a : Act} {w : World} {i : ι} {S : Who} {s s' : AS} {l fr rl : List (Nat × Obj)} {aA : TL} {v : Value} {ops : Array Oper} {j : Nat} {rest : List Nat} {o : Oper} {kt : TypeId → Bool}
theorem op_evS (Y : Cy P KT N0 M O R D X Hd) (ho : ops[j]? = some o) (hw : Region.wanted o (yielded ops a.tmps) = true) (hS : Sim P KT An S s l) (hF : Hd i (l ++ fr) w) {v' : Value} (h : evS P (execOp a.eval o) = some (.value v')) (hv : VR S v v')
  (k : Out P KT An Hd S s s fr v fun i' v' w' => OpsI X fn ops rest i' Q (a.put o.dst v') w') : OpsI X fn ops (j :: rest) i Q a w := by
 refine za1 Y.C Y.T ho hw fun w₁ K hK => ?_
 rw [(evS_run h w₁ #[]).1]
 exact hK _ (k i S l w v' (Who.le_refl S) (fun _ _ => rfl) hS hF hv) (evS_run h w₁ #[]).2
theorem evS_builtin {c : Call} {b : Builtin} {x y : Operand} {r : Value} (hop : o.op = .call c) (hcal : c.callee = .builtin b) (hargs : c.args = #[x,y]) {t u : TypeId} (hts : c.argTypes = #[t,u])
  (h : evS P (match b with | .append => Builtin.append_ #[t,u] o.type #[a.eval x,a.eval y] | _ => Builtin.unsafeString_ #[t,u] o.type #[a.eval x,a.eval y]) = some r) (hb : b = .append ∨ b = .unsafeString) : evS P (execOp a.eval o) = some (.value r) := by
 rcases hb with rfl | rfl
 iterate 2
  ·
   simp only at h
   simp [execOp,hop,resolve,hcal,invoke,builtin,hargs,hts,h]
theorem op_append (Y : Cy P KT N0 M O R D X Hd) (hkt : ∀ t,kt t = false → ¬ KT t) (ho : ops[j]? = some o) (hw : Region.wanted o (yielded ops a.tmps) = true) {x y : Operand} {t e : TypeId} (hop : o.op = .call { callee := .builtin .append,args := #[x,y],argTypes := #[t,t] }) (hA : OpdR S aA a o) (hS : Sim P KT An S s l) (hF : Hd i (l ++ fr) w)
  {yy : Option Addr} {m cy sz bytes : Nat} {z : Value} {news : List Value} (hyy : aA.at y = .slice yy m cy) (ht : P.underlying t = some (.slice e)) (hi : (P.info? e).map (fun i => (i.zero,i.size,i.bytes)) = some (some z,sz,bytes)) (hcl : zj5 s sz yy m = some news) (hz : z.cells.size = sz) (hsz : 0 < sz) (hby : bytes ≤ 1000) (hm9 : m ≤ 1000000000) (hke : kt e = false) (hap : rowsApart (aA.at x) yy = true) (hone : news.all Value.oneCell' = true)
  (h : zd4 P e (aA.at x) news m s = some (v,s')) (hfr : ∀ b,s.nx ≤ b → b < s'.nx → S b = none)
  (k : Out P KT An Hd S s s' fr v fun i' v' w' => OpsI X fn ops rest i' Q (a.put o.dst v') w') : OpsI X fn ops (j :: rest) i Q a w := by
 have hA' := hA
 unfold OpdR at hA
 rw [hop] at hA
 have hx := hA x (by simp [Op.operands,Call.operands])
 have hy := hA y (by simp [Op.operands,Call.operands])
 rw [hyy] at hy
 obtain ⟨i0,hi0,h1z,h1s,h1b⟩ := info_parts hi
 have hes : sizeT P e = some sz := by simp [sizeT,hi0,h1s]
 have hby' : ∀ n,n ≤ 1000000000 → n * bytes ≤ 140737488355328 := fun n hn => Nat.le_trans (Nat.mul_le_mul hn hby) (by omega)
 by_cases hm0 : m = 0
 ·
  subst hm0
  have hy' : ∃ ad c,a.eval y = .slice ad 0 c := by
   cases yy with
   | none => rw [hy.sc rfl]; exact ⟨_,_,rfl⟩
   | some ad => obtain ⟨g,z,e,o',c',_,h2,_⟩ := hy.sl_any; exact ⟨_,_,h2⟩
  obtain ⟨ad,c,hy'⟩ := hy'
  have key : ∀ base n cap,a.eval x = .slice base n cap → n ≤ cap → evS P (execOp a.eval o) = some (.value (a.eval x)) := fun base n cap he hn =>
   evS_builtin hop rfl rfl rfl (by simp only; rw [he,hy']; exact append_zero ht hes hn) (.inl rfl)
  unfold zd4 at h
  split at h
  ·
   next hv =>
   simp only [if_true] at h
   cases h
   rw [hv] at hx
   have hx' := hx.sc rfl
   exact op_evS Y ho hw hS hF (key _ _ _ hx' (Nat.le_refl _)) (by rw [hv]; exact hx) k
  ·
   next b n cp hv =>
   simp only [if_true] at h
   cases h
   rw [hv] at hx
   obtain ⟨g,z',e',c',h1,h2,h3,h4,_⟩ := hx.sl
   exact op_evS Y ho hw hS hF (key _ _ _ h2 (by omega)) (by rw [hv]; exact hx) k
  ·
   simp at h
  ·
   cases h
 ·
  have hmp : 0 < m := by omega
  obtain ⟨ad,rfl⟩ : ∃ ad,yy = some ad := by
   cases yy with
   | none => simp [zj5,hm0] at hcl
   | some ad => exact ⟨ad,rfl⟩
  obtain ⟨gy,cy',ky,csy,ty,hy',hky,hlen,hle,hrel⟩ := cells_real hS hy hcl hmp
  have hlr : ((csy.toList.drop ad.off).take (m * sz)).length = m * sz := by simp; omega
  have honeR := one_rel (by rw [hlen,hlr]) hrel hone
  have hnewsR : ∀ (q : Nat) (u : Value),((csy.toList.drop ad.off).take (m * sz))[q]? = some u → csy[ad.off + q]? = some u := fun q u hu => by
   rw [List.getElem?_take] at hu
   split at hu
   ·
    rw [List.getElem?_drop] at hu; simpa using hu
   ·
    cases hu
  unfold zd4 at h
  split at h
  ·
   next hv =>
   rw [if_neg hm0] at h
   cases h
   rw [hv] at hx
   have hx' := hx.sc rfl
   have hk2 : (l ++ fr)[ky]? = some (gy, .cells csy ty) := by rw [List.getElem?_append_left (List.getElem?_eq_some_iff.1 hky).1]; exact hky
   refine opsI_append0C Y.C (Y.Z hF) (rl := []) (l := l ++ fr) (xs := []) (n := 0) ky ho hw hop (fun w => by rw [hx']; exact ⟨rfl,rfl⟩) hy' (hkt e hke) ht hi hz hsz hmp hlr honeR (by simp [maxLen]; omega) (hby' _ (by omega)) (by simpa using hF) hk2 hnewsR (RowIn.nil e sz).zero fun v' rl' w' hF' hr' => ?_
   obtain ⟨S',l',h1,h2,h3,h4,h5⟩ := grown_row Y hS hmp hsz hF' (by simpa using hr'.zero) (hfr _ (Nat.le_refl _) (by simp)) hes (hkt e hke) hlen hrel
   exact k i S' l' w' v' h1 h2 h3 h4 h5
  ·
   next b n cp hv =>
   rw [if_neg hm0] at h
   split at h
   ·
    next cs t' fz sz' hb hs' =>
    rw [hes] at hs'
    cases hs'
    split at h
    ·
     next hc =>
     obtain ⟨hc1,hc2,hc3⟩ := hc
     cases h
     rw [hv] at hx
     obtain ⟨g,zz,e',kx,csx,h1,hkx,hrow,hrelx⟩ := row_real (l := l) hS hx hb hc1 hes hc2
     have hgy : gy ≠ g := by
      rintro rfl
      obtain ⟨b2,off2,sp2⟩ := ad
      have hy2 : ∃ z2 e2,S b2 = some (gy,z2,e2) := by
       obtain ⟨g2,z2,e2,o2,c2,q1,q2,_⟩ := hy.sl_any
       rw [hy'] at q2
       cases q2
       exact ⟨z2,e2,q1⟩
      obtain ⟨z2,e2,hy2⟩ := hy2
      have hb2 : ∃ ob2,s.get b2 = some ob2 := by
       unfold zj5 at hcl
       simp only at hcl
       split at hcl
       ·
        next q _ _ hq => exact ⟨_,hq⟩
       ·
        cases hcl
      obtain ⟨ob2,hb2⟩ := hb2
      have := hS.inj b2 b ob2 _ _ _ hb2 hb hy2 h1 rfl
      rw [hv] at hap
      simp [rowsApart,this] at hap
     have hklt := (List.getElem?_eq_some_iff.1 hkx).1
     have hkL : (l ++ fr)[kx]? = some (g, .cells csx e) := by rw [List.getElem?_append_left hklt]; exact hkx
     have hF1 := (Y.Z hF).front hF kx hkL
     rw [List.eraseIdx_append_of_lt_length hklt] at hF1
     have hmem : (gy,Obj.cells csy ty) ∈ l.eraseIdx kx ++ fr := by
      refine List.mem_append_left _ ?_
      have hm2 : (gy,Obj.cells csy ty) ∈ (g,Obj.cells csx e) :: l.eraseIdx kx := (perm_front hkx).mem_iff.2 (List.mem_of_getElem? hky)
      rcases List.mem_cons.1 hm2 with q | q
      ·
       cases q; exact absurd rfl hgy
      ·
       exact q
     obtain ⟨ky2,hky2⟩ := List.mem_iff_getElem?.1 hmem
     refine opsI_append0C Y.C (Y.Z hF) (rl := [(g, .cells csx e)]) (l := l.eraseIdx kx ++ fr) ky2 ho hw hop (fun w => ⟨rfl,rfl⟩) hy' (hkt e hke) ht hi hz hsz hmp hlr honeR (by simp [maxLen]; omega) (hby' _ hc3) hF1 hky2 hnewsR hrow fun v' rl' w' hF' hr' => ?_
     have hS2 := hS.erased h1 (by rw [hb]; simp) hkx
     have hlx : (cs.toList.take (n * sz)).length = n * sz := by simp; omega
     have hlx' := hrow.1
     obtain ⟨S',l',q1,q2,q3,q4,q5⟩ := grown_row Y hS2 (by omega) hsz hF' hr'.zero (hfr _ (Nat.le_refl _) (by simp)) hes (hkt e hke) (xsA := cs.toList.take (n * sz) ++ news) (by rw [List.length_append,hlx,hlen,Nat.add_mul]) (app_rel (by rw [hlx,hlx']) hrelx hrel)
     exact k i S' l' w' v' q1 q2 q3 q4 q5
    ·
     cases h
   ·
    cases h
  ·
   next hv =>
   rw [if_neg hm0] at h
   cases h
   rw [hv] at hx
   obtain ⟨g,zz,e',o',c',h1,h2,h3,h4,h5⟩ := hx.sl_flag
   have hc0 := h4 rfl
   subst hc0
   have hk2 : (l ++ fr)[ky]? = some (gy, .cells csy ty) := by rw [List.getElem?_append_left (List.getElem?_eq_some_iff.1 hky).1]; exact hky
   refine opsI_append0C Y.C (Y.Z hF) (rl := []) (l := l ++ fr) (xs := []) (n := 0) (v := .slice none 0 0) ky ho hw hop (fun w => by rw [h2]; exact append_cap0 ht hi hmp (hby' _ hm9) w) hy' (hkt e hke) ht hi hz hsz hmp hlr honeR (by simp [maxLen]; omega) (hby' _ (by omega)) (by simpa using hF) hk2 hnewsR (RowIn.nil e sz).zero fun v' rl' w' hF' hr' => ?_
   obtain ⟨S',l',q1,q2,q3,q4,q5⟩ := grown_row Y hS hmp hsz hF' (by simpa using hr'.zero) (hfr _ (Nat.le_refl _) (by simp)) hes (hkt e hke) hlen hrel
   exact k i S' l' w' v' q1 q2 q3 q4 q5
  ·
   cases h
theorem strCells_rel (str : ByteArray) : ∀ (m : Nat) (x y : Value),(strCells str)[m]? = some x → (strCells str)[m]? = some y → VR S x y := fun m x y hx hy => by
 rw [hx] at hy
 cases hy
 unfold strCells at hx
 rw [List.getElem?_map,Option.map_eq_some_iff] at hx
 obtain ⟨b,_,rfl⟩ := hx
 exact VR.of_sc rfl
theorem op_appendS (Y : Cy P KT N0 M O R D X Hd) (hkt : ∀ t,kt t = false → ¬ KT t) (ho : ops[j]? = some o) (hw : Region.wanted o (yielded ops a.tmps) = true) {x y : Operand} {t u e : TypeId} (hop : o.op = .call { callee := .builtin .append,args := #[x,y],argTypes := #[t,u] }) (hA : OpdR S aA a o) (hS : Sim P KT An S s l) (hF : Hd i (l ++ fr) w)
  {str : ByteArray} (hyy : aA.at y = .string str) (ht : P.underlying t = some (.slice e)) (hu : P.underlying u = some .string) (hi : (P.info? e).map (fun i => (i.zero,i.size,i.bytes)) = some (some (.int .u8 0),1,1)) (hm9 : str.size ≤ 1000000000) (hke : kt e = false) (hpl : plainRow (aA.at x) = true)
  (h : zd4 P e (aA.at x) (strCells str) str.size s = some (v,s')) (hfr : ∀ b,s.nx ≤ b → b < s'.nx → S b = none)
  (k : Out P KT An Hd S s s' fr v fun i' v' w' => OpsI X fn ops rest i' Q (a.put o.dst v') w') : OpsI X fn ops (j :: rest) i Q a w := by
 unfold OpdR at hA
 rw [hop] at hA
 have hx := hA x (by simp [Op.operands,Call.operands])
 have hy := hA y (by simp [Op.operands,Call.operands])
 rw [hyy] at hy
 have hy' := hy.sc rfl
 obtain ⟨i0,hi0,h1z,h1s,h1b⟩ := info_parts hi
 have hes : sizeT P e = some 1 := by simp [sizeT,hi0,h1s]
 have hlen : (strCells str).length = str.size * 1 := by rw [strCells_length,Nat.mul_one]
 by_cases hm0 : str.size = 0
 ·
  have key : ∀ base n cap,a.eval x = .slice base n cap → n ≤ cap → evS P (execOp a.eval o) = some (.value (a.eval x)) := fun base n cap he hn =>
   evS_builtin hop rfl rfl rfl (by simp only; rw [he,hy']; exact append_zeroS ht hu hes hn hm0) (.inl rfl)
  rw [hm0] at h
  unfold zd4 at h
  split at h
  ·
   next hv =>
   simp only [if_true] at h
   cases h
   rw [hv] at hx
   have hx' := hx.sc rfl
   exact op_evS Y ho hw hS hF (key _ _ _ hx' (Nat.le_refl _)) (by rw [hv]; exact hx) k
  ·
   next b n cp hv =>
   simp only [if_true] at h
   cases h
   rw [hv] at hx
   obtain ⟨g,z',e',c',h1,h2,h3,h4,_⟩ := hx.sl
   exact op_evS Y ho hw hS hF (key _ _ _ h2 (by omega)) (by rw [hv]; exact hx) k
  ·
   simp at h
  ·
   cases h
 ·
  have hmp : 0 < str.size := by omega
  unfold zd4 at h
  split at h
  ·
   next hv =>
   rw [if_neg hm0] at h
   cases h
   rw [hv] at hx
   have hx' := hx.sc rfl
   refine opsI_appendS0C Y.C (Y.Z hF) (rl := []) (l := l ++ fr) (xs := []) (n := 0) ho hw hop hx' hy' (hkt e hke) ht hu hi (by omega) (by simpa using hF) (RowIn.nil e 1).zero fun v' rl' w' hF' hr' => ?_
   obtain ⟨S',l',h1,h2,h3,h4,h5⟩ := grown_row Y hS hmp (by omega) hF' (by simpa using hr') (hfr _ (Nat.le_refl _) (by simp)) hes (hkt e hke) hlen (strCells_rel str)
   exact k i S' l' w' v' h1 h2 h3 h4 h5
  ·
   next b n cp hv =>
   rw [if_neg hm0] at h
   split at h
   ·
    next cs t' fz sz' hb hs' =>
    rw [hes] at hs'
    cases hs'
    split at h
    ·
     next hc =>
     obtain ⟨hc1,hc2,hc3⟩ := hc
     cases h
     rw [hv] at hx
     obtain ⟨g,zz,e',kx,csx,h1,hkx,hrow,hrelx⟩ := row_real (l := l) hS hx hb hc1 hes hc2
     have hklt := (List.getElem?_eq_some_iff.1 hkx).1
     have hkL : (l ++ fr)[kx]? = some (g, .cells csx e) := by rw [List.getElem?_append_left hklt]; exact hkx
     have hF1 := (Y.Z hF).front hF kx hkL
     rw [List.eraseIdx_append_of_lt_length hklt] at hF1
     refine opsI_appendS0C Y.C (Y.Z hF) (rl := [(g, .cells csx e)]) (l := l.eraseIdx kx ++ fr) ho hw hop rfl hy' (hkt e hke) ht hu hi (by omega) hF1 hrow fun v' rl' w' hF' hr' => ?_
     have hS2 := hS.erased h1 (by rw [hb]; simp) hkx
     have hlx : (cs.toList.take (n * 1)).length = n * 1 := by simp; omega
     have hlx' := hrow.1
     obtain ⟨S',l',q1,q2,q3,q4,q5⟩ := grown_row Y hS2 (by omega) (by omega) hF' hr' (hfr _ (Nat.le_refl _) (by simp)) hes (hkt e hke) (xsA := cs.toList.take (n * 1) ++ strCells str) (by rw [List.length_append,hlx,hlen,Nat.add_mul]) (app_rel (by rw [hlx,hlx']) hrelx (strCells_rel str))
     exact k i S' l' w' v' q1 q2 q3 q4 q5
    ·
     cases h
   ·
    cases h
  ·
   next hv =>
   rw [hv] at hpl
   simp [plainRow] at hpl
  ·
   cases h
theorem evBytes_cells : ∀ {l : List Value} {bs : List UInt8},evBytes l = some bs → l = bs.map fun b => Value.int .u8 b.toNat
 | [],bs,h => by simp [evBytes] at h; subst h; rfl
 | x :: l,bs,h => by
  unfold evBytes at h
  split at h
  ·
   next e => cases e
  ·
   next y r e =>
   cases e
   split at h
   ·
    next hr =>
    split at h
    ·
     next bs' hb =>
     cases h
     rw [evBytes_cells hb]
     simp only [List.map_cons]
     congr 2
     have : (y.toNat.toUInt8).toNat = y.toNat := by
      rw [Nat.toUInt8,UInt8.toNat_ofNat']
      omega
     rw [this]
     omega
    ·
     cases h
   ·
    cases h
  ·
   cases h
theorem op_ustr (Y : Cy P KT N0 M O R D X Hd) (ho : ops[j]? = some o) (hw : Region.wanted o (yielded ops a.tmps) = true) {x y : Operand} {pt it e : TypeId} (hop : o.op = .call { callee := .builtin .unsafeString,args := #[x,y],argTypes := #[pt,it] }) (hA : OpdR S aA a o) (hS : Sim P KT An S s l) (hF : Hd i (l ++ fr) w)
  {b : Nat} {n : Int} {cs : Array Value} {t : TypeId} {fz : Nat × Nat} {bs : List UInt8} (hx : aA.at x = .pointer (some ⟨b,0,none⟩)) (hy : aA.at y = .int .i64 n) (hp : P.underlying pt = some (.pointer e)) (hb : s.get b = some (.cells cs t fz)) (hce : P.cellsOf e = 1) (hte : t = e) (hn0 : 0 < n) (hn9 : n ≤ 1000000000) (hnc : n.toNat ≤ cs.size) (hbs : evBytes (cs.toList.take n.toNat) = some bs)
  (k : Out P KT An Hd S s (s.set b none) fr (.string ⟨bs.toArray⟩) fun i' v' w' => OpsI X fn ops rest i' Q (a.put o.dst v') w') : OpsI X fn ops (j :: rest) i Q a w := by
 subst hte
 unfold OpdR at hA
 rw [hop] at hA
 have hx' := hA x (by simp [Op.operands,Call.operands])
 have hy' := hA y (by simp [Op.operands,Call.operands])
 rw [hx] at hx'
 rw [hy] at hy'
 have hy' := hy'.sc rfl
 obtain ⟨g,z,e',h1,h2⟩ := hx'.ptr
 obtain ⟨kk,o',hk,hlt,hk',hor,hty⟩ := hS.at (fr := fr) hb h1
 obtain ⟨cs',rfl,hz,⟨hle,hex⟩,hcell⟩ := hor
 have hbl : bs.length = n.toNat := by
  have := congrArg List.length (evBytes_cells hbs)
  simp at this
  omega
 have hne : bs ≠ [] := by
  rintro rfl
  simp at hbl
  omega
 have hyn : a.eval y = .int .i64 (bs.length : Int) := by rw [hy']; congr 1; omega
 have Z := Y.Z hF
 refine za0 Y.C ho hw fun w₁ hR K hK => ?_
 have hF₁ := Z.rely hF hR
 obtain ⟨hm,hg⟩ := Z.own hF₁ (List.mem_of_getElem? hk')
 have hsh : w₁.shape? g = some (t,cs'.size) := by simp [World.shape?,hg]
 have hcells : ∀ j x,bs[j]? = some x → w₁.cell? ((⟨g,0,none⟩ : Addr).add j) = some (.int .u8 x.toNat) := fun q b1 hq => by
  rw [Addr.add_lit]
  have hlq : q < bs.length := (List.getElem?_eq_some_iff.1 hq).1
  have hcq : cs[q]? = some (.int .u8 b1.toNat) := by
   have : (cs.toList.take n.toNat)[q]? = some (.int .u8 b1.toNat) := by rw [evBytes_cells hbs]; simp [hq]
   rw [List.getElem?_take,if_pos (by omega)] at this
   simpa using this
  have hq' : q < cs'.size := by omega
  have := (hcell q _ _ hcq (Array.getElem?_eq_getElem hq')).sc rfl
  simp [World.cell?,hg,this,hq']
 have hO : Own KT (M i) w₁ (w₁.freeze ⟨g,0,none⟩ bs.length) := Own.freeze hg hm (hty cs t fz rfl).2 _
 have hrun := Lib.run_unsafeString_row (P := P) w₁ pt it o.type t hp hce g cs'.size hsh bs hne (by omega) (by omega) hcells
 have hev := zh6 (P := P) w₁ pt it o.type t hp hce g cs'.size hsh bs hne (by omega) (by omega) hcells
 have hr2 : (execOp a.eval o).run P w₁ = .ok (.value (.string ⟨bs.toArray⟩)) (w₁.freeze ⟨g,0,none⟩ bs.length) := by
  unfold execOp
  simp only [hop,resolve,invoke,builtin,Sem.run_bind,Sem.run_pure,Result.andThen_ok,List.map_toArray,List.map_cons,List.map_nil,h2,hyn,hrun]
 have he2 : (execOp a.eval o).events P w₁ #[] = (Builtin.unsafeString_ #[pt,it] o.type #[.pointer (some ⟨g,0,none⟩), .int .i64 bs.length]).events P w₁ #[] := by
  unfold execOp
  simp only [hop,resolve,invoke,builtin,Sem.events_bind,Sem.run_pure,Sem.events_pure,Result.evThen_ok,List.map_toArray,List.map_cons,List.map_nil,h2,hyn,hrun]
 rw [hr2]
 have hF1 := Z.front hF₁ kk hk'
 rw [List.eraseIdx_append_of_lt_length hlt] at hF1
 have hlt' := Z.env.lt hm
 obtain ⟨ob,hob⟩ : ∃ ob,(w₁.freeze ⟨g,0,none⟩ bs.length).heap[g]? = some ob := by
  have hl2 : g < (w₁.freeze ⟨g,0,none⟩ bs.length).heap.size := Nat.lt_of_lt_of_le hlt' hO.grow
  exact ⟨_,Array.getElem?_eq_getElem hl2⟩
 have hF2 := Z.drop (Z.turn hF1 hO hob fun q hq => freeze_ne _ hq)
 refine hK _ _ ⟨?_,k i S _ _ _ (Who.le_refl S) (fun _ _ => rfl) (hS.erased h1 (by rw [hb]; simp) hk) hF2 (VR.of_sc rfl)⟩
 refine Z.env.does (Z.size hF₁) hO fun ev hl => ?_
 have hl := mem_listed hl
 rw [he2] at hl
 obtain ⟨ad,q1,q2⟩ := hev ev hl
 exact .inl ⟨ad,q1,by rw [q2]; exact Z.env.mine hO hm⟩
theorem op_copy (Y : Cy P KT N0 M O R D X Hd) (ho : ops[j]? = some o) (hw : Region.wanted o (yielded ops a.tmps) = true) {x y : Operand} {t u e : TypeId} (hop : o.op = .call { callee := .builtin .copy,args := #[x,y],argTypes := #[t,u] }) (hA : OpdR S aA a o) (hS : Sim P KT An S s l) (hF : Hd i (l ++ fr) w)
  {b off n cp : Nat} {str : ByteArray} {cs : Array Value} {bt : TypeId} {fz : Nat × Nat} (hx : aA.at x = .slice (some ⟨b,off,none⟩) n cp) (hy : aA.at y = .string str) (ht : P.underlying t = some (.slice e)) (hb : s.get b = some (.cells cs bt fz)) (hes : sizeT P e = some 1) (hn : str.size = n) (hfit : off + n ≤ cs.size)
  (k : Out P KT An Hd S s (s.set b (some (.cells (putAt cs off (strCells str)) bt fz))) fr (goInt (lenL str.data.toList 0)) fun i' v' w' => OpsI X fn ops rest i' Q (a.put o.dst v') w') : OpsI X fn ops (j :: rest) i Q a w := by
 unfold OpdR at hA
 rw [hop] at hA
 have hx' := hA x (by simp [Op.operands,Call.operands])
 have hy' := hA y (by simp [Op.operands,Call.operands])
 rw [hx] at hx'
 rw [hy] at hy'
 have hy' := hy'.sc rfl
 obtain ⟨g,z,e',c',h1,h2,h3,h4,h5,h6⟩ := hx'.sl
 obtain ⟨kk,o',hk,hlt,hk',hor,hty⟩ := hS.at (fr := fr) hb h1
 obtain ⟨cs',rfl,hz,⟨hle,hex⟩,hcell⟩ := hor
 have Z := Y.Z hF
 refine za0 Y.C ho hw fun w₁ hR K hK => ?_
 have hF₁ := Z.rely hF hR
 obtain ⟨hm,hg⟩ := Z.own hF₁ (List.mem_of_getElem? hk')
 have hsl : (strCells str).length = str.size := strCells_length str
 have hrun := run_copy_row_string (P := P) w₁ t u o.type e g off n c' str cs' bt ht hes hg (by omega) (by omega)
 have hrun : (Builtin.copy_ #[t,u] o.type #[.slice (some ⟨g,off,none⟩) n c', .string str]).run P w₁ = .ok (goInt str.size) (w₁.setRow g (putAt cs' off (strCells str))) := by
  rw [hrun]
  unfold putAt
  rw [hsl]
  rfl
 have hev : ∀ ev ∈ (Builtin.copy_ #[t,u] o.type #[.slice (some ⟨g,off,none⟩) n c', .string str]).events P w₁ #[], ∃ ad : Addr,ev.loc = .cell ad ∧ ad.block = g := by
  intro ev hev
  have hst := run_storeCells_at (P := P) g off bt (strCells str) 0 cs' w₁ hg (by omega) (strCells_oneCell str)
  have hse := events_storeCells_at (P := P) g off bt (strCells str) 0 cs' w₁ #[] hg (by omega) (strCells_oneCell str)
  cases hq : P.info? e with
  | none => simp [sizeT,hq] at hes
  | some it =>
   have hmin : Nat.min str.size n = str.size := by rw [hn]; exact Nat.min_self n
   have htk : ((str.extract 0 str.size).data.map fun b => Value.int .u8 b.toNat).toList = strCells str := by
    simp [strCells,ByteArray.data_extract]
   have he2 : (Builtin.copy_ #[t,u] o.type #[.slice (some ⟨g,off,none⟩) n c', .string str]).events P w₁ #[] = (storeCells ⟨g,off,none⟩ (strCells str)).events P w₁ #[] := by
    simp [Builtin.copy_,run_underlying ht,underlying,ht,Builtin.lenOf,Builtin.firstCells,sizeOf,typeInfo,hq,hmin]
    rw [List.take_of_length_le (by rw [List.length_map,Array.length_toList]; exact Nat.le_refl _)]
    rfl
   rw [he2] at hev
   rcases hse ev hev with z | z
   ·
    simp at z
   ·
    exact z
 have hO : Own KT (M i) w₁ (w₁.setRow g (putAt cs' off (strCells str))) := Own.setRow hg hm (hty cs bt fz rfl).2
 have hr2 : (execOp a.eval o).run P w₁ = .ok (.value (goInt str.size)) (w₁.setRow g (putAt cs' off (strCells str))) := by
  unfold execOp
  simp only [hop,resolve,invoke,builtin,Sem.run_bind,Sem.run_pure,Result.andThen_ok,List.map_toArray,List.map_cons,List.map_nil,h2,hy',hrun]
 have he2 : (execOp a.eval o).events P w₁ #[] = (Builtin.copy_ #[t,u] o.type #[.slice (some ⟨g,off,none⟩) n c', .string str]).events P w₁ #[] := by
  unfold execOp
  simp only [hop,resolve,invoke,builtin,Sem.events_bind,Sem.run_pure,Sem.events_pure,Result.evThen_ok,List.map_toArray,List.map_cons,List.map_nil,h2,hy',hrun]
 rw [hr2]
 have hF2 := Z.turnAt hF₁ kk hk' hO (o' := .cells (putAt cs' off (strCells str)) bt) (by simp [World.setRow,Array.getElem?_modify,hg]) (fun q hq => by simp [World.setRow,Array.getElem?_modify,Ne.symm hq])
 rw [List.set_append_left _ _ hlt] at hF2
 have hpr := putAt_rel (S := S) (xs := strCells str) (ys := strCells str) (off := off) hz hle hcell rfl (strCells_rel str) (by omega)
 have hlen : lenL str.data.toList 0 = str.size := by rw [zl8,Nat.zero_add,Array.length_toList]; rfl
 refine hK _ _ ⟨?_,k i S _ _ _ (Who.le_refl S) (fun _ _ => rfl) (hS.turned hb h1 hk (Y.nodupL hF) ⟨_,rfl,hpr.1,⟨hpr.2.1,fun hfz => by have := hex hfz; simp [putAt]; omega⟩,hpr.2.2⟩ fun cs1 t1 fz1 he => ?_) hF2 (by rw [hlen]; exact VR.of_sc rfl)⟩
 ·
  refine Z.env.does (Z.size hF₁) hO fun ev hl => ?_
  have hl := mem_listed hl
  rw [he2] at hl
  obtain ⟨ad,q1,q2⟩ := hev ev hl
  exact .inl ⟨ad,q1,by rw [q2]; exact Z.env.mine hO hm⟩
 ·
  cases he
  exact hty cs bt fz rfl
end
end
end Go.Proofs.YtgcaionclkbehaaGreatDoor
