import Derived.Test.YtgcaionclkbehaaGreatDoorE10
set_option linter.all false
namespace Go.Proofs.YtgcaionclkbehaaGreatDoor
section
open Go.Conc Go.RowKit Go.Lib
theorem beqL_sound {a b : ByteArray} (h : beqL a.data.toList b.data.toList = true) : a = b := by
 rw [beqL_eq] at h
 exact bytes_inj' (eq_of_beq h)
theorem zip_all {f : Value × Value → Bool} : ∀ (l m : List Value),l.length = m.length → (l.zip m).all f = true → (∀ p,f p = true → p.1 = p.2) → l = m
 | [], [],_,_,_ => rfl
 | x :: l,y :: m,hl,h,hf => by
  simp only [List.zip_cons_cons,List.all_cons,Bool.and_eq_true] at h
  rw [show x = y from hf _ h.1,zip_all l m (by simpa using hl) h.2 hf]
 | [],_ :: _,hl,_,_ => by simp at hl
 | _ :: _, [],hl,_,_ => by simp at hl
theorem zk8 : ∀ {n : Nat} {x y : Value},veq n x y = true → x = y
 | 0,_,_,h => by simp [veq] at h
 | n + 1,x,y,h => by
  have ih : ∀ p : Value × Value,veq n p.1 p.2 = true → p.1 = p.2 := fun p hp => zk8 hp
  unfold veq at h
  split at h
  ·
   rw [eq_of_beq h]
  ·
   simp only [Bool.and_eq_true] at h; rw [eq_of_beq h.1,eq_of_beq h.2]
  ·
   rw [beqL_sound h]
  ·
   rw [eq_of_beq h]
  ·
   simp only [Bool.and_eq_true] at h; rw [eq_of_beq h.1.1,Nat.eq_of_beq_eq_true h.1.2,Nat.eq_of_beq_eq_true h.2]
  ·
   simp only [Bool.and_eq_true] at h
   obtain ⟨⟨⟨⟨h1,h2⟩,h3⟩,h4⟩,h5⟩ := h
   rw [eq_of_beq h1,Array.toList_inj.1 (zip_all _ _ (Nat.eq_of_beq_eq_true h2) h4 ih),Array.toList_inj.1 (zip_all _ _ (Nat.eq_of_beq_eq_true h3) h5 ih)]
  ·
   simp only [Bool.and_eq_true] at h
   rw [Array.toList_inj.1 (zip_all _ _ (Nat.eq_of_beq_eq_true h.1) h.2 ih)]
  ·
   rfl
  ·
   rfl
  ·
   cases h
theorem fold_bit {acc : List Nat} {j : Nat} : ∀ (l : List Edge) (m : Nat),(l.foldl (fun m e => if Region.binds .any e then m ||| (1 <<< e.on ||| acc.getD e.on 0) else m) m).testBit j = true →
  m.testBit j = true ∨ ∃ e ∈ l,Region.binds .any e = true ∧ (j = e.on ∨ (acc.getD e.on 0).testBit j = true)
 | [],m,h => .inl h
 | e :: l,m,h => by
  simp only [List.foldl_cons] at h
  rcases fold_bit l _ h with q | ⟨e',he',q⟩
  ·
   split at q
   ·
    next hb =>
    simp only [Nat.testBit_or,Bool.or_eq_true] at q
    rcases q with q | q | q
    ·
     exact .inl q
    ·
     rw [Nat.one_shiftLeft,Nat.testBit_two_pow] at q
     exact .inr ⟨e,by simp,hb, .inl (by simpa using (of_decide_eq_true q).symm)⟩
    ·
     exact .inr ⟨e,by simp,hb, .inr q⟩
   ·
    exact .inl q
  ·
   exact .inr ⟨e',by simp [he'],q⟩
theorem depsOf_spec : ∀ (todo : List Oper) (acc : List Nat),(zh2 todo acc).take acc.length = acc ∧ (zh2 todo acc).length = acc.length + todo.length ∧ ∀ (m : Nat) (o : Oper),todo[m]? = some o → (zh2 todo acc)[acc.length + m]? = some (depOf ((zh2 todo acc).take (acc.length + m)) o)
 | [],acc => ⟨by simp [zh2],by simp [zh2],fun m o h => by simp at h⟩
 | o :: rest,acc => by
  obtain ⟨h1,h2,h3⟩ := depsOf_spec rest (acc ++ [depOf acc o])
  have e : zh2 (o :: rest) acc = zh2 rest (acc ++ [depOf acc o]) := rfl
  rw [e]
  have hacc : (zh2 rest (acc ++ [depOf acc o])).take acc.length = acc := by
   have := congrArg (List.take acc.length) h1
   rw [List.take_take] at this
   simpa using this
  refine ⟨hacc,by rw [h2]; simp; omega,fun m o' hm => ?_⟩
  cases m with
  | zero =>
   simp at hm
   subst hm
   rw [Nat.add_zero,hacc]
   have := congrArg (fun l => l[acc.length]?) h1
   simp only [List.getElem?_take,List.length_append,List.length_singleton,Nat.lt_succ_self,if_true] at this
   rw [this]
   simp
  | succ m =>
   have := h3 m o' (by simpa using hm)
   simp only [List.length_append,List.length_singleton] at this
   rw [show acc.length + (m + 1) = acc.length + 1 + m by omega]
   exact this
def hangs (ops : Array Oper) (i j : Nat) : Prop := ((zh2 ops.toList []).getD i 0).testBit j = true
theorem hangs_step {ops : Array Oper} (hb : zi3 ops = true) {i j : Nat} {o : Oper} (ho : ops[i]? = some o) (h : hangs ops i j) : ∃ e ∈ o.after,Region.binds .any e = true ∧ (j = e.on ∨ hangs ops e.on j) := by
 obtain ⟨_,_,h3⟩ := depsOf_spec ops.toList []
 have hi := h3 i o (by simpa using ho)
 simp only [List.length_nil,Nat.zero_add] at hi
 unfold hangs at h
 rw [List.getD_eq_getElem?_getD,hi,Option.getD_some] at h
 rcases fold_bit _ _ h with q | ⟨e,he,q1,q2⟩
 ·
  simp at q
 ·
  have he' : e ∈ o.after := by simpa using he
  refine ⟨e,he',q1,q2.imp id fun q => ?_⟩
  have hlt := edges_back hb ho he' q1
  unfold hangs
  rw [List.getD_eq_getElem?_getD,List.getElem?_take,if_pos hlt] at q
  rw [List.getD_eq_getElem?_getD]
  exact q
theorem hangs_lt {ops : Array Oper} (hb : zi3 ops = true) : ∀ (i : Nat) {j : Nat},i < ops.size → hangs ops i j → j < i := by
 intro i
 induction i using Nat.strongRecOn with
 | _ i ih =>
  intro j hi h
  have ho : ops[i]? = some ops[i] := Array.getElem?_eq_getElem hi
  obtain ⟨e,he,h1,h2⟩ := hangs_step hb ho h
  have hlt := edges_back hb ho he h1
  rcases h2 with rfl | h2
  ·
   exact hlt
  ·
   have := ih e.on hlt (by omega) h2
   omega
def ClosedJ (ops : Array Oper) (J : Nat → Bool) : Prop := ∀ i j,i < ops.size → J i = true → hangs ops i j → J j = true
theorem zf8 {ops : Array Oper} (hb : zi3 ops = true) {J : Nat → Bool} (hc : ClosedJ ops J) {i j : Nat} (hi : i < ops.size) (hr : ReadyAt ops J i) (h : hangs ops i j) : J j = true := by
 have ho : ops[i]? = some ops[i] := Array.getElem?_eq_getElem hi
 obtain ⟨e,he,h1,h2⟩ := hangs_step hb ho h
 have hJ := hr _ ho e he h1
 rcases h2 with rfl | h2
 ·
  exact hJ
 ·
  exact hc e.on j (by have := edges_back hb ho he h1; omega) hJ h2
section
variable {P : Program} {kt : TypeId → Bool} {call : FuncId → Array Value → AS → Option (Value × AS)} {ops : Array Oper}
def vlOf (tr : List (TL × Value × AS)) (m : Nat) : Value := match tr[m]? with
 | some (_,v,_) => v
 | none => undef
def slOf (todo : List Oper) (tr : List (TL × Value × AS)) (a : TL) : Nat → TL
 | 0 => a
 | m + 1 => (slOf todo tr a m).put ((todo[m]?).bind (·.dst)) (vlOf tr m)
theorem slOf_cons (o : Oper) (rest : List Oper) (tr : List (TL × Value × AS)) (a a0 : TL) (v : Value) (s1 : AS) : ∀ m,slOf (o :: rest) ((a0,v,s1) :: tr) a (m + 1) = slOf rest tr (a.put o.dst v) m
 | 0 => rfl
 | m + 1 => by
  have := slOf_cons o rest tr a a0 v s1 m
  rw [slOf,this,slOf]
  rfl
theorem heapAt_cons (x : TL × Value × AS) (tr : List (TL × Value × AS)) (s : AS) : ∀ m,m ≤ tr.length → zl2 (x :: tr) s (m + 1) = zl2 tr x.2.2 m
 | 0,_ => rfl
 | m + 1,h => by
  have : tr[m]? = some tr[m] := List.getElem?_eq_getElem (by omega)
  simp [zl2,this]
def StepAt (P : Program) (kt : TypeId → Bool) (call : FuncId → Array Value → AS → Option (Value × AS)) (ops : Array Oper) (o : Oper) (a : TL) (s : AS) (v : Value) (s' : AS) : Prop :=
 (Region.wanted o (zc7 ops a) = true ∧ evOp P kt call a o s = some (v,s')) ∨ (Region.wanted o (zc7 ops a) = false ∧ v = undef ∧ s' = s)
theorem evTr_spec : ∀ (todo : List Oper) {a : TL} {s : AS} {tr : List (TL × Value × AS)},evTr P kt call ops todo a s = some tr → tr.length = todo.length ∧ ∀ (m : Nat) (o : Oper),todo[m]? = some o →
  tr[m]? = some (slOf todo tr a m,vlOf tr m,zl2 tr s (m + 1)) ∧ StepAt P kt call ops o (slOf todo tr a m) (zl2 tr s m) (vlOf tr m) (zl2 tr s (m + 1))
 | [],a,s,tr,h => by simp [evTr] at h; subst h; exact ⟨rfl,fun m o h => by simp at h⟩
 | o :: rest,a,s,tr,h => by
  have key : ∀ v s1 tr',(Region.wanted o (zc7 ops a) = true ∧ evOp P kt call a o s = some (v,s1)) ∨ (Region.wanted o (zc7 ops a) = false ∧ v = undef ∧ s1 = s) → evTr P kt call ops rest (a.put o.dst v) s1 = some tr' → tr = (a,v,s1) :: tr' →
    tr.length = (o :: rest).length ∧ ∀ (m : Nat) (o' : Oper),(o :: rest)[m]? = some o' → tr[m]? = some (slOf (o :: rest) tr a m,vlOf tr m,zl2 tr s (m + 1)) ∧ StepAt P kt call ops o' (slOf (o :: rest) tr a m) (zl2 tr s m) (vlOf tr m) (zl2 tr s (m + 1)) := by
   rintro v s1 tr' hst htr rfl
   obtain ⟨h1,h2⟩ := evTr_spec rest htr
   refine ⟨by simp [h1],fun m o' ho' => ?_⟩
   cases m with
   | zero =>
    simp at ho'
    subst ho'
    exact ⟨rfl,hst⟩
   | succ m =>
    have ho2 : rest[m]? = some o' := by simpa using ho'
    have hm : m < tr'.length := by rw [h1]; exact (List.getElem?_eq_some_iff.1 ho2).1
    obtain ⟨q1,q2⟩ := h2 m o' ho2
    have e1 := slOf_cons o rest tr' a a v s1 m
    have e2 := heapAt_cons (a,v,s1) tr' s m (by omega)
    have e3 := heapAt_cons (a,v,s1) tr' s (m + 1) (by omega)
    have e4 : vlOf ((a,v,s1) :: tr') (m + 1) = vlOf tr' m := rfl
    rw [e1,e2,e3,e4]
    exact ⟨by simpa using q1,q2⟩
  unfold evTr at h
  split at h
  ·
   next hw =>
   split at h
   ·
    next v s1 hv =>
    split at h
    ·
     next tr' htr => cases h; exact key v s1 tr' (.inl ⟨hw,hv⟩) htr rfl
    ·
     cases h
   ·
    cases h
  ·
   next hw =>
   split at h
   ·
    next tr' htr => cases h; exact key undef s tr' (.inr ⟨by simpa using hw,rfl,rfl⟩) htr rfl
   ·
    cases h
end
end
section
open Go.Conc Go.RowKit Go.Lib
structure Drawn (P : Program) (kt : TypeId → Bool) (call : FuncId → Array Value → AS → Option (Value × AS)) (ops : Array Oper) (q : Nat) (aA : TL) (s : AS) (sl : Nat → TL) (vl : Nat → Value) (hp : Nat → AS) : Prop where
 back : zi3 ops = true
 le : q ≤ ops.size
 s0 : sl 0 = aA
 h0 : hp 0 = s
 sl1 : ∀ m o,ops[m]? = some o → sl (m + 1) = (sl m).put o.dst (vl m)
 step : ∀ m o,ops[m]? = some o → StepAt P kt call ops o (sl m) (hp m) (vl m) (hp (m + 1))
 last : ∀ i j,q ≤ i → i < ops.size → j < i → hangs ops i j
 data : ∀ i o t j o',i < q → ops[i]? = some o → .tmp t ∈ o.op.operands → j < q → ops[j]? = some o' → o'.dst = some t → hangs ops i j
 guard : ∀ i o j b,i < q → ops[i]? = some o → o.guard = some (j,b) → hangs ops i j ∧ j < q
 once : ∀ i j o o' t,i < q → j < q → ops[i]? = some o → ops[j]? = some o' → o.dst = some t → o'.dst = some t → i = j
 chain : ∀ i j o o',i < q → ops[i]? = some o → zd8 P o = 3 → j < i → ops[j]? = some o' → 2 ≤ zd8 P o' → hangs ops i j
 loads : ∀ r o t x,r < q → ops[r]? = some o → o.op = .load t x → Region.wanted o (zc7 ops (sl r)) = true → ∀ p,(p = 0 ∨ ∃ e o',p = e + 1 ∧ e < q ∧ ops[e]? = some o' ∧ zd8 P o' = 3) →
  (∀ e o',e < q → ops[e]? = some o' → zd8 P o' = 3 → (e < p → ¬ hangs ops e r) ∧ (p ≤ e → ¬ hangs ops r e)) → zc8 P t ((sl r).at x) (hp p) = some (vl r)
section
variable {P : Program} {kt : TypeId → Bool} {call : FuncId → Array Value → AS → Option (Value × AS)} {ops : Array Oper} {q : Nat} {aA aA' : TL} {s s' : AS} {sl : Nat → TL} {vl : Nat → Value} {hp : Nat → AS}
theorem lastFrom_le (deps : List Nat) : ∀ n,zl3 deps n ≤ n
 | 0 => Nat.le_refl _
 | n + 1 => by
  unfold zl3
  split
  ·
   exact Nat.le_trans (lastFrom_le deps n) (by omega)
  ·
   exact Nat.le_refl _
theorem zf2 {n : Nat} {f : Nat → Bool} (h : (List.range n).all f = true) {i : Nat} (hi : i < n) : f i = true := by
 rw [List.all_eq_true] at h
 exact h i (List.mem_range.2 hi)
theorem drawn_of (h : evDraw P kt call ops aA s = some (aA',s')) : ∃ q sl vl hp,Drawn P kt call ops q aA s sl vl hp ∧ sl ops.size = aA' ∧ hp ops.size = s' := by
 unfold evDraw at h
 simp only at h
 split at h
 ·
  cases h
 ·
  next hn =>
  simp only [not_or,Bool.not_eq_false] at hn
  obtain ⟨hback,hok⟩ := hn
  split at h
  ·
   next tr htr =>
   split at h
   ·
    cases h
   ·
    next hl =>
    simp only [Bool.not_eq_false] at hl
    obtain ⟨t1,t2⟩ := evTr_spec _ htr
    have hsz : ops.toList.length = ops.size := by simp
    refine ⟨zl3 (zh2 ops.toList []) ops.toList.length,slOf ops.toList tr aA,vlOf tr,zl2 tr s,?_,?_⟩
    ·
     unfold okDraw at hok
     simp only [Bool.and_eq_true] at hok
     obtain ⟨⟨k1,k2⟩,k3⟩ := hok
     have hgo : ∀ {i : Nat} {o : Oper},ops[i]? = some o → ops.toList[i]? = some o := fun ho => by simpa using ho
     refine ⟨hback,by rw [← hsz]; exact lastFrom_le _ _,rfl,rfl,fun m o ho => ?_,fun m o ho => (t2 m o (hgo ho)).2,fun i j hi hn hj => ?_,fun i o t j o' hi ho ht hj ho' hd => ?_,fun i o j b hi ho hg => ?_,fun i j o o' t hi hj ho ho' hd hd' => ?_,fun i j o o' hi ho hk hj ho' hk' => ?_,fun r o t x hr ho hop hw p hp hE => ?_⟩
     ·
      have hg : ops.toList[m]? = some o := hgo ho
      simp only [slOf,hg,Option.bind_some]
     ·
      have := zf2 k1 (i := i) (by omega)
      simp only [Bool.or_eq_true,decide_eq_true_eq] at this
      rcases this with z | z
      ·
       omega
      ·
       exact zf2 z hj
     ·
      have := zf2 k2 hi
      rw [hgo ho] at this
      simp only [Bool.and_eq_true] at this
      have h1 := this.1.1
      rw [List.all_eq_true] at h1
      have h2 := h1 t (by simp only [tmpsOf,List.mem_filterMap]; exact ⟨.tmp t,by simpa using ht,rfl⟩)
      have h3 := zf2 h2 hj
      rw [hgo ho'] at h3
      simp only [Option.bind_some,hd,bne_self_eq_false,Bool.false_or] at h3
      exact h3
     ·
      have := zf2 k2 hi
      rw [hgo ho] at this
      simp only [Bool.and_eq_true] at this
      have h1 := this.1.2
      rw [hg] at h1
      simp only [Bool.and_eq_true,decide_eq_true_eq] at h1
      exact h1
     ·
      have := zf2 k2 hi
      rw [hgo ho] at this
      simp only [Bool.and_eq_true] at this
      have h1 := zf2 this.2 hj
      rw [hgo ho'] at h1
      simp only [Option.bind_some,hd,hd',bne_self_eq_false,Bool.or_false,Bool.or_eq_true,beq_iff_eq,reduceCtorEq,or_false] at h1
      exact h1
     ·
      have := zf2 k3 hi
      have e1 : (ops.toList.map (zd8 P)).getD i 0 = 3 := by rw [List.getD_eq_getElem?_getD,List.getElem?_map,hgo ho]; exact hk
      simp only [e1,bne_self_eq_false,Bool.false_or] at this
      have h1 := zf2 this hj
      have e2 : (ops.toList.map (zd8 P)).getD j 0 = zd8 P o' := by rw [List.getD_eq_getElem?_getD,List.getElem?_map,hgo ho']; rfl
      rw [e2] at h1
      have e3 : (zd8 P o').blt 2 = false := by
       rw [Bool.eq_false_iff]
       intro hb
       have := Eq.mp Nat.blt_eq hb
       omega
      rw [e3,Bool.false_or] at h1
      exact h1
     ·
      unfold okLoads at hl
      simp only at hl
      have h1 := zf2 hl hr
      rw [hgo ho,(t2 r o (hgo ho)).1] at h1
      simp only [hop] at h1
      rw [List.all_eq_true] at h1
      have hmem : p ∈ 0 :: (((List.range (zl3 (zh2 ops.toList []) ops.toList.length)).filter fun i => (match ops.toList[i]? with | some o => zd8 P o | none => 0) == 3).map (· + 1)) := by
       rcases hp with rfl | ⟨e,o',rfl,he,ho',hk⟩
       ·
        simp
       ·
        refine List.mem_cons_of_mem _ (List.mem_map.2 ⟨e,List.mem_filter.2 ⟨List.mem_range.2 he,?_⟩,rfl⟩)
        rw [hgo ho']
        simp [hk]
      have h2 := h1 p hmem
      simp only [Bool.or_eq_true,hw,Bool.not_true,Bool.false_eq_true,or_false] at h2
      rcases h2 with z | z
      ·
       rw [List.any_eq_true] at z
       obtain ⟨e,he,z⟩ := z
       obtain ⟨he1,he2⟩ := List.mem_filter.1 he
       have he1 := List.mem_range.1 he1
       obtain ⟨o',ho'⟩ : ∃ o',ops[e]? = some o' := ⟨_,Array.getElem?_eq_getElem (by have := lastFrom_le (zh2 ops.toList []) ops.toList.length; omega)⟩
       rw [hgo ho'] at he2
       have hk : zd8 P o' = 3 := by simpa using he2
       obtain ⟨z1,z2⟩ := hE e o' he1 ho' hk
       simp only [Bool.or_eq_true,Bool.and_eq_true,Bool.not_eq_true'] at z
       rcases z with ⟨za,zb⟩ | ⟨za,zb⟩
       ·
        exact absurd zb (z1 (Eq.mp Nat.blt_eq za))
       ·
        refine absurd zb (z2 ?_)
        apply Classical.byContradiction
        intro hlt
        rw [Eq.mpr Nat.blt_eq (by omega)] at za
        cases za
      ·
       split at z
       ·
        next v' hv' => rw [hv',zk8 z]
       ·
        cases z
    ·
     split at h
     ·
      next a1 v1 s1 trr o1 oo hrev horev =>
      cases h
      have hn0 : 0 < ops.size := by
       have := congrArg List.length horev
       simp at this
       omega
      obtain ⟨m,hm⟩ : ∃ m,ops.size = m + 1 := ⟨ops.size - 1,by omega⟩
      have hml : ops.toList[m]? = some o1 := by
       have := congrArg (fun l => l[0]?) horev
       simp only [List.getElem?_cons_zero] at this
       rw [List.getElem?_reverse (by simp; omega)] at this
       rw [← this]
       congr 1
       simp
       omega
      have htl : tr[m]? = some (a1,v1,s') := by
       have := congrArg (fun l => l[0]?) hrev
       simp only [List.getElem?_cons_zero] at this
       rw [List.getElem?_reverse (by rw [t1]; simp; omega)] at this
       rw [← this]
       congr 1
       rw [t1]
       simp
       omega
      obtain ⟨u1,u2⟩ := t2 m o1 hml
      rw [htl] at u1
      simp only [Option.some.injEq,Prod.mk.injEq] at u1
      obtain ⟨u3,u4,u5⟩ := u1
      rw [hm]
      refine ⟨?_,u5.symm⟩
      simp only [slOf,hml,Option.bind_some, ← u3, ← u4]
     ·
      cases h
  ·
   cases h
end
end
section
open Go.Conc Go.RowKit Go.Lib
section
variable {P : Program} {kt : TypeId → Bool} {call : FuncId → Array Value → AS → Option (Value × AS)} {ops : Array Oper} {q : Nat} {aA aA' : TL} {s s' : AS} {sl : Nat → TL} {vl : Nat → Value} {hp : Nat → AS} {J J' : Nat → Bool} {S : Who} {a : Act}
def CurIs (ops : Array Oper) (q : Nat) (aA : TL) (vl : Nat → Value) (J : Nat → Bool) (t : Nat) (x : Value) : Prop :=
 (∃ m o,m < q ∧ ops[m]? = some o ∧ o.dst = some t ∧ J m = true ∧ x = vl m) ∨ ((∀ m o,m < q → ops[m]? = some o → o.dst = some t → J m = false) ∧ x = aA.getD t undef)
theorem cur_move {t : Nat} {x : Value} (h : CurIs ops q aA vl J t x) (hJ : ∀ m o,m < q → ops[m]? = some o → o.dst = some t → J m = J' m) : CurIs ops q aA vl J' t x := by
 rcases h with ⟨m,o,h1,h2,h3,h4,h5⟩ | ⟨h1,h2⟩
 ·
  exact .inl ⟨m,o,h1,h2,h3,by rw [← hJ m o h1 h2 h3]; exact h4,h5⟩
 ·
  exact .inr ⟨fun m o a1 a2 a3 => by rw [← hJ m o a1 a2 a3]; exact h1 m o a1 a2 a3,h2⟩
theorem sl_len (d : Drawn P kt call ops q aA s sl vl hp) : ∀ m,m ≤ ops.size → (sl m).length = aA.length
 | 0,_ => by rw [d.s0]
 | m + 1,h => by
  have ho : ops[m]? = some (ops[m]'(by omega)) := Array.getElem?_eq_getElem (by omega)
  rw [d.sl1 m _ ho]
  have := sl_len d m (by omega)
  cases hd : (ops[m]'(by omega)).dst with
  | none => exact this
  | some t => show (lput (sl m) t (vl m)).length = _; rw [lput_eq,List.length_set]; exact this
theorem cur_sl (d : Drawn P kt call ops q aA s sl vl hp) {t : Nat} (ht : t < aA.length) : ∀ m,m ≤ q → CurIs ops q aA vl (fun k => decide (k < m)) t ((sl m).getD t undef)
 | 0,_ => .inr ⟨fun m o _ _ _ => by simp,by rw [d.s0]⟩
 | m + 1,h => by
  have hm : m < ops.size := by have := d.le; omega
  have ho : ops[m]? = some ops[m] := Array.getElem?_eq_getElem hm
  have ih := cur_sl d ht m (by omega)
  have hlen := sl_len d m (by omega)
  rw [d.sl1 m _ ho]
  by_cases hd : (ops[m]).dst = some t
  ·
   refine .inl ⟨m,_,by omega,ho,hd,by simp,?_⟩
   rw [hd]
   show (lput (sl m) t (vl m)).getD t undef = _
   rw [lput_eq,List.getD_eq_getElem?_getD,List.getElem?_set]
   simp [hlen,ht]
  ·
   have e : ((sl m).put (ops[m]).dst (vl m)).getD t undef = (sl m).getD t undef := by
    cases hd2 : (ops[m]).dst with
    | none => rfl
    | some u =>
     show (lput (sl m) u (vl m)).getD t undef = _
     rw [lput_eq,List.getD_eq_getElem?_getD,List.getElem?_set,if_neg (by rintro rfl; exact hd hd2), ← List.getD_eq_getElem?_getD]
   rw [e]
   refine cur_move ih fun k o hk hok hdk => ?_
   by_cases e2 : k = m
   ·
    subst e2; rw [ho] at hok; cases hok; exact absurd hdk hd
   ·
    rw [Bool.eq_iff_iff]; simp; omega
def Slots (ops : Array Oper) (q : Nat) (aA : TL) (vl : Nat → Value) (J : Nat → Bool) (S : Who) (a : Act) : Prop :=
 a.tmps.size = aA.length ∧ a.defers = [] ∧ ∀ t x,t < aA.length → CurIs ops q aA vl J t x → VR S x (a.tmps.getD t undef)
theorem slot_rel (d : Drawn P kt call ops q aA s sl vl hp) (hA : Slots ops q aA vl J S a) {m t : Nat} (hm : m ≤ q) (hJ : ∀ j o,j < q → ops[j]? = some o → o.dst = some t → (J j = true ↔ j < m)) : VR S ((sl m).getD t undef) (a.tmps.getD t undef) := by
 by_cases ht : t < aA.length
 ·
  refine hA.2.2 t _ ht (cur_move (cur_sl d ht m hm) fun j o h1 h2 h3 => ?_)
  rw [Bool.eq_iff_iff]
  simp [hJ j o h1 h2 h3]
 ·
  have h1 : (sl m)[t]? = none := List.getElem?_eq_none (by rw [sl_len d m (by have := d.le; omega)]; omega)
  have h2 : a.tmps[t]? = none := Array.getElem?_eq_none (by rw [hA.1]; omega)
  rw [List.getD_eq_getElem?_getD,h1,Array.getD_eq_getD_getElem?,h2]
  exact VR.undef
theorem draw_opd (d : Drawn P kt call ops q aA s sl vl hp) (hok : okOps ops = true) (hA : Slots ops q aA vl J S a) (hc : ClosedJ ops J) {m : Nat} {o : Oper} (hm : m < q) (ho : ops[m]? = some o) (hr : ReadyAt ops J m) : OpdR S (sl m) a o := by
 intro x hx
 have hms : m < ops.size := by have := d.le; omega
 have hxo : okOpd x = true := by
  unfold okOps at hok
  rw [List.all_eq_true] at hok
  have := hok o (by have := Array.mem_of_getElem? ho; simpa using this)
  rw [List.all_eq_true] at this
  exact this x (by simpa using hx)
 cases x with
 | tmp t =>
  refine slot_rel d hA (by omega) fun j o' hj ho' hd => ?_
  have hh := d.data m o t j o' hm ho hx hj ho' hd
  exact ⟨fun _ => hangs_lt d.back m hms hh,fun _ => zf8 d.back hc hms hr hh⟩
 | const v => exact VR.of_sc hxo
 | global g => simp [okOpd] at hxo
 | func f => exact VR.of_fn AR.nil AR.nil
theorem bool_iff {x : List Value} {y : Array Value} {t : Nat} (hl : x.length = y.size) (h : VR S (x.getD t undef) (y.getD t undef)) (b : Bool) : x[t]? = some (.bool b) ↔ y[t]? = some (.bool b) := by
 by_cases ht : t < y.size
 ·
  have h1 : x[t]? = some (x[t]'(by omega)) := List.getElem?_eq_getElem _
  have h2 : y[t]? = some y[t] := Array.getElem?_eq_getElem ht
  rw [List.getD_eq_getElem?_getD,h1,Array.getD_eq_getD_getElem?,h2,Option.getD_some,Option.getD_some] at h
  rw [h1,h2]
  constructor
  ·
   intro e
   simp only [Option.some.injEq] at e ⊢
   rw [e] at h
   exact h.sc rfl
  ·
   intro e
   simp only [Option.some.injEq] at e ⊢
   rw [e] at h
   exact h.bool_inv
 ·
  rw [List.getElem?_eq_none (by omega),Array.getElem?_eq_none (by omega)]
theorem draw_wanted (d : Drawn P kt call ops q aA s sl vl hp) (hA : Slots ops q aA vl J S a) (hc : ClosedJ ops J) {m : Nat} {o : Oper} (hm : m < q) (ho : ops[m]? = some o) (hr : ReadyAt ops J m) : Region.wanted o (yielded ops a.tmps) = Region.wanted o (zc7 ops (sl m)) := by
 have hms : m < ops.size := by have := d.le; omega
 unfold Region.wanted
 split
 ·
  rfl
 ·
  next j want hg =>
  obtain ⟨hh,hjq⟩ := d.guard m o j want hm ho hg
  rw [yielded_slot (aA := sl m) fun t ht b => ?_]
  have hlen : (sl m).length = a.tmps.size := by rw [sl_len d m (by omega),hA.1]
  refine bool_iff (S := S) hlen (slot_rel d hA (by omega) fun j' o' hj' ho' hd => ?_) b
  obtain ⟨oj,hoj⟩ : ∃ oj,ops[j]? = some oj := ⟨_,Array.getElem?_eq_getElem (by have := hangs_lt d.back m hms hh; omega)⟩
  rw [hoj] at ht
  have := d.once j' j o' oj t hj' hjq ho' hoj hd (by simpa using ht)
  subst this
  exact ⟨fun _ => hangs_lt d.back m hms hh,fun _ => zf8 d.back hc hms hr hh⟩
theorem slots_put (d : Drawn P kt call ops q aA s sl vl hp) (hA : Slots ops q aA vl J S a) {S' : Who} (hS : S.le S') {m : Nat} {o : Oper} (hm : m < q) (ho : ops[m]? = some o) (hJ : J m = false) {v' : Value} (hv : VR S' (vl m) v') : Slots ops q aA vl (fun k => if k = m then true else J k) S' (a.put o.dst v') := by
 refine ⟨?_,?_,fun t x ht hx => ?_⟩
 ·
  cases hd : o.dst <;> simp [Act.put,hA.1]
 ·
  cases hd : o.dst <;> exact hA.2.1
 ·
  by_cases hd : o.dst = some t
  ·
   have hxv : x = vl m := by
    rcases hx with ⟨k,ok,h1,h2,h3,h4,h5⟩ | ⟨h1,h2⟩
    ·
     have := d.once k m ok o t h1 hm h2 ho h3 hd
     subst this
     exact h5
    ·
     have := h1 m o hm ho hd
     simp at this
   subst hxv
   rw [hd]
   show VR S' (vl m) ((a.tmps.setIfInBounds t v').getD t undef)
   rw [Array.getD_eq_getD_getElem?,Array.getElem?_setIfInBounds]
   simp only [if_true]
   rw [if_pos (by rw [hA.1]; exact ht)]
   exact hv
  ·
   have hx' : CurIs ops q aA vl J t x := cur_move hx fun k ok h1 h2 h3 => by
    by_cases e : k = m
    ·
     subst e; rw [ho] at h2; cases h2; exact absurd h3 hd
    ·
     simp [e]
   have := (hA.2.2 t x ht hx').mono hS
   cases hd2 : o.dst with
   | none => exact this
   | some u =>
    show VR S' x ((a.tmps.setIfInBounds u v').getD t undef)
    rw [Array.getD_eq_getD_getElem?,Array.getElem?_setIfInBounds,if_neg (by rintro rfl; exact hd hd2), ← Array.getD_eq_getD_getElem?]
    exact this
theorem evQuiet_any {a : TL} {o : Oper} {s1 s1' : AS} {v : Value} (hk : zd8 P o = 0) (h : evOp P kt call a o s1 = some (v,s1')) : s1' = s1 ∧ ∀ s2,evOp P kt call a o s2 = some (v,s2) := by
 unfold zd8 at hk
 split at hk
 ·
  cases hk
 ·
  next hn =>
  unfold evOp at h ⊢
  rw [if_neg hn] at h
  cases hop : o.op <;> simp only [hop] at hk h ⊢ <;> first
   | (cases hk; done)
   | skip
  case slice t x lo hi mx =>
   split at hk
   ·
    next hu =>
    have e : ∀ s2,evSlice P t (a.at x) (lo.map a.at) (hi.map a.at) (mx.map a.at) s2 = evSlice P t (a.at x) (lo.map a.at) (hi.map a.at) (mx.map a.at) s1 := fun s2 => by
     unfold evSlice
     simp only [hu]
     cases a.at x <;> cases Option.map a.at mx <;> rfl
    split at h
    ·
     next v' hv =>
     cases h
     refine ⟨rfl,fun s2 => ?_⟩
     rw [hop] at hn
     rw [if_neg hn,e s2,hv]
    ·
     cases h
   ·
    cases hk
  case call c =>
   rw [hop] at hn
   cases hc : c.callee with
   | value f => rw [hc] at hk; simp at hk
   | invoke r n => rw [hc] at hk; simp at hk
   | builtin b =>
    rw [hc] at h hk
    simp only at h hk
    split at h
    ·
     next v' hv => cases h; exact ⟨rfl,fun s2 => by first | (rw [if_neg hn]; done) | (rw [if_neg hn]; simp only [hv])⟩
    ·
     next hv =>
     exfalso
     unfold zj4 at h
     split at h
     iterate 4
      ·
       simp at hk
     ·
      cases h
  case convert t u x =>
   rw [hop] at hn
   have e : ∀ s2,zl9 P t u (a.at x) s2 = none := fun s2 => by
    unfold zl9
    split
    iterate 2
     ·
      next hu1 hu2 _ => simp [hu1,hu2] at hk
    ·
     rfl
   split at h
   ·
    next v' hv => cases h; exact ⟨rfl,fun s2 => by first | (rw [if_neg hn]; done) | (rw [if_neg hn]; simp only [hv])⟩
   ·
    rw [e] at h; cases h
  all_goals
   rw [hop] at hn
   split at h
   ·
    next v' hv => cases h; exact ⟨rfl,fun s2 => by first | (rw [if_neg hn]; done) | (rw [if_neg hn]; simp only [hv])⟩
   ·
    cases h
end
end
section
open Go.Conc Go.RowKit Go.Lib
theorem nodup_map_inj {α β : Type} {f : α → β} {l : List α} (h : (l.map f).Nodup) {x y : α} (hx : x ∈ l) (hy : y ∈ l) (e : f x = f y) : x = y := by
 induction l with
 | nil => simp at hx
 | cons z l ih =>
  rw [List.map_cons,List.nodup_cons] at h
  rcases List.mem_cons.1 hx with h1 | h1 <;> rcases List.mem_cons.1 hy with h2 | h2
  ·
   rw [h1,h2]
  ·
   exact absurd (List.mem_map.2 ⟨y,h2,by rw [← e,h1]⟩) h.1
  ·
   exact absurd (List.mem_map.2 ⟨x,h1,by rw [e,h2]⟩) h.1
  ·
   exact ih h.2 h1 h2
section
variable {P : Program} {KT : TypeId → Prop} {An : Who} {S : Who} {s : AS} {l l' : List (Nat × Obj)}
theorem Sim.more (h : Sim P KT An S s l) (hl : ∀ x ∈ l,x ∈ l') : Sim P KT An S s l' := ⟨fun b o hb => by
 obtain ⟨g,z,e,o',h1,h2,h3⟩ := h.live b o hb
 exact ⟨g,z,e,o',h1,hl _ h2,h3⟩,h.inj,h.lt,h.an⟩
theorem Sim.adopt (h : Sim P KT An S s l) {g z e : Nat} {ob o' : Obj} (hn : S s.nx = some (g,z,e)) (hg : (g,o') ∈ l) (ho : OR S z ob o') (ht : ∀ cs t fz,ob = .cells cs t fz → sizeT P t = some e ∧ ¬ KT t) (hd : ∀ b o x,s.get b = some o → S b = some x → x.1 ≠ g) : Sim P KT An S (s.add ob) l where
 live b ob1 hb := by
  rw [AS.get_add] at hb
  split at hb
  ·
   next e' => subst e'; cases hb; exact ⟨g,z,e,o',hn,hg,ho,ht⟩
  ·
   exact h.live b ob1 hb
 inj b b' o1 o2 x x' hb hb' hx hx' he := by
  rw [AS.get_add] at hb hb'
  split at hb <;> split at hb'
  ·
   omega
  ·
   next e1 e2 => subst e1; rw [hn] at hx; cases hx; exact absurd he.symm (hd b' o2 x' hb' hx')
  ·
   next e1 e2 => subst e2; rw [hn] at hx'; cases hx'; exact absurd he (hd b o1 x hb hx)
  ·
   exact h.inj b b' o1 o2 x x' hb hb' hx hx' he
 lt b ob1 hb := by
  rw [AS.get_add] at hb
  split at hb
  ·
   next e' => simp [e']
  ·
   have := h.lt b ob1 hb; simp; omega
 an := h.an
end
section
variable {ι : Type} {P : Program} {KT : TypeId → Prop} {An : Who} {N0 : ι → Nat} {M : ι → World → Nat → Prop} {O : ι → Nat → Prop} {R : ι → World → World → Prop} {D : ι → World → World → Array Event → Prop} {X : ι → Goroutine → World → Prop} {Hd : ι → List (Nat × Obj) → World → Prop}
variable {kt : TypeId → Bool} {call : FuncId → Array Value → AS → Option (Value × AS)} {ops : Array Oper} {q : Nat} {aA aA' : TL} {s s' : AS} {sl : Nat → TL} {vl : Nat → Value} {hp : Nat → AS} {J J' : Nat → Bool} {S0 S S1 : Who} {a a1 : Act} {fr l l1 : List (Nat × Obj)} {i i1 : ι} {w w1 : World} {p m : Nat} {B : Nat → Nat × Obj} {As : List Nat} {o : Oper}
def AInfo (P : Program) (kt : TypeId → Bool) (ops : Array Oper) (sl : Nat → TL) (vl : Nat → Value) (hp : Nat → AS) (m : Nat) (ob : Obj) (mk : Nat → Value) : Prop :=
 ∃ o,ops[m]? = some o ∧ zd8 P o = 2 ∧ Region.wanted o (zc7 ops (sl m)) = true ∧ evNew P kt (sl m) o = some (ob,mk) ∧ hp (m + 1) = (hp m).add ob ∧ vl m = mk (hp m).nx
structure Pre (P : Program) (KT : TypeId → Prop) (An : Who) (Hd : ι → List (Nat × Obj) → World → Prop) (kt : TypeId → Bool) (ops : Array Oper) (q : Nat) (aA : TL) (s : AS) (sl : Nat → TL) (vl : Nat → Value) (hp : Nat → AS) (S0 : Who) (fr : List (Nat × Obj)) (J : Nat → Bool) (i : ι) (a : Act) (w : World) (p : Nat) (S : Who) (l : List (Nat × Obj)) (B : Nat → Nat × Obj) (As : List Nat) : Prop where
 pq : p ≤ q
 eff : ∀ m o,m < q → ops[m]? = some o → zd8 P o = 3 → (J m = true ↔ m < p)
 pAt : p = 0 ∨ ∃ e o',p = e + 1 ∧ e < q ∧ ops[e]? = some o' ∧ zd8 P o' = 3
 low : ∀ m ob mk,m < p → AInfo P kt ops sl vl hp m ob mk → J m = true
 nd : As.Nodup
 mem : ∀ m,m ∈ As ↔ (m < q ∧ p ≤ m ∧ J m = true ∧ ∃ ob mk,AInfo P kt ops sl vl hp m ob mk)
 sim : Sim P KT An S (hp p) l
 hd : Hd i (l ++ (As.map B ++ fr)) w
 rec_ : ∀ m ∈ As, ∃ ob mk z e,AInfo P kt ops sl vl hp m ob mk ∧ S (hp m).nx = some ((B m).1,z,e) ∧ OR S z ob (B m).2 ∧ ∀ cs t fz,ob = .cells cs t fz → sizeT P t = some e ∧ ¬ KT t
 fresh : ∀ b,(hp p).nx ≤ b → b < (hp ops.size).nx → S b ≠ none → ∃ m ∈ As,b = (hp m).nx
 le : S0.le S
 out : ∀ b,b < s.nx ∨ (hp ops.size).nx ≤ b → S b = S0 b
 slots : Slots ops q aA vl J S a
theorem hp_step (hc : ∀ f args s v s',call f args s = some (v,s') → s.nx ≤ s'.nx) (d : Drawn P kt call ops q aA s sl vl hp) {m : Nat} (hm : m < ops.size) : (hp m).nx ≤ (hp (m + 1)).nx := by
 have ho : ops[m]? = some ops[m] := Array.getElem?_eq_getElem hm
 rcases d.step m _ ho with ⟨_,h⟩ | ⟨_,_,h⟩
 ·
  exact evOp_nx hc h
 ·
  rw [h]; exact Nat.le_refl _
theorem ze9 (hc : ∀ f args s v s',call f args s = some (v,s') → s.nx ≤ s'.nx) (d : Drawn P kt call ops q aA s sl vl hp) {m : Nat} : ∀ {m'},m ≤ m' → m' ≤ ops.size → (hp m).nx ≤ (hp m').nx
 | 0,h,_ => by rw [Nat.le_zero.1 h]; exact Nat.le_refl _
 | m' + 1,h,h' => by
  by_cases e : m = m' + 1
  ·
   rw [e]; exact Nat.le_refl _
  ·
   exact Nat.le_trans (ze9 hc d (m' := m') (by omega) (by omega)) (hp_step hc d (by omega))
theorem AInfo.nx {ob : Obj} {mk : Nat → Value} (h : AInfo P kt ops sl vl hp m ob mk) : (hp (m + 1)).nx = (hp m).nx + 1 := by
 obtain ⟨o,_,_,_,_,h,_⟩ := h
 rw [h]
 rfl
theorem kind_step (d : Drawn P kt call ops q aA s sl vl hp) (ho : ops[m]? = some o) (hk : zd8 P o ≠ 3) : (∃ ob mk,AInfo P kt ops sl vl hp m ob mk) ∨ ((¬ ∃ ob mk,AInfo P kt ops sl vl hp m ob mk) ∧ hp (m + 1) = hp m) := by
 rcases d.step m o ho with ⟨hw,h⟩ | ⟨hw,hv,h⟩
 ·
  by_cases h2 : isNew o.op = true
  ·
   have hk2 : zd8 P o = 2 := by unfold zd8; rw [if_pos h2]
   have h' := h
   unfold evOp at h'
   rw [if_pos h2] at h'
   split at h'
   ·
    next ob mk hn =>
    simp only [Option.some.injEq,Prod.mk.injEq] at h'
    exact .inl ⟨ob,mk,o,ho,hk2,hw,hn,h'.2.symm,h'.1.symm⟩
   ·
    cases h'
  ·
   right
   refine ⟨?_,?_⟩
   ·
    rintro ⟨ob,mk,o',ho',_,_,hn,_⟩
    rw [ho] at ho'
    cases ho'
    unfold evNew at hn
    cases hop : o.op <;> simp only [hop] at hn h2 <;> first | (cases hn; done) | (simp [isNew] at h2)
   ·
    by_cases hl : ∃ t x,o.op = .load t x
    ·
     obtain ⟨t,x,hop⟩ := hl
     unfold evOp at h
     rw [if_neg h2,hop] at h
     simp only at h
     split at h
     ·
      simp only [Option.some.injEq,Prod.mk.injEq] at h; exact h.2.symm
     ·
      cases h
    ·
     have hk0 : zd8 P o = 0 := by
      unfold zd8 at hk ⊢
      rw [if_neg h2] at hk ⊢
      cases hop : o.op <;> simp only [hop] at hk ⊢ <;> first | rfl | (exact absurd rfl hk) | skip
      case load t x => exact absurd ⟨t,x,hop⟩ hl
      case slice t x lo hi mx => split at hk <;> first | rfl | exact absurd rfl hk
      case call c => split at hk <;> first | rfl | exact absurd rfl hk
      case convert t u x => split at hk <;> first | rfl | exact absurd rfl hk
     exact (evQuiet_any hk0 h).1
 ·
  right
  refine ⟨?_,h⟩
  rintro ⟨ob,mk,o',ho',_,hw',_⟩
  rw [ho] at ho'
  cases ho'
  rw [hw] at hw'
  cases hw'
theorem Pre.merge (Y : Cy P KT N0 M O R D X Hd) (d : Drawn P kt call ops q aA s sl vl hp) (h : Pre P KT An Hd kt ops q aA s sl vl hp S0 fr J i a w p S l B As) {m0 : Nat} (h0 : m0 ≤ q) (hE : ∀ m o,p ≤ m → m < m0 → ops[m]? = some o → zd8 P o ≠ 3) (hAs : ∀ m,p ≤ m → m < m0 → (∃ ob mk,AInfo P kt ops sl vl hp m ob mk) → m ∈ As) :
  ∀ m,p ≤ m → m ≤ m0 → Sim P KT An S (hp m) (l ++ (As.filter (· < m0)).map B) ∧ ∀ b o,(hp m).get b = some o → (∃ o',(hp p).get b = some o') ∨ ∃ m' ∈ As,m' < m ∧ b = (hp m').nx := by
 have hnd := (Y.Z h.hd).nodup h.hd
 rw [List.map_append,List.map_append,List.nodup_append,List.nodup_append] at hnd
 obtain ⟨hn1,⟨hn2,_,_⟩,hn3⟩ := hnd
 rw [List.map_map] at hn2
 intro m
 induction m with
 | zero =>
  intro h1 _
  have : p = 0 := by omega
  subst this
  exact ⟨h.sim.more fun x hx => List.mem_append_left _ hx,fun b o hb => .inl ⟨o,hb⟩⟩
 | succ m ih =>
  intro h1 h2
  by_cases e : p = m + 1
  ·
   subst e
   exact ⟨h.sim.more fun x hx => List.mem_append_left _ hx,fun b o hb => .inl ⟨o,hb⟩⟩
  ·
   obtain ⟨i1,i2⟩ := ih (by omega) (by omega)
   have hms : m < ops.size := by have := d.le; omega
   have ho : ops[m]? = some ops[m] := Array.getElem?_eq_getElem hms
   rcases kind_step d ho (hE m _ (by omega) (by omega) ho) with hA | ⟨_,hA⟩
   ·
    have hmA := hAs m (by omega) (by omega) hA
    obtain ⟨ob,mk,z,e',q1,q2,q3,q4⟩ := h.rec_ m hmA
    obtain ⟨o1,_,_,_,_,q5,_⟩ := q1
    rw [q5]
    refine ⟨i1.adopt q2 (List.mem_append_right _ (List.mem_map.2 ⟨m,List.mem_filter.2 ⟨hmA,by simp; omega⟩,rfl⟩)) q3 q4 fun b ob1 x hb hx => ?_,fun b ob1 hb => ?_⟩
    ·
     intro hxe
     rcases i2 b ob1 hb with ⟨o',hb'⟩ | ⟨m',hm',hlt,rfl⟩
     ·
      obtain ⟨g,zz,ee,oo,r1,r2,_⟩ := h.sim.live b o' hb'
      rw [r1] at hx
      cases hx
      exact hn3 g (List.mem_map.2 ⟨_,r2,rfl⟩) (B m).1 (List.mem_append_left _ (List.mem_map.2 ⟨B m,List.mem_map.2 ⟨m,hmA,rfl⟩,rfl⟩)) hxe
     ·
      obtain ⟨_,_,z',e2,_,r2,_⟩ := h.rec_ m' hm'
      rw [r2] at hx
      cases hx
      have := nodup_map_inj hn2 hm' hmA hxe
      omega
    ·
     rw [AS.get_add] at hb
     split at hb
     ·
      next e3 => exact .inr ⟨m,hmA,by omega,e3⟩
     ·
      rcases i2 b ob1 hb with z1 | ⟨m',hm',hlt,e4⟩
      ·
       exact .inl z1
      ·
       exact .inr ⟨m',hm',by omega,e4⟩
   ·
    rw [hA]
    refine ⟨i1,fun b ob1 hb => ?_⟩
    rcases i2 b ob1 hb with z1 | ⟨m',hm',hlt,e4⟩
    ·
     exact .inl z1
    ·
     exact .inr ⟨m',hm',by omega,e4⟩
end
end
end Go.Proofs.YtgcaionclkbehaaGreatDoor
