import Derived.Test.YtgcaionclkbehaaGreatDoorE2
set_option linter.all false
namespace Go.Proofs.YtgcaionclkbehaaGreatDoor
open Go.Conc Go.RowKit Go.Lib
section
variable {α β : Type} {P : Program}
@[simp] theorem evS_pure (x : α) : evS P (Pure.pure x : Sem α) = some x := rfl
@[simp] theorem evS_pure' (x : α) : evS P (.pure x : Sem α) = some x := rfl
theorem evS_bindS (t : Sem α) (k : α → Sem β) : evS P (t.bind k) = (evS P t).bind fun a => evS P (k a) := by
 induction t with
 | pure a => rfl
 | program f ih => simp only [Sem.bind,evS]; exact ih P
 | _ => rfl
@[simp] theorem evS_bind (t : Sem α) (k : α → Sem β) : evS P (t >>= k) = (evS P t).bind fun a => evS P (k a) := evS_bindS t k
@[simp] theorem evS_map (f : α → β) (t : Sem α) : evS P (Functor.map f t) = (evS P t).map f := by
 show evS P (t.bind (Sem.pure ∘ f)) = _
 rw [evS_bindS]
 cases evS P t <;> rfl
theorem evS_run {t : Sem α} {x : α} (h : evS P t = some x) (w : World) (es : Array Event) : t.run P w = .ok x w ∧ t.events P w es = es := by
 induction t with
 | pure a => simp [evS] at h; subst h; exact ⟨rfl,rfl⟩
 | program f ih => exact ih P h
 | _ => simp [evS] at h
@[simp] theorem evS_underlying (t : TypeId) : evS P (underlying t) = P.underlying t := by
 unfold underlying program
 simp only [evS_bind,evS]
 simp
 cases P.underlying t <;> rfl
@[simp] theorem evS_typeInfo (t : TypeId) : evS P (typeInfo t) = P.info? t := by
 unfold typeInfo program
 simp only [evS_bind,evS]
 simp
 cases P.info? t <;> rfl
@[simp] theorem evS_sizeOf (t : TypeId) : evS P (sizeOf t) = sizeT P t := by
 unfold sizeOf sizeT
 simp only [evS_bind,evS_typeInfo]
 cases P.info? t <;> rfl
@[simp] theorem evS_stuck (why : String) : evS P (stuck why : Sem α) = none := rfl
@[simp] theorem evS_unsupported (u : Unsupported) : evS P (unsupported u : Sem α) = none := rfl
end
theorem wrapF_eq (k : IntKind) (r : Int) : wrapF k r = k.wrap r := by
 unfold wrapF
 split
 iterate 2
  ·
   split
   ·
    next h => simp only [IntKind.wrap,IntKind.bits,IntKind.signed]; simp; omega
   ·
    rfl
 ·
  rfl
theorem beqL_eq : ∀ l m : List UInt8,beqL l m = (l == m)
 | [], [] => rfl
 | [],_ :: _ => rfl
 | _ :: _, [] => rfl
 | x :: l,y :: m => by
  have h : x.toNat.beq y.toNat = (x == y) := by
   rw [Bool.eq_iff_iff]
   simp only [Nat.beq_eq,beq_iff_eq]
   exact ⟨fun h => UInt8.toNat_inj.1 h,fun h => by rw [h]⟩
  simp only [beqL,h,beqL_eq l m]
  show _ = (x == y && l == m)
  cases x == y <;> rfl
theorem zl8 {α : Type} : ∀ (l : List α) (n : Nat),lenL l n = n + l.length
 | [],n => rfl
 | _ :: l,n => by simp only [lenL,zl8 l,List.length_cons]; omega
theorem bytes_toList (x : ByteArray) : x.toList = x.data.toList := by
 exact ByteArray.toList_eq x
theorem bytes_inj' {a b : ByteArray} (h : a.data.toList = b.data.toList) : a = b := by
 obtain ⟨⟨l⟩⟩ := a
 obtain ⟨⟨m⟩⟩ := b
 simp at h
 subst h
 rfl
section
variable {P : Program} {S : Who} {aA : TL} {a : Act} {o : Oper} {v : Value}
theorem evBin_sound {op : BinOp} {x y : Value} (t : TypeId) (h : evBin op x y = some v) : isSc v = true ∧ isSc x = true ∧ isSc y = true ∧ evS P (binOp op t x y) = some v ∧ ∀ X Y,evS P (eqGuard op t X Y x y) = some () := by
 unfold evBin at h
 split at h
 ·
  split at h
  ·
   next e =>
   subst e
   refine ⟨?_,rfl,rfl,?_,fun X Y => by cases op <;> rfl⟩
   ·
    split at h <;> first | (cases h; rfl) | cases h
   ·
    split at h <;> first | (cases h; simp [binOp,Op.intArith,Op.intCmp,wrapF_eq]) | cases h
  ·
   cases h
 ·
  refine ⟨?_,rfl,rfl,?_,fun X Y => by cases op <;> rfl⟩
  ·
   split at h
   iterate 2
    ·
     cases h; rfl
   ·
    split at h
    ·
     cases h; rfl
    ·
     cases h
   ·
    cases h
  ·
   split at h
   iterate 2
    ·
     cases h; simp [binOp,Op.stringOp,beqL_eq,bytes_toList]
   ·
    split at h
    ·
     next a b _ hl =>
     cases h
     simp only [zl8,Nat.zero_add] at hl
     have h1 : a.size = a.data.toList.length := by rw [Array.length_toList]; rfl
     have h2 : b.size = b.data.toList.length := by rw [Array.length_toList]; rfl
     have hs : ¬ (((a.size + b.size : Nat) : Int) > IntKind.i64.max) := by
      rw [h1,h2]
      simp [IntKind.max,IntKind.bits,IntKind.signed]
      omega
     have e : (⟨(a.data.toList ++ b.data.toList).toArray⟩ : ByteArray) = a ++ b := by
      apply bytes_inj'
      simp
     rw [e]
     simp only [binOp,Op.stringOp]
     rw [if_neg hs]
     rfl
    ·
     cases h
   ·
    cases h
 ·
  cases h
def OpdR (S : Who) (aA : TL) (a : Act) (o : Oper) : Prop := ∀ x ∈ o.op.operands,VR S (aA.at x) (a.eval x)
theorem zg2 (hA : OpdR S aA a o) (hc : (∀ x ∈ o.op.operands,a.eval x = aA.at x) → execOp a.eval o = execOp aA.at o) (h : evSc P aA o = some v) : isSc v = true ∧ evS P (execOp a.eval o) = some (.value v) := by
 unfold evSc at h
 split at h
 ·
  next hs =>
  split at h
  ·
   next v' hv =>
   split at h
   ·
    next hv' =>
    cases h
    refine ⟨hv',?_⟩
    have he : ∀ x ∈ o.op.operands,a.eval x = aA.at x := fun x hx => (hA x hx).sc (by
     rw [List.all_eq_true] at hs
     exact hs x (by simpa using hx))
    rw [hc he]
    unfold val? at hv
    split at hv
    ·
     next e => cases hv; exact e
    ·
     cases hv
   ·
    cases h
  ·
   cases h
 ·
  cases h
theorem map_at {xs : Array Operand} (h : ∀ x ∈ xs,VR S (aA.at x) (a.eval x)) : AR (VR S) (xs.map aA.at) (xs.map a.eval) := by
 refine ⟨by simp,fun i x y hx hy => ?_⟩
 simp only [Array.getElem?_map,Option.map_eq_some_iff] at hx hy
 obtain ⟨u,hu,rfl⟩ := hx
 obtain ⟨u',hu',rfl⟩ := hy
 rw [hu] at hu'
 cases hu'
 exact h u (Array.mem_of_getElem? hu)
theorem eq_same {d : Nat} {t e n : Nat} {p q : Addr} (hu : P.underlying t = some (.pointer e)) (hs : sizeT P e = some (n + 1)) (hb : p.block = q.block) : evS P (Op.equalIn (d + 1) t (.pointer (some p)) (.pointer (some q))) = some (p == q) := by
 simp only [Op.equalIn,evS_bind,evS_underlying,hu,Option.bind_some,evS_sizeOf,hs,ne_eq,Nat.add_eq_zero_iff,Nat.succ_ne_self,and_false,not_false_eq_true,if_true,sameAddr,hb,beq_self_eq_true]
 simp
theorem eq_nilp {d : Nat} {t e : Nat} {p : Addr} (hu : P.underlying t = some (.pointer e)) : evS P (Op.equalIn (d + 1) t (.pointer (some p)) (.pointer none)) = some false ∧ evS P (Op.equalIn (d + 1) t (.pointer none) (.pointer (some p))) = some false := by
 constructor <;> simp only [Op.equalIn,evS_bind,evS_underlying,hu,Option.bind_some] <;> rfl
theorem eq_nils {d : Nat} {t e : Nat} {p : Addr} {n c n' c' : Nat} (hu : P.underlying t = some (.slice e)) : evS P (Op.equalIn (d + 1) t (.slice (some p) n c) (.slice none n' c')) = some false ∧ evS P (Op.equalIn (d + 1) t (.slice none n' c') (.slice (some p) n c)) = some false := by
 constructor <;> simp only [Op.equalIn,evS_bind,evS_underlying,hu,Option.bind_some] <;> rfl
theorem eq_nilf {d : Nat} {t : Nat} {x y : Array TypeId} {b : Bool} {f : Fn} {p q : Array Value} (hu : P.underlying t = some (.func x y b)) : evS P (Op.equalIn (d + 1) t (.func f p q) .nilFunc) = some false ∧ evS P (Op.equalIn (d + 1) t .nilFunc (.func f p q)) = some false := by
 constructor <;> simp only [Op.equalIn,evS_bind,evS_underlying,hu,Option.bind_some] <;> rfl
theorem guard_free (op : BinOp) (t : TypeId) (X Y : Operand) {x y : Value} (hx : ∀ c,x ≠ .agg c) (hx' : x ≠ .nilIface) : evS P (eqGuard op t X Y x y) = some () := by
 unfold eqGuard
 cases op <;> first | rfl | (cases x <;> first | rfl | exact absurd rfl (hx _) | exact absurd rfl hx')
theorem binOp_eq {t : TypeId} {x y : Value} {b : Bool} (h1 : ∀ k n,x ≠ .int k n) (h2 : ∀ s,x ≠ .string s) (h3 : ∀ k n,x ≠ .float k n) (h4 : ∀ k n m,x ≠ .complex k n m) (h : evS P (Op.equalIn (9999 + 1) t x y) = some b) : evS P (binOp .eql t x y) = some (.bool b) ∧ evS P (binOp .neq t x y) = some (.bool !b) := by
 have h : evS P (Op.equal t x y) = some b := h
 cases x with
 | int k n => exact absurd rfl (h1 k n)
 | string s => exact absurd rfl (h2 s)
 | float k n => exact absurd rfl (h3 k n)
 | complex k n m => exact absurd rfl (h4 k n m)
 | _ => exact ⟨by simp only [binOp,evS_bind,h]; rfl,by simp only [binOp,evS_bind,h]; rfl⟩
theorem two_ways {op : BinOp} {t : TypeId} {x y : Value} (h : (match op with | .eql => some (Value.bool false) | .neq => some (.bool true) | _ => none) = some v) (h1 : ∀ k n,x ≠ .int k n) (h2 : ∀ s,x ≠ .string s) (h3 : ∀ k n,x ≠ .float k n) (h4 : ∀ k n m,x ≠ .complex k n m) (h5 : ∀ c,x ≠ .agg c) (h6 : x ≠ .nilIface)
  (he : evS P (Op.equalIn (9999 + 1) t x y) = some false) : isSc v = true ∧ evS P (binOp op t x y) = some v ∧ ∀ X Y,evS P (eqGuard op t X Y x y) = some () := by
 have := binOp_eq h1 h2 h3 h4 he
 cases op <;> simp at h
 ·
  subst h; exact ⟨rfl,this.1,fun X Y => guard_free _ _ _ _ h5 h6⟩
 ·
  subst h; exact ⟨rfl,this.2,fun X Y => guard_free _ _ _ _ h5 h6⟩
theorem evBinP_sound {op : BinOp} {t : TypeId} {x y x' y' : Value} (hx : VR S x x') (hy : VR S y y') (h : evBinP P op t x y = some v) : isSc v = true ∧ evS P (binOp op t x' y') = some v ∧ ∀ X Y,evS P (eqGuard op t X Y x' y') = some () := by
 unfold evBinP at h
 split at h
 ·
  next p q e hu =>
  split at h
  ·
   next n hs =>
   split at h
   ·
    next hb =>
    obtain ⟨b,off,sp⟩ := p
    obtain ⟨b',off',sp'⟩ := q
    have h1 := hx.ptr_none
    have h2 := hy.ptr_none
    simp at h1 h2 hb
    subst h1 h2 hb
    obtain ⟨g,z,e1,h3,rfl⟩ := hx.ptr
    obtain ⟨g',z',e2,h4,rfl⟩ := hy.ptr
    rw [h3] at h4
    cases h4
    have he := binOp_eq (P := P) (t := t) (by simp) (by simp) (by simp) (by simp) (eq_same (d := 9999) (p := ⟨g,off,none⟩) (q := ⟨g,off',none⟩) hu hs rfl)
    have hq : ((⟨g,off,none⟩ : Addr) == ⟨g,off',none⟩) = ((⟨b,off,none⟩ : Addr) == ⟨b,off',none⟩) := by
     rw [Bool.eq_iff_iff]; simp
    rw [hq] at he
    split at h
    ·
     cases h
     exact ⟨rfl,he.1,fun X Y => guard_free _ _ _ _ (by simp) (by simp)⟩
    ·
     cases h
     exact ⟨rfl,he.2,fun X Y => guard_free _ _ _ _ (by simp) (by simp)⟩
    ·
     cases h
   ·
    cases h
  ·
   cases h
 ·
  next p e hu =>
  obtain ⟨b,off,sp⟩ := p
  have h1 := hx.ptr_none
  simp at h1
  subst h1
  obtain ⟨g,z,e1,h3,rfl⟩ := hx.ptr
  rw [hy.sc rfl]
  exact two_ways h (by simp) (by simp) (by simp) (by simp) (by simp) (by simp) (eq_nilp hu).1
 ·
  next p e hu =>
  obtain ⟨b,off,sp⟩ := p
  have h1 := hy.ptr_none
  simp at h1
  subst h1
  obtain ⟨g,z,e1,h3,rfl⟩ := hy.ptr
  rw [hx.sc rfl]
  exact two_ways h (by simp) (by simp) (by simp) (by simp) (by simp) (by simp) (eq_nilp hu).2
 ·
  next hu =>
  obtain ⟨g,z,e1,o',c',h3,rfl,_⟩ := hx.sl_any
  rw [hy.sc rfl]
  exact two_ways h (by simp) (by simp) (by simp) (by simp) (by simp) (by simp) (eq_nils hu).1
 ·
  next hu =>
  obtain ⟨g,z,e1,o',c',h3,rfl,_⟩ := hy.sl_any
  rw [hx.sc rfl]
  exact two_ways h (by simp) (by simp) (by simp) (by simp) (by simp) (by simp) (eq_nils hu).2
 ·
  next hu =>
  obtain ⟨p',q',rfl,_⟩ := hx.fn
  rw [hy.sc rfl]
  exact two_ways h (by simp) (by simp) (by simp) (by simp) (by simp) (by simp) (eq_nilf hu).1
 ·
  next hu =>
  obtain ⟨p',q',rfl,_⟩ := hy.fn
  rw [hx.sc rfl]
  exact two_ways h (by simp) (by simp) (by simp) (by simp) (by simp) (by simp) (eq_nilf hu).2
 ·
  next k _ =>
  obtain ⟨k',m,hk,rfl,hm⟩ := hx.mp
  cases hk
  rw [hy.sc rfl]
  have hne : ¬ m = 0 := by omega
  cases op <;> simp at h
  iterate 2
   ·
    subst h; exact ⟨rfl,by simp [binOp,goInt,Op.intArith,Op.intCmp,hne],fun X Y => rfl⟩
 ·
  cases h
theorem quiet_sound' (hA : OpdR S aA a o) (hb : ∀ t parts,o.op ≠ .build t parts) (h : ze4 P aA o = some v) : ∃ v',VR S v v' ∧ evS P (execOp a.eval o) = some (.value v') := by
 unfold ze4 at h
 unfold OpdR at hA
 split at h
 iterate 2
  ·
   next x hop =>
   cases h
   rw [hop] at hA
   exact ⟨_,hA x (by simp [Op.operands]),by simp [execOp,hop]⟩
 ·
  next c x y hop =>
  rw [hop] at hA
  have hc := hA c (by simp [Op.operands])
  split at h
  ·
   next b hb =>
   cases h
   rw [hb] at hc
   have hc := hc.sc rfl
   refine ⟨if b then a.eval x else a.eval y,?_,?_⟩
   ·
    cases b
    ·
     exact hA y (by simp [Op.operands])
    ·
     exact hA x (by simp [Op.operands])
   ·
    simp [execOp,hop,hc,asBool]
  ·
   cases h
 ·
  next t parts hop =>
  exact absurd hop (hb t parts)
 ·
  next x hop =>
  rw [hop] at hA
  have hx := hA x (by simp [Op.operands])
  split at h
  ·
   next p hp =>
   cases h
   rw [hp] at hx
   obtain ⟨b,off,sp⟩ := p
   have := hx.ptr_none
   simp at this
   subst this
   obtain ⟨g,z,e,h1,h2⟩ := hx.ptr
   exact ⟨_,h2 ▸ VR.of_ptr h1,by simp [execOp,hop,h2]⟩
  ·
   next f p q hp =>
   cases h
   rw [hp] at hx
   obtain ⟨p',q',h1,h2,h3⟩ := hx.fn
   exact ⟨_,VR.of_fn h2 h3,by simp [execOp,hop,h1]⟩
  ·
   cases h
 ·
  next f first cap hop =>
  cases h
  rw [hop] at hA
  refine ⟨_,VR.of_fn (map_at fun x hx => hA x (by simp [Op.operands,hx])) (map_at fun x hx => hA x (by simp [Op.operands,hx])),by simp [execOp,hop,Instr.makeFunc]⟩
 ·
  next t ix hop =>
  rw [hop] at hA
  have hx := hA t (by simp [Op.operands])
  split at h
  ·
   next vs hv =>
   rw [hv] at hx
   obtain ⟨vs',h1,h2,h3⟩ := hx.tu
   have hl : ix < vs'.size := by rw [← h2]; exact (Array.getElem?_eq_some_iff.1 h).1
   exact ⟨vs'[ix],h3 ix _ _ h (Array.getElem?_eq_getElem hl),by simp [execOp,hop,h1,Instr.extract,Array.getElem?_eq_getElem hl]⟩
  ·
   cases h
 ·
  next t x f hop =>
  rw [hop] at hA
  have hx := hA x (by simp [Op.operands])
  split at h
  ·
   next fields b off hu hp =>
   rw [hp] at hx
   obtain ⟨g,z,e,h1,h2⟩ := hx.ptr
   split at h
   ·
    next fd hf =>
    split at h
    ·
     next n hs =>
     cases h
     exact ⟨_,VR.of_ptr h1,by simp [execOp,hop,h2,Instr.fieldAt,hu,hf,Instr.sureAddr,fieldPlace,hs,Addr.add]⟩
    ·
     cases h
   ·
    cases h
  ·
   cases h
 ·
  next t x ix hop =>
  rw [hop] at hA
  have hx := hA x (by simp [Op.operands])
  have hi := hA ix (by simp [Op.operands])
  split at h
  ·
   next e b off sp n c k i hu hp hq =>
   rw [hp] at hx
   rw [hq] at hi
   have hi := hi.sc rfl
   obtain ⟨g,z,e',o',c',h1,h2,h3,h4,h5⟩ := hx.sl_any
   split at h
   ·
    next sz hs =>
    split at h
    ·
     next hr =>
     cases h
     have : o' = off := by
      rcases h5 with h5 | h5
      ·
       subst h5; omega
      ·
       exact h5
     subst this
     exact ⟨_,VR.of_ptr h1,by simp [execOp,hop,h2,hi,Instr.indexAt,asIntOf,hu,hs,hr,Addr.add]⟩
    ·
     cases h
   ·
    cases h
  ·
   next n e b off k i hu hp hq =>
   rw [hp] at hx
   rw [hq] at hi
   have hi := hi.sc rfl
   obtain ⟨g,z,e',h1,h2⟩ := hx.ptr
   split at h
   ·
    next sz hs =>
    split at h
    ·
     next hr =>
     cases h
     exact ⟨_,VR.of_ptr h1,by simp [execOp,hop,h2,hi,Instr.indexAt,asIntOf,hu,hs,hr,Addr.add,Instr.sureAddr]⟩
    ·
     cases h
   ·
    cases h
  ·
   cases h
 ·
  next op t x y ty hop =>
  rw [hop] at hA
  have hx := hA x (by simp [Op.operands])
  have hy := hA y (by simp [Op.operands])
  split at h
  ·
   next v' hv =>
   cases h
   obtain ⟨h1,h2,h3,h4,h5⟩ := evBin_sound (P := P) t hv
   refine ⟨v,VR.of_sc h1,?_⟩
   simp only [execOp,hop,hx.sc h2,hy.sc h3,evS_bind,h5,h4]
   rfl
  ·
   split at h
   ·
    next v' hv =>
    cases h
    obtain ⟨h1,h2,h3⟩ := evBinP_sound hx hy hv
    refine ⟨v,VR.of_sc h1,?_⟩
    simp only [execOp,hop,evS_bind,h3,h2]
    rfl
   ·
    obtain ⟨h1,h2⟩ := zg2 (S := S) (by unfold OpdR; rw [hop]; exact hA) (fun he => by rw [hop] at he; simp only [execOp,hop,he x (by simp [Op.operands]),he y (by simp [Op.operands])]) h
    exact ⟨v,VR.of_sc h1,h2⟩
 ·
  next t u x hop =>
  rw [hop] at hA
  have hx := hA x (by simp [Op.operands])
  split at h
  ·
   next d k k' n h1 h2 h3 =>
   cases h
   rw [h3] at hx
   refine ⟨_,VR.of_sc rfl,?_⟩
   simp [execOp,hop,hx.sc rfl,convert,h1,h2,Conv.intToInt,wrapF_eq]
  ·
   obtain ⟨h1,h2⟩ := zg2 (S := S) (by unfold OpdR; rw [hop]; exact hA) (fun he => by rw [hop] at he; simp only [execOp,hop,he x (by simp [Op.operands])]) h
   exact ⟨v,VR.of_sc h1,h2⟩
 ·
  next t x i hop =>
  rw [hop] at hA
  have hx := hA x (by simp [Op.operands])
  have hi := hA i (by simp [Op.operands])
  split at h
  ·
   next str k n h1 h2 h3 =>
   rw [h2] at hx
   rw [h3] at hi
   split at h
   ·
    next hn =>
    split at h
    ·
     next b hb =>
     cases h
     refine ⟨_,VR.of_sc rfl,?_⟩
     have hb' : str[n.toNat]? = some b := by
      have hl : n.toNat < str.size := by
       have := (List.getElem?_eq_some_iff.1 hb).1
       rw [Array.length_toList] at this
       exact this
      rw [getElem?_pos str n.toNat hl]
      have := (List.getElem?_eq_some_iff.1 hb).2
      simp at this
      rw [← this]
      rfl
     simp [execOp,hop,hx.sc rfl,hi.sc rfl,Instr.index,asIntOf,h1,hn,hb']
    ·
     cases h
   ·
    cases h
  ·
   obtain ⟨h1,h2⟩ := zg2 (S := S) (by unfold OpdR; rw [hop]; exact hA) (fun he => by rw [hop] at he; simp only [execOp,hop,he x (by simp [Op.operands]),he i (by simp [Op.operands])]) h
   exact ⟨v,VR.of_sc h1,h2⟩
 ·
  next c hop =>
  rw [hop] at hA
  have hall : ∀ x ∈ c.args,VR S (aA.at x) (a.eval x) := fun x hx => hA x (by simp [Op.operands,Call.operands,hx])
  have hcg : (∀ x ∈ o.op.operands,a.eval x = aA.at x) → ∀ b,c.callee = .builtin b → execOp a.eval o = execOp aA.at o := fun he b hb => by
   rw [hop] at he
   have : c.args.map a.eval = c.args.map aA.at := Array.map_congr_left fun x hx => he x (by simp [Op.operands,Call.operands,hx])
   simp only [execOp,hop,resolve,hb,this]
  split at h
  ·
   next x t h1 h2 h3 =>
   have hx := hall x (by simpa using (show x ∈ c.args.toList by rw [h2]; simp))
   have hm : c.args.map a.eval = #[a.eval x] := by
    apply Array.toList_inj.1; simp [h2]
   have hts : c.argTypes = #[t] := by
    apply Array.toList_inj.1; simp [h3]
   split at h
   ·
    next ad n cp e hv hu =>
    cases h
    rw [hv] at hx
    refine ⟨_,VR.of_sc rfl,?_⟩
    have : ∃ ad' c',a.eval x = .slice ad' n c' := by
     cases ad with
     | none => rw [hx.sc rfl]; exact ⟨_,_,rfl⟩
     | some ad => obtain ⟨g,z,e,o',c',_,h2,_⟩ := hx.sl_any; exact ⟨_,_,h2⟩
    obtain ⟨ad',c',hx⟩ := this
    simp [execOp,hop,resolve,h1,invoke,builtin,hm,hts,hx,Builtin.len_,hu]
   ·
    next str hv hu =>
    cases h
    rw [hv] at hx
    refine ⟨_,VR.of_sc rfl,?_⟩
    simp [execOp,hop,resolve,h1,invoke,builtin,hm,hts,hx.sc rfl,Builtin.len_,hu,zl8]
   ·
    cases h
  ·
   rename_i x h1 h2
   have hx := hall x (by simpa using (show x ∈ c.args.toList by rw [h2]; simp))
   have hm : c.args.map a.eval = #[a.eval x] := by
    apply Array.toList_inj.1; simp [h2]
   split at h
   ·
    next b off n cp hv =>
    cases h
    rw [hv] at hx
    obtain ⟨g,z,e,c',h3,h4,h5,h6,_⟩ := hx.sl
    refine ⟨_,VR.of_ptr h3,?_⟩
    have : c' ≠ 0 := by omega
    have hd : Builtin.unsafeSliceData_ c.argTypes o.type #[.slice (some ⟨g,off,none⟩) n c'] = if c' ≠ 0 then pure (.pointer (some ⟨g,off,none⟩)) else (do if (← viewAt g).isSome then pure (.pointer (some ⟨g,off,none⟩)) else pure (.pointer (some ⟨← newObj (.view ⟨g,off,none⟩ (← elemOf o.type)),0,none⟩))) := rfl
    rw [if_pos this] at hd
    simp [execOp,hop,resolve,h1,invoke,builtin,hm,h4,hd]
   ·
    obtain ⟨h3,h4⟩ := zg2 (S := S) (by unfold OpdR; rw [hop]; exact hA) (fun he => hcg he _ h1) h
    exact ⟨v,VR.of_sc h3,h4⟩
  ·
   next x t h1 h2 h3 =>
   have hx := hall x (by simpa using (show x ∈ c.args.toList by rw [h2]; simp))
   have hm : c.args.map a.eval = #[a.eval x] := by
    apply Array.toList_inj.1; simp [h2]
   have hts : c.argTypes = #[t] := by
    apply Array.toList_inj.1; simp [h3]
   split at h
   ·
    next b off n cp e hv hu =>
    cases h
    rw [hv] at hx
    obtain ⟨g,z,e',c',h4,h5,h6,h7,_⟩ := hx.sl
    exact ⟨goInt c',⟨1,c',rfl,h7⟩,by simp [execOp,hop,resolve,h1,invoke,builtin,hm,hts,h5,Builtin.cap_,hu]⟩
   ·
    obtain ⟨h3,h4⟩ := zg2 (S := S) (by unfold OpdR; rw [hop]; exact hA) (fun he => hcg he _ h1) h
    exact ⟨v,VR.of_sc h3,h4⟩
  ·
   next h1 =>
   obtain ⟨h3,h4⟩ := zg2 (S := S) (by unfold OpdR; rw [hop]; exact hA) (fun he => hcg he _ h1) h
   exact ⟨v,VR.of_sc h3,h4⟩
  ·
   next h1 =>
   obtain ⟨h3,h4⟩ := zg2 (S := S) (by unfold OpdR; rw [hop]; exact hA) (fun he => hcg he _ h1) h
   exact ⟨v,VR.of_sc h3,h4⟩
  ·
   next h1 =>
   obtain ⟨h3,h4⟩ := zg2 (S := S) (by unfold OpdR; rw [hop]; exact hA) (fun he => hcg he _ h1) h
   exact ⟨v,VR.of_sc h3,h4⟩
  ·
   cases h
 ·
  next op t x hop =>
  rw [hop] at hA
  obtain ⟨h1,h2⟩ := zg2 (S := S) (by unfold OpdR; rw [hop]; exact hA) (fun he => by rw [hop] at he; simp only [execOp,hop,he x (by simp [Op.operands])]) h
  exact ⟨v,VR.of_sc h1,h2⟩
 ·
  cases h
theorem AR.set {x y : Value} {cs cs' : Array Value} (h : AR (VR S) cs cs') (hx : VR S x y) (i : Nat) : AR (VR S) (cs.setIfInBounds i x) (cs'.setIfInBounds i y) := by
 refine ⟨by simp [h.1],fun k u u' hu hu' => ?_⟩
 rw [Array.getElem?_setIfInBounds] at hu hu'
 rw [← h.1] at hu'
 by_cases e : i = k
 ·
  subst e
  rw [if_pos rfl] at hu hu'
  split at hu
  ·
   rw [if_pos (by assumption)] at hu'
   cases hu
   cases hu'
   exact hx
  ·
   cases hu
 ·
  rw [if_neg e] at hu hu'
  exact h.2 k u u' hu hu'
def PR (S : Who) : List (Nat × Value) → List (Nat × Value) → Prop
 | [], [] => True
 | (i,x) :: l,(j,y) :: m => i = j ∧ VR S x y ∧ PR S l m
 | _,_ => False
theorem fold_rel (off : Nat) : ∀ (l l' : List Value) (k : Nat) (cs cs' : Array Value),l.length = l'.length → (∀ (i : Nat) (x y : Value),l[i]? = some x → l'[i]? = some y → VR S x y) → AR (VR S) cs cs' →
  AR (VR S) ((l.zipIdx k).foldl (fun cs (x : Value × Nat) => cs.setIfInBounds (off + x.2) x.1) cs) ((l'.zipIdx k).foldl (fun cs (x : Value × Nat) => cs.setIfInBounds (off + x.2) x.1) cs')
 | [], [],k,cs,cs',_,_,h => by simpa using h
 | x :: l,y :: l',k,cs,cs',hl,hr,h => by
  simp only [List.zipIdx_cons,List.foldl_cons]
  exact fold_rel off l l' (k + 1) _ _ (by simpa using hl) (fun i x y hx hy => hr (i + 1) x y (by simpa using hx) (by simpa using hy)) (h.set (hr 0 x y rfl rfl) _)
 | [],_ :: _,_,_,_,hl,_,_ => by simp at hl
 | _ :: _, [],_,_,_,hl,_,_ => by simp at hl
theorem fill_rel {place : Nat → Option (Nat × Nat)} : ∀ (ps ps' : List (Nat × Value)) (cs cs' c : Array Value),AR (VR S) cs cs' → PR S ps ps' → Instr.fill place cs ps = some c → ∃ c',Instr.fill place cs' ps' = some c' ∧ AR (VR S) c c'
 | [], [],cs,cs',c,h,_,hf => by simp [Instr.fill] at hf ⊢; subst hf; exact h
 | (i,x) :: ps,(j,y) :: ps',cs,cs',c,h,⟨e,hx,hp⟩,hf => by
  subst e
  unfold Instr.fill at hf ⊢
  split at hf
  ·
   cases hf
  ·
   next off size hpl =>
   have hc := hx.cells
   rw [← hc.1, ← h.1]
   split at hf
   ·
    cases hf
   ·
    next hn =>
    rw [if_neg hn]
    refine fill_rel ps ps' _ _ c ?_ hp hf
    have := fold_rel (S := S) off x.cells.toList y.cells.toList 0 cs cs' (by simp [hc.1]) (fun i u u' hu hu' => hc.2 i u u' (by simpa using hu) (by simpa using hu')) h
    rw [← Array.foldl_toList, ← Array.foldl_toList,Array.toList_zipIdx,Array.toList_zipIdx]
    exact this
 | [],_ :: _,_,_,_,_,h,_ => h.elim
 | _ :: _, [],_,_,_,_,h,_ => h.elim
theorem parts_rel : ∀ (ps : List (Nat × Operand)),(∀ x ∈ ps.map (·.2),VR S (aA.at x) (a.eval x)) → PR S (ps.map fun (i,x) => (i,aA.at x)) (ps.map fun (i,x) => (i,a.eval x))
 | [],_ => trivial
 | (i,x) :: ps,h => ⟨rfl,h x (by simp),parts_rel ps fun y hy => h y (by simp at hy ⊢; exact .inr hy)⟩
theorem AR.refl_sc {c : Array Value} (h : c.toList.all isSc = true) : AR (VR S) c c := by
 refine ⟨rfl,fun i x y hx hy => ?_⟩
 rw [hx] at hy
 cases hy
 rw [List.all_eq_true] at h
 exact VR.of_sc (h x (by simpa using Array.mem_of_getElem? hx))
theorem built_rel {t : TypeId} {ps ps' : List (Nat × Value)} {c : Array Value} (hz : zeroT P t = true) (hp : PR S ps ps') (h : P.built t ps = some c) : ∃ c',P.built t ps' = some c' ∧ AR (VR S) c c' := by
 unfold Program.built at h ⊢
 unfold zeroT at hz
 split at h
 ·
  next it n e hi hu =>
  rw [hi] at hz
  try simp only [hi,hu]
  split at h
  ·
   next z ie h1 h2 =>
   simp only [h1] at hz
   try simp only [h1,h2]
   exact fill_rel _ _ _ _ c (AR.refl_sc hz) hp h
  ·
   cases h
 ·
  next it fields hi hu =>
  rw [hi] at hz
  try simp only [hi,hu]
  split at h
  ·
   next z pl h1 h2 =>
   simp only [h1] at hz
   try simp only [h1,h2]
   exact fill_rel _ _ _ _ c (AR.refl_sc hz) hp h
  ·
   cases h
 ·
  cases h
theorem quiet_sound (hA : OpdR S aA a o) (h : ze4 P aA o = some v) : ∃ v',VR S v v' ∧ ∀ w,(execOp a.eval o).run P w = .ok (.value v') w ∧ (execOp a.eval o).events P w #[] = #[] := by
 by_cases hb : ∃ t parts,o.op = .build t parts
 ·
  obtain ⟨t,parts,hop⟩ := hb
  unfold ze4 at h
  rw [hop] at h
  simp only at h
  split at h
  ·
   cases h
  ·
   next hz =>
   have hz : zeroT P t = true := by simpa using hz
   split at h
   ·
    next c hc =>
    cases h
    unfold OpdR at hA
    rw [hop] at hA
    obtain ⟨c',h1,h2⟩ := built_rel hz (by simpa using parts_rel (S := S) (aA := aA) (a := a) parts.toList fun x hx => hA x (by simpa [Op.operands] using hx)) hc
    have h1 : P.built t (parts.map fun (i,x) => (i,a.eval x)).toList = some c' := by simpa using h1
    refine ⟨_,VR.of_ag h2,fun w => ⟨?_,?_⟩⟩
    ·
     simp [execOp,hop,run_build (P := P) w t _ c' h1]
    ·
     simp [execOp,hop,run_build (P := P) w t _ c' h1,zj3 (P := P) w t _ c' h1]
   ·
    cases h
 ·
  obtain ⟨v',h1,h2⟩ := quiet_sound' hA (fun t parts e => hb ⟨t,parts,e⟩) h
  exact ⟨v',h1,fun w => evS_run h2 w #[]⟩
end
end Go.Proofs.YtgcaionclkbehaaGreatDoor
