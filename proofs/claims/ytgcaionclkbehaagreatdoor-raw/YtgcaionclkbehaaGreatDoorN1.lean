import Derived.Test.YtgcaionclkbehaaGreatDoorW4
set_option linter.all false
namespace Go.Proofs.YtgcaionclkbehaaGreatDoor
open Tryz
section
open Go.Conc Go.RowKit Go.Lib
section
variable {Post : Value → World → Prop} {Ex : Nat → Prop} {w₀ : World} {An : Who}
theorem ze1 : prog.follows .mixedOrders = true := by kernel_rfl
theorem prLone_ok {z1 e1 : Nat} (h1 : An 1 = some (1,z1,e1)) (n : Nat) : PrimOk prog KTs An (fun _ : Zx => AtRel) (fun j => DZ j.1) (fun j => ZI prog Post 0 j.1) (HdZ Ex w₀) (prLone prog n) := by
 have hb := prBase_ok (An := An) (cyZ (Post := Post) (Ex := Ex) (w₀ := w₀))
 constructor
 ·
  intro f g args s v s' hf h
  unfold prLone at hf
  split at hf
  ·
   cases hf
   exact (prOf_sound (Post := Post) (Ex := Ex) (w₀ := w₀) h1 h).1
  ·
   exact hb.nx f g args s v s' hf h
 ·
  intro f g args s v s' hf h
  unfold prLone at hf
  split at hf
  ·
   next he =>
   have he := Nat.eq_of_beq_eq_true he
   subst he
   cases hf
   exact (prOf_sound (Post := Post) (Ex := Ex) (w₀ := w₀) h1 h).2
  ·
   exact hb.sound f g args s v s' hf h
def prAw (P : Program) (n : Nat) : Prim := fun f => if f.beq 15 then some (fun args s => if args.toList.isEmpty ∧ oeq (s.get 1) (some (.cells entC.toArray 335)) = true then some (.bool true,s) else none) else prLone P n f
theorem entC_sc : entC.all isSc = true := by decide +kernel
theorem sA_get (b : Nat) : sA.get b = if b = 1 then some (.cells entC.toArray 335) else none := by
 unfold AS.get sA
 by_cases h : b < 16
 ·
  have h16 : b / 16 = 0 := by omega
  have hm : b % 16 = b := by omega
  rw [h16,hm]
  match b,h with
  | 0,_ => rfl
  | 1,_ => rfl
  | b + 2,_ => rw [if_neg (by omega)]; simp
 ·
  rw [if_neg (by omega)]
  have h16 : 1 ≤ b / 16 := by omega
  obtain ⟨k,hk⟩ : ∃ k,b / 16 = k + 1 := ⟨b / 16 - 1,by omega⟩
  rw [hk]
  simp
theorem prAw_ok {z1 e1 : Nat} (h1 : An 1 = some (1,z1,e1)) (hAn : ∀ b,32 ≤ b → An b = none) : ∃ n,PrimOk prog KTs An (fun _ : Zx => AtRel) (fun j => DZ j.1) (fun j => ZI prog Post 0 j.1) (HdZ Ex w₀) (prAw prog n) := by
 obtain ⟨n,hn⟩ := of_e
 obtain ⟨s',⟨m,haw⟩,hs'⟩ := awake_e hn
 have hL := prLone_ok (Post := Post) (Ex := Ex) (w₀ := w₀) h1 n
 refine ⟨n,?_,?_⟩
 ·
  intro f g args s v s' hf h
  unfold prAw at hf
  split at hf
  ·
   cases hf
   simp only at h
   split at h
   ·
    cases h; exact Nat.le_refl _
   ·
    cases h
  ·
   exact hL.nx f g args s v s' hf h
 ·
  intro f g args s v s2 hf h
  unfold prAw at hf
  split at hf
  ·
   next he =>
   have he := Nat.eq_of_beq_eq_true he
   subst he
   cases hf
   simp only at h
   split at h
   ·
    next hc =>
    obtain ⟨ha,ho⟩ := hc
    cases h
    have ha : args = #[] := by apply Array.toList_inj.1; simpa using ha
    subst ha
    exact Sound.alone1 (k := 32) (m := 1) (c := 1) (s0 := sA) (s1 := s') cyZ h1 hAn entC_sc sA_get rfl hs' (oeq_sound ho) rfl rfl ((ev_sound cyZ ze1 zk0 hL zg5 m).2 _ _ _ _ _ haw)
   ·
    cases h
  ·
   exact hL.sound f g args s v s2 hf h
end
end
section
open Go.Conc Go.RowKit Go.Lib
theorem idxF_no {c : UInt8} : ∀ {l : List UInt8} {k : Nat},c ∉ l → idxF c.toNat l k = -1
 | [],k,_ => rfl
 | b :: l,k,h => by
  unfold idxF
  rw [beq_byte]
  simp only [List.mem_cons,not_or] at h
  rw [show (b == c) = false by simp; exact fun e => h.1 e.symm]
  simp only [if_false,Bool.false_eq_true]
  exact idxF_no h.2
theorem idxF_yes {c : UInt8} {b : List UInt8} : ∀ {a : List UInt8} {k : Nat},c ∉ a → idxF c.toNat (a ++ c :: b) k = a.length + k
 | [],k,_ => by
  rw [List.nil_append]
  unfold idxF
  rw [beq_byte]
  simp
 | x :: a,k,h => by
  rw [List.cons_append]
  unfold idxF
  rw [beq_byte]
  simp only [List.mem_cons,not_or] at h
  rw [show (x == c) = false by simp; exact fun e => h.1 e.symm]
  simp only [if_false,Bool.false_eq_true]
  rw [idxF_yes h.2]
  simp only [List.length_cons]
  omega
section
variable {n : Nat} {s : AS}
theorem toNat_mod (c : UInt8) : ((c.toNat : Nat) : Int).toNat % 256 = c.toNat := by
 have := c.toNat_lt
 rw [Int.toNat_natCast]
 exact Nat.mod_eq_of_lt this
def CutN (c : UInt8) (x a b : List UInt8) (t : Bool) : Prop := (t = false ∧ c ∉ x ∧ a = x ∧ b = []) ∨ (t = true ∧ c ∉ a ∧ x = a ++ c :: b)
theorem take_cut (a b : List UInt8) (c : UInt8) : ((a ++ c :: b).take a.length).drop 0 = a := by simp
theorem drop_cut (a b : List UInt8) (c : UInt8) : ((a ++ c :: b).take (a ++ c :: b).length).drop (a.length + 1) = b := by
 rw [List.take_length,show a ++ c :: b = (a ++ [c]) ++ b by simp,show a.length + 1 = (a ++ [c]).length by simp,List.drop_left]
end
end
section
open Go.Conc Go.RowKit Go.Lib
section
variable {n : Nat} {s : AS} {pr : Prim}
theorem hasPre_e {l p : List UInt8} {b : Bool} (hp : pr 178 = none) (h : (decide (p.length ≤ l.length) && beqL (l.take p.length) p) = b) : EF prog ktB pr 178 #[str l,str p] s (.bool b) s := by
 refine EF.of hp func178 rfl ?_
 refine EW.seq (EW.go 5 (by kernel_rfl) (EW.seq (EW.region (by kernel_rfl) ?_)))
 refine EO.go 1 5 (by kernel_rfl) (EO.op (by kernel_rfl) (zl0 (l := l) rfl underlying9 (by kernel_rfl)) ?_)
 refine EO.go 1 5 (by kernel_rfl) (EO.op (by kernel_rfl) (zl0 (l := p) rfl underlying9 (by kernel_rfl)) ?_)
 by_cases hl : p.length ≤ l.length
 ·
  refine EO.op (by kernel_rfl) (zc4 (u := num l.length) (w := num p.length) rfl (by kernel_rfl) (by kernel_rfl) (bin_geq (b := true) (decide_eq_true (by omega)))) (EO.go 3 5 (by kernel_rfl) ?_)
  refine EO.op (by kernel_rfl) (zl0 (l := p) rfl underlying9 (by kernel_rfl)) (EO.op (by kernel_rfl) (op_sub (l := l) (i := 0) (j := p.length) rfl underlying9 (by kernel_rfl) ((show _ = zd5 l.length l.length none (some (num p.length)) by kernel_rfl).trans (bnd_hi (by omega) (by omega))) rfl) ?_)
  refine EO.fin 5 (by kernel_rfl) (EW.ret ⟨.inr rfl,?_,by kernel_rfl⟩)
  rw [decide_eq_true hl,Bool.true_and] at h
  rw [← h]
  kernel_rfl
 ·
  refine EO.op (by kernel_rfl) (zc4 (u := num l.length) (w := num p.length) rfl (by kernel_rfl) (by kernel_rfl) (bin_geq (b := false) (decide_eq_false (by omega)))) (EO.fin 5 (by kernel_rfl) ?_)
  refine EW.ret ⟨.inr rfl,?_,by kernel_rfl⟩
  rw [decide_eq_false hl,Bool.false_and] at h
  rw [← h]
  kernel_rfl
theorem hasPrefix_e {l p : List UInt8} {b : Bool} (hp : pr 178 = none) (hp' : pr 89 = none) (h : (decide (p.length ≤ l.length) && beqL (l.take p.length) p) = b) : EF prog ktB pr 89 #[str l,str p] s (.bool b) s := by
 refine EF.of hp' func89 rfl ?_
 refine EW.seq (EW.go 5 (by kernel_rfl) (EW.seq (EW.region (by kernel_rfl) ?_)))
 refine EO.go 2 5 (by kernel_rfl) (EO.callF #[str l,str p] (by kernel_rfl) rfl rfl (by kernel_rfl) (by kernel_rfl) (hasPre_e hp h) ?_)
 refine EO.fin 5 (by kernel_rfl) ?_
 exact EW.ret ⟨.inr rfl,by kernel_rfl,by kernel_rfl⟩
end
end
section
open Go.Conc Go.RowKit Go.Lib
def zh0 : Nat → Value → Bool
 | 0,_ => false
 | n + 1,v => match v with
  | .bool _ | .int _ _ | .string _ | .pointer _ | .slice _ _ _ | .nilFunc | .nilIface => true
  | .func _ x y => x.toList.all (zh0 n) && y.toList.all (zh0 n)
  | .agg x => x.toList.all (zh0 n)
  | _ => false
theorem zip_self {α : Type} {p : α × α → Bool} : ∀ {l : List α},(∀ x ∈ l,p (x,x) = true) → (l.zip l).all p = true
 | [],_ => rfl
 | x :: l,h => by
  rw [List.zip_cons_cons,List.all_cons,h x (by simp),zip_self fun y hy => h y (by simp [hy])]
  rfl
theorem veq_self : ∀ {n : Nat} {v : Value},zh0 n v = true → veq n v v = true
 | 0,v,h => by simp [zh0] at h
 | n + 1,v,h => by
  cases v with
  | bool b => unfold veq; simp
  | int k i => unfold veq; simp
  | string x => unfold veq; exact (zl5 _ _).2 rfl
  | pointer x => unfold veq; simp
  | slice x l c => unfold veq; simp
  | nilFunc => unfold veq; rfl
  | nilIface => unfold veq; rfl
  | func f x y =>
   unfold zh0 at h
   simp only [Bool.and_eq_true,List.all_eq_true] at h
   unfold veq
   simp only [beq_self_eq_true,Bool.true_and,Nat.beq_refl]
   rw [zip_self fun z hz => veq_self (h.1 z hz),zip_self fun z hz => veq_self (h.2 z hz)]
   rfl
  | agg x =>
   unfold zh0 at h
   simp only [List.all_eq_true] at h
   unfold veq
   simp only [Nat.beq_refl,Bool.true_and]
   exact zip_self fun z hz => veq_self (h z hz)
  | _ => simp [zh0] at h
def ldEs (P : Program) (ops : Array Oper) (q : Nat) : List Nat := (List.range q).filter fun i => (match ops.toList[i]? with | some o => zd8 P o | none => 0) == 3
def ldList (P : Program) (ops : Array Oper) (deps : List Nat) (q : Nat) (tr : List (TL × Value × AS)) (s : AS) : List (Option Value × Value) :=
 (List.range q).flatMap fun r => match ops.toList[r]?,tr[r]? with
  | some o,some (a,v,_) => match o.op with
   | .load t x => if Region.wanted o (zc7 ops a) then ((0 :: (ldEs P ops q).map (· + 1)).filter fun p => !((ldEs P ops q).any fun e => (e.blt p && (deps.getD e 0).testBit r) || (!e.blt p && (deps.getD r 0).testBit e))).map fun p => (zc8 P t (a.at x) (zl2 tr s p),v) else []
   | _ => []
  | _,_ => [(none,undef)]
theorem zg1 {P : Program} {ops : Array Oper} {deps : List Nat} {q : Nat} {tr : List (TL × Value × AS)} {s : AS} (L : List (Option Value × Value)) (hL : ldList P ops deps q tr s = L) (h : ∀ x ∈ L,x.1 = some x.2 ∧ zh0 20 x.2 = true) : okLoads P ops deps q tr s = true := by
 subst hL
 unfold okLoads
 simp only
 rw [List.all_eq_true]
 intro r hr
 have hsub : ∀ x,x ∈ (match ops.toList[r]?,tr[r]? with
  | some o,some (a,v,_) => match o.op with
   | .load t x => if Region.wanted o (zc7 ops a) then ((0 :: (ldEs P ops q).map (· + 1)).filter fun p => !((ldEs P ops q).any fun e => (e.blt p && (deps.getD e 0).testBit r) || (!e.blt p && (deps.getD r 0).testBit e))).map fun p => (zc8 P t (a.at x) (zl2 tr s p),v) else []
   | _ => []
  | _,_ => [(none,undef)] : List (Option Value × Value)) → x.1 = some x.2 ∧ zh0 20 x.2 = true := fun x hx => h x (List.mem_flatMap.2 ⟨r,hr,hx⟩)
 cases ho : ops.toList[r]? with
 | none => rw [ho] at hsub; exact absurd (hsub (none,undef) (by simp)).1 (by simp)
 | some o =>
  cases ht : tr[r]? with
  | none => rw [ho,ht] at hsub; exact absurd (hsub (none,undef) (by simp)).1 (by simp)
  | some z =>
   obtain ⟨a,v,s'⟩ := z
   rw [ho,ht] at hsub
   simp only at hsub ⊢
   cases hop : o.op with
   | load t x =>
    rw [hop] at hsub
    simp only at hsub ⊢
    rw [List.all_eq_true]
    intro p hp
    by_cases hw : Region.wanted o (zc7 ops a) = true
    ·
     rw [if_pos hw] at hsub
     by_cases he : ((ldEs P ops q).any fun e => (e.blt p && (deps.getD e 0).testBit r) || (!e.blt p && (deps.getD r 0).testBit e)) = true
     ·
      rw [Bool.or_eq_true,Bool.or_eq_true]
      exact .inl (.inl he)
     ·
      have hm := hsub (zc8 P t (a.at x) (zl2 tr s p),v) (List.mem_map.2 ⟨p,List.mem_filter.2 ⟨hp,by simpa using he⟩,rfl⟩)
      simp only at hm
      rw [hm.1]
      simp only [veq_self hm.2,Bool.or_true,Bool.true_or]
    ·
     simp only [Bool.not_eq_true] at hw
     rw [hw]
     simp
   | _ => rfl
theorem fillX {f : (Nat → Value) → TL} {a : TL} (h : a = f (fun j => a.getD j undef)) : ∃ x,a = f x := ⟨_,h⟩
end
section
open Go.Conc Go.RowKit Go.Lib
section
variable {P : Program} {kt : TypeId → Bool} {pr : Prim} {c : CallF} {a : TL} {s s' : AS} {o : Oper} {v : Value}
theorem op_cnv {t u : TypeId} {x : Operand} (hop : o.op = .convert t u x) (hq : ze4 P a o = none) (h : zl9 P t u (a.at x) s = some v) : evOp P kt c a o s = some (v,s) := by
 unfold evOp
 rw [if_neg (by rw [hop]; simp [isNew])]
 rw [hop]
 simp only
 rw [hq]
 simp only
 rw [h]
theorem cnv_1 {t u e : TypeId} {x : Value} {b k : Nat} {cs : Array Value} {ty : TypeId} {fz : Nat × Nat} (hx : x = aptr b 0) (ht : P.underlying t = some (.pointer e)) (hu : P.underlying u = some .unsafePointer) (hs : s.get b = some (.cells cs ty fz)) (hz : sizeT P e = some (k + 1)) (hl : 0 < cs.size) : zl9 P t u x s = some (aptr b 0) := by
 subst hx
 unfold zl9
 rw [ht,hu]
 simp only [aptr]
 rw [hs,hz]
 simp only
 rw [if_pos hl]
theorem cnv_2 {t u e : TypeId} {x : Value} {b k : Nat} {cs : Array Value} {ty : TypeId} (hx : x = aptr b 0) (ht : P.underlying t = some .unsafePointer) (hu : P.underlying u = some (.pointer e)) (hs : s.get b = some (.cells cs ty (0,0))) (hz : sizeT P e = some (k + 1)) (hl : liesAt P P.depth ty (cs.size / P.cellsOf ty) 0 e 1 = true) : zl9 P t u x s = some (aptr b 0) := by
 subst hx
 unfold zl9
 rw [ht,hu]
 simp only [aptr]
 rw [hs,hz]
 simp only
 rw [if_pos hl]
theorem op_neqP {t e : TypeId} {x y : Operand} {z} {b k : Nat} (hop : o.op = .binOp .neq t x y z) (hx : a.at x = aptr b 0) (hy : a.at y = aptr b 0) (ht : P.underlying t = some (.pointer e)) (hz : sizeT P e = some (k + 1)) : evOp P kt c a o s = some (.bool false,s) := by
 refine zk7 (by rw [hop]; rfl) (by rw [hop]; trivial) ?_
 unfold ze4
 rw [hop]
 simp only
 rw [hx,hy]
 have h1 : evBin .neq (aptr b 0) (aptr b 0) = none := rfl
 have h2 : evBinP P .neq t (aptr b 0) (aptr b 0) = some (.bool false) := by
  unfold evBinP
  simp only [aptr,ht]
  rw [hz]
  simp
 rw [h1,h2]
theorem op_appS {x y : Operand} {t t' e : TypeId} {sl : Value} {m : List UInt8} (hop : o.op = .call { callee := .builtin .append,args := #[x,y],argTypes := #[t,t'] }) (hx : a.at x = sl) (hy : a.at y = str m) (ht : P.underlying t = some (.slice e)) (ht' : P.underlying t' = some .string) (hi : (P.info? e).map (fun i => (i.zero,i.size,i.bytes)) = some (some (Value.int .u8 0),1,1)) (hkt : kt e = false) (hm : m.length ≤ 1000000000) (hp : plainRow sl = true) (h : zd4 P e sl (strCells ⟨m.toArray⟩) m.length s = some (v,s')) : evOp P kt c a o s = some (v,s') := by
 have hq : ze4 P a o = none := by
  unfold ze4
  rw [hop]
 unfold evOp
 rw [if_neg (by rw [hop]; simp [isNew])]
 rw [hop]
 simp only
 rw [hq]
 simp only [List.map_cons,List.map_nil]
 rw [hx,hy]
 unfold zj4
 simp only
 rw [ht,ht']
 simp only
 rw [hi]
 simp only
 rw [if_pos ⟨by show m.toArray.size ≤ _; simpa using hm,hkt,hp⟩]
 show zd4 P e sl (strCells ⟨m.toArray⟩) m.toArray.size s = _
 rw [List.size_toArray]
 exact h
theorem app_0 {e : TypeId} {sl : Value} {news : List Value} (h : sl = .slice none 0 0 ∨ ∃ d n k,sl = .slice (some ⟨d,0,none⟩) n k) : zd4 P e sl news 0 s = some (sl,s) := by
 rcases h with rfl | ⟨d,n,k,rfl⟩
 ·
  rfl
 ·
  rfl
theorem app_none {e : TypeId} {news : List Value} {m : Nat} (h : m ≠ 0) : zd4 P e (.slice none 0 0) news m s = some (.slice (some ⟨s.nx,0,none⟩) m m,s.add (.cells news.toArray e (1,1))) := by
 unfold zd4
 simp only
 rw [if_neg h]
theorem app_row {e : TypeId} {news : List Value} {m d n k sz : Nat} {cs : Array Value} {fz : Nat × Nat} (h : m ≠ 0) (hs : s.get d = some (.cells cs e fz)) (hz : sizeT P e = some sz) (hn : n * sz ≤ cs.size) (hm : n + m ≤ 1000000000) : zd4 P e (.slice (some ⟨d,0,none⟩) n k) news m s = some (.slice (some ⟨s.nx,0,none⟩) (n + m) (n + m),(s.set d none).add (.cells (cs.toList.take (n * sz) ++ news).toArray e (1,1))) := by
 unfold zd4
 simp only
 rw [if_neg h,hs,hz]
 simp only
 rw [if_pos ⟨trivial,hn,hm⟩]
theorem evBytes_c : ∀ (l : List UInt8),evBytes (l.map fun b => Value.int .u8 b.toNat) = some l
 | [] => rfl
 | b :: l => by
  rw [List.map_cons]
  unfold evBytes
  have h := b.toNat_lt
  rw [if_pos ⟨by omega,by omega⟩,evBytes_c l]
  simp
theorem op_uns {x y : Operand} {pt t' e : TypeId} {d : Nat} {l : List UInt8} {fz : Nat × Nat} (hop : o.op = .call { callee := .builtin .unsafeString,args := #[x,y],argTypes := #[pt,t'] }) (hx : a.at x = aptr d 0) (hy : a.at y = num l.length) (ht : P.underlying pt = some (.pointer e)) (hs : s.get d = some (.cells (strCells ⟨l.toArray⟩).toArray e fz)) (hc : P.cellsOf e = 1) (h0 : 0 < l.length) (h1 : l.length ≤ 1000000000) : evOp P kt c a o s = some (str l,s.set d none) := by
 have hq : ze4 P a o = none := by
  unfold ze4
  rw [hop]
  simp only
  unfold evSc
  rw [hop]
  rw [if_neg]
  intro hh
  have : ((Op.call { callee := .builtin .unsafeString,args := #[x,y],argTypes := #[pt,t'] }).operands.toList.all fun x => isSc (a.at x)) = (isSc (a.at x) && (isSc (a.at y) && true)) := rfl
  rw [this,hx] at hh
  simp [isSc,aptr] at hh
 have hlen : (strCells ⟨l.toArray⟩).toArray.size = l.length := by simp [strCells]
 unfold evOp
 rw [if_neg (by rw [hop]; simp [isNew])]
 rw [hop]
 simp only
 rw [hq]
 simp only [List.map_cons,List.map_nil]
 rw [hx,hy]
 unfold zj4
 simp only [aptr]
 rw [ht,hs]
 simp only
 rw [if_pos ⟨hc,trivial,by omega,by omega,by rw [hlen]; simp⟩]
 have : (List.take ((l.length : Int)).toNat (strCells ⟨l.toArray⟩).toArray.toList) = l.map fun b => Value.int .u8 b.toNat := by
  rw [Int.toNat_natCast]
  show List.take l.length (l.map fun b => Value.int .u8 b.toNat) = _
  rw [List.take_of_length_le (by simp)]
 rw [this,evBytes_c]
end
end
section
open Go.Conc Go.RowKit Go.Lib
abbrev byC (l : List UInt8) : Array Value := (strCells ⟨l.toArray⟩).toArray
def BW (s : AS) (N b : Nat) (l : List UInt8) : Prop := N ≤ b ∧ b < s.nx ∧ ∃ p sl,s.get b = some (.cells #[p,sl] 119) ∧ (p = .pointer none ∨ p = aptr b 0) ∧ ((sl = .slice none 0 0 ∧ l = []) ∨ ∃ d fz,sl = .slice (some ⟨d,0,none⟩) l.length l.length ∧ N ≤ d ∧ d < s.nx ∧ d ≠ b ∧ s.get d = some (.cells (byC l) 5 fz))
def FrB (N : Nat) (s s' : AS) : Prop := s.nx ≤ s'.nx ∧ ∀ k,k < N → s'.get k = s.get k
theorem FrB.trans {N : Nat} {s s1 s2 : AS} (h : FrB N s s1) (h' : FrB N s1 s2) : FrB N s s2 := ⟨Nat.le_trans h.1 h'.1,fun k hk => (h'.2 k hk).trans (h.2 k hk)⟩
theorem FrB.add {N : Nat} {s : AS} {o : Obj} (h : N ≤ s.nx) : FrB N s (s.add o) := ⟨by simp,fun k hk => by rw [AS.get_add,if_neg (by omega)]⟩
section
variable {pr : Prim} {s : AS}
theorem copy_e {b : Nat} {p sl : Value} (hpr : pr 261 = none) (hs : s.get b = some (.cells #[p,sl] 119)) (hp : p = .pointer none ∨ p = aptr b 0) : ∃ s',EF prog ktB pr 261 #[aptr b 0] s (.tuple #[]) s' ∧ s'.nx = s.nx ∧ s'.get b = some (.cells #[aptr b 0,sl] 119) ∧ ∀ k,k ≠ b → s'.get k = s.get k := by
 refine EF.ofE hpr func261 rfl ?_
 refine EW.seq (EW.region (by kernel_rfl) (EO.go 3 5 (by kernel_rfl) ?_))
 refine EO.asS s (by kernel_rfl) (EO.op (by kernel_rfl) (op_ld (b := b) (off := 0) (v := p) rfl underlying117 rfl (by kernel_rfl) hs rfl) ?_)
 rcases hp with rfl | rfl
 ·
  refine EO.fin 5 (by kernel_rfl) (EW.condT (by kernel_rfl) ?_)
  refine EW.region (by kernel_rfl) (EO.go 2 5 (by kernel_rfl) ?_)
  refine EO.asS s (by kernel_rfl) (EO.op (by kernel_rfl) (op_cnv rfl (by kernel_rfl) (cnv_1 (b := b) (k := 1) (by kernel_rfl) underlying117 underlying244 hs (by kernel_rfl) (by simp))) ?_)
  refine EO.q (by kernel_rfl) (by kernel_rfl) ?_
  refine EO.asS s (by kernel_rfl) (EO.op (by kernel_rfl) (op_cnv rfl (by kernel_rfl) (cnv_2 (b := b) (k := 1) (by kernel_rfl) underlying244 underlying117 hs (by kernel_rfl) (by kernel_rfl))) ?_)
  refine EO.go 2 5 (by kernel_rfl) (EO.asS s (by kernel_rfl) ?_)
  refine EO.op (by kernel_rfl) (op_st (b := b) (off := 0) (w := aptr b 0) rfl (by kernel_rfl) (by kernel_rfl) rfl rfl (by kernel_rfl) hs (by simp)) (EO.nil ⟨.inl rfl,by kernel_rfl,?_⟩)
  refine ⟨rfl,?_,fun k hk => ?_⟩
  ·
   rw [AS.get_set,if_pos rfl]
   rfl
  ·
   rw [AS.get_set,if_neg hk]
 ·
  refine EO.fin 5 (by kernel_rfl) (EW.condF (by kernel_rfl) ?_)
  refine EW.seq (EW.region (by kernel_rfl) (EO.go 3 5 (by kernel_rfl) ?_))
  refine EO.asS s (by kernel_rfl) (EO.op (by kernel_rfl) (op_ld (b := b) (off := 0) (v := aptr b 0) rfl underlying117 rfl (by kernel_rfl) hs rfl) ?_)
  refine EO.go 1 5 (by kernel_rfl) (EO.asS s (by kernel_rfl) ?_)
  refine EO.op (by kernel_rfl) (op_neqP (b := b) (k := 1) rfl (by kernel_rfl) (by kernel_rfl) underlying117 (by kernel_rfl)) (EO.nil ?_)
  refine EW.condF (by kernel_rfl) (EW.skip ?_)
  exact ⟨.inl rfl,by kernel_rfl,rfl,hs,fun k hk => rfl⟩
theorem strCells_app (l m : List UInt8) : strCells ⟨l.toArray⟩ ++ strCells ⟨m.toArray⟩ = strCells ⟨(l ++ m).toArray⟩ := by
 show (l.map fun b => Value.int .u8 b.toNat) ++ (m.map fun b => Value.int .u8 b.toNat) = (l ++ m).map fun b => Value.int .u8 b.toNat
 rw [List.map_append]
theorem write_e {N b : Nat} {l m : List UInt8} (h261 : pr 261 = none) (h156 : pr 156 = none) (h : BW s N b l) (hl : l.length + m.length ≤ 1000000) : ∃ s',EF prog ktB pr 156 #[aptr b 0,str m] s (.tuple #[num m.length, .nilIface]) s' ∧ BW s' N b (l ++ m) ∧ FrB N s s' := by
 obtain ⟨hN,hb,p,sl,hs,hp,hsl⟩ := h
 obtain ⟨s1,hc,c1,c2,c3⟩ := copy_e h261 hs hp
 refine EF.ofE h156 func156 rfl ?_
 refine EW.seq (EW.go 5 (by kernel_rfl) (EW.seq (EW.region (by kernel_rfl) ?_)))
 refine EO.go 1 5 (by kernel_rfl) (EO.asS s (by kernel_rfl) ?_)
 refine EO.callF #[aptr b 0] (by kernel_rfl) rfl rfl (by kernel_rfl) (by kernel_rfl) hc (EO.nil ?_)
 refine EW.seq (EW.region (by kernel_rfl) (EO.go 4 5 (by kernel_rfl) ?_))
 refine EO.asS s1 (by kernel_rfl) (EO.op (by kernel_rfl) (op_ld (b := b) (off := 1) (v := sl) rfl underlying55 rfl (by kernel_rfl) c2 rfl) ?_)
 refine EO.go 1 5 (by kernel_rfl) (EO.asS s1 (by kernel_rfl) ?_)
 have key : ∀ (v : Value) (s2 : AS),v.cells = #[v] → v.oneCell' = true → zd4 prog 5 sl (strCells ⟨m.toArray⟩) m.length s1 = some (v,s2) → s2.get b = some (.cells #[aptr b 0,sl] 119) → s1.nx ≤ s2.nx → (∀ k,k < N → s2.get k = s1.get k) → ((v = .slice none 0 0 ∧ l ++ m = []) ∨ ∃ d fz,v = .slice (some ⟨d,0,none⟩) (l ++ m).length (l ++ m).length ∧ N ≤ d ∧ d < s2.nx ∧ d ≠ b ∧ s2.get d = some (.cells (byC (l ++ m)) 5 fz)) → plainRow sl = true → ∃ w s3,zd4 prog 5 sl (strCells ⟨m.toArray⟩) m.length s1 = some (w,s3) ∧ w.cells = #[w] ∧ w.oneCell' = true ∧ plainRow sl = true ∧ s3.get b = some (.cells #[aptr b 0,sl] 119) ∧ BW (s3.set b (some (.cells #[aptr b 0,w] 119))) N b (l ++ m) ∧ FrB N s (s3.set b (some (.cells #[aptr b 0,w] 119))) := by
  intro v s2 k1 k2 k3 k4 k5 k6 k7 k8
  refine ⟨v,s2,k3,k1,k2,k8,k4,⟨hN,by simp; omega,aptr b 0,v,by rw [AS.get_set,if_pos rfl], .inr rfl,?_⟩,by simp; omega,fun k hk => ?_⟩
  ·
   rcases k7 with k7 | ⟨d,fz,q1,q2,q3,q4,q5⟩
   ·
    exact .inl k7
   ·
    exact .inr ⟨d,fz,q1,q2,by simpa using q3,q4,by rw [AS.get_set,if_neg q4]; exact q5⟩
  ·
   rw [AS.get_set,if_neg (by omega),k6 k hk,c3 k (by omega)]
 have hex : ∃ w s3,zd4 prog 5 sl (strCells ⟨m.toArray⟩) m.length s1 = some (w,s3) ∧ w.cells = #[w] ∧ w.oneCell' = true ∧ plainRow sl = true ∧ s3.get b = some (.cells #[aptr b 0,sl] 119) ∧ BW (s3.set b (some (.cells #[aptr b 0,w] 119))) N b (l ++ m) ∧ FrB N s (s3.set b (some (.cells #[aptr b 0,w] 119))) := by
  cases m with
  | nil =>
   rcases hsl with ⟨rfl,rfl⟩ | ⟨d,fz,rfl,q2,q3,q4,q5⟩
   ·
    exact key _ s1 rfl rfl (app_0 (.inl rfl)) c2 (Nat.le_refl _) (fun k hk => rfl) (.inl ⟨rfl,rfl⟩) rfl
   ·
    refine key _ s1 rfl rfl (app_0 (.inr ⟨d,_,_,rfl⟩)) c2 (Nat.le_refl _) (fun k hk => rfl) (.inr ⟨d,fz,by rw [List.append_nil],q2,by omega,q4,by rw [c3 d q4,List.append_nil]; exact q5⟩) rfl
  | cons x m =>
   rcases hsl with ⟨rfl,rfl⟩ | ⟨d,fz,rfl,q2,q3,q4,q5⟩
   ·
    refine key _ _ rfl rfl (app_none (by simp)) (by rw [AS.get_add,if_neg (by omega)]; exact c2) (by simp) (fun k hk => by rw [AS.get_add,if_neg (by omega)]) (.inr ⟨s1.nx,(1,1),rfl,by omega,by simp,by omega,by rw [AS.get_add,if_pos rfl]; rfl⟩) rfl
   ·
    have hlen : (byC l).size = l.length := by simp [strCells]
    refine key _ _ rfl rfl (app_row (sz := 1) (by simp) (by rw [c3 d q4]; exact q5) (by kernel_rfl) (by rw [hlen]; omega) (by omega)) (by rw [AS.get_add,if_neg (by simp; omega),AS.get_set,if_neg (Ne.symm q4)]; exact c2) (by simp) (fun k hk => by rw [AS.get_add,if_neg (by simp; omega),AS.get_set,if_neg (by omega)]) (.inr ⟨s1.nx,(1,1),by rw [List.length_append],by omega,by simp,by omega,?_⟩) rfl
    rw [AS.get_add,if_pos (by simp)]
    have : List.take (l.length * 1) (byC l).toList = strCells ⟨l.toArray⟩ := by
     rw [Nat.mul_one]
     exact List.take_of_length_le (by simp [strCells])
    rw [this,strCells_app]
 obtain ⟨w,s3,e1,e2,e3,e4,e5,e6,e7⟩ := hex
 refine EO.op (by kernel_rfl) (op_appS (sl := sl) (m := m) rfl (by kernel_rfl) (by kernel_rfl) underlying55 underlying9 (by kernel_rfl) (by kernel_rfl) (by omega) e4 e1) (EO.go 2 5 (by kernel_rfl) ?_)
 refine EO.asS s3 (by kernel_rfl) (EO.op (by kernel_rfl) (op_st (b := b) (off := 1) (w := w) rfl (by kernel_rfl) (by kernel_rfl) e2 e3 (by kernel_rfl) e5 (by simp)) ?_)
 refine EO.nil (EW.seq (EW.region (by kernel_rfl) ?_))
 refine EO.go 1 5 (by kernel_rfl) (EO.op (by kernel_rfl) (zl0 (l := m) rfl underlying9 (by kernel_rfl)) ?_)
 refine EO.fin 5 (by kernel_rfl) (EW.ret ⟨.inr rfl,by kernel_rfl,?_⟩)
 exact ⟨e6,e7⟩
theorem string_e {N b : Nat} {l : List UInt8} (h84 : pr 84 = none) (h : BW s N b l) (h0 : l ≠ []) (hl : l.length ≤ 1000000) : ∃ s',EF prog ktB pr 84 #[aptr b 0] s (str l) s' ∧ FrB N s s' := by
 obtain ⟨hN,hb,p,sl,hs,hp,hsl⟩ := h
 rcases hsl with ⟨_,hsl⟩ | ⟨d,fz,rfl,q2,q3,q4,q5⟩
 ·
  exact absurd hsl h0
 obtain ⟨c,l,rfl⟩ : ∃ c l',l = c :: l' := by
  cases l with
  | nil => exact absurd rfl h0
  | cons c l => exact ⟨c,l,rfl⟩
 refine EF.ofE h84 func84 rfl ?_
 refine EW.seq (EW.go 5 (by kernel_rfl) ?_)
 refine EW.seq (EW.draw (by kernel_rfl) (by kernel_rfl) (by kernel_rfl) ?_)
 iterate 2
  refine ET.q (by kernel_rfl) (by kernel_rfl) ?_
  refine ET.q (by kernel_rfl) (by kernel_rfl) ?_
  refine ET.q (by kernel_rfl) (by kernel_rfl) ?_
  refine ET.asS s (by kernel_rfl) ?_
  refine ET.op (by kernel_rfl) (op_ld (b := b) (off := 1) (v := .slice (some ⟨d,0,none⟩) (c :: l).length (c :: l).length) rfl underlying55 rfl (by kernel_rfl) hs rfl) ?_
  refine ET.q (by kernel_rfl) (by kernel_rfl) ?_
 refine ET.asS s (by kernel_rfl) ?_
 refine ET.op (by kernel_rfl) (op_uns (d := d) (l := c :: l) (e := 5) (fz := fz) rfl (by kernel_rfl) (by kernel_rfl) (by kernel_rfl) q5 (by kernel_rfl) (by simp) (by omega)) ?_
 refine ET.q (by kernel_rfl) (by kernel_rfl) ?_
 have hld : zc8 prog 55 (aptr b 1) s = some (.slice (some ⟨d,0,none⟩) (c :: l).length (c :: l).length) := by
  unfold zc8
  simp only [aptr,hs,underlying55]
  rfl
 refine ET.nil ⟨zg1 [(zc8 prog 55 (aptr b 1) s, .slice (some ⟨d,0,none⟩) (c :: l).length (c :: l).length),(zc8 prog 55 (aptr b 1) s, .slice (some ⟨d,0,none⟩) (c :: l).length (c :: l).length)] (by kernel_rfl) (by simp [zh0,hld]),_,_,_,_,_,_,rfl,rfl,?_⟩
 refine EW.ret ⟨.inr rfl,by kernel_rfl,?_⟩
 refine ⟨Nat.le_refl _,fun k hk => ?_⟩
 show (s.set d none).get k = _
 rw [AS.get_set,if_neg (by omega)]
end
end
section
open Go.Conc Go.RowKit Go.Lib
theorem wrapF_ok {r : Int} (h : -9223372036854775808 ≤ r ∧ r ≤ 9223372036854775807) : wrapF .i64 r = r := by
 unfold wrapF
 simp only
 split
 ·
  rfl
 ·
  rw [IntKind.wrap_i64]; omega
theorem wrapS {r : Int} (h : -9223372036854775808 ≤ r ∧ r ≤ 9223372036854775807) : IntKind.i64.wrap r = r := by
 rw [IntKind.wrap_i64]; omega
end
section
open Go.Conc Go.RowKit Go.Lib
theorem op_addB {P : Program} {kt : TypeId → Bool} {c : CallF} {a : TL} {s : AS} {o : Oper} {t : TypeId} {x y : Operand} {z} {i j r : Int} (hop : o.op = .binOp .add t x y z) (hx : a.at x = num i) (hy : a.at y = num j) (hr : i + j = r) (hs : -9223372036854775808 ≤ r ∧ r ≤ 9223372036854775807) : evOp P kt c a o s = some (num r,s) := by
 refine zk7 (by rw [hop]; rfl) (by rw [hop]; trivial) ?_
 unfold ze4
 rw [hop]
 simp only
 rw [hx,hy]
 unfold evBin
 simp only [if_pos]
 rw [hr,wrapF_ok hs]
theorem bin_geqK {k : IntKind} {i j : Int} {b : Bool} (h : decide (i ≥ j) = b) : evBin .geq (.int k i) (.int k j) = some (.bool b) := by unfold evBin; simp only [if_pos]; rw [h]
theorem zk1 {k : IntKind} {i j : Int} {b : Bool} (h : decide (i ≤ j) = b) : evBin .leq (.int k i) (.int k j) = some (.bool b) := by unfold evBin; simp only [if_pos]; rw [h]
def pickN (y : Int) (m : Int) : Nat := ((if y < 0 then -(y + 1) else y) % m).toNat
theorem pickN_lt (y : Int) (m : Nat) (hm : 0 < m) : pickN y m < m := by
 unfold pickN
 have h1 := Int.emod_nonneg (if y < 0 then -(y + 1) else y) (b := (m : Int)) (by omega)
 have h2 := Int.emod_lt_of_pos (if y < 0 then -(y + 1) else y) (b := (m : Int)) (by omega)
 omega
end
section
open Go.Conc Go.RowKit Go.Lib
section
variable {P : Program} {kt : TypeId → Bool} {pr : Prim} {a : TL} {s s1 : AS} {K : TL → AS → Prop} {ops : Array Oper} {rest : List Oper} {v : Value}
def oT : Option (TL × AS) → Option AS
 | some (_,s) => some s
 | none => none
theorem EO.gs (k n : Nat) (s' : AS) (h : oT (evOps P kt (zb8 P kt pr n) ops (rest.take k) a s) = some s') (kk : EO P kt pr ops (rest.drop k) (oA (evOps P kt (zb8 P kt pr n) ops (rest.take k) a s)) s' K) : EO P kt pr ops rest a s K := by
 generalize hq : evOps P kt (zb8 P kt pr n) ops (rest.take k) a s = q at h kk
 obtain _ | ⟨a',s2⟩ := q
 ·
  cases h
 ·
  cases h
  exact EO.run k n a' s' hq kk
def goC (P : Program) (ops : Array Oper) (r : List Oper) : Option (TL × AS) → Option (FuncId × Array Value × AS)
 | some (a,s) => match r with
  | o :: _ => match o.op with
   | .call cl => match cl.callee with
    | .value (.func g) => if Region.wanted o (zc7 ops a) = true ∧ noEsc P (.func g) = false then some (g,#[] ++ cl.args.map a.at ++ #[],s) else none
    | _ => none
   | _ => none
  | [] => none
 | none => none
def putO (r : List Oper) (a : TL) (v : Value) : TL := match r with
 | o :: _ => a.put o.dst v
 | [] => a
theorem EO.gc (k n : Nat) {g : FuncId} {args : Array Value} {s' : AS} (h : goC P ops (rest.drop k) (evOps P kt (zb8 P kt pr n) ops (rest.take k) a s) = some (g,args,s')) (hf : EF P kt pr g args s' v s1) (kk : EO P kt pr ops (rest.drop (k + 1)) (putO (rest.drop k) (oA (evOps P kt (zb8 P kt pr n) ops (rest.take k) a s)) v) s1 K) : EO P kt pr ops rest a s K := by
 generalize hq : evOps P kt (zb8 P kt pr n) ops (rest.take k) a s = q at h kk
 obtain _ | ⟨a',s2⟩ := q
 ·
  cases h
 ·
  rw [← List.drop_drop] at kk
  refine EO.run k n a' s2 hq ?_
  generalize rest.drop k = r at h kk
  cases r with
  | nil => cases h
  | cons o t =>
   simp only [goC] at h
   split at h
   ·
    next cl hop =>
    split at h
    ·
     next g' hcl =>
     split at h
     ·
      next hw =>
      cases h
      exact EO.callF _ hw.1 hop hcl hw.2 rfl hf kk
     ·
      cases h
    ·
     cases h
   ·
    cases h
end
def tlX (x : Nat → Value) : Nat → Nat → TL
 | _,0 => []
 | k,n + 1 => x k :: tlX x (k + 1) n
section
variable {P : Program} {kt : TypeId → Bool} {c : CallF} {a : TL} {o : Oper} {s : AS}
theorem op_rg {t : TypeId} {x : Operand} {l : List UInt8} (hop : o.op = .range t x) (ht : P.underlying t = some .string) (hx : a.at x = str l) (hk : kt (1000 + l.length) = false) : evOp P kt c a o s = some (aptr s.nx 0,s.add (.stringIter ⟨l.toArray⟩ 0)) := by
 unfold evOp
 rw [if_pos (by rw [hop]; rfl)]
 unfold evNew
 rw [hop]
 simp only [ht,hx]
 rw [if_neg (by rw [show ByteArray.size ⟨l.toArray⟩ = l.length from by simp [ByteArray.size],hk]; simp)]
theorem op_nx {x : Operand} {b pos : Nat} {l : List UInt8} {r : UInt8} (hop : o.op = .next x true) (hx : a.at x = aptr b 0) (hs : s.get b = some (.stringIter ⟨l.toArray⟩ pos)) (hl : l[pos]? = some r) (hr : r.toNat < 128) (hk : kt (1000 + l.length) = false) :
  evOp P kt c a o s = some (.tuple #[.bool true,num pos, .int .i32 r.toNat],s.set b (some (.stringIter ⟨l.toArray⟩ (pos + 1)))) := by
 have hsz : ByteArray.size ⟨l.toArray⟩ = l.length := by simp [ByteArray.size]
 obtain ⟨hlt,hget⟩ := List.getElem?_eq_some_iff.1 hl
 have hd : Utf8.decode ⟨l.toArray⟩ pos = (r.toNat,1) := by
  have h1 : pos < ByteArray.size ⟨l.toArray⟩ := by omega
  have h2 : (ByteArray.mk l.toArray)[pos]'h1 = r := by
   show l.toArray[pos] = r
   simpa using hget
  rw [decode_low h1 (by rw [h2]; exact hr),h2]
 unfold evOp
 rw [if_neg (by rw [hop]; simp [isNew]),hop]
 simp only [hx,aptr,hs,hsz,hd]
 rw [if_pos hlt,if_neg (by rw [hk]; simp)]
 rfl
theorem op_nx0 {x : Operand} {b pos : Nat} {l : List UInt8} (hop : o.op = .next x true) (hx : a.at x = aptr b 0) (hs : s.get b = some (.stringIter ⟨l.toArray⟩ pos)) (hl : l.length ≤ pos) : evOp P kt c a o s = some (.tuple #[.bool false],s) := by
 have hsz : ByteArray.size ⟨l.toArray⟩ = l.length := by simp [ByteArray.size]
 unfold evOp
 rw [if_neg (by rw [hop]; simp [isNew]),hop]
 simp only [hx,aptr,hs,hsz]
 rw [if_neg (by omega)]
end
theorem ktB_len : ∀ m,m < 16 → ktB (1000 + m) = false := by decide
section
variable {rn : Nat} {all : List Int} {s : AS}
theorem index0R_e (l : List UInt8) (c : UInt8) (s : AS) : EF prog ktB (prRow rn all) 341 #[str l,str [c]] s (.int .i64 (if beqL [c] l = true then 0 else idxF (((c.toNat : Nat) : Int).toNat % 256) l 0)) s := by
 refine EF.of (by kernel_rfl) func341 rfl ?_
 iterate 2
  refine EW.seq (EW.go 50 (by kernel_rfl) ?_)
 refine EW.seq (EW.block (EW.seq (EW.go 50 (by kernel_rfl) ?_)))
 refine EW.cond (b := beqL [c] l) (by kernel_rfl) (fun hb => ?_) (fun hb => ?_)
 ·
  rw [if_pos hb]
  refine EW.goE 50 .ret (by kernel_rfl) ?_
  exact ⟨.inr rfl,by kernel_rfl,by kernel_rfl⟩
 ·
  rw [if_neg (by rw [hb]; simp)]
  refine EW.goE 50 .ret (by kernel_rfl) ?_
  exact ⟨.inr rfl,by kernel_rfl,by kernel_rfl⟩
theorem indexR_no {l : List UInt8} {c : UInt8} (h : c ∉ l) : EF prog ktB (prRow rn all) 341 #[str l,str [c]] s (num (-1)) s := by
 have := index0R_e (rn := rn) (all := all) l c s
 rw [toNat_mod,idxF_no h,beqL_ne (by rintro rfl; simp at h)] at this
 exact this
theorem indexR_yes {a b : List UInt8} {c : UInt8} (h : c ∉ a) : EF prog ktB (prRow rn all) 341 #[str (a ++ c :: b),str [c]] s (num a.length) s := by
 have := index0R_e (rn := rn) (all := all) (a ++ c :: b) c s
 rw [toNat_mod,idxF_yes h] at this
 by_cases hb : beqL [c] (a ++ c :: b) = true
 ·
  have e := (zl5 _ _).1 hb
  have ha : a = [] := by
   cases a with
   | nil => rfl
   | cons x a => simp at e
  subst ha
  rw [if_pos hb] at this
  exact this
 ·
  rw [if_neg hb] at this
  exact this
theorem cut0R_e {c : UInt8} {x a b : List UInt8} {t : Bool} (h : CutN c x a b t) (hx : x.length ≤ 1000000) : EF prog ktB (prRow rn all) 331 #[str x,str [c]] s (.tuple #[str a,str b, .bool t]) s := by
 refine EF.of (by kernel_rfl) func331 rfl ?_
 refine EW.seq (EW.go 50 (by kernel_rfl) (EW.seq (EW.seq (EW.region (by kernel_rfl) ?_))))
 refine EO.go 2 50 (by kernel_rfl) ?_
 rcases h with ⟨rfl,h,rfl,rfl⟩ | ⟨rfl,h,rfl⟩
 ·
  refine EO.callF #[str a,str [c]] (by kernel_rfl) rfl rfl (by kernel_rfl) (by kernel_rfl) (indexR_no h) (EO.fin 50 (by kernel_rfl) ?_)
  refine EW.go 50 (by kernel_rfl) ?_
  refine EW.goE 50 .ret (by kernel_rfl) ?_
  exact ⟨.inr rfl,by kernel_rfl,by kernel_rfl⟩
 ·
  have hl : a.length + (b.length + 1) ≤ 1000000 := by simpa using hx
  refine EO.callF #[str (a ++ c :: b),str [c]] (by kernel_rfl) rfl rfl (by kernel_rfl) (by kernel_rfl) (indexR_yes h) (EO.fin 50 (by kernel_rfl) ?_)
  refine EW.seq (EW.go 50 (by kernel_rfl) (EW.condT (by kernel_rfl) ?_))
  refine EW.seq (EW.draw (by kernel_rfl) (by kernel_rfl) (by kernel_rfl) ?_)
  iterate 2
   refine ET.q (by kernel_rfl) (by kernel_rfl) ?_
  refine ET.op (by kernel_rfl) (op_sub (l := a ++ c :: b) (i := 0) (j := a.length) rfl underlying9 (by kernel_rfl) ((show _ = zd5 (a ++ c :: b).length (a ++ c :: b).length none (some (num a.length)) by kernel_rfl).trans (bnd_hi (by omega) (by simp; omega))) (take_cut _ _ _)) ?_
  iterate 4
   refine ET.q (by kernel_rfl) (by kernel_rfl) ?_
  refine ET.op (by kernel_rfl) (op_addI (i := a.length) (j := 1) (r := a.length + 1) rfl (by kernel_rfl) (by kernel_rfl) rfl (by omega)) ?_
  refine ET.op (by kernel_rfl) (op_sub (l := a ++ c :: b) (i := a.length + 1) (j := (a ++ c :: b).length) rfl underlying9 (by kernel_rfl) ((show _ = zd5 (a ++ c :: b).length (a ++ c :: b).length (some (num (a.length + 1))) none by kernel_rfl).trans (bnd_lo (by omega) (by simp; omega))) (drop_cut _ _ _)) ?_
  iterate 3
   refine ET.q (by kernel_rfl) (by kernel_rfl) ?_
  refine ET.nil ⟨by kernel_rfl,_,_,_,_,_,_,rfl,rfl,?_⟩
  refine EW.ret ?_
  exact ⟨.inr rfl,by kernel_rfl,by kernel_rfl⟩
theorem cutR_e {c : UInt8} {x a b : List UInt8} {t : Bool} (h : CutN c x a b t) (hx : x.length ≤ 1000000) : EF prog ktB (prRow rn all) 262 #[str x,str [c]] s (.tuple #[str a,str b, .bool t]) s := by
 refine EF.of (by kernel_rfl) func262 rfl ?_
 refine EW.seq (EW.go 50 (by kernel_rfl) (EW.seq (EW.region (by kernel_rfl) ?_)))
 refine EO.go 2 50 (by kernel_rfl) (EO.callF #[str x,str [c]] (by kernel_rfl) rfl rfl (by kernel_rfl) (by kernel_rfl) (cut0R_e h hx) ?_)
 refine EO.fin 50 (by kernel_rfl) (EW.ret ?_)
 exact ⟨.inr rfl,by kernel_rfl,by kernel_rfl⟩
end
end
end Go.Proofs.YtgcaionclkbehaaGreatDoor
