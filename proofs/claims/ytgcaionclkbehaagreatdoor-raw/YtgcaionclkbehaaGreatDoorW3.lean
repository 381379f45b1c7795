import Derived.Test.YtgcaionclkbehaaGreatDoorW1
import Derived.Test.YtgcaionclkbehaaGreatDoorW2
set_option linter.all false
namespace Go.Proofs.YtgcaionclkbehaaGreatDoor
open Tryz
open Go.Conc Go.RowKit Go.Lib
def prLone (P : Program) (n : Nat) : Prim := fun f => if f.beq 37 then some (prOf P n) else prBase f
theorem prOf_of {P : Program} {n : Nat} {args : Array Value} {s s' : AS} {bp c0 : Nat} {f : FuncId} {x y cs : Array Value} {fz : Nat × Nat} {f₀ : Func} {str : ByteArray} {rest : List Value} {c : Code} {e : Exit} {a' : TL} (ha : args.toList = [.slice (some ⟨bp,0,none⟩) 1 c0, .func (.func f) x y]) (hb : s.get bp = some (.cells cs 9 fz)) (hf : P.funcs[f]? = some f₀) (hcs : cs.toList = .string str :: rest) (hbody : f₀.body = some c) (hc : x.toList.isEmpty = true ∧ f₀.results.toList.isEmpty = true ∧ lenL str.data.toList 0 ≤ 20000 ∧ 1 < s.nx)
  (hev : evC P ktB (prRow s.nx (zd0 str)) n c ((aptr s.nx 0 :: y.toList) ++ List.replicate (f₀.ntmps - (y.size + 1)) undef) ⟨(s.set bp none).hp,s.nx + 1⟩ = some (e,a',s')) (hk : AS.keeps (s.set bp none) s' = true) (he : e = .normal ∨ e = .ret) : prOf P n args s = some (.tuple #[],s'.tidy s.nx) := by
 unfold prOf
 rw [ha]
 simp only
 rw [hb,hf]
 simp only
 rw [hcs,hbody]
 simp only
 rw [if_pos hc,hev]
 simp only
 rw [if_pos hk]
 rcases he with rfl | rfl <;> rfl
theorem EF.ofE {P : Program} {kt : TypeId → Bool} {pr : Prim} {f : FuncId} {fn : Func} {b : Code} {args : Array Value} {s : AS} {v : Value} {G : AS → Prop} (hp : pr f = none) (hf : P.funcs[f]? = some fn) (hb : fn.body = some b) (h : EW P kt pr b (args.toList ++ List.replicate (fn.ntmps - args.toList.length) undef) s (fun e a' s1 => (e = .normal ∨ e = .ret) ∧ evRes P fn a' s1 = some v ∧ G s1)) : ∃ s',EF P kt pr f args s v s' ∧ G s' := by
 obtain ⟨n,e,a',s1,h1,he,h2,h3⟩ := h
 exact ⟨s1,EF.of hp hf hb ⟨n,e,a',s1,h1,he,h2,rfl⟩,h3⟩
theorem EW.awk {P : Program} {kt : TypeId → Bool} {pr : Prim} {n : Nat} {c : Code} {a : TL} {s : AS} (h : awk (evC P kt pr n c a s) = true) : EW P kt pr c a s (fun e a' s1 => e = .ret ∧ a'.getD 0 undef = .bool true ∧ s1.get 1 = some (.cells entC.toArray 335)) := by
 generalize hq : evC P kt pr n c a s = q at h
 unfold YtgcaionclkbehaaGreatDoor.awk at h
 split at h
 ·
  simp only [Bool.and_eq_true] at h
  exact ⟨n,_,_,_,hq,rfl,zk8 h.1,oeq_sound h.2⟩
 ·
  cases h
theorem op_stG {P : Program} {kt : TypeId → Bool} {c : CallF} {a : TL} {s s' : AS} {o : Oper} {t : TypeId} {x y : Operand} {u v : Value} (hop : o.op = .store t x y) (hx : a.at x = u) (hy : a.at y = v) (h : evStore P t u v s = some s') : evOp P kt c a o s = some (undef,s') := by
 unfold evOp
 rw [if_neg (by rw [hop]; simp [isNew]),hop]
 simp only
 rw [hx,hy,h]
theorem of_e : ∃ n,prOf prog n #[.slice (some ⟨35,0,none⟩) 1 1, .func (.func 38) #[] #[aptr 36 0]] sC = some (.tuple #[],sG) := by
 have h39 := e39
 unfold fin39 at h39
 split at h39
 ·
  next v s1 h1 =>
  split at h39
  ·
   next s2 h2 =>
   simp only [Bool.and_eq_true] at h39
   have hG := seqB_sound h39.2
   have hw : EW prog ktB (prRow 37 L0) (match Tryz.f38.body with | some c => c | none => .skip) ((aptr 37 0 :: [aptr 36 0]) ++ List.replicate (Tryz.f38.ntmps - 2) undef) sD (fun e a' s' => (e = .normal ∨ e = .ret) ∧ s' = s2) := by
    refine EW.region (by kernel_rfl) (EO.go 1 5 (by kernel_rfl) ?_)
    refine EO.callF #[aptr 37 0] (by kernel_rfl) rfl rfl (by kernel_rfl) (by kernel_rfl) e40 (EO.callF #[.slice (some ⟨164,0,none⟩) 11 11] (by kernel_rfl) rfl rfl (by kernel_rfl) (by kernel_rfl) (EF.eval 10000 h1) ?_)
    refine EO.go 1 5 (by kernel_rfl) (EO.asS s1 (by kernel_rfl) ?_)
    refine EO.op (v := undef) (s1 := s2) (by kernel_rfl) (op_stG rfl (by kernel_rfl) (by kernel_rfl) h2) ?_
    exact EO.nil ⟨.inl rfl,rfl⟩
   obtain ⟨n,e,a',s',hn,he,rfl⟩ := hw
   refine ⟨n,?_⟩
   have := prOf_of (P := prog) (n := n) (args := #[.slice (some ⟨35,0,none⟩) 1 1, .func (.func 38) #[] #[aptr 36 0]]) (s := sC) (s' := s') (bp := 35) (c0 := 1) (f := 38) (x := #[]) (y := #[aptr 36 0]) (cs := #[.string pageB]) (fz := (1,1)) (f₀ := Tryz.f38) (str := pageB) (rest := []) (c := (match Tryz.f38.body with | some c => c | none => .skip)) (e := e) (a' := a') rfl (by kernel_rfl) func38 rfl (by kernel_rfl) ⟨by kernel_rfl,by kernel_rfl,by decide,by decide⟩ (by rw [lets_eq]; exact hn) h39.1 he
   rw [this]
   exact congrArg (fun z => some (Value.tuple #[],z)) hG
  ·
   cases h39
 ·
  cases h39
theorem end_e {n : Nat} (h : prOf prog n #[.slice (some ⟨35,0,none⟩) 1 1, .func (.func 38) #[] #[aptr 36 0]] sC = some (.tuple #[],sG)) : EF prog ktB (prLone prog n) 21 #[aptr 32 0] sB (.tuple #[aptr 36 0, .int .i64 0]) sH := by
 refine EF.of (by kernel_rfl) func21 rfl ?_
 iterate 3
  refine EW.seq (EW.go 50 (by kernel_rfl) ?_)
 refine EW.asS sC (by kernel_rfl) (EW.seq (EW.region (by kernel_rfl) ?_))
 refine EO.go 5 50 (by kernel_rfl) ?_
 refine EO.callF #[.slice (some ⟨35,0,none⟩) 1 1, .func (.func 38) #[] #[aptr 36 0]] (by kernel_rfl) rfl rfl (by kernel_rfl) (by kernel_rfl) (EF.prim (g := prOf prog n) (by kernel_rfl) (by rw [show oS _ = sC by kernel_rfl]; exact h)) (EO.nil ?_)
 refine EW.goE 50 .ret (by kernel_rfl) ?_
 exact ⟨.inr rfl,by kernel_rfl,by kernel_rfl⟩
theorem read_e {n : Nat} (h : prOf prog n #[.slice (some ⟨35,0,none⟩) 1 1, .func (.func 38) #[] #[aptr 36 0]] sC = some (.tuple #[],sG)) : EF prog ktB (prLone prog n) 17 #[.string pageB] sA (aptr 36 0) sH := by
 refine EF.of (by kernel_rfl) func17 rfl ?_
 iterate 4
  refine EW.seq (EW.go 500 (by kernel_rfl) ?_)
 refine EW.asS sB (seqB_sound (by kernel_rfl)) (EW.seq (EW.region (by kernel_rfl) ?_))
 refine EO.go 1 50 (by kernel_rfl) ?_
 refine EO.callF #[aptr 32 0] (by kernel_rfl) rfl rfl (by kernel_rfl) (by kernel_rfl) (s1 := sH) (v := .tuple #[aptr 36 0, .int .i64 0]) (by rw [show oS _ = sB by kernel_rfl]; exact end_e h) (EO.fin 50 (by kernel_rfl) ?_)
 refine EW.goE 50 .ret (by kernel_rfl) ?_
 exact ⟨.inr rfl,by kernel_rfl,by kernel_rfl⟩
end Go.Proofs.YtgcaionclkbehaaGreatDoor
