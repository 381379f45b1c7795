import Derived.Test.YtgcaionclkbehaaGreatDoorN11
set_option linter.all false
namespace Go.Proofs.YtgcaionclkbehaaGreatDoor
open Tryz
section
open Go.Conc Go.RowKit Go.Lib
section
variable {pr : Prim} {s : AS}
theorem pick4_e {y : Int} (hp : pr 19 = none) (hy : -9223372036854775808 ≤ y ∧ y ≤ 9223372036854775807) : EF prog ktB pr 19 #[num y,num 4] s (num ((pickN y 4 : Nat) : Int)) s := by
 refine EF.of hp func19 rfl ?_
 refine EW.seq (EW.go 5 (by kernel_rfl) (EW.seq (EW.seq (EW.region (by kernel_rfl) ?_))))
 refine EO.go 1 5 (by kernel_rfl) ?_
 by_cases h : y < 0
 ·
  have hpk : ((-(y + 1)).tmod 4 : Int) = ((pickN y 4 : Nat) : Int) := by
   unfold pickN
   rw [if_pos h,Int.tmod_eq_emod_of_nonneg (by omega)]
   omega
  refine EO.op (by kernel_rfl) (zc4 (u := num y) (w := num 0) rfl (by kernel_rfl) (by kernel_rfl) (bin_lss (b := true) (decide_eq_true h))) (EO.nil ?_)
  refine EW.condT (by kernel_rfl) (EW.region (by kernel_rfl) ?_)
  refine EO.go 1 5 (by kernel_rfl) (EO.op (by kernel_rfl) (op_addB (i := y) (j := 1) (r := y + 1) rfl (by kernel_rfl) (by kernel_rfl) rfl (by omega)) ?_)
  refine EO.asS s (by kernel_rfl) ?_
  refine EO.op (v := num (-(y + 1))) (s1 := s) (by kernel_rfl) ((show _ = some (num (IntKind.i64.wrap (0 - (y + 1))),s) by kernel_rfl).trans (by rw [wrapS (by omega),Int.zero_sub])) (EO.fin 5 (by kernel_rfl) ?_)
  refine EW.seq (EW.region (by kernel_rfl) (EO.gs 2 5 s (by kernel_rfl) ?_))
  refine EO.op (v := num ((pickN y 4 : Nat) : Int)) (s1 := s) (by kernel_rfl) ((show _ = some (num ((-(y + 1)).tmod 4),s) by kernel_rfl).trans (by rw [hpk])) (EO.fin 5 (by kernel_rfl) ?_)
  exact EW.ret ⟨.inr rfl,by kernel_rfl,by kernel_rfl⟩
 ·
  have hpk : (y.tmod 4 : Int) = ((pickN y 4 : Nat) : Int) := by
   unfold pickN
   rw [if_neg h,Int.tmod_eq_emod_of_nonneg (by omega)]
   omega
  refine EO.op (by kernel_rfl) (zc4 (u := num y) (w := num 0) rfl (by kernel_rfl) (by kernel_rfl) (bin_lss (b := false) (decide_eq_false h))) (EO.nil ?_)
  refine EW.condF (by kernel_rfl) (EW.skip (EW.seq (EW.region (by kernel_rfl) ?_)))
  refine EO.gs 2 5 s (by kernel_rfl) ?_
  refine EO.op (v := num ((pickN y 4 : Nat) : Int)) (s1 := s) (by kernel_rfl) ((show _ = some (num (y.tmod 4),s) by kernel_rfl).trans (by rw [hpk])) (EO.fin 5 (by kernel_rfl) ?_)
  exact EW.ret ⟨.inr rfl,by kernel_rfl,by kernel_rfl⟩
def letOk (ls : List Nat) : Prop := (itT ls).length ≤ 61 ∧ ∀ c ∈ ls,It c ∧ c ≠ 0 ∧ c ≠ 13
def sl29 (q out : List UInt8) (i : Nat) (x : Nat → Value) : TL := [str q,x 1,str [],str out,num ((i : Nat) : Int)] ++ tlX x 5 37
def letS (c : UInt8) : List Nat := if 128 ≤ c.toNat then [233] else if c.toNat = 0 ∨ c.toNat = 13 then [] else [c.toNat]
def letF : List UInt8 → List Nat → List Nat
 | [],acc => acc
 | c :: r,acc => if (itT acc).length < 60 then letF r (acc ++ letS c) else acc
theorem letF_full {r : List UInt8} {acc : List Nat} (h : ¬ (itT acc).length < 60) : letF r acc = acc := by
 cases r with
 | nil => rfl
 | cons c r => rw [letF,if_neg h]
theorem letters_e {q : List UInt8} (hp : pr 29 = none) (hq : q.length ≤ 9223372036854775807) : letOk (letF q []) ∧ EF prog ktB pr 29 #[str q] s (str (itT (letF q []))) s := by
 suffices hx : ∃ ls,(letF q [] = ls ∧ letOk ls) ∧ EF prog ktB pr 29 #[str q] s (str (itT ls)) s by
  obtain ⟨ls,⟨rfl,h1⟩,h2⟩ := hx
  exact ⟨h1,h2⟩
 suffices h : EW prog ktB pr (match Tryz.f29.body with | some c => c | none => .skip) ((#[str q] : Array Value).toList ++ List.replicate (Tryz.f29.ntmps - (#[str q] : Array Value).toList.length) undef) s (fun e a' s1 => (e = .normal ∨ e = .ret) ∧ s1 = s ∧ ∃ ls,(letF q [] = ls ∧ letOk ls) ∧ evRes prog Tryz.f29 a' s1 = some (str (itT ls))) by
  obtain ⟨m,e,a',s1,h1,he,h2,ls,h3,h4⟩ := h
  exact ⟨ls,h3,EF.of hp func29 rfl ⟨m,e,a',s1,h1,he,h4,h2⟩⟩
 iterate 2
  refine EW.seq (EW.go 5 (by kernel_rfl) ?_)
 refine EW.seq (EW.seq (EW.go 5 (by kernel_rfl) (EW.asS s (by kernel_rfl) ?_)))
 refine EW.fill (sl29 q (itT []) 0) (by kernel_rfl) ?_
 intro x0
 refine EW.block ?_
 refine EW.mono (EW.loopI (Q := fun e a' s' => e = .exit 0 ∧ s' = s ∧ ∃ ls i,(letF q [] = ls ∧ letOk ls) ∧ ∃ x,a' = sl29 q (itT ls) i x) (fun m a' s' => s' = s ∧ ∃ ls i,i + m = q.length + 1 ∧ i ≤ q.length ∧ (letF q [] = letF (q.drop i) ls ∧ letOk ls) ∧ ∃ x,a' = sl29 q (itT ls) i x) ?_ (q.length + 1) _ _ ⟨rfl, [],0,by omega,by omega,⟨rfl,by simp [itT],by simp⟩,x0,rfl⟩) ?_
 ·
  rintro m a' s' ⟨rfl,ls,i,him,hi,⟨hF,hok⟩,x,rfl⟩
  obtain ⟨k,rfl⟩ : ∃ k,m = k + 1 := ⟨m - 1,by omega⟩
  refine EW.seq (EW.seq (EW.region (by kernel_rfl) (EO.go 2 5 (by kernel_rfl) ?_)))
  refine EO.op (by kernel_rfl) (zl0 (l := q) rfl underlying9 (by kernel_rfl)) ?_
  by_cases hlt : i < q.length
  ·
   refine EO.op (by kernel_rfl) (zc4 (u := num ((i : Nat) : Int)) (w := num q.length) rfl (by kernel_rfl) (by kernel_rfl) (bin_lss (b := true) (decide_eq_true (by omega)))) (EO.go 2 5 (by kernel_rfl) ?_)
   refine EO.op (by kernel_rfl) (zl0 (l := itT ls) rfl underlying9 (by kernel_rfl)) ?_
   by_cases h8 : (itT ls).length < 60
   ·
    refine EO.op (by kernel_rfl) (zc4 (u := num (itT ls).length) (w := num 60) rfl (by kernel_rfl) (by kernel_rfl) (bin_lss (b := true) (decide_eq_true (by omega)))) (EO.fin 5 (by kernel_rfl) ?_)
    refine EW.condT (by kernel_rfl) (EW.skip (EW.seq (EW.block (EW.block ?_))))
    have hb : q[i]? = some q[i] := List.getElem?_eq_getElem hlt
    have hF2 : letF q [] = letF (q.drop (i + 1)) (ls ++ letS q[i]) := by rw [hF,List.drop_eq_getElem_cons hlt,letF,if_pos h8]
    generalize q[i] = c at hb hF2
    have hidx : q[((i : Nat) : Int).toNat]? = some c := by rw [Int.toNat_natCast]; exact hb
    have hend : ∀ (ls' : List Nat) (a1 : TL) (s1 : AS),(ls ++ letS c = ls' ∧ letOk ls') → s1 = s' → (∃ x,a1 = sl29 q (itT ls') i x) → EW prog ktB pr (match Tryz.f29.body with | some (.seq _ (.seq _ (.seq (.seq _ (.block _ (.loop (.seq _ (.seq _ c))))) _))) => c | _ => .skip) a1 s1 (fun e a' s'' => match e with | .normal => ∃ m',m' < k + 1 ∧ s'' = s' ∧ ∃ ls i,i + m' = q.length + 1 ∧ i ≤ q.length ∧ (letF q [] = letF (q.drop i) ls ∧ letOk ls) ∧ ∃ x,a' = sl29 q (itT ls) i x | e => e = .exit 0 ∧ s'' = s' ∧ ∃ ls i,(letF q [] = ls ∧ letOk ls) ∧ ∃ x,a' = sl29 q (itT ls) i x) := by
     rintro ls' a1 s1 ⟨ho1,ho⟩ rfl ⟨x1,rfl⟩
     refine EW.region (by kernel_rfl) (EO.go 1 5 (by kernel_rfl) ?_)
     refine EO.op (by kernel_rfl) (op_addB (i := ((i : Nat) : Int)) (j := 1) (r := ((i + 1 : Nat) : Int)) rfl (by kernel_rfl) (by kernel_rfl) (by omega) (by omega)) (EO.fin 5 (by kernel_rfl) ?_)
     exact ⟨k,Nat.lt_succ_self k,by kernel_rfl,ls',i + 1,by omega,by omega,⟨by rw [hF2,ho1],ho⟩,fillX (by kernel_rfl)⟩
    refine EW.seq (EW.region (by kernel_rfl) (EO.go 2 5 (by kernel_rfl) ?_))
    refine EO.op (by kernel_rfl) (op_idx (l := q) (k := .i64) (n := ((i : Nat) : Int)) (b := c) rfl underlying9 (by kernel_rfl) (by kernel_rfl) (by omega) hidx) ?_
    by_cases h128 : 128 ≤ c.toNat
    ·
     refine EO.op (by kernel_rfl) (zc4 (u := .int .u8 c.toNat) (w := .int .u8 128) rfl (by kernel_rfl) (by kernel_rfl) (bin_geqK (b := true) (decide_eq_true (by omega)))) (EO.fin 5 (by kernel_rfl) ?_)
     refine EW.condT (by kernel_rfl) (EW.region (by kernel_rfl) ?_)
     refine EO.go 1 5 (by kernel_rfl) (EO.op (by kernel_rfl) (zf0 (l := itT ls) (m := [195,169]) rfl (by kernel_rfl) (by kernel_rfl) (by simp; omega)) ?_)
     have hT : itT ls ++ [195,169] = itT (ls ++ [233]) := by rw [zi6]; rfl
     rw [hT]
     refine EO.fin 5 (by kernel_rfl) ?_
     refine hend (ls ++ [233]) _ _ ⟨by unfold letS; rw [if_pos h128],by rw [← hT]; simp; omega,fun y hy => ?_⟩ (by kernel_rfl) (fillX (by kernel_rfl))
     rcases List.mem_append.1 hy with hy | hy
     ·
      exact hok.2 y hy
     ·
      rw [List.mem_singleton.1 hy]; exact ⟨.inr rfl,by decide,by decide⟩
    ·
     refine EO.op (by kernel_rfl) (zc4 (u := .int .u8 c.toNat) (w := .int .u8 128) rfl (by kernel_rfl) (by kernel_rfl) (bin_geqK (b := false) (decide_eq_false (by omega)))) (EO.fin 5 (by kernel_rfl) ?_)
     refine EW.condF (by kernel_rfl) (EW.seq (EW.region (by kernel_rfl) ?_))
     refine EO.go 2 5 (by kernel_rfl) (EO.op (by kernel_rfl) (op_idx (l := q) (k := .i64) (n := ((i : Nat) : Int)) (b := c) rfl underlying9 (by kernel_rfl) (by kernel_rfl) (by omega) hidx) ?_)
     by_cases hc0 : c.toNat = 0
     ·
      refine EO.op (by kernel_rfl) (zc4 (u := .int .u8 c.toNat) (w := .int .u8 0) rfl (by kernel_rfl) (by kernel_rfl) (zf7 (b := false) (by rw [hc0]; rfl))) (EO.fin 5 (by kernel_rfl) ?_)
      refine EW.condF (by kernel_rfl) (EW.skip ?_)
      exact hend ls _ _ ⟨by unfold letS; rw [if_neg h128,if_pos (by omega),List.append_nil],hok⟩ (by kernel_rfl) (fillX (by kernel_rfl))
     ·
      refine EO.op (by kernel_rfl) (zc4 (u := .int .u8 c.toNat) (w := .int .u8 0) rfl (by kernel_rfl) (by kernel_rfl) (zf7 (b := true) (bne_iff_ne.2 (by omega)))) (EO.go 3 5 (by kernel_rfl) ?_)
      refine EO.op (by kernel_rfl) (op_idx (l := q) (k := .i64) (n := ((i : Nat) : Int)) (b := c) rfl underlying9 (by kernel_rfl) (by kernel_rfl) (by omega) hidx) ?_
      by_cases hc13 : c.toNat = 13
      ·
       refine EO.op (by kernel_rfl) (zc4 (u := .int .u8 c.toNat) (w := .int .u8 13) rfl (by kernel_rfl) (by kernel_rfl) (zf7 (b := false) (by rw [hc13]; rfl))) (EO.fin 5 (by kernel_rfl) ?_)
       refine EW.condF (by kernel_rfl) (EW.skip ?_)
       exact hend ls _ _ ⟨by unfold letS; rw [if_neg h128,if_pos (by omega),List.append_nil],hok⟩ (by kernel_rfl) (fillX (by kernel_rfl))
      ·
       refine EO.op (by kernel_rfl) (zc4 (u := .int .u8 c.toNat) (w := .int .u8 13) rfl (by kernel_rfl) (by kernel_rfl) (zf7 (b := true) (bne_iff_ne.2 (by omega)))) (EO.fin 5 (by kernel_rfl) ?_)
       refine EW.condT (by kernel_rfl) (EW.region (by kernel_rfl) ?_)
       refine EO.go 4 5 (by kernel_rfl) (EO.op (by kernel_rfl) (op_addB (i := ((i : Nat) : Int)) (j := 1) (r := ((i + 1 : Nat) : Int)) rfl (by kernel_rfl) (by kernel_rfl) (by omega) (by omega)) ?_)
       refine EO.op (by kernel_rfl) (op_sub (l := q) (m := [c]) (i := i) (j := i + 1) rfl underlying9 (by kernel_rfl) ((show _ = zd5 q.length q.length (some (num ((i : Nat) : Int))) (some (num ((i + 1 : Nat) : Int))) by kernel_rfl).trans ((bnd_both (by omega) (by omega) (by omega)).trans (by rw [Int.toNat_natCast,Int.toNat_natCast]))) (by rw [List.take_add_one,hb,List.drop_append_of_le_length (by simp; omega),List.drop_eq_nil_of_le (by simp; omega)]; rfl)) (EO.op (by kernel_rfl) (zf0 (l := itT ls) (m := [c]) rfl (by kernel_rfl) (by kernel_rfl) (by simp; omega)) ?_)
       have hT : itT ls ++ [c] = itT (ls ++ [c.toNat]) := by
        rw [zi6]
        congr 1
        show [c] = itB c.toNat ++ []
        unfold itB
        rw [if_neg (by omega)]
        simp
       rw [hT]
       refine EO.fin 5 (by kernel_rfl) ?_
       refine hend (ls ++ [c.toNat]) _ _ ⟨by unfold letS; rw [if_neg h128,if_neg (by omega)],by rw [← hT]; simp; omega,fun y hy => ?_⟩ (by kernel_rfl) (fillX (by kernel_rfl))
       rcases List.mem_append.1 hy with hy | hy
       ·
        exact hok.2 y hy
       ·
        rw [List.mem_singleton.1 hy]; exact ⟨.inl (by omega),hc0,hc13⟩
   ·
    refine EO.op (by kernel_rfl) (zc4 (u := num (itT ls).length) (w := num 60) rfl (by kernel_rfl) (by kernel_rfl) (bin_lss (b := false) (decide_eq_false (by omega)))) (EO.fin 5 (by kernel_rfl) ?_)
    refine EW.condF (by kernel_rfl) (EW.exit ?_)
    exact ⟨rfl,by kernel_rfl,ls,i,⟨hF.trans (letF_full h8),hok⟩,fillX (by kernel_rfl)⟩
  ·
   refine EO.op (by kernel_rfl) (zc4 (u := num ((i : Nat) : Int)) (w := num q.length) rfl (by kernel_rfl) (by kernel_rfl) (bin_lss (b := false) (decide_eq_false (by omega)))) (EO.fin 5 (by kernel_rfl) ?_)
   refine EW.condF (by kernel_rfl) (EW.exit ?_)
   exact ⟨rfl,by kernel_rfl,ls,i,⟨by rw [hF,List.drop_of_length_le (by omega)]; rfl,hok⟩,fillX (by kernel_rfl)⟩
 ·
  rintro e a' s' ⟨rfl,rfl,ls,i,hok,x,rfl⟩
  refine EW.goE 5 .ret (by kernel_rfl) ?_
  exact ⟨.inr rfl,by kernel_rfl,ls,hok,by kernel_rfl⟩
def clF (b : UInt8) : Bool := b != 60 && b != 38
theorem it_filter : ∀ ls : List Nat,(∀ c ∈ ls,It c) → (itT ls).filter clF = itT (ls.filter fun c => c != 60 && c != 38)
 | [],_ => rfl
 | c :: ls,h => by
  have ih := it_filter ls fun x hx => h x (by simp [hx])
  have e : itT (c :: ls) = itB c ++ itT ls := rfl
  rw [e,List.filter_append,ih,List.filter_cons]
  by_cases h233 : c = 233
  ·
   subst h233
   rfl
  ·
   have hlt : c < 128 := (h c (by simp)).resolve_right h233
   have hb : itB c = [UInt8.ofNat c] := by unfold itB; rw [if_neg h233]
   have hn := u8n (n := c) (by omega)
   rw [hb]
   by_cases h60 : c = 60
   ·
    subst h60; rfl
   ·
    by_cases h38 : c = 38
    ·
     subst h38; rfl
    ·
     have k1 : UInt8.ofNat c ≠ 60 := fun e => by rw [e] at hn; simp at hn; omega
     have k2 : UInt8.ofNat c ≠ 38 := fun e => by rw [e] at hn; simp at hn; omega
     have k3 : clF (UInt8.ofNat c) = true := by unfold clF; simp [k1,k2]
     rw [List.filter_cons,k3,if_pos rfl,if_pos (by simp [h60,h38])]
     show [UInt8.ofNat c] ++ itT _ = itB c ++ itT _
     rw [hb]
def slR (S : List UInt8) (y : Int) (cap : Bool) (C : List UInt8) (x : Nat → Value) : TL := [str S,num y, .bool cap,x 3,x 4,x 5,x 6, .bool true,str C] ++ tlX x 9 141
def slRi (S : List UInt8) (y : Int) (cap : Bool) (C : List UInt8) (i : Nat) (x : Nat → Value) : TL := [str S,num y, .bool cap,x 3,x 4,x 5,x 6, .bool true,str C,num ((i : Nat) : Int)] ++ tlX x 10 140
def slS (y : Int) (C nm sp : List UInt8) (x : Nat → Value) : TL := [x 0,num y,x 2,x 3,x 4,x 5,x 6, .bool true,str C,x 9,str nm,str sp] ++ tlX x 12 138
def slU (y : Int) (C nm t : List UInt8) (x : Nat → Value) : TL := [x 0,num y,x 2,x 3,x 4,x 5,x 6, .bool true,str C,x 9,str nm,x 11,str t,slN 90 4,num 0,str t] ++ tlX x 16 134
def slV (nm want : List UInt8) (x : Nat → Value) : TL := [x 0,x 1,x 2,x 3,x 4,x 5,x 6, .bool true,x 8,x 9,str nm,x 11,x 12,slN 90 4,num 0,str want] ++ tlX x 16 134
theorem clean_e {S : List UInt8} {y : Int} {cap : Bool} {x : Nat → Value} (hS : S.length ≤ 1000) : ∀ c,(match Tryz.f12.body with | some (.seq _ (.seq _ (.seq _ (.seq _ (.seq c _))))) => c | _ => .skip) = c → EW prog ktB pr c (slR S y cap [] x) s (fun e a' s' => e = .normal ∧ s' = s ∧ ∃ x,a' = slR S y cap (S.filter clF) x) := by
 rintro c rfl
 refine EW.seq (EW.go 5 (by kernel_rfl) (EW.asS s (by kernel_rfl) ?_))
 refine EW.fill (slRi S y cap [] 0) (by kernel_rfl) ?_
 intro x0
 refine EW.block ?_
 refine EW.mono (EW.loopI (Q := fun e a' s' => e = .exit 0 ∧ s' = s ∧ ∃ x,a' = slR S y cap (S.filter clF) x) (fun m a' s' => s' = s ∧ ∃ i,i + m = S.length ∧ ∃ x,a' = slRi S y cap ((S.take i).filter clF) i x) ?_ S.length _ _ ⟨rfl,0,by omega,x0,rfl⟩) ?_
 ·
  rintro m a' s' ⟨rfl,i,him,x,rfl⟩
  refine EW.seq (EW.seq (EW.region (by kernel_rfl) (EO.go 2 5 (by kernel_rfl) ?_)))
  refine EO.op (by kernel_rfl) (zl0 (l := S) rfl underlying9 (by kernel_rfl)) ?_
  by_cases hlt : i < S.length
  ·
   refine EO.op (by kernel_rfl) (zc4 (u := num ((i : Nat) : Int)) (w := num S.length) rfl (by kernel_rfl) (by kernel_rfl) (bin_lss (b := true) (decide_eq_true (by omega)))) (EO.nil ?_)
   refine EW.condT (by kernel_rfl) (EW.skip (EW.seq (EW.block ?_)))
   have hb : S[i]? = some S[i] := List.getElem?_eq_getElem hlt
   have htk : S.take (i + 1) = S.take i ++ [S[i]] := by rw [List.take_add_one,hb]; rfl
   generalize S[i] = c at hb htk
   have hidx : S[((i : Nat) : Int).toNat]? = some c := by rw [Int.toNat_natCast]; exact hb
   have hout : ((S.take i).filter clF).length ≤ 1000 := Nat.le_trans (List.length_filter_le _ _) (by simp; omega)
   have hstep : (S.take (i + 1)).filter clF = (S.take i).filter clF ++ (if clF c = true then [c] else []) := by
    rw [htk,List.filter_append,List.filter_cons]
    split <;> rfl
   generalize (S.take i).filter clF = out at hout hstep
   have hend : ∀ (out' : List UInt8) (a1 : TL) (s1 : AS),out' = (S.take (i + 1)).filter clF → s1 = s' → (∃ x,a1 = slRi S y cap out' i x) → EW prog ktB pr (match Tryz.f12.body with | some (.seq _ (.seq _ (.seq _ (.seq _ (.seq (.seq _ (.block _ (.loop (.seq _ (.seq _ c))))) _))))) => c | _ => .skip) a1 s1 (fun e a' s'' => match e with | .normal => ∃ m',m' < m ∧ s'' = s' ∧ ∃ i,i + m' = S.length ∧ ∃ x,a' = slRi S y cap ((S.take i).filter clF) i x | e => e = .exit 0 ∧ s'' = s' ∧ ∃ x,a' = slR S y cap (S.filter clF) x) := by
    rintro out' a1 s1 ho rfl ⟨x1,rfl⟩
    refine EW.region (by kernel_rfl) (EO.go 1 5 (by kernel_rfl) ?_)
    refine EO.op (by kernel_rfl) (op_addB (i := ((i : Nat) : Int)) (j := 1) (r := ((i + 1 : Nat) : Int)) rfl (by kernel_rfl) (by kernel_rfl) (by omega) (by omega)) (EO.fin 5 (by kernel_rfl) ?_)
    exact ⟨m - 1,by omega,by kernel_rfl,i + 1,by omega,by rw [← ho]; exact fillX (by kernel_rfl)⟩
   refine EW.seq (EW.region (by kernel_rfl) (EO.go 2 5 (by kernel_rfl) ?_))
   refine EO.op (by kernel_rfl) (op_idx (l := S) (k := .i64) (n := ((i : Nat) : Int)) (b := c) rfl underlying9 (by kernel_rfl) (by kernel_rfl) (by omega) hidx) ?_
   have hno : (c.toNat = 60 ∨ c.toNat = 38) → out = (S.take (i + 1)).filter clF := by
    intro h
    have : clF c = false := by
     unfold clF
     rcases h with h | h
     ·
      have : c = 60 := UInt8.toNat_inj.1 (by rw [h]; rfl)
      rw [this]; rfl
     ·
      have : c = 38 := UInt8.toNat_inj.1 (by rw [h]; rfl)
      rw [this]; rfl
    rw [hstep,this]; simp
   by_cases h60 : c.toNat = 60
   ·
    refine EO.op (by kernel_rfl) (zc4 (u := .int .u8 c.toNat) (w := .int .u8 60) rfl (by kernel_rfl) (by kernel_rfl) (zf7 (b := false) (by rw [h60]; rfl))) (EO.fin 5 (by kernel_rfl) ?_)
    refine EW.condF (by kernel_rfl) (EW.skip ?_)
    exact hend out _ _ (hno (.inl h60)) (by kernel_rfl) (fillX (by kernel_rfl))
   ·
    refine EO.op (by kernel_rfl) (zc4 (u := .int .u8 c.toNat) (w := .int .u8 60) rfl (by kernel_rfl) (by kernel_rfl) (zf7 (b := true) (bne_iff_ne.2 (by omega)))) (EO.go 3 5 (by kernel_rfl) ?_)
    refine EO.op (by kernel_rfl) (op_idx (l := S) (k := .i64) (n := ((i : Nat) : Int)) (b := c) rfl underlying9 (by kernel_rfl) (by kernel_rfl) (by omega) hidx) ?_
    by_cases h38 : c.toNat = 38
    ·
     refine EO.op (by kernel_rfl) (zc4 (u := .int .u8 c.toNat) (w := .int .u8 38) rfl (by kernel_rfl) (by kernel_rfl) (zf7 (b := false) (by rw [h38]; rfl))) (EO.fin 5 (by kernel_rfl) ?_)
     refine EW.condF (by kernel_rfl) (EW.skip ?_)
     exact hend out _ _ (hno (.inr h38)) (by kernel_rfl) (fillX (by kernel_rfl))
    ·
     have hyes : out ++ [c] = (S.take (i + 1)).filter clF := by
      have k1 : c ≠ 60 := fun e => h60 (by rw [e]; rfl)
      have k2 : c ≠ 38 := fun e => h38 (by rw [e]; rfl)
      rw [hstep,if_pos (by unfold clF; simp [k1,k2])]
     refine EO.op (by kernel_rfl) (zc4 (u := .int .u8 c.toNat) (w := .int .u8 38) rfl (by kernel_rfl) (by kernel_rfl) (zf7 (b := true) (bne_iff_ne.2 (by omega)))) (EO.fin 5 (by kernel_rfl) ?_)
     refine EW.condT (by kernel_rfl) (EW.region (by kernel_rfl) ?_)
     refine EO.go 4 5 (by kernel_rfl) (EO.op (by kernel_rfl) (op_addB (i := ((i : Nat) : Int)) (j := 1) (r := ((i + 1 : Nat) : Int)) rfl (by kernel_rfl) (by kernel_rfl) (by omega) (by omega)) ?_)
     refine EO.op (by kernel_rfl) (op_sub (l := S) (m := [c]) (i := i) (j := i + 1) rfl underlying9 (by kernel_rfl) ((show _ = zd5 S.length S.length (some (num ((i : Nat) : Int))) (some (num ((i + 1 : Nat) : Int))) by kernel_rfl).trans ((bnd_both (by omega) (by omega) (by omega)).trans (by rw [Int.toNat_natCast,Int.toNat_natCast]))) (by rw [List.take_add_one,hb,List.drop_append_of_le_length (by simp; omega),List.drop_eq_nil_of_le (by simp; omega)]; rfl)) (EO.op (by kernel_rfl) (zf0 (l := out) (m := [c]) rfl (by kernel_rfl) (by kernel_rfl) (by simp; omega)) ?_)
     refine EO.fin 5 (by kernel_rfl) ?_
     exact hend (out ++ [c]) _ _ hyes (by kernel_rfl) (fillX (by kernel_rfl))
  ·
   refine EO.op (by kernel_rfl) (zc4 (u := num ((i : Nat) : Int)) (w := num S.length) rfl (by kernel_rfl) (by kernel_rfl) (bin_lss (b := false) (decide_eq_false (by omega)))) (EO.nil ?_)
   rw [show S.take i = S from List.take_of_length_le (by omega)]
   refine EW.condF (by kernel_rfl) (EW.exit ?_)
   exact ⟨rfl,by kernel_rfl,fillX (by kernel_rfl)⟩
 ·
  rintro e a' s' ⟨rfl,rfl,x,rfl⟩
  exact ⟨rfl,rfl,x,rfl⟩
theorem tail12_e {y : Int} {i : Nat} {C nm sp : List UInt8} (h19 : ∀ s,EF prog ktB pr 19 #[num y,num 4] s (num ((i : Nat) : Int)) s) (hC : C.length ≤ 100) (hn : nm.length ≤ 10) (hsl : sp.length ≤ 10) (h30 : EF prog ktB pr 30 #[str (rawP sp (rawT C nm))] ⟨sA.hp,64⟩ (.tuple #[slN 90 4,num 0]) (tk2 nm (outQ i (rawT C nm) (rawW C nm)))) {x : Nat → Value} : ∀ c,(match Tryz.f12.body with | some (.seq _ (.seq _ (.seq _ (.seq _ (.seq _ (.seq _ (.seq _ (.seq _ c)))))))) => c | _ => .skip) = c → EW prog ktB pr c (slS y C nm sp x) ⟨sA.hp,64⟩ (fun e a' s' => e = .ret ∧ a'.getD 6 undef = .bool true ∧ s'.get 1 = some (.cells entC.toArray 335)) := by
 rintro c rfl
 have htl := raw_len C nm
 generalize hs0 : (⟨sA.hp,64⟩ : AS) = s0 at h30 ⊢
 refine EW.seq (EW.region (by kernel_rfl) (EO.go 1 5 (by kernel_rfl) ?_))
 refine EO.op (by kernel_rfl) (zf0 (l := C) (m := [60,98,62,38,108,116,59,60,47]) rfl (by kernel_rfl) (by kernel_rfl) (by simp; omega)) (EO.go 1 5 (by kernel_rfl) ?_)
 refine EO.op (by kernel_rfl) (zf0 (l := C ++ [60,98,62,38,108,116,59,60,47]) (m := nm) rfl (by kernel_rfl) (by kernel_rfl) (by simp; omega)) (EO.op (by kernel_rfl) (zf0 (l := C ++ [60,98,62,38,108,116,59,60,47] ++ nm) (m := [120,62]) rfl (by kernel_rfl) (by kernel_rfl) (by simp; omega)) ?_)
 refine EO.go 1 5 (by kernel_rfl) (EO.op (by kernel_rfl) (zf0 (l := C ++ [60,98,62,38,108,116,59,60,47] ++ nm ++ [120,62]) (m := C) rfl (by kernel_rfl) (by kernel_rfl) (by simp; omega)) ?_)
 refine EO.op (by kernel_rfl) (zf0 (l := C ++ [60,98,62,38,108,116,59,60,47] ++ nm ++ [120,62] ++ C) (m := [60,33,45,45]) rfl (by kernel_rfl) (by kernel_rfl) (by simp; omega)) ?_
 rw [show C ++ [60,98,62,38,108,116,59,60,47] ++ nm ++ [120,62] ++ C ++ [60,33,45,45] = rawT C nm from rfl]
 generalize hT : rawT C nm = t at h30 htl ⊢
 refine EO.fin 5 (by kernel_rfl) (EW.asS s0 (by kernel_rfl) ?_)
 refine EW.seq (EW.region (by kernel_rfl) (EO.go 1 5 (by kernel_rfl) ?_))
 refine EO.op (by kernel_rfl) (zf0 (l := [60]) (m := sp) rfl (by kernel_rfl) (by kernel_rfl) (by simp; omega)) (EO.op (by kernel_rfl) (zf0 (l := [60] ++ sp) (m := [32,97,61,49,62]) rfl (by kernel_rfl) (by kernel_rfl) (by simp; omega)) ?_)
 refine EO.go 1 5 (by kernel_rfl) (EO.op (by kernel_rfl) (zf0 (l := [60] ++ sp ++ [32,97,61,49,62]) (m := t) rfl (by kernel_rfl) (by kernel_rfl) (by simp; omega)) ?_)
 refine EO.op (by kernel_rfl) (zf0 (l := [60] ++ sp ++ [32,97,61,49,62] ++ t) (m := [60,47]) rfl (by kernel_rfl) (by kernel_rfl) (by simp; omega)) (EO.go 1 5 (by kernel_rfl) ?_)
 refine EO.op (by kernel_rfl) (zf0 (l := [60] ++ sp ++ [32,97,61,49,62] ++ t ++ [60,47]) (m := sp) rfl (by kernel_rfl) (by kernel_rfl) (by simp; omega)) (EO.op (by kernel_rfl) (zf0 (l := [60] ++ sp ++ [32,97,61,49,62] ++ t ++ [60,47] ++ sp) (m := [32,62]) rfl (by kernel_rfl) (by kernel_rfl) (by simp; omega)) ?_)
 refine EO.op (by kernel_rfl) (zf0 (l := [60] ++ sp ++ [32,97,61,49,62] ++ t ++ [60,47] ++ sp ++ [32,62]) (m := [122]) rfl (by kernel_rfl) (by kernel_rfl) (by simp; omega)) ?_
 rw [show [60] ++ sp ++ [32,97,61,49,62] ++ t ++ [60,47] ++ sp ++ [32,62] ++ [122] = rawP sp t from rfl]
 generalize rawP sp t = T at h30 ⊢
 refine EO.asS s0 (by kernel_rfl) (EO.callF #[str T] (by kernel_rfl) rfl rfl (by kernel_rfl) (by kernel_rfl) h30 ?_)
 generalize hbs : outQ i t (rawW C nm) = bs
 refine EO.fin 5 (by kernel_rfl) (EW.asS (tk2 nm bs) (by kernel_rfl) ?_)
 refine EW.seq (EW.go 5 (by kernel_rfl) (EW.asS (tk2 nm bs) (by kernel_rfl) ?_))
 refine EW.fill (slU y C nm t) (by kernel_rfl) ?_
 intro x1
 refine EW.seq (EW.mono (Q := fun e a' s' => e = .normal ∧ s' = tk2 nm bs ∧ ∃ x,a' = slV nm bs x) ?_ ?_)
 ·
  refine EW.seq (EW.region (by kernel_rfl) (EO.gs 1 5 (tk2 nm bs) (by kernel_rfl) ?_))
  refine EO.callF #[num y,num 4] (by kernel_rfl) rfl rfl (by kernel_rfl) (by kernel_rfl) (h19 _) ?_
  by_cases hi : 1 < i
  ·
   have hb : Nat.ble 2 i = true := Nat.ble_eq_true_of_le hi
   unfold outQ at hbs
   rw [if_pos hb] at hbs
   refine EO.op (by kernel_rfl) (zc4 (u := num ((i : Nat) : Int)) (w := num 1) rfl (by kernel_rfl) (by kernel_rfl) (bin_gtr (b := true) (decide_eq_true (by omega)))) (EO.nil ?_)
   refine EW.condT (by kernel_rfl) (EW.asS (tk2 nm bs) (by kernel_rfl) ?_)
   refine EW.region (by kernel_rfl) (EO.go 1 5 (by kernel_rfl) ?_)
   refine EO.op (by kernel_rfl) (zf0 (l := C) (m := [60,98,62,60,60,47]) rfl (by kernel_rfl) (by kernel_rfl) (by simp; omega)) (EO.go 1 5 (by kernel_rfl) ?_)
   refine EO.op (by kernel_rfl) (zf0 (l := C ++ [60,98,62,60,60,47]) (m := nm) rfl (by kernel_rfl) (by kernel_rfl) (by simp; omega)) (EO.op (by kernel_rfl) (zf0 (l := C ++ [60,98,62,60,60,47] ++ nm) (m := [120,62]) rfl (by kernel_rfl) (by kernel_rfl) (by simp; omega)) ?_)
   refine EO.go 1 5 (by kernel_rfl) (EO.op (by kernel_rfl) (zf0 (l := C ++ [60,98,62,60,60,47] ++ nm ++ [120,62]) (m := C) rfl (by kernel_rfl) (by kernel_rfl) (by simp; omega)) ?_)
   refine EO.op (by kernel_rfl) (zf0 (l := C ++ [60,98,62,60,60,47] ++ nm ++ [120,62] ++ C) (m := [60,33,45,45]) rfl (by kernel_rfl) (by kernel_rfl) (by simp; omega)) ?_
   rw [show C ++ [60,98,62,60,60,47] ++ nm ++ [120,62] ++ C ++ [60,33,45,45] = rawW C nm from rfl,hbs]
   refine EO.fin 5 (by kernel_rfl) ?_
   exact ⟨rfl,by kernel_rfl,fillX (by kernel_rfl)⟩
  ·
   have hb : Nat.ble 2 i = false := by
    cases h : Nat.ble 2 i
    ·
     rfl
    ·
     exact absurd (Nat.le_of_ble_eq_true h) (by omega)
   unfold outQ at hbs
   rw [if_neg (by rw [hb]; simp)] at hbs
   subst hbs
   refine EO.op (by kernel_rfl) (zc4 (u := num ((i : Nat) : Int)) (w := num 1) rfl (by kernel_rfl) (by kernel_rfl) (bin_gtr (b := false) (decide_eq_false (by omega)))) (EO.nil ?_)
   exact EW.condF (by kernel_rfl) (EW.skip ⟨rfl,by kernel_rfl,fillX (by kernel_rfl)⟩)
 rintro e a' s' ⟨rfl,rfl,x,rfl⟩
 have hbn : beqL nm nm = true := (zl5 _ _).2 rfl
 have hbb : beqL bs bs = true := (zl5 _ _).2 rfl
 refine EW.seq (EW.region (by kernel_rfl) (EO.go 23 5 (by kernel_rfl) ?_))
 refine EO.op (by kernel_rfl) (zc4 (u := str nm) (w := str nm) rfl (by kernel_rfl) (by kernel_rfl) (bin_eqS hbn)) (EO.go 14 5 (by kernel_rfl) ?_)
 refine EO.op (by kernel_rfl) (zc4 (u := str bs) (w := str bs) rfl (by kernel_rfl) (by kernel_rfl) (bin_eqS hbb)) (EO.go 14 5 (by kernel_rfl) ?_)
 refine EO.op (by kernel_rfl) (zc4 (u := str nm) (w := str nm) rfl (by kernel_rfl) (by kernel_rfl) (bin_eqS hbn)) (EO.fin 5 (by kernel_rfl) ?_)
 exact EW.ret ⟨rfl,by kernel_rfl,by kernel_rfl⟩
end
end
section
open Go.Conc Go.RowKit
structure Ext (w w' : World) : Prop where
 tape : w'.tape = w.tape
 os : w'.os = w.os
 output : w'.output = w.output
 size : w.heap.size ≤ w'.heap.size
 block : ∀ b,b < w.heap.size → w'.heap[b]? = w.heap[b]?
end
section
open Go.Conc Go.RowKit
section
variable {P : Program} {Post : Value → World → Prop} {b : Frame} {a : Act} {w : World}
theorem stepG_done {fn : Func} {todo : List Item} {v : Value} (hn : b.kind = .normal) (hd : a.defers = []) (hf : P.funcs[b.fn]? = some fn) (hi : P.inits.idxOf? b.fn = none) (hr : (results fn a.tmps).run P w = .ok v w) (he : (results fn a.tmps).events P w #[] = #[]) :
  stepG P true (G { b.at a todo with mode := .returning } []) w = .ended (.done v) w #[] := by
 simp [G,stepG,unwind,doReturn,Frame.at,hn,hd,hf,hi,hr,he,seen,GStep.after]
theorem ends_of_calls {f : FuncId} {args : Array Value} {Q : Value → World → Prop} (hi : P.inits.idxOf? f = none) (hQ : ∀ v w' e,Q v w' → Post v (w'.at e)) (h : CallsI P (ZI P Post 0) f args (fun _ => False) w (fun _ v w' => Q v w')) : Ends P Post (solo (G (Frame.enter P f args .normal) []) w) #[] := by
 have C : ClosedI P true (fun _ : Nat → Prop => AtRel) DZ (ZI P Post 0) := ZI.closed
 have T : ∀ S,Terms AtRel (DZ S) := termsS
 obtain ⟨f₀,c,hf,_,hb,hw⟩ := h
 have hleave : ∀ (S' : Nat → Prop) (a' : Act) (w' : World) (todo : List Item),(a'.defers = [] ∧ ∃ v,ResultsC P f₀ a'.tmps v ∧ Q v w') → ZI P Post 0 S' (G { (base f).at a' todo with mode := .returning } []) w' := by
  rintro S' a' w' todo ⟨hd,v,hr,hq⟩
  exact ZI.done rfl (fun e => stepG_done (b := base f) rfl hd hf hi (hr _).1 (hr _).2) (fun e => hQ v w' e hq)
 have hz : ZI P Post 0 (fun _ => False) (G ((base f).at { tmps := args ++ Array.replicate (f₀.ntmps - args.size) undef,defers := [] } [.code c]) []) w := by
  refine hw (base f) [] [] rfl (by simp [base]) fun S' e a' w' q => ?_
  obtain ⟨he,q⟩ := q
  rcases he with rfl | rfl
  ·
   exact C.step rfl fun w₂ h₂ => by rw [stepG_end]; exact ⟨(T S').idle _,C.rely (hleave S' a' w' [] q) h₂⟩
  ·
   exact fun todo => hleave S' a' w' todo q
 rw [enter_at _ hf hb,solo_eq_crowd]
 have hp := past_nil
 have := hz 0 w.drawn (fun _ => False) #[G ((base f).at { tmps := args ++ Array.replicate (f₀.ntmps - args.size) undef,defers := [] } [.code c]) []] (fun _ => 0) #[] none (fun l hl => hl.elim)
  ⟨rfl,leavers_one _ _,hp.clean,hp.known,hp.over,hp.hears⟩
 exact this
end
end
section
open Go.Conc Go.RowKit Go.Lib
theorem entN_size : entC.toArray.size = 54 := by kernel_rfl
theorem sizeN335 : sizeT prog 335 = some 54 := by kernel_rfl
end
set_option maxRecDepth 100000
section
open Go.Conc Go.RowKit Go.Lib
section
variable {Post : Value → World → Prop} {Ex : Nat → Prop} {w₀ : World} {An : Who} {pr : Prim}
theorem law12_e (hok : PrimOk prog KTs An (fun _ : Zx => AtRel) (fun j => DZ j.1) (fun j => ZI prog Post 0 j.1) (HdZ Ex w₀) pr) (h15 : EF prog ktB pr 15 #[] sA (.bool true) sA) (h19 : pr 19 = none) {y : Int} (hy : -9223372036854775808 ≤ y ∧ y ≤ 9223372036854775807) {cap : Bool} {q S C : List UInt8} (h29 : EF prog ktB pr 29 #[str q] sA (str S) sA) (hS : S.length ≤ 61) (hC : S.filter clF = C) {i : Nat} (hi : i = pickN y 4)
  (h30 : EF prog ktB pr 30 #[str (rawP (zb5 i cap) (rawT C (tagOf i)))] ⟨sA.hp,64⟩ (.tuple #[slN 90 4,num 0]) (tk2 (tagOf i) (outQ i (rawT C (tagOf i)) (rawW C (tagOf i))))) :
  ∀ c,(match Tryz.f12.body with | some c => c | _ => .skip) = c → WI prog KTs An (fun j : Zx => ZI prog Post 0 j.1) (HdZ Ex w₀) c ([str q,num y, .bool cap] ++ List.replicate 147 undef) sA (fun e a' s' => e = .ret ∧ a'.getD 6 undef = .bool true ∧ s'.get 1 = some (.cells entC.toArray 335)) := by
 rintro c rfl
 have hi4 : i < 4 := by rw [hi]; exact pickN_lt y 4 (by omega)
 have h19e := fun s => pick4_e (pr := pr) (s := s) h19 hy
 rw [← hi] at h19e
 have hCl : C.length ≤ 100 := by rw [← hC]; exact Nat.le_trans (List.length_filter_le _ _) (by omega)
 have hsp := (itL_hd hi4 cap).2.2.2.1
 have hnl := (tag38 hi4).2
 have htail := fun x => tail12_e (pr := pr) (x := x) h19e hCl (by omega) (by omega) h30 _ rfl
 refine WI.seq cyZ (WI.of cyZ ze1 zk0 hok zg5 (EW.go 5 (by kernel_rfl) ?_))
 refine WI.seq cyZ (WI.of cyZ ze1 zk0 hok zg5 (EW.region (by kernel_rfl) ?_))
 refine EO.asS sA (by kernel_rfl) (EO.callF #[] (by kernel_rfl) rfl rfl (by kernel_rfl) (by kernel_rfl) h15 ?_)
 refine EO.fin 5 (by kernel_rfl) ?_
 refine WI.asS sA (by kernel_rfl) ?_
 refine WI.seq cyZ (WI.of cyZ ze1 zk0 hok zg5 (EW.region (by kernel_rfl) ?_))
 refine EO.gc 1 5 (by kernel_rfl) h29 (EO.fin 5 (by kernel_rfl) ?_)
 refine WI.asS sA (by kernel_rfl) ?_
 refine WI.seq cyZ (WI.of cyZ ze1 zk0 hok zg5 (EW.go 5 (by kernel_rfl) ?_))
 refine WI.asS sA (by kernel_rfl) ?_
 refine WI.fill (slR S y cap []) (by kernel_rfl) ?_
 intro x0
 refine WI.seq cyZ (WI.of cyZ ze1 zk0 hok zg5 (EW.mono (clean_e (pr := pr) (by omega) _ rfl) ?_))
 rintro e a' s' ⟨rfl,rfl,x,rfl⟩
 rw [hC]
 have hrest : ∀ (a' : TL) (s' : AS),(∃ x,a' = slS y C (tagOf i) (zb5 i cap) x) → s'.get 1 = some (.cells entC.toArray 335) → Nat.ble s'.nx 40 = true → WI prog KTs An (fun j : Zx => ZI prog Post 0 j.1) (HdZ Ex w₀) (match Tryz.f12.body with | some (.seq _ (.seq _ (.seq _ (.seq _ (.seq _ (.seq _ (.seq _ (.seq _ c)))))))) => c | _ => .skip) a' s' (fun e a' s' => e = .ret ∧ a'.getD 6 undef = .bool true ∧ s'.get 1 = some (.cells entC.toArray 335)) := by
  rintro a' s' ⟨x,rfl⟩ hg hnx
  have hnx := Nat.le_of_ble_eq_true hnx
  refine WI.rest ⟨sA.hp,64⟩ (fun b o hb => ?_) (by show s'.nx ≤ 64; omega) (WI.of cyZ ze1 zk0 hok zg5 (htail x))
  have hb' : sA.get b = some o := hb
  rw [sA_get] at hb'
  split at hb'
  ·
   next e => cases hb'; rw [e]; exact hg
  ·
   cases hb'
 clear h30 htail hC hS hCl
 cases cap <;> rcases cases4 hi4 with rfl | rfl | rfl | rfl
 all_goals
  refine WI.seq cyZ (WI.of cyZ ze1 zk0 hok zg5 (EW.region (by kernel_rfl) ?_))
  refine EO.go 2 5 (by kernel_rfl) (EO.callF #[num y,num 4] (by kernel_rfl) rfl rfl (by kernel_rfl) (by kernel_rfl) (h19e _) ?_)
  refine EO.fin 5 (by kernel_rfl) ?_
  refine WI.seq cyZ (WI.of cyZ ze1 zk0 hok zg5 (EW.go 5 (by kernel_rfl) ?_))
  refine WI.seq cyZ (WI.of cyZ ze1 zk0 hok zg5 (EW.seq (EW.go 5 (by kernel_rfl) ?_)))
 iterate 4 exact EW.condF (by kernel_rfl) (EW.skip (hrest _ _ (fillX (by kernel_rfl)) (by kernel_rfl) (by kernel_rfl)))
 all_goals
  refine EW.condT (by kernel_rfl) (EW.region (by kernel_rfl) (EO.go 2 5 (by kernel_rfl) ?_))
  refine EO.callF #[num y,num 4] (by kernel_rfl) rfl rfl (by kernel_rfl) (by kernel_rfl) (h19e _) (EO.fin 5 (by kernel_rfl) ?_)
  exact hrest _ _ (fillX (by kernel_rfl)) (by kernel_rfl) (by kernel_rfl)
end
section
variable {Post : Value → World → Prop}
theorem raw_x {W : World} (hG : W.heap[1]? = some (.cells entC.toArray 335)) {q : List UInt8} (hq : q.length ≤ 9223372036854775807) {y : Int} (hy : -9223372036854775808 ≤ y ∧ y ≤ 9223372036854775807) {cap : Bool} :
  CallsI prog (ZI prog Post 0) 12 #[str q,num y, .bool cap] (fun _ => False) W (fun _ x w' => x = .bool true ∧ Ext W w') := by
 have h1W : 1 < W.heap.size := (Array.getElem?_eq_some_iff.1 hG).1
 obtain ⟨An,hA1,hAk⟩ : ∃ An : Who,An 1 = some (1,54,54) ∧ (∀ b,32 ≤ b → An b = none) := by
  refine ⟨fun b => if b = 1 then some (1,54,54) else none,rfl,fun b hb => ?_⟩
  show (if b = 1 then _ else _) = _
  rw [if_neg (by omega)]
 obtain ⟨n0,okA⟩ := prAw_ok (Post := Post) (Ex := fun b => b = 1) (w₀ := W) hA1 hAk
 obtain ⟨i,hi⟩ : ∃ i,i = pickN y 4 := ⟨_,rfl⟩
 have hi4 : i < 4 := by rw [hi]; exact pickN_lt y 4 (by omega)
 have hls := (letters_e (pr := fun _ => none) (s := sA) (q := q) rfl hq).1
 obtain ⟨ls,hlsE⟩ : ∃ ls,letF q [] = ls := ⟨_,rfl⟩
 rw [hlsE] at hls
 obtain ⟨cl,hcl⟩ : ∃ cl,cl = ls.filter fun c => c != 60 && c != 38 := ⟨_,rfl⟩
 have hfil : (itT ls).filter clF = itT cl := by rw [hcl]; exact it_filter ls fun c hc => (hls.2 c hc).1
 have hCl : Cl cl := by
  intro c hc
  rw [hcl] at hc
  obtain ⟨h1,h2⟩ := List.mem_filter.1 hc
  simp at h2
  exact ⟨(hls.2 c h1).1,h2.1,h2.2⟩
 have hlen : (itT cl).length ≤ 61 := by rw [← hfil]; exact Nat.le_trans (List.length_filter_le _ _) hls.1
 obtain ⟨n,n1,hT⟩ := tokens_q (cap := cap) hi4 hCl (by omega)
 have hP := itT_page hi4 cap cl
 have hpl := itT_len (pageN i cap cl)
 have hrl := raw_len (itT cl) (tagOf i)
 have h38 := tag38 hi4
 have hsp := (itL_hd hi4 cap).2.2.2.1
 have hPl : (rawP (zb5 i cap) (rawT (itT cl) (tagOf i))).length ≤ 1000 ∧ 16 ≤ (rawP (zb5 i cap) (rawT (itT cl) (tagOf i))).length := by
  unfold rawP
  simp only [List.length_append,List.length_cons,List.length_nil]
  omega
 have hround := round_it (l := rawP (zb5 i cap) (rawT (itT cl) (tagOf i))) (cl := pageN i cap cl) (k := 0) (page_it hi4 hCl) (by rw [List.drop_zero,hP]) (by omega)
 have okT := prTx_ok (Post := Post) (Ex := fun b => b = 1) (w₀ := W) hA1 hAk (n := n) (r0 := 65) (by omega) (sel := fun s => s.only [1,64,90]) (only_ok _) (prQ_ext (n := n1) (cap := cap) hi4 (all_ok hi4 cap hCl) (raw_split hi4 hCl (by omega))) (by simp only [ByteArray.size,List.size_toArray]; omega) hround (good_it (page_it hi4 hCl)) (by rw [zh5]; rw [hP] at hpl; omega) okA
 have h30 := hT (prAw prog n0) (by kernel_rfl)
 generalize hst : (⟨(rawP (zb5 i cap) (rawT (itT cl) (tagOf i))).toArray⟩ : ByteArray) = stt at okT h30
 generalize hprN : prQ prog n1 65 (rawT (itT cl) (tagOf i)) (rawW (itT cl) (tagOf i)) i cap (itL (pageN i cap cl)) = prx at okT h30
 have h15 : EF prog ktB (prTx prog n 65 stt (fun s => s.only [1,64,90]) prx (prAw prog n0)) 15 #[] sA (.bool true) sA := EF.eval 1 (by kernel_rfl)
 have h29 := (letters_e (pr := prTx prog n 65 stt (fun s => s.only [1,64,90]) prx (prAw prog n0)) (s := sA) (q := q) (by kernel_rfl) hq).2
 rw [hlsE] at h29
 have hold : ∀ b,b < W.heap.size → b ≠ 1 → ∀ j l w,HdZ (fun b => b = 1) W j l w → mineZ j.1 w b ∧ w.heap[b]? = W.heap[b]? := by
  intro b hb hb1 j l w hF
  have hm : mineZ j.1 W b := ⟨hb,fun hj => by have := hF.1.2 b hj; omega⟩
  exact ⟨hF.2.kept.mine b hm,hF.2.kept.block b hm hb1⟩
 have hlaw := law12_e (Post := Post) (Ex := fun b => b = 1) (w₀ := W) okT h15 (by kernel_rfl) hy h29 hls.1 hfil hi h30
 obtain ⟨cd,hcd⟩ : ∃ c,Tryz.f12.body = some c := ⟨_,rfl⟩
 have hlaw := hlaw cd (by rw [hcd])
 have hSim : Sim prog KTs An An sA [(1, .cells entC.toArray 335)] := by
  refine ⟨fun b o hb => ?_,fun b b' o o' x x' hb hb' _ _ _ => ?_,fun b o hb => ?_,Who.le_refl An⟩
  ·
   rw [sA_get] at hb
   split at hb
   ·
    next e =>
    subst e
    cases hb
    refine ⟨1,54,54,_,hA1,by simp,⟨entC.toArray,rfl,entN_size,⟨by rw [entN_size]; exact Nat.le_refl _,fun _ => entN_size⟩,fun i x y hx hy => ?_⟩,fun cs t fz h => ?_⟩
    ·
     rw [hx] at hy
     cases hy
     have := entC_sc
     rw [List.all_eq_true] at this
     exact VR.of_sc (this x (by simpa using Array.mem_of_getElem? hx))
    ·
     cases h
     exact ⟨sizeN335,zk0 335 rfl⟩
   ·
    cases hb
  ·
   rw [sA_get] at hb hb'
   split at hb
   ·
    next e =>
    split at hb'
    ·
     next e' => rw [e,e']
    ·
     cases hb'
   ·
    cases hb
  ·
   rw [sA_get] at hb
   split at hb
   ·
    next e => subst e; decide
   ·
    cases hb
 have hHd : HdZ (fun b => b = 1) W ((fun _ => False),W.heap.size) ([(1, .cells entC.toArray 335)] ++ []) W := by
  refine ⟨⟨fun b h => h.elim,fun b h => h.elim⟩,Kept.refl W,Nat.le_refl _,fun b o hm => ?_,by simp⟩
  simp only [List.append_nil,List.mem_singleton,Prod.mk.injEq] at hm
  obtain ⟨rfl,rfl⟩ := hm
  exact ⟨⟨h1W,fun h => h⟩,hG, .inl rfl⟩
 refine ⟨Tryz.f12,cd,func12,by rfl,hcd,?_⟩
 intro b k cs hb hk hc
 have hargs : AR (VR An) (([str q,num y, .bool cap] ++ List.replicate 147 undef : List Value)).toArray (#[str q,num y, .bool cap] ++ Array.replicate (Tryz.f12.ntmps - (#[str q,num y, .bool cap] : Array Value).size) undef) := by
  have e : (([str q,num y, .bool cap] ++ List.replicate 147 undef : List Value)).toArray = #[str q,num y, .bool cap] ++ Array.replicate 147 undef := by
   apply Array.toList_inj.1
   kernel_rfl
  rw [e]
  refine AR.append ⟨rfl,fun i x y hx hy => ?_⟩ (AR.replicate 147 VR.undef)
  match i with
  | 0 => cases hx; cases hy; exact VR.of_sc rfl
  | 1 => cases hx; cases hy; exact VR.of_sc rfl
  | 2 => cases hx; cases hy; exact VR.of_sc rfl
  | i + 3 => simp at hx
 have hend : ∀ (e : Exit) (aA' : TL) (s' : AS) (j : Zx) (S' : Who) (l' : List (Nat × Obj)) (w' : World) (a' : Act),(e = .ret ∧ aA'.getD 6 undef = .bool true ∧ s'.get 1 = some (.cells entC.toArray 335)) → Sim prog KTs An S' s' l' → HdZ (fun b => b = 1) W j (l' ++ []) w' → AR (VR S') aA'.toArray a'.tmps → a'.defers = [] → (∀ b,s'.nx ≤ b → S' b = none) → (e = .normal ∨ e = .ret) ∧ a'.defers = [] ∧ ∃ v,ResultsC prog Tryz.f12 a'.tmps v ∧ v = .bool true ∧ Ext W w' := ?_
 ·
  generalize hact : (⟨#[str q,num y, .bool cap] ++ Array.replicate (Tryz.f12.ntmps - (#[str q,num y, .bool cap] : Array Value).size) undef, []⟩ : Act) = act
  have hargs' : AR (VR An) (([str q,num y, .bool cap] ++ List.replicate 147 undef : List Value)).toArray act.tmps := by rw [← hact]; exact hargs
  have hdef : act.defers = [] := by rw [← hact]
  have hwp := hlaw 12 An [(1, .cells entC.toArray 335)] [] ((fun _ => False),W.heap.size) W act (fun j e a' w' => (e = .normal ∨ e = .ret) ∧ a'.defers = [] ∧ ∃ v,ResultsC prog Tryz.f12 a'.tmps v ∧ v = .bool true ∧ Ext W w') hSim hHd hargs' hdef hAk hend
  refine hwp b k cs hb hk ?_
  intro j e a' w' hQ
  have := hc j.1 e a' w' hQ
  cases e <;> exact this
 ·
  rintro e aA' s' j S' l' w' a' ⟨rfl,h6,hg1⟩ q3 q4 q5 q6 q7
  refine ⟨.inr rfl,q6,_,resultsC_tmp (by rfl) _,?_,?_⟩
  ·
   have := getD_rel q5 6
   rw [show aA'.toArray.toList.getD 6 undef = .bool true from h6] at this
   exact this.sc rfl
  ·
   rw [List.append_nil] at q4
   refine ⟨q4.2.kept.tape,q4.2.kept.os,q4.2.kept.output,q4.2.kept.grow,fun b hb => ?_⟩
   by_cases hb1 : b = 1
   ·
    subst hb1
    obtain ⟨g,z,e,o',r1,r2,r3,_⟩ := q3.live 1 _ hg1
    rw [q3.an _ _ hA1] at r1
    cases r1
    obtain ⟨cs',rfl,t1,_,t3⟩ := r3
    have hcs : cs' = entC.toArray := by
     refine AR.sc (S := S') ⟨by rw [entN_size,t1],t3⟩ ?_
     exact entC_sc
    subst hcs
    rw [(q4.2.own 1 _ r2).2.1,hG]
   ·
    exact (hold b hb hb1 j _ w' q4).2
end
end
end Go.Proofs.YtgcaionclkbehaaGreatDoor
