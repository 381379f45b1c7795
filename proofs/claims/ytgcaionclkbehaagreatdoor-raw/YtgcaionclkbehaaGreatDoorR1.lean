import Derived.Test.YtgcaionclkbehaaGreatDoorN2
import Derived.Test.YtgcaionclkbehaaGreatDoorE28
set_option linter.all false
namespace Go.Proofs.YtgcaionclkbehaaGreatDoor
open Tryz
section
open Go.Conc Go.RowKit Go.Lib
def lAt (all : List Int) (k : Nat) : Int := all[k]?.getD (-1)
section
variable {rn : Nat} {all : List Int} {s : AS} {pr : Prim}
theorem at_e (h146 : pr 146 = prRow rn all 146) (k : Nat) : EF prog ktB pr 146 #[aptr rn 0,num (k : Nat)] s (.int .i32 (lAt all k)) s := by
 refine EF.prim (h146.trans rfl) ?_
 simp only [aptr]
 rw [if_pos ⟨trivial,by omega⟩]
 simp [lAt]
theorem ahead_e (h70 : pr 70 = none) (h146 : pr 146 = prRow rn all 146) {c : Nat} {cs : Array Value} {t : TypeId} {fz : Nat × Nat} {k p : Nat} (hs : s.get c = some (.cells cs t fz)) (h0 : cs[0]? = some (aptr rn 0)) (h1 : cs[1]? = some (num (k : Nat))) (hk : k + p ≤ 1000000) : EF prog ktB pr 70 #[aptr c 0,num (p : Nat)] s (.int .i32 (lAt all (k + p))) s := by
 have hat := at_e (s := s) h146 (k + p)
 generalize lAt all (k + p) = r at hat ⊢
 have hl0 : zc8 prog 84 (aptr c 0) s = some (aptr rn 0) := by
  unfold zc8
  simp only [aptr,hs,underlying84]
  exact h0
 have hl1 : zc8 prog 3 (aptr c 1) s = some (num (k : Nat)) := by
  unfold zc8
  simp only [aptr,hs,underlying3]
  exact h1
 have hlds : ∀ x ∈ [(zc8 prog 84 (aptr c 0) s,aptr rn 0),(zc8 prog 3 (aptr c 1) s,num (k : Nat))],x.1 = some x.2 ∧ zh0 20 x.2 = true := by
  intro x hx
  simp only [List.mem_cons,List.not_mem_nil,or_false] at hx
  rcases hx with rfl | rfl
  ·
   exact ⟨hl0,rfl⟩
  ·
   exact ⟨hl1,rfl⟩
 refine EF.of h70 func70 rfl ?_
 refine EW.seq (EW.go 5 (by kernel_rfl) ?_)
 refine EW.seq (EW.draw (by kernel_rfl) (by kernel_rfl) (by kernel_rfl) ?_)
 iterate 3
  refine ET.q (by kernel_rfl) (by kernel_rfl) ?_
 refine ET.asS s (by kernel_rfl) ?_
 refine ET.op (by kernel_rfl) (op_ld (b := c) (off := 0) (v := aptr rn 0) rfl underlying84 rfl (by kernel_rfl) hs h0) ?_
 iterate 3
  refine ET.q (by kernel_rfl) (by kernel_rfl) ?_
 refine ET.asS s (by kernel_rfl) ?_
 refine ET.op (by kernel_rfl) (op_ld (b := c) (off := 1) (v := num (k : Nat)) rfl underlying3 rfl (by kernel_rfl) hs h1) ?_
 refine ET.q (by kernel_rfl) (by kernel_rfl) ?_
 refine ET.asS s (by kernel_rfl) ?_
 refine ET.op (by kernel_rfl) (op_addI (i := (k : Nat)) (j := (p : Nat)) (r := ((k + p : Nat) : Int)) rfl (by kernel_rfl) (by kernel_rfl) (by omega) (by omega)) ?_
 refine ET.callF #[aptr rn 0,num ((k + p : Nat) : Int)] (by kernel_rfl) rfl rfl (by kernel_rfl) (by kernel_rfl) hat ?_
 refine ET.q (by kernel_rfl) (by kernel_rfl) ?_
 refine ET.nil ⟨zg1 [(zc8 prog 84 (aptr c 0) s,aptr rn 0),(zc8 prog 3 (aptr c 1) s,num (k : Nat))] (by kernel_rfl) hlds,_,_,_,_,_,_,rfl,rfl,?_⟩
 exact EW.ret ⟨.inr rfl,by kernel_rfl,by kernel_rfl⟩
theorem zf7 {k : IntKind} {i j : Int} {b : Bool} (h : (i != j) = b) : evBin .neq (.int k i) (.int k j) = some (.bool b) := by unfold evBin; simp only [if_pos]; rw [h]
theorem begun0_e (h70 : pr 70 = none) (h71 : pr 71 = none) (h146 : pr 146 = prRow rn all 146) {c : Nat} {cs : Array Value} {t : TypeId} {fz : Nat × Nat} {k : Nat} (hcn : c < s.nx) (hs : s.get c = some (.cells cs t fz)) (h0 : cs[0]? = some (aptr rn 0)) (h1 : cs[1]? = some (num (k : Nat))) (hk : k ≤ 1000000) (hl : lAt all k ≠ 60) : EF prog ktB pr 71 #[aptr c 0] s .nilFunc (s.add (.cells #[aptr c 0] 196)) := by
 have hs2 : (s.add (.cells #[aptr c 0] 196)).get c = some (.cells cs t fz) := by rw [AS.get_add,if_neg (by omega)]; exact hs
 have hah := ahead_e (s := s.add (.cells #[aptr c 0] 196)) h70 h146 (p := 0) hs2 h0 h1 (by omega)
 rw [Nat.add_zero] at hah
 have hs3 : (s.add (.cells #[aptr c 0] 196)).get s.nx = some (.cells #[aptr c 0] 196) := by rw [AS.get_add,if_pos rfl]
 refine EF.of h71 func71 rfl ?_
 refine EW.seq (EW.go 5 (by kernel_rfl) (EW.asS (s.add (.cells #[aptr c 0] 196)) (by kernel_rfl) ?_))
 generalize s.add (.cells #[aptr c 0] 196) = s2 at hs2 hah hs3
 generalize lAt all k = r at hah hl
 refine EW.seq (EW.seq (EW.region (by kernel_rfl) (EO.op (by kernel_rfl) (op_ld (b := s.nx) (off := 0) (v := aptr c 0) rfl underlying196 rfl (by kernel_rfl) hs3 rfl) ?_)))
 refine EO.callF #[aptr c 0,num 0] (by kernel_rfl) rfl rfl (by kernel_rfl) (by kernel_rfl) hah (EO.op (by kernel_rfl) (zc4 (u := .int .i32 r) (w := .int .i32 60) rfl (by kernel_rfl) (by kernel_rfl) (zf7 (b := true) (by simp [hl]))) ?_)
 refine EO.nil (EW.condT (by kernel_rfl) ?_)
 refine EW.goE 5 .ret (by kernel_rfl) ?_
 exact ⟨.inr rfl,by kernel_rfl,by kernel_rfl⟩
end
def begOk (rn : Nat) (all : List Int) (args : Array Value) (s : AS) : Option Value := match args.toList with
 | [.pointer (some ⟨c,0,none⟩)] => match s.get c with
  | some (.cells cs _ _) => match cs.toList with
   | .pointer (some ⟨r,0,none⟩) :: .int .i64 k :: _ => if r = rn ∧ 0 ≤ k ∧ k ≤ 1000000 ∧ lAt all k.toNat ≠ 60 ∧ rn < s.nx ∧ c < s.nx ∧ cs.toList.all (nmV s.nx) = true then some .nilFunc else none
   | _ => none
  | _ => none
 | _ => none
def prN (P : Program) (n rn : Nat) (V : Array Value → Option Value) (all : List Int) : Prim := zc9 71 (begOk rn all) (zb8 P ktB (prAdd 157 V (prRow rn all)) n 71) (prAdd 157 V (prRow rn all))
end
section
open Go.Conc Go.RowKit Go.Lib
theorem idxF_mem {c : UInt8} {l : List UInt8} (h : c ∈ l) : 0 ≤ idxF c.toNat l 0 := by
 obtain ⟨a,b,rfl,hn⟩ := List.eq_append_cons_of_mem h
 rw [idxF_yes hn]
 omega
def noneL : List FuncId := [70,150,160,247,257,259,260,264,324,328,334,366]
structure PrT (rn : Nat) (all : List Int) (pr : Prim) : Prop where
 p146 : pr 146 = prRow rn all 146
 p92 : pr 92 = prRow rn all 92
 p373 : pr 373 = prBase 373
 no : ∀ f,f ∈ noneL → pr f = none
theorem hpN (n rn : Nat) (V : Array Value → Option Value) (all : List Int) : PrT rn all (prN prog n rn V all) := by
 refine ⟨by kernel_rfl,by kernel_rfl,by kernel_rfl,fun f hf => ?_⟩
 simp only [noneL,List.mem_cons,List.not_mem_nil,or_false] at hf
 rcases hf with rfl | rfl | rfl | rfl | rfl | rfl | rfl | rfl | rfl | rfl | rfl | rfl <;> kernel_rfl
structure Fam (St : Nat → AS) (rn c : Nat) (p q r : Value) : Prop where
 get : ∀ k,(St k).get c = some (.cells #[aptr rn 0,num (k : Nat),p,q,r] 121)
 set : ∀ k k' : Nat,(St k).set c (some (.cells #[aptr rn 0,num (k' : Nat),p,q,r] 121)) = St k'
 lt : ∀ k,c < (St k).nx
 rlt : ∀ k,rn < (St k).nx
 tame : ∀ k,(#[aptr rn 0,num (k : Nat),p,q,r] : Array Value).toList.all (nmV (St k).nx) = true
section
variable {rn : Nat} {all : List Int} {s : AS} {pr : Prim}
theorem isOne_e (hp : PrT rn all pr) {b : UInt8} (hb : b.toNat < 128) (stops : List UInt8) : EF prog ktB pr 328 #[.int .i32 ((b.toNat : Nat) : Int),str stops] s (.bool (decide (0 ≤ idxF b.toNat stops 0))) s := by
 have h334 : EF prog ktB pr 334 #[str stops, .int .u8 ((b.toNat : Nat) : Int)] s (num (idxF b.toNat stops 0)) s := by
  have h373 : EF prog ktB pr 373 #[str stops, .int .u8 ((b.toNat : Nat) : Int)] s (num (idxF b.toNat stops 0)) s := by
   obtain ⟨g,hg⟩ : ∃ g,prBase 373 = some g := ⟨_,rfl⟩
   have h0 := EF.eval (P := prog) (kt := ktB) (pr := prBase) (f := 373) (args := #[str stops, .int .u8 ((b.toNat : Nat) : Int)]) (s := s) (v := num (idxF (((b.toNat : Nat) : Int).toNat % 256) stops 0)) (s' := s) 1 (by kernel_rfl)
   rw [toNat_mod] at h0
   obtain ⟨m,h0⟩ := h0
   refine EF.prim (hp.p373.trans hg) ?_
   unfold zb8 at h0
   rw [hg] at h0
   exact h0
  generalize idxF b.toNat stops 0 = ix at h373 ⊢
  refine EF.of (hp.no 334 (by decide)) func334 rfl ?_
  refine EW.seq (EW.go 5 (by kernel_rfl) (EW.seq (EW.region (by kernel_rfl) ?_)))
  refine EO.gc 2 5 (by kernel_rfl) h373 (EO.fin 5 (by kernel_rfl) ?_)
  exact EW.ret ⟨.inr rfl,by kernel_rfl,by kernel_rfl⟩
 generalize idxF b.toNat stops 0 = ix at h334
 have h264 : EF prog ktB pr 264 #[str stops, .int .i32 ((b.toNat : Nat) : Int)] s (num ix) s := by
  refine EF.of (hp.no 264 (by decide)) func264 rfl ?_
  refine EW.seq (EW.go 5 (by kernel_rfl) (EW.block ?_))
  refine EW.seq (EW.region (by kernel_rfl) (EO.go 1 5 (by kernel_rfl) ?_))
  refine EO.op (by kernel_rfl) (zc4 (u := .int .i32 0) (w := .int .i32 ((b.toNat : Nat) : Int)) rfl (by kernel_rfl) (by kernel_rfl) (zk1 (b := true) (decide_eq_true (by omega)))) (EO.go 2 5 (by kernel_rfl) ?_)
  refine EO.op (by kernel_rfl) (zc4 (u := .int .i32 ((b.toNat : Nat) : Int)) (w := .int .i32 128) rfl (by kernel_rfl) (by kernel_rfl) (bin_lssK (b := true) (decide_eq_true (by omega)))) (EO.fin 5 (by kernel_rfl) ?_)
  refine EW.condT (by kernel_rfl) (EW.seq (EW.region (by kernel_rfl) ?_))
  refine EO.gs 2 5 s (by kernel_rfl) ?_
  refine EO.op (v := .int .u8 ((b.toNat : Nat) : Int)) (s1 := s) (by kernel_rfl) ((show _ = some (Value.int .u8 (IntKind.u8.wrap ((b.toNat : Nat) : Int)),s) by kernel_rfl).trans (by rw [IntKind.wrap_u8,show ((b.toNat : Nat) : Int) % 256 = (b.toNat : Nat) by omega])) (EO.asS s (by kernel_rfl) ?_)
  refine EO.callF #[str stops, .int .u8 ((b.toNat : Nat) : Int)] (by kernel_rfl) rfl rfl (by kernel_rfl) (by kernel_rfl) h334 (EO.fin 5 (by kernel_rfl) ?_)
  exact EW.ret ⟨.inr rfl,by kernel_rfl,by kernel_rfl⟩
 have h160 : EF prog ktB pr 160 #[str stops, .int .i32 ((b.toNat : Nat) : Int)] s (.bool (decide (0 ≤ ix))) s := by
  refine EF.of (hp.no 160 (by decide)) func160 rfl ?_
  refine EW.seq (EW.go 5 (by kernel_rfl) (EW.seq (EW.region (by kernel_rfl) ?_)))
  refine EO.gc 2 5 (by kernel_rfl) h264 (EO.op (by kernel_rfl) (zc4 (u := num ix) (w := num 0) rfl (by kernel_rfl) (by kernel_rfl) (bin_geq (b := decide (0 ≤ ix)) rfl)) ?_)
  generalize decide (0 ≤ ix) = bb
  refine EO.fin 5 (by kernel_rfl) ?_
  exact EW.ret ⟨.inr rfl,by kernel_rfl,by kernel_rfl⟩
 generalize decide (0 ≤ ix) = bb at h160 ⊢
 refine EF.of (hp.no 328 (by decide)) func328 rfl ?_
 refine EW.seq (EW.go 5 (by kernel_rfl) (EW.seq (EW.region (by kernel_rfl) ?_)))
 refine EO.gc 2 5 (by kernel_rfl) h160 (EO.fin 5 (by kernel_rfl) ?_)
 exact EW.ret ⟨.inr rfl,by kernel_rfl,by kernel_rfl⟩
theorem isOne_no (hp : PrT rn all pr) {b : UInt8} (hb : b.toNat < 128) {stops : List UInt8} (h : b ∉ stops) : EF prog ktB pr 328 #[.int .i32 ((b.toNat : Nat) : Int),str stops] s (.bool false) s := by
 have := isOne_e hp (s := s) hb stops
 rw [idxF_no h] at this
 exact this
theorem isOne_yes (hp : PrT rn all pr) {b : UInt8} (hb : b.toNat < 128) {stops : List UInt8} (h : b ∈ stops) : EF prog ktB pr 328 #[.int .i32 ((b.toNat : Nat) : Int),str stops] s (.bool true) s := by
 have := isOne_e hp (s := s) hb stops
 rw [decide_eq_true (idxF_mem h)] at this
 exact this
theorem rtext_e (hp : PrT rn all pr) {k j : Nat} (hj : j ≤ 1000000) : EF prog ktB pr 92 #[aptr rn 0,num (k : Nat),num (j : Nat)] s (str (zf4 ((all.drop k).take (j - k)))) s := by
 refine EF.prim (hp.p92.trans rfl) ?_
 simp only [aptr]
 rw [if_pos ⟨trivial,by omega,by omega,by omega⟩]
 simp
variable {St : Nat → AS} {c : Nat} {p q r : Value}
theorem ld_row (F : Fam St rn c p q r) (k : Nat) : zc8 prog 84 (aptr c 0) (St k) = some (aptr rn 0) := by
 unfold zc8
 simp only [aptr,F.get k,underlying84]
 rfl
theorem ld_at (F : Fam St rn c p q r) (k : Nat) : zc8 prog 3 (aptr c 1) (St k) = some (num (k : Nat)) := by
 unfold zc8
 simp only [aptr,F.get k,underlying3]
 rfl
theorem lds2 {a b : Option Value × Value} (ha : a.1 = some a.2 ∧ zh0 20 a.2 = true) (hb : b.1 = some b.2 ∧ zh0 20 b.2 = true) : ∀ x ∈ [a,b],x.1 = some x.2 ∧ zh0 20 x.2 = true := by
 intro x hx
 simp only [List.mem_cons,List.not_mem_nil,or_false] at hx
 rcases hx with rfl | rfl
 ·
  exact ha
 ·
  exact hb
theorem ahead_f (hp : PrT rn all pr) (F : Fam St rn c p q r) {k i : Nat} (hk : k + i ≤ 1000000) : EF prog ktB pr 70 #[aptr c 0,num (i : Nat)] (St k) (.int .i32 (lAt all (k + i))) (St k) := ahead_e (hp.no 70 (by decide)) hp.p146 (F.get k) rfl rfl hk
theorem zj0 (hp : PrT rn all pr) (F : Fam St rn c p q r) {k : Nat} (hk : k ≤ 1000000) : EF prog ktB pr 70 #[aptr c 0,num 0] (St k) (.int .i32 (lAt all k)) (St k) := ahead_f hp F (i := 0) (by omega)
def isB (all : List Int) (k : Nat) (b : UInt8) : Prop := lAt all k = ((b.toNat : Nat) : Int) ∧ b.toNat < 128
def sl259 (c : Nat) (stops : List UInt8) (k : Nat) (x : Nat → Value) : TL := [aptr c 0,str stops,x 2,x 3,x 4,num (k : Nat)] ++ tlX x 6 31
theorem upTo_f (hp : PrT rn all pr) (F : Fam St rn c p q r) {stops : List UInt8} {k m : Nat} (hm : k + m ≤ 900000) (hin : ∀ j,j < m → ∃ b,isB all (k + j) b ∧ b ∉ stops) (hend : ∃ b,isB all (k + m) b ∧ b ∈ stops) : EF prog ktB pr 259 #[aptr c 0,str stops] (St k) (str (zf4 ((all.drop k).take m))) (St (k + m)) := by
 refine EF.of (hp.no 259 (by decide)) func259 rfl ?_
 refine EW.seq (EW.go 5 (by kernel_rfl) (EW.asS (St k) (by kernel_rfl) ?_))
 refine EW.seq (EW.region (by kernel_rfl) (EO.gs 3 5 (St k) (by kernel_rfl) ?_))
 refine EO.op (by kernel_rfl) (op_ld (b := c) (off := 1) (v := num (k : Nat)) rfl underlying3 rfl (by kernel_rfl) (F.get k) rfl) (EO.fin 5 (by kernel_rfl) ?_)
 refine EW.asS (St k) (by kernel_rfl) ?_
 refine EW.fill (sl259 c stops k) (by kernel_rfl) ?_
 intro x0
 refine EW.seq (EW.block ?_)
 refine EW.mono (EW.loopI (Q := fun e a' s' => e = .exit 0 ∧ s' = St (k + m) ∧ ∃ x,a' = sl259 c stops k x) (fun u a' s' => ∃ j,u + j = m ∧ s' = St (k + j) ∧ ∃ x,a' = sl259 c stops k x) ?_ m _ _ ⟨0,by omega,rfl,x0,rfl⟩) ?_
 ·
  rintro u a' s' ⟨j,hu,rfl,x,rfl⟩
  have hah := zj0 hp F (k := k + j) (by omega)
  by_cases hj : j < m
  ·
   obtain ⟨b,⟨hb1,hb2⟩,hb3⟩ := hin j hj
   rw [hb1] at hah
   have h328 := isOne_no hp (s := St (k + j)) hb2 hb3
   refine EW.seq (EW.seq (EW.region (by kernel_rfl) (EO.gc 1 5 (by kernel_rfl) hah ?_)))
   refine EO.op (by kernel_rfl) (zc4 (u := .int .i32 ((b.toNat : Nat) : Int)) (w := .int .i32 (-1)) rfl (by kernel_rfl) (by kernel_rfl) (zf7 (b := true) (by simp))) (EO.gc 2 5 (by kernel_rfl) hah ?_)
   refine EO.gc 1 5 (by kernel_rfl) h328 (EO.fin 5 (by kernel_rfl) ?_)
   refine EW.asS (St (k + j)) (by kernel_rfl) (EW.condT (by kernel_rfl) (EW.skip ?_))
   refine EW.block (EW.region (by kernel_rfl) ?_)
   refine EO.gs 3 5 (St (k + j)) (by kernel_rfl) (EO.op (by kernel_rfl) (op_ld (b := c) (off := 1) (v := num ((k + j : Nat) : Int)) rfl underlying3 rfl (by kernel_rfl) (F.get (k + j)) rfl) ?_)
   refine EO.op (by kernel_rfl) (op_addI (i := ((k + j : Nat) : Int)) (j := 1) (r := ((k + (j + 1) : Nat) : Int)) rfl (by kernel_rfl) (by kernel_rfl) (by omega) (by omega)) (EO.gs 2 5 (St (k + j)) (by kernel_rfl) ?_)
   refine EO.op (by kernel_rfl) (op_st (b := c) (off := 1) (w := num ((k + (j + 1) : Nat) : Int)) rfl (by kernel_rfl) (by kernel_rfl) rfl rfl (by kernel_rfl) (F.get (k + j)) (by simp)) (EO.nil ?_)
   exact ⟨u - 1,by omega,j + 1,by omega,F.set (k + j) (k + (j + 1)),fillX (by kernel_rfl)⟩
  ·
   obtain rfl : j = m := by omega
   obtain ⟨b,⟨hb1,hb2⟩,hb3⟩ := hend
   rw [hb1] at hah
   have h328 := isOne_yes hp (s := St (k + j)) hb2 hb3
   refine EW.seq (EW.seq (EW.region (by kernel_rfl) (EO.gc 1 5 (by kernel_rfl) hah ?_)))
   refine EO.op (by kernel_rfl) (zc4 (u := .int .i32 ((b.toNat : Nat) : Int)) (w := .int .i32 (-1)) rfl (by kernel_rfl) (by kernel_rfl) (zf7 (b := true) (by simp))) (EO.gc 2 5 (by kernel_rfl) hah ?_)
   refine EO.gc 1 5 (by kernel_rfl) h328 (EO.fin 5 (by kernel_rfl) ?_)
   refine EW.asS (St (k + j)) (by kernel_rfl) (EW.condF (by kernel_rfl) (EW.exit ?_))
   exact ⟨rfl,rfl,fillX (by kernel_rfl)⟩
 rintro e a' s' ⟨rfl,rfl,x,rfl⟩
 have htx := rtext_e hp (s := St (k + m)) (k := k) (j := k + m) (by omega)
 rw [show k + m - k = m by omega] at htx
 generalize zf4 ((all.drop k).take m) = tx at htx ⊢
 refine EW.seq (EW.draw (by kernel_rfl) (by kernel_rfl) (by kernel_rfl) ?_)
 iterate 3
  refine ET.q (by kernel_rfl) (by kernel_rfl) ?_
 refine ET.asS (St (k + m)) (by kernel_rfl) ?_
 refine ET.op (by kernel_rfl) (op_ld (b := c) (off := 0) (v := aptr rn 0) rfl underlying84 rfl (by kernel_rfl) (F.get (k + m)) rfl) ?_
 iterate 4
  refine ET.q (by kernel_rfl) (by kernel_rfl) ?_
 refine ET.asS (St (k + m)) (by kernel_rfl) ?_
 refine ET.op (by kernel_rfl) (op_ld (b := c) (off := 1) (v := num ((k + m : Nat) : Int)) rfl underlying3 rfl (by kernel_rfl) (F.get (k + m)) rfl) ?_
 refine ET.callF #[aptr rn 0,num (k : Nat),num ((k + m : Nat) : Int)] (by kernel_rfl) rfl rfl (by kernel_rfl) (by kernel_rfl) htx ?_
 refine ET.q (by kernel_rfl) (by kernel_rfl) ?_
 refine ET.nil ⟨zg1 [(zc8 prog 84 (aptr c 0) (St (k + m)),aptr rn 0),(zc8 prog 3 (aptr c 1) (St (k + m)),num ((k + m : Nat) : Int))] (by kernel_rfl) (lds2 ⟨ld_row F _,rfl⟩ ⟨ld_at F _,rfl⟩),_,_,_,_,_,_,rfl,rfl,?_⟩
 exact EW.ret ⟨.inr rfl,by kernel_rfl,by kernel_rfl⟩
abbrev spaceB : List UInt8 := [9,10,12,13,32]
def sl324 (c : Nat) (x : Nat → Value) : TL := [aptr c 0,x 1, .bool false] ++ tlX x 3 14
theorem skipToAttr_f (hp : PrT rn all pr) (F : Fam St rn c p q r) {k m : Nat} (hk : k + m ≤ 800000) (hin : ∀ j,j < m → isB all (k + j) 32) {b : UInt8} (hb : isB all (k + m) b) (hs : b ∉ spaceB ++ [47]) : EF prog ktB pr 324 #[aptr c 0] (St k) (.bool false) (St (k + m)) := by
 refine EF.of (hp.no 324 (by decide)) func324 rfl ?_
 refine EW.seq (EW.go 5 (by kernel_rfl) (EW.asS (St k) (by kernel_rfl) ?_))
 refine EW.fill (sl324 c) (by kernel_rfl) ?_
 intro x0
 refine EW.seq (EW.block ?_)
 refine EW.mono (EW.loopI (Q := fun e a' s' => e = .exit 0 ∧ s' = St (k + m) ∧ ∃ x,a' = sl324 c x) (fun u a' s' => ∃ j,u + j = m ∧ s' = St (k + j) ∧ ∃ x,a' = sl324 c x) ?_ m _ _ ⟨0,by omega,rfl,x0,rfl⟩) ?_
 ·
  rintro u a' s' ⟨j,hu,rfl,x,rfl⟩
  have hah := zj0 hp F (k := k + j) (by omega)
  by_cases hj : j < m
  ·
   obtain ⟨hb1,hb2⟩ := hin j hj
   rw [hb1] at hah
   have h328 := isOne_yes hp (s := St (k + j)) hb2 (stops := spaceB ++ [47]) (by decide)
   refine EW.seq (EW.seq (EW.region (by kernel_rfl) (EO.gc 1 5 (by kernel_rfl) hah ?_)))
   refine EO.callF #[.int .i32 (((32 : UInt8).toNat : Nat) : Int),str (spaceB ++ [47])] (by kernel_rfl) rfl rfl (by kernel_rfl) (by kernel_rfl) h328 (EO.nil ?_)
   refine EW.condT (by kernel_rfl) (EW.skip (EW.block ?_))
   refine EW.seq (EW.region (by kernel_rfl) (EO.gc 1 5 (by kernel_rfl) hah ?_))
   refine EO.fin 5 (by kernel_rfl) (EW.asS (St (k + j)) (by kernel_rfl) ?_)
   refine EW.region (by kernel_rfl) (EO.gs 3 5 (St (k + j)) (by kernel_rfl) ?_)
   refine EO.op (by kernel_rfl) (op_ld (b := c) (off := 1) (v := num ((k + j : Nat) : Int)) rfl underlying3 rfl (by kernel_rfl) (F.get (k + j)) rfl) (EO.op (by kernel_rfl) (op_addI (i := ((k + j : Nat) : Int)) (j := 1) (r := ((k + (j + 1) : Nat) : Int)) rfl (by kernel_rfl) (by kernel_rfl) (by omega) (by omega)) ?_)
   refine EO.gs 2 5 (St (k + j)) (by kernel_rfl) (EO.op (by kernel_rfl) (op_st (b := c) (off := 1) (w := num ((k + (j + 1) : Nat) : Int)) rfl (by kernel_rfl) (by kernel_rfl) rfl rfl (by kernel_rfl) (F.get (k + j)) (by simp)) ?_)
   refine EO.nil ?_
   exact ⟨u - 1,by omega,j + 1,by omega,F.set (k + j) (k + (j + 1)),fillX (by kernel_rfl)⟩
  ·
   obtain rfl : j = m := by omega
   rw [hb.1] at hah
   have h328 := isOne_no hp (s := St (k + j)) hb.2 hs
   refine EW.seq (EW.seq (EW.region (by kernel_rfl) (EO.gc 1 5 (by kernel_rfl) hah ?_)))
   refine EO.callF #[.int .i32 ((b.toNat : Nat) : Int),str (spaceB ++ [47])] (by kernel_rfl) rfl rfl (by kernel_rfl) (by kernel_rfl) h328 (EO.nil ?_)
   refine EW.condF (by kernel_rfl) (EW.exit ?_)
   exact ⟨rfl,rfl,fillX (by kernel_rfl)⟩
 rintro e a' s' ⟨rfl,rfl,x,rfl⟩
 refine EW.seq (EW.go 5 (by kernel_rfl) ?_)
 exact EW.ret ⟨.inr rfl,by kernel_rfl,by kernel_rfl⟩
end
end
section
open Go.Conc Go.RowKit Go.Lib
def rd0 : AS := ⟨((⟨sA.hp,64⟩ : AS).add (.cells #[.slice none 0 0] 56)).hp,66⟩
def sc1 (k : Nat) : AS := rd0.add (.cells #[aptr 65 0,num (k : Nat), .pointer none, .slice none 0 0, .slice none 0 0] 121)
abbrev bxO : Obj := .cells #[aptr 66 0] 196
def sc1b (k : Nat) : AS := (sc1 k).add bxO
def sc2 (bs : List UInt8) (k : Nat) : AS := ((rd0.add (.cells #[aptr 65 0,num (k : Nat),aptr 66 2, .slice (some ⟨68,0,none⟩) bs.length bs.length, .slice none 0 0] 121)).add bxO).add (.cells (byC bs) 5 (1,1))
def sc2b (bs : List UInt8) (k : Nat) : AS := (sc2 bs k).add bxO
theorem fam1 : Fam sc1 65 66 (.pointer none) (.slice none 0 0) (.slice none 0 0) := ⟨fun k => by kernel_rfl,fun k k' => by kernel_rfl,fun k => by show 66 < 67; decide,fun k => by show 65 < 67; decide,fun k => by kernel_rfl⟩
end
section
open Go.Conc Go.RowKit Go.Lib
def lowI (r : Int) : Int := if 65 ≤ r ∧ r ≤ 90 then r + 32 else r
def hasT (all : List Int) : Nat → List UInt8 → Bool
 | _, [] => true
 | q,b :: l => (lowI (lAt all q) == ((b.toNat : Nat) : Int)) && hasT all (q + 1) l
theorem wrapF32 {r : Int} (h : -2000000000 ≤ r ∧ r ≤ 2000000000) : wrapF .i32 r = r := by unfold wrapF; simp only; rw [if_pos h]
section
variable {n rn : Nat} {V : Array Value → Option Value} {all : List Int} {s : AS} {pr : Prim}
theorem low_e (hp : PrT rn all pr) {r : Int} (hr : -1 ≤ r ∧ r ≤ 1114111) : EF prog ktB pr 247 #[.int .i32 r] s (.int .i32 (lowI r)) s := by
 unfold lowI
 refine EF.of (hp.no 247 (by decide)) func247 rfl ?_
 refine EW.seq (EW.go 5 (by kernel_rfl) (EW.seq (EW.seq (EW.region (by kernel_rfl) ?_))))
 refine EO.go 1 5 (by kernel_rfl) ?_
 by_cases h1 : 65 ≤ r
 ·
  refine EO.op (by kernel_rfl) (zc4 (u := .int .i32 65) (w := .int .i32 r) rfl (by kernel_rfl) (by kernel_rfl) (zk1 (b := true) (decide_eq_true h1))) (EO.go 2 5 (by kernel_rfl) ?_)
  by_cases h2 : r ≤ 90
  ·
   rw [if_pos ⟨h1,h2⟩]
   refine EO.op (by kernel_rfl) (zc4 (u := .int .i32 r) (w := .int .i32 90) rfl (by kernel_rfl) (by kernel_rfl) (zk1 (b := true) (decide_eq_true h2))) (EO.fin 5 (by kernel_rfl) ?_)
   refine EW.condT (by kernel_rfl) (EW.seq (EW.region (by kernel_rfl) ?_))
   refine EO.gs 1 5 s (by kernel_rfl) ?_
   refine EO.op (v := .int .i32 (r - 65)) (s1 := s) (by kernel_rfl) ((show _ = some (Value.int .i32 (wrapF .i32 (r - 65)),s) by kernel_rfl).trans (by rw [wrapF32 (by omega)])) (EO.asS s (by kernel_rfl) ?_)
   refine EO.op (v := .int .i32 (r + 32)) (s1 := s) (by kernel_rfl) ((show _ = some (Value.int .i32 (wrapF .i32 (r - 65 + 97)),s) by kernel_rfl).trans (by rw [wrapF32 (by omega),show r - 65 + 97 = r + 32 by omega])) (EO.fin 5 (by kernel_rfl) ?_)
   exact EW.ret ⟨.inr rfl,by kernel_rfl,by kernel_rfl⟩
  ·
   rw [if_neg (by omega)]
   refine EO.op (by kernel_rfl) (zc4 (u := .int .i32 r) (w := .int .i32 90) rfl (by kernel_rfl) (by kernel_rfl) (zk1 (b := false) (decide_eq_false h2))) (EO.fin 5 (by kernel_rfl) ?_)
   refine EW.condF (by kernel_rfl) (EW.skip (EW.seq (EW.go 5 (by kernel_rfl) ?_)))
   exact EW.ret ⟨.inr rfl,by kernel_rfl,by kernel_rfl⟩
 ·
  rw [if_neg (by omega)]
  refine EO.op (by kernel_rfl) (zc4 (u := .int .i32 65) (w := .int .i32 r) rfl (by kernel_rfl) (by kernel_rfl) (zk1 (b := false) (decide_eq_false h1))) (EO.fin 5 (by kernel_rfl) ?_)
  refine EW.condF (by kernel_rfl) (EW.skip (EW.seq (EW.go 5 (by kernel_rfl) ?_)))
  exact EW.ret ⟨.inr rfl,by kernel_rfl,by kernel_rfl⟩
def sl150 (c p : Nat) (sm : List UInt8) (b : Nat) (x : Nat → Value) : TL := [aptr c 0,num (p : Nat),str sm,x 3,x 4,x 5,x 6,x 7,x 8,str sm,aptr b 0] ++ tlX x 11 12
theorem has_e (hp : PrT rn all pr) (hl : ∀ k, -1 ≤ lAt all k ∧ lAt all k ≤ 1114111) {c : Nat} {cs : Array Value} {t : TypeId} {fz : Nat × Nat} {k p : Nat} {sm : List UInt8} (ha : ∀ b ∈ sm,b.toNat < 128) (hsz : sm.length < 16) (hcn : c < s.nx) (hs : s.get c = some (.cells cs t fz)) (h0 : cs[0]? = some (aptr rn 0)) (h1 : cs[1]? = some (num (k : Nat))) (hk : k + p ≤ 900000) :
  ∃ s',EF prog ktB pr 150 #[aptr c 0,num (p : Nat),str sm] s (.bool (hasT all (k + p) sm)) s' ∧ FrB s.nx s s' := by
 have hkt : ktB (1000 + sm.length) = false := ktB_len _ hsz
 suffices hh : EW prog ktB pr (match Tryz.f150.body with | some c => c | none => .skip) ((#[aptr c 0,num (p : Nat),str sm] : Array Value).toList ++ List.replicate (Tryz.f150.ntmps - (#[aptr c 0,num (p : Nat),str sm] : Array Value).toList.length) undef) s (fun e a' s1 => (e = .normal ∨ e = .ret) ∧ evRes prog Tryz.f150 a' s1 = some (.bool (hasT all (k + p) sm)) ∧ FrB s.nx s s1) by
  obtain ⟨m,e,a',s1,q1,q2,q3,q4⟩ := hh
  exact ⟨s1,EF.of (hp.no 150 (by decide)) func150 rfl ⟨m,e,a',s1,q1,q2,q3,rfl⟩,q4⟩
 refine EW.seq (EW.go 5 (by kernel_rfl) (EW.seq (EW.seq (EW.region (by kernel_rfl) ?_))))
 refine EO.gs 1 5 s (by kernel_rfl) (EO.op (by kernel_rfl) (op_rg (l := sm) rfl underlying9 (by kernel_rfl) hkt) ?_)
 refine EO.nil ?_
 refine EW.fill (sl150 c p sm s.nx) (by kernel_rfl) ?_
 intro x0
 refine EW.block ?_
 refine EW.mono (EW.loopI (Q := fun e a' s' => FrB s.nx s s' ∧ ((e = .exit 0 ∧ hasT all (k + p) sm = true ∧ ∃ x,a' = sl150 c p sm s.nx x) ∨ (e = .ret ∧ hasT all (k + p) sm = false ∧ evRes prog Tryz.f150 a' s' = some (.bool false)))) (fun m a' s' => ∃ j,m + j = sm.length ∧ s'.get s.nx = some (.stringIter ⟨sm.toArray⟩ j) ∧ s.nx < s'.nx ∧ FrB s.nx s s' ∧ hasT all (k + p) sm = hasT all (k + p + j) (sm.drop j) ∧ ∃ x,a' = sl150 c p sm s.nx x) ?_ sm.length _ _ ⟨0,by omega,by rw [AS.get_add,if_pos rfl],by simp,FrB.add (Nat.le_refl _),by simp,x0,rfl⟩) ?_
 ·
  rintro m a' s' ⟨j,hm,hit,hnx,hfr,hh,x,rfl⟩
  by_cases hj : j < sm.length
  ·
   have hget : sm[j]? = some sm[j] := List.getElem?_eq_getElem hj
   have hb := ha sm[j] (List.getElem_mem hj)
   rw [List.drop_eq_getElem_cons hj] at hh
   generalize sm[j] = b at hget hb hh
   generalize hs2 : s'.set s.nx (some (.stringIter ⟨sm.toArray⟩ (j + 1))) = s2
   have hfr2 : FrB s.nx s s2 := by
    rw [← hs2]
    exact ⟨hfr.1,fun q hq => by rw [AS.get_set,if_neg (by omega)]; exact hfr.2 q hq⟩
   have hsc : s2.get c = some (.cells cs t fz) := (hfr2.2 c hcn).trans hs
   have hah := ahead_e (rn := rn) (all := all) (pr := pr) (s := s2) (hp.no 70 (by decide)) hp.p146 (p := p + j) hsc h0 h1 (by omega)
   rw [show k + (p + j) = k + p + j by omega] at hah
   have hlow := low_e hp (s := s2) (hl (k + p + j))
   simp only [hasT] at hh
   generalize hr : lAt all (k + p + j) = r at hah hlow hh
   generalize lowI r = lr at hlow hh
   refine EW.seq (EW.region (by kernel_rfl) (EO.op (by kernel_rfl) (op_nx (b := s.nx) (pos := j) (l := sm) (r := b) rfl (by kernel_rfl) hit hget hb hkt) ?_))
   rw [hs2]
   refine EO.fin 5 (by kernel_rfl) (EW.asS s2 (by kernel_rfl) ?_)
   refine EW.seq (EW.condT (by kernel_rfl) (EW.skip (EW.block ?_)))
   refine EW.seq (EW.go 5 (by kernel_rfl) (EW.asS s2 (by kernel_rfl) ?_))
   refine EW.seq (EW.region (by kernel_rfl) (EO.go 3 5 (by kernel_rfl) ?_))
   refine EO.op (by kernel_rfl) (op_addI (i := (p : Nat)) (j := (j : Nat)) (r := ((p + j : Nat) : Int)) rfl (by kernel_rfl) (by kernel_rfl) (by omega) (by omega)) (EO.asS s2 (by kernel_rfl) ?_)
   refine EO.callF #[aptr c 0,num ((p + j : Nat) : Int)] (by kernel_rfl) rfl rfl (by kernel_rfl) (by kernel_rfl) hah (EO.callF #[.int .i32 r] (by kernel_rfl) rfl rfl (by kernel_rfl) (by kernel_rfl) hlow ?_)
   refine EO.go 1 5 (by kernel_rfl) ?_
   by_cases heq : lr = ((b.toNat : Nat) : Int)
   ·
    refine EO.op (by kernel_rfl) (zc4 (u := .int .i32 lr) (w := .int .i32 ((b.toNat : Nat) : Int)) rfl (by kernel_rfl) (by kernel_rfl) (zf7 (b := false) (by simp [heq]))) (EO.nil ?_)
    refine EW.condF (by kernel_rfl) (EW.skip ?_)
    refine ⟨m - 1,by omega,j + 1,by omega,?_,?_,hfr2,?_,fillX (by kernel_rfl)⟩
    ·
     show s2.get s.nx = _
     rw [← hs2,AS.get_set,if_pos rfl]
    ·
     show s.nx < s2.nx
     rw [← hs2]; exact hnx
    ·
     rw [hh,heq]; simp; rfl
   ·
    refine EO.op (by kernel_rfl) (zc4 (u := .int .i32 lr) (w := .int .i32 ((b.toNat : Nat) : Int)) rfl (by kernel_rfl) (by kernel_rfl) (zf7 (b := true) (by simp [heq]))) (EO.nil ?_)
    refine EW.condT (by kernel_rfl) (EW.seq (EW.go 5 (by kernel_rfl) ?_))
    refine EW.ret ⟨hfr2, .inr ⟨rfl,?_,by kernel_rfl⟩⟩
    rw [hh]; simp [heq]
  ·
   obtain rfl : j = sm.length := by omega
   refine EW.seq (EW.region (by kernel_rfl) (EO.op (by kernel_rfl) (op_nx0 (b := s.nx) (pos := sm.length) (l := sm) rfl (by kernel_rfl) hit (Nat.le_refl _)) ?_))
   refine EO.fin 5 (by kernel_rfl) (EW.asS s' (by kernel_rfl) ?_)
   refine EW.seq (EW.condF (by kernel_rfl) (EW.exit ?_))
   refine ⟨hfr, .inl ⟨rfl,?_,fillX (by kernel_rfl)⟩⟩
   rw [hh,List.drop_of_length_le (Nat.le_refl _)]; rfl
 ·
  rintro e a' s' ⟨hfr,(⟨rfl,hh,x,rfl⟩ | ⟨rfl,hh,hres⟩)⟩
  ·
   rw [hh]
   refine EW.seq (EW.go 5 (by kernel_rfl) ?_)
   exact EW.ret ⟨.inr rfl,by kernel_rfl,hfr⟩
  ·
   rw [hh]
   exact ⟨.inr rfl,hres,hfr⟩
abbrev stopsE : List UInt8 := [9,10,12,13,32,47,62]
theorem ends_e (hp : PrT rn all pr) (h327 : pr 327 = none) (hl : ∀ k, -1 ≤ lAt all k ∧ lAt all k ≤ 1114111) {c : Nat} {cs : Array Value} {t : TypeId} {fz : Nat × Nat} {k : Nat} {nm : List UInt8} (ha : ∀ b ∈ nm,b.toNat < 128) (hsz : nm.length < 14) (hcn : c < s.nx) (hs : s.get c = some (.cells cs t fz)) (h0 : cs[0]? = some (aptr rn 0)) (h1 : cs[1]? = some (num (k : Nat))) (hk : k ≤ 800000) {bb : Bool}
  (hb : (bb = false ∧ hasT all k ([60,47] ++ nm) = false) ∨ (hasT all k ([60,47] ++ nm) = true ∧ ∃ b,isB all (k + (2 + nm.length)) b ∧ bb = decide (b ∈ stopsE))) :
  ∃ s',EF prog ktB pr 327 #[aptr c 0,str nm] s (.bool bb) s' ∧ FrB s.nx s s' := by
 obtain ⟨s2,hha,hfr⟩ := has_e hp (s := s) hl (p := 0) (sm := [60,47] ++ nm) (by
  intro b hb
  simp only [List.mem_append,List.mem_cons,List.not_mem_nil,or_false] at hb
  rcases hb with (rfl | rfl) | hb
  ·
   decide
  ·
   decide
  ·
   exact ha b hb) (by simp; omega) hcn hs h0 h1 (by omega)
 rw [Nat.add_zero] at hha
 have hsc : s2.get c = some (.cells cs t fz) := (hfr.2 c hcn).trans hs
 refine EF.ofE h327 func327 rfl ?_
 refine EW.seq (EW.go 5 (by kernel_rfl) (EW.seq (EW.region (by kernel_rfl) ?_)))
 refine EO.go 1 5 (by kernel_rfl) (EO.op (by kernel_rfl) (zf0 (l := [60,47]) (m := nm) rfl (by kernel_rfl) (by kernel_rfl) (by simp; omega)) ?_)
 refine EO.fin 5 (by kernel_rfl) (EW.asS s (by kernel_rfl) ?_)
 have hlen : ([60,47] ++ nm).length = 2 + nm.length := by simp; omega
 generalize ([60,47] ++ nm : List UInt8) = en at hha hb hlen ⊢
 refine EW.seq (EW.region (by kernel_rfl) (EO.gc 2 5 (by kernel_rfl) hha ?_))
 rcases hb with ⟨rfl,hh⟩ | ⟨hh,b,hbb,rfl⟩
 ·
  rw [hh]
  refine EO.fin 5 (by kernel_rfl) (EW.asS s2 (by kernel_rfl) ?_)
  exact EW.ret ⟨.inr rfl,by kernel_rfl,hfr⟩
 ·
  rw [hh]
  have hah := ahead_e (rn := rn) (all := all) (pr := pr) (s := s2) (hp.no 70 (by decide)) hp.p146 (p := 2 + nm.length) hsc h0 h1 (by omega)
  rw [hbb.1, ← hlen] at hah
  have h328 : EF prog ktB pr 328 #[.int .i32 ((b.toNat : Nat) : Int),str stopsE] s2 (.bool (decide (b ∈ stopsE))) s2 := by
   by_cases h : b ∈ stopsE
   ·
    rw [decide_eq_true h]; exact isOne_yes hp hbb.2 h
   ·
    rw [decide_eq_false h]; exact isOne_no hp hbb.2 h
  generalize decide (b ∈ stopsE) = bb at h328 ⊢
  refine EO.go 3 5 (by kernel_rfl) (EO.op (by kernel_rfl) (zl0 (l := en) rfl underlying9 (by kernel_rfl)) ?_)
  refine EO.asS s2 (by kernel_rfl) (EO.callF #[aptr c 0,num (en.length : Nat)] (by kernel_rfl) rfl rfl (by kernel_rfl) (by kernel_rfl) hah ?_)
  refine EO.callF #[.int .i32 ((b.toNat : Nat) : Int),str stopsE] (by kernel_rfl) rfl rfl (by kernel_rfl) (by kernel_rfl) h328 (EO.fin 5 (by kernel_rfl) ?_)
  refine EW.asS s2 (by kernel_rfl) ?_
  exact EW.ret ⟨.inr rfl,by kernel_rfl,hfr⟩
def endOk (rn : Nat) (all : List Int) (args : Array Value) (s : AS) : Option Value := match args.toList with
 | [.pointer (some ⟨c,0,none⟩), .string nm] => match s.get c with
  | some (.cells cs _ _) => match cs.toList with
   | .pointer (some ⟨r,0,none⟩) :: .int .i64 k :: _ => if r = rn ∧ 0 ≤ k ∧ k ≤ 800000 ∧ rn < s.nx ∧ c < s.nx ∧ cs.toList.all (nmV s.nx) = true ∧ nm.data.toList.all (fun b => decide (b.toNat < 128)) = true ∧ nm.data.toList.length < 14 then
     if hasT all k.toNat ([60,47] ++ nm.data.toList) = true then (if 0 ≤ lAt all (k.toNat + (2 + nm.data.toList.length)) ∧ lAt all (k.toNat + (2 + nm.data.toList.length)) < 128 then some (.bool (decide (UInt8.ofNat (lAt all (k.toNat + (2 + nm.data.toList.length))).toNat ∈ stopsE))) else none)
     else some (.bool false)
    else none
   | _ => none
  | _ => none
 | _ => none
end
end
end Go.Proofs.YtgcaionclkbehaaGreatDoor
