import Derived.Test.YtgcaionclkbehaaGreatDoorN1
set_option linter.all false
namespace Go.Proofs.YtgcaionclkbehaaGreatDoor
open Tryz
open Go.Conc Go.RowKit Go.Lib
def encL (c : Nat) : List UInt8 := if c < 2048 then [UInt8.ofNat (192 + c / 64),UInt8.ofNat (128 + c % 64)] else if c < 65536 then [UInt8.ofNat (224 + c / 4096),UInt8.ofNat (128 + c / 64 % 64),UInt8.ofNat (128 + c % 64)] else [UInt8.ofNat (240 + c / 262144),UInt8.ofNat (128 + c / 4096 % 64),UInt8.ofNat (128 + c / 64 % 64),UInt8.ofNat (128 + c % 64)]
theorem u8n {n : Nat} (h : n < 256) : ((UInt8.ofNat n).toNat : Int) = (n : Nat) := by
 rw [UInt8.toNat_ofNat']
 show ((n % 256 : Nat) : Int) = _
 rw [Nat.mod_eq_of_lt h]
theorem fdiv_nat (c k : Nat) : Int.fdiv (c : Int) (2 ^ k) = ((c / 2 ^ k : Nat) : Int) := by
 rw [Int.fdiv_eq_ediv_of_nonneg _ (by exact Int.pow_nonneg (by decide))]
 simp
def VLet (c : Nat) : Prop := 128 ≤ c ∧ (c < 55296 ∨ (57343 < c ∧ c ≤ 1114111))
def RowB (s : AS) (sl : Value) (l : List UInt8) : Prop := (sl = .slice none 0 0 ∧ l = []) ∨ ∃ d fz,sl = .slice (some ⟨d,0,none⟩) l.length l.length ∧ d < s.nx ∧ s.get d = some (.cells (byC l) 5 fz)
theorem RowB.add {s : AS} {sl : Value} {l : List UInt8} (h : RowB s sl l) (o : Obj) : RowB (s.add o) sl l := by
 rcases h with h | ⟨d,fz,q1,q2,q3⟩
 ·
  exact .inl h
 ·
  exact .inr ⟨d,fz,q1,by simp; omega,by rw [AS.get_add,if_neg (by omega)]; exact q3⟩
def AppB (s : AS) (sl : Value) (l m : List UInt8) (s3 : AS) (w : Value) : Prop := ∃ g,w = .slice (some ⟨g,0,none⟩) (l ++ m).length (l ++ m).length ∧ s.nx ≤ g ∧ g < s3.nx ∧ s3.get g = some (.cells (byC (l ++ m)) 5 (1,1)) ∧ ∀ k,k < s.nx → (∀ n c,sl ≠ .slice (some ⟨k,0,none⟩) n c) → s3.get k = s.get k
theorem appB {s : AS} {sl : Value} {l m : List UInt8} (h : RowB s sl l) (hm : m ≠ []) (hl : l.length + m.length ≤ 1000000) : ∃ w s3,zd4 prog 5 sl (strCells ⟨m.toArray⟩) m.length s = some (w,s3) ∧ AppB s sl l m s3 w := by
 have hm0 : m.length ≠ 0 := by simpa using hm
 rcases h with ⟨rfl,rfl⟩ | ⟨d,fz,rfl,q2,q3⟩
 ·
  exact ⟨_,_,app_none hm0,s.nx,by simp,Nat.le_refl _,by simp,by rw [AS.get_add,if_pos rfl]; rfl,fun k hk _ => by rw [AS.get_add,if_neg (by omega)]⟩
 ·
  have hlen : (byC l).size = l.length := by simp [strCells]
  refine ⟨_,_,app_row (sz := 1) hm0 q3 (by kernel_rfl) (by rw [hlen]; omega) (by omega),s.nx,by rw [List.length_append],Nat.le_refl _,by simp,?_,fun k hk hne => ?_⟩
  ·
   rw [AS.get_add,if_pos (by simp)]
   have : List.take (l.length * 1) (byC l).toList = strCells ⟨l.toArray⟩ := by
    rw [Nat.mul_one]
    exact List.take_of_length_le (by simp [strCells])
   rw [this,strCells_app]
  ·
   rw [AS.get_add,if_neg (by simp; omega),AS.get_set,if_neg (fun e => hne _ _ (by rw [e]))]
theorem op_appB {kt : TypeId → Bool} {c : CallF} {a : TL} {s s' : AS} {o : Oper} {v : Value} {x y : Operand} {sl : Value} {m : List UInt8} {d k : Nat} {fz : Nat × Nat} (hop : o.op = .call { callee := .builtin .append,args := #[x,y],argTypes := #[55,55] }) (hx : a.at x = sl) (hy : a.at y = .slice (some ⟨d,0,none⟩) m.length k) (hkt : kt 5 = false) (hd : s.get d = some (.cells (byC m) 5 fz)) (hap : rowsApart sl (some ⟨d,0,none⟩) = true) (hm : m.length ≤ 1000000) (h : zd4 prog 5 sl (strCells ⟨m.toArray⟩) m.length s = some (v,s')) : evOp prog kt c a o s = some (v,s') := by
 have hq : ze4 prog a o = none := by
  unfold ze4
  rw [hop]
 have hlen : (byC m).size = m.length := by simp [strCells]
 have hc : zj5 s 1 (some ⟨d,0,none⟩) m.length = some (strCells ⟨m.toArray⟩) := by
  unfold zj5
  simp only
  rw [hd]
  simp only [hlen]
  rw [if_pos (by omega),Nat.mul_one,List.drop_zero,List.take_of_length_le (by simp [strCells])]
 have hi : (prog.info? 5).map (fun i => (i.zero,i.size,i.bytes)) = some (some (Value.int .u8 0),1,1) := by kernel_rfl
 unfold evOp
 rw [if_neg (by rw [hop]; simp [isNew])]
 rw [hop]
 simp only
 rw [hq]
 simp only [List.map_cons,List.map_nil]
 rw [hx,hy]
 unfold zj4
 simp only [if_true]
 rw [underlying55]
 simp only
 rw [hi]
 simp only
 rw [hc]
 simp only
 rw [if_pos ⟨by rfl,by omega,by omega,by omega,hkt,hap,by simp [strCells,Value.oneCell']⟩]
 exact h
section
variable {rn : Nat} {all : List Int} {s : AS} {pr : Prim}
theorem apart_new {s : AS} {sl : Value} {l : List UInt8} {k : Nat} (h : RowB s sl l) (hk : s.nx ≤ k) : rowsApart sl (some ⟨k,0,none⟩) = true := by
 rcases h with ⟨rfl,_⟩ | ⟨d,fz,rfl,q,_⟩
 ·
  rfl
 ·
  show (!d.beq k) = true
  cases hb : d.beq k
  ·
   rfl
  ·
   exact absurd (Nat.eq_of_beq_eq_true hb) (by omega)
theorem wrapU32 {c : Nat} (h : c ≤ 1114111) : IntKind.u32.wrap (c : Int) = (c : Int) := by rw [IntKind.wrap_u32]; omega
theorem tl8 {x : Int} {n : Nat} (hn : n < 64) (h : x % 64 = (n : Int)) : bits .or .u8 128 (bits .and .u8 (IntKind.u8.wrap x) 63) = ((UInt8.ofNat (128 + n)).toNat : Int) := by
 rw [tail8,u8n (by omega),h]; omega
theorem hd192 {n : Nat} (hn : n < 32) : bits .or .u8 192 (IntKind.u8.wrap (n : Int)) = ((UInt8.ofNat (192 + n)).toNat : Int) := by
 rw [IntKind.wrap_u8,show (n : Int) % 256 = n by omega,or192 _ (by omega) (by omega),u8n (by omega)]; omega
theorem hd224 {n : Nat} (hn : n < 16) : bits .or .u8 224 (IntKind.u8.wrap (n : Int)) = ((UInt8.ofNat (224 + n)).toNat : Int) := by
 rw [IntKind.wrap_u8,show (n : Int) % 256 = n by omega,or224 _ (by omega) (by omega),u8n (by omega)]; omega
theorem hd240 {n : Nat} (hn : n < 8) : bits .or .u8 240 (IntKind.u8.wrap (n : Int)) = ((UInt8.ofNat (240 + n)).toNat : Int) := by
 rw [IntKind.wrap_u8,show (n : Int) % 256 = n by omega,or240 _ (by omega) (by omega),u8n (by omega)]; omega
theorem bin_lssK {k : IntKind} {i j : Int} {b : Bool} (h : decide (i < j) = b) : evBin .lss (.int k i) (.int k j) = some (.bool b) := by unfold evBin; simp only [if_pos]; rw [h]
theorem bin_gtrK {k : IntKind} {i j : Int} {b : Bool} (h : decide (i > j) = b) : evBin .gtr (.int k i) (.int k j) = some (.bool b) := by unfold evBin; simp only [if_pos]; rw [h]
theorem AppB.of_add {s : AS} {sl : Value} {l m : List UInt8} {o : Obj} {s3 : AS} {w : Value} (h : AppB (s.add o) sl l m s3 w) : AppB s sl l m s3 w := by
 obtain ⟨g,h1,h2,h3,h4,h5⟩ := h
 exact ⟨g,h1,by simp at h2; omega,h3,h4,fun k hk hne => (h5 k (by simp; omega) hne).trans (by rw [AS.get_add,if_neg (by omega)])⟩
def sl346 (sl : Value) (c : Nat) (tb : Bool) (x : Nat → Value) : TL := [sl, .int .i32 (c : Int),x 2,x 3,x 4, .int .u32 (c : Int),x 6,x 7,x 8,x 9,x 10,x 11,x 12,x 13,x 14,x 15,x 16,x 17,x 18,x 19,x 20,x 21,x 22,x 23,x 24, .bool tb,x 26,x 27,x 28,x 29,x 30,x 31,x 32,x 33,x 34,x 35,x 36,x 37,x 38,x 39,x 40,x 41,x 42,x 43,x 44,x 45,x 46,x 47,x 48,x 49,x 50,x 51,x 52,x 53,x 54,x 55,x 56,x 57,x 58,x 59,x 60,x 61,x 62,x 63,x 64,x 65,x 66,x 67,x 68,x 69,x 70,x 71,x 72,x 73,x 74,x 75,x 76,x 77]
theorem append2_e {c : Nat} (hc : VLet c) {sl : Value} {l : List UInt8} (h : RowB s sl l) (hl : l.length ≤ 900000) (h346 : pr 346 = none) : ∃ s', ∃ w,EF prog ktB pr 346 #[sl, .int .i32 (c : Int)] s w s' ∧ AppB s sl l (encL c) s' w := by
 suffices hh : EW prog ktB pr (match Tryz.f346.body with | some c => c | none => .skip) ((#[sl, .int .i32 (c : Int)] : Array Value).toList ++ List.replicate (Tryz.f346.ntmps - (#[sl, .int .i32 (c : Int)] : Array Value).toList.length) undef) s (fun e a' s1 => (e = .normal ∨ e = .ret) ∧ ∃ w,AppB s sl l (encL c) s1 w ∧ evRes prog Tryz.f346 a' s1 = some w) by
  obtain ⟨m,e,a',s1,h1,he,w,h3,h4⟩ := hh
  exact ⟨s1,w,EF.of h346 func346 rfl ⟨m,e,a',s1,h1,he,h4,rfl⟩,h3⟩
 obtain ⟨hc1,hc2⟩ := hc
 refine EW.seq (EW.go 5 (by kernel_rfl) (EW.seq (EW.region (by kernel_rfl) ?_)))
 refine EO.gs 1 5 s (by kernel_rfl) ?_
 refine EO.op (v := .int .u32 (c : Int)) (s1 := s) (by kernel_rfl) ((show _ = some (Value.int .u32 (IntKind.u32.wrap (c : Int)),s) by kernel_rfl).trans (by rw [wrapU32 (by omega)])) (EO.fin 5 (by kernel_rfl) ?_)
 refine EW.asS s (by kernel_rfl) (EW.block ?_)
 refine EW.seq (EW.region (by kernel_rfl) (EO.go 1 5 (by kernel_rfl) ?_))
 by_cases h1 : c < 2048
 ·
  have he : encL c = [UInt8.ofNat (192 + c / 64),UInt8.ofNat (128 + c % 64)] := by unfold encL; rw [if_pos h1]
  rw [he]
  refine EO.op (by kernel_rfl) (zc4 (u := .int .u32 (c : Int)) (w := .int .u32 2047) rfl (by kernel_rfl) (by kernel_rfl) (zk1 (b := true) (decide_eq_true (by omega)))) (EO.fin 5 (by kernel_rfl) ?_)
  refine EW.condT (by kernel_rfl) (EW.seq (EW.region (by kernel_rfl) ?_))
  refine EO.gs 4 5 s (by kernel_rfl) ?_
  refine EO.op (v := .int .u8 ((UInt8.ofNat (192 + c / 64)).toNat : Int)) (s1 := s) (by kernel_rfl) ((show _ = some (Value.int .u8 (bits .or .u8 192 (IntKind.u8.wrap (Int.fdiv (c : Int) (2 ^ 6)))),s) by kernel_rfl).trans (by rw [fdiv_nat,hd192 (by omega)])) (EO.gs 3 5 s (by kernel_rfl) ?_)
  refine EO.op (v := .int .u8 ((UInt8.ofNat (128 + c % 64)).toNat : Int)) (s1 := s) (by kernel_rfl) ((show _ = some (Value.int .u8 (bits .or .u8 128 (bits .and .u8 (IntKind.u8.wrap (c : Int)) 63)),s) by kernel_rfl).trans (by rw [tl8 (n := c % 64) (by omega) (by omega)])) ?_
  generalize UInt8.ofNat (192 + c / 64) = b1
  generalize UInt8.ofNat (128 + c % 64) = b2
  refine EO.gs 1 5 (s.add (.cells (byC [b1,b2]) 5)) (by kernel_rfl) ?_
  obtain ⟨w,s3,q1,q2⟩ := appB (m := [b1,b2]) (h.add (.cells (byC [b1,b2]) 5)) (by simp) (by simp; omega)
  refine EO.op (by kernel_rfl) (op_appB (m := [b1,b2]) (d := s.nx) (k := 2) (sl := sl) rfl (by kernel_rfl) (by kernel_rfl) (by kernel_rfl) (by rw [AS.get_add,if_pos rfl]) (apart_new h (Nat.le_refl _)) (by simp) q1) (EO.fin 5 (by kernel_rfl) ?_)
  exact EW.ret ⟨.inr rfl,w,q2.of_add,by kernel_rfl⟩
 ·
  refine EO.op (by kernel_rfl) (zc4 (u := .int .u32 (c : Int)) (w := .int .u32 2047) rfl (by kernel_rfl) (by kernel_rfl) (zk1 (b := false) (decide_eq_false (by omega)))) (EO.fin 5 (by kernel_rfl) ?_)
  refine EW.condF (by kernel_rfl) ?_
  refine EW.seq (EW.mono (Q := fun e a' s' => e = .normal ∧ s' = s ∧ ∃ x,a' = sl346 sl c (decide (c < 65536)) x) ?_ ?_)
  ·
   refine EW.seq (EW.region (by kernel_rfl) (EO.go 1 5 (by kernel_rfl) ?_))
   rcases hc2 with hc2 | ⟨hc2,hc3⟩
   ·
    rw [decide_eq_true (show c < 65536 by omega)]
    refine EO.op (by kernel_rfl) (zc4 (u := .int .u32 (c : Int)) (w := .int .u32 55296) rfl (by kernel_rfl) (by kernel_rfl) (bin_lssK (b := true) (decide_eq_true (by omega)))) (EO.fin 5 (by kernel_rfl) ?_)
    exact EW.condT (by kernel_rfl) (EW.skip ⟨rfl,by kernel_rfl,fillX (by kernel_rfl)⟩)
   ·
    refine EO.op (by kernel_rfl) (zc4 (u := .int .u32 (c : Int)) (w := .int .u32 55296) rfl (by kernel_rfl) (by kernel_rfl) (bin_lssK (b := false) (decide_eq_false (by omega)))) (EO.fin 5 (by kernel_rfl) ?_)
    refine EW.condF (by kernel_rfl) (EW.region (by kernel_rfl) ?_)
    refine EO.go 1 5 (by kernel_rfl) (EO.op (by kernel_rfl) (zc4 (u := .int .u32 57343) (w := .int .u32 (c : Int)) rfl (by kernel_rfl) (by kernel_rfl) (bin_lssK (b := true) (decide_eq_true (by omega)))) ?_)
    refine EO.go 2 5 (by kernel_rfl) (EO.op (by kernel_rfl) (zc4 (u := .int .u32 (c : Int)) (w := .int .u32 65535) rfl (by kernel_rfl) (by kernel_rfl) (zk1 (b := decide (c < 65536)) (by by_cases h : c < 65536 <;> simp [h] <;> omega))) ?_)
    generalize decide (c < 65536) = tb
    refine EO.fin 5 (by kernel_rfl) ?_
    exact ⟨rfl,by kernel_rfl,fillX (by kernel_rfl)⟩
  rintro e a' s' ⟨rfl,rfl,x,rfl⟩
  by_cases h2 : c < 65536
  ·
   have he : encL c = [UInt8.ofNat (224 + c / 4096),UInt8.ofNat (128 + c / 64 % 64),UInt8.ofNat (128 + c % 64)] := by unfold encL; rw [if_neg h1,if_pos h2]
   rw [he,decide_eq_true h2]
   refine EW.condT (by kernel_rfl) (EW.seq (EW.region (by kernel_rfl) ?_))
   refine EO.gs 4 5 s' (by kernel_rfl) ?_
   refine EO.op (v := .int .u8 ((UInt8.ofNat (224 + c / 4096)).toNat : Int)) (s1 := s') (by kernel_rfl) ((show _ = some (Value.int .u8 (bits .or .u8 224 (IntKind.u8.wrap (Int.fdiv (c : Int) (2 ^ 12)))),s') by kernel_rfl).trans (by rw [fdiv_nat,hd224 (by omega)])) (EO.gs 4 5 s' (by kernel_rfl) ?_)
   refine EO.op (v := .int .u8 ((UInt8.ofNat (128 + c / 64 % 64)).toNat : Int)) (s1 := s') (by kernel_rfl) ((show _ = some (Value.int .u8 (bits .or .u8 128 (bits .and .u8 (IntKind.u8.wrap (Int.fdiv (c : Int) (2 ^ 6))) 63)),s') by kernel_rfl).trans (by rw [fdiv_nat,tl8 (n := c / 64 % 64) (by omega) (by omega)])) (EO.gs 3 5 s' (by kernel_rfl) ?_)
   refine EO.op (v := .int .u8 ((UInt8.ofNat (128 + c % 64)).toNat : Int)) (s1 := s') (by kernel_rfl) ((show _ = some (Value.int .u8 (bits .or .u8 128 (bits .and .u8 (IntKind.u8.wrap (c : Int)) 63)),s') by kernel_rfl).trans (by rw [tl8 (n := c % 64) (by omega) (by omega)])) ?_
   generalize UInt8.ofNat (224 + c / 4096) = b1
   generalize UInt8.ofNat (128 + c / 64 % 64) = b2
   generalize UInt8.ofNat (128 + c % 64) = b3
   refine EO.gs 1 5 (s'.add (.cells (byC [b1,b2,b3]) 5)) (by kernel_rfl) ?_
   obtain ⟨w,s3,q1,q2⟩ := appB (m := [b1,b2,b3]) (h.add (.cells (byC [b1,b2,b3]) 5)) (by simp) (by simp; omega)
   refine EO.op (by kernel_rfl) (op_appB (m := [b1,b2,b3]) (d := s'.nx) (k := 3) (sl := sl) rfl (by kernel_rfl) (by kernel_rfl) (by kernel_rfl) (by rw [AS.get_add,if_pos rfl]) (apart_new h (Nat.le_refl _)) (by simp) q1) (EO.fin 5 (by kernel_rfl) ?_)
   exact EW.ret ⟨.inr rfl,w,q2.of_add,by kernel_rfl⟩
  ·
   have he : encL c = [UInt8.ofNat (240 + c / 262144),UInt8.ofNat (128 + c / 4096 % 64),UInt8.ofNat (128 + c / 64 % 64),UInt8.ofNat (128 + c % 64)] := by unfold encL; rw [if_neg h1,if_neg h2]
   rw [he,decide_eq_false h2]
   refine EW.condF (by kernel_rfl) (EW.seq (EW.region (by kernel_rfl) ?_))
   refine EO.go 1 5 (by kernel_rfl) (EO.op (by kernel_rfl) (zc4 (u := .int .u32 (c : Int)) (w := .int .u32 65535) rfl (by kernel_rfl) (by kernel_rfl) (bin_gtrK (b := true) (decide_eq_true (by omega)))) ?_)
   refine EO.go 2 5 (by kernel_rfl) (EO.op (by kernel_rfl) (zc4 (u := .int .u32 (c : Int)) (w := .int .u32 1114111) rfl (by kernel_rfl) (by kernel_rfl) (zk1 (b := true) (decide_eq_true (by omega)))) ?_)
   refine EO.fin 5 (by kernel_rfl) (EW.condT (by kernel_rfl) ?_)
   refine EW.seq (EW.region (by kernel_rfl) (EO.gs 4 5 s' (by kernel_rfl) ?_))
   refine EO.op (v := .int .u8 ((UInt8.ofNat (240 + c / 262144)).toNat : Int)) (s1 := s') (by kernel_rfl) ((show _ = some (Value.int .u8 (bits .or .u8 240 (IntKind.u8.wrap (Int.fdiv (c : Int) (2 ^ 18)))),s') by kernel_rfl).trans (by rw [fdiv_nat,hd240 (by omega)])) (EO.gs 4 5 s' (by kernel_rfl) ?_)
   refine EO.op (v := .int .u8 ((UInt8.ofNat (128 + c / 4096 % 64)).toNat : Int)) (s1 := s') (by kernel_rfl) ((show _ = some (Value.int .u8 (bits .or .u8 128 (bits .and .u8 (IntKind.u8.wrap (Int.fdiv (c : Int) (2 ^ 12))) 63)),s') by kernel_rfl).trans (by rw [fdiv_nat,tl8 (n := c / 4096 % 64) (by omega) (by omega)])) (EO.gs 4 5 s' (by kernel_rfl) ?_)
   refine EO.op (v := .int .u8 ((UInt8.ofNat (128 + c / 64 % 64)).toNat : Int)) (s1 := s') (by kernel_rfl) ((show _ = some (Value.int .u8 (bits .or .u8 128 (bits .and .u8 (IntKind.u8.wrap (Int.fdiv (c : Int) (2 ^ 6))) 63)),s') by kernel_rfl).trans (by rw [fdiv_nat,tl8 (n := c / 64 % 64) (by omega) (by omega)])) (EO.gs 3 5 s' (by kernel_rfl) ?_)
   refine EO.op (v := .int .u8 ((UInt8.ofNat (128 + c % 64)).toNat : Int)) (s1 := s') (by kernel_rfl) ((show _ = some (Value.int .u8 (bits .or .u8 128 (bits .and .u8 (IntKind.u8.wrap (c : Int)) 63)),s') by kernel_rfl).trans (by rw [tl8 (n := c % 64) (by omega) (by omega)])) ?_
   generalize UInt8.ofNat (240 + c / 262144) = b1
   generalize UInt8.ofNat (128 + c / 4096 % 64) = b2
   generalize UInt8.ofNat (128 + c / 64 % 64) = b3
   generalize UInt8.ofNat (128 + c % 64) = b4
   refine EO.gs 1 5 (s'.add (.cells (byC [b1,b2,b3,b4]) 5)) (by kernel_rfl) ?_
   obtain ⟨w,s3,q1,q2⟩ := appB (m := [b1,b2,b3,b4]) (h.add (.cells (byC [b1,b2,b3,b4]) 5)) (by simp) (by simp; omega)
   refine EO.op (by kernel_rfl) (op_appB (m := [b1,b2,b3,b4]) (d := s'.nx) (k := 4) (sl := sl) rfl (by kernel_rfl) (by kernel_rfl) (by kernel_rfl) (by rw [AS.get_add,if_pos rfl]) (apart_new h (Nat.le_refl _)) (by simp) q1) (EO.fin 5 (by kernel_rfl) ?_)
   exact EW.ret ⟨.inr rfl,w,q2.of_add,by kernel_rfl⟩
theorem writeRuneG {N b : Nat} {l en : List UInt8} {c : Int} (h261 : pr 261 = none) (h180 : pr 180 = none) (h : BW s N b l) (happ : ∀ (s : AS) (sl : Value),RowB s sl l → ∃ s', ∃ w,EF prog ktB pr 275 #[sl, .int .i32 c] s w s' ∧ AppB s sl l en s' w) : ∃ s' v,EF prog ktB pr 180 #[aptr b 0, .int .i32 c] s v s' ∧ BW s' N b (l ++ en) ∧ FrB N s s' := by
 obtain ⟨hN,hb,p,sl,hs,hp,hsl⟩ := h
 obtain ⟨s1,hcp,c1,c2,c3⟩ := copy_e h261 hs hp
 have hrow : RowB s1 sl l := by
  rcases hsl with h | ⟨d,fz,q1,q2,q3,q4,q5⟩
  ·
   exact .inl h
  ·
   exact .inr ⟨d,fz,q1,by omega,(c3 d q4).trans q5⟩
 have hnb : ∀ n k,sl ≠ .slice (some ⟨b,0,none⟩) n k := by
  rintro n k rfl
  rcases hsl with ⟨h,_⟩ | ⟨d,fz,q1,q2,q3,q4,q5⟩
  ·
   cases h
  ·
   cases q1; exact q4 rfl
 have hlow : ∀ k,k < N → ∀ n cc,sl ≠ .slice (some ⟨k,0,none⟩) n cc := by
  rintro k hk n cc rfl
  rcases hsl with ⟨h,_⟩ | ⟨d,fz,q1,q2,q3,q4,q5⟩
  ·
   cases h
  ·
   cases q1; omega
 have hlen : ∃ n cp,sl = .slice (match sl with | .slice a _ _ => a | _ => none) n cp ∧ n = l.length := by
  rcases hsl with ⟨rfl,rfl⟩ | ⟨d,fz,rfl,_⟩
  ·
   exact ⟨0,0,rfl,rfl⟩
  ·
   exact ⟨_,_,rfl,rfl⟩
 obtain ⟨s2,w,hap,g,rfl,g1,g2,g3,g4⟩ := happ s1 sl hrow
 have e5 : s2.get b = some (.cells #[aptr b 0,sl] 119) := (g4 b (by omega) hnb).trans c2
 suffices hh : EW prog ktB pr (match Tryz.f180.body with | some c => c | none => .skip) ((#[aptr b 0, .int .i32 c] : Array Value).toList ++ List.replicate (Tryz.f180.ntmps - (#[aptr b 0, .int .i32 c] : Array Value).toList.length) undef) s (fun e a' s1 => (e = .normal ∨ e = .ret) ∧ s1 = s2.set b (some (.cells #[aptr b 0, .slice (some ⟨g,0,none⟩) (l ++ en).length (l ++ en).length] 119)) ∧ ∃ w,evRes prog Tryz.f180 a' s1 = some w) by
  obtain ⟨m,e,a',s3,h1,he,h2,w,h3⟩ := hh
  refine ⟨s3,w,EF.of h180 func180 rfl ⟨m,e,a',s3,h1,he,h3,rfl⟩,?_,?_⟩
  ·
   rw [h2]
   refine ⟨hN,by simp; omega,_,_,by rw [AS.get_set,if_pos rfl], .inr rfl, .inr ⟨g,(1,1),rfl,by omega,by simpa using g2,by omega,by rw [AS.get_set,if_neg (by omega)]; exact g3⟩⟩
  ·
   rw [h2]
   exact ⟨by simp; omega,fun k hk => by rw [AS.get_set,if_neg (by omega),g4 k (by omega) (hlow k hk),c3 k (by omega)]⟩
 refine EW.seq (EW.go 5 (by kernel_rfl) (EW.seq (EW.region (by kernel_rfl) ?_)))
 refine EO.gc 1 5 (by kernel_rfl) hcp (EO.nil ?_)
 obtain ⟨n,cp,hslv,rfl⟩ := hlen
 generalize hq : (match sl with | .slice a _ _ => a | _ => none) = q at hslv
 clear hq
 subst hslv
 refine EW.seq (EW.region (by kernel_rfl) (EO.gs 3 5 s1 (by kernel_rfl) ?_))
 refine EO.op (by kernel_rfl) (op_ld (b := b) (off := 1) (v := .slice q l.length cp) rfl underlying55 rfl (by kernel_rfl) c2 rfl) (EO.fin 5 (by kernel_rfl) ?_)
 refine EW.asS s1 (by kernel_rfl) (EW.seq (EW.region (by kernel_rfl) ?_))
 refine EO.gs 4 5 s1 (by kernel_rfl) (EO.op (by kernel_rfl) (op_ld (b := b) (off := 1) (v := .slice q l.length cp) rfl underlying55 rfl (by kernel_rfl) c2 rfl) ?_)
 refine EO.gc 1 5 (by kernel_rfl) hap (EO.gs 2 5 s2 (by kernel_rfl) ?_)
 generalize (l ++ en).length = L
 refine EO.op (by kernel_rfl) (op_st (b := b) (off := 1) (w := .slice (some ⟨g,0,none⟩) L L) rfl (by kernel_rfl) (by kernel_rfl) rfl rfl (by kernel_rfl) e5 (by simp)) (EO.nil ?_)
 refine EW.asS (s2.set b (some (.cells #[aptr b 0, .slice (some ⟨g,0,none⟩) L L] 119))) (by kernel_rfl) ?_
 have e6 : (s2.set b (some (.cells #[aptr b 0, .slice (some ⟨g,0,none⟩) L L] 119))).get b = some (.cells #[aptr b 0, .slice (some ⟨g,0,none⟩) L L] 119) := by rw [AS.get_set,if_pos rfl]
 generalize s2.set b (some (.cells #[aptr b 0, .slice (some ⟨g,0,none⟩) L L] 119)) = s4 at e6
 refine EW.seq (EW.region (by kernel_rfl) (EO.gs 3 5 s4 (by kernel_rfl) ?_))
 refine EO.op (by kernel_rfl) (op_ld (b := b) (off := 1) (v := .slice (some ⟨g,0,none⟩) L L) rfl underlying55 rfl (by kernel_rfl) e6 rfl) (EO.fin 5 (by kernel_rfl) ?_)
 exact EW.ret ⟨.inr rfl,by kernel_rfl, .tuple #[.int .i64 (wrapF .i64 ((L : Int) - (l.length : Int))), .nilIface],by kernel_rfl⟩
end
end Go.Proofs.YtgcaionclkbehaaGreatDoor
