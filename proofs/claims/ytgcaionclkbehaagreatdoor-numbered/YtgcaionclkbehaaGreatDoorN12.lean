import Derived.Test.YtgcaionclkbehaaGreatDoorA13
set_option linter.all false
namespace Go.Proofs.YtgcaionclkbehaaGreatDoor
open Tryz
section
open Go.Conc Go.RowKit Go.Lib
section
variable {ι : Type} {P : Program} {KT : TypeId → Prop} {An : Who} {N0 : ι → Nat} {M : ι → World → Nat → Prop} {O : ι → Nat → Prop} {R : ι → World → World → Prop} {D : ι → World → World → Array Event → Prop} {X : ι → Goroutine → World → Prop} {Hd : ι → List (Nat × Obj) → World → Prop} {kt : TypeId → Bool} {pr : Prim}
variable {aA : TL} {s s0 : AS} {Q : Exit → TL → AS → Prop} {c : Code}
theorem WI.rest (s0 : AS) (hg : ∀ b o,s0.get b = some o → s.get b = some o) (hn : s.nx ≤ s0.nx) (h : WI P KT An X Hd c aA s0 Q) : WI P KT An X Hd c aA s Q := by
 intro fn S l fr i w a Q' hS hF hA hd hfr k
 exact h fn S l fr i w a Q' ⟨fun b o hb => hS.live b o (hg b o hb),fun b b' o o' x x' hb hb' => hS.inj b b' o o' x x' (hg b o hb) (hg b' o' hb'),fun b o hb => Nat.lt_of_lt_of_le (hS.lt b o (hg b o hb)) hn,hS.an⟩ hF hA hd (fun b hb => hfr b (by omega)) k
end
section
variable {pr : Prim} {s : AS}
theorem pick12_e {y : Int} (hp : pr 19 = none) (hy : -9223372036854775808 ≤ y ∧ y ≤ 9223372036854775807) : EF prog ktB pr 19 #[num y,num 1200000] s (num ((pickN y 1200000 : Nat) : Int)) s := by
 refine EF.of hp func19 rfl ?_
 refine EW.seq (EW.go 5 (by kernel_rfl) ?_)
 refine EW.seq (EW.seq (EW.region (by kernel_rfl) ?_))
 refine EO.go 1 5 (by kernel_rfl) ?_
 by_cases h : y < 0
 ·
  have hpk : ((-(y + 1)).tmod 1200000 : Int) = ((pickN y 1200000 : Nat) : Int) := by
   unfold pickN
   rw [if_pos h,Int.tmod_eq_emod_of_nonneg (by omega)]
   omega
  refine EO.op (by kernel_rfl) (zc5 (u := num y) (w := num 0) rfl (by kernel_rfl) (by kernel_rfl) (bin_lss (b := true) (decide_eq_true h))) ?_
  refine EO.nil ?_
  refine EW.condT (by kernel_rfl) ?_
  refine EW.region (by kernel_rfl) ?_
  refine EO.go 1 5 (by kernel_rfl) ?_
  refine EO.op (by kernel_rfl) (op_addB (i := y) (j := 1) (r := y + 1) rfl (by kernel_rfl) (by kernel_rfl) rfl (by omega)) ?_
  refine EO.asS s (by kernel_rfl) ?_
  refine EO.op (v := num (-(y + 1))) (s1 := s) (by kernel_rfl) ((show _ = some (num (IntKind.i64.wrap (0 - (y + 1))),s) by kernel_rfl).trans (by rw [wrapS (by omega),Int.zero_sub])) ?_
  refine EO.fin 5 (by kernel_rfl) ?_
  refine EW.seq (EW.region (by kernel_rfl) ?_)
  refine EO.go 2 5 (by kernel_rfl) ?_
  refine EO.asS s (by kernel_rfl) ?_
  refine EO.op (v := num ((pickN y 1200000 : Nat) : Int)) (s1 := s) (by kernel_rfl) ((show _ = some (num ((-(y + 1)).tmod 1200000),s) by kernel_rfl).trans (by rw [hpk])) ?_
  refine EO.fin 5 (by kernel_rfl) ?_
  exact EW.ret ⟨.inr rfl,by kernel_rfl,by kernel_rfl⟩
 ·
  have hpk : (y.tmod 1200000 : Int) = ((pickN y 1200000 : Nat) : Int) := by
   unfold pickN
   rw [if_neg h,Int.tmod_eq_emod_of_nonneg (by omega)]
   omega
  refine EO.op (by kernel_rfl) (zc5 (u := num y) (w := num 0) rfl (by kernel_rfl) (by kernel_rfl) (bin_lss (b := false) (decide_eq_false h))) ?_
  refine EO.nil ?_
  refine EW.condF (by kernel_rfl) (EW.skip ?_)
  refine EW.seq (EW.region (by kernel_rfl) ?_)
  refine EO.go 2 5 (by kernel_rfl) ?_
  refine EO.asS s (by kernel_rfl) ?_
  refine EO.op (v := num ((pickN y 1200000 : Nat) : Int)) (s1 := s) (by kernel_rfl) ((show _ = some (num (y.tmod 1200000),s) by kernel_rfl).trans (by rw [hpk])) ?_
  refine EO.fin 5 (by kernel_rfl) ?_
  exact EW.ret ⟨.inr rfl,by kernel_rfl,by kernel_rfl⟩
end
def dgF (base : Nat) : Nat → Nat → List Nat
 | 0,_ => []
 | f + 1,n => if n = 0 then [] else dgF base f (n / base) ++ [n % base]
theorem dgF_zero (base f : Nat) : dgF base f 0 = [] := by cases f <;> simp [dgF]
theorem dgF_step (base f : Nat) {n : Nat} (h : 0 < n) : dgF base (f + 1) n = dgF base f (n / base) ++ [n % base] := by simp only [dgF]; rw [if_neg (by omega)]
theorem dgF_ok {base : Nat} (hb : 0 < base) : ∀ (f n : Nat),n < base ^ f → valD base (dgF base f n) = n ∧ (∀ d ∈ dgF base f n,d < base) ∧ (dgF base f n).length ≤ f
 | 0,n,h => by simp at h; subst h; exact ⟨rfl,by intro d hd; simp [dgF] at hd,by simp [dgF]⟩
 | f + 1,n,h => by
  by_cases hn : n = 0
  ·
   subst hn; rw [dgF_zero]; exact ⟨rfl,by intro d hd; simp at hd,by simp⟩
  ·
   have hlt : n / base < base ^ f := by rw [Nat.pow_succ] at h; exact Nat.div_lt_of_lt_mul (by rw [Nat.mul_comm]; exact h)
   obtain ⟨h1,h2,h3⟩ := dgF_ok hb f (n / base) hlt
   rw [dgF_step base f (by omega)]
   refine ⟨?_,?_,by simp; omega⟩
   ·
    rw [valD_snoc,h1,Nat.mul_comm]; exact Nat.div_add_mod n base
   ·
    intro d hd
    rcases List.mem_append.1 hd with hd | hd
    ·
     exact h2 d hd
    ·
     rw [List.mem_singleton.1 hd]; exact Nat.mod_lt _ hb
theorem numP_of {nn : Nat} (cap semi : Bool) (h1 : 160 ≤ nn) (h2 : nn < 1200160) : NumP cap semi (dgF 10 8 nn) (dgF 16 8 nn) nn := by
 obtain ⟨a1,a2,a3⟩ := dgF_ok (base := 10) (by omega) 8 nn (by omega)
 obtain ⟨b1,b2,b3⟩ := dgF_ok (base := 16) (by omega) 8 nn (by omega)
 exact ⟨a2,b2,fun h => by rw [h] at a1; simp [valD] at a1; omega,fun h => by rw [h] at b1; simp [valD] at b1; omega,a3,b3,a1,b1,h1⟩
structure DigI (base nn k : Nat) (acc : List Nat) : Prop where
 len : acc.length ≤ 8
 eq : dgF base 8 nn = dgF base (8 - acc.length) k ++ acc
 lt : k < base ^ (8 - acc.length)
 le : k ≤ nn
 dig : ∀ d ∈ acc,d < base
theorem DigI.start {base nn : Nat} (h : nn < base ^ 8) : DigI base nn nn [] := ⟨by simp,by simp,by simpa using h,Nat.le_refl _,by intro d hd; simp at hd⟩
theorem DigI.len7 {base nn k : Nat} {acc : List Nat} (h : DigI base nn k acc) (hk : 0 < k) : acc.length ≤ 7 := by
 have := h.len
 by_cases h8 : acc.length = 8
 ·
  have := h.lt
  rw [h8] at this
  simp at this
  omega
 ·
  omega
theorem DigI.step {base nn k : Nat} {acc : List Nat} (hb : 0 < base) (h : DigI base nn k acc) (hk : 0 < k) : DigI base nn (k / base) (k % base :: acc) := by
 have h7 := h.len7 hk
 obtain ⟨f,hf⟩ : ∃ f,8 - acc.length = f + 1 := ⟨7 - acc.length,by omega⟩
 have hf2 : 8 - (k % base :: acc).length = f := by simp; omega
 refine ⟨by simp; omega,?_,?_,Nat.le_trans (Nat.div_le_self _ _) h.le,?_⟩
 ·
  rw [hf2,h.eq,hf,dgF_step base f hk,List.append_assoc]; rfl
 ·
  rw [hf2]
  have := h.lt
  rw [hf,Nat.pow_succ] at this
  exact Nat.div_lt_of_lt_mul (by rw [Nat.mul_comm]; exact this)
 ·
  intro d hd
  rcases List.mem_cons.1 hd with rfl | hd
  ·
   exact Nat.mod_lt _ hb
  ·
   exact h.dig d hd
theorem DigI.fin {base nn : Nat} {acc : List Nat} (h : DigI base nn 0 acc) : acc = dgF base 8 nn := by rw [h.eq,dgF_zero]; rfl
theorem encU {nn : Nat} (h : VLet nn) : Utf8.encode ((nn : Nat) : Int) = ⟨(encL nn).toArray⟩ := by
 obtain ⟨h1,h2⟩ := h
 have hv : Utf8.valid ((nn : Nat) : Int) = true := by
  unfold Utf8.valid
  simp
  omega
 unfold Utf8.encode encL
 simp only [hv,if_true,Int.toNat_natCast]
 rw [if_neg (by omega)]
 split
 ·
  simp
 ·
  split <;> simp
def tblT (cap : Bool) : List UInt8 := if cap then [48,49,50,51,52,53,54,55,56,57,65,66,67,68,69,70] else [48,49,50,51,52,53,54,55,56,57,97,98,99,100,101,102]
theorem tbl_at : ∀ cap : Bool, ∀ d,d < 16 → ((tblT cap).take (d + 1)).drop d = [digC cap d] := by decide
def endB (semi : Bool) : List UInt8 := if semi then [59] else []
def markT (cap : Bool) : List UInt8 := if cap then [88] else [120]
def slA (nn : Nat) (cap semi : Bool) (ten : List UInt8) (k : Nat) (x : Nat → Value) : TL := [num (nn : Nat), .bool cap, .bool semi,x 3,x 4,x 5,x 6, .bool true,str ten,num (k : Nat),x 10,x 11,x 12,x 13,x 14,x 15,x 16,x 17,x 18,x 19,x 20,x 21,x 22,x 23,x 24,x 25,x 26,x 27,x 28,x 29,x 30,x 31,x 32,x 33,x 34,x 35,x 36,x 37,x 38,x 39,x 40,x 41,x 42,x 43,x 44,x 45,x 46,x 47,x 48,x 49,x 50,x 51,x 52,x 53,x 54,x 55,x 56,x 57,x 58,x 59,x 60,x 61,x 62,x 63,x 64,x 65,x 66,x 67,x 68,x 69,x 70,x 71,x 72,x 73,x 74,x 75,x 76,x 77,x 78,x 79,x 80,x 81,x 82,x 83,x 84,x 85,x 86,x 87,x 88,x 89,x 90,x 91,x 92,x 93,x 94,x 95,x 96,x 97,x 98,x 99,x 100,x 101,x 102,x 103,x 104,x 105,x 106,x 107,x 108,x 109,x 110,x 111,x 112,x 113,x 114,x 115,x 116,x 117,x 118,x 119]
def slB (nn : Nat) (cap semi : Bool) (ten hex : List UInt8) (k : Nat) (x : Nat → Value) : TL := [num (nn : Nat), .bool cap, .bool semi,x 3,x 4,x 5,x 6, .bool true,str ten,x 9,str hex,str (tblT cap),num (k : Nat),x 13,x 14,x 15,x 16,x 17,x 18,x 19,x 20,x 21,x 22,x 23,x 24,x 25,x 26,x 27,x 28,x 29,x 30,x 31,x 32,x 33,x 34,x 35,x 36,x 37,x 38,x 39,x 40,x 41,x 42,x 43,x 44,x 45,x 46,x 47,x 48,x 49,x 50,x 51,x 52,x 53,x 54,x 55,x 56,x 57,x 58,x 59,x 60,x 61,x 62,x 63,x 64,x 65,x 66,x 67,x 68,x 69,x 70,x 71,x 72,x 73,x 74,x 75,x 76,x 77,x 78,x 79,x 80,x 81,x 82,x 83,x 84,x 85,x 86,x 87,x 88,x 89,x 90,x 91,x 92,x 93,x 94,x 95,x 96,x 97,x 98,x 99,x 100,x 101,x 102,x 103,x 104,x 105,x 106,x 107,x 108,x 109,x 110,x 111,x 112,x 113,x 114,x 115,x 116,x 117,x 118,x 119]
def slB' (nn : Nat) (cap semi : Bool) (ten hex : List UInt8) (x : Nat → Value) : TL := [num (nn : Nat), .bool cap, .bool semi,x 3,x 4,x 5,x 6, .bool true,str ten,x 9,str hex,str (tblT cap),x 12,x 13,x 14,x 15,x 16,x 17,x 18,x 19,x 20,x 21,x 22,x 23,x 24,x 25,x 26,x 27,x 28,x 29,x 30,x 31,x 32,x 33,x 34,x 35,x 36,x 37,x 38,x 39,x 40,x 41,x 42,x 43,x 44,x 45,x 46,x 47,x 48,x 49,x 50,x 51,x 52,x 53,x 54,x 55,x 56,x 57,x 58,x 59,x 60,x 61,x 62,x 63,x 64,x 65,x 66,x 67,x 68,x 69,x 70,x 71,x 72,x 73,x 74,x 75,x 76,x 77,x 78,x 79,x 80,x 81,x 82,x 83,x 84,x 85,x 86,x 87,x 88,x 89,x 90,x 91,x 92,x 93,x 94,x 95,x 96,x 97,x 98,x 99,x 100,x 101,x 102,x 103,x 104,x 105,x 106,x 107,x 108,x 109,x 110,x 111,x 112,x 113,x 114,x 115,x 116,x 117,x 118,x 119]
def slC (nn : Nat) (cap semi : Bool) (ten hex en mk : List UInt8) (x : Nat → Value) : TL := [num (nn : Nat), .bool cap, .bool semi,x 3,x 4,x 5,x 6, .bool true,str ten,x 9,str hex,x 11,x 12,str en,str mk,x 15,x 16,x 17,x 18,x 19,x 20,x 21,x 22,x 23,x 24,x 25,x 26,x 27,x 28,x 29,x 30,x 31,x 32,x 33,x 34,x 35,x 36,x 37,x 38,x 39,x 40,x 41,x 42,x 43,x 44,x 45,x 46,x 47,x 48,x 49,x 50,x 51,x 52,x 53,x 54,x 55,x 56,x 57,x 58,x 59,x 60,x 61,x 62,x 63,x 64,x 65,x 66,x 67,x 68,x 69,x 70,x 71,x 72,x 73,x 74,x 75,x 76,x 77,x 78,x 79,x 80,x 81,x 82,x 83,x 84,x 85,x 86,x 87,x 88,x 89,x 90,x 91,x 92,x 93,x 94,x 95,x 96,x 97,x 98,x 99,x 100,x 101,x 102,x 103,x 104,x 105,x 106,x 107,x 108,x 109,x 110,x 111,x 112,x 113,x 114,x 115,x 116,x 117,x 118,x 119]
def slC' (nn : Nat) (cap semi : Bool) (ten hex en : List UInt8) (x : Nat → Value) : TL := [num (nn : Nat), .bool cap, .bool semi,x 3,x 4,x 5,x 6, .bool true,str ten,x 9,str hex,x 11,x 12,str en,x 14,x 15,x 16,x 17,x 18,x 19,x 20,x 21,x 22,x 23,x 24,x 25,x 26,x 27,x 28,x 29,x 30,x 31,x 32,x 33,x 34,x 35,x 36,x 37,x 38,x 39,x 40,x 41,x 42,x 43,x 44,x 45,x 46,x 47,x 48,x 49,x 50,x 51,x 52,x 53,x 54,x 55,x 56,x 57,x 58,x 59,x 60,x 61,x 62,x 63,x 64,x 65,x 66,x 67,x 68,x 69,x 70,x 71,x 72,x 73,x 74,x 75,x 76,x 77,x 78,x 79,x 80,x 81,x 82,x 83,x 84,x 85,x 86,x 87,x 88,x 89,x 90,x 91,x 92,x 93,x 94,x 95,x 96,x 97,x 98,x 99,x 100,x 101,x 102,x 103,x 104,x 105,x 106,x 107,x 108,x 109,x 110,x 111,x 112,x 113,x 114,x 115,x 116,x 117,x 118,x 119]
def slD (nn : Nat) (l e want : Value) (x : Nat → Value) : TL := [num (nn : Nat),x 1,x 2,x 3,x 4,x 5,x 6, .bool true,x 8,x 9,x 10,x 11,x 12,x 13,x 14,l,e,want,x 18,x 19,x 20,x 21,x 22,x 23,x 24,x 25,x 26,x 27,x 28,x 29,x 30,x 31,x 32,x 33,x 34,x 35,x 36,x 37,x 38,x 39,x 40,x 41,x 42,x 43,x 44,x 45,x 46,x 47,x 48,x 49,x 50,x 51,x 52,x 53,x 54,x 55,x 56,x 57,x 58,x 59,x 60,x 61,x 62,x 63,x 64,x 65,x 66,x 67,x 68,x 69,x 70,x 71,x 72,x 73,x 74,x 75,x 76,x 77,x 78,x 79,x 80,x 81,x 82,x 83,x 84,x 85,x 86,x 87,x 88,x 89,x 90,x 91,x 92,x 93,x 94,x 95,x 96,x 97,x 98,x 99,x 100,x 101,x 102,x 103,x 104,x 105,x 106,x 107,x 108,x 109,x 110,x 111,x 112,x 113,x 114,x 115,x 116,x 117,x 118,x 119]
theorem dig10 : ∀ cap : Bool, ∀ d,d < 10 → IntKind.u8.wrap ((48 + d : Nat) : Int) = (((digC cap d).toNat : Nat) : Int) := by decide
section
variable {Post : Value → World → Prop} {Ex : Nat → Prop} {w₀ : World} {An : Who} {pr : Prim}
theorem round11_e (hok : PrimOk prog KTs An (fun _ : Zx => AtRel) (fun j => DZ j.1) (fun j => ZI prog Post 0 j.1) (HdZ Ex w₀) pr) {nn k : Nat} {cap semi : Bool} {ds : List Nat} (hd : ∀ d ∈ ds,d < 10) (hl : ds.length ≤ 7) (hk0 : 0 < k) (hk : k ≤ 1200160) {x : Nat → Value} {s : AS} {Q : Exit → TL → AS → Prop}
  (hq : ∀ x' o,Q .normal (slA nn cap semi ((k % 10 :: ds).map (digC cap)) (k / 10) x') (s.add o)) : ∀ c,(match Tryz.f11.body with | some (.seq _ (.seq _ (.seq _ (.seq _ (.seq (.seq _ (.block _ (.loop c))) _))))) => c | _ => .skip) = c → WI prog KTs An (fun j : Zx => ZI prog Post 0 j.1) (HdZ Ex w₀) c (slA nn cap semi (ds.map (digC cap)) k x) s Q := by
 rintro c rfl
 have hd10 : k % 10 < 10 := Nat.mod_lt _ (by omega)
 have hu := dig10 cap (k % 10) hd10
 have htx : ([digC cap (k % 10)] : List UInt8) ++ ds.map (digC cap) = (k % 10 :: ds).map (digC cap) := rfl
 generalize hT : ds.map (digC cap) = ten at htx
 have htl : ten.length ≤ 7 := by rw [← hT]; simpa using hl
 refine WI.seq cyZ (WI.of cyZ ze1 zg9 hok zg8 (EW.seq (EW.region (by kernel_rfl) ?_)))
 refine EO.go 1 5 (by kernel_rfl) ?_
 refine EO.op (by kernel_rfl) (zc5 (u := num (k : Nat)) (w := num 0) rfl (by kernel_rfl) (by kernel_rfl) (bin_gtr (b := true) (decide_eq_true (by omega)))) ?_
 refine EO.nil ?_
 refine EW.condT (by kernel_rfl) (EW.skip ?_)
 refine WI.asS s (by kernel_rfl) ?_
 refine WI.seq cyZ (WI.block cyZ (WI.region cyZ ?_))
 refine WO.q cyZ zg9 (by kernel_rfl) rfl (by kernel_rfl) (by kernel_rfl) ?_
 refine WO.asS s (by kernel_rfl) ?_
 refine WO.op cyZ zg9 (v := num ((k % 10 : Nat) : Int)) (s1 := s) (by kernel_rfl) rfl (by kernel_rfl) ((show _ = some (num (((k : Nat) : Int).tmod 10),s) by kernel_rfl).trans (by rw [Int.tmod_eq_emod_of_nonneg (by omega),show ((k : Nat) : Int) % 10 = ((k % 10 : Nat) : Int) by omega])) ?_
 refine WO.op cyZ zg9 (by kernel_rfl) rfl (by kernel_rfl) (zf3 (i := 48) (j := ((k % 10 : Nat) : Int)) (r := ((48 + k % 10 : Nat) : Int)) rfl (by kernel_rfl) (by kernel_rfl) (by omega) (by omega)) ?_
 generalize digC cap (k % 10) = ch at hu htx
 refine WO.asS s (by kernel_rfl) ?_
 refine WO.op cyZ zg9 (v := .int .u8 ch.toNat) (s1 := s) (by kernel_rfl) rfl (by kernel_rfl) ((show _ = some (Value.int .u8 (IntKind.u8.wrap ((48 + k % 10 : Nat) : Int)),s) by kernel_rfl).trans (by rw [hu])) ?_
 refine WO.q cyZ zg9 (by kernel_rfl) rfl (by kernel_rfl) (by kernel_rfl) ?_
 refine WO.asS (s.add (.cells #[.int .u8 ch.toNat] 5)) (by kernel_rfl) ?_
 refine WO.bstr cyZ rfl (by kernel_rfl) (nm := s.nx) (c := 1) (b := ch) rfl (by kernel_rfl) (by rw [AS.get_add,if_pos rfl]) underlying55 underlying5 underlying9 ?_
 refine WO.of cyZ ze1 zg9 hok zg8 (by kernel_rfl) (by decide) ?_
 refine EO.go 1 5 (by kernel_rfl) ?_
 refine EO.op (by kernel_rfl) (zk4 (l := [ch]) (m := ten) rfl (by kernel_rfl) (by kernel_rfl) (by simp; omega)) ?_
 refine EO.fin 5 (by kernel_rfl) ?_
 refine WI.asS (s.add (.cells #[.int .u8 ch.toNat] 5)) (by kernel_rfl) ?_
 refine WI.of cyZ ze1 zg9 hok zg8 (EW.region (by kernel_rfl) ?_)
 refine EO.go 1 5 (by kernel_rfl) ?_
 refine EO.asS (s.add (.cells #[.int .u8 ch.toNat] 5)) (by kernel_rfl) ?_
 refine EO.op (v := num ((k / 10 : Nat) : Int)) (s1 := s.add (.cells #[.int .u8 ch.toNat] 5)) (by kernel_rfl) ((show _ = some (num (IntKind.i64.wrap (((k : Nat) : Int).tdiv 10)),s.add (.cells #[.int .u8 ch.toNat] 5)) by kernel_rfl).trans (by rw [Int.tdiv_eq_ediv_of_nonneg (by omega),show ((k : Nat) : Int) / 10 = ((k / 10 : Nat) : Int) by omega,wrapS (by omega)])) ?_
 refine EO.fin 5 (by kernel_rfl) ?_
 rw [← htx] at hq
 exact endQ (slA nn cap semi ([ch] ++ ten) (k / 10)) (s.add (.cells #[.int .u8 ch.toNat] 5)) (by kernel_rfl) (by kernel_rfl) fun x' => hq x' _
theorem tail11_e {nn : Nat} (h160 : 160 ≤ nn) (hnn : nn < 1200160) {cap semi : Bool} (h30 : EF prog ktB pr 30 #[str (pgT cap semi (dgF 10 8 nn) (dgF 16 8 nn))] ⟨sA.hp,64⟩ (.tuple #[.slice (some ⟨85,0,none⟩) 2 2,num 0]) (tk1 (outT nn))) {x : Nat → Value} : ∀ c,(match Tryz.f11.body with | some (.seq _ (.seq _ (.seq _ (.seq _ (.seq _ c))))) => c | _ => .skip) = c → EW prog ktB pr c (slA nn cap semi ((dgF 10 8 nn).map (digC cap)) 0 x) ⟨sA.hp,64⟩ (fun e a' s' => e = .ret ∧ a'.getD 6 undef = .bool true ∧ s'.get 1 = some (.cells entC.toArray 335)) := by
 rintro c rfl
 have hP := numP_of cap semi h160 hnn
 have hl10 := hP.ld
 have hl16 := hP.lh
 generalize hs0 : (⟨sA.hp,64⟩ : AS) = s0 at h30 ⊢
 generalize htn : (dgF 10 8 nn).map (digC cap) = ten
 have htl : ten.length ≤ 8 := by rw [← htn]; simpa using hl10
 iterate 2
  refine EW.seq (EW.go 5 (by kernel_rfl) ?_)
 refine EW.seq (EW.mono (Q := fun e a' s' => e = .normal ∧ s' = s0 ∧ ∃ x,a' = slB' nn cap semi ten [] x) ?_ ?_)
 ·
  cases cap with
  | true =>
   refine EW.seq (EW.go 5 (by kernel_rfl) ?_)
   refine EW.condT (by kernel_rfl) ?_
   refine EW.go 5 (by kernel_rfl) ?_
   exact ⟨rfl,by kernel_rfl,fillX (by kernel_rfl)⟩
  | false =>
   refine EW.seq (EW.go 5 (by kernel_rfl) ?_)
   exact EW.condF (by kernel_rfl) (EW.skip ⟨rfl,by kernel_rfl,fillX (by kernel_rfl)⟩)
 rintro e a' s' ⟨rfl,hss,x,rfl⟩
 obtain rfl : s' = s0 := hss
 have htab := tbl_at cap
 have htbl : (tblT cap).length = 16 := by cases cap <;> rfl
 refine EW.seq (EW.seq (EW.go 5 (by kernel_rfl) ?_))
 refine EW.asS s' (by kernel_rfl) ?_
 refine EW.fill (slB nn cap semi ten [] nn) (by kernel_rfl) ?_
 intro x1
 refine EW.block ?_
 refine EW.mono (EW.loopI (Q := fun e a' s'' => e = .exit 2 ∧ s'' = s' ∧ ∃ x,a' = slB nn cap semi ten ((dgF 16 8 nn).map (digC cap)) 0 x) (fun m a' s'' => s'' = s' ∧ ∃ hs,DigI 16 nn m hs ∧ ∃ x,a' = slB nn cap semi ten (hs.map (digC cap)) m x) ?_ nn _ _ ⟨rfl, [],DigI.start (by omega),x1,rfl⟩) ?_
 ·
  rintro k a' s'' ⟨rfl,hs,hI,x,rfl⟩
  have hkn := hI.le
  by_cases hk : 0 < k
  ·
   have hI' := hI.step (by omega) hk
   have h7 := hI.len7 hk
   have hd16 : k % 16 < 16 := Nat.mod_lt _ (by omega)
   have htx : ([digC cap (k % 16)] : List UInt8) ++ hs.map (digC cap) = (k % 16 :: hs).map (digC cap) := rfl
   have hsub := htab (k % 16) hd16
   generalize hT : hs.map (digC cap) = hx at htx
   have hxl : hx.length ≤ 7 := by rw [← hT]; simpa using h7
   generalize digC cap (k % 16) = ch at hsub htx
   refine EW.seq (EW.seq (EW.region (by kernel_rfl) ?_))
   refine EO.go 1 5 (by kernel_rfl) ?_
   refine EO.op (by kernel_rfl) (zc5 (u := num (k : Nat)) (w := num 0) rfl (by kernel_rfl) (by kernel_rfl) (bin_gtr (b := true) (decide_eq_true (by omega)))) ?_
   refine EO.nil ?_
   refine EW.condT (by kernel_rfl) (EW.skip ?_)
   refine EW.asS s'' (by kernel_rfl) ?_
   refine EW.seq (EW.block ?_)
   have hrem : (((k : Nat) : Int).tmod 16) = ((k % 16 : Nat) : Int) := by rw [Int.tmod_eq_emod_of_nonneg (by omega)]; omega
   refine EW.region (by kernel_rfl) ?_
   refine EO.go 2 5 (by kernel_rfl) ?_
   refine EO.asS s'' (by kernel_rfl) ?_
   refine EO.op (v := num ((k % 16 : Nat) : Int)) (s1 := s'') (by kernel_rfl) ((show _ = some (num (((k : Nat) : Int).tmod 16),s'') by kernel_rfl).trans (by rw [hrem])) ?_
   refine EO.go 1 5 (by kernel_rfl) ?_
   refine EO.asS s'' (by kernel_rfl) ?_
   refine EO.op (v := num ((k % 16 : Nat) : Int)) (s1 := s'') (by kernel_rfl) ((show _ = some (num (((k : Nat) : Int).tmod 16),s'') by kernel_rfl).trans (by rw [hrem])) ?_
   refine EO.op (by kernel_rfl) (zf3 (i := ((k % 16 : Nat) : Int)) (j := 1) (r := ((k % 16 + 1 : Nat) : Int)) rfl (by kernel_rfl) (by kernel_rfl) (by omega) (by omega)) ?_
   refine EO.op (by kernel_rfl) (op_sub (l := tblT cap) (i := ((k % 16 : Nat) : Int).toNat) (j := ((k % 16 + 1 : Nat) : Int).toNat) (m := [ch]) rfl underlying9 (by kernel_rfl) ((show _ = zc9 (tblT cap).length (tblT cap).length (some (num ((k % 16 : Nat) : Int))) (some (num ((k % 16 + 1 : Nat) : Int))) by kernel_rfl).trans (bnd_both (by omega) (by omega) (by omega))) (by rw [Int.toNat_natCast,Int.toNat_natCast]; exact hsub)) ?_
   refine EO.go 1 5 (by kernel_rfl) ?_
   refine EO.op (by kernel_rfl) (zk4 (l := [ch]) (m := hx) rfl (by kernel_rfl) (by kernel_rfl) (by simp; omega)) ?_
   refine EO.fin 5 (by kernel_rfl) ?_
   refine EW.asS s'' (by kernel_rfl) ?_
   refine EW.region (by kernel_rfl) ?_
   refine EO.go 1 5 (by kernel_rfl) ?_
   refine EO.asS s'' (by kernel_rfl) ?_
   refine EO.op (v := num ((k / 16 : Nat) : Int)) (s1 := s'') (by kernel_rfl) ((show _ = some (num (IntKind.i64.wrap (((k : Nat) : Int).tdiv 16)),s'') by kernel_rfl).trans (by rw [Int.tdiv_eq_ediv_of_nonneg (by omega),show ((k : Nat) : Int) / 16 = ((k / 16 : Nat) : Int) by omega,wrapS (by omega)])) ?_
   refine EO.fin 5 (by kernel_rfl) ?_
   refine ⟨k / 16,Nat.div_lt_self hk (by omega),by kernel_rfl,k % 16 :: hs,hI',?_⟩
   rw [← htx]
   exact fillX (by kernel_rfl)
  ·
   obtain rfl : k = 0 := by omega
   have hfin := hI.fin
   subst hfin
   refine EW.seq (EW.seq (EW.region (by kernel_rfl) ?_))
   refine EO.fin 5 (by kernel_rfl) ?_
   refine EW.asS s'' (by kernel_rfl) ?_
   refine EW.condF (by kernel_rfl) (EW.exit ?_)
   exact ⟨rfl,rfl,fillX (by kernel_rfl)⟩
 rintro e a' s'' ⟨rfl,rfl,x,rfl⟩
 have hpg : [38,35] ++ ten ++ endB semi ++ [124,60,97,32,98,61,39,38,35] ++ markT cap ++ (dgF 16 8 nn).map (digC cap) ++ endB semi ++ [124,39,62] = pgT cap semi (dgF 10 8 nn) (dgF 16 8 nn) := by
  rw [← htn]
  cases cap <;> cases semi <;> simp [pgT,pageT,w1T,w2T,numT,ze4,endT,endB,markT]
 rw [← hpg] at h30
 have hel : (endB semi).length ≤ 1 := by cases semi <;> simp [endB]
 have hml : (markT cap).length ≤ 1 := by cases cap <;> simp [markT]
 generalize hhx : (dgF 16 8 nn).map (digC cap) = hx at h30 ⊢
 have hxl : hx.length ≤ 8 := by rw [← hhx]; simpa using hl16
 refine EW.seq (EW.go 5 (by kernel_rfl) ?_)
 refine EW.seq (EW.mono (Q := fun e a' s' => e = .normal ∧ s' = s'' ∧ ∃ x,a' = slC' nn cap semi ten hx (endB semi) x) ?_ ?_)
 ·
  cases semi with
  | true =>
   refine EW.seq (EW.go 5 (by kernel_rfl) ?_)
   refine EW.condT (by kernel_rfl) ?_
   refine EW.go 5 (by kernel_rfl) ?_
   exact ⟨rfl,by kernel_rfl,fillX (by kernel_rfl)⟩
  | false =>
   refine EW.seq (EW.go 5 (by kernel_rfl) ?_)
   exact EW.condF (by kernel_rfl) (EW.skip ⟨rfl,by kernel_rfl,fillX (by kernel_rfl)⟩)
 rintro e a' s' ⟨rfl,hss,x,rfl⟩
 obtain rfl : s' = s'' := hss
 refine EW.seq (EW.go 5 (by kernel_rfl) ?_)
 refine EW.seq (EW.mono (Q := fun e a' s'' => e = .normal ∧ s'' = s' ∧ ∃ x,a' = slC nn cap semi ten hx (endB semi) (markT cap) x) ?_ ?_)
 ·
  cases cap with
  | true =>
   refine EW.seq (EW.go 5 (by kernel_rfl) ?_)
   refine EW.condT (by kernel_rfl) ?_
   refine EW.go 5 (by kernel_rfl) ?_
   exact ⟨rfl,by kernel_rfl,fillX (by kernel_rfl)⟩
  | false =>
   refine EW.seq (EW.go 5 (by kernel_rfl) ?_)
   exact EW.condF (by kernel_rfl) (EW.skip ⟨rfl,by kernel_rfl,fillX (by kernel_rfl)⟩)
 rintro e a' s'' ⟨rfl,hss,x,rfl⟩
 obtain rfl : s'' = s' := hss
 generalize endB semi = en at h30 hel ⊢
 generalize markT cap = mk at h30 hml ⊢
 refine EW.seq (EW.region (by kernel_rfl) ?_)
 refine EO.go 1 5 (by kernel_rfl) ?_
 refine EO.op (by kernel_rfl) (zk4 (l := [38,35]) (m := ten) rfl (by kernel_rfl) (by kernel_rfl) (by simp; omega)) ?_
 refine EO.go 1 5 (by kernel_rfl) ?_
 refine EO.op (by kernel_rfl) (zk4 (l := [38,35] ++ ten) (m := en) rfl (by kernel_rfl) (by kernel_rfl) (by simp; omega)) ?_
 refine EO.op (by kernel_rfl) (zk4 (l := [38,35] ++ ten ++ en) (m := [124,60,97,32,98,61,39,38,35]) rfl (by kernel_rfl) (by kernel_rfl) (by simp; omega)) ?_
 refine EO.go 1 5 (by kernel_rfl) ?_
 refine EO.op (by kernel_rfl) (zk4 (l := [38,35] ++ ten ++ en ++ [124,60,97,32,98,61,39,38,35]) (m := mk) rfl (by kernel_rfl) (by kernel_rfl) (by simp; omega)) ?_
 refine EO.go 1 5 (by kernel_rfl) ?_
 refine EO.op (by kernel_rfl) (zk4 (l := [38,35] ++ ten ++ en ++ [124,60,97,32,98,61,39,38,35] ++ mk) (m := hx) rfl (by kernel_rfl) (by kernel_rfl) (by simp; omega)) ?_
 refine EO.go 1 5 (by kernel_rfl) ?_
 refine EO.op (by kernel_rfl) (zk4 (l := [38,35] ++ ten ++ en ++ [124,60,97,32,98,61,39,38,35] ++ mk ++ hx) (m := en) rfl (by kernel_rfl) (by kernel_rfl) (by simp; omega)) ?_
 refine EO.op (by kernel_rfl) (zk4 (l := [38,35] ++ ten ++ en ++ [124,60,97,32,98,61,39,38,35] ++ mk ++ hx ++ en) (m := [124,39,62]) rfl (by kernel_rfl) (by kernel_rfl) (by simp; omega)) ?_
 generalize [38,35] ++ ten ++ en ++ [124,60,97,32,98,61,39,38,35] ++ mk ++ hx ++ en ++ [124,39,62] = T at h30 ⊢
 refine EO.asS s'' (by kernel_rfl) ?_
 refine EO.callF #[str T] (by kernel_rfl) rfl rfl (by kernel_rfl) (by kernel_rfl) h30 ?_
 refine EO.fin 5 (by kernel_rfl) ?_
 refine EW.asS (tk1 (outT nn)) (by kernel_rfl) ?_
 refine EW.seq (EW.go 5 (by kernel_rfl) ?_)
 refine EW.asS (tk1 (outT nn)) (by kernel_rfl) ?_
 refine EW.fill (slD nn (.slice (some ⟨85,0,none⟩) 2 2) (num 0) (str [239,191,189])) (by kernel_rfl) ?_
 intro x2
 unfold outT
 refine EW.seq (EW.mono (Q := fun e a' s' => e = .normal ∧ s' = tk1 (encL (letN (min nn 1114112)) ++ [124]) ∧ ∃ x,a' = slD nn (.slice (some ⟨85,0,none⟩) 2 2) (num 0) (str (encL (letN (min nn 1114112)))) x) ?_ ?_)
 ·
  have hgood : (nn < 55296 ∨ (57343 < nn ∧ nn < 1114112)) → letN (min nn 1114112) = nn := by
   intro h
   rw [show min nn 1114112 = nn by omega]
   unfold letN
   rw [if_pos h]
  have hbad : ¬ (nn < 55296 ∨ (57343 < nn ∧ nn < 1114112)) → encL (letN (min nn 1114112)) = [239,191,189] := by
   intro h
   have : letN (min nn 1114112) = 65533 := by
    unfold letN
    rw [if_neg (by omega)]
   rw [this]
   decide
  have key : (nn < 55296 ∨ (57343 < nn ∧ nn < 1114112)) → ∀ x2 : Nat → Value,EW prog ktB pr (match Tryz.f11.body with | some (.seq _ (.seq _ (.seq _ (.seq _ (.seq _ (.seq _ (.seq _ (.seq _ (.seq _ (.seq _ (.seq _ (.seq _ (.seq _ (.seq _ (.seq _ (.seq (.seq _ (.cond _ c _)) _)))))))))))))))) => c | _ => .skip) (slD nn (.slice (some ⟨85,0,none⟩) 2 2) (num 0) (str [239,191,189]) x2) (tk1 (encL (letN (min nn 1114112)) ++ [124])) (fun e a' s' => e = .normal ∧ s' = tk1 (encL (letN (min nn 1114112)) ++ [124]) ∧ ∃ x,a' = slD nn (.slice (some ⟨85,0,none⟩) 2 2) (num 0) (str (encL (letN (min nn 1114112)))) x) := by
   intro h x2
   rw [hgood h]
   have henc := encU (nn := nn) ⟨by omega,by omega⟩
   generalize tk1 (encL nn ++ [124]) = st
   refine EW.region (by kernel_rfl) ?_
   refine EO.go 1 5 (by kernel_rfl) ?_
   refine EO.asS st (by kernel_rfl) ?_
   refine EO.op (v := .int .i32 (nn : Int)) (s1 := st) (by kernel_rfl) ((show _ = some (Value.int .i32 (wrapF .i32 (nn : Int)),st) by kernel_rfl).trans (by rw [show wrapF .i32 (nn : Int) = (nn : Int) from by unfold wrapF; simp only; rw [if_pos (by omega)]])) ?_
   refine EO.asS st (by kernel_rfl) ?_
   refine EO.op (v := str (encL nn)) (s1 := st) (by kernel_rfl) ((show _ = some (Value.string (Utf8.encode (nn : Int)),st) by kernel_rfl).trans (by rw [henc])) ?_
   generalize encL nn = wn
   refine EO.fin 5 (by kernel_rfl) ?_
   exact ⟨rfl,by kernel_rfl,fillX (by kernel_rfl)⟩
  refine EW.seq (EW.region (by kernel_rfl) ?_)
  refine EO.go 1 5 (by kernel_rfl) ?_
  by_cases h1 : nn < 55296
  ·
   have hk := key (.inl h1)
   generalize hw : encL (letN (min nn 1114112)) = wn at hk ⊢
   generalize tk1 (wn ++ [124]) = st at hk ⊢
   refine EO.op (by kernel_rfl) (zc5 (u := num (nn : Nat)) (w := num 55296) rfl (by kernel_rfl) (by kernel_rfl) (bin_lss (b := true) (decide_eq_true (by omega)))) ?_
   refine EO.fin 5 (by kernel_rfl) ?_
   refine EW.asS st (by kernel_rfl) ?_
   refine EW.condT (by kernel_rfl) ?_
   refine EW.fill (slD nn (.slice (some ⟨85,0,none⟩) 2 2) (num 0) (str [239,191,189])) (by kernel_rfl) ?_
   exact hk
  ·
   refine EO.op (by kernel_rfl) (zc5 (u := num (nn : Nat)) (w := num 55296) rfl (by kernel_rfl) (by kernel_rfl) (bin_lss (b := false) (decide_eq_false (by omega)))) ?_
   refine EO.go 2 5 (by kernel_rfl) ?_
   by_cases h2 : 57343 < nn
   ·
    refine EO.op (by kernel_rfl) (zc5 (u := num (nn : Nat)) (w := num 57343) rfl (by kernel_rfl) (by kernel_rfl) (bin_gtr (b := true) (decide_eq_true (by omega)))) ?_
    refine EO.go 2 5 (by kernel_rfl) ?_
    by_cases h3 : nn < 1114112
    ·
     have hk := key (.inr ⟨h2,h3⟩)
     generalize hw : encL (letN (min nn 1114112)) = wn at hk ⊢
     generalize tk1 (wn ++ [124]) = st at hk ⊢
     refine EO.op (by kernel_rfl) (zc5 (u := num (nn : Nat)) (w := num 1114112) rfl (by kernel_rfl) (by kernel_rfl) (bin_lss (b := true) (decide_eq_true (by omega)))) ?_
     refine EO.fin 5 (by kernel_rfl) ?_
     refine EW.asS st (by kernel_rfl) ?_
     refine EW.condT (by kernel_rfl) ?_
     refine EW.fill (slD nn (.slice (some ⟨85,0,none⟩) 2 2) (num 0) (str [239,191,189])) (by kernel_rfl) ?_
     exact hk
    ·
     rw [hbad (by omega)]
     refine EO.op (by kernel_rfl) (zc5 (u := num (nn : Nat)) (w := num 1114112) rfl (by kernel_rfl) (by kernel_rfl) (bin_lss (b := false) (decide_eq_false (by omega)))) ?_
     refine EO.fin 5 (by kernel_rfl) ?_
     exact EW.condF (by kernel_rfl) (EW.skip ⟨rfl,by kernel_rfl,fillX (by kernel_rfl)⟩)
   ·
    rw [hbad (by omega)]
    refine EO.op (by kernel_rfl) (zc5 (u := num (nn : Nat)) (w := num 57343) rfl (by kernel_rfl) (by kernel_rfl) (bin_gtr (b := false) (decide_eq_false (by omega)))) ?_
    refine EO.fin 5 (by kernel_rfl) ?_
    exact EW.condF (by kernel_rfl) (EW.skip ⟨rfl,by kernel_rfl,fillX (by kernel_rfl)⟩)
 rintro e a' s' ⟨rfl,rfl,x,rfl⟩
 have hwl : (encL (letN (min nn 1114112))).length ≤ 4 := by unfold encL; split <;> (try split) <;> simp
 generalize encL (letN (min nn 1114112)) = wn at hwl ⊢
 have hbe : beqL (wn ++ [124]) (wn ++ [124]) = true := (beqL_iff _ _).2 rfl
 generalize hwb : wn ++ [124] = wb at hbe
 refine EW.seq (EW.region (by kernel_rfl) ?_)
 refine EO.go 16 5 (by kernel_rfl) ?_
 refine EO.op (by kernel_rfl) (zk4 (l := wn) (m := [124]) rfl (by kernel_rfl) (by kernel_rfl) (by simp; omega)) ?_
 rw [hwb]
 refine EO.op (by kernel_rfl) (zc5 (u := str wb) (w := str wb) rfl (by kernel_rfl) (by kernel_rfl) (bin_eqS hbe)) ?_
 refine EO.go 18 5 (by kernel_rfl) ?_
 refine EO.op (by kernel_rfl) (zk4 (l := wn) (m := [124]) rfl (by kernel_rfl) (by kernel_rfl) (by simp; omega)) ?_
 rw [hwb]
 refine EO.op (by kernel_rfl) (zc5 (u := str wb) (w := str wb) rfl (by kernel_rfl) (by kernel_rfl) (bin_eqS hbe)) ?_
 refine EO.fin 5 (by kernel_rfl) ?_
 exact EW.ret ⟨rfl,by kernel_rfl,by kernel_rfl⟩
end
end
section
open Go.Conc Go.RowKit
structure Ext (w w' : World) : Prop where
 tape : w'.tape = w.tape
 os : w'.os = w.os
 output : w'.output = w.output
 size : w.heap.size ≤ w'.heap.size
 block : ∀ b,b < w.heap.size → w'.heap[b]? = w.heap[b]?
end
section
open Go.Conc Go.RowKit
section
variable {P : Program} {Post : Value → World → Prop} {b : Frame} {a : Act} {w : World}
theorem stepG_done {fn : Func} {todo : List Item} {v : Value} (hn : b.kind = .normal) (hd : a.defers = []) (hf : P.funcs[b.fn]? = some fn) (hi : P.inits.idxOf? b.fn = none) (hr : (results fn a.tmps).run P w = .ok v w) (he : (results fn a.tmps).events P w #[] = #[]) :
  stepG P true (G { b.at a todo with mode := .returning } []) w = .ended (.done v) w #[] := by
 simp [G,stepG,unwind,doReturn,Frame.at,hn,hd,hf,hi,hr,he,seen,GStep.after]
theorem ends_of_calls {f : FuncId} {args : Array Value} {Q : Value → World → Prop} (hi : P.inits.idxOf? f = none) (hQ : ∀ v w' e,Q v w' → Post v (w'.at e)) (h : CallsI P (ZI P Post 0) f args (fun _ => False) w (fun _ v w' => Q v w')) : Ends P Post (solo (G (Frame.enter P f args .normal) []) w) #[] := by
 have C : ClosedI P true (fun _ : Nat → Prop => AtRel) DZ (ZI P Post 0) := ZI.closed
 have T : ∀ S,Terms AtRel (DZ S) := termsS
 obtain ⟨f₀,c,hf,_,hb,hw⟩ := h
 have hleave : ∀ (S' : Nat → Prop) (a' : Act) (w' : World) (todo : List Item),(a'.defers = [] ∧ ∃ v,ResultsC P f₀ a'.tmps v ∧ Q v w') → ZI P Post 0 S' (G { (base f).at a' todo with mode := .returning } []) w' := by
  rintro S' a' w' todo ⟨hd,v,hr,hq⟩
  exact ZI.done rfl (fun e => stepG_done (b := base f) rfl hd hf hi (hr _).1 (hr _).2) (fun e => hQ v w' e hq)
 have hz : ZI P Post 0 (fun _ => False) (G ((base f).at { tmps := args ++ Array.replicate (f₀.ntmps - args.size) undef,defers := [] } [.code c]) []) w := by
  refine hw (base f) [] [] rfl (by simp [base]) fun S' e a' w' q => ?_
  obtain ⟨he,q⟩ := q
  rcases he with rfl | rfl
  ·
   exact C.step rfl fun w₂ h₂ => by rw [stepG_end]; exact ⟨(T S').idle _,C.rely (hleave S' a' w' [] q) h₂⟩
  ·
   exact fun todo => hleave S' a' w' todo q
 rw [enter_at _ hf hb,solo_eq_crowd]
 have hp := past_nil
 have := hz 0 w.drawn (fun _ => False) #[G ((base f).at { tmps := args ++ Array.replicate (f₀.ntmps - args.size) undef,defers := [] } [.code c]) []] (fun _ => 0) #[] none (fun l hl => hl.elim)
  ⟨rfl,leavers_one _ _,hp.clean,hp.known,hp.over,hp.hears⟩
 exact this
end
end
set_option maxRecDepth 100000
section
open Go.Conc Go.RowKit Go.Lib
theorem entN_size : entC.toArray.size = 54 := by kernel_rfl
theorem sizeN335 : sizeT prog 335 = some 54 := by kernel_rfl
section
variable {Post : Value → World → Prop} {Ex : Nat → Prop} {w₀ : World} {An : Who} {pr : Prim}
theorem law11_e (hok : PrimOk prog KTs An (fun _ : Zx => AtRel) (fun j => DZ j.1) (fun j => ZI prog Post 0 j.1) (HdZ Ex w₀) pr) (h15 : EF prog ktB pr 15 #[] sA (.bool true) sA) (h19 : pr 19 = none) {y : Int} (hy : -9223372036854775808 ≤ y ∧ y ≤ 9223372036854775807) {cap semi : Bool} {nn : Nat} (hnn : nn = 160 + pickN y 1200000)
  (h30 : EF prog ktB pr 30 #[str (pgT cap semi (dgF 10 8 nn) (dgF 16 8 nn))] ⟨sA.hp,64⟩ (.tuple #[.slice (some ⟨85,0,none⟩) 2 2,num 0]) (tk1 (outT nn))) :
  ∀ c,(match Tryz.f11.body with | some c => c | _ => .skip) = c → WI prog KTs An (fun j : Zx => ZI prog Post 0 j.1) (HdZ Ex w₀) c ([num y, .bool cap, .bool semi] ++ List.replicate 117 undef) sA (fun e a' s' => e = .ret ∧ a'.getD 6 undef = .bool true ∧ s'.get 1 = some (.cells entC.toArray 335)) := by
 rintro c rfl
 have hpk : pickN y 1200000 < 1200000 := pickN_lt y 1200000 (by omega)
 have h19e := pick12_e (pr := pr) (s := sA) h19 hy
 refine WI.seq cyZ (WI.of cyZ ze1 zg9 hok zg8 (EW.go 5 (by kernel_rfl) ?_))
 refine WI.seq cyZ (WI.of cyZ ze1 zg9 hok zg8 (EW.region (by kernel_rfl) ?_))
 refine EO.asS sA (by kernel_rfl) ?_
 refine EO.callF #[] (by kernel_rfl) rfl rfl (by kernel_rfl) (by kernel_rfl) h15 ?_
 refine EO.fin 5 (by kernel_rfl) ?_
 refine WI.asS sA (by kernel_rfl) ?_
 generalize pickN y 1200000 = pk at hpk h19e hnn
 refine WI.seq cyZ (WI.of cyZ ze1 zg9 hok zg8 (EW.region (by kernel_rfl) ?_))
 refine EO.go 1 5 (by kernel_rfl) ?_
 refine EO.asS sA (by kernel_rfl) ?_
 refine EO.callF #[num y,num 1200000] (by kernel_rfl) rfl rfl (by kernel_rfl) (by kernel_rfl) h19e ?_
 refine EO.op (by kernel_rfl) (zf3 (i := 160) (j := ((pk : Nat) : Int)) (r := ((nn : Nat) : Int)) rfl (by kernel_rfl) (by kernel_rfl) (by omega) (by omega)) ?_
 refine EO.fin 5 (by kernel_rfl) ?_
 refine WI.asS sA (by kernel_rfl) ?_
 refine WI.seq cyZ (WI.of cyZ ze1 zg9 hok zg8 (EW.go 5 (by kernel_rfl) ?_))
 refine WI.seq cyZ (WI.seq cyZ (WI.of cyZ ze1 zg9 hok zg8 (EW.go 5 (by kernel_rfl) ?_)))
 refine WI.asS sA (by kernel_rfl) ?_
 refine WI.fill (slA nn cap semi [] nn) (by kernel_rfl) ?_
 intro x0
 refine WI.block cyZ ?_
 refine WI.mono (WI.loopI cyZ (Q := fun e a' s' => e = .exit 0 ∧ s'.get 1 = some (.cells entC.toArray 335) ∧ s'.nx ≤ 40 ∧ ∃ x,a' = slA nn cap semi ((dgF 10 8 nn).map (digC cap)) 0 x) (fun m a' s' => ∃ ds,DigI 10 nn m ds ∧ s'.get 1 = some (.cells entC.toArray 335) ∧ s'.nx = 32 + ds.length ∧ ∃ x,a' = slA nn cap semi (ds.map (digC cap)) m x) ?_ nn _ _ ⟨[],DigI.start (by omega),by kernel_rfl,by kernel_rfl,x0,rfl⟩) ?_
 ·
  rintro k a' s' ⟨ds,hI,hg,hnx,x,rfl⟩
  have hkn := hI.le
  by_cases hk : 0 < k
  ·
   refine round11_e hok hI.dig (hI.len7 hk) hk (by omega) (fun x' o => ?_) _ rfl
   refine ⟨k / 10,Nat.div_lt_self hk (by omega),k % 10 :: ds,hI.step (by omega) hk,by rw [AS.get_add,if_neg (by omega)]; exact hg,by simp [hnx]; omega,x',rfl⟩
  ·
   obtain rfl : k = 0 := by omega
   have hfin := hI.fin
   have hlen := hI.len
   subst hfin
   refine WI.seq cyZ (WI.of cyZ ze1 zg9 hok zg8 (EW.seq (EW.region (by kernel_rfl) ?_)))
   refine EO.fin 5 (by kernel_rfl) ?_
   refine EW.asS s' (by kernel_rfl) ?_
   refine EW.condF (by kernel_rfl) (EW.exit ?_)
   exact ⟨rfl,hg,by omega,fillX (by kernel_rfl)⟩
 ·
  rintro e a' s' ⟨rfl,hg,hnx,x,rfl⟩
  refine WI.rest ⟨sA.hp,64⟩ (fun b o hb => ?_) (by show s'.nx ≤ 64; omega) (WI.of cyZ ze1 zg9 hok zg8 (tail11_e (by omega) (by omega) h30 _ rfl))
  have hb' : sA.get b = some o := hb
  rw [sA_get] at hb'
  split at hb'
  ·
   next e => cases hb'; rw [e]; exact hg
  ·
   cases hb'
end
section
variable {Post : Value → World → Prop}
theorem good_lets {l : List UInt8} (h : Asc l) : ∀ r ∈ lets l,Good r := by
 intro r hr
 obtain ⟨b,hb,rfl⟩ := List.mem_map.1 hr
 have := h b hb
 exact .inl ⟨by omega,by omega⟩
theorem numbered_x {W : World} (hG : W.heap[1]? = some (.cells entC.toArray 335)) {y : Int} (hy : -9223372036854775808 ≤ y ∧ y ≤ 9223372036854775807) {cap semi : Bool} :
  CallsI prog (ZI prog Post 0) 11 #[num y, .bool cap, .bool semi] (fun _ => False) W (fun _ x w' => x = .bool true ∧ Ext W w') := by
 have h1W : 1 < W.heap.size := (Array.getElem?_eq_some_iff.1 hG).1
 obtain ⟨An,hA1,hAk⟩ : ∃ An : Who,An 1 = some (1,54,54) ∧ (∀ b,32 ≤ b → An b = none) := by
  refine ⟨fun b => if b = 1 then some (1,54,54) else none,rfl,fun b hb => ?_⟩
  show (if b = 1 then _ else _) = _
  rw [if_neg (by omega)]
 obtain ⟨n0,okA⟩ := prAw_ok (Post := Post) (Ex := fun b => b = 1) (w₀ := W) hA1 hAk
 have hpk : pickN y 1200000 < 1200000 := pickN_lt y 1200000 (by omega)
 obtain ⟨nn,hnn⟩ : ∃ nn,nn = 160 + pickN y 1200000 := ⟨_,rfl⟩
 have hP := numP_of (nn := nn) cap semi (by omega) (by omega)
 obtain ⟨n,n1,hT⟩ := tokens_e hP
 have l1 := w1_len (cap := cap) (semi := semi) hP.ld
 have l2 := w2_len (cap := cap) (semi := semi) hP.lh
 have hdl : 0 < (dgF 10 8 nn).length := List.length_pos_iff.2 hP.nd
 have hhl : 0 < (dgF 16 8 nn).length := List.length_pos_iff.2 hP.nh
 have hlen : (pgT cap semi (dgF 10 8 nn) (dgF 16 8 nn)).length = (w1T cap semi (dgF 10 8 nn)).length + (w2T cap semi (dgF 16 8 nn)).length + 8 := pageT_len _ _
 have m1 := numT_ok (hex := false) (cap := cap) (semi := semi) (ds := dgF 10 8 nn) (fun d hd => by have := hP.hd d hd; omega)
 have m2 := numT_ok (hex := true) (cap := cap) (semi := semi) (ds := dgF 16 8 nn) hP.hh
 have hasc : Asc (pgT cap semi (dgF 10 8 nn) (dgF 16 8 nn)) := by
  intro b hb
  simp only [pgT,pageT,List.mem_append] at hb
  rcases hb with hb | hb | hb | hb
  ·
   exact (m1 b hb).1
  ·
   simp only [List.mem_cons,List.not_mem_nil,or_false] at hb
   rcases hb with rfl | rfl | rfl | rfl | rfl | rfl <;> decide
  ·
   exact (m2 b hb).1
  ·
   simp only [List.mem_cons,List.not_mem_nil,or_false] at hb
   rcases hb with rfl | rfl <;> decide
 have hround := round_asc hasc (pgT cap semi (dgF 10 8 nn) (dgF 16 8 nn)).length 0 (by omega)
 rw [List.drop_zero] at hround
 have okT := prTx_ok (Post := Post) (Ex := fun b => b = 1) (w₀ := W) hA1 hAk (n := n) (r0 := 65) (by omega) (sel := fun s => s.only [1,64,79,85]) (only_ok _) (prN_ext (n := n1) (vT_ok hP)) (by simp only [ByteArray.size,List.size_toArray]; omega) hround (good_lets hasc) (by unfold lets; rw [List.length_map]; omega) okA
 have h30 := hT (prAw prog n0) (by kernel_rfl)
 generalize hst : (⟨(pgT cap semi (dgF 10 8 nn) (dgF 16 8 nn)).toArray⟩ : ByteArray) = stt at okT h30
 generalize hprN : prN prog n1 65 (vT cap semi (dgF 10 8 nn) (dgF 16 8 nn) nn) (lets (pgT cap semi (dgF 10 8 nn) (dgF 16 8 nn))) = prx at okT h30
 have h15 : EF prog ktB (prTx prog n 65 stt (fun s => s.only [1,64,79,85]) prx (prAw prog n0)) 15 #[] sA (.bool true) sA := EF.eval 1 (by kernel_rfl)
 have hold : ∀ b,b < W.heap.size → b ≠ 1 → ∀ j l w,HdZ (fun b => b = 1) W j l w → mineZ j.1 w b ∧ w.heap[b]? = W.heap[b]? := by
  intro b hb hb1 j l w hF
  have hm : mineZ j.1 W b := ⟨hb,fun hj => by have := hF.1.2 b hj; omega⟩
  exact ⟨hF.2.kept.mine b hm,hF.2.kept.block b hm hb1⟩
 have hlaw := law11_e (Post := Post) (Ex := fun b => b = 1) (w₀ := W) okT h15 (by kernel_rfl) hy hnn h30
 obtain ⟨cd,hcd⟩ : ∃ c,Tryz.f11.body = some c := ⟨_,rfl⟩
 have hlaw := hlaw cd (by rw [hcd])
 have hSim : Sim prog KTs An An sA [(1, .cells entC.toArray 335)] := by
  refine ⟨fun b o hb => ?_,fun b b' o o' x x' hb hb' _ _ _ => ?_,fun b o hb => ?_,Who.le_refl An⟩
  ·
   rw [sA_get] at hb
   split at hb
   ·
    next e =>
    subst e
    cases hb
    refine ⟨1,54,54,_,hA1,by simp,⟨entC.toArray,rfl,entN_size,⟨by rw [entN_size]; exact Nat.le_refl _,fun _ => entN_size⟩,fun i x y hx hy => ?_⟩,fun cs t fz h => ?_⟩
    ·
     rw [hx] at hy
     cases hy
     have := entC_sc
     rw [List.all_eq_true] at this
     exact VR.of_sc (this x (by simpa using Array.mem_of_getElem? hx))
    ·
     cases h
     exact ⟨sizeN335,zg9 335 rfl⟩
   ·
    cases hb
  ·
   rw [sA_get] at hb hb'
   split at hb
   ·
    next e =>
    split at hb'
    ·
     next e' => rw [e,e']
    ·
     cases hb'
   ·
    cases hb
  ·
   rw [sA_get] at hb
   split at hb
   ·
    next e => subst e; decide
   ·
    cases hb
 have hHd : HdZ (fun b => b = 1) W ((fun _ => False),W.heap.size) ([(1, .cells entC.toArray 335)] ++ []) W := by
  refine ⟨⟨fun b h => h.elim,fun b h => h.elim⟩,Kept.refl W,Nat.le_refl _,fun b o hm => ?_,by simp⟩
  simp only [List.append_nil,List.mem_singleton,Prod.mk.injEq] at hm
  obtain ⟨rfl,rfl⟩ := hm
  exact ⟨⟨h1W,fun h => h⟩,hG, .inl rfl⟩
 refine ⟨Tryz.f11,cd,func11,by rfl,hcd,?_⟩
 intro b k cs hb hk hc
 have hargs : AR (VR An) (([num y, .bool cap, .bool semi] ++ List.replicate 117 undef : List Value)).toArray (#[num y, .bool cap, .bool semi] ++ Array.replicate (Tryz.f11.ntmps - (#[num y, .bool cap, .bool semi] : Array Value).size) undef) := by
  have e : (([num y, .bool cap, .bool semi] ++ List.replicate 117 undef : List Value)).toArray = #[num y, .bool cap, .bool semi] ++ Array.replicate 117 undef := by
   apply Array.toList_inj.1
   kernel_rfl
  rw [e]
  refine AR.append ⟨rfl,fun i x y hx hy => ?_⟩ (AR.replicate 117 VR.undef)
  match i with
  | 0 => cases hx; cases hy; exact VR.of_sc rfl
  | 1 => cases hx; cases hy; exact VR.of_sc rfl
  | 2 => cases hx; cases hy; exact VR.of_sc rfl
  | i + 3 => simp at hx
 have hend : ∀ (e : Exit) (aA' : TL) (s' : AS) (j : Zx) (S' : Who) (l' : List (Nat × Obj)) (w' : World) (a' : Act),(e = .ret ∧ aA'.getD 6 undef = .bool true ∧ s'.get 1 = some (.cells entC.toArray 335)) → Sim prog KTs An S' s' l' → HdZ (fun b => b = 1) W j (l' ++ []) w' → AR (VR S') aA'.toArray a'.tmps → a'.defers = [] → (∀ b,s'.nx ≤ b → S' b = none) → (e = .normal ∨ e = .ret) ∧ a'.defers = [] ∧ ∃ v,ResultsC prog Tryz.f11 a'.tmps v ∧ v = .bool true ∧ Ext W w' := ?_
 ·
  generalize hact : (⟨#[num y, .bool cap, .bool semi] ++ Array.replicate (Tryz.f11.ntmps - (#[num y, .bool cap, .bool semi] : Array Value).size) undef, []⟩ : Act) = act
  have hargs' : AR (VR An) (([num y, .bool cap, .bool semi] ++ List.replicate 117 undef : List Value)).toArray act.tmps := by rw [← hact]; exact hargs
  have hdef : act.defers = [] := by rw [← hact]
  have hwp := hlaw 11 An [(1, .cells entC.toArray 335)] [] ((fun _ => False),W.heap.size) W act (fun j e a' w' => (e = .normal ∨ e = .ret) ∧ a'.defers = [] ∧ ∃ v,ResultsC prog Tryz.f11 a'.tmps v ∧ v = .bool true ∧ Ext W w') hSim hHd hargs' hdef hAk hend
  refine hwp b k cs hb hk ?_
  intro j e a' w' hQ
  have := hc j.1 e a' w' hQ
  cases e <;> exact this
 ·
  rintro e aA' s' j S' l' w' a' ⟨rfl,h6,hg1⟩ q3 q4 q5 q6 q7
  refine ⟨.inr rfl,q6,_,resultsC_tmp (by rfl) _,?_,?_⟩
  ·
   have := getD_rel q5 6
   rw [show aA'.toArray.toList.getD 6 undef = .bool true from h6] at this
   exact this.sc rfl
  ·
   rw [List.append_nil] at q4
   refine ⟨q4.2.kept.tape,q4.2.kept.os,q4.2.kept.output,q4.2.kept.grow,fun b hb => ?_⟩
   by_cases hb1 : b = 1
   ·
    subst hb1
    obtain ⟨g,z,e,o',r1,r2,r3,_⟩ := q3.live 1 _ hg1
    rw [q3.an _ _ hA1] at r1
    cases r1
    obtain ⟨cs',rfl,t1,_,t3⟩ := r3
    have hcs : cs' = entC.toArray := by
     refine AR.sc (S := S') ⟨by rw [entN_size,t1],t3⟩ ?_
     exact entC_sc
    subst hcs
    rw [(q4.2.own 1 _ r2).2.1,hG]
   ·
    exact (hold b hb hb1 j _ w' q4).2
end
end
end Go.Proofs.YtgcaionclkbehaaGreatDoor
