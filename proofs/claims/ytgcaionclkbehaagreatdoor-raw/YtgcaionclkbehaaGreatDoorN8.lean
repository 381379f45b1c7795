import Derived.Test.YtgcaionclkbehaaGreatDoorR1
set_option linter.all false
namespace Go.Proofs.YtgcaionclkbehaaGreatDoor
open Tryz
section
open Go.Conc Go.RowKit Go.Lib
section
variable {n rn m : Nat} {V : Array Value → Option Value} {all : List Int} {pr : Prim}
theorem ExtP.add (h : ExtP rn pr all) {f : FuncId} (hV : ∀ args v,V args = some v → args.toList.all (flatV m) = true ∧ flatV m v = true ∧ ∃ s1,EF prog ktB pr f args ⟨[],rn + 1⟩ v s1) : ExtP rn (prAdd f V pr) all := by
 obtain ⟨hnx,hext⟩ := h
 refine ⟨fun g k args s v s' hf hh => ?_,fun Y A hA hp => PrimOk.add Y ze1 zk0 zg5 hA (hext Y A hA hp) hV⟩
 unfold prAdd at hf
 split at hf
 ·
  cases hf
  simp only at hh
  split at hh
  ·
   cases hh; exact Nat.le_refl _
  ·
   cases hh
 ·
  exact hnx g k args s v s' hf hh
theorem forget_nx (hnx : ∀ f g args s v s',pr f = some g → g args s = some (v,s') → s.nx ≤ s'.nx) {f : FuncId} {ok : Array Value → AS → Option Value} : ∀ g k args s v s',zc9 f ok (zb8 prog ktB pr n f) pr g = some k → k args s = some (v,s') → s.nx ≤ s'.nx := by
 intro g k args s v s' hf hh
 unfold zc9 at hf
 split at hf
 ·
  cases hf
  simp only at hh
  split at hh
  ·
   cases hh; exact Nat.le_refl _
  ·
   exact (ev_nx (P := prog) (kt := ktB) hnx n).2 _ _ _ _ _ hh
 ·
  exact hnx g k args s v s' hf hh
theorem ExtP.begun (h : ExtP rn pr all) (h70 : pr 70 = none) (h71 : pr 71 = none) (h146 : pr 146 = prRow rn all 146) : ExtP rn (zc9 71 (begOk rn all) (zb8 prog ktB pr n 71) pr) all := by
 obtain ⟨hnx,hext⟩ := h
 refine ⟨forget_nx hnx,fun Y A hA hp => PrimOk.forget Y ze1 zk0 zg5 hA (hext Y A hA hp) ?_⟩
 intro args s v h
 unfold begOk at h
 split at h
 ·
  next c ha =>
  split at h
  ·
   next cs t fz hs =>
   split at h
   ·
    next r k rest hcs =>
    split at h
    ·
     next hc =>
     obtain ⟨rfl,h1,h2,h3,h4,h5,h6⟩ := hc
     cases h
     have ha' : args = #[aptr c 0] := by apply Array.toList_inj.1; simp [ha,aptr]
     subst ha'
     obtain ⟨k,rfl⟩ := Int.eq_ofNat_of_zero_le h1
     refine ⟨rfl,by omega,by simp [aptr,nmV,Nat.blt_eq,h5],c,cs,t,fz,hs,h6,fun s0 hn0 hs0 => ?_⟩
     refine ⟨_,begun0_e (all := all) (rn := r) h70 h71 h146 (by omega) hs0 ?_ ?_ (k := k) (by omega) h3,by rw [AS.get_add,if_neg (by omega)]; exact hs0⟩
     ·
      have : cs.toList[0]? = some (aptr r 0) := by rw [hcs]; rfl
      simpa using this
     ·
      have : cs.toList[1]? = some (num (k : Nat)) := by rw [hcs]; rfl
      simpa using this
    ·
     cases h
   ·
    cases h
  ·
   cases h
 ·
  cases h
theorem ExtP.ends (h : ExtP rn pr all) (hp : PrT rn all pr) (h327 : pr 327 = none) (hl : ∀ k, -1 ≤ lAt all k ∧ lAt all k ≤ 1114111) : ExtP rn (zc9 327 (endOk rn all) (zb8 prog ktB pr n 327) pr) all := by
 obtain ⟨hnx,hext⟩ := h
 refine ⟨forget_nx hnx,fun Y A hA hq => PrimOk.forget Y ze1 zk0 zg5 hA (hext Y A hA hq) ?_⟩
 intro args s v h
 unfold endOk at h
 split at h
 ·
  next c nm ha =>
  split at h
  ·
   next cs t fz hs =>
   split at h
   ·
    next r k rest hcs =>
    split at h
    ·
     next hc =>
     obtain ⟨rfl,h1,h2,h4,h5,h6,h7,h8⟩ := hc
     have ha' : args = #[aptr c 0,str nm.data.toList] := by apply Array.toList_inj.1; simp [ha,aptr]
     subst ha'
     obtain ⟨k,rfl⟩ := Int.eq_ofNat_of_zero_le h1
     have c0 : cs[0]? = some (aptr r 0) := by
      have : cs.toList[0]? = some (aptr r 0) := by rw [hcs]; rfl
      simpa using this
     have c1 : cs[1]? = some (num (k : Nat)) := by
      have : cs.toList[1]? = some (num (k : Nat)) := by rw [hcs]; rfl
      simpa using this
     have h7' : ∀ b ∈ nm.data.toList,b.toNat < 128 := fun b hb => by
      have := List.all_eq_true.1 h7 b hb
      simpa using this
     have key : ∀ bb,(v = .bool bb) → ((bb = false ∧ hasT all k ([60,47] ++ nm.data.toList) = false) ∨ (hasT all k ([60,47] ++ nm.data.toList) = true ∧ ∃ b,isB all (k + (2 + nm.data.toList.length)) b ∧ bb = decide (b ∈ stopsE))) → isSc v = true ∧ r + 1 ≤ s.nx ∧ (#[aptr c 0,str nm.data.toList] : Array Value).toList.all (nmV s.nx) = true ∧ ∃ c' cs t fz,s.get c' = some (.cells cs t fz) ∧ cs.toList.all (nmV s.nx) = true ∧ ∀ s0 : AS,s0.nx = s.nx → s0.get c' = some (.cells cs t fz) → ∃ s1,EF prog ktB pr 327 #[aptr c 0,str nm.data.toList] s0 v s1 ∧ s1.get c' = some (.cells cs t fz) := by
      rintro bb rfl hb
      refine ⟨rfl,by omega,by simp [aptr,nmV,Nat.blt_eq,h5,isSc],c,cs,t,fz,hs,h6,fun s0 hn0 hs0 => ?_⟩
      obtain ⟨s1,q1,q2⟩ := ends_e hp h327 hl h7' h8 (by omega) hs0 c0 c1 (by omega) hb
      exact ⟨s1,q1,(q2.2 c (by omega)).trans hs0⟩
     simp only [Int.toNat_natCast] at h
     split at h
     ·
      next hh =>
      split at h
      ·
       next hr =>
       cases h
       refine key _ rfl (.inr ⟨hh,UInt8.ofNat (lAt all (k + (2 + nm.data.toList.length))).toNat,⟨?_,?_⟩,rfl⟩)
       ·
        rw [u8n (by omega)]; omega
       ·
        have := u8n (n := (lAt all (k + (2 + nm.data.toList.length))).toNat) (by omega); omega
      ·
       cases h
     ·
      next hh =>
      cases h
      exact key _ rfl (.inl ⟨rfl,by simpa using hh⟩)
    ·
     cases h
   ·
    cases h
  ·
   cases h
 ·
  cases h
end
end
section
open Go.Conc Go.RowKit Go.Lib
theorem ext_l (l : List UInt8) (i j : Nat) : (ByteArray.mk l.toArray).extract i j = ⟨((l.take j).drop i).toArray⟩ := by
 apply ByteArray.ext
 rw [ByteArray.data_extract]
 simp [List.extract_eq_take_drop,List.drop_take]
theorem hasPre_l (l p : List UInt8) : zj1 ⟨l.toArray⟩ ⟨p.toArray⟩ = (decide (p.length ≤ l.length) && (l.take p.length == p)) := by
 unfold zj1
 rw [ByteArray.toList_eq,ByteArray.toList_eq,ext_l]
 simp [ByteArray.size]
theorem behind_l (l p : List UInt8) : behind ⟨l.toArray⟩ ⟨p.toArray⟩ = ⟨(l.drop p.length).toArray⟩ := by
 unfold behind
 rw [ext_l]
 simp [ByteArray.size]
theorem ltName (r : List UInt8) : zl7 ⟨(108 :: 116 :: 59 :: r).toArray⟩ 0 = (60,3) := by
 have h1 : zj1 ⟨(108 :: 116 :: 59 :: r).toArray⟩ ⟨#[97,109,112]⟩ = false := by
  rw [show (#[97,109,112] : Array UInt8) = [97,109,112].toArray from rfl,hasPre_l]; simp
 have h2 : zj1 ⟨(108 :: 116 :: 59 :: r).toArray⟩ ⟨#[108,116]⟩ = true := by
  rw [show (#[108,116] : Array UInt8) = [108,116].toArray from rfl,hasPre_l]; simp
 have h3 : zj1 (behind ⟨(108 :: 116 :: 59 :: r).toArray⟩ ⟨#[108,116]⟩) ⟨#[59]⟩ = true := by
  rw [show (#[108,116] : Array UInt8) = [108,116].toArray from rfl,behind_l,show (#[59] : Array UInt8) = [59].toArray from rfl,hasPre_l]; simp
 unfold zl7 entL
 rw [byNL,if_neg (by rw [h1]; simp),byNL,if_pos h2,if_pos h3]
 rfl
section
variable {rn : Nat} {all : List Int} {s : AS} {pr : Prim}
theorem append60_e {sl : Value} {l : List UInt8} (h : RowB s sl l) (hl : l.length ≤ 900000) (h275 : pr 275 = none) : ∃ s', ∃ w,EF prog ktB pr 275 #[sl, .int .i32 60] s w s' ∧ AppB s sl l [60] s' w := by
 obtain ⟨w,s3,q1,q2⟩ := appB (m := [60]) (h.add (.cells (byC [60]) 5)) (by simp) (by simp; omega)
 refine ⟨s3,w,?_,q2.of_add⟩
 refine EF.of h275 func275 rfl ?_
 refine EW.seq (EW.go 5 (by kernel_rfl) (EW.seq (EW.seq (EW.go 5 (by kernel_rfl) ?_))))
 refine EW.condT (by kernel_rfl) (EW.seq (EW.region (by kernel_rfl) ?_))
 refine EO.gs 4 5 (s.add (.cells (byC [60]) 5)) (by kernel_rfl) ?_
 refine EO.op (by kernel_rfl) (op_appB (m := [60]) (d := s.nx) (k := 1) (sl := sl) rfl (by kernel_rfl) (by kernel_rfl) (by kernel_rfl) (by rw [AS.get_add,if_pos rfl]) (apart_new h (Nat.le_refl _)) (by simp) q1) (EO.fin 5 (by kernel_rfl) ?_)
 exact EW.ret ⟨.inr rfl,by kernel_rfl,by kernel_rfl⟩
theorem refLt_e {r : List UInt8} (hr : r.length ≤ 900000) (hs : s.get 1 = some (.cells entC.toArray 335)) : EF prog ktB (prRow rn all) 263 #[str (108 :: 116 :: 59 :: r),num 0] s (.tuple #[.int .i32 60,num 3]) s := by
 have h333 : EF prog ktB (prRow rn all) 333 #[str (108 :: 116 :: 59 :: r),num 0] s (.tuple #[.int .i32 60,num 3]) s := by
  refine EF.prim (g := fun args s => match args.toList with
   | [.string x, .int .i64 k] => match s.get 1 with
    | some (.cells cs 335 (0,0)) => if entOk cs.toList = true ∧ lenL x.data.toList 0 ≤ 1000000 then some (.tuple #[.int .i32 (zl7 x k).1, .int .i64 (zl7 x k).2],s) else none
    | _ => none
   | _ => none) rfl ?_
  simp only [hs]
  rw [if_pos ⟨by kernel_rfl,by rw [zl8]; simp; omega⟩,ltName]
  rfl
 refine EF.of (by kernel_rfl) func263 rfl ?_
 refine EW.seq (EW.go 5 (by kernel_rfl) (EW.seq (EW.seq (EW.region (by kernel_rfl) ?_))))
 refine EO.gs 1 5 s (by kernel_rfl) ?_
 refine EO.callF #[str (108 :: 116 :: 59 :: r),str [35]] (by kernel_rfl) rfl rfl (by kernel_rfl) (by kernel_rfl) (hasPrefix_e (b := false) (by kernel_rfl) (by kernel_rfl) (by
  show (_ && beqL [108] [35]) = false
  rw [beqL_ne (by decide),Bool.and_false])) ?_
 refine EO.nil (EW.condF (by kernel_rfl) (EW.skip ?_))
 refine EW.seq (EW.region (by kernel_rfl) (EO.gc 2 5 (by kernel_rfl) h333 ?_))
 refine EO.fin 5 (by kernel_rfl) ?_
 exact EW.ret ⟨.inr rfl,by kernel_rfl,by kernel_rfl⟩
theorem withNo_e {r : List UInt8} (hr : 38 ∉ r) (hne : r ≠ []) (hlen : r.length ≤ 900000) (w : Int) : ∃ s',EF prog ktB (prRow rn all) 157 #[str r,num w] s (str r) s' ∧ FrB s.nx s s' := by
 have hc : CutN 38 r r [] false := .inl ⟨rfl,hr,rfl,rfl⟩
 refine EF.ofE (by kernel_rfl) func157 rfl ?_
 iterate 2
  refine EW.seq (EW.go 5 (by kernel_rfl) ?_)
 have hz : BW (s.add (.cells #[.pointer none, .slice none 0 0] 119)) s.nx s.nx [] := ⟨Nat.le_refl _,by simp, .pointer none, .slice none 0 0,by rw [AS.get_add,if_pos rfl], .inl rfl, .inl ⟨rfl,rfl⟩⟩
 have hz2 : FrB s.nx s (s.add (.cells #[.pointer none, .slice none 0 0] 119)) := FrB.add (Nat.le_refl _)
 refine EW.asS (s.add (.cells #[.pointer none, .slice none 0 0] 119)) (by kernel_rfl) ?_
 generalize s.add (.cells #[.pointer none, .slice none 0 0] 119) = s4 at hz hz2
 refine EW.block (EW.loop ?_)
 refine EW.block (EW.seq (EW.region (by kernel_rfl) ?_))
 refine EO.gs 1 5 s4 (by kernel_rfl) (EO.callF #[str r,str [38]] (by kernel_rfl) rfl rfl (by kernel_rfl) (by kernel_rfl) (cutR_e hc (by omega)) ?_)
 refine EO.fin 5 (by kernel_rfl) (EW.asS s4 (by kernel_rfl) ?_)
 obtain ⟨s5,hw5,hb5,hf5⟩ := write_e (pr := prRow rn all) (m := r) (by kernel_rfl) (by kernel_rfl) hz (by simp; omega)
 refine EW.seq (EW.region (by kernel_rfl) (EO.gc 1 5 (by kernel_rfl) hw5 ?_))
 refine EO.nil (EW.seq (EW.seq (EW.go 5 (by kernel_rfl) ?_)))
 refine EW.condT (by kernel_rfl) ?_
 obtain ⟨s6,hs6,hf6⟩ := string_e (pr := prRow rn all) (by kernel_rfl) hb5 (by simpa using hne) (by simp; omega)
 simp only [List.nil_append] at hs6
 refine EW.asS s5 (by kernel_rfl) (EW.seq (EW.region (by kernel_rfl) ?_))
 refine EO.asS s5 (by kernel_rfl) (EO.callF #[aptr s.nx 0] (by kernel_rfl) rfl rfl (by kernel_rfl) (by kernel_rfl) hs6 ?_)
 refine EO.fin 5 (by kernel_rfl) ?_
 exact EW.ret ⟨.inr rfl,by kernel_rfl,(hz2.trans hf5).trans hf6⟩
theorem withLt_e {a r : List UInt8} (ha : 38 ∉ a) (hr : 38 ∉ r) (hne : r ≠ []) (hlen : a.length + r.length ≤ 800000) (h1n : 1 < s.nx) (hs : s.get 1 = some (.cells entC.toArray 335)) : ∃ s',EF prog ktB (prRow rn all) 157 #[str (a ++ 38 :: 108 :: 116 :: 59 :: r),num 0] s (str (a ++ [60] ++ r)) s' ∧ FrB s.nx s s' := by
 have hc1 : CutN 38 (a ++ 38 :: 108 :: 116 :: 59 :: r) a (108 :: 116 :: 59 :: r) true := .inr ⟨rfl,ha,rfl⟩
 have hc2 : CutN 38 r r [] false := .inl ⟨rfl,hr,rfl,rfl⟩
 have hl1 : (a ++ 38 :: 108 :: 116 :: 59 :: r).length ≤ 1000000 := by simp; omega
 generalize a ++ 38 :: 108 :: 116 :: 59 :: r = x at hc1 hl1 ⊢
 refine EF.ofE (by kernel_rfl) func157 rfl ?_
 iterate 2
  refine EW.seq (EW.go 5 (by kernel_rfl) ?_)
 have hz : BW (s.add (.cells #[.pointer none, .slice none 0 0] 119)) s.nx s.nx [] := ⟨Nat.le_refl _,by simp, .pointer none, .slice none 0 0,by rw [AS.get_add,if_pos rfl], .inl rfl, .inl ⟨rfl,rfl⟩⟩
 have hz2 : FrB s.nx s (s.add (.cells #[.pointer none, .slice none 0 0] 119)) := FrB.add (Nat.le_refl _)
 refine EW.asS (s.add (.cells #[.pointer none, .slice none 0 0] 119)) (by kernel_rfl) ?_
 generalize s.add (.cells #[.pointer none, .slice none 0 0] 119) = s1 at hz hz2
 refine EW.block (EW.loop ?_)
 refine EW.block (EW.seq (EW.region (by kernel_rfl) ?_))
 refine EO.gs 1 5 s1 (by kernel_rfl) (EO.callF #[str x,str [38]] (by kernel_rfl) rfl rfl (by kernel_rfl) (by kernel_rfl) (cutR_e hc1 hl1) ?_)
 refine EO.fin 5 (by kernel_rfl) (EW.asS s1 (by kernel_rfl) ?_)
 obtain ⟨s2,hw1,hb2,hf2⟩ := write_e (pr := prRow rn all) (m := a) (by kernel_rfl) (by kernel_rfl) hz (by simp; omega)
 refine EW.seq (EW.region (by kernel_rfl) (EO.gc 1 5 (by kernel_rfl) hw1 ?_))
 refine EO.nil (EW.seq (EW.seq (EW.go 5 (by kernel_rfl) ?_)))
 refine EW.condF (by kernel_rfl) (EW.skip ?_)
 have hr3 := refLt_e (rn := rn) (all := all) (s := s2) (r := r) (by omega) ((hf2.2 1 h1n).trans ((hz2.2 1 h1n).trans hs))
 refine EW.asS s2 (by kernel_rfl) (EW.seq (EW.region (by kernel_rfl) ?_))
 refine EO.gc 2 5 (by kernel_rfl) hr3 (EO.fin 5 (by kernel_rfl) ?_)
 refine EW.asS s2 (by kernel_rfl) ?_
 obtain ⟨s4,v4,hw4,hb4,hf4⟩ := writeRuneG (pr := prRow rn all) (en := [60]) (c := 60) (by kernel_rfl) (by kernel_rfl) hb2 (fun s sl hrow => append60_e hrow (by simp; omega) (by kernel_rfl))
 refine EW.seq (EW.region (by kernel_rfl) (EO.gc 1 5 (by kernel_rfl) hw4 ?_))
 refine EO.nil (EW.asS s4 (by kernel_rfl) ?_)
 refine EW.region (by kernel_rfl) (EO.go 2 5 (by kernel_rfl) ?_)
 refine EO.op (by kernel_rfl) (op_sub (l := 108 :: 116 :: 59 :: r) (i := 3) (j := (108 :: 116 :: 59 :: r).length) (m := r) rfl underlying9 (by kernel_rfl) ((show _ = zd5 (108 :: 116 :: 59 :: r).length (108 :: 116 :: 59 :: r).length (some (num 3)) none by kernel_rfl).trans (bnd_lo (by omega) (by simp; omega))) (by rw [List.take_length]; rfl)) (EO.fin 5 (by kernel_rfl) ?_)
 refine EW.asS s4 (by kernel_rfl) (EW.loop ?_)
 refine EW.block (EW.seq (EW.region (by kernel_rfl) ?_))
 refine EO.gs 1 5 s4 (by kernel_rfl) (EO.callF #[str r,str [38]] (by kernel_rfl) rfl rfl (by kernel_rfl) (by kernel_rfl) (cutR_e hc2 (by omega)) ?_)
 refine EO.fin 5 (by kernel_rfl) (EW.asS s4 (by kernel_rfl) ?_)
 obtain ⟨s5,hw5,hb5,hf5⟩ := write_e (pr := prRow rn all) (m := r) (by kernel_rfl) (by kernel_rfl) hb4 (by simp; omega)
 refine EW.seq (EW.region (by kernel_rfl) (EO.gc 1 5 (by kernel_rfl) hw5 ?_))
 refine EO.nil (EW.seq (EW.seq (EW.go 5 (by kernel_rfl) ?_)))
 refine EW.condT (by kernel_rfl) ?_
 obtain ⟨s6,hs6,hf6⟩ := string_e (pr := prRow rn all) (by kernel_rfl) hb5 (by simp) (by simp; omega)
 simp only [List.nil_append] at hs6
 refine EW.asS s5 (by kernel_rfl) (EW.seq (EW.region (by kernel_rfl) ?_))
 refine EO.asS s5 (by kernel_rfl) (EO.callF #[aptr s.nx 0] (by kernel_rfl) rfl rfl (by kernel_rfl) (by kernel_rfl) hs6 ?_)
 refine EO.fin 5 (by kernel_rfl) ?_
 exact EW.ret ⟨.inr rfl,by kernel_rfl,(((hz2.trans hf2).trans hf4).trans hf5).trans hf6⟩
end
end
section
open Go.Conc Go.RowKit Go.Lib
def tagOf : Nat → List UInt8
 | 0 => [115,99,114,105,112,116]
 | 1 => [115,116,121,108,101]
 | 2 => [116,105,116,108,101]
 | _ => [116,101,120,116,97,114,101,97]
def zb5 : Nat → Bool → List UInt8
 | i,false => tagOf i
 | 0,true => [83,67,82,73,80,84]
 | 1,true => [83,116,121,108,101]
 | 2,true => [116,73,116,76,101]
 | _,true => [84,69,88,84,65,82,69,65]
def lowV (i : Nat) (cap : Bool) (args : Array Value) : Option Value := match args.toList with
 | [.string x] => if x = ⟨(zb5 i cap).toArray⟩ then some (str (tagOf i)) else if x = ⟨#[97]⟩ then some (str [97]) else none
 | _ => none
def isV (i : Nat) (b : Bool) (args : Array Value) : Option Value := match args.toList with
 | [.string x] => if x = ⟨(tagOf i).toArray⟩ then some (.bool b) else none
 | _ => none
def wrV (t w x : List UInt8) (k : Int) : Option Value := if beqL x [49] = true ∧ k = 1 then some (str [49]) else if beqL x [122] = true ∧ k = 0 then some (str [122]) else if x = t ∧ k = 0 then some (str w) else none
def wrOk (t w : List UInt8) (args : Array Value) (s : AS) : Option Value := match args.toList with
 | [.string x, .int .i64 k] => match s.get 1 with
  | some (.cells cs 335 (0,0)) => if entOk cs.toList = true ∧ 66 ≤ s.nx then wrV t w x.data.toList k else none
  | _ => none
 | _ => none
def prW (P : Program) (n rn : Nat) (t w : List UInt8) (all : List Int) : Prim := zc9 157 (wrOk t w) (zb8 P ktB (prRow rn all) n 157) (prRow rn all)
def prQ0 (P : Program) (rn : Nat) (t w : List UInt8) (i : Nat) (cap : Bool) (all : List Int) : Prim := prAdd 251 (isV i (Nat.ble 2 i)) (prAdd 250 (isV i (!Nat.ble 2 i)) (prAdd 258 (lowV i cap) (prW P 0 rn t w all)))
def prQ1 (P : Program) (n rn : Nat) (t w : List UInt8) (i : Nat) (cap : Bool) (all : List Int) : Prim := zc9 71 (begOk rn all) (zb8 P ktB (prQ0 P rn t w i cap all) n 71) (prQ0 P rn t w i cap all)
def prQ (P : Program) (n rn : Nat) (t w : List UInt8) (i : Nat) (cap : Bool) (all : List Int) : Prim := zc9 327 (endOk rn all) (zb8 P ktB (prQ1 P n rn t w i cap all) n 327) (prQ1 P n rn t w i cap all)
section
variable {n m i : Nat} {cap : Bool} {t w : List UInt8} {all : List Int}
theorem hpQ1 (n rn : Nat) (t w : List UInt8) (i : Nat) (cap : Bool) (all : List Int) : PrT rn all (prQ1 prog n rn t w i cap all) := by
 refine ⟨by kernel_rfl,by kernel_rfl,by kernel_rfl,fun f hf => ?_⟩
 simp only [noneL,List.mem_cons,List.not_mem_nil,or_false] at hf
 rcases hf with rfl | rfl | rfl | rfl | rfl | rfl | rfl | rfl | rfl | rfl | rfl | rfl <;> kernel_rfl
theorem hpQ (n rn : Nat) (t w : List UInt8) (i : Nat) (cap : Bool) (all : List Int) : PrT rn all (prQ prog n rn t w i cap all) := by
 refine ⟨by kernel_rfl,by kernel_rfl,by kernel_rfl,fun f hf => ?_⟩
 simp only [noneL,List.mem_cons,List.not_mem_nil,or_false] at hf
 rcases hf with rfl | rfl | rfl | rfl | rfl | rfl | rfl | rfl | rfl | rfl | rfl | rfl <;> kernel_rfl
theorem EF.evalV {P : Program} {kt : TypeId → Bool} {pr : Prim} {f : FuncId} {args : Array Value} {s : AS} {v : Value} (n : Nat) (h : (zb8 P kt pr n f args s).map Prod.fst = some v) : ∃ s1,EF P kt pr f args s v s1 := by
 cases hq : zb8 P kt pr n f args s with
 | none => rw [hq] at h; cases h
 | some r =>
  rw [hq] at h
  obtain ⟨v',s1⟩ := r
  cases h
  exact ⟨s1,n,hq⟩
theorem lowV_ok (hi : i < 4) : ∀ args v,lowV i cap args = some v → args.toList.all (flatV 1) = true ∧ flatV 1 v = true ∧ ∃ s1,EF prog ktB (prW prog 0 65 t w all) 258 args ⟨[],65 + 1⟩ v s1 := by
 intro args v hv
 unfold lowV at hv
 split at hv
 ·
  next x ha =>
  have ha' : args = #[.string x] := by apply Array.toList_inj.1; simp [ha]
  subst ha'
  split at hv
  ·
   next hx =>
   subst hx
   cases hv
   refine ⟨rfl,rfl,?_⟩
   have hi' : i = 0 ∨ i = 1 ∨ i = 2 ∨ i = 3 := by omega
   rcases hi' with rfl | rfl | rfl | rfl <;> cases cap <;> exact EF.evalV 200 (by kernel_rfl)
  ·
   split at hv
   ·
    next hx =>
    subst hx
    cases hv
    exact ⟨rfl,rfl,EF.evalV 200 (by kernel_rfl)⟩
   ·
    cases hv
 ·
  cases hv
theorem isR_ok (hi : i < 4) : ∀ args v,isV i (!Nat.ble 2 i) args = some v → args.toList.all (flatV 1) = true ∧ flatV 1 v = true ∧ ∃ s1,EF prog ktB (prAdd 258 (lowV i cap) (prW prog 0 65 t w all)) 250 args ⟨[],65 + 1⟩ v s1 := by
 intro args v hv
 unfold isV at hv
 split at hv
 ·
  next x ha =>
  have ha' : args = #[.string x] := by apply Array.toList_inj.1; simp [ha]
  subst ha'
  split at hv
  ·
   next hx =>
   subst hx
   cases hv
   refine ⟨rfl,rfl,?_⟩
   have hi' : i = 0 ∨ i = 1 ∨ i = 2 ∨ i = 3 := by omega
   rcases hi' with rfl | rfl | rfl | rfl <;> exact EF.evalV 100 (by kernel_rfl)
  ·
   cases hv
 ·
  cases hv
theorem isP_ok (hi : i < 4) : ∀ args v,isV i (Nat.ble 2 i) args = some v → args.toList.all (flatV 1) = true ∧ flatV 1 v = true ∧ ∃ s1,EF prog ktB (prAdd 250 (isV i (!Nat.ble 2 i)) (prAdd 258 (lowV i cap) (prW prog 0 65 t w all))) 251 args ⟨[],65 + 1⟩ v s1 := by
 intro args v hv
 unfold isV at hv
 split at hv
 ·
  next x ha =>
  have ha' : args = #[.string x] := by apply Array.toList_inj.1; simp [ha]
  subst ha'
  split at hv
  ·
   next hx =>
   subst hx
   cases hv
   refine ⟨rfl,rfl,?_⟩
   have hi' : i = 0 ∨ i = 1 ∨ i = 2 ∨ i = 3 := by omega
   rcases hi' with rfl | rfl | rfl | rfl <;> exact EF.evalV 100 (by kernel_rfl)
  ·
   cases hv
 ·
  cases hv
theorem wr_ext (hw : ∃ a r,38 ∉ a ∧ 38 ∉ r ∧ r ≠ [] ∧ a.length + r.length ≤ 800000 ∧ t = a ++ 38 :: 108 :: 116 :: 59 :: r ∧ w = a ++ [60] ++ r) : ExtP 65 (prW prog n 65 t w all) all := by
 refine ⟨forget_nx (prRow_nx 65 all),fun Y A hA hp => PrimOk.forget Y ze1 zk0 zg5 hA hp ?_⟩
 intro args s v h
 unfold wrOk at h
 split at h
 ·
  next x k ha =>
  split at h
  ·
   next cs hs =>
   split at h
   ·
    next hc =>
    obtain ⟨hc1,hc2⟩ := hc
    have ha' : args = #[str x.data.toList, .int .i64 k] := by apply Array.toList_inj.1; simp [ha]
    subst ha'
    have hcc : cs = entC.toArray := by apply Array.toList_inj.1; simp [entOk_eq hc1]
    subst hcc
    have hall : (entC.toArray).toList.all (nmV s.nx) = true := by
     rw [List.all_eq_true]
     intro y hy
     have h1 : entC.all isSc = true := by kernel_rfl
     have h2 := List.all_eq_true.1 h1 y (by simpa using hy)
     unfold nmV
     split <;> first | exact h2 | cases h2
    refine ⟨?_,hc2,by simp [nmV,isSc],1,entC.toArray,335,(0,0),hs,hall,fun s0 hn0 hs0 => ?_⟩
    ·
     unfold wrV at h
     split at h
     ·
      cases h; rfl
     ·
      split at h
      ·
       cases h; rfl
      ·
       split at h
       ·
        cases h; rfl
       ·
        cases h
    ·
     have key : ∀ {s1 : AS},FrB s0.nx s0 s1 → s1.get 1 = some (.cells entC.toArray 335) := fun hf => (hf.2 1 (by omega)).trans hs0
     unfold wrV at h
     split at h
     ·
      next hx =>
      cases h
      rw [(zl5 _ _).1 hx.1]
      obtain ⟨s1,e1,e2⟩ := withNo_e (rn := 65) (all := all) (s := s0) (r := [49]) (by decide) (by simp) (by simp) k
      exact ⟨s1,e1,key e2⟩
     ·
      split at h
      ·
       next hx =>
       cases h
       rw [(zl5 _ _).1 hx.1]
       obtain ⟨s1,e1,e2⟩ := withNo_e (rn := 65) (all := all) (s := s0) (r := [122]) (by decide) (by simp) (by simp) k
       exact ⟨s1,e1,key e2⟩
      ·
       split at h
       ·
        next hx =>
        cases h
        obtain ⟨a,r,q1,q2,q3,q4,rfl,rfl⟩ := hw
        obtain ⟨rfl2,rfl⟩ := hx
        rw [rfl2]
        obtain ⟨s1,e1,e2⟩ := withLt_e (rn := 65) (all := all) (s := s0) q1 q2 q3 q4 (by omega) hs0
        exact ⟨s1,e1,key e2⟩
       ·
        cases h
   ·
    cases h
  ·
   cases h
 ·
  cases h
theorem prQ_ext (hi : i < 4) (hl : ∀ k, -1 ≤ lAt all k ∧ lAt all k ≤ 1114111) (hw : ∃ a r,38 ∉ a ∧ 38 ∉ r ∧ r ≠ [] ∧ a.length + r.length ≤ 800000 ∧ t = a ++ 38 :: 108 :: 116 :: 59 :: r ∧ w = a ++ [60] ++ r) : ExtP 65 (prQ prog n 65 t w i cap all) all := by
 have h1 := (wr_ext (n := 0) (all := all) hw).add (f := 258) (lowV_ok (cap := cap) hi)
 have h2 := (h1.add (f := 250) (isR_ok hi)).add (f := 251) (isP_ok hi)
 exact (h2.begun (n := n) (by kernel_rfl) (by kernel_rfl) (by kernel_rfl)).ends (n := n) (hpQ1 n 65 t w i cap all) (by kernel_rfl) hl
end
end
section
open Go.Conc Go.RowKit Go.Lib
abbrev nilV : Value := .slice none 0 0
abbrev tgO (nm : List UInt8) (at_ : Value) : Obj := .cells #[str nm,at_, .bool false] 262
abbrev itO (b : UInt8) : Obj := .stringIter ⟨#[b]⟩ 1
abbrev blZ : Obj := .cells #[.pointer none, .slice none 0 0] 119
abbrev atO (a b : List UInt8) : Obj := .cells #[str a,str b] 47
def g1 (bs : List UInt8) (k : Nat) : AS := (sc2b bs k).add (tgO [] nilV)
def g2 (bs : List UInt8) (k : Nat) : AS := (((sc2b bs k).add (tgO [97] nilV)).add blZ).add (itO 97)
def g3 (bs : List UInt8) (k : Nat) : AS := (g2 bs k).add (atO [] [])
def g4 (bs : List UInt8) (k : Nat) : AS := (((g3 bs k).add blZ).add (itO 98)).add (atO [98] [])
def g6 (bs bs2 : List UInt8) (k : Nat) : AS := ((((((((((sc2b bs k).add (tgO [97] (.slice (some ⟨79,0,none⟩) 1 1))).add blZ).add (itO 97)).add (atO [98] bs2)).add blZ).add (itO 98)).add (atO [98] bs2)).add (atO [98] bs2)).add (atO [98] bs2)).add (.cells #[str [98],str bs2] 47 (1,1))
end
section
open Go.Conc Go.RowKit Go.Lib
abbrev sl79 : Value := .slice (some ⟨79,0,none⟩) 1 1
abbrev tokT (bs : List UInt8) : List Value := [num 1,str bs,str [],nilV, .bool false]
abbrev tokS : List Value := [num 2,str [],str [97],sl79, .bool false]
abbrev scO2 (k : Nat) (l : Value) : Obj := .cells #[aptr 65 0,num (k : Nat), .pointer none,nilV,l] 121
def h1 (bs bs2 : List UInt8) (k : Nat) : AS := (g6 bs bs2 k).add (tgO [97] sl79)
def h1b (bs bs2 : List UInt8) (k : Nat) : AS := (h1 bs bs2 k).add (.cells tokS.toArray 60)
def e1 (bs bs2 : List UInt8) (k : Nat) : AS := ((((h1b bs bs2 k).set 68 none).add (.cells (tokT bs).toArray 60)).add (.cells (tokT bs).toArray 60 (1,1))).set 66 (some (scO2 k (.slice (some ⟨83,0,none⟩) 1 1)))
def h2 (bs bs2 : List UInt8) (k : Nat) : AS := ((((e1 bs bs2 k).add (.cells tokS.toArray 60)).set 83 none).add (.cells (tokT bs ++ tokS).toArray 60 (1,1))).set 66 (some (scO2 k (.slice (some ⟨85,0,none⟩) 2 2)))
def h3 (bs bs2 : List UInt8) (k : Nat) : AS := ((h2 bs bs2 k).add (.cells #[str [115,99,114,105,112,116],str [115,116,121,108,101]] 9)).add (.cells #[str [116,105,116,108,101],str [116,101,120,116,97,114,101,97]] 9)
end
end Go.Proofs.YtgcaionclkbehaaGreatDoor
