import Derived.Test.YtgcaionclkbehaaGreatDoorOt
import Derived.Test.YtgcaionclkbehaaGreatDoorN3
set_option linter.all false
set_option maxRecDepth 100000
set_option maxHeartbeats 2000000
namespace Go.Proofs.YtgcaionclkbehaaGreatDoor
open Tryz
section
open Go.Conc Go.RowKit Go.Lib
section
variable {w₀ w w₁ : World} {Post : Value → World → Prop} {S : Nat → Prop} {N Pb cp : Nat} {s : ByteArray}
theorem kid_txG (H : HRun w₀ N (N + 1) S) (hz : 16 ≤ s.size) {ls : List Int} (hL : RoundL s 0 ls) (Shun : Loc → Prop) (w : World) [Go.ConcR.Payload] [Go.ConcX.Payload] (hF : He w₀ (objs9 N (.string s) 9 (textV N)) w) : XK (kcfg prog N (N + 1) (shunE N Shun) (.string s) (N + 9) (fun _ => False)) (true,V ls) (born prog (callGo N)) w := by
 obtain rfl := H.size
 have hB : HB w₀.heap.size (textV w₀.heap.size) w := ⟨hF.blocks 1 _ rfl,hF.blocks 3 _ rfl,hF.blocks 5 _ rfl,hF.blocks 7 _ rfl,hF.blocks 8 _ rfl⟩
 have hQ : HTx w₀.heap.size s w := ⟨hF.blocks 3 _ rfl,hF.blocks 0 _ rfl,hF.blocks 7 _ rfl,⟨_,hF.blocks 8 _ rfl⟩⟩
 refine kid_x hB fun w₁ r => ?_
 have := oftext1_x (Pb := w₀.heap.size + 1) (Shun := shunE w₀.heap.size Shun) (B := w₀.heap.size + 9) (Mine := fun _ => False) (hQ.rc r) hz ls hL
 simpa using this
theorem oftextG_x {A Fw : World → Prop} {I : Nat → World → Prop} {f : FuncId} {cap : Array Value} (H : HRun w₀ N (N + 1) S) (hz : 16 ≤ s.size) {ls : List Int} (hL : RoundL s 0 ls) (hln : ls.length ≤ 1000000)
  (hcl : ∀ Shun : Loc → Prop,(∀ l,Shun l → ∃ ad : Addr,l = .cell ad ∧ S ad.block) → Client (kcfg prog N (N + 1) (shunE N Shun) (.string s) (N + 9) (fun _ => False)) N ls f cap A Fw I) (hA0 : ∀ w,He w₀ (objs9 N (.string s) 9 (textV N)) w → A w) (hFa : ∀ w w₁,Go.ConcX.Aside2 N (N + 6) w w₁ → Fw w → Fw w₁) :
  CallsI prog (ZI prog Post 0) 47 #[.string s, .func (.func f) #[] cap] S w₀ (fun S' x w' => x = .tuple #[] ∧ S' = SE N S ∧ Fw w' ∧ w'.heap[N + 6]? = some (.cells #[.int .u64 0, .int .u32 0] 169)) := by
 have C : ClosedI prog true (fun _ : Nat → Prop => AtRel) DZ (ZI prog Post 0) := ZI.closed
 have T : ∀ S,Terms AtRel (DZ S) := termsS
 have bx := fun w v => box_run prog w 9 v
 have be := fun w v es => zj7 prog w 9 v es
 have mk : ∀ w es,(Instr.makeFunc (Fn.func 85) #[] #[Value.pointer (some ⟨N,0,none⟩)]).events prog w es = es := fun w es => by simp [Instr.makeFunc]
 obtain rfl := H.size
 have hF := He.start w₀
 refine zc0 func47 (by rfl) rfl ?_
 simp only [ntmps47,List.size_toArray,List.length_cons,List.length_nil,Nat.reduceAdd,Nat.reduceSub,Array.replicate_succ,Array.replicate_zero,List.push_toArray,List.append_toArray,List.nil_append,List.cons_append]
 refine za5 C T ?_
 refine za2 C T ?_
 simp only [szR,Nat.reduceAdd]
 refine za0 C rfl (by rfl) fun _ hR Kx hKx => ?_
 replace hF := He.rely hF hR
 clear hR
 go_simp
 try (unfold stored; go_simp)
 refine hKx _ _ ⟨?_,?_⟩
 ·
  intro e he
  have hm := mem_listed he
  simp [go_sem, *] at hm
 clear hKx Kx
 try walk_nrm
 have hsz := hF.size
 simp only [List.length_cons,List.length_nil,Nat.reduceAdd,Nat.add_zero,Nat.zero_add] at hsz
 simp only [hsz]
 clear hsz
 replace hF := hF.alloc (.cells #[.string s] 9)
 simp only [List.cons_append,List.nil_append] at hF
 refine za3 C T ?_
 show wpI _ _ _ _ _ _ _
 refine za2 C T ?_
 simp only [szR,Nat.reduceAdd]
 refine za0 C rfl (by rfl) fun _ hR Kx hKx => ?_
 replace hF := He.rely hF hR
 clear hR
 go_simp
 try (unfold stored; go_simp)
 refine hKx _ _ ⟨?_,?_⟩
 ·
  co_still (T _)
 clear hKx Kx
 try walk_nrm
 refine za0 C rfl (by rfl) fun _ hR Kx hKx => ?_
 replace hF := He.rely hF hR
 clear hR
 go_simp
 try (unfold stored; go_simp)
 refine hKx _ _ ⟨?_,?_⟩
 ·
  co_quiet (T _)
 clear hKx Kx
 try walk_nrm
 have hrun := run_x (Post := Post) (f := f) (fr := 85) (cap := cap) (cr := #[.pointer (some ⟨w₀.heap.size,0,none⟩)]) (l := ls) H hF hln (fun Shun w _ _ h => kid_txG H hz hL Shun w h) hcl hA0 hFa
 refine zd5 C T rfl (by rfl) rfl rfl (by simp [Act.eval]) rfl hrun ?_
 rintro _ _ _ ⟨rfl,h1,h2⟩
 refine za3 C T ?_
 exact ⟨.inl rfl,rfl,_,resultsC_none (by rfl) _,rfl,rfl,h1,h2⟩
end
def SelOk (sel : AS → AS) : Prop := ∀ s : AS,(sel s).nx = s.nx ∧ ∀ b o,(sel s).get b = some o → s.get b = some o ∧ okTy o = true
section
variable {Post : Value → World → Prop} {Ex : Nat → Prop} {w₀ : World} {An : Who}
open Classical in
theorem tx_core {z1 e1 : Nat} (h1 : An 1 = some (1,z1,e1)) {n : Nat} {s s2 : AS} (hs1 : 1 < s.nx) {f : FuncId} {y : Array Value} {str : ByteArray} {f₀ : Func} (hf : prog.funcs[f]? = some f₀) {c : Code} (hbody : f₀.body = some c) (hres : f₀.results.toList.isEmpty = true) (hAn : ∀ b,s.nx ≤ b → An b = none) (htm : s.tame = true) (hy : y.toList.all (nmV s.nx) = true) (hsz : 16 ≤ str.size) {all : List Int} (hL : RoundL str 0 all) (hg : ∀ r ∈ all,Good r) (hn4 : 4 * all.length ≤ 1000000)
  {pr : Prim} (hpnx : ∀ f g args s v s',pr f = some g → g args s = some (v,s') → s.nx ≤ s'.nx) (hpr : ∀ {ι : Type} {N0 : ι → Nat} {M : ι → World → Nat → Prop} {O : ι → Nat → Prop} {R : ι → World → World → Prop} {D : ι → World → World → Array Event → Prop} {X : ι → Goroutine → World → Prop} {Hd : ι → List (Nat × Obj) → World → Prop} (_ : Cy prog KTs N0 M O R D X Hd) (A : Who),(∀ b,s.nx + 1 ≤ b → A b = none) → PrimOk prog KTs A R D X Hd (prRow s.nx all) → PrimOk prog KTs A R D X Hd pr)
  {sel : AS → AS} (hsel : SelOk sel) {e : Exit} {aA' : TL} (hev : evC prog ktB pr n c ((aptr s.nx 0 :: y.toList) ++ List.replicate (f₀.ntmps - (y.size + 1)) undef) ⟨s.hp,s.nx + 1⟩ = some (e,aA',s2)) (hkeep : AS.keeps s s2 = true) (he : e = .normal ∨ e = .ret) :
  s.nx ≤ (sel s2).nx ∧ Sound prog KTs An (fun _ : Zx => AtRel) (fun j => DZ j.1) (fun j => ZI prog Post 0 j.1) (HdZ Ex w₀) 47 #[.string str, .func (.func f) #[] y] s (.tuple #[]) (sel s2) := by
 have hnx : s.nx + 1 ≤ s2.nx := by
  exact (ev_nx (P := prog) (kt := ktB) hpnx n).1 _ _ _ _ _ _ hev
 refine ⟨by rw [(hsel s2).1]; omega,Sound.cut hAn htm (by simp only [List.all_cons,List.all_nil,nmF,nmV,isSc,hy,Bool.and_true]) (by rw [(hsel s2).1]; omega) ?_⟩
 have hres' : f₀.results = #[] := by apply Array.toList_inj.1; simpa using hres
 intro S l fr j w args' hS0 hS hF hA
 obtain ⟨a0,a1,rfl,v0,v1⟩ := args2 hA
 obtain rfl := v0.sc rfl
 obtain ⟨p',cap,rfl,hp',hcap⟩ := v1.fn
 have hp0 : p' = #[] := by apply Array.toList_inj.1; have := hp'.1; simp at this; exact List.eq_nil_of_length_eq_zero (by simpa using this.symm)
 subst hp0
 obtain ⟨⟨hj,hj2⟩,hl⟩ := hF
 let live : Nat × Obj → Prop := fun q => ∃ nm ob z e,s.get nm = some ob ∧ S nm = some (q.1,z,e)
 have hH : HRun w w.heap.size (w.heap.size + 1) j.1 := ⟨rfl, .inr rfl,fun b hb' => ⟨Nat.lt_of_lt_of_le (hj b hb') hl.size,by have := Nat.lt_of_lt_of_le (hj b hb') hl.size; omega⟩⟩
 have hRd : HRd w w.heap.size (w.heap.size + 1) j.1 s S An (l.filter fun q => decide (live q)) := by
  refine ⟨rfl,⟨fun b o hbo => ?_,fun b b' o o' q q' hbo hbo' => hS.inj b b' o o' q q' hbo hbo',fun b o hbo => hS.lt b o hbo,hS.an⟩,fun b o hm => ?_,?_,fun b o hm => ?_⟩
  ·
   obtain ⟨g,z,e,o',q1,q2,q3,q4⟩ := hS.live b o hbo
   exact ⟨g,z,e,o',q1,List.mem_filter.2 ⟨q2,decide_eq_true ⟨b,o,z,e,hbo,q1⟩⟩,q3,q4⟩
  ·
   obtain ⟨m1,m2⟩ := List.mem_filter.1 hm
   obtain ⟨nm,ob,z,e,q1,q2⟩ := of_decide_eq_true m2
   obtain ⟨m3,m4,_⟩ := hl.own b o (List.mem_append_left _ m1)
   exact ⟨m3.1,by have := m3.1; omega,m3.2,m4⟩
  ·
   have hnd := hl.nodup
   rw [List.map_append] at hnd
   exact (List.filter_sublist.map Prod.fst).nodup (List.nodup_append.1 hnd).1
  ·
   obtain ⟨m1,m2⟩ := List.mem_filter.1 hm
   exact of_decide_eq_true m2
 have hkeep' : ∀ nm ob,s.get nm = some ob → ∃ ob',s2.get nm = some ob' := fun nm ob hq => by
  unfold AS.keeps at hkeep
  have := zf1 hkeep (i := nm) (hS.lt nm ob hq)
  rw [hq] at this
  simp only [Option.isNone_some,Bool.false_or] at this
  exact Option.isSome_iff_exists.1 this
 have hcl := fun (Shun : Loc → Prop) (hSh : ∀ l,Shun l → ∃ ad : Addr,l = .cell ad ∧ j.1 ad.block) =>
  client_evX (pr := pr) (fun Y A hA hp => hpr Y A (fun b hb => (hA b hb).trans (hS0 b (by omega))) hp) (val := .string str) (s' := s2) (s1 := (sel s2)) hH hRd (fun b b1 b2 => hS0 b b1) (by show s.nx < s2.nx; omega) (hS.an _ _ h1) hs1 hg hn4 hf hbody hres' hcap hev he hkeep' (hsel s2).2 (Nat.le_of_eq (hsel s2).1.symm) hSh
 have hof := oftextG_x (Post := Post) (A := LowK w w.heap.size (fun _ => False)) (Fw := LeftF w w.heap.size j.1 s (sel s2) S (l.filter fun q => decide (live q))) hH hsz hL (by omega) hcl (fun w1 hw1 => ⟨hw1.tape,hw1.os,hw1.output,by rw [hw1.size]; simp [objs9],fun b hb' _ => hw1.old b hb'⟩) (fun w1 w2 r hq => by
  obtain ⟨S',l',q1,q2,q3,q4,q5⟩ := hq
  refine ⟨S',l',q1,q2,q3,fun b o hm => ?_,q5.aside r⟩
  obtain ⟨m1,m2,m3,m4,m5⟩ := q4 b o hm
  exact ⟨by rw [r.size]; exact m1,m2,m3,m4,(r.block b m2 m3).trans m5⟩)
 refine calls_reindex (n := j.2) hof ?_
 rintro S' v w' ⟨rfl,rfl,⟨S2,l',q1,q2,q3,q4,q5⟩,q6⟩
 have hnd := hl.nodup
 rw [List.map_append,List.nodup_append] at hnd
 obtain ⟨hnd1,hnd2,hnd3⟩ := hnd
 have hkl : ∀ b,keys0 (l.filter fun q => decide (live q)) b → ∃ o,(b,o) ∈ l := fun b ⟨o,hm⟩ => ⟨o,(List.mem_filter.1 hm).1⟩
 have hgrow : w.heap.size ≤ w'.heap.size := by have := q5.size; omega
 have hHL : HL (mineZ (SE w.heap.size j.1)) (fun _ => False) (w.heap.size + 7) Ex w₀ (l' ++ fr) w' := by
  refine ⟨⟨q5.tape.trans hl.kept.tape,q5.os.trans hl.kept.os,q5.output.trans hl.kept.output,Nat.le_trans hl.kept.grow hgrow,fun b hb1 hb2 => ?_,fun b hb1 => ⟨Nat.lt_of_lt_of_le hb1.1 (Nat.le_trans hl.kept.grow hgrow),hb1.2⟩,fun b z => z.elim⟩,by have := q5.size; omega,fun b o hm => ?_,?_⟩
  ·
   have hbN : b < w.heap.size := Nat.lt_of_lt_of_le hb1.1 hl.kept.grow
   have hnk : ¬ keys0 (l.filter fun q => decide (live q)) b := fun z => by
    obtain ⟨o,hm⟩ := hkl b z
    rcases (hl.own b o (List.mem_append_left _ hm)).2.2 with z | z
    ·
     exact hb2 z
    ·
     have := hb1.1; omega
   exact (q5.old b hbN hnk).trans (hl.kept.block b ⟨hb1.1,fun z => hb1.2 (.inl z)⟩ hb2)
  ·
   rcases List.mem_append.1 hm with hm | hm
   ·
    obtain ⟨m1,m2,m3,m4,m5⟩ := q4 b o hm
    by_cases hbN : b < w.heap.size
    ·
     obtain ⟨o2,hm2⟩ := hkl b (m4 hbN)
     obtain ⟨r1,r2,r3⟩ := hl.own b o2 (List.mem_append_left _ hm2)
     exact ⟨⟨m1,fun z => z.elim r1.2 m3⟩,m5,r3⟩
    ·
     refine ⟨⟨m1,fun z => z.elim (fun z => ?_) m3⟩,m5, .inr (by have := hl.kept.grow; omega)⟩
     have := hj b z
     have := hl.size
     omega
   ·
    obtain ⟨r1,r2,r3⟩ := hl.own b o (List.mem_append_right _ hm)
    have hnk : ¬ keys0 (l.filter fun q => decide (live q)) b := fun z => by
     obtain ⟨o2,hm2⟩ := hkl b z
     exact hnd3 b (List.mem_map.2 ⟨_,hm2,rfl⟩) b (List.mem_map.2 ⟨_,hm,rfl⟩) rfl
    refine ⟨⟨Nat.lt_of_lt_of_le r1.1 hgrow,fun z => z.elim r1.2 (fun z => ?_)⟩,(q5.old b r1.1 hnk).trans r2,r3⟩
    have := r1.1
    omega
  ·
   rw [List.map_append,List.nodup_append]
   refine ⟨q3,hnd2,fun x hx y hy hxy => ?_⟩
   subst hxy
   obtain ⟨⟨b,o⟩,hm,rfl⟩ := List.mem_map.1 hx
   obtain ⟨⟨b2,o2⟩,hm2,e2⟩ := List.mem_map.1 hy
   have e2 : b2 = b := e2
   subst e2
   have hbN := (hl.own b2 o2 (List.mem_append_right _ hm2)).1.1
   obtain ⟨o3,hm3⟩ := hkl b2 ((q4 b2 o hm).2.2.2.1 hbN)
   exact hnd3 b2 (List.mem_map.2 ⟨_,hm3,rfl⟩) b2 (List.mem_map.2 ⟨_,hm2,rfl⟩) rfl
 refine ⟨w.heap.size + 7,fun w₁ r => ⟨S2,l',q1.an,q2,⟨q1.live,q1.inj,q1.lt,Who.le_trans hS.an q1.an⟩,⟨⟨fun b z => ?_,fun b z => ?_⟩,hHL.rely (envZ (KT := KTs) (fun b z => ?_)) r⟩,?_⟩⟩
 ·
  rcases z with z | z
  ·
   have := hj b z; have := hl.size; omega
  ·
   omega
 ·
  rcases z with z | z
  ·
   exact hj2 b z
  ·
   have := hl.kept.grow; omega
 ·
  rcases z with z | z
  ·
   have := hj b z; have := hl.size; omega
  ·
   omega
 ·
  exact VR.of_tu AR.nil
def ExtP (rn : Nat) (prx : Prim) (all : List Int) : Prop := (∀ f g args s v s',prx f = some g → g args s = some (v,s') → s.nx ≤ s'.nx) ∧ ∀ {ι : Type} {N0 : ι → Nat} {M : ι → World → Nat → Prop} {O : ι → Nat → Prop} {R : ι → World → World → Prop} {D : ι → World → World → Array Event → Prop} {X : ι → Goroutine → World → Prop} {Hd : ι → List (Nat × Obj) → World → Prop} (_ : Cy prog KTs N0 M O R D X Hd) (A : Who),(∀ b,rn + 1 ≤ b → A b = none) → PrimOk prog KTs A R D X Hd (prRow rn all) → PrimOk prog KTs A R D X Hd prx
def prTx (P : Program) (n r0 : Nat) (str : ByteArray) (sel : AS → AS) (prx : Prim) (pr : Prim) : Prim := fun g => if g.beq 47 then some fun args s => match args.toList with
 | [.string st, .func (.func f) x y] => match P.funcs[f]? with
  | some f₀ => match f₀.body with
   | some c =>
    if st = str ∧ x.toList.isEmpty = true ∧ s.nx = r0 ∧ f₀.results.toList.isEmpty = true ∧ s.tame = true ∧ y.toList.all (nmV s.nx) = true then
     match evC P ktB prx n c ((aptr s.nx 0 :: y.toList) ++ List.replicate (f₀.ntmps - (y.size + 1)) undef) ⟨s.hp,s.nx + 1⟩ with
     | some (e,_,s') => if AS.keeps s s' = true then match e with
       | .normal | .ret => some (.tuple #[],sel s')
       | _ => none
      else none
     | none => none
    else none
   | none => none
  | none => none
 | _ => none
 else pr g
theorem prTx_ok {z1 e1 : Nat} (h1 : An 1 = some (1,z1,e1)) (hAn : ∀ b,32 ≤ b → An b = none) {n : Nat} {str : ByteArray} {all : List Int} {r0 : Nat} (hr0 : 32 ≤ r0) {sel : AS → AS} (hsel : SelOk sel) {prx : Prim} (hx : ExtP r0 prx all) (hsz : 16 ≤ str.size) (hL : RoundL str 0 all) (hg : ∀ r ∈ all,Good r) (hn4 : 4 * all.length ≤ 1000000) {pr : Prim} (hp : PrimOk prog KTs An (fun _ : Zx => AtRel) (fun j => DZ j.1) (fun j => ZI prog Post 0 j.1) (HdZ Ex w₀) pr) :
  PrimOk prog KTs An (fun _ : Zx => AtRel) (fun j => DZ j.1) (fun j => ZI prog Post 0 j.1) (HdZ Ex w₀) (prTx prog n r0 str sel prx pr) := by
 have key : ∀ g h args s v s',g = 47 → prTx prog n r0 str sel prx pr g = some h → h args s = some (v,s') → s.nx ≤ s'.nx ∧ Sound prog KTs An (fun _ : Zx => AtRel) (fun j => DZ j.1) (fun j => ZI prog Post 0 j.1) (HdZ Ex w₀) 47 args s v s' := by
  rintro g h args s v s' rfl hf hh
  unfold prTx at hf
  rw [if_pos (show Nat.beq 47 47 = true from rfl)] at hf
  cases hf
  simp only at hh
  split at hh
  ·
   next st f x y ha =>
   split at hh
   ·
    next f₀ hf =>
    split at hh
    ·
     next c hbody =>
     split at hh
     ·
      next hc =>
      obtain ⟨rfl,hx0,rfl,hres,htm,hy⟩ := hc
      split at hh
      ·
       next e aA' s2 hev =>
       split at hh
       ·
        next hkeep =>
        have hfin : (e = .normal ∨ e = .ret) ∧ v = .tuple #[] ∧ s' = sel s2 := by
         split at hh
         ·
          cases hh; exact ⟨.inl rfl,rfl,rfl⟩
         ·
          cases hh; exact ⟨.inr rfl,rfl,rfl⟩
         ·
          cases hh
        obtain ⟨he,rfl,rfl⟩ := hfin
        have hx' : x = #[] := by apply Array.toList_inj.1; simpa using hx0
        subst hx'
        have ha' : args = #[.string st, .func (.func f) #[] y] := by apply Array.toList_inj.1; simp [ha]
        subst ha'
        exact tx_core h1 (by omega) hf hbody hres (fun b hb => hAn b (by omega)) htm hy hsz hL hg hn4 hx.1 hx.2 hsel hev hkeep he
       ·
        cases hh
      ·
       cases hh
     ·
      cases hh
    ·
     cases hh
   ·
    cases hh
  ·
   cases hh
 constructor
 ·
  intro g h args s v s' hf hh
  by_cases he : g = 47
  ·
   exact (key g h args s v s' he hf hh).1
  ·
   unfold prTx at hf
   rw [if_neg (fun z => he (Nat.eq_of_beq_eq_true z))] at hf
   exact hp.nx g h args s v s' hf hh
 ·
  intro g h args s v s' hf hh
  by_cases he : g = 47
  ·
   subst he; exact (key _ h args s v s' rfl hf hh).2
  ·
   unfold prTx at hf
   rw [if_neg (fun z => he (Nat.eq_of_beq_eq_true z))] at hf
   exact hp.sound g h args s v s' hf hh
theorem prTx_e {str : ByteArray} {r0 : Nat} {sel : AS → AS} {prx : Prim} {s s1 : AS} {f : FuncId} {f₀ : Func} {c : Code} {y : Array Value} (hf : prog.funcs[f]? = some f₀) (hbody : f₀.body = some c) (hres : f₀.results.toList.isEmpty = true) (hs : s.nx = r0) (htm : s.tame = true) (hy : y.toList.all (nmV s.nx) = true)
  (hw : EW prog ktB prx c ((aptr s.nx 0 :: y.toList) ++ List.replicate (f₀.ntmps - (y.size + 1)) undef) ⟨s.hp,s.nx + 1⟩ fun e _ s' => (e = .normal ∨ e = .ret) ∧ AS.keeps s s' = true ∧ sel s' = s1) :
  ∃ n, ∀ pr,EF prog ktB (prTx prog n r0 str sel prx pr) 47 #[.string str, .func (.func f) #[] y] s (.tuple #[]) s1 := by
 obtain ⟨n,e,a',s',h1,h2,h3,rfl⟩ := hw
 refine ⟨n,fun pr => ⟨1,?_⟩⟩
 unfold zc7 prTx
 rw [if_pos (show Nat.beq 47 47 = true from rfl)]
 simp only [hf,hbody,h1,h3,if_true]
 rw [if_pos ⟨trivial,rfl,hs,hres,htm,hy⟩]
 rcases h2 with rfl | rfl <;> rfl
end
end
section
open Go.Conc Go.RowKit Go.Lib
def lAt (all : List Int) (k : Nat) : Int := all[k]?.getD (-1)
section
variable {rn : Nat} {all : List Int} {s : AS} {pr : Prim}
theorem at_e (h146 : pr 146 = prRow rn all 146) (k : Nat) : EF prog ktB pr 146 #[aptr rn 0,num (k : Nat)] s (.int .i32 (lAt all k)) s := by
 refine EF.prim (h146.trans rfl) ?_
 simp only [aptr]
 rw [if_pos ⟨trivial,by omega⟩]
 simp [lAt]
theorem ahead_e (h70 : pr 70 = none) (h146 : pr 146 = prRow rn all 146) {c : Nat} {cs : Array Value} {t : TypeId} {fz : Nat × Nat} {k p : Nat} (hs : s.get c = some (.cells cs t fz)) (h0 : cs[0]? = some (aptr rn 0)) (h1 : cs[1]? = some (num (k : Nat))) (hk : k + p ≤ 1000000) : EF prog ktB pr 70 #[aptr c 0,num (p : Nat)] s (.int .i32 (lAt all (k + p))) s := by
 have hat := at_e (s := s) h146 (k + p)
 generalize lAt all (k + p) = r at hat ⊢
 have hl0 : zc6 prog 84 (aptr c 0) s = some (aptr rn 0) := by
  unfold zc6
  simp only [aptr,hs,underlying84]
  exact h0
 have hl1 : zc6 prog 3 (aptr c 1) s = some (num (k : Nat)) := by
  unfold zc6
  simp only [aptr,hs,underlying3]
  exact h1
 have hlds : ∀ x ∈ [(zc6 prog 84 (aptr c 0) s,aptr rn 0),(zc6 prog 3 (aptr c 1) s,num (k : Nat))],x.1 = some x.2 ∧ zg6 20 x.2 = true := by
  intro x hx
  simp only [List.mem_cons,List.not_mem_nil,or_false] at hx
  rcases hx with rfl | rfl
  ·
   exact ⟨hl0,rfl⟩
  ·
   exact ⟨hl1,rfl⟩
 refine EF.of h70 func70 rfl ?_
 refine EW.seq (EW.go 5 (by kernel_rfl) ?_)
 refine EW.seq (EW.draw (by kernel_rfl) (by kernel_rfl) (by kernel_rfl) ?_)
 iterate 3
  refine ET.q (by kernel_rfl) (by kernel_rfl) ?_
 refine ET.asS s (by kernel_rfl) ?_
 refine ET.op (by kernel_rfl) (op_ld (b := c) (off := 0) (v := aptr rn 0) rfl underlying84 rfl (by kernel_rfl) hs h0) ?_
 iterate 3
  refine ET.q (by kernel_rfl) (by kernel_rfl) ?_
 refine ET.asS s (by kernel_rfl) ?_
 refine ET.op (by kernel_rfl) (op_ld (b := c) (off := 1) (v := num (k : Nat)) rfl underlying3 rfl (by kernel_rfl) hs h1) ?_
 refine ET.q (by kernel_rfl) (by kernel_rfl) ?_
 refine ET.asS s (by kernel_rfl) ?_
 refine ET.op (by kernel_rfl) (zf3 (i := (k : Nat)) (j := (p : Nat)) (r := ((k + p : Nat) : Int)) rfl (by kernel_rfl) (by kernel_rfl) (by omega) (by omega)) ?_
 refine ET.callF #[aptr rn 0,num ((k + p : Nat) : Int)] (by kernel_rfl) rfl rfl (by kernel_rfl) (by kernel_rfl) hat ?_
 refine ET.q (by kernel_rfl) (by kernel_rfl) ?_
 refine ET.nil ⟨zf8 [(zc6 prog 84 (aptr c 0) s,aptr rn 0),(zc6 prog 3 (aptr c 1) s,num (k : Nat))] (by kernel_rfl) hlds,_,_,_,_,_,_,rfl,rfl,?_⟩
 exact EW.ret ⟨.inr rfl,by kernel_rfl,by kernel_rfl⟩
theorem bin_neqK {k : IntKind} {i j : Int} {b : Bool} (h : (i != j) = b) : evBin .neq (.int k i) (.int k j) = some (.bool b) := by unfold evBin; simp only [if_pos]; rw [h]
theorem begun0_e (h70 : pr 70 = none) (h71 : pr 71 = none) (h146 : pr 146 = prRow rn all 146) {c : Nat} {cs : Array Value} {t : TypeId} {fz : Nat × Nat} {k : Nat} (hcn : c < s.nx) (hs : s.get c = some (.cells cs t fz)) (h0 : cs[0]? = some (aptr rn 0)) (h1 : cs[1]? = some (num (k : Nat))) (hk : k ≤ 1000000) (hl : lAt all k ≠ 60) : EF prog ktB pr 71 #[aptr c 0] s .nilFunc (s.add (.cells #[aptr c 0] 196)) := by
 have hs2 : (s.add (.cells #[aptr c 0] 196)).get c = some (.cells cs t fz) := by rw [AS.get_add,if_neg (by omega)]; exact hs
 have hah := ahead_e (s := s.add (.cells #[aptr c 0] 196)) h70 h146 (p := 0) hs2 h0 h1 (by omega)
 rw [Nat.add_zero] at hah
 have hs3 : (s.add (.cells #[aptr c 0] 196)).get s.nx = some (.cells #[aptr c 0] 196) := by rw [AS.get_add,if_pos rfl]
 refine EF.of h71 func71 rfl ?_
 refine EW.seq (EW.go 5 (by kernel_rfl) ?_)
 refine EW.asS (s.add (.cells #[aptr c 0] 196)) (by kernel_rfl) ?_
 generalize s.add (.cells #[aptr c 0] 196) = s2 at hs2 hah hs3
 generalize lAt all k = r at hah hl
 refine EW.seq (EW.seq (EW.region (by kernel_rfl) ?_))
 refine EO.op (by kernel_rfl) (op_ld (b := s.nx) (off := 0) (v := aptr c 0) rfl underlying196 rfl (by kernel_rfl) hs3 rfl) ?_
 refine EO.callF #[aptr c 0,num 0] (by kernel_rfl) rfl rfl (by kernel_rfl) (by kernel_rfl) hah ?_
 refine EO.op (by kernel_rfl) (zc5 (u := .int .i32 r) (w := .int .i32 60) rfl (by kernel_rfl) (by kernel_rfl) (bin_neqK (b := true) (by simp [hl]))) ?_
 refine EO.nil ?_
 refine EW.condT (by kernel_rfl) ?_
 refine EW.goE 5 .ret (by kernel_rfl) ?_
 exact ⟨.inr rfl,by kernel_rfl,by kernel_rfl⟩
end
def begOk (rn : Nat) (all : List Int) (args : Array Value) (s : AS) : Option Value := match args.toList with
 | [.pointer (some ⟨c,0,none⟩)] => match s.get c with
  | some (.cells cs _ _) => match cs.toList with
   | .pointer (some ⟨r,0,none⟩) :: .int .i64 k :: _ => if r = rn ∧ 0 ≤ k ∧ k ≤ 1000000 ∧ lAt all k.toNat ≠ 60 ∧ rn < s.nx ∧ c < s.nx ∧ cs.toList.all (nmV s.nx) = true then some .nilFunc else none
   | _ => none
  | _ => none
 | _ => none
def prN (P : Program) (n rn : Nat) (V : Array Value → Option Value) (all : List Int) : Prim := zi7 71 (begOk rn all) (zc7 P ktB (prAdd 157 V (prRow rn all)) n 71) (prAdd 157 V (prRow rn all))
theorem prN_ext {n rn : Nat} {V : Array Value → Option Value} {all : List Int} {m : Nat} (hV : ∀ args v,V args = some v → args.toList.all (flatV m) = true ∧ flatV m v = true ∧ ∃ s1,EF prog ktB (prRow rn all) 157 args ⟨[],rn + 1⟩ v s1) : ExtP rn (prN prog n rn V all) all := by
 have key : ∀ {ι : Type} {N0 : ι → Nat} {M : ι → World → Nat → Prop} {O : ι → Nat → Prop} {R : ι → World → World → Prop} {D : ι → World → World → Array Event → Prop} {X : ι → Goroutine → World → Prop} {Hd : ι → List (Nat × Obj) → World → Prop} (_ : Cy prog KTs N0 M O R D X Hd) (A : Who),(∀ b,rn + 1 ≤ b → A b = none) → PrimOk prog KTs A R D X Hd (prRow rn all) → PrimOk prog KTs A R D X Hd (prN prog n rn V all) := by
  intro ι N0 M O R D X Hd Y A hA hp
  have hp2 := PrimOk.add Y ze1 zg9 zg8 hA hp hV
  refine PrimOk.forget Y ze1 zg9 zg8 hA hp2 ?_
  intro args s v h
  unfold begOk at h
  split at h
  ·
   next c ha =>
   split at h
   ·
    next cs t fz hs =>
    split at h
    ·
     next r k rest hcs =>
     split at h
     ·
      next hc =>
      obtain ⟨rfl,h1,h2,h3,h4,h5,h6⟩ := hc
      cases h
      have ha' : args = #[aptr c 0] := by apply Array.toList_inj.1; simp [ha,aptr]
      subst ha'
      obtain ⟨k,rfl⟩ := Int.eq_ofNat_of_zero_le h1
      refine ⟨rfl,by omega,by simp [aptr,nmV,Nat.blt_eq,h5],c,cs,t,fz,hs,h6,fun s0 hn0 hs0 => ?_⟩
      refine ⟨_,begun0_e (all := all) (rn := r) (by kernel_rfl) (by kernel_rfl) (by kernel_rfl) (by omega) hs0 ?_ ?_ (k := k) (by omega) h3,by rw [AS.get_add,if_neg (by omega)]; exact hs0⟩
      ·
       have : cs.toList[0]? = some (aptr r 0) := by rw [hcs]; rfl
       simpa using this
      ·
       have : cs.toList[1]? = some (num (k : Nat)) := by rw [hcs]; rfl
       simpa using this
     ·
      cases h
    ·
     cases h
   ·
    cases h
  ·
   cases h
 have hnx2 : ∀ f g args s v s',prAdd 157 V (prRow rn all) f = some g → g args s = some (v,s') → s.nx ≤ s'.nx := by
  intro f g args s v s' hf hh
  unfold prAdd at hf
  split at hf
  ·
   cases hf
   simp only at hh
   split at hh
   ·
    cases hh; exact Nat.le_refl _
   ·
    cases hh
  ·
   exact prRow_nx rn all f g args s v s' hf hh
 refine ⟨fun f g args s v s' hf hh => ?_,key⟩
 unfold prN zi7 at hf
 split at hf
 ·
  cases hf
  simp only at hh
  split at hh
  ·
   cases hh; exact Nat.le_refl _
  ·
   exact (ev_nx (P := prog) (kt := ktB) hnx2 n).2 _ _ _ _ _ hh
 ·
  exact hnx2 f g args s v s' hf hh
end
section
open Go.Conc Go.RowKit Go.Lib
theorem idxF_mem {c : UInt8} {l : List UInt8} (h : c ∈ l) : 0 ≤ idxF c.toNat l 0 := by
 obtain ⟨a,b,rfl,hn⟩ := List.eq_append_cons_of_mem h
 rw [idxF_yes hn]
 omega
structure Fam (St : Nat → AS) (rn c : Nat) (p q r : Value) : Prop where
 get : ∀ k,(St k).get c = some (.cells #[aptr rn 0,num (k : Nat),p,q,r] 121)
 set : ∀ k k' : Nat,(St k).set c (some (.cells #[aptr rn 0,num (k' : Nat),p,q,r] 121)) = St k'
 lt : ∀ k,c < (St k).nx
 rlt : ∀ k,rn < (St k).nx
 tame : ∀ k,(#[aptr rn 0,num (k : Nat),p,q,r] : Array Value).toList.all (nmV (St k).nx) = true
section
variable {n rn : Nat} {V : Array Value → Option Value} {all : List Int} {s : AS}
theorem isOne_e {b : UInt8} (hb : b.toNat < 128) (stops : List UInt8) : EF prog ktB (prN prog n rn V all) 328 #[.int .i32 ((b.toNat : Nat) : Int),str stops] s (.bool (decide (0 ≤ idxF b.toNat stops 0))) s := by
 have h334 : EF prog ktB (prN prog n rn V all) 334 #[str stops, .int .u8 ((b.toNat : Nat) : Int)] s (num (idxF b.toNat stops 0)) s := by
  have := EF.eval (P := prog) (kt := ktB) (pr := prN prog n rn V all) (f := 334) (args := #[str stops, .int .u8 ((b.toNat : Nat) : Int)]) (s := s) (v := num (idxF (((b.toNat : Nat) : Int).toNat % 256) stops 0)) (s' := s) 20 (by kernel_rfl)
  rw [toNat_mod] at this
  exact this
 generalize idxF b.toNat stops 0 = ix at h334
 have h264 : EF prog ktB (prN prog n rn V all) 264 #[str stops, .int .i32 ((b.toNat : Nat) : Int)] s (num ix) s := by
  refine EF.of (by kernel_rfl) func264 rfl ?_
  refine EW.seq (EW.go 5 (by kernel_rfl) ?_)
  refine EW.block ?_
  refine EW.seq (EW.region (by kernel_rfl) ?_)
  refine EO.go 1 5 (by kernel_rfl) ?_
  refine EO.op (by kernel_rfl) (zc5 (u := .int .i32 0) (w := .int .i32 ((b.toNat : Nat) : Int)) rfl (by kernel_rfl) (by kernel_rfl) (zj6 (b := true) (decide_eq_true (by omega)))) ?_
  refine EO.go 2 5 (by kernel_rfl) ?_
  refine EO.op (by kernel_rfl) (zc5 (u := .int .i32 ((b.toNat : Nat) : Int)) (w := .int .i32 128) rfl (by kernel_rfl) (by kernel_rfl) (zk9 (b := true) (decide_eq_true (by omega)))) ?_
  refine EO.fin 5 (by kernel_rfl) ?_
  refine EW.condT (by kernel_rfl) ?_
  refine EW.seq (EW.region (by kernel_rfl) ?_)
  refine EO.go 2 5 (by kernel_rfl) ?_
  refine EO.asS s (by kernel_rfl) ?_
  refine EO.op (v := .int .u8 ((b.toNat : Nat) : Int)) (s1 := s) (by kernel_rfl) ((show _ = some (Value.int .u8 (IntKind.u8.wrap ((b.toNat : Nat) : Int)),s) by kernel_rfl).trans (by rw [IntKind.wrap_u8,show ((b.toNat : Nat) : Int) % 256 = (b.toNat : Nat) by omega])) ?_
  refine EO.asS s (by kernel_rfl) ?_
  refine EO.callF #[str stops, .int .u8 ((b.toNat : Nat) : Int)] (by kernel_rfl) rfl rfl (by kernel_rfl) (by kernel_rfl) h334 ?_
  refine EO.fin 5 (by kernel_rfl) ?_
  exact EW.ret ⟨.inr rfl,by kernel_rfl,by kernel_rfl⟩
 have h160 : EF prog ktB (prN prog n rn V all) 160 #[str stops, .int .i32 ((b.toNat : Nat) : Int)] s (.bool (decide (0 ≤ ix))) s := by
  refine EF.of (by kernel_rfl) func160 rfl ?_
  refine EW.seq (EW.go 5 (by kernel_rfl) ?_)
  refine EW.seq (EW.region (by kernel_rfl) ?_)
  refine EO.go 2 5 (by kernel_rfl) ?_
  refine EO.asS s (by kernel_rfl) ?_
  refine EO.callF #[str stops, .int .i32 ((b.toNat : Nat) : Int)] (by kernel_rfl) rfl rfl (by kernel_rfl) (by kernel_rfl) h264 ?_
  refine EO.op (by kernel_rfl) (zc5 (u := num ix) (w := num 0) rfl (by kernel_rfl) (by kernel_rfl) (bin_geq (b := decide (0 ≤ ix)) rfl)) ?_
  generalize decide (0 ≤ ix) = bb
  refine EO.fin 5 (by kernel_rfl) ?_
  exact EW.ret ⟨.inr rfl,by kernel_rfl,by kernel_rfl⟩
 generalize decide (0 ≤ ix) = bb at h160 ⊢
 refine EF.of (by kernel_rfl) func328 rfl ?_
 refine EW.seq (EW.go 5 (by kernel_rfl) ?_)
 refine EW.seq (EW.region (by kernel_rfl) ?_)
 refine EO.go 2 5 (by kernel_rfl) ?_
 refine EO.asS s (by kernel_rfl) ?_
 refine EO.callF #[str stops, .int .i32 ((b.toNat : Nat) : Int)] (by kernel_rfl) rfl rfl (by kernel_rfl) (by kernel_rfl) h160 ?_
 refine EO.fin 5 (by kernel_rfl) ?_
 exact EW.ret ⟨.inr rfl,by kernel_rfl,by kernel_rfl⟩
theorem isOne_no {b : UInt8} (hb : b.toNat < 128) {stops : List UInt8} (h : b ∉ stops) : EF prog ktB (prN prog n rn V all) 328 #[.int .i32 ((b.toNat : Nat) : Int),str stops] s (.bool false) s := by
 have := isOne_e (n := n) (rn := rn) (V := V) (all := all) (s := s) hb stops
 rw [idxF_no h] at this
 exact this
theorem isOne_yes {b : UInt8} (hb : b.toNat < 128) {stops : List UInt8} (h : b ∈ stops) : EF prog ktB (prN prog n rn V all) 328 #[.int .i32 ((b.toNat : Nat) : Int),str stops] s (.bool true) s := by
 have := isOne_e (n := n) (rn := rn) (V := V) (all := all) (s := s) hb stops
 rw [decide_eq_true (idxF_mem h)] at this
 exact this
theorem rtext_e {k j : Nat} (hj : j ≤ 1000000) : EF prog ktB (prN prog n rn V all) 92 #[aptr rn 0,num (k : Nat),num (j : Nat)] s (str (ze8 ((all.drop k).take (j - k)))) s := by
 refine EF.prim (show prN prog n rn V all 92 = prRow rn all 92 by kernel_rfl) ?_
 simp only [aptr]
 rw [if_pos ⟨trivial,by omega,by omega,by omega⟩]
 simp
variable {St : Nat → AS} {c : Nat} {p q r : Value}
theorem ld_row (F : Fam St rn c p q r) (k : Nat) : zc6 prog 84 (aptr c 0) (St k) = some (aptr rn 0) := by
 unfold zc6
 simp only [aptr,F.get k,underlying84]
 rfl
theorem ld_at (F : Fam St rn c p q r) (k : Nat) : zc6 prog 3 (aptr c 1) (St k) = some (num (k : Nat)) := by
 unfold zc6
 simp only [aptr,F.get k,underlying3]
 rfl
theorem lds2 {a b : Option Value × Value} (ha : a.1 = some a.2 ∧ zg6 20 a.2 = true) (hb : b.1 = some b.2 ∧ zg6 20 b.2 = true) : ∀ x ∈ [a,b],x.1 = some x.2 ∧ zg6 20 x.2 = true := by
 intro x hx
 simp only [List.mem_cons,List.not_mem_nil,or_false] at hx
 rcases hx with rfl | rfl
 ·
  exact ha
 ·
  exact hb
theorem ahead_f (F : Fam St rn c p q r) {k i : Nat} (hk : k + i ≤ 1000000) : EF prog ktB (prN prog n rn V all) 70 #[aptr c 0,num (i : Nat)] (St k) (.int .i32 (lAt all (k + i))) (St k) := ahead_e (by kernel_rfl) (by kernel_rfl) (F.get k) rfl rfl hk
theorem zh7 (F : Fam St rn c p q r) {k : Nat} (hk : k ≤ 1000000) : EF prog ktB (prN prog n rn V all) 70 #[aptr c 0,num 0] (St k) (.int .i32 (lAt all k)) (St k) := ahead_f F (i := 0) (by omega)
def isB (all : List Int) (k : Nat) (b : UInt8) : Prop := lAt all k = ((b.toNat : Nat) : Int) ∧ b.toNat < 128
def sl259 (c : Nat) (stops : List UInt8) (k : Nat) (x : Nat → Value) : TL := [aptr c 0,str stops,x 2,x 3,x 4,num (k : Nat),x 6,x 7,x 8,x 9,x 10,x 11,x 12,x 13,x 14,x 15,x 16,x 17,x 18,x 19,x 20,x 21,x 22,x 23,x 24,x 25,x 26,x 27,x 28,x 29,x 30,x 31,x 32,x 33,x 34,x 35,x 36]
theorem upTo_f (F : Fam St rn c p q r) {stops : List UInt8} {k m : Nat} (hm : k + m ≤ 900000) (hin : ∀ j,j < m → ∃ b,isB all (k + j) b ∧ b ∉ stops) (hend : ∃ b,isB all (k + m) b ∧ b ∈ stops) : EF prog ktB (prN prog n rn V all) 259 #[aptr c 0,str stops] (St k) (str (ze8 ((all.drop k).take m))) (St (k + m)) := by
 refine EF.of (by kernel_rfl) func259 rfl ?_
 refine EW.seq (EW.go 5 (by kernel_rfl) ?_)
 refine EW.asS (St k) (by kernel_rfl) ?_
 refine EW.seq (EW.region (by kernel_rfl) ?_)
 refine EO.go 3 5 (by kernel_rfl) ?_
 refine EO.asS (St k) (by kernel_rfl) ?_
 refine EO.op (by kernel_rfl) (op_ld (b := c) (off := 1) (v := num (k : Nat)) rfl underlying3 rfl (by kernel_rfl) (F.get k) rfl) ?_
 refine EO.fin 5 (by kernel_rfl) ?_
 refine EW.asS (St k) (by kernel_rfl) ?_
 refine EW.fill (sl259 c stops k) (by kernel_rfl) ?_
 intro x0
 refine EW.seq (EW.block ?_)
 refine EW.mono (EW.loopI (Q := fun e a' s' => e = .exit 0 ∧ s' = St (k + m) ∧ ∃ x,a' = sl259 c stops k x) (fun u a' s' => ∃ j,u + j = m ∧ s' = St (k + j) ∧ ∃ x,a' = sl259 c stops k x) ?_ m _ _ ⟨0,by omega,rfl,x0,rfl⟩) ?_
 ·
  rintro u a' s' ⟨j,hu,rfl,x,rfl⟩
  have hah := zh7 (n := n) (V := V) (all := all) F (k := k + j) (by omega)
  by_cases hj : j < m
  ·
   obtain ⟨b,⟨hb1,hb2⟩,hb3⟩ := hin j hj
   rw [hb1] at hah
   have h328 := isOne_no (n := n) (rn := rn) (V := V) (all := all) (s := St (k + j)) hb2 hb3
   refine EW.seq (EW.seq (EW.region (by kernel_rfl) ?_))
   refine EO.go 1 5 (by kernel_rfl) ?_
   refine EO.asS (St (k + j)) (by kernel_rfl) ?_
   refine EO.callF #[aptr c 0,num 0] (by kernel_rfl) rfl rfl (by kernel_rfl) (by kernel_rfl) hah ?_
   refine EO.op (by kernel_rfl) (zc5 (u := .int .i32 ((b.toNat : Nat) : Int)) (w := .int .i32 (-1)) rfl (by kernel_rfl) (by kernel_rfl) (bin_neqK (b := true) (by simp))) ?_
   refine EO.go 2 5 (by kernel_rfl) ?_
   refine EO.asS (St (k + j)) (by kernel_rfl) ?_
   refine EO.callF #[aptr c 0,num 0] (by kernel_rfl) rfl rfl (by kernel_rfl) (by kernel_rfl) hah ?_
   refine EO.go 1 5 (by kernel_rfl) ?_
   refine EO.asS (St (k + j)) (by kernel_rfl) ?_
   refine EO.callF #[.int .i32 ((b.toNat : Nat) : Int),str stops] (by kernel_rfl) rfl rfl (by kernel_rfl) (by kernel_rfl) h328 ?_
   refine EO.fin 5 (by kernel_rfl) ?_
   refine EW.asS (St (k + j)) (by kernel_rfl) ?_
   refine EW.condT (by kernel_rfl) (EW.skip ?_)
   refine EW.block ?_
   refine EW.region (by kernel_rfl) ?_
   refine EO.go 3 5 (by kernel_rfl) ?_
   refine EO.asS (St (k + j)) (by kernel_rfl) ?_
   refine EO.op (by kernel_rfl) (op_ld (b := c) (off := 1) (v := num ((k + j : Nat) : Int)) rfl underlying3 rfl (by kernel_rfl) (F.get (k + j)) rfl) ?_
   refine EO.op (by kernel_rfl) (zf3 (i := ((k + j : Nat) : Int)) (j := 1) (r := ((k + (j + 1) : Nat) : Int)) rfl (by kernel_rfl) (by kernel_rfl) (by omega) (by omega)) ?_
   refine EO.go 2 5 (by kernel_rfl) ?_
   refine EO.asS (St (k + j)) (by kernel_rfl) ?_
   refine EO.op (by kernel_rfl) (op_st (b := c) (off := 1) (w := num ((k + (j + 1) : Nat) : Int)) rfl (by kernel_rfl) (by kernel_rfl) rfl rfl (by kernel_rfl) (F.get (k + j)) (by simp)) ?_
   refine EO.nil ?_
   exact ⟨u - 1,by omega,j + 1,by omega,F.set (k + j) (k + (j + 1)),fillX (by kernel_rfl)⟩
  ·
   obtain rfl : j = m := by omega
   obtain ⟨b,⟨hb1,hb2⟩,hb3⟩ := hend
   rw [hb1] at hah
   have h328 := isOne_yes (n := n) (rn := rn) (V := V) (all := all) (s := St (k + j)) hb2 hb3
   refine EW.seq (EW.seq (EW.region (by kernel_rfl) ?_))
   refine EO.go 1 5 (by kernel_rfl) ?_
   refine EO.asS (St (k + j)) (by kernel_rfl) ?_
   refine EO.callF #[aptr c 0,num 0] (by kernel_rfl) rfl rfl (by kernel_rfl) (by kernel_rfl) hah ?_
   refine EO.op (by kernel_rfl) (zc5 (u := .int .i32 ((b.toNat : Nat) : Int)) (w := .int .i32 (-1)) rfl (by kernel_rfl) (by kernel_rfl) (bin_neqK (b := true) (by simp))) ?_
   refine EO.go 2 5 (by kernel_rfl) ?_
   refine EO.asS (St (k + j)) (by kernel_rfl) ?_
   refine EO.callF #[aptr c 0,num 0] (by kernel_rfl) rfl rfl (by kernel_rfl) (by kernel_rfl) hah ?_
   refine EO.go 1 5 (by kernel_rfl) ?_
   refine EO.asS (St (k + j)) (by kernel_rfl) ?_
   refine EO.callF #[.int .i32 ((b.toNat : Nat) : Int),str stops] (by kernel_rfl) rfl rfl (by kernel_rfl) (by kernel_rfl) h328 ?_
   refine EO.fin 5 (by kernel_rfl) ?_
   refine EW.asS (St (k + j)) (by kernel_rfl) ?_
   refine EW.condF (by kernel_rfl) (EW.exit ?_)
   exact ⟨rfl,rfl,fillX (by kernel_rfl)⟩
 rintro e a' s' ⟨rfl,rfl,x,rfl⟩
 have htx := rtext_e (n := n) (rn := rn) (V := V) (all := all) (s := St (k + m)) (k := k) (j := k + m) (by omega)
 rw [show k + m - k = m by omega] at htx
 generalize ze8 ((all.drop k).take m) = tx at htx ⊢
 refine EW.seq (EW.draw (by kernel_rfl) (by kernel_rfl) (by kernel_rfl) ?_)
 iterate 3
  refine ET.q (by kernel_rfl) (by kernel_rfl) ?_
 refine ET.asS (St (k + m)) (by kernel_rfl) ?_
 refine ET.op (by kernel_rfl) (op_ld (b := c) (off := 0) (v := aptr rn 0) rfl underlying84 rfl (by kernel_rfl) (F.get (k + m)) rfl) ?_
 iterate 4
  refine ET.q (by kernel_rfl) (by kernel_rfl) ?_
 refine ET.asS (St (k + m)) (by kernel_rfl) ?_
 refine ET.op (by kernel_rfl) (op_ld (b := c) (off := 1) (v := num ((k + m : Nat) : Int)) rfl underlying3 rfl (by kernel_rfl) (F.get (k + m)) rfl) ?_
 refine ET.callF #[aptr rn 0,num (k : Nat),num ((k + m : Nat) : Int)] (by kernel_rfl) rfl rfl (by kernel_rfl) (by kernel_rfl) htx ?_
 refine ET.q (by kernel_rfl) (by kernel_rfl) ?_
 refine ET.nil ⟨zf8 [(zc6 prog 84 (aptr c 0) (St (k + m)),aptr rn 0),(zc6 prog 3 (aptr c 1) (St (k + m)),num ((k + m : Nat) : Int))] (by kernel_rfl) (lds2 ⟨ld_row F _,rfl⟩ ⟨ld_at F _,rfl⟩),_,_,_,_,_,_,rfl,rfl,?_⟩
 exact EW.ret ⟨.inr rfl,by kernel_rfl,by kernel_rfl⟩
theorem upToBehind_f (F : Fam St rn c p q r) {b0 : UInt8} {k m : Nat} (hm : k + m ≤ 800000) (hin : ∀ j,j < m → ∃ b,isB all (k + j) b ∧ b ∉ [b0]) (hend : isB all (k + m) b0) : EF prog ktB (prN prog n rn V all) 260 #[aptr c 0,str [b0]] (St k) (str (ze8 ((all.drop k).take m))) (St (k + m + 1)) := by
 have hup := upTo_f (n := n) (V := V) F (stops := [b0]) (k := k) (m := m) (by omega) hin ⟨b0,hend,by simp⟩
 generalize ze8 ((all.drop k).take m) = tx at hup ⊢
 refine EF.of (by kernel_rfl) func260 rfl ?_
 refine EW.seq (EW.go 5 (by kernel_rfl) ?_)
 refine EW.seq (EW.region (by kernel_rfl) ?_)
 refine EO.go 2 5 (by kernel_rfl) ?_
 refine EO.asS (St k) (by kernel_rfl) ?_
 refine EO.callF #[aptr c 0,str [b0]] (by kernel_rfl) rfl rfl (by kernel_rfl) (by kernel_rfl) hup ?_
 refine EO.fin 5 (by kernel_rfl) ?_
 refine EW.asS (St (k + m)) (by kernel_rfl) ?_
 refine EW.seq (EW.region (by kernel_rfl) ?_)
 refine EO.go 3 5 (by kernel_rfl) ?_
 refine EO.asS (St (k + m)) (by kernel_rfl) ?_
 refine EO.op (by kernel_rfl) (op_ld (b := c) (off := 1) (v := num ((k + m : Nat) : Int)) rfl underlying3 rfl (by kernel_rfl) (F.get (k + m)) rfl) ?_
 refine EO.go 2 5 (by kernel_rfl) ?_
 refine EO.op (by kernel_rfl) (zf3 (i := ((k + m : Nat) : Int)) (j := 1) (r := ((k + m + 1 : Nat) : Int)) rfl (by kernel_rfl) (by kernel_rfl) (by omega) (by omega)) ?_
 refine EO.go 2 5 (by kernel_rfl) ?_
 refine EO.asS (St (k + m)) (by kernel_rfl) ?_
 refine EO.op (by kernel_rfl) (op_st (b := c) (off := 1) (w := num ((k + m + 1 : Nat) : Int)) rfl (by kernel_rfl) (by kernel_rfl) rfl rfl (by kernel_rfl) (F.get (k + m)) (by simp)) ?_
 refine EO.nil ?_
 refine EW.asS (St (k + m + 1)) (F.set (k + m) (k + m + 1)) ?_
 refine EW.seq (EW.go 5 (by kernel_rfl) ?_)
 exact EW.ret ⟨.inr rfl,by kernel_rfl,by kernel_rfl⟩
abbrev spaceB : List UInt8 := [9,10,12,13,32]
theorem skipSpace_f (F : Fam St rn c p q r) {k : Nat} (hk : k ≤ 800000) {b : UInt8} (hb : isB all k b) (hs : b ∉ spaceB) : EF prog ktB (prN prog n rn V all) 257 #[aptr c 0] (St k) (.tuple #[]) (St k) := by
 have hah := zh7 (n := n) (V := V) (all := all) F (k := k) (by omega)
 rw [hb.1] at hah
 have h328 := isOne_no (n := n) (rn := rn) (V := V) (all := all) (s := St k) hb.2 hs
 refine EF.of (by kernel_rfl) func257 rfl ?_
 refine EW.block ?_
 refine EW.loop ?_
 refine EW.seq (EW.seq (EW.region (by kernel_rfl) ?_))
 refine EO.go 1 5 (by kernel_rfl) ?_
 refine EO.asS (St k) (by kernel_rfl) ?_
 refine EO.callF #[aptr c 0,num 0] (by kernel_rfl) rfl rfl (by kernel_rfl) (by kernel_rfl) hah ?_
 refine EO.callF #[.int .i32 ((b.toNat : Nat) : Int),str spaceB] (by kernel_rfl) rfl rfl (by kernel_rfl) (by kernel_rfl) h328 ?_
 refine EO.nil ?_
 refine EW.condF (by kernel_rfl) (EW.exit ?_)
 exact ⟨.inl rfl,by kernel_rfl,by kernel_rfl⟩
def sl324 (c : Nat) (x : Nat → Value) : TL := [aptr c 0,x 1, .bool false,x 3,x 4,x 5,x 6,x 7,x 8,x 9,x 10,x 11,x 12,x 13,x 14,x 15,x 16]
theorem skipToAttr_f (F : Fam St rn c p q r) {k m : Nat} (hk : k + m ≤ 800000) (hin : ∀ j,j < m → isB all (k + j) 32) {b : UInt8} (hb : isB all (k + m) b) (hs : b ∉ spaceB ++ [47]) : EF prog ktB (prN prog n rn V all) 324 #[aptr c 0] (St k) (.bool false) (St (k + m)) := by
 refine EF.of (by kernel_rfl) func324 rfl ?_
 refine EW.seq (EW.go 5 (by kernel_rfl) ?_)
 refine EW.asS (St k) (by kernel_rfl) ?_
 refine EW.fill (sl324 c) (by kernel_rfl) ?_
 intro x0
 refine EW.seq (EW.block ?_)
 refine EW.mono (EW.loopI (Q := fun e a' s' => e = .exit 0 ∧ s' = St (k + m) ∧ ∃ x,a' = sl324 c x) (fun u a' s' => ∃ j,u + j = m ∧ s' = St (k + j) ∧ ∃ x,a' = sl324 c x) ?_ m _ _ ⟨0,by omega,rfl,x0,rfl⟩) ?_
 ·
  rintro u a' s' ⟨j,hu,rfl,x,rfl⟩
  have hah := zh7 (n := n) (V := V) (all := all) F (k := k + j) (by omega)
  by_cases hj : j < m
  ·
   obtain ⟨hb1,hb2⟩ := hin j hj
   rw [hb1] at hah
   have h328 := isOne_yes (n := n) (rn := rn) (V := V) (all := all) (s := St (k + j)) hb2 (stops := spaceB ++ [47]) (by decide)
   refine EW.seq (EW.seq (EW.region (by kernel_rfl) ?_))
   refine EO.go 1 5 (by kernel_rfl) ?_
   refine EO.asS (St (k + j)) (by kernel_rfl) ?_
   refine EO.callF #[aptr c 0,num 0] (by kernel_rfl) rfl rfl (by kernel_rfl) (by kernel_rfl) hah ?_
   refine EO.callF #[.int .i32 (((32 : UInt8).toNat : Nat) : Int),str (spaceB ++ [47])] (by kernel_rfl) rfl rfl (by kernel_rfl) (by kernel_rfl) h328 ?_
   refine EO.nil ?_
   refine EW.condT (by kernel_rfl) (EW.skip ?_)
   refine EW.block ?_
   refine EW.seq (EW.region (by kernel_rfl) ?_)
   refine EO.go 1 5 (by kernel_rfl) ?_
   refine EO.asS (St (k + j)) (by kernel_rfl) ?_
   refine EO.callF #[aptr c 0,num 0] (by kernel_rfl) rfl rfl (by kernel_rfl) (by kernel_rfl) hah ?_
   refine EO.fin 5 (by kernel_rfl) ?_
   refine EW.asS (St (k + j)) (by kernel_rfl) ?_
   refine EW.region (by kernel_rfl) ?_
   refine EO.go 3 5 (by kernel_rfl) ?_
   refine EO.asS (St (k + j)) (by kernel_rfl) ?_
   refine EO.op (by kernel_rfl) (op_ld (b := c) (off := 1) (v := num ((k + j : Nat) : Int)) rfl underlying3 rfl (by kernel_rfl) (F.get (k + j)) rfl) ?_
   refine EO.op (by kernel_rfl) (zf3 (i := ((k + j : Nat) : Int)) (j := 1) (r := ((k + (j + 1) : Nat) : Int)) rfl (by kernel_rfl) (by kernel_rfl) (by omega) (by omega)) ?_
   refine EO.go 2 5 (by kernel_rfl) ?_
   refine EO.asS (St (k + j)) (by kernel_rfl) ?_
   refine EO.op (by kernel_rfl) (op_st (b := c) (off := 1) (w := num ((k + (j + 1) : Nat) : Int)) rfl (by kernel_rfl) (by kernel_rfl) rfl rfl (by kernel_rfl) (F.get (k + j)) (by simp)) ?_
   refine EO.nil ?_
   exact ⟨u - 1,by omega,j + 1,by omega,F.set (k + j) (k + (j + 1)),fillX (by kernel_rfl)⟩
  ·
   obtain rfl : j = m := by omega
   rw [hb.1] at hah
   have h328 := isOne_no (n := n) (rn := rn) (V := V) (all := all) (s := St (k + j)) hb.2 hs
   refine EW.seq (EW.seq (EW.region (by kernel_rfl) ?_))
   refine EO.go 1 5 (by kernel_rfl) ?_
   refine EO.asS (St (k + j)) (by kernel_rfl) ?_
   refine EO.callF #[aptr c 0,num 0] (by kernel_rfl) rfl rfl (by kernel_rfl) (by kernel_rfl) hah ?_
   refine EO.callF #[.int .i32 ((b.toNat : Nat) : Int),str (spaceB ++ [47])] (by kernel_rfl) rfl rfl (by kernel_rfl) (by kernel_rfl) h328 ?_
   refine EO.nil ?_
   refine EW.condF (by kernel_rfl) (EW.exit ?_)
   exact ⟨rfl,rfl,fillX (by kernel_rfl)⟩
 rintro e a' s' ⟨rfl,rfl,x,rfl⟩
 refine EW.seq (EW.go 5 (by kernel_rfl) ?_)
 exact EW.ret ⟨.inr rfl,by kernel_rfl,by kernel_rfl⟩
theorem takeValue_f (F : Fam St rn c p q r) {k m : Nat} (hk : k + m ≤ 700000) (hq : isB all k 39) (hin : ∀ j,j < m → ∃ b,isB all (k + 1 + j) b ∧ b ∉ ([39] : List UInt8)) (hend : isB all (k + 1 + m) 39) : EF prog ktB (prN prog n rn V all) 366 #[aptr c 0] (St k) (str (ze8 ((all.drop (k + 1)).take m))) (St (k + 1 + m + 1)) := by
 have hah := zh7 (n := n) (V := V) (all := all) F (k := k) (by omega)
 rw [hq.1] at hah
 have hup := upToBehind_f (n := n) (V := V) F (k := k + 1) (m := m) (by omega) hin hend
 generalize ze8 ((all.drop (k + 1)).take m) = tx at hup ⊢
 refine EF.of (by kernel_rfl) func366 rfl ?_
 refine EW.seq (EW.go 5 (by kernel_rfl) ?_)
 refine EW.seq (EW.seq (EW.region (by kernel_rfl) ?_))
 refine EO.go 1 5 (by kernel_rfl) ?_
 refine EO.asS (St k) (by kernel_rfl) ?_
 refine EO.callF #[aptr c 0,num 0] (by kernel_rfl) rfl rfl (by kernel_rfl) (by kernel_rfl) hah ?_
 refine EO.fin 5 (by kernel_rfl) ?_
 refine EW.asS (St k) (by kernel_rfl) ?_
 refine EW.seq (EW.go 5 (by kernel_rfl) ?_)
 refine EW.block ?_
 refine EW.seq (EW.go 9 (by kernel_rfl) ?_)
 refine EW.asS (St k) (by kernel_rfl) ?_
 refine EW.condT (by kernel_rfl) ?_
 refine EW.seq (EW.region (by kernel_rfl) ?_)
 refine EO.go 3 5 (by kernel_rfl) ?_
 refine EO.asS (St (k)) (by kernel_rfl) ?_
 refine EO.op (by kernel_rfl) (op_ld (b := c) (off := 1) (v := num ((k : Nat) : Int)) rfl underlying3 rfl (by kernel_rfl) (F.get (k)) rfl) ?_
 refine EO.op (by kernel_rfl) (zf3 (i := ((k : Nat) : Int)) (j := 1) (r := ((k + 1 : Nat) : Int)) rfl (by kernel_rfl) (by kernel_rfl) (by omega) (by omega)) ?_
 refine EO.go 2 5 (by kernel_rfl) ?_
 refine EO.asS (St (k)) (by kernel_rfl) ?_
 refine EO.op (by kernel_rfl) (op_st (b := c) (off := 1) (w := num ((k + 1 : Nat) : Int)) rfl (by kernel_rfl) (by kernel_rfl) rfl rfl (by kernel_rfl) (F.get (k)) (by simp)) ?_
 refine EO.nil ?_
 refine EW.asS (St (k + 1)) (F.set k (k + 1)) ?_
 refine EW.seq (EW.region (by kernel_rfl) ?_)
 refine EO.go 3 9 (by kernel_rfl) ?_
 refine EO.asS (St (k + 1)) (by kernel_rfl) ?_
 refine EO.callF #[aptr c 0,str [39]] (by kernel_rfl) rfl rfl (by kernel_rfl) (by kernel_rfl) hup ?_
 refine EO.fin 5 (by kernel_rfl) ?_
 exact EW.ret ⟨.inr rfl,by kernel_rfl,by kernel_rfl⟩
end
end
end Go.Proofs.YtgcaionclkbehaaGreatDoor
