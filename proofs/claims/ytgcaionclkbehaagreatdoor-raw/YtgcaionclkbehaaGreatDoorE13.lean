import Derived.Test.YtgcaionclkbehaaGreatDoorB1
import Derived.Room.MakeNoZero
set_option linter.all false
set_option maxRecDepth 100000
set_option maxHeartbeats 2000000
namespace Go.Proofs.YtgcaionclkbehaaGreatDoor
open Tryz
section
open Go.Conc Go.RowKit
theorem zg6 (x : Option Addr) (n c : Nat) (w : World) (es : Array Event) : (Builtin.cap_ #[55] 3 #[.slice x n c]).events prog w es = es := by simp [Builtin.cap_,go_sem]
theorem zj9 (x : Option Addr) (n c : Nat) (w : World) (es : Array Event) : (Instr.sliceAt 55 (.slice x n c) none (some (.int .i64 0)) none).events prog w es = es := by
 have hi : (prog.info? 5).isSome = true := by kernel_rfl
 obtain ⟨inf,hi⟩ := Option.isSome_iff_exists.1 hi
 simp [Instr.sliceAt,Instr.slice,Instr.sliceBounds,Instr.sliceBound,underlying,underlying55,asIntOf,sizeOf,typeInfo,hi]
theorem zf1 (x : Option Addr) (c : Nat) (w : World) (es : Array Event) : (Builtin.copy_ #[55,55] 3 #[.slice x 0 c, .slice none 0 0]).events prog w es = es := by
 have hi : (prog.info? 5).isSome = true := by kernel_rfl
 obtain ⟨inf,hi⟩ := Option.isSome_iff_exists.1 hi
 cases x <;> simp [Builtin.copy_,underlying,underlying55,sizeOf,typeInfo,hi,Builtin.lenOf,Builtin.firstCells,storeCells,loadCells,loadCellsFrom]
theorem events_mnz {P : Program} (w : World) (ps : Array TypeId) (t e : TypeId) (ht : P.underlying t = some (.slice e)) (n : Nat) (hn : n ≤ 281474976710656) (es : Array Event) : ∃ evs,(Extern.BytealgMakeNoZero.makeNoZero ps #[t] #[.int .i64 n]).events P w es = es ++ evs ∧ ∀ ev ∈ evs,ev = ⟨.mark .noRoom,false,true⟩ := by
 have hdef : Extern.BytealgMakeNoZero.makeNoZero ps #[t] #[.int .i64 n] =
   (do
    let .slice elem ← underlying t | stuck _
    if (n : Int) < 0 || (n : Int) > 2 ^ 48 then runtimePanic (.error _)
    let cap ← choose (.appendCap (n : Int).toNat 0 elem)
    askRoom cap
    let bytes ← choose (.extern _ 0)
    let a ← newRow elem (Extern.BytealgMakeNoZero.digits cap bytes #[])
    pure (.slice (some a) (n : Int).toNat cap)) := rfl
 have h1 : ¬ (n : Int) < 0 := by omega
 have h2 : ¬ (281474976710656 : Int) < (n : Int) := by omega
 by_cases hB : grownCap w n 0 e > roomBytes
 ·
  refine ⟨#[⟨.mark .noRoom,false,true⟩],?_,by simp⟩
  rw [hdef]
  simp [run_underlying ht,h1,h2,Question.forced,newRow,askRoom,underlying,ht]
  simpa [grownCap] using hB
 ·
  refine ⟨#[],?_,by simp⟩
  rw [hdef]
  simp [run_underlying ht,h1,h2,Question.forced,newRow,askRoom,underlying,ht]
  simpa [grownCap] using hB
section
variable {ι : Type} {R : ι → World → World → Prop} {D : ι → World → World → Array Event → Prop} {X : ι → Goroutine → World → Prop} {i : ι} {M : World → Nat → Prop} {O : Nat → Prop} {N0 : Nat} {H : List (Nat × Obj) → World → Prop} {w : World} {l rl : List (Nat × Obj)} {Bb : Nat} {p v : Value} {n : Nat} {xs : List Value}
variable {fn : FuncId} {Q : PostI ι} {a : Act} {vs : ι}
theorem opsI_mnzC (C : ClosedI prog true R D X) (Z : Co KTs N0 M O (R vs) (D vs) H) {ops : Array Oper} {i : Nat} {rest : List Nat} {o : Oper} {x : Operand} {ats : Array TypeId} {z : Int} (n : Nat) (hn : n ≤ 1000000000) (ho : ops[i]? = some o) (hw : Region.wanted o (yielded ops a.tmps) = true) (hop : o.op = .call { callee := .value (.func 378),args := #[x],argTypes := ats }) (hx : a.eval x = .int .i64 z) (hz : z = (n : Int)) (hF : H l w)
  (h : ∀ b cs w',n ≤ cs.size → cs.size ≤ maxLen → H ((b, .cells cs 5) :: l) w' → OpsI X fn ops rest vs Q (a.put o.dst (.slice (some ⟨b,0,none⟩) n cs.size)) w') : OpsI X fn ops (i :: rest) vs Q a w := fun b k cs hb' hk hc => C.step rfl fun w₁ h₁ => by
 subst hz
 have hF₁ := Z.rely hF h₁
 have hF₂ : H l w₁.drew.drew := Z.rely (Z.rely hF₁ (Z.env.drawR _)) (Z.env.drawR _)
 obtain ⟨cs',hrun,h1,h2,_⟩ := Lib.run_makeNoZero_cap (P := prog) w₁ #[3] 55 5 underlying55 n (by omega)
 obtain ⟨evs,hev,hevs⟩ := events_mnz (P := prog) w₁ #[3] 55 5 underlying55 n (by omega) #[⟨.mark (.extern 378),false,true⟩]
 have hargs : (#[x] : Array Operand).map a.eval = #[.int .i64 (n : Int)] := by simp [hx]
 rw [stepG_entry ho hw hk hop func378 (by rfl) (by rfl) (by kernel_rfl) (e := Extern.BytealgMakeNoZero.makeNoZero #[3] #[55]) (by kernel_rfl) (by rw [hargs]; exact hrun) (evs := evs) (by rw [hargs]; exact hev) (fun y hy => by rw [hevs y hy]; simp)]
 have hO : Own KTs M w₁.drew.drew (w₁.drew.drew.alloc (.cells cs' 5)) := Own.alloc (by simp [KTs])
 have hO' : Own KTs M w₁ (w₁.drew.drew.alloc (.cells cs' 5)) := ⟨hO.tape,hO.os,hO.output,hO.grow,fun b hb hm => heap_alloc_old w₁.drew.drew _ b hb,fun b o' hh hk => (hO.kt b o' hh hk)⟩
 refine ⟨Z.env.does (Z.size hF₁) hO' fun ev hl => ?_,h _ cs' _ h1 (h2 (by unfold maxLen; omega)) (Z.grown hF₂ hO) b k cs hb' hk hc⟩
 rw [hevs ev hl]
 exact .inr (.inr ⟨by simp [MemAct.ofEvent,MemAct.touch?],by simp,by simp,by simp [MemAct.ofEvent]⟩)
end
section
variable {ι : Type} {R : ι → World → World → Prop} {D : ι → World → World → Array Event → Prop} {X : ι → Goroutine → World → Prop} {i : ι} {M : World → Nat → Prop} {O : Nat → Prop} {N0 : Nat} {H : List (Nat × Obj) → World → Prop} {w : World} {l rl : List (Nat × Obj)} {Bb : Nat} {p v : Value} {n : Nat} {xs : List Value}
theorem grow_x (C : ClosedI prog true R D X) (T : ∀ i,Terms (R i) (D i)) (Z : Co KTs N0 M O (R i) (D i) H) (n : Nat) (hn : n ≤ 1000000000) (hF : H ((Bb,blO p (.slice none 0 0)) :: l) w) :
  CallsI prog X 344 #[.pointer (some ⟨Bb,0,none⟩), .int .i64 (n : Int)] i w (fun i' x w' => i' = i ∧ x = .tuple #[] ∧ ∃ g cs,n ≤ cs.size ∧ cs.size ≤ maxLen ∧ H ((g, .cells cs 5) :: (Bb,blO p (.slice (some ⟨g,0,none⟩) 0 cs.size)) :: l) w') := by
 have u9 := underlying9
 have hwn : IntKind.i64.wrap (n : Int) = (n : Int) := by rw [IntKind.wrap_i64]; omega
 have hw0 : IntKind.i64.wrap 0 = 0 := by decide
 refine zc2 func344 (by rfl) rfl ?_
 simp only [ntmps344,List.size_toArray,List.length_cons,List.length_nil,Nat.reduceAdd,Nat.reduceSub,Array.replicate_succ,Array.replicate_zero,List.push_toArray,List.append_toArray,List.nil_append,List.cons_append]
 refine za5 C T ?_
 refine zi2 C Z.env.drawD (by kernel_rfl) (n := 16) rfl (by kernel_rfl) (fun J vs' a' w' => vs' = i ∧ ∃ (g : Nat) (cs : Array Value),H ((Bb,blO p (.slice none 0 0)) :: (if J 8 = true then (g, .cells cs 5) :: l else l)) w' ∧ (J 8 = true → n ≤ cs.size ∧ cs.size ≤ maxLen) ∧ ((J 14 = true → J 8 = true)) ∧ ((J 15 = true → J 8 = true)) ∧ a' = ⟨#[.pointer (some ⟨Bb,0,none⟩), .int .i64 (n : Int),undef,undef,(if J 15 = true then .slice (some ⟨g,0,none⟩) 0 cs.size else undef),(if J 0 = true then .pointer (some ⟨Bb,0,none⟩) else undef),(if J 1 = true then .pointer (some ⟨Bb,0,none⟩) else undef),(if J 2 = true then .pointer (some ⟨Bb,1,none⟩) else undef),(if J 3 = true then .slice none 0 0 else undef),(if J 4 = true then .int .i64 0 else undef),(if J 5 = true then .int .i64 0 else undef),(if J 6 = true then .int .i64 (n : Int) else undef),(if J 7 = true then .int .i64 (n : Int) else undef),(if J 8 = true then .slice (some ⟨g,0,none⟩) n cs.size else undef),(if J 9 = true then .pointer (some ⟨Bb,0,none⟩) else undef),(if J 10 = true then .pointer (some ⟨Bb,0,none⟩) else undef),(if J 11 = true then .pointer (some ⟨Bb,1,none⟩) else undef),(if J 12 = true then .slice none 0 0 else undef),(if J 13 = true then .int .i64 0 else undef),(if J 14 = true then .slice (some ⟨g,0,none⟩) 0 cs.size else undef),undef,undef,undef,undef,undef,undef,undef,undef,undef,undef], []⟩) (fun w₁ hR => ⟨rfl,0,#[],?_,by simp,by simp,by simp,rfl⟩) ?_ ?_ ?_
 ·
  simpa using Z.rely (Z.rely hF hR) (Z.env.drawR _)
 ·
  rintro J J' vs' a' w' hJ ⟨rfl,g,cs,hF,hC,hd14,hd15,rfl⟩
  simp only [hJ 0 (by decide),hJ 1 (by decide),hJ 2 (by decide),hJ 3 (by decide),hJ 4 (by decide),hJ 5 (by decide),hJ 6 (by decide),hJ 7 (by decide),hJ 8 (by decide),hJ 9 (by decide),hJ 10 (by decide),hJ 11 (by decide),hJ 12 (by decide),hJ 13 (by decide),hJ 14 (by decide),hJ 15 (by decide)] at hF hC hd14 hd15
  refine ⟨rfl,g,cs,hF,hC,hd14,hd15,?_⟩
  simp only [hJ 0 (by decide),hJ 1 (by decide),hJ 2 (by decide),hJ 3 (by decide),hJ 4 (by decide),hJ 5 (by decide),hJ 6 (by decide),hJ 7 (by decide),hJ 8 (by decide),hJ 9 (by decide),hJ 10 (by decide),hJ 11 (by decide),hJ 12 (by decide),hJ 13 (by decide),hJ 14 (by decide),hJ 15 (by decide)]
 ·
  rintro J j vs' a' w' ⟨rfl,g,cs,hF,hC,hd14,hd15,rfl⟩ hj hJ hr rest hK
  match j,hj with
  | 0,_ =>
   have hr := hr _ rfl
   simp [Region.binds] at hr
   try simp only [hr,if_true,reduceIte]
   refine za1 C T rfl (by rfl) fun _ Kx hKx => ?_
   go_simp
   refine hKx _ ?_ (by first | (simp [go_sem]; done) | (simp [go_sem, *]; done) | (simp [go_sem,za7,za8,za9,za6,ev_ix,zg4,zg6,zj9,zf1, *]; done))
   clear hKx Kx
   try walk_nrm
   refine hK _ _ _ ⟨rfl,g,cs,by simpa using hF,by first | (simpa using hC; done) | (simp_all; done),by first | (simpa using hd14; done) | (simp_all; done),by first | (simpa using hd15; done) | (simp_all; done),?_⟩
   simp [*]
  | 1,_ =>
   have hr := hr _ rfl
   simp [Region.binds] at hr
   try simp only [hr,if_true,reduceIte]
   refine za1 C T rfl (by rfl) fun _ Kx hKx => ?_
   go_simp
   refine hKx _ ?_ (by first | (simp [go_sem]; done) | (simp [go_sem, *]; done) | (simp [go_sem,za7,za8,za9,za6,ev_ix,zg4,zg6,zj9,zf1, *]; done))
   clear hKx Kx
   try walk_nrm
   refine hK _ _ _ ⟨rfl,g,cs,by simpa using hF,by first | (simpa using hC; done) | (simp_all; done),by first | (simpa using hd14; done) | (simp_all; done),by first | (simpa using hd15; done) | (simp_all; done),?_⟩
   simp [*]
  | 2,_ =>
   have hr := hr _ rfl
   simp [Region.binds] at hr
   try simp only [hr,if_true,reduceIte]
   refine za1 C T rfl (by rfl) fun _ Kx hKx => ?_
   go_simp
   refine hKx _ ?_ (by first | (simp [go_sem]; done) | (simp [go_sem, *]; done) | (simp [go_sem,za7,za8,za9,za6,ev_ix,zg4,zg6,zj9,zf1, *]; done))
   clear hKx Kx
   try walk_nrm
   refine hK _ _ _ ⟨rfl,g,cs,by simpa using hF,by first | (simpa using hC; done) | (simp_all; done),by first | (simpa using hd14; done) | (simp_all; done),by first | (simpa using hd15; done) | (simp_all; done),?_⟩
   simp [*]
  | 3,_ =>
   have hr := hr _ rfl
   simp [Region.binds] at hr
   try simp only [hr,if_true,reduceIte]
   refine zm7 C Z (v := .slice none 0 0) (b := Bb) (off := 1) 0 rfl (by rfl) rfl (by simp [Act.eval, *]) underlying55 rfl hF rfl (by rfl) fun _ hF => ?_
   try walk_nrm
   refine hK _ _ _ ⟨rfl,g,cs,by simpa using hF,by first | (simpa using hC; done) | (simp_all; done),by first | (simpa using hd14; done) | (simp_all; done),by first | (simpa using hd15; done) | (simp_all; done),?_⟩
   simp [*]
  | 4,_ =>
   have hr := hr _ rfl
   simp [Region.binds] at hr
   try simp only [hr,if_true,reduceIte]
   refine za1 C T rfl (by rfl) fun _ Kx hKx => ?_
   go_simp
   refine hKx _ ?_ (by first | (simp [go_sem]; done) | (simp [go_sem, *]; done) | (simp [go_sem,za7,za8,za9,za6,ev_ix,zg4,zg6,zj9,zf1, *]; done))
   clear hKx Kx
   try walk_nrm
   refine hK _ _ _ ⟨rfl,g,cs,by simpa using hF,by first | (simpa using hC; done) | (simp_all; done),by first | (simpa using hd14; done) | (simp_all; done),by first | (simpa using hd15; done) | (simp_all; done),?_⟩
   simp [*]
  | 5,_ =>
   have hr := hr _ rfl
   simp [Region.binds] at hr
   try simp only [hr,if_true,reduceIte]
   refine za1 C T rfl (by rfl) fun _ Kx hKx => ?_
   go_simp
   refine hKx _ ?_ (by first | (simp [go_sem]; done) | (simp [go_sem, *]; done) | (simp [go_sem,za7,za8,za9,za6,ev_ix,zg4,zg6,zj9,zf1, *]; done))
   clear hKx Kx
   try walk_nrm
   refine hK _ _ _ ⟨rfl,g,cs,by simpa using hF,by first | (simpa using hC; done) | (simp_all; done),by first | (simpa using hd14; done) | (simp_all; done),by first | (simpa using hd15; done) | (simp_all; done),?_⟩
   simp [*]
  | 6,_ =>
   have hr := hr _ rfl
   simp [Region.binds] at hr
   try simp only [hr,if_true,reduceIte]
   refine za1 C T rfl (by rfl) fun _ Kx hKx => ?_
   go_simp
   refine hKx _ ?_ (by first | (simp [go_sem]; done) | (simp [go_sem, *]; done) | (simp [go_sem,za7,za8,za9,za6,ev_ix,zg4,zg6,zj9,zf1, *]; done))
   clear hKx Kx
   try walk_nrm
   refine hK _ _ _ ⟨rfl,g,cs,by simpa using hF,by first | (simpa using hC; done) | (simp_all; done),by first | (simpa using hd14; done) | (simp_all; done),by first | (simpa using hd15; done) | (simp_all; done),?_⟩
   simp [*]
  | 7,_ =>
   have hr := hr _ rfl
   simp [Region.binds] at hr
   try simp only [hr,if_true,reduceIte]
   refine za1 C T rfl (by rfl) fun _ Kx hKx => ?_
   go_simp
   refine hKx _ ?_ (by first | (simp [go_sem]; done) | (simp [go_sem, *]; done) | (simp [go_sem,za7,za8,za9,za6,ev_ix,zg4,zg6,zj9,zf1, *]; done))
   clear hKx Kx
   try walk_nrm
   refine hK _ _ _ ⟨rfl,g,cs,by simpa using hF,by first | (simpa using hC; done) | (simp_all; done),by first | (simpa using hd14; done) | (simp_all; done),by first | (simpa using hd15; done) | (simp_all; done),?_⟩
   simp [*]
  | 8,_ =>
   have hr := hr _ rfl
   simp [Region.binds] at hr
   try simp only [hr,if_true,reduceIte]
   have hf14 : J 14 = false := by cases hq : J 14 with | false => rfl | true => rw [hd14 hq] at hJ; cases hJ
   have hf15 : J 15 = false := by cases hq : J 15 with | false => rfl | true => rw [hd15 hq] at hJ; cases hJ
   simp only [hJ,Bool.false_eq_true,if_false,reduceIte] at hF
   refine opsI_mnzC C Z n hn rfl (by rfl) rfl (by simp [Act.eval, *]) rfl hF fun g cs w2 h1 h2 hF => ?_
   try walk_nrm
   refine hK _ _ _ ⟨rfl,g,cs,by simpa using Z.perm hF (List.Perm.swap _ _ _),fun _ => ⟨h1,h2⟩,by simp [hf14],by simp [hf15],?_⟩
   simp [*]
   --done
  | 9,_ =>
   have hr := hr _ rfl
   simp [Region.binds] at hr
   try simp only [hr,if_true,reduceIte]
   refine za1 C T rfl (by rfl) fun _ Kx hKx => ?_
   go_simp
   refine hKx _ ?_ (by first | (simp [go_sem]; done) | (simp [go_sem, *]; done) | (simp [go_sem,za7,za8,za9,za6,ev_ix,zg4,zg6,zj9,zf1, *]; done))
   clear hKx Kx
   try walk_nrm
   refine hK _ _ _ ⟨rfl,g,cs,by simpa using hF,by first | (simpa using hC; done) | (simp_all; done),by first | (simpa using hd14; done) | (simp_all; done),by first | (simpa using hd15; done) | (simp_all; done),?_⟩
   simp [*]
  | 10,_ =>
   have hr := hr _ rfl
   simp [Region.binds] at hr
   try simp only [hr,if_true,reduceIte]
   refine za1 C T rfl (by rfl) fun _ Kx hKx => ?_
   go_simp
   refine hKx _ ?_ (by first | (simp [go_sem]; done) | (simp [go_sem, *]; done) | (simp [go_sem,za7,za8,za9,za6,ev_ix,zg4,zg6,zj9,zf1, *]; done))
   clear hKx Kx
   try walk_nrm
   refine hK _ _ _ ⟨rfl,g,cs,by simpa using hF,by first | (simpa using hC; done) | (simp_all; done),by first | (simpa using hd14; done) | (simp_all; done),by first | (simpa using hd15; done) | (simp_all; done),?_⟩
   simp [*]
  | 11,_ =>
   have hr := hr _ rfl
   simp [Region.binds] at hr
   try simp only [hr,if_true,reduceIte]
   refine za1 C T rfl (by rfl) fun _ Kx hKx => ?_
   go_simp
   refine hKx _ ?_ (by first | (simp [go_sem]; done) | (simp [go_sem, *]; done) | (simp [go_sem,za7,za8,za9,za6,ev_ix,zg4,zg6,zj9,zf1, *]; done))
   clear hKx Kx
   try walk_nrm
   refine hK _ _ _ ⟨rfl,g,cs,by simpa using hF,by first | (simpa using hC; done) | (simp_all; done),by first | (simpa using hd14; done) | (simp_all; done),by first | (simpa using hd15; done) | (simp_all; done),?_⟩
   simp [*]
  | 12,_ =>
   have hr := hr _ rfl
   simp [Region.binds] at hr
   try simp only [hr,if_true,reduceIte]
   refine zm7 C Z (v := .slice none 0 0) (b := Bb) (off := 1) 0 rfl (by rfl) rfl (by simp [Act.eval, *]) underlying55 rfl hF rfl (by rfl) fun _ hF => ?_
   try walk_nrm
   refine hK _ _ _ ⟨rfl,g,cs,by simpa using hF,by first | (simpa using hC; done) | (simp_all; done),by first | (simpa using hd14; done) | (simp_all; done),by first | (simpa using hd15; done) | (simp_all; done),?_⟩
   simp [*]
  | 13,_ =>
   have hr := hr _ rfl
   simp [Region.binds] at hr
   try simp only [hr,if_true,reduceIte]
   refine za1 C T rfl (by rfl) fun _ Kx hKx => ?_
   go_simp
   refine hKx _ ?_ (by first | (simp [go_sem]; done) | (simp [go_sem, *]; done) | (simp [go_sem,za7,za8,za9,za6,ev_ix,zg4,zg6,zj9,zf1, *]; done))
   clear hKx Kx
   try walk_nrm
   refine hK _ _ _ ⟨rfl,g,cs,by simpa using hF,by first | (simpa using hC; done) | (simp_all; done),by first | (simpa using hd14; done) | (simp_all; done),by first | (simpa using hd15; done) | (simp_all; done),?_⟩
   simp [*]
  | 14,_ =>
   have hr := hr _ rfl
   simp [Region.binds] at hr
   try simp only [hr,if_true,reduceIte]
   refine za1 C T rfl (by rfl) fun _ Kx hKx => ?_
   go_simp
   refine hKx _ ?_ (by first | (simp [go_sem]; done) | (simp [go_sem, *]; done) | (simp [go_sem,za7,za8,za9,za6,ev_ix,zg4,zg6,zj9,zf1, *]; done))
   clear hKx Kx
   try walk_nrm
   refine hK _ _ _ ⟨rfl,g,cs,by simpa using hF,by first | (simpa using hC; done) | (simp_all; done),by first | (simpa using hd14; done) | (simp_all; done),by first | (simpa using hd15; done) | (simp_all; done),?_⟩
   simp [*]
  | 15,_ =>
   have hr := hr _ rfl
   simp [Region.binds] at hr
   try simp only [hr,if_true,reduceIte]
   refine za1 C T rfl (by rfl) fun _ Kx hKx => ?_
   go_simp
   refine hKx _ ?_ (by first | (simp [go_sem]; done) | (simp [go_sem, *]; done) | (simp [go_sem,za7,za8,za9,za6,ev_ix,zg4,zg6,zj9,zf1, *]; done))
   clear hKx Kx
   try walk_nrm
   refine hK _ _ _ ⟨rfl,g,cs,by simpa using hF,by first | (simpa using hC; done) | (simp_all; done),by first | (simpa using hd14; done) | (simp_all; done),by first | (simpa using hd15; done) | (simp_all; done),?_⟩
   simp [*]
  | m + 16,h => exact absurd h (by omega)
 ·
  rintro J vs' a' w' hJ ⟨rfl,g,cs,hF,hC,hd14,hd15,rfl⟩
  simp only [hJ 0 (by decide),hJ 1 (by decide),hJ 2 (by decide),hJ 3 (by decide),hJ 4 (by decide),hJ 5 (by decide),hJ 6 (by decide),hJ 7 (by decide),hJ 8 (by decide),hJ 9 (by decide),hJ 10 (by decide),hJ 11 (by decide),hJ 12 (by decide),hJ 13 (by decide),hJ 14 (by decide),hJ 15 (by decide),if_true,reduceIte,true_implies,forall_const] at hF hC hd14 hd15 ⊢
  refine za3 C T ?_
  show wpI _ _ _ _ _ _ _
  refine za5 C T ?_
  refine za2 C T ?_
  simp only [szR,Nat.reduceAdd]
  iterate 4
   refine za1 C T rfl (by rfl) fun _ Kx hKx => ?_
   go_simp
   refine hKx _ ?_ (by first | (simp [go_sem]; done) | (simp [go_sem, *]; done) | (simp [go_sem,za7,za8,za9,za6,ev_ix,zg4,zg6,zj9,zf1, *]; done))
   clear hKx Kx
   try walk_nrm
  refine zm7 C (Z) (v := .slice none 0 0) 0 rfl (by rfl) rfl (by rfl) underlying55 rfl hF rfl (by rfl) fun _ hF => ?_
  try walk_nrm
  refine za1 C T rfl (by rfl) fun _ Kx hKx => ?_
  go_simp
  refine hKx _ ?_ (by first | (simp [go_sem]; done) | (simp [go_sem, *]; done) | (simp [go_sem,za7,za8,za9,za6,ev_ix,zg4,zg6,zj9,zf1, *]; done))
  clear hKx Kx
  try walk_nrm
  refine za3 C T ?_
  show wpI _ _ _ _ _ _ _
  refine za2 C T ?_
  simp only [szR,Nat.reduceAdd]
  iterate 4
   refine za1 C T rfl (by rfl) fun _ Kx hKx => ?_
   go_simp
   refine hKx _ ?_ (by first | (simp [go_sem]; done) | (simp [go_sem, *]; done) | (simp [go_sem,za7,za8,za9,za6,ev_ix,zg4,zg6,zj9,zf1, *]; done))
   clear hKx Kx
   try walk_nrm
  refine opsI_storeC C (Z) (cs := [.slice (some ⟨g,0,none⟩) 0 cs.size]) (cur' := #[p, .slice (some ⟨g,0,none⟩) 0 cs.size]) 0 rfl (by rfl) rfl (by rfl) (by rfl) (by rfl) (by simp [Value.oneCell']) (by simp [KTs]) hF rfl (by first | decide | simp) (by first | rfl | (simp [putAt]; done)) fun _ hF => ?_
  simp only [List.set_cons_zero,List.set_cons_succ,List.set] at hF
  try walk_nrm
  refine za3 C T ?_
  refine ⟨.inl rfl,rfl,_,resultsC_none (by rfl) _,rfl,rfl,g,cs,hC.1,hC.2,?_⟩
  exact Z.perm hF (List.Perm.swap _ _ _)
end
end
section
open Go.Conc Go.RowKit
theorem wpI_fillP {ι : Type} {X : ι → Goroutine → World → Prop} {fn : FuncId} {c : Code} {vs : ι} {Q : PostI ι} {a : Act} {w : World} {f : (Nat → Value) → Act} (h : f (fun i => a.tmps.getD i undef) = a) (k : ∀ x,wpI X fn c vs Q (f x) w) : wpI X fn c vs Q a w := h ▸ k _
end
set_option maxRecDepth 100000
set_option maxHeartbeats 2000000
section
open Go.Conc Go.RowKit
theorem ev_countS (s : ByteArray) (c : Int) (w : World) (es : Array Event) : (Extern.BytealgCount.count #[.string s, .int .u8 c]).events prog w es = es := by
 change Sem.events prog (do
  let b ← Extern.Bytes.bytesOf (.string s)
  let c' ← Extern.Bytes.asByte (.int .u8 c)
  pure (goInt (b.foldl (fun n x => if x == c' then n + 1 else n) (0 : Nat)))) w es = _
 simp only [Extern.Bytes.bytesOf,Extern.Bytes.asByte,Sem.events_bind,Sem.run_pure,Sem.events_pure,Result.evThen_ok]
def cntB (s : ByteArray) (c : Int) : Int := (Lib.countByte s.data.toList c.toNat.toUInt8 : Nat)
theorem count_x (s : ByteArray) (c : UInt8) : PureI prog 343 #[.string s, .string ⟨#[c]⟩] (.int .i64 (cntB s c.toNat)) := by
 intro ι R D X C T i w
 have u9 := underlying9
 have h1 : (⟨#[c]⟩ : ByteArray).size = 1 := rfl
 refine zc2 func343 (by rfl) rfl ?_
 simp only [ntmps343,List.size_toArray,List.length_cons,List.length_nil,Nat.reduceAdd,Nat.reduceSub,Array.replicate_succ,Array.replicate_zero,List.push_toArray,List.append_toArray,List.nil_append,List.cons_append]
 refine za5 C T ?_
 refine za2 C T ?_
 simp only [szR,Nat.reduceAdd]
 refine za1 C T rfl (by rfl) fun _ Kx hKx => ?_
 go_simp
 refine hKx _ ?_ (by first | (simp [go_sem]; done) | (simp [go_sem, *]; done) | (simp [go_sem,za7,za8,za9,za6,ev_ix, *]; done))
 clear hKx Kx
 try walk_nrm
 refine za3 C T ?_
 show wpI _ _ _ _ _ _ _
 iterate 2
  refine za5 C T ?_
 refine za2 C T ?_
 simp only [szR,Nat.reduceAdd]
 iterate 3
  refine za1 C T rfl (by rfl) fun _ Kx hKx => ?_
  go_simp
  refine hKx _ ?_ (by first | (simp [go_sem]; done) | (simp [go_sem, *]; done) | (simp [go_sem,za7,za8,za9,za6,ev_ix, *]; done))
  clear hKx Kx
  try walk_nrm
 refine za3 C T ?_
 show wpI _ _ _ _ _ _ _
 refine zf9 C T rfl (fun hb => ?_) (fun hb => ?_)
 ·
  try simp only [bolL,beq_iff_eq,beq_eq_false_iff_ne,bne_iff_ne,bne_eq_false_iff_eq] at hb
  cases hb
 ·
  try simp only [hb]
  try simp only [bolL,beq_iff_eq,beq_eq_false_iff_ne,bne_iff_ne,bne_eq_false_iff_eq] at hb
  refine ze0 C T ?_
  show wpI _ _ _ _ _ _ _
  iterate 2
   refine za5 C T ?_
  refine za2 C T ?_
  simp only [szR,Nat.reduceAdd]
  iterate 3
   refine za1 C T rfl (by rfl) fun _ Kx hKx => ?_
   go_simp
   refine hKx _ ?_ (by first | (simp [go_sem]; done) | (simp [go_sem, *]; done) | (simp [go_sem,za7,za8,za9,za6,ev_ix, *]; done))
   clear hKx Kx
   try walk_nrm
  refine za3 C T ?_
  show wpI _ _ _ _ _ _ _
  refine zf9 C T rfl (fun hb => ?_) (fun hb => ?_)
  ·
   try simp only [hb]
   try simp only [bolL,beq_iff_eq,beq_eq_false_iff_ne,bne_iff_ne,bne_eq_false_iff_eq] at hb
   refine za5 C T ?_
   refine za2 C T ?_
   simp only [szR,Nat.reduceAdd]
   iterate 3
    refine za1 C T rfl (by rfl) fun _ Kx hKx => ?_
    go_simp
    refine hKx _ ?_ (by first | (simp [go_sem]; done) | (simp [go_sem, *]; done) | (simp [go_sem,za7,za8,za9,za6,ev_ix, *]; done))
    clear hKx Kx
    try walk_nrm
   try simp only [show ((⟨#[c]⟩ : ByteArray)[0]).toNat = c.toNat from rfl]
   refine opsI_entry C T rfl (by rfl) rfl func377 (by rfl) (by rfl) (by kernel_rfl) (e := Extern.BytealgCount.count) (by kernel_rfl) (x := .int .i64 (cntB s c.toNat)) (args' := #[.string s, .int .u8 c.toNat]) (by simp [Act.eval]) (fun w => Lib.run_countString s c.toNat w) (fun w es => ev_countS s c.toNat w es) ?_
   try walk_nrm
   refine za1 C T rfl (by rfl) fun _ Kx hKx => ?_
   go_simp
   refine hKx _ ?_ (by first | (simp [go_sem]; done) | (simp [go_sem, *]; done) | (simp [go_sem,za7,za8,za9,za6,ev_ix, *]; done))
   clear hKx Kx
   try walk_nrm
   refine za3 C T ?_
   show wpI _ _ _ _ _ _ _
   refine zc3 C T ?_
   refine ⟨.inr rfl,rfl,_,resultsC_tmp (by rfl) _,rfl,?_,rfl⟩
   simp
  ·
   try simp only [bolL,beq_iff_eq,beq_eq_false_iff_ne,bne_iff_ne,bne_eq_false_iff_eq] at hb
   simp at hb
end
section
open Go.Conc Go.RowKit Go.Lib
section
variable {ι : Type} {P : Program} {KT : TypeId → Prop} {An : Who} {N0 : ι → Nat} {M : ι → World → Nat → Prop} {O : ι → Nat → Prop} {R : ι → World → World → Prop} {D : ι → World → World → Array Event → Prop} {X : ι → Goroutine → World → Prop} {Hd : ι → List (Nat × Obj) → World → Prop} {f : FuncId} {args : Array Value} {s : AS} {v : Value}
theorem Sound.same (Y : Cy P KT N0 M O R D X Hd) (hv : isSc v = true) (h : ∀ S l fr i w args',Sim P KT An S s l → Hd i (l ++ fr) w → AR (VR S) args args' → CallsI P X f args' i w (fun i' x w' => x = v ∧ Hd i' (l ++ fr) w')) : Sound P KT An R D X Hd f args s v s := by
 intro S l fr i w args' hS hF hA hfr
 refine (h S l fr i w args' hS hF hA).toE Y.C Y.T ?_
 rintro i' x w' w₁ ⟨rfl,hF'⟩ hR
 exact ⟨S,l,Who.le_refl S,fun _ _ => rfl,hS,(Y.Z hF').rely hF' hR,VR.of_sc hv⟩
theorem AR.sc {S : Who} {a b : Array Value} (h : AR (VR S) a b) (ha : a.toList.all isSc = true) : b = a := by
 apply Array.toList_inj.1
 apply List.ext_getElem?
 intro i
 rw [Array.getElem?_toList,Array.getElem?_toList]
 by_cases hi : i < a.size
 ·
  have h1 : a[i]? = some a[i] := Array.getElem?_eq_getElem hi
  have h2 : b[i]? = some (b[i]'(by rw [← h.1]; exact hi)) := Array.getElem?_eq_getElem _
  rw [h1,h2]
  rw [List.all_eq_true] at ha
  rw [(h.2 i _ _ h1 h2).sc (ha _ (by simp))]
 ·
  have h2 : ¬ i < b.size := by rw [← h.1]; exact hi
  rw [Array.getElem?_eq_none (Nat.le_of_not_lt h2),Array.getElem?_eq_none (Nat.le_of_not_lt hi)]
theorem zk6 {X : ι → Goroutine → World → Prop} {i : ι} {w : World} {Post Post' : ι → Value → World → Prop} (h : CallsI P X f args i w Post) (hp : ∀ i v w,Post i v w → Post' i v w) : CallsI P X f args i w Post' := by
 obtain ⟨f₀,c,h1,h2,h3,h4⟩ := h
 exact ⟨f₀,c,h1,h2,h3,wpI_mono h4 fun i' e a' w' ⟨q1,q2,v,q3,q4⟩ => ⟨q1,q2,v,q3,hp _ _ _ q4⟩⟩
end
def idxF (c : Nat) : List UInt8 → Nat → Int
 | [],_ => -1
 | b :: l,k => if b.toNat.beq c then (k : Int) else idxF c l (k + 1)
def cntF (c : Nat) : List UInt8 → Nat → Nat
 | [],k => k
 | b :: l,k => if b.toNat.beq c then cntF c l (k + 1) else cntF c l k
theorem beq_byte (b u : UInt8) : b.toNat.beq u.toNat = (b == u) := by
 by_cases h : b = u
 ·
  subst h; simp
 ·
  have : b.toNat ≠ u.toNat := fun e => h (UInt8.toNat_inj.1 e)
  rw [show (b == u) = false by simp [h]]
  exact Bool.eq_false_iff.2 fun e => this (Nat.eq_of_beq_eq_true e)
theorem idxF_eq (u : UInt8) : ∀ (l : List UInt8) (k : Nat),idxF u.toNat l k = if indexByte l u = -1 then -1 else indexByte l u + k
 | [],k => by simp [idxF,indexByte]
 | b :: l,k => by
  unfold idxF indexByte
  rw [beq_byte]
  by_cases hb : (b == u) = true
  ·
   simp [hb]
  ·
   have hge := indexByte_ge l u
   simp only [hb,if_false,Bool.false_eq_true]
   rw [idxF_eq u l (k + 1)]
   by_cases h : indexByte l u = -1
   ·
    simp [h]
   ·
    have h2 : ¬ indexByte l u + 1 = -1 := by omega
    simp [h,h2]
    omega
theorem cntF_eq (u : UInt8) : ∀ (l : List UInt8) (k : Nat),cntF u.toNat l k = countByte l u + k
 | [],k => by simp [cntF,countByte]
 | b :: l,k => by
  unfold cntF
  rw [beq_byte]
  have := cntF_eq u l
  unfold countByte at this ⊢
  rw [List.count_cons]
  by_cases hb : (b == u) = true
  ·
   simp [hb,this]; omega
  ·
   simp [hb,this]
def prBase : Prim
 | 127 => some fun args s => match args.toList with
  | [.string x, .slice y n _] => match zj5 s 1 y n with
   | some l => if n ≤ 1000000 ∧ (l.all fun v => match v with | .string _ => true | _ => false) = true then some (.bool (l.any fun v => match v with | .string z => beqL x.data.toList z.data.toList | _ => false),s) else none
   | none => none
  | _ => none
 | 373 => some fun args s => match args.toList with
  | [.string x, .int .u8 c] => some (.int .i64 (idxF (c.toNat % 256) x.data.toList 0),s)
  | _ => none
 | 343 => some fun args s => match args.toList with
  | [.string x, .string y] => match y.data.toList with
   | [c] => some (.int .i64 (cntF c.toNat x.data.toList 0),s)
   | _ => none
  | _ => none
 | 344 => some fun args s => match args.toList with
  | [.pointer (some ⟨b,0,none⟩), .int .i64 n] => match s.get b with
   | some (.cells cs 119 (0,0)) => match cs.toList with
    | [p, .slice none 0 0] => if 0 ≤ n ∧ n ≤ 1000000000 then some (.tuple #[],(s.set b (some (.cells #[p, .slice (some ⟨s.nx,0,none⟩) 0 0] 119 (0,0)))).add (.cells #[] 5 (1,1))) else none
    | _ => none
   | _ => none
  | _ => none
 | _ => none
theorem prBase_cases {f : FuncId} {g : Array Value → AS → Option (Value × AS)} (h : prBase f = some g) : f = 127 ∨ f = 373 ∨ f = 343 ∨ f = 344 := by
 unfold prBase at h
 split at h
 ·
  exact .inl rfl
 ·
  exact .inr (.inl rfl)
 ·
  exact .inr (.inr (.inl rfl))
 ·
  exact .inr (.inr (.inr rfl))
 ·
  cases h
theorem prBase_nx : ∀ f g args s v s',prBase f = some g → g args s = some (v,s') → s.nx ≤ s'.nx := by
 intro f g args s v s' hf h
 rcases prBase_cases hf with rfl | rfl | rfl | rfl
 ·
  cases hf
  simp only at h
  split at h
  ·
   split at h
   ·
    split at h
    ·
     cases h; exact Nat.le_refl _
    ·
     cases h
   ·
    cases h
  ·
   cases h
 ·
  cases hf
  simp only at h
  split at h
  ·
   cases h; exact Nat.le_refl _
  ·
   cases h
 ·
  cases hf
  simp only at h
  split at h
  ·
   split at h
   ·
    cases h; exact Nat.le_refl _
   ·
    cases h
  ·
   cases h
 ·
  cases hf
  simp only at h
  split at h
  ·
   split at h
   ·
    split at h
    ·
     split at h
     ·
      cases h; simp
     ·
      cases h
    ·
     cases h
   ·
    cases h
  ·
   cases h
section
variable {ι : Type} {An : Who} {N0 : ι → Nat} {M : ι → World → Nat → Prop} {O : ι → Nat → Prop} {R : ι → World → World → Prop} {D : ι → World → World → Array Event → Prop} {X : ι → Goroutine → World → Prop} {Hd : ι → List (Nat × Obj) → World → Prop}
theorem list2 {args : Array Value} {x y : Value} (h : args.toList = [x,y]) : args = #[x,y] := by apply Array.toList_inj.1; simp [h]
theorem is_sound (Y : Cy prog KTs N0 M O R D X Hd) {x : ByteArray} {y : Option Addr} {n c : Nat} {s : AS} {l0 : List Value} (hc : zj5 s 1 y n = some l0) (hn : n ≤ 1000000) (hall : (l0.all fun v => match v with | .string _ => true | _ => false) = true) :
  Sound prog KTs An R D X Hd 127 #[.string x, .slice y n c] s (.bool (l0.any fun v => match v with | .string z => beqL x.data.toList z.data.toList | _ => false)) s := by
 refine Sound.same Y rfl fun S l fr i w args' hS hF hA => ?_
 have hxs : ∃ xs : List ByteArray,l0 = xs.map .string := by
  clear hc
  induction l0 with
  | nil => exact ⟨[],rfl⟩
  | cons v l0 ih =>
   simp only [List.all_cons,Bool.and_eq_true] at hall
   obtain ⟨xs,rfl⟩ := ih hall.2
   cases v with
   | string z => exact ⟨z :: xs,rfl⟩
   | _ => simp at hall
 obtain ⟨xs,rfl⟩ := hxs
 obtain ⟨a0,a1,rfl,h0,h1⟩ : ∃ a0 a1,args' = #[a0,a1] ∧ VR S (.string x) a0 ∧ VR S (.slice y n c) a1 := by
  have hsz := hA.1
  simp at hsz
  refine ⟨args'[0]'(by omega),args'[1]'(by omega),?_,hA.2 0 _ _ rfl (Array.getElem?_eq_getElem (by omega)),hA.2 1 _ _ rfl (Array.getElem?_eq_getElem (by omega))⟩
  apply Array.ext
  ·
   simp; omega
  ·
   intro k h1 h2
   simp at h2
   match k,h2 with
   | 0,_ => rfl
   | 1,_ => rfl
 have h0 := h0.sc rfl
 subst h0
 have hval : (.bool ((xs.map Value.string).any fun v => match v with | .string z => beqL x.data.toList z.data.toList | _ => false) : Value) = .bool (isNm x xs) := by
  congr 1
  unfold isNm
  rw [List.any_map]
  congr 1
  funext z
  simp [beqL_eq]
 rw [hval]
 have hlen : xs.length = n := by
  unfold zj5 at hc
  split at hc
  ·
   split at hc
   ·
    next h => simp at hc; subst hc; simp [h]
   ·
    cases hc
  ·
   split at hc
   ·
    split at hc
    ·
     next hle =>
     simp only [Option.some.injEq] at hc
     have := congrArg List.length hc
     simp at this
     omega
    ·
     cases hc
   ·
    cases hc
 have hst : StrsIn a1 xs (l ++ fr) := by
  cases y with
  | none =>
   have := h1.sc rfl
   subst this
   have hn0 : n = 0 := by
    unfold zj5 at hc
    simp only at hc
    split at hc
    ·
     assumption
    ·
     cases hc
   refine ⟨none,c,by rw [hlen],fun h => by omega⟩
  | some ad =>
   by_cases hn0 : n = 0
   ·
    obtain ⟨g,z,e,o',c',_,h2,_⟩ := h1.sl_any
    exact ⟨_,c',by rw [h2,hlen],fun h => by omega⟩
   ·
    obtain ⟨g,c',k,cs',t,h2,h3,h4,h5,h6⟩ := cells_real hS h1 hc (by omega)
    refine ⟨some ⟨g,ad.off,none⟩,c',by rw [h2,hlen],fun _ => ⟨g,ad.off,k,cs',t,_,rfl,by rw [List.getElem?_append_left (List.getElem?_eq_some_iff.1 h3).1]; exact h3,fun q z hz => ?_⟩⟩
    have hq : q < n := by have := (List.getElem?_eq_some_iff.1 hz).1; omega
    have hlt : ad.off + q < cs'.size := by omega
    have h7 : ((cs'.toList.drop ad.off).take (n * 1))[q]? = some cs'[ad.off + q] := by
     rw [List.getElem?_take,if_pos (by omega),List.getElem?_drop]
     simp [hlt]
    have := (h6 q (.string z) _ (by simp [hz]) h7).sc rfl
    rw [Array.getElem?_eq_getElem hlt,this]
 exact zk6 (is_x Y.C Y.T (Y.Z hF) x xs a1 hst (by omega) hF) fun i' v w' ⟨q1,q2,q3⟩ => ⟨q2,q1 ▸ q3⟩
theorem Sim.same {P : Program} {KT : TypeId → Prop} {S : Who} {s s' : AS} {l : List (Nat × Obj)} (h : Sim P KT An S s l) (hg : ∀ b,s'.get b = s.get b) (hn : s'.nx = s.nx) : Sim P KT An S s' l where
 live b o hb := h.live b o (hg b ▸ hb)
 inj b b' o o' x x' hb hb' := h.inj b b' o o' x x' (hg b ▸ hb) (hg b' ▸ hb')
 lt b o hb := hn ▸ h.lt b o (hg b ▸ hb)
 an := h.an
theorem grow_sound (Y : Cy prog KTs N0 M O R D X Hd) {b : Nat} {n : Int} {s : AS} {p : Value} {cs : Array Value} (hb : s.get b = some (.cells cs 119 (0,0))) (hcs : cs.toList = [p, .slice none 0 0]) (hn : 0 ≤ n ∧ n ≤ 1000000000) :
  Sound prog KTs An R D X Hd 344 #[.pointer (some ⟨b,0,none⟩), .int .i64 n] s (.tuple #[]) ((s.set b (some (.cells #[p, .slice (some ⟨s.nx,0,none⟩) 0 0] 119 (0,0)))).add (.cells #[] 5 (1,1))) := by
 intro S l fr i w args' hS hF hA hfr
 obtain rfl : cs = #[p, .slice none 0 0] := by apply Array.toList_inj.1; simp [hcs]
 obtain ⟨a0,a1,rfl,h0,h1⟩ : ∃ a0 a1,args' = #[a0,a1] ∧ VR S (.pointer (some ⟨b,0,none⟩)) a0 ∧ VR S (.int .i64 n) a1 := by
  have hsz := hA.1
  simp at hsz
  refine ⟨args'[0]'(by omega),args'[1]'(by omega),?_,hA.2 0 _ _ rfl (Array.getElem?_eq_getElem (by omega)),hA.2 1 _ _ rfl (Array.getElem?_eq_getElem (by omega))⟩
  apply Array.ext
  ·
   simp; omega
  ·
   intro k h1 h2
   simp at h2
   match k,h2 with
   | 0,_ => rfl
   | 1,_ => rfl
 have h1 := h1.sc rfl
 subst h1
 obtain ⟨d,hd⟩ := h0
 cases d with
 | zero => exact hd.elim
 | succ d =>
  unfold VD at hd
  obtain ⟨g,z,e,hg,rfl⟩ := hd
  obtain ⟨k,o',hk,hlt,hk',hor,hty⟩ := hS.at (fr := fr) hb hg
  unfold OR at hor
  obtain ⟨cs',rfl,hz,⟨hz1,hz2⟩,hv⟩ := hor
  have hz3 := hz2 rfl
  simp at hz3
  obtain ⟨p',u',rfl⟩ : ∃ p' u',cs' = #[p',u'] := by
   refine ⟨cs'[0]'(by omega),cs'[1]'(by omega),?_⟩
   apply Array.ext
   ·
    simp; omega
   ·
    intro k h1 h2
    simp at h2
    match k,h2 with
    | 0,_ => rfl
    | 1,_ => rfl
  have hp := hv 0 _ _ rfl rfl
  have hu := (hv 1 _ _ rfl rfl).sc rfl
  subst hu
  have Z := Y.Z hF
  have hF1 := Z.front hF k hk'
  obtain ⟨m,rfl⟩ : ∃ m : Nat,n = (m : Int) := ⟨n.toNat,by omega⟩
  refine (grow_x Y.C Y.T Z m (by omega) hF1).toE Y.C Y.T ?_
  rintro i' x w' w₁ ⟨rfl,rfl,g2,cs2,hc1,hc2,hF2⟩ hR
  have hF3 := Z.rely hF2 hR
  have hnd := Z.nodup hF
  have hnl : (l.map Prod.fst).Nodup := by
   rw [List.map_append] at hnd
   exact (List.nodup_append.1 hnd).1
  have hs0 : S s.nx = none := hfr _ (Nat.le_refl _) (by simp)
  have hlt2 : k < (l ++ fr).length := by simp; omega
  have hel : (l ++ fr).eraseIdx k = l.eraseIdx k ++ fr := List.eraseIdx_append_of_lt_length hlt fr
  have hgl : ∀ o,(g2,o) ∉ l := by
   intro o ho
   have hn2 := Z.nodup hF3
   rw [hel] at hn2
   simp only [List.map_cons,List.nodup_cons,List.map_append,List.mem_cons,List.mem_append,not_or] at hn2
   by_cases hgg : g2 = g
   ·
    exact hn2.1.1 hgg
   ·
    apply hn2.1.2.1
    obtain ⟨q,hq⟩ := List.mem_iff_getElem?.1 ho
    have hqk : q ≠ k := by
     rintro rfl
     rw [hk] at hq
     cases hq
     exact hgg rfl
    refine List.mem_map.2 ⟨(g2,o),?_,rfl⟩
    rw [List.mem_eraseIdx_iff_getElem?]
    exact ⟨q,hqk,hq⟩
  have hS0 : Sim prog KTs An (S.put s.nx (g2,cs2.size,1)) (s.add (.cells #[] 5 (1,1))) ((g2, .cells cs2 5) :: l) := by
   refine hS.grown hs0 hgl ?_ ?_
   ·
    unfold OR
    exact ⟨cs2,rfl,rfl,⟨by simp,fun h => by cases h⟩,fun i x y hx => by simp at hx⟩
   ·
    intro cs t fz h
    cases h
    exact ⟨by kernel_rfl,by simp [KTs]⟩
  have hne : b ≠ s.nx := by have := hS.lt b _ hb; omega
  have hb2 : (s.add (.cells #[] 5 (1,1))).get b = some (.cells #[p, .slice none 0 0] 119 (0,0)) := by rw [AS.get_add,if_neg hne]; exact hb
  have hle := Who.le_put (S := S) (x := (g2,cs2.size,1)) hs0
  have hnd2 : (((g2,Obj.cells cs2 5) :: l).map Prod.fst).Nodup := by
   simp only [List.map_cons,List.nodup_cons]
   refine ⟨fun h => ?_,hnl⟩
   obtain ⟨⟨g3,o3⟩,h3,h4⟩ := List.mem_map.1 h
   simp at h4
   subst h4
   exact hgl _ h3
  have hS1 := hS0.turned (k := k + 1) (o'' := blO p' (.slice (some ⟨g2,0,none⟩) 0 cs2.size)) (ob' := .cells #[p, .slice (some ⟨s.nx,0,none⟩) 0 0] 119 (0,0)) hb2 (hle _ _ hg) (by simpa using hk) hnd2 (by
   unfold OR blO
   refine ⟨_,rfl,by simpa using hz,⟨by simp; omega,fun _ => by simp; omega⟩,?_⟩
   intro j x y hx hy
   match j with
   | 0 => simp at hx hy; subst hx hy; exact hp.mono hle
   | 1 =>
    simp at hx hy
    subst hx hy
    exact ⟨1,g2,cs2.size,1,cs2.size,Who.put_self,rfl,by omega,by omega,by omega,by omega⟩
   | j + 2 => simp at hx) (by
   intro cs t fz h
   cases h
   exact hty _ _ _ rfl)
  have hS2 := hS1.same (s' := (s.set b (some (.cells #[p, .slice (some ⟨s.nx,0,none⟩) 0 0] 119 (0,0)))).add (.cells #[] 5 (1,1))) (fun b' => by
   rw [AS.get_add,AS.get_set,AS.get_set,AS.get_add]
   by_cases h1 : b' = s.nx
   ·
    subst h1
    simp [Ne.symm hne]
   ·
    simp [h1]) rfl
  refine ⟨_,_,hle,?_,hS2,?_,?_⟩
  ·
   intro b' hb'
   unfold Who.put
   rw [if_neg]
   simp at hb'
   omega
  ·
   simp only [List.set_cons_succ,List.cons_append]
   refine Z.perm hF3 ?_
   rw [hel]
   refine List.Perm.cons _ ?_
   rw [← List.cons_append]
   exact List.Perm.append_right _ (perm_set hk)
  ·
   exact ⟨1,#[],rfl,rfl,fun i x y hx => by simp at hx⟩
theorem prBase_ok (Y : Cy prog KTs N0 M O R D X Hd) : PrimOk prog KTs An R D X Hd prBase where
 nx := prBase_nx
 sound f g args s v s' hf h := by
  rcases prBase_cases hf with rfl | rfl | rfl | rfl
  ·
   cases hf
   simp only at h
   split at h
   ·
    next x y n c ha =>
    rw [list2 ha]
    split at h
    ·
     next l hl =>
     split at h
     ·
      next hc => cases h; exact is_sound Y hl hc.1 hc.2
     ·
      cases h
    ·
     cases h
   ·
    cases h
  ·
   cases hf
   simp only at h
   split at h
   ·
    next x c ha =>
    rw [list2 ha]
    cases h
    refine Sound.same Y rfl fun S l fr i w args' hS hF hA => ?_
    rw [hA.sc rfl]
    have e : idxF (c.toNat % 256) x.data.toList 0 = idxB x c := by
     have := idxF_eq c.toNat.toUInt8 x.data.toList 0
     rw [show c.toNat.toUInt8.toNat = c.toNat % 256 by simp] at this
     rw [this]
     unfold idxB
     split
     ·
      next h => rw [h]
     ·
      simp
    rw [e]
    exact zk6 (indexByte0_x x c _ _ _ _ Y.C Y.T i w) fun i' v w' ⟨q1,q2,q3⟩ => ⟨q2,by subst q1; subst q3; exact hF⟩
   ·
    cases h
  ·
   cases hf
   simp only at h
   split at h
   ·
    next x y ha =>
    rw [list2 ha]
    split at h
    ·
     next c hy =>
     cases h
     refine Sound.same Y rfl fun S l fr i w args' hS hF hA => ?_
     rw [hA.sc rfl]
     obtain rfl : y = ⟨#[c]⟩ := by
      obtain ⟨y⟩ := y
      congr 1
      apply Array.toList_inj.1
      simpa using hy
     have e : (cntF c.toNat x.data.toList 0 : Int) = cntB x c.toNat := by
      rw [cntF_eq]
      unfold cntB
      simp
     rw [e]
     exact zk6 (count_x x c _ _ _ _ Y.C Y.T i w) fun i' v w' ⟨q1,q2,q3⟩ => ⟨q2,by subst q1; subst q3; exact hF⟩
    ·
     cases h
   ·
    cases h
  ·
   cases hf
   simp only at h
   split at h
   ·
    next b n ha =>
    rw [list2 ha]
    split at h
    ·
     next cs hb =>
     split at h
     ·
      next p hcs =>
      split at h
      ·
       next hn => cases h; exact grow_sound Y hb hcs hn
      ·
       cases h
     ·
      cases h
    ·
     cases h
   ·
    cases h
end
end
end Go.Proofs.YtgcaionclkbehaaGreatDoor
