import Derived.Test.YtgcaionclkbehaaGreatDoorRowIn
import Derived.Deep.MidRow
import Derived.Great.BuildSlice
set_option linter.all false
namespace Go.Proofs.YtgcaionclkbehaaGreatDoor
open Tryz
section
open Go.Conc Go.RowKit Go.Lib
section
variable {P : Program} {w : World}
theorem events_append_str (w : World) (t u ty e : TypeId) (i : TypeInfo) (z : Value) (ht : P.underlying t = some (.slice e)) (hu : P.underlying u = some .string) (hi : P.info? e = some i) (hz : i.zero = some z) (hs1 : i.size = 1) (hby : i.bytes = 1)
  (v : Value) (n : Nat) (xs : List Value) (hown : w.ownsRow 0 e 1 v n xs) (s : ByteArray) (h63 : n + s.size ≤ maxLen) (hbytes : n + s.size ≤ 140737488355328) :
  ∀ ev ∈ (Builtin.append_ #[t,u] ty #[v, .string s]).events P w #[],(∃ ad,ev.loc = .cell ad ∧ some ad.block = v.ownBlock) ∨ ∃ m,ev = ⟨.mark m,false,true⟩ ∧ Conc.Neutral m := by
 have hsmall : n + s.size ≤ 9223372036854775807 := by simp only [maxLen] at h63; omega
 let B : Nat → Prop := fun g => some g = v.ownBlock
 let Q : Event → Prop := fun e => e.readsIn B ∨ ∃ m,e = ⟨.mark m,false,true⟩ ∧ Conc.Neutral m
 have fin : ∀ ev : Event,Q ev → (∃ ad,ev.loc = .cell ad ∧ some ad.block = v.ownBlock) ∨ ∃ m,ev = ⟨.mark m,false,true⟩ ∧ Conc.Neutral m :=
  fun ev h => h.elim (fun ⟨ad,a1,_,a3⟩ => .inl ⟨ad,a1,a3⟩) .inr
 have none0 : ∀ e ∈ (#[] : Array Event),Q e := by intro e he; simp at he
 have str : ∀ (w' : World) (k sz : Nat) a' l' c',Value.string s = .slice (some a') l' c' → B a'.block ∧ ∀ j,j < k * sz → (w'.cell? (a'.add j)).isSome := by
  intro _ _ _ _ _ _ e; cases e
 have nil : ∀ (w' : World) (k sz l₀ c₀ : Nat) a' l' c',Value.slice none l₀ c₀ = .slice (some a') l' c' → B a'.block ∧ ∀ j,j < k * sz → (w'.cell? (a'.add j)).isSome := by
  intro _ _ _ _ _ _ _ _ e; cases e
 intro ev hev
 rcases hown.2 with ⟨rfl,rfl⟩ | ⟨g,cap,cur,rfl,hbg,hg,hnc,hcm,hcs,htake⟩
 ·
  by_cases hm : s.size = 0
  ·
   simp [Builtin.append_,run_underlying ht,run_underlying hu,sizeOf,typeInfo,hi,hs1,Builtin.lenOf,hm] at hev
   exact fin ev ((events_firstCells_in B _ _ _ _ _ (by first | exact str _ _ _ | exact nil _ _ _ _ _) ev hev).elim (none0 ev) .inl)
  ·
   have h63' : ¬ (9223372036854775807 < (s.size : Int)) := by omega
   have h48' : ¬ (281474976710656 < Builtin.nextslicecap s.size 0 * i.bytes) := by rw [nextslicecap_zero (by omega),hby]; omega
   have hf := run_firstCells_string (P := P) w.drew i.size s
   have hf1 := run_firstCells_string (P := P) w.drew 1 s
   simp [Builtin.append_,run_underlying ht,run_underlying hu,sizeOf,typeInfo,zeroValue,hi,hz,Builtin.lenOf,hm,h63',h48',Question.forced,run_firstCells_none,hf,hf1,newRow] at hev
   refine fin ev ((events_firstCells_in B _ _ _ _ _ (by first | exact str _ _ _ | exact nil _ _ _ _ _) ev hev).elim (fun h => ?_) .inl)
   refine (events_firstCells_in B _ _ _ _ _ (by first | exact str _ _ _ | exact nil _ _ _ _ _) ev h).elim (fun h2 => ?_) .inl
   exact (Conc.events_askRoom _ _ _ ev h2).elim (none0 ev) .inr
 ·
  have holds : ∀ j u,xs[j]? = some u → w.cell? ((⟨g,0,none⟩ : Addr).add j) = some u := hown.cells (g := g) rfl
  have own : ∀ (w' : World),(∀ ad,w'.cell? ad = w.cell? ad) → ∀ a' l' c',Value.slice (some ⟨g,0,none⟩) n cap = .slice (some a') l' c' → B a'.block ∧ ∀ j,j < n * i.size → (w'.cell? (a'.add j)).isSome := by
   intro w' hw' a' l' c' e
   cases e
   exact ⟨by simp [B,Value.ownBlock],fun j hj => by rw [hw']; exact isSome_of_list holds (by rw [hown.1, ← hs1]; exact hj)⟩
  by_cases hroom : n + s.size ≤ cap
  ·
   have hfit : n + s.size ≤ cur.size := by rw [hcs]; omega
   have hf := run_firstCells_string (P := P) w 1 s
   simp [Builtin.append_,run_underlying ht,run_underlying hu,sizeOf,typeInfo,hi,hs1,Builtin.lenOf,hroom,hf,Addr.add_lit] at hev
   rcases events_storeCells_at (P := P) g n e (strCells s) 0 cur w _ hg (by simpa [strCells_length] using hfit) (strCells_oneCell s) ev hev with h | ⟨ad,h2,h3⟩
   ·
    exact fin ev ((events_firstCells_in B _ _ _ _ _ (str _ _ _) ev h).elim (none0 ev) .inl)
   ·
    exact .inl ⟨ad,h2,by simp [Value.ownBlock,h3]⟩
  ·
   have hn : ¬ (n + s.size ≤ cap) := hroom
   have h63' : ¬ (9223372036854775807 < ((n : Int) + (s.size : Int))) := by omega
   have h48' : ¬ (281474976710656 < Builtin.nextslicecap (n + s.size) cap * i.bytes) := by have := growslice_fits (need := n + s.size) (old := cap) (bytes := i.bytes) (by omega) (by rw [hby]; omega); omega
   have hf := run_firstCells_string (P := P) w.drew i.size s
   have hfo := run_firstCells_some (P := P) w.drew i.size n ⟨g,0,none⟩ n cap xs (by rw [hs1]; exact hown.1) (by simpa using holds)
   simp [Builtin.append_,run_underlying ht,run_underlying hu,sizeOf,typeInfo,zeroValue,hi,hz,Builtin.lenOf,hn,h63',h48',Question.forced,hf,hfo,newRow] at hev
   refine fin ev ((events_firstCells_in B _ _ _ _ _ (by first | exact str _ _ _ | exact own _ (fun _ => rfl)) ev hev).elim (fun h => ?_) .inl)
   refine (events_firstCells_in B _ _ _ _ _ (by first | exact str _ _ _ | exact own _ (fun _ => rfl)) ev h).elim (fun h2 => ?_) .inl
   exact (Conc.events_askRoom _ _ _ ev h2).elim (none0 ev) .inr
theorem append_str_shape {w w' : World} (t u ty e : TypeId) (i : TypeInfo) (z : Value) (ht : P.underlying t = some (.slice e)) (hu : P.underlying u = some .string) (hi : P.info? e = some i) (hz : i.zero = some z) (hs1 : i.size = 1) (hby : i.bytes = 1)
  (v : Value) (n : Nat) (xs : List Value) (hown : w.ownsRow 0 e 1 v n xs) (s : ByteArray) (h63 : n + s.size ≤ maxLen) (hbytes : n + s.size ≤ 140737488355328) {v' : Value} (hr' : (Builtin.append_ #[t,u] ty #[v, .string s]).run P w = .ok v' w') :
  (w' = w ∨ (∃ g cs,v.ownBlock = some g ∧ w' = w.setRow g cs) ∨ ∃ cs,w' = w.drew.alloc (.cells cs e)) ∧ (v'.ownBlock = v.ownBlock ∨ v'.ownBlock = some w.heap.size) := by
 have hsmall : n + s.size ≤ 9223372036854775807 := by simp only [maxLen] at h63; omega
 rcases hown.2 with ⟨rfl,rfl⟩ | ⟨g,cap,cur,rfl,hbg,hg,hnc,hcm,hcs,htake⟩
 ·
  by_cases hm : s.size = 0
  ·
   have hf := run_firstCells_string (P := P) w 1 s
   rw [hm] at hf
   simp [Builtin.append_,run_underlying ht,run_underlying hu,sizeOf,typeInfo,hi,hs1,Builtin.lenOf,hm,hf] at hr'
   exact ⟨.inl hr'.2.symm, .inl (by rw [← hr'.1])⟩
  ·
   have hr := run_append_nil_string (P := P) w t u ty e i z ht hu hi hz s (by omega) (by omega) (by rw [hby]; omega)
   rw [hr] at hr'
   cases hr'
   exact ⟨.inr (.inr ⟨_,rfl⟩), .inr rfl⟩
 ·
  by_cases hroom : n + s.size ≤ cap
  ·
   have hr := run_append_room_string (P := P) w t u ty e i ht hu hi hs1 g n cap cur hg s hroom (by rw [hcs]; omega)
   rw [hr] at hr'
   cases hr'
   exact ⟨.inr (.inl ⟨g,_,rfl,rfl⟩), .inl rfl⟩
  ·
   have holds : ∀ j u,xs[j]? = some u → w.cell? ((⟨g,0,none⟩ : Addr).add j) = some u := hown.cells (g := g) rfl
   have hr := run_append_grow_string (P := P) w t u ty e i z ht hu hi hz ⟨g,0,none⟩ n cap xs (by rw [hs1]; exact hown.1) holds s (by omega) (by omega) (growslice_fits (by omega) (by rw [hby]; omega))
   rw [hr] at hr'
   cases hr'
   exact ⟨.inr (.inr ⟨_,rfl⟩), .inr rfl⟩
end
section
variable {KT : TypeId → Prop} {N0 : Nat} {M : World → Nat → Prop} {O : Nat → Prop} {R : World → World → Prop} {D : World → World → Array Event → Prop} {Ex : Nat → Prop} {w₀ w w' : World} {l rl : List (Nat × Obj)} {e : TypeId} {v : Value} {n : Nat} {xs : List Value} {P : Program}
theorem HL.appendStr0 (E : Env KT N0 M O R D) (he : ¬ KT e) (h : HL M O N0 Ex w₀ (rl ++ l) w) (hr : RowIn0 e 1 v n xs rl) (t u ty : TypeId) (ht : P.underlying t = some (.slice e)) (hu : P.underlying u = some .string) (hi : (P.info? e).map (fun i => (i.zero,i.size,i.bytes)) = some (some (.int .u8 0),1,1))
  (s : ByteArray) (hn : n + s.size ≤ 140737488355328) :
  ∃ v' w' rl',(Builtin.append_ #[t,u] ty #[v, .string s]).run P w = .ok v' w' ∧ HL M O N0 Ex w₀ (rl' ++ l) w' ∧ (RowIn0 e 1 v' (n + s.size) (xs ++ strCells s) rl' ∧ (RowIn e 1 v n xs rl → RowIn e 1 v' (n + s.size) (xs ++ strCells s) rl')) ∧ Own KT M w w' ∧ (∀ b,b < w.heap.size → v.ownBlock ≠ some b → w'.heap[b]? = w.heap[b]?) ∧
   (∀ k,v'.ownBlock = some k → v.ownBlock = some k ∨ w.heap.size ≤ k) ∧
   (∀ ev ∈ (Builtin.append_ #[t,u] ty #[v, .string s]).events P w #[],EvO (M w') ev) := by
 obtain ⟨i0,hi,hz0,hz1,hz2⟩ := info_parts hi
 have hown := hr.owns h
 have h63 : n + s.size ≤ maxLen := by unfold maxLen; omega
 obtain ⟨v',w',hrun,ho,hg,hnil⟩ := run_append_own_string (P := P) w 0 t u ty e i0 ht hu hi hz0 hz1 hz2 v n xs hown s h63 hn (Nat.zero_le _)
 obtain ⟨hsh,hat⟩ := append_str_shape (P := P) t u ty e i0 _ ht hu hi hz0 hz1 hz2 v n xs hown s h63 hn hrun
 have hev := events_append_str (P := P) w t u ty e i0 _ ht hu hi hz0 hz1 hz2 v n xs hown s h63 hn
 have hv : ∀ k,v.ownBlock = some k → M w k ∧ (Ex k ∨ w₀.heap.size ≤ k) ∧ ∃ cur,w.heap[k]? = some (.cells cur e) := by
  intro k hk
  obtain ⟨cur,hrl⟩ := hr.block hk
  obtain ⟨z1,z2,z3⟩ := h.own k _ (by rw [hrl]; simp : (k,Obj.cells cur e) ∈ rl ++ l)
  exact ⟨z1,z3,cur,z2⟩
 have hO : Own KT M w w' := by
  rcases hsh with rfl | ⟨k,cs,hk,rfl⟩ | ⟨cs,rfl⟩
  ·
   exact Own.refl _
  ·
   obtain ⟨z1,_,cur,hcur⟩ := hv k hk
   exact Own.setRow hcur z1 he
  ·
   have := Own.alloc (KT := KT) (M := M) (w := w.drew) (cs := cs) (t := e) he
   exact ⟨this.tape,this.os,this.output,this.grow,fun b hb hm => heap_alloc_old w.drew _ b hb,fun b o' hh hk => (this.kt b o' hh hk)⟩
 have hblk : ∀ b,b < w.heap.size → v.ownBlock ≠ some b → w'.heap[b]? = w.heap[b]? := fun b hb hx => hg.block b hb (fun e => hx e.symm)
 have hwh : ∀ k,v'.ownBlock = some k → v.ownBlock = some k ∨ w.heap.size ≤ k := by
  intro k hk
  rcases hat with hat | hat
  ·
   exact .inl (hat ▸ hk)
  ·
   rw [hat] at hk; cases hk; exact .inr (Nat.le_refl _)
 have hold : ∀ b o,(b,o) ∈ l → v.ownBlock ≠ some b := by
  intro b o hm hk
  obtain ⟨cur',hrl⟩ := hr.block hk
  exact h.apart_of (k := b) (o := .cells cur' e) (by rw [hrl]; simp) hm
 have hkept : Kept M O Ex w₀ w' := h.kept.own E hO fun b hb' hx => hblk b (E.lt (h.kept.mine b hb')) fun hk => by
  rcases (hv b hk).2.1 with z | z
  ·
   exact hx z
  ·
   have := E.lt hb'; omega
 have hlo : ∀ b o,(b,o) ∈ l → M w' b ∧ w'.heap[b]? = some o ∧ (Ex b ∨ w₀.heap.size ≤ b) := fun b o z => by
  obtain ⟨z1,z2,z3⟩ := h.own b o (List.mem_append_right _ z)
  exact ⟨E.mine hO z1,(hblk b (E.lt z1) (hold b o z)).trans z2,z3⟩
 have hevs : ∀ ev ∈ (Builtin.append_ #[t,u] ty #[v, .string s]).events P w #[],EvO (M w') ev := fun ev hev' => by
  rcases hev ev hev' with ⟨ad,z1,z2⟩ | ⟨mk,rfl,hmk⟩
  ·
   exact .inl ⟨ad,z1,E.mine hO (hv _ z2.symm).1⟩
  ·
   obtain rfl : mk = .noRoom := hmk
   exact .inr (.inr ⟨by simp [MemAct.ofEvent,MemAct.touch?],by simp,by simp,by simp [MemAct.ofEvent]⟩)
 obtain ⟨hlen,hrow⟩ := ho
 rcases hrow with ⟨e1,e2⟩ | ⟨g,cap,cur,rfl,_,hcur,hc1,hc2,hc3,hc4⟩
 ·
  exact ⟨v',w', [],hrun,⟨hkept,Nat.le_trans h.size hO.grow,fun b o hm => hlo b o (by simpa using hm),by simpa using h.right.nodup⟩,⟨⟨hlen, .inl ⟨e1,e2,rfl⟩⟩,fun _ => ⟨hlen, .inl ⟨e1,e2,rfl⟩⟩⟩,hO,hblk,hwh,hevs⟩
 have hpos : RowIn e 1 v n xs rl → 0 < n + s.size := fun hr => by
  apply Classical.byContradiction
  intro hp
  have hn0 : n = 0 := by omega
  have hv0 : v = .slice Option.none 0 0 := by
   rcases hr.2 with ⟨z,_⟩ | ⟨_,_,_,_,_,z,_⟩
   ·
    exact z
   ·
    omega
  have := hnil.2 ⟨hv0,by omega⟩
  cases this
 have hgl : ∀ o,(g,o) ∈ l → False := by
  intro o ho
  rcases hwh g rfl with z | z
  ·
   exact hold g o ho z
  ·
   have := E.lt (h.own g o (List.mem_append_right _ ho)).1
   omega
 have hMg : M w' g := by
  rcases hwh g rfl with z | z
  ·
   exact E.mine hO (hv g z).1
  ·
   exact E.new h.size hO z (Array.getElem?_eq_some_iff.1 hcur).1
 refine ⟨_,w', [(g, .cells cur e)],hrun,⟨hkept,Nat.le_trans h.size hO.grow,fun b o hm => ?_,?_⟩,⟨⟨hlen, .inr ⟨g,cap,cur,rfl,rfl,hc1,hc2,hc3,hc4⟩⟩,fun hr => ⟨hlen, .inr ⟨g,cap,cur,rfl,rfl,hpos hr,hc1,hc2,hc3,hc4⟩⟩⟩,hO,hblk,hwh,hevs⟩
 ·
  rcases List.mem_append.1 hm with z | z
  ·
   rw [List.mem_singleton] at z
   cases z
   refine ⟨hMg,hcur,?_⟩
   rcases hwh g rfl with z | z
   ·
    exact (hv g z).2.1
   ·
    exact .inr (Nat.le_trans h.kept.grow z)
  ·
   exact hlo b o z
 ·
  refine List.nodup_cons.2 ⟨fun hm => ?_,h.right.nodup⟩
  obtain ⟨q,hq,e'⟩ := List.mem_map.1 hm
  have e2 : q.1 = g := e'
  exact hgl q.2 (by rw [← e2]; exact hq)
end
end
section
open Go.Conc Go.RowKit
def keysOf (l : List (Nat × Obj)) (b : Nat) : Prop := ∃ o,(b,o) ∈ l
section
variable {KT : TypeId → Prop} {N0 : Nat} {M : World → Nat → Prop} {O : Nat → Prop} {R : World → World → Prop} {D : World → World → Array Event → Prop} {Ex : Nat → Prop} {w₀ w w' : World} {l l1 l1' : List (Nat × Obj)}
theorem HL.left (h : HL M O N0 Ex w₀ (l1 ++ l) w) : HL M O N0 Ex w₀ l1 w := ⟨h.kept,h.size,fun b o hm => h.own b o (List.mem_append_left _ hm),by have := h.nodup; rw [List.map_append] at this; exact (List.nodup_append.1 this).1⟩
theorem HL.rebase (h : HL M O N0 Ex w₀ l w) : HL M O N0 (keysOf l) w l w := ⟨Kept.refl w,h.size,fun b o hm => ⟨(h.own b o hm).1,(h.own b o hm).2.1, .inl ⟨o,hm⟩⟩,h.nodup⟩
theorem HL.call (E : Env KT N0 M O R D) (h : HL M O N0 Ex w₀ (l1 ++ l) w) (h' : HL M O N0 (keysOf l1) w l1' w') : HL M O N0 Ex w₀ (l1' ++ l) w' := by
 have hx : ∀ b,keysOf l1 b → Ex b ∨ w₀.heap.size ≤ b := fun b ⟨o,hm⟩ => (h.own b o (List.mem_append_left _ hm)).2.2
 have hl : ∀ b o,(b,o) ∈ l → ¬ keysOf l1 b := fun b o hm ⟨o',hm'⟩ => h.apart_of hm' hm
 refine ⟨h.kept.trans E h'.kept hx,h'.size,fun b o hm => ?_,?_⟩
 ·
  rcases List.mem_append.1 hm with z | z
  ·
   obtain ⟨z1,z2,z3⟩ := h'.own b o z
   exact ⟨z1,z2,z3.elim (hx b) fun z => .inr (Nat.le_trans h.kept.grow z)⟩
  ·
   obtain ⟨z1,z2,z3⟩ := h.own b o (List.mem_append_right _ z)
   exact ⟨h'.kept.mine b z1,(h'.kept.block b z1 (hl b o z)).trans z2,z3⟩
 ·
  rw [List.map_append]
  refine List.nodup_append.2 ⟨h'.nodup,h.right.nodup,fun x hx1 y hy e => ?_⟩
  obtain ⟨q,hq,rfl⟩ := List.mem_map.1 hx1
  obtain ⟨q',hq',e'⟩ := List.mem_map.1 hy
  have e2 : q.1 = q'.1 := e.trans e'.symm
  rcases (h'.own q.1 q.2 hq).2.2 with z | z
  ·
   rw [e2] at z
   exact hl q'.1 q'.2 hq' z
  ·
   have := E.lt (h.own q'.1 q'.2 (List.mem_append_right _ hq')).1
   omega
end
section
variable {N Pb : Nat} {Shun : Loc → Prop} {val : Value} {B : Nat} {Mine : Loc → Prop} {Ex : Nat → Prop} {w₀ w w' : World} {all : List Int} {Rb : Nat} {i : Ph} {l l1 l1' : List (Nat × Obj)}
variable [Go.ConcR.Payload] [Go.ConcX.Payload]
variable [Go.ConcX.Shy (Cfg.Wg (kcfg prog N Pb Shun val B Mine)) (Cfg.C (kcfg prog N Pb Shun val B Mine))]
theorem HX.call (F : Cfg.Fit (kcfg prog N Pb Shun val B Mine)) (h : HX (kcfg prog N Pb Shun val B Mine) Ex w₀ all Rb i (l1 ++ l) w) (h' : HL (mineM (kcfg prog N Pb Shun val B Mine)) (outM (kcfg prog N Pb Shun val B Mine)) (N + 9) (keysOf l1) w l1' w') : HX (kcfg prog N Pb Shun val B Mine) Ex w₀ all Rb i (l1' ++ l) w' := by
 have E := h.env F
 obtain ⟨v,tk,rest,en,h1,h2,h3,h4,h5⟩ := h.row
 have hne : ∀ b,exR Rb v b → ¬ keysOf l1 b := fun b hb ⟨o,hm⟩ => h4 b o (List.mem_append_left _ hm) hb
 have hm : ∀ b,exR Rb v b → mineM (kcfg prog N Pb Shun val B Mine) w b := fun b hb => by
  rcases hb with rfl | hb
  ·
   exact h3.mr
  ·
   exact (h3.ro.own b hb).1
 refine ⟨h.hl.call E h',v,tk,rest,en,h1,h2,h3.still (fun b hb => h'.kept.block b (hm b hb) (hne b hb)) (fun b hb => h'.kept.mine b hb) h'.size,fun b o hmem => ?_,h5⟩
 rcases List.mem_append.1 hmem with z | z
 ·
  rcases (h'.own b o z).2.2 with ⟨o',y⟩ | y
  ·
   exact h4 b o' (List.mem_append_left _ y)
  ·
   exact fun hb => by have := h3.lt F b hb; omega
 ·
  exact h4 b o (List.mem_append_right _ z)
end
end
section
open Go.Conc Go.RowKit
section
variable {P : Program}
theorem rangeAt_of {w : World} {b off : Nat} {cs : List Value} {cur : Array Value} {t : TypeId} {fz : Nat × Nat} (hb : w.heap[b]? = some (.cells cur t fz)) (hc : ∀ j v,cs[j]? = some v → cur[off + j]? = some v) : w.rangeAt b off cs := fun j v hv => by simp [World.cell?,hb,hc j v hv]
theorem zi7 (w : World) (b off : Nat) (ty : TypeId) (cs : List Value) (d : TypeDesc) (hc : w.rangeAt b off cs) (hu : P.underlying ty = some d) (hd : d.isRow = true) (hi : (P.info? ty).map (·.size) = some cs.length) :
  ∀ ev ∈ (Instr.loadAt ty (.pointer (some ⟨b,off,none⟩))).events P w #[], ∃ ad : Addr,ev.loc = .cell ad ∧ ad.block = b := by
 intro ev hev
 cases hq : P.info? ty with
 | none => simp [hq] at hi
 | some i =>
  have hs : i.size = cs.length := by simpa [hq] using hi
  have hagg : (isAgg ty).run P w = .ok true w := by
   unfold isAgg
   rw [Sem.run_bind,run_underlying hu w]
   cases d <;> simp_all [TypeDesc.isRow]
  have hagge : ∀ es,(isAgg ty).events P w es = es := fun es => by
   unfold isAgg
   simp only [Sem.events_bind,run_underlying hu w]
   cases d <;> simp [underlying,hu]
  simp [Instr.loadAt,Instr.sureAddr,loadVar,Sem.events_bind,hagg,hagge,sizeOf,typeInfo,hq,hs] at hev
  have hl : ∀ es, ∀ ev ∈ (loadCells ⟨b,off,none⟩ cs.length).events P w es,ev ∈ es ∨ ev.readsIn (fun g => g = b) := fun es =>
   events_loadCellsFrom_at (P := P) ⟨b,off,none⟩ (fun g => g = b) rfl cs.length 0 #[] w es (fun j hj => by
    have h := hc j cs[j] (List.getElem?_eq_getElem hj)
    rw [Nat.zero_add,Addr.add_mid,h]
    rfl)
  rcases hl _ ev hev with h | ⟨ad,h1,_,h3⟩
  ·
   simp at h
  ·
   exact ⟨ad,h1,h3⟩
end
section
variable {ι : Type} {P : Program} {R : ι → World → World → Prop} {D : ι → World → World → Array Event → Prop} {X : ι → Goroutine → World → Prop} {fn : FuncId} {Q : PostI ι} {a : Act} {w : World} {vs : ι} {KT : TypeId → Prop} {N0 : Nat} {M : World → Nat → Prop} {O : Nat → Prop} {Ex : Nat → Prop} {w₀ : World} {l : List (Nat × Obj)}
theorem opsI_loadAgg (C : ClosedI P true R D X) (E : Env KT N0 M O (R vs) (D vs)) {ops : Array Oper} {i : Nat} {rest : List Nat} {o : Oper} {x : Operand} {ty : TypeId} {b off : Nat} {cs : List Value} {d : TypeDesc} (ho : ops[i]? = some o) (hw : Region.wanted o (yielded ops a.tmps) = true) (hop : o.op = .load ty x) (hx : a.eval x = .pointer (some ⟨b,off,none⟩))
  (hu : P.underlying ty = some d) (hd : d.isRow = true) (hi : (P.info? ty).map (·.size) = some cs.length) (hF : HL M O N0 Ex w₀ l w) (hblk : ∀ w₁,HL M O N0 Ex w₀ l w₁ → M w₁ b ∧ w₁.rangeAt b off cs)
  (h : ∀ w',HL M O N0 Ex w₀ l w' → OpsI X fn ops rest vs Q (a.put o.dst (.agg cs.toArray)) w') : OpsI X fn ops (i :: rest) vs Q a w := by
 refine za0 C ho hw fun w₁ hR K hK => ?_
 have hF₁ := hF.rely E hR
 obtain ⟨hm,hc⟩ := hblk w₁ hF₁
 have hrun := run_loadAt_mid (P := P) w₁ b off ty cs d hc hu hd hi
 have hr2 : (execOp a.eval o).run P w₁ = .ok (.value (.agg cs.toArray)) w₁ := by
  unfold execOp
  simp only [hop,hx,Sem.run_bind,Sem.run_pure,Result.andThen_ok,hrun]
 have he2 : (execOp a.eval o).events P w₁ #[] = (Instr.loadAt ty (.pointer (some ⟨b,off,none⟩))).events P w₁ #[] := by
  unfold execOp
  simp only [hop,hx,Sem.events_bind,hrun,Result.evThen_ok,Sem.events_pure]
 rw [hr2]
 refine hK _ _ ⟨E.does hF₁.size (Own.refl _) fun ev hl => ?_,h w₁ hF₁⟩
 have hl := mem_listed hl
 rw [he2] at hl
 obtain ⟨ad,h1,h2⟩ := zi7 w₁ b off ty cs d hc hu hd hi ev hl
 exact .inl ⟨ad,h1,by rw [h2]; exact hm⟩
theorem opsI_storeAgg (C : ClosedI P true R D X) (E : Env KT N0 M O (R vs) (D vs)) {ops : Array Oper} {i : Nat} {rest : List Nat} {o : Oper} {x y : Operand} {ty t : TypeId} {b : Nat} {cs : List Value} {cur : Array Value} (ho : ops[i]? = some o) (hw : Region.wanted o (yielded ops a.tmps) = true) (hop : o.op = .store ty x y) (hx : a.eval x = .pointer (some ⟨b,0,none⟩)) (hy : a.eval y = .agg cs.toArray)
  (hi : (P.info? ty).map (·.size) = some cs.length) (hsz : cur.size = cs.length) (h1 : ∀ v ∈ cs,v.oneCell' = true) (ht : ¬ KT t) (hF : HL M O N0 Ex w₀ ((b, .cells cur t) :: l) w)
  (h : ∀ w',HL M O N0 Ex w₀ ((b, .cells cs.toArray t) :: l) w' → OpsI X fn ops rest vs Q (a.put o.dst undef) w') : OpsI X fn ops (i :: rest) vs Q a w := by
 refine za0 C ho hw fun w₁ hR K hK => ?_
 have hF₁ := hF.rely E hR
 have hb := hF₁.head.2.1
 cases hq : P.info? ty with
 | none => simp [hq] at hi
 | some inf =>
  have hs : inf.size = cs.length := by simpa [hq] using hi
  have hst := run_storeCells_at (P := P) b 0 t cs 0 cur w₁ hb (by omega) h1
  have hse := events_storeCells_at (P := P) b 0 t cs 0 cur w₁ #[] hb (by omega) h1
  have hrow : (cur.toList.take (0 + 0) ++ cs ++ cur.toList.drop (0 + 0 + cs.length)).toArray = cs.toArray := by
   rw [List.drop_eq_nil_iff.2 (by simp [hsz])]
   simp
  rw [hrow] at hst
  have hrun : (Instr.storeAt ty (.pointer (some ⟨b,0,none⟩)) (.agg cs.toArray)).run P w₁ = .ok () (w₁.setRow b cs.toArray) := by
   simp [Instr.storeAt,Instr.sureAddr,storeVar,sizeOf,typeInfo,hq,hs,Value.cells,hst]
  have hev : (Instr.storeAt ty (.pointer (some ⟨b,0,none⟩)) (.agg cs.toArray)).events P w₁ #[] = (storeCells ⟨b,0,none⟩ cs).events P w₁ #[] := by
   simp [Instr.storeAt,Instr.sureAddr,storeVar,sizeOf,typeInfo,hq,hs,Value.cells]
  have hO : Own KT M w₁ (w₁.setRow b cs.toArray) := Own.setRow hb hF₁.head.1 ht
  have hr2 : (execOp a.eval o).run P w₁ = .ok .skip (w₁.setRow b cs.toArray) := by
   unfold execOp
   simp only [hop,hx,hy,Sem.run_bind,Sem.run_pure,Result.andThen_ok,hrun]
  have he2 : (execOp a.eval o).events P w₁ #[] = (Instr.storeAt ty (.pointer (some ⟨b,0,none⟩)) (.agg cs.toArray)).events P w₁ #[] := by
   unfold execOp
   simp only [hop,hx,hy,Sem.events_bind,hrun,Result.evThen_ok,Sem.events_pure]
  rw [hr2]
  refine hK _ _ ⟨E.does hF₁.size hO fun ev hl => ?_,h _ (hF₁.turn E hO ?_ fun k hk => ?_)⟩
  ·
   have hl := mem_listed hl
   rw [he2,hev] at hl
   rcases hse ev hl with z | ⟨ad,z1,z2⟩
   ·
    simp at z
   ·
    exact .inl ⟨ad,z1,by rw [z2]; exact E.mine hO hF₁.head.1⟩
  ·
   simp [World.setRow,Array.getElem?_modify,hb]
  ·
   simp [World.setRow,Array.getElem?_modify,Ne.symm hk]
end
end
section
open Go.Conc Go.RowKit
structure Co (KT : TypeId → Prop) (N0 : Nat) (M : World → Nat → Prop) (O : Nat → Prop) (R : World → World → Prop) (D : World → World → Array Event → Prop) (H : List (Nat × Obj) → World → Prop) : Prop where
 env : Env KT N0 M O R D
 rely : ∀ {l w w₁},H l w → R w w₁ → H l w₁
 size : ∀ {l w},H l w → N0 ≤ w.heap.size
 own : ∀ {l w b o},H l w → (b,o) ∈ l → M w b ∧ w.heap[b]? = some o
 nodup : ∀ {l w},H l w → (l.map Prod.fst).Nodup
 grown : ∀ {l w o},H l w → Own KT M w (w.alloc o) → H ((w.heap.size,o) :: l) (w.alloc o)
 turn : ∀ {l w w' b o o'},H ((b,o) :: l) w → Own KT M w w' → w'.heap[b]? = some o' → (∀ k,k ≠ b → w'.heap[k]? = w.heap[k]?) → H ((b,o') :: l) w'
 perm : ∀ {l l' w},H l w → l'.Perm l → H l' w
 drop : ∀ {x l w},H (x :: l) w → H l w
 past : ∀ {l w w'},H l w → Kept M O (fun _ => False) w w' → N0 ≤ w'.heap.size → H l w'
 call : ∀ {l1 l1' l w w'},H (l1 ++ l) w → HL M O N0 (keysOf l1) w l1' w' → H (l1' ++ l) w'
section
variable {KT : TypeId → Prop} {N0 : Nat} {M : World → Nat → Prop} {O : Nat → Prop} {R : World → World → Prop} {D : World → World → Array Event → Prop} {H : List (Nat × Obj) → World → Prop} {Ex : Nat → Prop} {w₀ w w' : World} {l l1 : List (Nat × Obj)}
theorem HL.co (E : Env KT N0 M O R D) : Co KT N0 M O R D (HL M O N0 Ex w₀) where
 env := E
 rely h r := h.rely E r
 size h := h.size
 own h hm := ⟨(h.own _ _ hm).1,(h.own _ _ hm).2.1⟩
 nodup h := h.nodup
 grown h hO := h.grown E hO
 turn h hO hb hk := h.turn E hO hb hk
 perm h p := h.perm p
 drop h := h.drop
 past h k hs := h.past E k hs
 call h h' := h.call E h'
theorem Co.hl (Z : Co KT N0 M O R D H) (h : H l w) : HL M O N0 (keysOf l) w l w := ⟨Kept.refl w,Z.size h,fun b o hm => ⟨(Z.own h hm).1,(Z.own h hm).2, .inl ⟨o,hm⟩⟩,Z.nodup h⟩
theorem perm_front {α : Type} : ∀ {l : List α} {k : Nat} {x : α},l[k]? = some x → (x :: l.eraseIdx k).Perm l
 | y :: l,0,x,h => by simp at h; subst h; exact .refl _
 | y :: l,k + 1,x,h => ((List.Perm.swap y x (l.eraseIdx k))).trans (.cons y (perm_front (by simpa using h)))
theorem perm_set {α : Type} : ∀ {l : List α} {k : Nat} {x y : α},l[k]? = some x → (l.set k y).Perm (y :: l.eraseIdx k)
 | z :: l,0,x,y,h => .refl _
 | z :: l,k + 1,x,y,h => (List.Perm.cons z (perm_set (x := x) (by simpa using h))).trans (List.Perm.swap y z _)
theorem Co.front (Z : Co KT N0 M O R D H) (h : H l w) (k : Nat) {b : Nat} {o : Obj} (hk : l[k]? = some (b,o)) : H ((b,o) :: l.eraseIdx k) w := by
 exact Z.perm h (perm_front hk)
theorem Co.turnAt (Z : Co KT N0 M O R D H) (h : H l w) (k : Nat) {b : Nat} {o o' : Obj} (hk : l[k]? = some (b,o)) (hO : Own KT M w w') (hb : w'.heap[b]? = some o') (hx : ∀ k,k ≠ b → w'.heap[k]? = w.heap[k]?) : H (l.set k (b,o')) w' := by
 exact Z.perm (Z.turn (Z.front h k hk) hO hb hx) (perm_set hk)
end
def putAt (cur : Array Value) (off : Nat) (cs : List Value) : Array Value := (cur.toList.take off ++ cs ++ cur.toList.drop (off + cs.length)).toArray
section
variable {ι : Type} {P : Program} {R : ι → World → World → Prop} {D : ι → World → World → Array Event → Prop} {X : ι → Goroutine → World → Prop} {fn : FuncId} {Q : PostI ι} {a : Act} {w : World} {vs : ι} {KT : TypeId → Prop} {N0 : Nat} {M : World → Nat → Prop} {O : Nat → Prop} {H : List (Nat × Obj) → World → Prop} {l : List (Nat × Obj)}
theorem opsI_boxC (C : ClosedI P true R D X) (Z : Co KT N0 M O (R vs) (D vs) H) {ops : Array Oper} {i : Nat} {rest : List Nat} {o : Oper} {t : TypeId} {x : Operand} {cs : Array Value} (ho : ops[i]? = some o) (hw : Region.wanted o (yielded ops a.tmps) = true) (hop : o.op = .box t x) (hx : (a.eval x).cells = cs) (ht : ¬ KT t)
  (hF : H l w) (h : ∀ b w',H ((b, .cells cs t) :: l) w' → OpsI X fn ops rest vs Q (a.put o.dst (.pointer (some ⟨b,0,none⟩))) w') : OpsI X fn ops (i :: rest) vs Q a w := by
 refine za0 C ho hw fun w₁ hR K hK => ?_
 have hF₁ := Z.rely hF hR
 have hO : Own KT M w₁ (w₁.alloc (.cells cs t)) := Own.alloc ht
 have hr : (execOp a.eval o).run P w₁ = .ok (.value (.pointer (some ⟨w₁.heap.size,0,none⟩))) (w₁.alloc (.cells cs t)) := by simp [execOp,hop,box_run,hx]
 have he : (execOp a.eval o).events P w₁ #[] = #[] := by simp [execOp,hop,box_run,zk2]
 rw [hr]
 refine hK _ _ ⟨?_,h _ _ (Z.grown hF₁ hO)⟩
 rw [listed_nil he]
 exact Z.env.does (Z.size hF₁) hO (fun e he => by simp at he)
theorem opsI_allocC (C : ClosedI P true R D X) (Z : Co KT N0 M O (R vs) (D vs) H) {ops : Array Oper} {i : Nat} {rest : List Nat} {o : Oper} {t : TypeId} {z : Value} {cs : Array Value} (ho : ops[i]? = some o) (hw : Region.wanted o (yielded ops a.tmps) = true) (hop : o.op = .alloc t) (hz : ∀ w,(zeroValue t).run P w = .ok z w) (hx : z.cells = cs) (ht : ¬ KT t)
  (hF : H l w) (h : ∀ b w',H ((b, .cells cs t) :: l) w' → OpsI X fn ops rest vs Q (a.put o.dst (.pointer (some ⟨b,0,none⟩))) w') : OpsI X fn ops (i :: rest) vs Q a w := by
 refine za0 C ho hw fun w₁ hR K hK => ?_
 have hF₁ := Z.rely hF hR
 have hO : Own KT M w₁ (w₁.alloc (.cells cs t)) := Own.alloc ht
 have hr : (execOp a.eval o).run P w₁ = .ok (.value (.pointer (some ⟨w₁.heap.size,0,none⟩))) (w₁.alloc (.cells cs t)) := by simp [execOp,hop,zi1 hz,hx]
 have he : (execOp a.eval o).events P w₁ #[] = #[] := by simp [execOp,hop,zi1 hz,zf3 hz]
 rw [hr]
 refine hK _ _ ⟨?_,h _ _ (Z.grown hF₁ hO)⟩
 rw [listed_nil he]
 exact Z.env.does (Z.size hF₁) hO (fun e he => by simp at he)
theorem isAgg_run {P : Program} {ty : TypeId} {d : TypeDesc} (hu : P.underlying ty = some d) (hd : d.isRow = false) (w : World) : (isAgg ty).run P w = .ok false w := by
 unfold isAgg
 rw [Sem.run_bind,run_underlying hu w]
 cases d <;> simp_all [TypeDesc.isRow]
theorem isAgg_events {P : Program} {ty : TypeId} {d : TypeDesc} (hu : P.underlying ty = some d) (w : World) (es : Array Event) : (isAgg ty).events P w es = es := by
 unfold isAgg
 simp only [Sem.events_bind,run_underlying hu w]
 cases d <;> simp [underlying,hu]
theorem zm7 (C : ClosedI P true R D X) (Z : Co KT N0 M O (R vs) (D vs) H) {ops : Array Oper} {i : Nat} {rest : List Nat} {o : Oper} {x : Operand} {ty t : TypeId} {d : TypeDesc} {b off : Nat} {cs : Array Value} {fz : Nat × Nat} {v : Value} (k : Nat) (ho : ops[i]? = some o) (hw : Region.wanted o (yielded ops a.tmps) = true) (hop : o.op = .load ty x) (hx : a.eval x = .pointer (some ⟨b,off,none⟩))
  (hu : P.underlying ty = some d) (hd : d.isRow = false) (hF : H l w) (hk : l[k]? = some (b, .cells cs t fz)) (hv : cs[off]? = some v) (h : ∀ w',H l w' → OpsI X fn ops rest vs Q (a.put o.dst v) w') : OpsI X fn ops (i :: rest) vs Q a w := by
 refine za0 C ho hw fun w₁ hR K hK => ?_
 have hF₁ := Z.rely hF hR
 obtain ⟨hm,hb⟩ := Z.own hF₁ (List.mem_of_getElem? hk)
 have hcell : w₁.cell? ⟨b,off,none⟩ = some v := by simp [World.cell?,hb,hv]
 have hr : (execOp a.eval o).run P w₁ = .ok (.value v) w₁ := by simp [execOp,hop,hx,Instr.loadAt,Instr.sureAddr,loadVar,isAgg_run hu hd,load,Sem.run,hcell]
 have he : (execOp a.eval o).events P w₁ #[] = #[⟨.cell ⟨b,off,none⟩,false,false⟩] := by
  simp [execOp,hop,hx,Instr.loadAt,Instr.sureAddr,loadVar,isAgg_run hu hd,isAgg_events hu,events_load,hcell]
 rw [hr]
 refine hK _ _ ⟨Z.env.does (Z.size hF₁) (Own.refl _) fun ev hl => ?_,h w₁ hF₁⟩
 have hl := mem_listed hl
 rw [he] at hl
 simp at hl
 subst hl
 exact .inl ⟨_,rfl,hm⟩
theorem opsI_loadAggC (C : ClosedI P true R D X) (Z : Co KT N0 M O (R vs) (D vs) H) {ops : Array Oper} {i : Nat} {rest : List Nat} {o : Oper} {x : Operand} {ty t : TypeId} {b off : Nat} {cs : List Value} {cur : Array Value} {fz : Nat × Nat} {d : TypeDesc} (k : Nat) (ho : ops[i]? = some o) (hw : Region.wanted o (yielded ops a.tmps) = true) (hop : o.op = .load ty x) (hx : a.eval x = .pointer (some ⟨b,off,none⟩))
  (hu : P.underlying ty = some d) (hd : d.isRow = true) (hi : (P.info? ty).map (·.size) = some cs.length) (hF : H l w) (hk : l[k]? = some (b, .cells cur t fz)) (hc : ∀ j v,cs[j]? = some v → cur[off + j]? = some v)
  (h : ∀ w',H l w' → OpsI X fn ops rest vs Q (a.put o.dst (.agg cs.toArray)) w') : OpsI X fn ops (i :: rest) vs Q a w := by
 refine za0 C ho hw fun w₁ hR K hK => ?_
 have hF₁ := Z.rely hF hR
 obtain ⟨hm,hb⟩ := Z.own hF₁ (List.mem_of_getElem? hk)
 have hcr := rangeAt_of hb hc
 have hrun := run_loadAt_mid (P := P) w₁ b off ty cs d hcr hu hd hi
 have hr2 : (execOp a.eval o).run P w₁ = .ok (.value (.agg cs.toArray)) w₁ := by
  unfold execOp
  simp only [hop,hx,Sem.run_bind,Sem.run_pure,Result.andThen_ok,hrun]
 have he2 : (execOp a.eval o).events P w₁ #[] = (Instr.loadAt ty (.pointer (some ⟨b,off,none⟩))).events P w₁ #[] := by
  unfold execOp
  simp only [hop,hx,Sem.events_bind,hrun,Result.evThen_ok,Sem.events_pure]
 rw [hr2]
 refine hK _ _ ⟨Z.env.does (Z.size hF₁) (Own.refl _) fun ev hl => ?_,h w₁ hF₁⟩
 have hl := mem_listed hl
 rw [he2] at hl
 obtain ⟨ad,h1,h2⟩ := zi7 w₁ b off ty cs d hcr hu hd hi ev hl
 exact .inl ⟨ad,h1,by rw [h2]; exact hm⟩
theorem opsI_storeC (C : ClosedI P true R D X) (Z : Co KT N0 M O (R vs) (D vs) H) {ops : Array Oper} {i : Nat} {rest : List Nat} {o : Oper} {x y : Operand} {ty t : TypeId} {b off : Nat} {cs : List Value} {cur cur' : Array Value} (k : Nat) (ho : ops[i]? = some o) (hw : Region.wanted o (yielded ops a.tmps) = true) (hop : o.op = .store ty x y) (hx : a.eval x = .pointer (some ⟨b,off,none⟩)) (hy : (a.eval y).cells = cs.toArray)
  (hi : (P.info? ty).map (·.size) = some cs.length) (h1 : ∀ v ∈ cs,v.oneCell' = true) (ht : ¬ KT t) (hF : H l w) (hk : l[k]? = some (b, .cells cur t)) (hsz : off + cs.length ≤ cur.size) (hnew : putAt cur off cs = cur')
  (h : ∀ w',H (l.set k (b, .cells cur' t)) w' → OpsI X fn ops rest vs Q (a.put o.dst undef) w') : OpsI X fn ops (i :: rest) vs Q a w := by
 subst hnew
 refine za0 C ho hw fun w₁ hR K hK => ?_
 have hF₁ := Z.rely hF hR
 obtain ⟨hm,hb⟩ := Z.own hF₁ (List.mem_of_getElem? hk)
 cases hq : P.info? ty with
 | none => simp [hq] at hi
 | some inf =>
  have hs : inf.size = cs.length := by simpa [hq] using hi
  have hst := run_storeCells_at (P := P) b off t cs 0 cur w₁ hb (by omega) h1
  have hse := events_storeCells_at (P := P) b off t cs 0 cur w₁ #[] hb (by omega) h1
  have hst : (storeCells ⟨b,off,none⟩ cs).run P w₁ = .ok () (w₁.setRow b (putAt cur off cs)) := hst
  have hrun : (Instr.storeAt ty (.pointer (some ⟨b,off,none⟩)) (a.eval y)).run P w₁ = .ok () (w₁.setRow b (putAt cur off cs)) := by
   simp [Instr.storeAt,Instr.sureAddr,storeVar,sizeOf,typeInfo,hq,hs,hy,hst]
  have hev : (Instr.storeAt ty (.pointer (some ⟨b,off,none⟩)) (a.eval y)).events P w₁ #[] = (storeCells ⟨b,off,none⟩ cs).events P w₁ #[] := by
   simp [Instr.storeAt,Instr.sureAddr,storeVar,sizeOf,typeInfo,hq,hs,hy]
  have hO : Own KT M w₁ (w₁.setRow b (putAt cur off cs)) := Own.setRow hb hm ht
  have hr2 : (execOp a.eval o).run P w₁ = .ok .skip (w₁.setRow b (putAt cur off cs)) := by
   unfold execOp
   simp only [hop,hx,Sem.run_bind,Sem.run_pure,Result.andThen_ok,hrun]
  have he2 : (execOp a.eval o).events P w₁ #[] = (Instr.storeAt ty (.pointer (some ⟨b,off,none⟩)) (a.eval y)).events P w₁ #[] := by
   unfold execOp
   simp only [hop,hx,Sem.events_bind,hrun,Result.evThen_ok,Sem.events_pure]
  rw [hr2]
  refine hK _ _ ⟨Z.env.does (Z.size hF₁) hO fun ev hl => ?_,h _ (Z.turnAt hF₁ k hk hO ?_ fun k hk => ?_)⟩
  ·
   have hl := mem_listed hl
   rw [he2,hev] at hl
   rcases hse ev hl with z | ⟨ad,z1,z2⟩
   ·
    simp at z
   ·
    exact .inl ⟨ad,z1,by rw [z2]; exact Z.env.mine hO hm⟩
  ·
   simp [World.setRow,Array.getElem?_modify,hb]
  ·
   simp [World.setRow,Array.getElem?_modify,Ne.symm hk]
end
section
variable {N Pb : Nat} {Shun : Loc → Prop} {val : Value} {B : Nat} {Mine : Loc → Prop} {Ex : Nat → Prop} {w₀ w w' : World} {all : List Int} {Rb : Nat} {i : Ph} {l l' : List (Nat × Obj)}
theorem HX.perm {K : Cfg} (h : HX K Ex w₀ all Rb i l w) (p : l'.Perm l) : HX K Ex w₀ all Rb i l' w := by
 obtain ⟨v,tk,rest,en,h1,h2,h3,h4,h5⟩ := h.row
 exact ⟨h.hl.perm p,v,tk,rest,en,h1,h2,h3,fun b o hm => h4 b o (p.mem_iff.1 hm),h5⟩
variable [Go.ConcR.Payload] [Go.ConcX.Payload]
variable [Go.ConcX.Shy (Cfg.Wg (kcfg prog N Pb Shun val B Mine)) (Cfg.C (kcfg prog N Pb Shun val B Mine))]
theorem HX.co (F : Cfg.Fit (kcfg prog N Pb Shun val B Mine)) (h : HX (kcfg prog N Pb Shun val B Mine) Ex w₀ all Rb i l w) : Co KTs (N + 9) (mineM (kcfg prog N Pb Shun val B Mine)) (outM (kcfg prog N Pb Shun val B Mine)) (RMd (kcfg prog N Pb Shun val B Mine) i) (DMd (kcfg prog N Pb Shun val B Mine) i) (fun l w => HX (kcfg prog N Pb Shun val B Mine) Ex w₀ all Rb i l w) where
 env := h.env F
 rely h r := h.rely F r
 size h := h.hl.size
 own h hm := ⟨(h.hl.own _ _ hm).1,(h.hl.own _ _ hm).2.1⟩
 nodup h := h.hl.nodup
 grown h hO := h.grown F hO
 turn h hO hb hk := h.turn F hO hb hk
 perm h p := h.perm p
 drop h := h.drop
 past h k hs := h.past F k hs
 call h h' := h.call F h'
end
end
section
open Go.Conc Go.RowKit
section
variable {ι : Type} {P : Program} {R : ι → World → World → Prop} {D : ι → World → World → Array Event → Prop} {X : ι → Goroutine → World → Prop} {fn : FuncId} {Q : PostI ι} {a : Act} {w : World} {vs : ι} {KT : TypeId → Prop} {N0 : Nat} {M : World → Nat → Prop} {O : Nat → Prop} {H : List (Nat × Obj) → World → Prop} {l rl : List (Nat × Obj)}
theorem opsI_build (C : ClosedI P true R D X) (T : ∀ i,Terms (R i) (D i)) {ops : Array Oper} {i : Nat} {rest : List Nat} {o : Oper} {t : TypeId} {parts : Array (Nat × Operand)} {cells : Array Value} (ho : ops[i]? = some o) (hw : Region.wanted o (yielded ops a.tmps) = true) (hop : o.op = .build t parts) (hb : P.built t (parts.map fun (i,x) => (i,a.eval x)).toList = some cells)
  (h : OpsI X fn ops rest vs Q (a.put o.dst (.agg cells)) w) : OpsI X fn ops (i :: rest) vs Q a w := by
 refine za1 C T ho hw fun w₁ K hK => ?_
 have hr : (execOp a.eval o).run P w₁ = .ok (.value (.agg cells)) w₁ := by simp [execOp,hop,run_build (P := P) w₁ t _ cells hb]
 have he : (execOp a.eval o).events P w₁ #[] = #[] := by simp [execOp,hop,run_build (P := P) w₁ t _ cells hb,zj3 (P := P) w₁ t _ cells hb]
 rw [hr]
 exact hK _ h he
theorem buildSlice_events (w : World) (t e : TypeId) (len : Nat) (parts : Array (Nat × Value)) (cells : Array Value) (ie : TypeInfo) (z : Value)
  (hu : P.underlying t = some (.slice e)) (hie : P.info? e = some ie) (hz : ie.zero = some z) (hsmall : ¬ len * ie.size > 2 ^ 24) (hpos : ¬ len * ie.size = 0)
  (h : Instr.fill (fun i => some (i * ie.size,ie.size)) ((Array.range (len * ie.size)).map (z.cells[· % z.cells.size]!)) parts.toList = some cells) (es : Array Event) :
  (Instr.buildSlice t len parts).events P w es = es := by
 simp [Instr.buildSlice,run_underlying hu,sizeOf,typeInfo,zeroValue,hie,hz,hsmall,hpos,h,newRow]
theorem buildSlice_run0 (w : World) (t e : TypeId) (len : Nat) (parts : Array (Nat × Value)) (cells : Array Value) (ie : TypeInfo) (z : Value)
  (hu : P.underlying t = some (.slice e)) (hie : P.info? e = some ie) (hz : ie.zero = some z) (hsmall : ¬ len * ie.size > 2 ^ 24)
  (h : Instr.fill (fun i => some (i * ie.size,ie.size)) ((Array.range (len * ie.size)).map (z.cells[· % z.cells.size]!)) parts.toList = some cells) (es : Array Event) :
  (Instr.buildSlice t len parts).run P w = .ok (.slice (some ⟨w.heap.size,0,none⟩) len len) (w.alloc (.cells cells e)) ∧ (Instr.buildSlice t len parts).events P w es = es := by
 by_cases h0 : len * ie.size = 0
 ·
  rw [h0] at h
  have hr0 : Array.range 0 = #[] := rfl
  have h' : Instr.fill (fun i => some (i * ie.size,ie.size)) #[] parts.toList = some cells := by rw [hr0] at h; simpa using h
  constructor
  iterate 2
   ·
    simp [Instr.buildSlice,run_underlying hu,sizeOf,typeInfo,hie,h0,hr0,h',newRow]
 ·
  exact ⟨run_buildSlice w t e len parts cells ie z hu hie hz hsmall h0 h,buildSlice_events w t e len parts cells ie z hu hie hz hsmall h0 h es⟩
def sliced (P : Program) (e : TypeId) (len : Nat) (parts : List (Nat × Value)) : Option (Array Value) :=
 match P.info? e with
 | some ie => match ie.zero with
  | some z => if len * ie.size > 2 ^ 24 then none else Instr.fill (fun i => some (i * ie.size,ie.size)) ((Array.range (len * ie.size)).map (z.cells[· % z.cells.size]!)) parts
  | none => none
 | none => none
theorem opsI_buildSliceC (C : ClosedI P true R D X) (Z : Co KT N0 M O (R vs) (D vs) H) {ops : Array Oper} {i : Nat} {rest : List Nat} {o : Oper} {t e : TypeId} {len : Nat} {parts : Array (Nat × Operand)} {cells : Array Value} (ho : ops[i]? = some o) (hw : Region.wanted o (yielded ops a.tmps) = true) (hop : o.op = .buildSlice t len parts) (hu : P.underlying t = some (.slice e)) (ht : ¬ KT e) (hb : sliced P e len (parts.map fun (i,x) => (i,a.eval x)).toList = some cells)
  (hF : H l w) (h : ∀ b w',H ((b, .cells cells e) :: l) w' → OpsI X fn ops rest vs Q (a.put o.dst (.slice (some ⟨b,0,none⟩) len len)) w') : OpsI X fn ops (i :: rest) vs Q a w := by
 refine za0 C ho hw fun w₁ hR K hK => ?_
 have hF₁ := Z.rely hF hR
 unfold sliced at hb
 cases hie : P.info? e with
 | none => simp [hie] at hb
 | some ie =>
  cases hz : ie.zero with
  | none => simp [hie,hz] at hb
  | some z =>
   simp only [hie,hz] at hb
   split at hb
   ·
    cases hb
   ·
    rename_i hn
    have hq := fun es => buildSlice_run0 (P := P) w₁ t e len (parts.map fun (i,x) => (i,a.eval x)) cells ie z hu hie hz hn hb es
    have hO : Own KT M w₁ (w₁.alloc (.cells cells e)) := Own.alloc ht
    have hr : (execOp a.eval o).run P w₁ = .ok (.value (.slice (some ⟨w₁.heap.size,0,none⟩) len len)) (w₁.alloc (.cells cells e)) := by
     unfold execOp
     simp only [hop,Sem.run_bind,(hq #[]).1,Result.andThen_ok,Sem.run_pure]
    have he : (execOp a.eval o).events P w₁ #[] = #[] := by
     unfold execOp
     simp only [hop,Sem.events_bind,(hq #[]).1,(hq _).2,Result.evThen_ok,Sem.events_pure]
    rw [hr]
    refine hK _ _ ⟨?_,h _ _ (Z.grown hF₁ hO)⟩
    rw [listed_nil he]
    exact Z.env.does (Z.size hF₁) hO (fun e he => by simp at he)
end
end
section
open Go.Conc
def zi3 (ops : Array Oper) : Bool := (List.range ops.size).all fun i => ((ops[i]?).map (·.after.all fun e => !Region.binds .any e || decide (e.on < i))).getD false
theorem edges_back {ops : Array Oper} (h : zi3 ops = true) {i : Nat} {o : Oper} (ho : ops[i]? = some o) {e : Edge} (he : e ∈ o.after) (hb : Region.binds .any e = true) : e.on < i := by
 unfold zi3 at h
 rw [List.all_eq_true] at h
 have hi : i < ops.size := (Array.getElem?_eq_some_iff.1 ho).1
 have := h i (List.mem_range.2 hi)
 rw [ho] at this
 simp only [Option.map_some,Option.getD_some,Array.all_eq_true_iff_forall_mem] at this
 have := this e he
 rw [hb] at this
 simpa using this
def ReadyAt (ops : Array Oper) (J : Nat → Bool) (i : Nat) : Prop := ∀ o,ops[i]? = some o → ∀ e ∈ o.after,Region.binds .any e = true → J e.on = true
section
variable {ι : Type} {P : Program} {main : Bool} {R : ι → World → World → Prop} {D : ι → World → World → Array Event → Prop} {X : ι → Goroutine → World → Prop} {fn : FuncId} {Q : PostI ι} {a : Act} {w : World} {vs : ι}
theorem zi2 (C : ClosedI P main R D X) {id n : Nat} {ops : Array Oper} (hd : LetsDraw (D vs)) (hm : P.follows .mixedOrders = true) (hn : ops.size = n) (hback : zi3 ops = true)
  (Inv : (Nat → Bool) → ι → Act → World → Prop) (h0 : ∀ w₁,R vs w w₁ → Inv (fun _ => false) vs a { w₁ with drawn := w₁.drawn + 1 })
  (hext : ∀ J J' vs a w,(∀ k,k < n → J k = J' k) → Inv J vs a w → Inv J' vs a w)
  (hstep : ∀ (J : Nat → Bool) (i : Nat) (vs : ι) (a : Act) (w : World),Inv J vs a w → i < n → J i = false → ReadyAt ops J i → ∀ rest,(∀ vs' a' w',Inv (fun k => if k = i then true else J k) vs' a' w' → OpsI X fn ops rest vs' Q a' w') → OpsI X fn ops (i :: rest) vs Q a w)
  (hend : ∀ (J : Nat → Bool) (vs : ι) (a : Act) (w : World),(∀ k,k < n → J k = true) → Inv J vs a w → OpsI X fn ops [] vs Q a w) : wpI X fn (.region id ops true) vs Q a w := by
 have key : ∀ (fuel t : Nat) (listed : Array Bool) (vs : ι) (a : Act) (w : World),listed.size = n → listed.toList.count false ≤ fuel → Inv (fun k => listed.getD k false) vs a w → OpsI X fn ops (Region.linearise.go .any ops fuel t listed []) vs Q a w := by
  intro fuel
  induction fuel with
  | zero =>
   intro t listed vs a w hs hc hI
   refine hend _ vs a w (fun k hk => ?_) hI
   have h := List.count_eq_zero.1 (Nat.le_zero.1 hc)
   rw [Array.getD_eq_getD_getElem?,Array.getElem?_eq_getElem (by omega),Option.getD_some]
   cases e : listed[k]'(by omega) with
   | true => rfl
   | false => exact absurd (by rw [← e]; simp) h
  | succ fuel ih =>
   intro t listed vs a w hs hc hI
   by_cases he : Region.ready .any ops listed = []
   ·
    rw [go_nil he]
    refine hend _ vs a w (fun k hk => ?_) hI
    induction k using Nat.strongRecOn with
    | _ k ihk =>
     cases e : listed.getD k false with
     | true => rfl
     | false =>
      exfalso
      have hk' : k < ops.size := by omega
      have hmem : k ∈ Region.ready .any ops listed := by
       refine mem_ready.2 ⟨?_,ops[k],Array.getElem?_eq_getElem hk',fun ed hed hb => ?_⟩
       ·
        rw [Array.getD_eq_getD_getElem?,Array.getElem?_eq_getElem (by omega),Option.getD_some] at e ⊢
        exact e
       ·
        have hlt := edges_back hback (Array.getElem?_eq_getElem hk') hed hb
        exact ihk ed.on hlt (by omega)
      rw [he] at hmem
      simp at hmem
   ·
    have hpos : 0 < (Region.ready .any ops listed).length := List.length_pos_iff.2 he
    obtain ⟨i,hi⟩ : ∃ i,(Region.ready .any ops listed)[t % (Region.ready .any ops listed).length]? = some i := ⟨_,List.getElem?_eq_getElem (Nat.mod_lt _ hpos)⟩
    have hmem := mem_ready.1 (List.mem_of_getElem? hi)
    obtain ⟨hf,o,ho,hed⟩ := hmem
    have hin : i < n := by rw [← hn]; exact (Array.getElem?_eq_some_iff.1 ho).1
    have hil : listed[i]? = some false := by
     rw [Array.getD_eq_getD_getElem?,Array.getElem?_eq_getElem (by omega),Option.getD_some] at hf
     rw [Array.getElem?_eq_getElem (by omega),hf]
    rw [go_cons hi]
    refine hstep _ i vs a w hI hin (by rw [Array.getD_eq_getD_getElem?,hil]; rfl) (fun o' ho' e he' hb => ?_) _ fun vs' a' w' hI' => ih _ _ vs' a' w' (by simpa using hs) ?_ (hext _ _ vs' a' w' (fun k hk => ?_) hI')
    ·
     rw [ho] at ho'
     cases ho'
     exact hed e he' hb
    ·
     have hil2 : listed.toList[i]'(by simpa using (show i < listed.size by omega)) = false := by
      have := (Array.getElem?_eq_some_iff.1 hil).2
      simpa using this
     have hlen : i < listed.toList.length := by simpa using (show i < listed.size by omega)
     have hmem : false ∈ listed.toList := by rw [← hil2]; exact List.getElem_mem _
     have h1 := List.count_pos_iff.2 hmem
     rw [Array.toList_setIfInBounds,List.count_set hlen,hil2,if_pos (by decide),if_neg (by decide)]
     omega
    ·
     by_cases e : k = i
     ·
      subst e
      simp [Array.getElem?_setIfInBounds,show k < listed.size by omega]
     ·
      simp [Array.getD_eq_getD_getElem?,Array.getElem?_setIfInBounds,e,Ne.symm e]
 intro b k cs hb hk hc
 refine C.step rfl fun w₁ h₁ => ?_
 rw [stepG_region_draw]
 refine ⟨hd _,?_⟩
 simp only [Region.schedule,hm,Bool.true_or,if_true]
 have e : Region.linearise .any ops (w₁.tape w₁.drawn (.order b.fn id)) = Region.linearise.go .any ops n (w₁.tape w₁.drawn (.order b.fn id)) (Array.replicate n false) [] := by
  unfold Region.linearise
  rw [hn]
 rw [e]
 exact key n _ (Array.replicate n false) vs a _ (by simp) (by simp) (hext _ _ vs a _ (fun k hk => by simp [Array.getD_eq_getD_getElem?,hk]) (h0 w₁ h₁)) b k cs hb hk hc
end
end
end Go.Proofs.YtgcaionclkbehaaGreatDoor
