import Derived.Test.YtgcaionclkbehaaGreatDoorRowIn
import Derived.Deep.MidRow
set_option linter.all false
namespace Go.Proofs.YtgcaionclkbehaaGreatDoor
open Tryz
section
open Go.Conc Go.RowKit Go.Lib
section
variable {P : Program} {w : World}
theorem events_append_str (w : World) (t u ty e : TypeId) (i : TypeInfo) (z : Value) (ht : P.underlying t = some (.slice e)) (hu : P.underlying u = some .string) (hi : P.info? e = some i) (hz : i.zero = some z) (hs1 : i.size = 1) (hby : i.bytes = 1)
  (v : Value) (n : Nat) (xs : List Value) (hown : w.ownsRow 0 e 1 v n xs) (s : ByteArray) (h63 : n + s.size ≤ maxLen) (hbytes : n + s.size ≤ 140737488355328) :
  ∀ ev ∈ (Builtin.append_ #[t,u] ty #[v, .string s]).events P w #[],(∃ ad,ev.loc = .cell ad ∧ some ad.block = v.ownBlock) ∨ ∃ m,ev = ⟨.mark m,false,true⟩ ∧ Conc.Neutral m := by
 have hsmall : n + s.size ≤ 9223372036854775807 := by simp only [maxLen] at h63; omega
 let B : Nat → Prop := fun g => some g = v.ownBlock
 let Q : Event → Prop := fun e => e.readsIn B ∨ ∃ m,e = ⟨.mark m,false,true⟩ ∧ Conc.Neutral m
 have fin : ∀ ev : Event,Q ev → (∃ ad,ev.loc = .cell ad ∧ some ad.block = v.ownBlock) ∨ ∃ m,ev = ⟨.mark m,false,true⟩ ∧ Conc.Neutral m :=
  fun ev h => h.elim (fun ⟨ad,a1,_,a3⟩ => .inl ⟨ad,a1,a3⟩) .inr
 have none0 : ∀ e ∈ (#[] : Array Event),Q e := by intro e he; simp at he
 have str : ∀ (w' : World) (k sz : Nat) a' l' c',Value.string s = .slice (some a') l' c' → B a'.block ∧ ∀ j,j < k * sz → (w'.cell? (a'.add j)).isSome := by
  intro _ _ _ _ _ _ e; cases e
 have nil : ∀ (w' : World) (k sz l₀ c₀ : Nat) a' l' c',Value.slice none l₀ c₀ = .slice (some a') l' c' → B a'.block ∧ ∀ j,j < k * sz → (w'.cell? (a'.add j)).isSome := by
  intro _ _ _ _ _ _ _ _ e; cases e
 intro ev hev
 rcases hown.2 with ⟨rfl,rfl⟩ | ⟨g,cap,cur,rfl,hbg,hg,hnc,hcm,hcs,htake⟩
 ·
  by_cases hm : s.size = 0
  ·
   simp [Builtin.append_,run_underlying ht,run_underlying hu,sizeOf,typeInfo,hi,hs1,Builtin.lenOf,hm] at hev
   exact fin ev ((events_firstCells_in B _ _ _ _ _ (by first | exact str _ _ _ | exact nil _ _ _ _ _) ev hev).elim (none0 ev) .inl)
  ·
   have h63' : ¬ (9223372036854775807 < (s.size : Int)) := by omega
   have h48' : ¬ (281474976710656 < Builtin.nextslicecap s.size 0 * i.bytes) := by rw [nextslicecap_zero (by omega),hby]; omega
   have hf := run_firstCells_string (P := P) w.drew i.size s
   have hf1 := run_firstCells_string (P := P) w.drew 1 s
   simp [Builtin.append_,run_underlying ht,run_underlying hu,sizeOf,typeInfo,zeroValue,hi,hz,Builtin.lenOf,hm,h63',h48',Question.forced,run_firstCells_none,hf,hf1,newRow] at hev
   refine fin ev ((events_firstCells_in B _ _ _ _ _ (by first | exact str _ _ _ | exact nil _ _ _ _ _) ev hev).elim (fun h => ?_) .inl)
   refine (events_firstCells_in B _ _ _ _ _ (by first | exact str _ _ _ | exact nil _ _ _ _ _) ev h).elim (fun h2 => ?_) .inl
   exact (Conc.events_askRoom _ _ _ ev h2).elim (none0 ev) .inr
 ·
  have holds : ∀ j u,xs[j]? = some u → w.cell? ((⟨g,0,none⟩ : Addr).add j) = some u := hown.cells (g := g) rfl
  have own : ∀ (w' : World),(∀ ad,w'.cell? ad = w.cell? ad) → ∀ a' l' c',Value.slice (some ⟨g,0,none⟩) n cap = .slice (some a') l' c' → B a'.block ∧ ∀ j,j < n * i.size → (w'.cell? (a'.add j)).isSome := by
   intro w' hw' a' l' c' e
   cases e
   exact ⟨by simp [B,Value.ownBlock],fun j hj => by rw [hw']; exact isSome_of_list holds (by rw [hown.1, ← hs1]; exact hj)⟩
  by_cases hroom : n + s.size ≤ cap
  ·
   have hfit : n + s.size ≤ cur.size := by rw [hcs]; omega
   have hf := run_firstCells_string (P := P) w 1 s
   simp [Builtin.append_,run_underlying ht,run_underlying hu,sizeOf,typeInfo,hi,hs1,Builtin.lenOf,hroom,hf,Addr.add_lit] at hev
   rcases events_storeCells_at (P := P) g n e (strCells s) 0 cur w _ hg (by simpa [strCells_length] using hfit) (strCells_oneCell s) ev hev with h | ⟨ad,h2,h3⟩
   ·
    exact fin ev ((events_firstCells_in B _ _ _ _ _ (str _ _ _) ev h).elim (none0 ev) .inl)
   ·
    exact .inl ⟨ad,h2,by simp [Value.ownBlock,h3]⟩
  ·
   have hn : ¬ (n + s.size ≤ cap) := hroom
   have h63' : ¬ (9223372036854775807 < ((n : Int) + (s.size : Int))) := by omega
   have h48' : ¬ (281474976710656 < Builtin.nextslicecap (n + s.size) cap * i.bytes) := by have := growslice_fits (need := n + s.size) (old := cap) (bytes := i.bytes) (by omega) (by rw [hby]; omega); omega
   have hf := run_firstCells_string (P := P) w.drew i.size s
   have hfo := run_firstCells_some (P := P) w.drew i.size n ⟨g,0,none⟩ n cap xs (by rw [hs1]; exact hown.1) (by simpa using holds)
   simp [Builtin.append_,run_underlying ht,run_underlying hu,sizeOf,typeInfo,zeroValue,hi,hz,Builtin.lenOf,hn,h63',h48',Question.forced,hf,hfo,newRow] at hev
   refine fin ev ((events_firstCells_in B _ _ _ _ _ (by first | exact str _ _ _ | exact own _ (fun _ => rfl)) ev hev).elim (fun h => ?_) .inl)
   refine (events_firstCells_in B _ _ _ _ _ (by first | exact str _ _ _ | exact own _ (fun _ => rfl)) ev h).elim (fun h2 => ?_) .inl
   exact (Conc.events_askRoom _ _ _ ev h2).elim (none0 ev) .inr
theorem append_str_shape {w w' : World} (t u ty e : TypeId) (i : TypeInfo) (z : Value) (ht : P.underlying t = some (.slice e)) (hu : P.underlying u = some .string) (hi : P.info? e = some i) (hz : i.zero = some z) (hs1 : i.size = 1) (hby : i.bytes = 1)
  (v : Value) (n : Nat) (xs : List Value) (hown : w.ownsRow 0 e 1 v n xs) (s : ByteArray) (h63 : n + s.size ≤ maxLen) (hbytes : n + s.size ≤ 140737488355328) {v' : Value} (hr' : (Builtin.append_ #[t,u] ty #[v, .string s]).run P w = .ok v' w') :
  (w' = w ∨ (∃ g cs,v.ownBlock = some g ∧ w' = w.setRow g cs) ∨ ∃ cs,w' = w.drew.alloc (.cells cs e)) ∧ (v'.ownBlock = v.ownBlock ∨ v'.ownBlock = some w.heap.size) := by
 have hsmall : n + s.size ≤ 9223372036854775807 := by simp only [maxLen] at h63; omega
 rcases hown.2 with ⟨rfl,rfl⟩ | ⟨g,cap,cur,rfl,hbg,hg,hnc,hcm,hcs,htake⟩
 ·
  by_cases hm : s.size = 0
  ·
   have hf := run_firstCells_string (P := P) w 1 s
   rw [hm] at hf
   simp [Builtin.append_,run_underlying ht,run_underlying hu,sizeOf,typeInfo,hi,hs1,Builtin.lenOf,hm,hf] at hr'
   exact ⟨.inl hr'.2.symm, .inl (by rw [← hr'.1])⟩
  ·
   have hr := run_append_nil_string (P := P) w t u ty e i z ht hu hi hz s (by omega) (by omega) (by rw [hby]; omega)
   rw [hr] at hr'
   cases hr'
   exact ⟨.inr (.inr ⟨_,rfl⟩), .inr rfl⟩
 ·
  by_cases hroom : n + s.size ≤ cap
  ·
   have hr := run_append_room_string (P := P) w t u ty e i ht hu hi hs1 g n cap cur hg s hroom (by rw [hcs]; omega)
   rw [hr] at hr'
   cases hr'
   exact ⟨.inr (.inl ⟨g,_,rfl,rfl⟩), .inl rfl⟩
  ·
   have holds : ∀ j u,xs[j]? = some u → w.cell? ((⟨g,0,none⟩ : Addr).add j) = some u := hown.cells (g := g) rfl
   have hr := run_append_grow_string (P := P) w t u ty e i z ht hu hi hz ⟨g,0,none⟩ n cap xs (by rw [hs1]; exact hown.1) holds s (by omega) (by omega) (growslice_fits (by omega) (by rw [hby]; omega))
   rw [hr] at hr'
   cases hr'
   exact ⟨.inr (.inr ⟨_,rfl⟩), .inr rfl⟩
end
section
variable {KT : TypeId → Prop} {N0 : Nat} {M : World → Nat → Prop} {O : Nat → Prop} {R : World → World → Prop} {D : World → World → Array Event → Prop} {Ex : Nat → Prop} {w₀ w w' : World} {l rl : List (Nat × Obj)} {e : TypeId} {v : Value} {n : Nat} {xs : List Value} {P : Program}
theorem HL.appendStr0 (E : Env KT N0 M O R D) (he : ¬ KT e) (h : HL M O N0 Ex w₀ (rl ++ l) w) (hr : RowIn0 e 1 v n xs rl) (t u ty : TypeId) (ht : P.underlying t = some (.slice e)) (hu : P.underlying u = some .string) (hi : (P.info? e).map (fun i => (i.zero,i.size,i.bytes)) = some (some (.int .u8 0),1,1))
  (s : ByteArray) (hn : n + s.size ≤ 140737488355328) :
  ∃ v' w' rl',(Builtin.append_ #[t,u] ty #[v, .string s]).run P w = .ok v' w' ∧ HL M O N0 Ex w₀ (rl' ++ l) w' ∧ (RowIn0 e 1 v' (n + s.size) (xs ++ strCells s) rl' ∧ (RowIn e 1 v n xs rl → RowIn e 1 v' (n + s.size) (xs ++ strCells s) rl')) ∧ Own KT M w w' ∧ (∀ b,b < w.heap.size → v.ownBlock ≠ some b → w'.heap[b]? = w.heap[b]?) ∧
   (∀ k,v'.ownBlock = some k → v.ownBlock = some k ∨ w.heap.size ≤ k) ∧
   (∀ ev ∈ (Builtin.append_ #[t,u] ty #[v, .string s]).events P w #[],EvO (M w') ev) := by
 obtain ⟨i0,hi,hz0,hz1,hz2⟩ := info_parts hi
 have hown := hr.owns h
 have h63 : n + s.size ≤ maxLen := by unfold maxLen; omega
 obtain ⟨v',w',hrun,ho,hg,hnil⟩ := run_append_own_string (P := P) w 0 t u ty e i0 ht hu hi hz0 hz1 hz2 v n xs hown s h63 hn (Nat.zero_le _)
 obtain ⟨hsh,hat⟩ := append_str_shape (P := P) t u ty e i0 _ ht hu hi hz0 hz1 hz2 v n xs hown s h63 hn hrun
 have hev := events_append_str (P := P) w t u ty e i0 _ ht hu hi hz0 hz1 hz2 v n xs hown s h63 hn
 have hv : ∀ k,v.ownBlock = some k → M w k ∧ (Ex k ∨ w₀.heap.size ≤ k) ∧ ∃ cur,w.heap[k]? = some (.cells cur e) := by
  intro k hk
  obtain ⟨cur,hrl⟩ := hr.block hk
  obtain ⟨z1,z2,z3⟩ := h.own k _ (by rw [hrl]; simp : (k,Obj.cells cur e) ∈ rl ++ l)
  exact ⟨z1,z3,cur,z2⟩
 have hO : Own KT M w w' := by
  rcases hsh with rfl | ⟨k,cs,hk,rfl⟩ | ⟨cs,rfl⟩
  ·
   exact Own.refl _
  ·
   obtain ⟨z1,_,cur,hcur⟩ := hv k hk
   exact Own.setRow hcur z1 he
  ·
   have := Own.alloc (KT := KT) (M := M) (w := w.drew) (cs := cs) (t := e) he
   exact ⟨this.tape,this.os,this.output,this.grow,fun b hb hm => heap_alloc_old w.drew _ b hb,fun b o' hh hk => (this.kt b o' hh hk)⟩
 have hblk : ∀ b,b < w.heap.size → v.ownBlock ≠ some b → w'.heap[b]? = w.heap[b]? := fun b hb hx => hg.block b hb (fun e => hx e.symm)
 have hwh : ∀ k,v'.ownBlock = some k → v.ownBlock = some k ∨ w.heap.size ≤ k := by
  intro k hk
  rcases hat with hat | hat
  ·
   exact .inl (hat ▸ hk)
  ·
   rw [hat] at hk; cases hk; exact .inr (Nat.le_refl _)
 have hold : ∀ b o,(b,o) ∈ l → v.ownBlock ≠ some b := by
  intro b o hm hk
  obtain ⟨cur',hrl⟩ := hr.block hk
  exact h.apart_of (k := b) (o := .cells cur' e) (by rw [hrl]; simp) hm
 have hkept : Kept M O Ex w₀ w' := h.kept.own E hO fun b hb' hx => hblk b (E.lt (h.kept.mine b hb')) fun hk => by
  rcases (hv b hk).2.1 with z | z
  ·
   exact hx z
  ·
   have := E.lt hb'; omega
 have hlo : ∀ b o,(b,o) ∈ l → M w' b ∧ w'.heap[b]? = some o ∧ (Ex b ∨ w₀.heap.size ≤ b) := fun b o z => by
  obtain ⟨z1,z2,z3⟩ := h.own b o (List.mem_append_right _ z)
  exact ⟨E.mine hO z1,(hblk b (E.lt z1) (hold b o z)).trans z2,z3⟩
 have hevs : ∀ ev ∈ (Builtin.append_ #[t,u] ty #[v, .string s]).events P w #[],EvO (M w') ev := fun ev hev' => by
  rcases hev ev hev' with ⟨ad,z1,z2⟩ | ⟨mk,rfl,hmk⟩
  ·
   exact .inl ⟨ad,z1,E.mine hO (hv _ z2.symm).1⟩
  ·
   obtain rfl : mk = .noRoom := hmk
   exact .inr (.inr ⟨by simp [MemAct.ofEvent,MemAct.touch?],by simp,by simp,by simp [MemAct.ofEvent]⟩)
 obtain ⟨hlen,hrow⟩ := ho
 rcases hrow with ⟨e1,e2⟩ | ⟨g,cap,cur,rfl,_,hcur,hc1,hc2,hc3,hc4⟩
 ·
  exact ⟨v',w', [],hrun,⟨hkept,Nat.le_trans h.size hO.grow,fun b o hm => hlo b o (by simpa using hm),by simpa using h.right.nodup⟩,⟨⟨hlen, .inl ⟨e1,e2,rfl⟩⟩,fun _ => ⟨hlen, .inl ⟨e1,e2,rfl⟩⟩⟩,hO,hblk,hwh,hevs⟩
 have hpos : RowIn e 1 v n xs rl → 0 < n + s.size := fun hr => by
  apply Classical.byContradiction
  intro hp
  have hn0 : n = 0 := by omega
  have hv0 : v = .slice Option.none 0 0 := by
   rcases hr.2 with ⟨z,_⟩ | ⟨_,_,_,_,_,z,_⟩
   ·
    exact z
   ·
    omega
  have := hnil.2 ⟨hv0,by omega⟩
  cases this
 have hgl : ∀ o,(g,o) ∈ l → False := by
  intro o ho
  rcases hwh g rfl with z | z
  ·
   exact hold g o ho z
  ·
   have := E.lt (h.own g o (List.mem_append_right _ ho)).1
   omega
 have hMg : M w' g := by
  rcases hwh g rfl with z | z
  ·
   exact E.mine hO (hv g z).1
  ·
   exact E.new h.size hO z (Array.getElem?_eq_some_iff.1 hcur).1
 refine ⟨_,w', [(g, .cells cur e)],hrun,⟨hkept,Nat.le_trans h.size hO.grow,fun b o hm => ?_,?_⟩,⟨⟨hlen, .inr ⟨g,cap,cur,rfl,rfl,hc1,hc2,hc3,hc4⟩⟩,fun hr => ⟨hlen, .inr ⟨g,cap,cur,rfl,rfl,hpos hr,hc1,hc2,hc3,hc4⟩⟩⟩,hO,hblk,hwh,hevs⟩
 ·
  rcases List.mem_append.1 hm with z | z
  ·
   rw [List.mem_singleton] at z
   cases z
   refine ⟨hMg,hcur,?_⟩
   rcases hwh g rfl with z | z
   ·
    exact (hv g z).2.1
   ·
    exact .inr (Nat.le_trans h.kept.grow z)
  ·
   exact hlo b o z
 ·
  refine List.nodup_cons.2 ⟨fun hm => ?_,h.right.nodup⟩
  obtain ⟨q,hq,e'⟩ := List.mem_map.1 hm
  have e2 : q.1 = g := e'
  exact hgl q.2 (by rw [← e2]; exact hq)
end
end
section
open Go.Conc Go.RowKit
def keysOf (l : List (Nat × Obj)) (b : Nat) : Prop := ∃ o,(b,o) ∈ l
section
variable {KT : TypeId → Prop} {N0 : Nat} {M : World → Nat → Prop} {O : Nat → Prop} {R : World → World → Prop} {D : World → World → Array Event → Prop} {Ex : Nat → Prop} {w₀ w w' : World} {l l1 l1' : List (Nat × Obj)}
theorem HL.left (h : HL M O N0 Ex w₀ (l1 ++ l) w) : HL M O N0 Ex w₀ l1 w := ⟨h.kept,h.size,fun b o hm => h.own b o (List.mem_append_left _ hm),by have := h.nodup; rw [List.map_append] at this; exact (List.nodup_append.1 this).1⟩
theorem HL.rebase (h : HL M O N0 Ex w₀ l w) : HL M O N0 (keysOf l) w l w := ⟨Kept.refl w,h.size,fun b o hm => ⟨(h.own b o hm).1,(h.own b o hm).2.1, .inl ⟨o,hm⟩⟩,h.nodup⟩
theorem HL.call (E : Env KT N0 M O R D) (h : HL M O N0 Ex w₀ (l1 ++ l) w) (h' : HL M O N0 (keysOf l1) w l1' w') : HL M O N0 Ex w₀ (l1' ++ l) w' := by
 have hx : ∀ b,keysOf l1 b → Ex b ∨ w₀.heap.size ≤ b := fun b ⟨o,hm⟩ => (h.own b o (List.mem_append_left _ hm)).2.2
 have hl : ∀ b o,(b,o) ∈ l → ¬ keysOf l1 b := fun b o hm ⟨o',hm'⟩ => h.apart_of hm' hm
 refine ⟨h.kept.trans E h'.kept hx,h'.size,fun b o hm => ?_,?_⟩
 ·
  rcases List.mem_append.1 hm with z | z
  ·
   obtain ⟨z1,z2,z3⟩ := h'.own b o z
   exact ⟨z1,z2,z3.elim (hx b) fun z => .inr (Nat.le_trans h.kept.grow z)⟩
  ·
   obtain ⟨z1,z2,z3⟩ := h.own b o (List.mem_append_right _ z)
   exact ⟨h'.kept.mine b z1,(h'.kept.block b z1 (hl b o z)).trans z2,z3⟩
 ·
  rw [List.map_append]
  refine List.nodup_append.2 ⟨h'.nodup,h.right.nodup,fun x hx1 y hy e => ?_⟩
  obtain ⟨q,hq,rfl⟩ := List.mem_map.1 hx1
  obtain ⟨q',hq',e'⟩ := List.mem_map.1 hy
  have e2 : q.1 = q'.1 := e.trans e'.symm
  rcases (h'.own q.1 q.2 hq).2.2 with z | z
  ·
   rw [e2] at z
   exact hl q'.1 q'.2 hq' z
  ·
   have := E.lt (h.own q'.1 q'.2 (List.mem_append_right _ hq')).1
   omega
end
section
variable {N Pb : Nat} {Shun : Loc → Prop} {val : Value} {B : Nat} {Mine : Loc → Prop} {Ex : Nat → Prop} {w₀ w w' : World} {all : List Int} {Rb : Nat} {i : Ph} {l l1 l1' : List (Nat × Obj)}
variable [Go.ConcR.Payload] [Go.ConcX.Payload]
variable [Go.ConcX.Shy (Cfg.Wg (kcfg prog N Pb Shun val B Mine)) (Cfg.C (kcfg prog N Pb Shun val B Mine))]
theorem HX.call (F : Cfg.Fit (kcfg prog N Pb Shun val B Mine)) (h : HX (kcfg prog N Pb Shun val B Mine) Ex w₀ all Rb i (l1 ++ l) w) (h' : HL (mineM (kcfg prog N Pb Shun val B Mine)) (outM (kcfg prog N Pb Shun val B Mine)) (N + 9) (keysOf l1) w l1' w') : HX (kcfg prog N Pb Shun val B Mine) Ex w₀ all Rb i (l1' ++ l) w' := by
 have E := h.env F
 obtain ⟨v,tk,rest,en,h1,h2,h3,h4,h5⟩ := h.row
 have hne : ∀ b,exR Rb v b → ¬ keysOf l1 b := fun b hb ⟨o,hm⟩ => h4 b o (List.mem_append_left _ hm) hb
 have hm : ∀ b,exR Rb v b → mineM (kcfg prog N Pb Shun val B Mine) w b := fun b hb => by
  rcases hb with rfl | hb
  ·
   exact h3.mr
  ·
   exact (h3.ro.own b hb).1
 refine ⟨h.hl.call E h',v,tk,rest,en,h1,h2,h3.still (fun b hb => h'.kept.block b (hm b hb) (hne b hb)) (fun b hb => h'.kept.mine b hb) h'.size,fun b o hmem => ?_,h5⟩
 rcases List.mem_append.1 hmem with z | z
 ·
  rcases (h'.own b o z).2.2 with ⟨o',y⟩ | y
  ·
   exact h4 b o' (List.mem_append_left _ y)
  ·
   exact fun hb => by have := h3.lt F b hb; omega
 ·
  exact h4 b o (List.mem_append_right _ z)
end
end
section
open Go.Conc Go.RowKit
section
variable {P : Program}
theorem rangeAt_of {w : World} {b off : Nat} {cs : List Value} {cur : Array Value} {t : TypeId} {fz : Nat × Nat} (hb : w.heap[b]? = some (.cells cur t fz)) (hc : ∀ j v,cs[j]? = some v → cur[off + j]? = some v) : w.rangeAt b off cs := fun j v hv => by simp [World.cell?,hb,hc j v hv]
theorem zi5 (w : World) (b off : Nat) (ty : TypeId) (cs : List Value) (d : TypeDesc) (hc : w.rangeAt b off cs) (hu : P.underlying ty = some d) (hd : d.isRow = true) (hi : (P.info? ty).map (·.size) = some cs.length) :
  ∀ ev ∈ (Instr.loadAt ty (.pointer (some ⟨b,off,none⟩))).events P w #[], ∃ ad : Addr,ev.loc = .cell ad ∧ ad.block = b := by
 intro ev hev
 cases hq : P.info? ty with
 | none => simp [hq] at hi
 | some i =>
  have hs : i.size = cs.length := by simpa [hq] using hi
  have hagg : (isAgg ty).run P w = .ok true w := by
   unfold isAgg
   rw [Sem.run_bind,run_underlying hu w]
   cases d <;> simp_all [TypeDesc.isRow]
  have hagge : ∀ es,(isAgg ty).events P w es = es := fun es => by
   unfold isAgg
   simp only [Sem.events_bind,run_underlying hu w]
   cases d <;> simp [underlying,hu]
  simp [Instr.loadAt,Instr.sureAddr,loadVar,Sem.events_bind,hagg,hagge,sizeOf,typeInfo,hq,hs] at hev
  have hl : ∀ es, ∀ ev ∈ (loadCells ⟨b,off,none⟩ cs.length).events P w es,ev ∈ es ∨ ev.readsIn (fun g => g = b) := fun es =>
   events_loadCellsFrom_at (P := P) ⟨b,off,none⟩ (fun g => g = b) rfl cs.length 0 #[] w es (fun j hj => by
    have h := hc j cs[j] (List.getElem?_eq_getElem hj)
    rw [Nat.zero_add,Addr.add_mid,h]
    rfl)
  rcases hl _ ev hev with h | ⟨ad,h1,_,h3⟩
  ·
   simp at h
  ·
   exact ⟨ad,h1,h3⟩
end
section
variable {ι : Type} {P : Program} {R : ι → World → World → Prop} {D : ι → World → World → Array Event → Prop} {X : ι → Goroutine → World → Prop} {fn : FuncId} {Q : PostI ι} {a : Act} {w : World} {vs : ι} {KT : TypeId → Prop} {N0 : Nat} {M : World → Nat → Prop} {O : Nat → Prop} {Ex : Nat → Prop} {w₀ : World} {l : List (Nat × Obj)}
theorem opsI_loadAgg (C : ClosedI P true R D X) (E : Env KT N0 M O (R vs) (D vs)) {ops : Array Oper} {i : Nat} {rest : List Nat} {o : Oper} {x : Operand} {ty : TypeId} {b off : Nat} {cs : List Value} {d : TypeDesc} (ho : ops[i]? = some o) (hw : Region.wanted o (yielded ops a.tmps) = true) (hop : o.op = .load ty x) (hx : a.eval x = .pointer (some ⟨b,off,none⟩))
  (hu : P.underlying ty = some d) (hd : d.isRow = true) (hi : (P.info? ty).map (·.size) = some cs.length) (hF : HL M O N0 Ex w₀ l w) (hblk : ∀ w₁,HL M O N0 Ex w₀ l w₁ → M w₁ b ∧ w₁.rangeAt b off cs)
  (h : ∀ w',HL M O N0 Ex w₀ l w' → OpsI X fn ops rest vs Q (a.put o.dst (.agg cs.toArray)) w') : OpsI X fn ops (i :: rest) vs Q a w := by
 refine za0 C ho hw fun w₁ hR K hK => ?_
 have hF₁ := hF.rely E hR
 obtain ⟨hm,hc⟩ := hblk w₁ hF₁
 have hrun := run_loadAt_mid (P := P) w₁ b off ty cs d hc hu hd hi
 have hr2 : (execOp a.eval o).run P w₁ = .ok (.value (.agg cs.toArray)) w₁ := by
  unfold execOp
  simp only [hop,hx,Sem.run_bind,Sem.run_pure,Result.andThen_ok,hrun]
 have he2 : (execOp a.eval o).events P w₁ #[] = (Instr.loadAt ty (.pointer (some ⟨b,off,none⟩))).events P w₁ #[] := by
  unfold execOp
  simp only [hop,hx,Sem.events_bind,hrun,Result.evThen_ok,Sem.events_pure]
 rw [hr2]
 refine hK _ _ ⟨E.does hF₁.size (Own.refl _) fun ev hl => ?_,h w₁ hF₁⟩
 have hl := mem_listed hl
 rw [he2] at hl
 obtain ⟨ad,h1,h2⟩ := zi5 w₁ b off ty cs d hc hu hd hi ev hl
 exact .inl ⟨ad,h1,by rw [h2]; exact hm⟩
theorem opsI_storeAgg (C : ClosedI P true R D X) (E : Env KT N0 M O (R vs) (D vs)) {ops : Array Oper} {i : Nat} {rest : List Nat} {o : Oper} {x y : Operand} {ty t : TypeId} {b : Nat} {cs : List Value} {cur : Array Value} (ho : ops[i]? = some o) (hw : Region.wanted o (yielded ops a.tmps) = true) (hop : o.op = .store ty x y) (hx : a.eval x = .pointer (some ⟨b,0,none⟩)) (hy : a.eval y = .agg cs.toArray)
  (hi : (P.info? ty).map (·.size) = some cs.length) (hsz : cur.size = cs.length) (h1 : ∀ v ∈ cs,v.oneCell' = true) (ht : ¬ KT t) (hF : HL M O N0 Ex w₀ ((b, .cells cur t) :: l) w)
  (h : ∀ w',HL M O N0 Ex w₀ ((b, .cells cs.toArray t) :: l) w' → OpsI X fn ops rest vs Q (a.put o.dst undef) w') : OpsI X fn ops (i :: rest) vs Q a w := by
 refine za0 C ho hw fun w₁ hR K hK => ?_
 have hF₁ := hF.rely E hR
 have hb := hF₁.head.2.1
 cases hq : P.info? ty with
 | none => simp [hq] at hi
 | some inf =>
  have hs : inf.size = cs.length := by simpa [hq] using hi
  have hst := run_storeCells_at (P := P) b 0 t cs 0 cur w₁ hb (by omega) h1
  have hse := events_storeCells_at (P := P) b 0 t cs 0 cur w₁ #[] hb (by omega) h1
  have hrow : (cur.toList.take (0 + 0) ++ cs ++ cur.toList.drop (0 + 0 + cs.length)).toArray = cs.toArray := by
   rw [List.drop_eq_nil_iff.2 (by simp [hsz])]
   simp
  rw [hrow] at hst
  have hrun : (Instr.storeAt ty (.pointer (some ⟨b,0,none⟩)) (.agg cs.toArray)).run P w₁ = .ok () (w₁.setRow b cs.toArray) := by
   simp [Instr.storeAt,Instr.sureAddr,storeVar,sizeOf,typeInfo,hq,hs,Value.cells,hst]
  have hev : (Instr.storeAt ty (.pointer (some ⟨b,0,none⟩)) (.agg cs.toArray)).events P w₁ #[] = (storeCells ⟨b,0,none⟩ cs).events P w₁ #[] := by
   simp [Instr.storeAt,Instr.sureAddr,storeVar,sizeOf,typeInfo,hq,hs,Value.cells]
  have hO : Own KT M w₁ (w₁.setRow b cs.toArray) := Own.setRow hb hF₁.head.1 ht
  have hr2 : (execOp a.eval o).run P w₁ = .ok .skip (w₁.setRow b cs.toArray) := by
   unfold execOp
   simp only [hop,hx,hy,Sem.run_bind,Sem.run_pure,Result.andThen_ok,hrun]
  have he2 : (execOp a.eval o).events P w₁ #[] = (Instr.storeAt ty (.pointer (some ⟨b,0,none⟩)) (.agg cs.toArray)).events P w₁ #[] := by
   unfold execOp
   simp only [hop,hx,hy,Sem.events_bind,hrun,Result.evThen_ok,Sem.events_pure]
  rw [hr2]
  refine hK _ _ ⟨E.does hF₁.size hO fun ev hl => ?_,h _ (hF₁.turn E hO ?_ fun k hk => ?_)⟩
  ·
   have hl := mem_listed hl
   rw [he2,hev] at hl
   rcases hse ev hl with z | ⟨ad,z1,z2⟩
   ·
    simp at z
   ·
    exact .inl ⟨ad,z1,by rw [z2]; exact E.mine hO hF₁.head.1⟩
  ·
   simp [World.setRow,Array.getElem?_modify,hb]
  ·
   simp [World.setRow,Array.getElem?_modify,Ne.symm hk]
end
end
end Go.Proofs.YtgcaionclkbehaaGreatDoor
