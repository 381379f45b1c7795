import Derived.Test.YtgcaionclkbehaaGreatDoorLone
import Derived.Conc.WgGenN2
set_option linter.all false
set_option maxHeartbeats 2000000
set_option maxRecDepth 100000
namespace Go.Proofs.YtgcaionclkbehaaGreatDoor
open Go.Conc Go.ConcN Go.RowKit Go.Conc.Lib Go.ConcR.Gen Go.ConcN.Gen
open Go.ConcR (KK wgBlock WgAt stA smA rd wr mk Payload Aside2 DC0)
variable [Payload]{L:WgLink}
def VU{P:Program}(H:WgLib P L){Own b:Nat->Loc->Prop}{Wg C n Low k:Nat}{val:Value}{b₀:Frame}{a₀:Act}{ops₀:Array Oper}{i₀:Nat}{rest₀:List Nat}{k₀:List Item}{cs:List Frame}{qt:Nat}
 (d:QuitsD P qt 0 (G (b₀.at (a₀.put ((ops₀[i₀]?).bind (·.dst))<|.tuple #[]) (.inRegion ops₀ rest₀::k₀)) cs))(w:World)(a:WgLive L.tWg Wg w/\Has C (k-1) val w) :
  Goes P false (RW L.tWg Wg C n Low<|k-1) (DWs Wg Own b C n k) (AtR0 P L.tWg Wg C n Low k val) 23 (G ((base L.done).at ⟨#[.pointer (sq Wg),undef,undef,undef],[]⟩ [.code (body_done L)]) (b₀.at a₀ (.inRegion ops₀ (i₀::rest₀)::k₀)::cs)) w:=by lib_facts;have c:=@addNegN _ L P H Own b Wg C n Low k val;simp only[body_done,body_add,doneFn,addFn,Option.getD_some] at c |-;u_reg kn_rely a;u_op kn_rely a;u_in kn_rely a;refine goes_call O O (by k_ne) O H.f_add (nm_add L) O ⟨by u_nil,?_⟩;walk_nrmf addFn;refine c (qt:=qt+3) ?_ _ a;q_c stepG_region_end;q_c stepG_end;exact QuitsD.leave0 O O H.f_done O d
