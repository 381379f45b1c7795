
import Derived.Test.YtgcaionclkbehaaGreatDoorE17
set_option linter.all false
set_option maxHeartbeats 2000000
set_option maxRecDepth 100000
namespace Go.Proofs.YtgcaionclkbehaaGreatDoor
open Go.Conc Go.RowKit Go.Lib
def ot:ByteArray:=⟨#[60,116,105,116,108,101,62,65,32,38,97,109,112,59,32,66,60,47,116,105,116,108,101,62,60,117,108,62,60,108,105,62,111,110,101,60,108,105,62,60,97,32,104,114,101,102,61,47,120,62,116,119,111,60,47,97,62,60,47,117,108,62]⟩
def L0:Iq:=[60,116,105,116,108,101,62,65,32,38,97,109,112,59,32,66,60,47,116,105,116,108,101,62,60,117,108,62,60,108,105,62,111,110,101,60,108,105,62,60,97,32,104,114,101,102,61,47,120,62,116,119,111,60,47,97,62,60,47,117,108,62]
def lK:ByteArray:=⟨#[]⟩
def yg:ByteArray:=⟨#[116,105,116,108,101]⟩
def E7:ByteArray:=⟨#[108,105]⟩
def GV:ByteArray:=⟨#[117,108]⟩
def GW:ByteArray:=⟨#[97]⟩
def Lg:ByteArray:=⟨#[60,47,116,105,116,108,101]⟩
def RN:ByteArray:=⟨#[104,114,101,102]⟩
def Sm:ByteArray:=⟨#[116,101,120,116,97,114,101,97]⟩
def Sn:ByteArray:=⟨#[47,120]⟩
def Vp:ByteArray:=⟨#[115,99,114,105,112,116]⟩
def Vr:ByteArray:=⟨#[115,116,121,108,101]⟩
def ZZ:ByteArray:=⟨#[65,32,38,32,66]⟩
def Z0:ByteArray:=⟨#[111,110,101]⟩
def Z1:ByteArray:=⟨#[116,119,111]⟩
def wt(k:Int)(a b:ByteArray):Option Obj:=some (.cells #[.int .i64 k,.string a,.string b,.slice none 0 0,.bool false] 60)
def wg(a:ByteArray):Option Obj:=some (.cells #[.string a,.slice none 0 0,.bool false] 262)
def wc:Option Obj:=some (.cells #[.pointer none,.slice none 0 0] 119)
def wi(a:ByteArray)(n:Nat):Option Obj:=some (.stringIter a n)
def wp:Option Obj:=some (.cells #[.pointer (some ⟨38,0,none⟩)] 196)
def wn(a b:ByteArray):Option Obj:=some (.cells #[.string a,.string b] 9)
def wk(k:Int)(a b:ByteArray)(v:Value:=.slice none 0 0):Aq:=#[.int .i64 k,.string a,.string b,v,.bool false]
def sA:AS:=⟨[[none,some (.cells cR.toArray 335)]],32⟩
def sB:AS:=⟨[[none,some (.cells cR.toArray 335)],[],[some (.cells #[.slice (some ⟨35,0,none⟩) 1 1,.int .i64 62,.bool false] 80),none,some (.cells #[.string ot] 9),some (.cells #[.string ot] 9 (1,1))]],36⟩
def sC:AS:=sB.add (.cells #[.slice none 0 0] 82)
def sD:AS:=⟨(sC.set 35 none).hp,38⟩
def sE:AS:=⟨[[none,some (.cells cR.toArray 335)],[],[some (.cells #[.slice (some ⟨35,0,none⟩) 1 1,.int .i64 62,.bool false] 80),none,some (.cells #[.string ot] 9),none,some (.cells #[.slice none 0 0] 82),none,some (.cells #[.pointer (some ⟨37,0,none⟩),.int .i64 62,.pointer none,.slice none 0 0,.slice (some ⟨164,0,none⟩) 11 11] 121),wp,wg yg,wc,wi yg 5,wg yg,wt 2 lK yg,wt 2 lK yg,none,wn Vp Vr],[wn yg Sm,wi Lg 1,wi Lg 1,wi Lg 1,wi Lg 1,wi Lg 1,wi Lg 1,wi Lg 1,wi Lg 1,wi Lg 1,wi Lg 7,wn yg Sm,some (.cells #[.pointer (some ⟨60,0,none⟩),.slice (some ⟨64,0,none⟩) 5 5] 119),none,some (.cells #[.int .u8 38] 5),none],[none,none,wp,wp,wg yg,wc,wi yg 5,wg yg,wt 3 lK yg,wt 1 ZZ lK,none,wt 3 lK yg,none,wp,wg GV,wc],[wi GV 2,wg GV,wt 2 lK GV,wt 2 lK GV,none,wn Vp Vr,wn yg Sm,wp,wg E7,wc,wi E7 2,wg E7,wt 2 lK E7,wt 2 lK E7,none,wn Vp Vr],[wn yg Sm,wp,wp,wp,wp,wp,some (.cells #[.pointer (some ⟨102,0,none⟩),.slice (some ⟨103,0,none⟩) 3 3] 119),none,none,wp,wg E7,wc,wi E7 2,wg E7,wt 2 lK E7,wt 1 Z0 lK],[none,wt 2 lK E7,none,wn Vp Vr,wn yg Sm,wp,some (.cells #[.string GW,.slice (some ⟨129,0,none⟩) 1 1,.bool false] 262),wc,wi GW 1,some (.cells #[.string RN,.string Sn] 47),wc,wi RN 4,some (.cells #[.string RN,.string Sn] 47),some (.cells #[.pointer (some ⟨125,0,none⟩),.slice (some ⟨126,0,none⟩) 2 2] 119),none,some (.cells #[.string RN,.string Sn] 47)],[some (.cells #[.string RN,.string Sn] 47),some (.cells #[.string RN,.string Sn] 47 (1,1)),some (.cells #[.string GW,.slice (some ⟨129,0,none⟩) 1 1,.bool false] 262),some (.cells #[.int .i64 2,.string lK,.string GW,.slice (some ⟨129,0,none⟩) 1 1,.bool false] 60),some (.cells #[.int .i64 2,.string lK,.string GW,.slice (some ⟨129,0,none⟩) 1 1,.bool false] 60),none,wn Vp Vr,wn yg Sm,wp,wp,wp,wp,wp,wp,some (.cells #[.pointer (some ⟨142,0,none⟩),.slice (some ⟨143,0,none⟩) 3 3] 119),none],[none,wp,wp,wg GW,wc,wi GW 1,wg GW,wt 3 lK GW,wt 1 Z1 lK,none,wt 3 lK GW,none,wp,wp,wg GV,wc],[wi GV 2,wg GV,wt 3 lK GV,wt 3 lK GV,some (.cells (wk 2 lK yg++wk 1 ZZ lK++wk 3 lK yg++wk 2 lK GV++wk 2 lK E7++wk 1 Z0 lK++wk 2 lK E7++wk 2 lK GW (.slice (some ⟨129,0,none⟩) 1 1)++wk 1 Z1 lK++wk 3 lK GW++wk 3 lK GV) 60 (1,1))]],165⟩
def sG:AS:=⟨[[none,some (.cells cR.toArray 335)],[],[some (.cells #[.slice (some ⟨35,0,none⟩) 1 1,.int .i64 62,.bool false] 80),none,some (.cells #[.string ot] 9),none,some (.cells #[.slice (some ⟨552,0,none⟩) 11 11] 82)],[],[],[],[],[],[none,some (.cells #[.string RN,.string Sn] 47 (1,1))],[],[],[],[],[],[],[],[],[],[],[],[],[],[],[],[],[],[],[],[],[],[],[],[],[],[none,none,none,none,none,none,none,none,some (.cells #[.int .i64 1,.int .i64 (-1),.string ⟨#[104,116,109,108]⟩,.string lK,.slice none 0 0,.int .i64 1,.int .i64 0,.string ⟨#[104,101,97,100]⟩,.string lK,.slice none 0 0,.int .i64 1,.int .i64 1,.string yg,.string lK,.slice none 0 0,.int .i64 2,.int .i64 2,.string lK,.string ZZ,.slice none 0 0,.int .i64 1,.int .i64 0,.string ⟨#[98,111,100,121]⟩,.string lK,.slice none 0 0,.int .i64 1,.int .i64 4,.string GV,.string lK,.slice none 0 0,.int .i64 1,.int .i64 5,.string E7,.string lK,.slice none 0 0,.int .i64 2,.int .i64 6,.string lK,.string Z0,.slice none 0 0,.int .i64 1,.int .i64 5,.string E7,.string lK,.slice none 0 0,.int .i64 1,.int .i64 8,.string GW,.string lK,.slice (some ⟨129,0,none⟩) 1 1,.int .i64 2,.int .i64 9,.string lK,.string Z1,.slice none 0 0] 44 (1,1))]],757⟩
def sH:AS:=sG.set 32 (some (.cells #[.slice none 0 0,.int .i64 0,.bool true] 80))
def Oi(P:Program)(r:Option (Value × AS)):Bool:=match r with
 | some (v,s)=>match jr P 38 (am 36 0) v s with
  | some s'=>AS.keeps (sC.set 35 none) s'&&Nh (s'.tidy 37) sG
  | none=>false
 | none=>false
def VE (r:Option (Exit × TL × AS)):Bool:=match r with
 | some (.ret,a,s)=>og 5 (a.getD 0 undef) (.bool true)&&UB (s.get 1) (some (.cells cR.toArray 335))
 | _=>false
def Mp:cI ot=L0:=kq
end Go.Proofs.YtgcaionclkbehaaGreatDoor
