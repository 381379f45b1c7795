/-
  DERIVED. GIVEN WITH THE SEED: THE CARDS: each row of YtjhbohlockgfnaaGreatDoorRows.lean that lists a variable, with what it lists TIED to the program's text (the seventh form; the later family's looks); each row that meets fmt, with fmt's text TOLD by the authors' own Lean function (tested against real Go, not proved from fmt's source: count such statements apart). THE CARD IS WHAT COUNTS. Prove the row's statement (the work); the ties are given (YtjhbohlockgfnaaGreatDoorTie.lean); close each card by the builder's one call (the guide's Derived/Test/ToyasCard.lean, 'card_holds'). Laid BY PROGRAM, IN A SANDBOX (cutbox-door.mjs). By AI agents, Wed Nov 11 2026. No macro, syntax, notation, axiom, sorry.
-/
import Derived.Test.YtjhbohlockgfnaaGreatDoorRows
import GoSem.ClaimSeven
namespace Go.Proofs.YtjhbohlockgfnaaGreatDoor
namespace Rows

/-- THE TIED CARD OF 'foliolaw.Decodes'. -/
def decodesCard : Claim7 := { stood := { row := decodesRow, standIns := [], harness := (true, "84b9668f1f8b8fda8f1bde7e3807e1307d0e0e09420790f5a475f02a3490d8fe"), looks := false }, kinds := [], alts := [], goes := true, laidByText := true, laidKinds := [.data, .data, .pinned], laidTests := true, laidLooks := .later }
def DecodesCardSaid : Prop := Claim7.holds Tryz.pinned (.plain (OpenSpec.ofChange decodesSpec)) decodesCard

/-- THE TIED CARD OF 'foliolaw.Tokenized'. -/
def tokenizedCard : Claim7 := { stood := { row := tokenizedRow, standIns := [], harness := (true, "84b9668f1f8b8fda8f1bde7e3807e1307d0e0e09420790f5a475f02a3490d8fe"), looks := false }, kinds := [], alts := [], goes := true, laidByText := true, laidKinds := [.data, .data, .pinned], laidTests := true, laidLooks := .later }
def TokenizedCardSaid : Prop := Claim7.holds Tryz.pinned (.plain (OpenSpec.ofChange tokenizedSpec)) tokenizedCard

/-- THE SECOND FORM's CARD OF 'foliolaw.Decodes'. -/
def decodesUptoCard : Claim7 := { stood := { row := decodesUptoRow, standIns := [], harness := (true, "84b9668f1f8b8fda8f1bde7e3807e1307d0e0e09420790f5a475f02a3490d8fe"), looks := false }, kinds := [], alts := [], goes := true, laidByText := true, laidKinds := [.data, .data, .pinned], laidTests := true, laidLooks := .later }
def DecodesUptoCardSaid : Prop := Claim7.holds Tryz.pinned (.plain (OpenSpec.upto decodesSpec)) decodesUptoCard

/-- THE SECOND FORM's CARD OF 'foliolaw.Tokenized'. -/
def tokenizedUptoCard : Claim7 := { stood := { row := tokenizedUptoRow, standIns := [], harness := (true, "84b9668f1f8b8fda8f1bde7e3807e1307d0e0e09420790f5a475f02a3490d8fe"), looks := false }, kinds := [], alts := [], goes := true, laidByText := true, laidKinds := [.data, .data, .pinned], laidTests := true, laidLooks := .later }
def TokenizedUptoCardSaid : Prop := Claim7.holds Tryz.pinned (.plain (OpenSpec.upto tokenizedSpec)) tokenizedUptoCard
end Rows
end Go.Proofs.YtjhbohlockgfnaaGreatDoor
