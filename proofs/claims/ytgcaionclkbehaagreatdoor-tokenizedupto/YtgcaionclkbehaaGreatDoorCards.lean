/-
  DERIVED. GIVEN WITH THE SEED: THE CARDS: each row of YtgcaionclkbehaaGreatDoorRows.lean that lists a variable, with what it lists TIED to the program's text (the seventh form; the later family's looks); each row that meets fmt, with fmt's text TOLD by the authors' own Lean function (tested against real Go, not proved from fmt's source: count such statements apart). THE CARD IS WHAT COUNTS. Prove the row's statement (the work); the ties are given (YtgcaionclkbehaaGreatDoorTie.lean); close each card by the builder's one call (the guide's Derived/Test/ToyasCard.lean, 'card_holds'). Laid BY PROGRAM, IN A SANDBOX (cutbox-door.mjs). By AI agents, Wed Nov 11 2026. No macro, syntax, notation, axiom, sorry.
-/
import Derived.Test.YtgcaionclkbehaaGreatDoorRows
import GoSem.ClaimSeven
namespace Go.Proofs.YtgcaionclkbehaaGreatDoor
namespace Rows

/-- THE TIED CARD OF 'foliolaw.Decodes'. -/
def decodesCard : Claim7 := { stood := { row := decodesRow, standIns := [], harness := (true, "0aa52f343db204c87cb1d4586eacd3c28d764b8128200a4058aeaff0c315a498"), looks := false }, kinds := [], alts := [], goes := true, laidByText := true, laidKinds := [.data, .data, .pinned], laidTests := true, laidLooks := .later }
def DecodesCardSaid : Prop := Claim7.holds Tryz.pinned (.plain (OpenSpec.ofChange decodesSpec)) decodesCard

/-- THE TIED CARD OF 'foliolaw.Tokenized'. -/
def tokenizedCard : Claim7 := { stood := { row := tokenizedRow, standIns := [], harness := (true, "0aa52f343db204c87cb1d4586eacd3c28d764b8128200a4058aeaff0c315a498"), looks := false }, kinds := [], alts := [], goes := true, laidByText := true, laidKinds := [.data, .data, .pinned], laidTests := true, laidLooks := .later }
def TokenizedCardSaid : Prop := Claim7.holds Tryz.pinned (.plain (OpenSpec.ofChange tokenizedSpec)) tokenizedCard

/-- THE TIED CARD OF 'foliolaw.Trees'. -/
def treesCard : Claim7 := { stood := { row := treesRow, standIns := [], harness := (true, "0aa52f343db204c87cb1d4586eacd3c28d764b8128200a4058aeaff0c315a498"), looks := false }, kinds := [], alts := [], goes := true, laidByText := true, laidKinds := [.data, .data, .pinned], laidTests := true, laidLooks := .later }
def TreesCardSaid : Prop := Claim7.holds Tryz.pinned (.plain (OpenSpec.ofChange treesSpec)) treesCard

/-- THE TIED CARD OF 'foliokeep.Pieces'. -/
def piecesCard : Claim7 := { stood := { row := piecesRow, standIns := [], harness := (true, "0aa52f343db204c87cb1d4586eacd3c28d764b8128200a4058aeaff0c315a498"), looks := false }, kinds := [], alts := [], goes := true, laidByText := true, laidKinds := [.data, .data, .pinned], laidTests := true, laidLooks := .later }
def PiecesCardSaid : Prop := Claim7.holds Tryz.pinned (.plain (OpenSpec.ofChange piecesSpec)) piecesCard

/-- THE TIED CARD OF 'foliokeep.Grown'. -/
def grownCard : Claim7 := { stood := { row := grownRow, standIns := [], harness := (true, "0aa52f343db204c87cb1d4586eacd3c28d764b8128200a4058aeaff0c315a498"), looks := false }, kinds := [], alts := [], goes := true, laidByText := true, laidKinds := [.data, .data, .pinned], laidTests := true, laidLooks := .later }
def GrownCardSaid : Prop := Claim7.holds Tryz.pinned (.plain (OpenSpec.ofChange grownSpec)) grownCard

/-- THE TIED CARD OF 'foliolaw.All'. -/
def allCard : Claim7 := { stood := { row := allRow, standIns := [], harness := (true, "0aa52f343db204c87cb1d4586eacd3c28d764b8128200a4058aeaff0c315a498"), looks := false }, kinds := [], alts := [], goes := true, laidByText := true, laidKinds := [.data, .data, .pinned], laidTests := true, laidLooks := .later }
def AllCardSaid : Prop := Claim7.holds Tryz.pinned (.plain (OpenSpec.ofChange allSpec)) allCard

/-- THE TIED CARD OF 'foliokeep.Again'. -/
def againCard : Claim7 := { stood := { row := againRow, standIns := [], harness := (true, "0aa52f343db204c87cb1d4586eacd3c28d764b8128200a4058aeaff0c315a498"), looks := false }, kinds := [], alts := [], goes := true, laidByText := true, laidKinds := [.data, .data, .pinned], laidTests := true, laidLooks := .later }
def AgainCardSaid : Prop := Claim7.holds Tryz.pinned (.plain (OpenSpec.ofChange againSpec)) againCard

/-- THE TIED CARD OF 'foliokeep.Escaped'. -/
def escapedCard : Claim7 := { stood := { row := escapedRow, standIns := [], harness := (true, "0aa52f343db204c87cb1d4586eacd3c28d764b8128200a4058aeaff0c315a498"), looks := false }, kinds := [], alts := [], goes := true, laidByText := true, laidKinds := [.data, .data, .pinned], laidTests := true, laidLooks := .later }
def EscapedCardSaid : Prop := Claim7.holds Tryz.pinned (.plain (OpenSpec.ofChange escapedSpec)) escapedCard

/-- THE TIED CARD OF 'foliokeep.Numbered'. -/
def numberedCard : Claim7 := { stood := { row := numberedRow, standIns := [], harness := (true, "0aa52f343db204c87cb1d4586eacd3c28d764b8128200a4058aeaff0c315a498"), looks := false }, kinds := [], alts := [], goes := true, laidByText := true, laidKinds := [.data, .data, .pinned], laidTests := true, laidLooks := .later }
def NumberedCardSaid : Prop := Claim7.holds Tryz.pinned (.plain (OpenSpec.ofChange numberedSpec)) numberedCard

/-- THE TIED CARD OF 'foliokeep.Raw'. -/
def rawCard : Claim7 := { stood := { row := rawRow, standIns := [], harness := (true, "0aa52f343db204c87cb1d4586eacd3c28d764b8128200a4058aeaff0c315a498"), looks := false }, kinds := [], alts := [], goes := true, laidByText := true, laidKinds := [.data, .data, .pinned], laidTests := true, laidLooks := .later }
def RawCardSaid : Prop := Claim7.holds Tryz.pinned (.plain (OpenSpec.ofChange rawSpec)) rawCard

/-- THE TIED CARD OF 'foliokeep.Resolved'. -/
def resolvedCard : Claim7 := { stood := { row := resolvedRow, standIns := [], harness := (true, "0aa52f343db204c87cb1d4586eacd3c28d764b8128200a4058aeaff0c315a498"), looks := false }, kinds := [], alts := [], goes := true, laidByText := true, laidKinds := [.data, .data, .pinned], laidTests := true, laidLooks := .later }
def ResolvedCardSaid : Prop := Claim7.holds Tryz.pinned (.plain (OpenSpec.ofChange resolvedSpec)) resolvedCard

/-- THE SECOND FORM's CARD OF 'foliolaw.Decodes'. -/
def decodesUptoCard : Claim7 := { stood := { row := decodesUptoRow, standIns := [], harness := (true, "0aa52f343db204c87cb1d4586eacd3c28d764b8128200a4058aeaff0c315a498"), looks := false }, kinds := [], alts := [], goes := true, laidByText := true, laidKinds := [.data, .data, .pinned], laidTests := true, laidLooks := .later }
def DecodesUptoCardSaid : Prop := Claim7.holds Tryz.pinned (.plain (OpenSpec.upto decodesSpec)) decodesUptoCard

/-- THE SECOND FORM's CARD OF 'foliolaw.Tokenized'. -/
def tokenizedUptoCard : Claim7 := { stood := { row := tokenizedUptoRow, standIns := [], harness := (true, "0aa52f343db204c87cb1d4586eacd3c28d764b8128200a4058aeaff0c315a498"), looks := false }, kinds := [], alts := [], goes := true, laidByText := true, laidKinds := [.data, .data, .pinned], laidTests := true, laidLooks := .later }
def TokenizedUptoCardSaid : Prop := Claim7.holds Tryz.pinned (.plain (OpenSpec.upto tokenizedSpec)) tokenizedUptoCard

/-- THE SECOND FORM's CARD OF 'foliolaw.Trees'. -/
def treesUptoCard : Claim7 := { stood := { row := treesUptoRow, standIns := [], harness := (true, "0aa52f343db204c87cb1d4586eacd3c28d764b8128200a4058aeaff0c315a498"), looks := false }, kinds := [], alts := [], goes := true, laidByText := true, laidKinds := [.data, .data, .pinned], laidTests := true, laidLooks := .later }
def TreesUptoCardSaid : Prop := Claim7.holds Tryz.pinned (.plain (OpenSpec.upto treesSpec)) treesUptoCard

/-- THE SECOND FORM's CARD OF 'foliokeep.Pieces'. -/
def piecesUptoCard : Claim7 := { stood := { row := piecesUptoRow, standIns := [], harness := (true, "0aa52f343db204c87cb1d4586eacd3c28d764b8128200a4058aeaff0c315a498"), looks := false }, kinds := [], alts := [], goes := true, laidByText := true, laidKinds := [.data, .data, .pinned], laidTests := true, laidLooks := .later }
def PiecesUptoCardSaid : Prop := Claim7.holds Tryz.pinned (.plain (OpenSpec.upto piecesSpec)) piecesUptoCard

/-- THE SECOND FORM's CARD OF 'foliokeep.Grown'. -/
def grownUptoCard : Claim7 := { stood := { row := grownUptoRow, standIns := [], harness := (true, "0aa52f343db204c87cb1d4586eacd3c28d764b8128200a4058aeaff0c315a498"), looks := false }, kinds := [], alts := [], goes := true, laidByText := true, laidKinds := [.data, .data, .pinned], laidTests := true, laidLooks := .later }
def GrownUptoCardSaid : Prop := Claim7.holds Tryz.pinned (.plain (OpenSpec.upto grownSpec)) grownUptoCard

/-- THE SECOND FORM's CARD OF 'foliolaw.All'. -/
def allUptoCard : Claim7 := { stood := { row := allUptoRow, standIns := [], harness := (true, "0aa52f343db204c87cb1d4586eacd3c28d764b8128200a4058aeaff0c315a498"), looks := false }, kinds := [], alts := [], goes := true, laidByText := true, laidKinds := [.data, .data, .pinned], laidTests := true, laidLooks := .later }
def AllUptoCardSaid : Prop := Claim7.holds Tryz.pinned (.plain (OpenSpec.upto allSpec)) allUptoCard

/-- THE SECOND FORM's CARD OF 'foliokeep.Again'. -/
def againUptoCard : Claim7 := { stood := { row := againUptoRow, standIns := [], harness := (true, "0aa52f343db204c87cb1d4586eacd3c28d764b8128200a4058aeaff0c315a498"), looks := false }, kinds := [], alts := [], goes := true, laidByText := true, laidKinds := [.data, .data, .pinned], laidTests := true, laidLooks := .later }
def AgainUptoCardSaid : Prop := Claim7.holds Tryz.pinned (.plain (OpenSpec.upto againSpec)) againUptoCard

/-- THE SECOND FORM's CARD OF 'foliokeep.Escaped'. -/
def escapedUptoCard : Claim7 := { stood := { row := escapedUptoRow, standIns := [], harness := (true, "0aa52f343db204c87cb1d4586eacd3c28d764b8128200a4058aeaff0c315a498"), looks := false }, kinds := [], alts := [], goes := true, laidByText := true, laidKinds := [.data, .data, .pinned], laidTests := true, laidLooks := .later }
def EscapedUptoCardSaid : Prop := Claim7.holds Tryz.pinned (.plain (OpenSpec.upto escapedSpec)) escapedUptoCard

/-- THE SECOND FORM's CARD OF 'foliokeep.Numbered'. -/
def numberedUptoCard : Claim7 := { stood := { row := numberedUptoRow, standIns := [], harness := (true, "0aa52f343db204c87cb1d4586eacd3c28d764b8128200a4058aeaff0c315a498"), looks := false }, kinds := [], alts := [], goes := true, laidByText := true, laidKinds := [.data, .data, .pinned], laidTests := true, laidLooks := .later }
def NumberedUptoCardSaid : Prop := Claim7.holds Tryz.pinned (.plain (OpenSpec.upto numberedSpec)) numberedUptoCard

/-- THE SECOND FORM's CARD OF 'foliokeep.Raw'. -/
def rawUptoCard : Claim7 := { stood := { row := rawUptoRow, standIns := [], harness := (true, "0aa52f343db204c87cb1d4586eacd3c28d764b8128200a4058aeaff0c315a498"), looks := false }, kinds := [], alts := [], goes := true, laidByText := true, laidKinds := [.data, .data, .pinned], laidTests := true, laidLooks := .later }
def RawUptoCardSaid : Prop := Claim7.holds Tryz.pinned (.plain (OpenSpec.upto rawSpec)) rawUptoCard

/-- THE SECOND FORM's CARD OF 'foliokeep.Resolved'. -/
def resolvedUptoCard : Claim7 := { stood := { row := resolvedUptoRow, standIns := [], harness := (true, "0aa52f343db204c87cb1d4586eacd3c28d764b8128200a4058aeaff0c315a498"), looks := false }, kinds := [], alts := [], goes := true, laidByText := true, laidKinds := [.data, .data, .pinned], laidTests := true, laidLooks := .later }
def ResolvedUptoCardSaid : Prop := Claim7.holds Tryz.pinned (.plain (OpenSpec.upto resolvedSpec)) resolvedUptoCard
end Rows
end Go.Proofs.YtgcaionclkbehaaGreatDoor
