/-
  DERIVED. GIVEN WITH THE SEED: THE CARDS: each row of YtdplffhieekfaaaDoorRows.lean that lists a variable, with what it lists TIED to the program's text (the seventh form; the later family's looks); each row that meets fmt, with fmt's text TOLD by the authors' own Lean function (tested against real Go, not proved from fmt's source: count such statements apart). THE CARD IS WHAT COUNTS. Prove the row's statement (the work); the ties are given (YtdplffhieekfaaaDoorTie.lean); close each card by the builder's one call (the guide's Derived/Test/ToyasCard.lean, 'card_holds'). Laid BY PROGRAM, IN A SANDBOX (cutbox-door.mjs). By AI agents, Wed Nov 11 2026. No macro, syntax, notation, axiom, sorry.
-/
import Derived.Test.YtdplffhieekfaaaDoorRows
import GoSem.ClaimSeven
namespace Go.Proofs.YtdplffhieekfaaaDoor
namespace Rows

/-- THE TIED CARD OF 'stampslaw.Texts'. -/
def textsCard : Claim7 := { stood := { row := textsRow, standIns := [], harness := (true, "b2fd5f2f5fcc45214e72f0a6051d7b01f05ed4c5bac504aba6de8fff6047070d"), looks := true }, kinds := [], alts := [], laidByText := true, laidKinds := [.data, .data, .data, .sentinel, .sentinel], laidTests := true, laidLooks := .later }
def TextsCardSaid : Prop := Claim7.holds Tryd.pinned (.plain (OpenSpec.ofChange textsSpec)) textsCard

/-- THE TIED CARD OF 'stampslaw.Desks'. -/
def desksCard : Claim7 := { stood := { row := desksRow, standIns := [], harness := (true, "b2fd5f2f5fcc45214e72f0a6051d7b01f05ed4c5bac504aba6de8fff6047070d"), looks := true }, kinds := [], alts := [], laidByText := true, laidKinds := [.data, .data, .data, .sentinel, .sentinel], laidTests := true, laidLooks := .later }
def DesksCardSaid : Prop := Claim7.holds Tryd.pinned (.plain (OpenSpec.ofChange desksSpec)) desksCard

/-- THE TIED CARD OF 'stampskeep.Written'. -/
def writtenCard : Claim7 := { stood := { row := writtenRow, standIns := [], harness := (true, "b2fd5f2f5fcc45214e72f0a6051d7b01f05ed4c5bac504aba6de8fff6047070d"), looks := true }, kinds := [], alts := [], laidByText := true, laidKinds := [.data, .data, .data, .sentinel, .sentinel], laidTests := true, laidLooks := .later }
def WrittenCardSaid : Prop := Claim7.holds Tryd.pinned (.plain (OpenSpec.ofChange writtenSpec)) writtenCard

/-- THE TIED CARD OF 'stampslaw.All'. -/
def allCard : Claim7 := { stood := { row := allRow, standIns := [], harness := (true, "b2fd5f2f5fcc45214e72f0a6051d7b01f05ed4c5bac504aba6de8fff6047070d"), looks := true }, kinds := [], alts := [], laidByText := true, laidKinds := [.data, .data, .data, .sentinel, .sentinel], laidTests := true, laidLooks := .later }
def AllCardSaid : Prop := Claim7.holds Tryd.pinned (.plain (OpenSpec.ofChange allSpec)) allCard

/-- THE SECOND FORM's CARD OF 'stampslaw.Texts'. -/
def textsUptoCard : Claim7 := { stood := { row := textsUptoRow, standIns := [], harness := (true, "b2fd5f2f5fcc45214e72f0a6051d7b01f05ed4c5bac504aba6de8fff6047070d"), looks := true }, kinds := [], alts := [], laidByText := true, laidKinds := [.data, .data, .data, .sentinel, .sentinel], laidTests := true, laidLooks := .later }
def TextsUptoCardSaid : Prop := Claim7.holds Tryd.pinned (.plain (OpenSpec.upto textsSpec)) textsUptoCard

/-- THE SECOND FORM's CARD OF 'stampslaw.Desks'. -/
def desksUptoCard : Claim7 := { stood := { row := desksUptoRow, standIns := [], harness := (true, "b2fd5f2f5fcc45214e72f0a6051d7b01f05ed4c5bac504aba6de8fff6047070d"), looks := true }, kinds := [], alts := [], laidByText := true, laidKinds := [.data, .data, .data, .sentinel, .sentinel], laidTests := true, laidLooks := .later }
def DesksUptoCardSaid : Prop := Claim7.holds Tryd.pinned (.plain (OpenSpec.upto desksSpec)) desksUptoCard

/-- THE SECOND FORM's CARD OF 'stampskeep.Written'. -/
def writtenUptoCard : Claim7 := { stood := { row := writtenUptoRow, standIns := [], harness := (true, "b2fd5f2f5fcc45214e72f0a6051d7b01f05ed4c5bac504aba6de8fff6047070d"), looks := true }, kinds := [], alts := [], laidByText := true, laidKinds := [.data, .data, .data, .sentinel, .sentinel], laidTests := true, laidLooks := .later }
def WrittenUptoCardSaid : Prop := Claim7.holds Tryd.pinned (.plain (OpenSpec.upto writtenSpec)) writtenUptoCard

/-- THE SECOND FORM's CARD OF 'stampslaw.All'. -/
def allUptoCard : Claim7 := { stood := { row := allUptoRow, standIns := [], harness := (true, "b2fd5f2f5fcc45214e72f0a6051d7b01f05ed4c5bac504aba6de8fff6047070d"), looks := true }, kinds := [], alts := [], laidByText := true, laidKinds := [.data, .data, .data, .sentinel, .sentinel], laidTests := true, laidLooks := .later }
def AllUptoCardSaid : Prop := Claim7.holds Tryd.pinned (.plain (OpenSpec.upto allSpec)) allUptoCard
end Rows
end Go.Proofs.YtdplffhieekfaaaDoor
