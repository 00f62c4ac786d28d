/-
  DERIVED. GIVEN WITH THE SEED: THE CARDS: each row of YtanfolfopalbeaaDoorRows.lean that lists a variable, with what it lists TIED to the program's text (the seventh form; the later family's looks); each row that meets fmt, with fmt's text TOLD by the authors' own Lean function (tested against real Go, not proved from fmt's source: count such statements apart). THE CARD IS WHAT COUNTS. Prove the row's statement (the work); the ties are given (YtanfolfopalbeaaDoorTie.lean); close each card by the builder's one call (the guide's Derived/Test/ToyasCard.lean, 'card_holds'). Laid BY PROGRAM, IN A SANDBOX (cutbox-door.mjs). By AI agents, Wed Nov 11 2026. No macro, syntax, notation, axiom, sorry.
-/
import Derived.Test.YtanfolfopalbeaaDoorRows
import GoSem.ClaimSeven
namespace Go.Proofs.YtanfolfopalbeaaDoor
namespace Rows

/-- THE TIED CARD OF 'ferrylaw.Sums'. -/
def sumsCard : Claim7 := { stood := { row := sumsRow, standIns := [], harness := (true, "8380596c4200f38022271a0ea7697c52e5eaaedc3f0e0e13c3daa8cb988535b0"), looks := false }, kinds := [], alts := [], laidByText := true, laidKinds := [.data, .data], laidTests := true, laidLooks := .later }
def SumsCardSaid : Prop := Claim7.holds Tryd.pinned (.plain (OpenSpec.ofChange sumsSpec)) sumsCard

/-- THE TIED CARD OF 'ferrykeep.Linked'. -/
def linkedCard : Claim7 := { stood := { row := linkedRow, standIns := [], harness := (true, "8380596c4200f38022271a0ea7697c52e5eaaedc3f0e0e13c3daa8cb988535b0"), looks := false }, kinds := [], alts := [], laidByText := true, laidKinds := [.data, .data], laidTests := true, laidLooks := .later }
def LinkedCardSaid : Prop := Claim7.holds Tryd.pinned (.plain (OpenSpec.ofChange linkedSpec)) linkedCard

/-- THE TIED CARD OF 'ferrylaw.Trees'. -/
def treesCard : Claim7 := { stood := { row := treesRow, standIns := [], harness := (true, "8380596c4200f38022271a0ea7697c52e5eaaedc3f0e0e13c3daa8cb988535b0"), looks := false }, kinds := [], alts := [], laidByText := true, laidKinds := [.data, .data], laidTests := true, laidLooks := .later }
def TreesCardSaid : Prop := Claim7.holds Tryd.pinned (.plain (OpenSpec.ofChange treesSpec)) treesCard

/-- THE TIED CARD OF 'ferrylaw.Verified'. -/
def verifiedCard : Claim7 := { stood := { row := verifiedRow, standIns := [], harness := (true, "8380596c4200f38022271a0ea7697c52e5eaaedc3f0e0e13c3daa8cb988535b0"), looks := false }, kinds := [], alts := [], laidByText := true, laidKinds := [.data, .data], laidTests := true, laidLooks := .later }
def VerifiedCardSaid : Prop := Claim7.holds Tryd.pinned (.plain (OpenSpec.ofChange verifiedSpec)) verifiedCard

/-- THE TIED CARD OF 'ferrykeep.Proven'. -/
def provenCard : Claim7 := { stood := { row := provenRow, standIns := [], harness := (true, "8380596c4200f38022271a0ea7697c52e5eaaedc3f0e0e13c3daa8cb988535b0"), looks := false }, kinds := [], alts := [], laidByText := true, laidKinds := [.data, .data], laidTests := true, laidLooks := .later }
def ProvenCardSaid : Prop := Claim7.holds Tryd.pinned (.plain (OpenSpec.ofChange provenSpec)) provenCard

/-- THE TIED CARD OF 'ferrykeep.Grown'. -/
def grownCard : Claim7 := { stood := { row := grownRow, standIns := [], harness := (true, "8380596c4200f38022271a0ea7697c52e5eaaedc3f0e0e13c3daa8cb988535b0"), looks := false }, kinds := [], alts := [], laidByText := true, laidKinds := [.data, .data], laidTests := true, laidLooks := .later }
def GrownCardSaid : Prop := Claim7.holds Tryd.pinned (.plain (OpenSpec.ofChange grownSpec)) grownCard

/-- THE TIED CARD OF 'ferrylaw.Carries'. -/
def carriesCard : Claim7 := { stood := { row := carriesRow, standIns := [], harness := (true, "8380596c4200f38022271a0ea7697c52e5eaaedc3f0e0e13c3daa8cb988535b0"), looks := false }, kinds := [], alts := [], laidByText := true, laidKinds := [.data, .data], laidTests := true, laidLooks := .later }
def CarriesCardSaid : Prop := Claim7.holds Tryd.pinned (.plain (OpenSpec.ofChange carriesSpec)) carriesCard

/-- THE TIED CARD OF 'ferrylaw.Junk'. -/
def junkCard : Claim7 := { stood := { row := junkRow, standIns := [], harness := (true, "8380596c4200f38022271a0ea7697c52e5eaaedc3f0e0e13c3daa8cb988535b0"), looks := false }, kinds := [], alts := [], laidByText := true, laidKinds := [.data, .data], laidTests := true, laidLooks := .later }
def JunkCardSaid : Prop := Claim7.holds Tryd.pinned (.plain (OpenSpec.ofChange junkSpec)) junkCard

/-- THE TIED CARD OF 'ferrykeep.Resumed'. -/
def resumedCard : Claim7 := { stood := { row := resumedRow, standIns := [], harness := (true, "8380596c4200f38022271a0ea7697c52e5eaaedc3f0e0e13c3daa8cb988535b0"), looks := false }, kinds := [], alts := [], laidByText := true, laidKinds := [.data, .data], laidTests := true, laidLooks := .later }
def ResumedCardSaid : Prop := Claim7.holds Tryd.pinned (.plain (OpenSpec.ofChange resumedSpec)) resumedCard

/-- THE TIED CARD OF 'ferrykeep.Stopped'. -/
def stoppedCard : Claim7 := { stood := { row := stoppedRow, standIns := [], harness := (true, "8380596c4200f38022271a0ea7697c52e5eaaedc3f0e0e13c3daa8cb988535b0"), looks := false }, kinds := [], alts := [], laidByText := true, laidKinds := [.data, .data], laidTests := true, laidLooks := .later }
def StoppedCardSaid : Prop := Claim7.holds Tryd.pinned (.plain (OpenSpec.ofChange stoppedSpec)) stoppedCard

/-- THE SECOND FORM's CARD OF 'ferrylaw.Sums'. -/
def sumsUptoCard : Claim7 := { stood := { row := sumsUptoRow, standIns := [], harness := (true, "8380596c4200f38022271a0ea7697c52e5eaaedc3f0e0e13c3daa8cb988535b0"), looks := false }, kinds := [], alts := [], laidByText := true, laidKinds := [.data, .data], laidTests := true, laidLooks := .later }
def SumsUptoCardSaid : Prop := Claim7.holds Tryd.pinned (.plain (OpenSpec.upto sumsSpec)) sumsUptoCard

/-- THE SECOND FORM's CARD OF 'ferrykeep.Linked'. -/
def linkedUptoCard : Claim7 := { stood := { row := linkedUptoRow, standIns := [], harness := (true, "8380596c4200f38022271a0ea7697c52e5eaaedc3f0e0e13c3daa8cb988535b0"), looks := false }, kinds := [], alts := [], laidByText := true, laidKinds := [.data, .data], laidTests := true, laidLooks := .later }
def LinkedUptoCardSaid : Prop := Claim7.holds Tryd.pinned (.plain (OpenSpec.upto linkedSpec)) linkedUptoCard

/-- THE SECOND FORM's CARD OF 'ferrylaw.Trees'. -/
def treesUptoCard : Claim7 := { stood := { row := treesUptoRow, standIns := [], harness := (true, "8380596c4200f38022271a0ea7697c52e5eaaedc3f0e0e13c3daa8cb988535b0"), looks := false }, kinds := [], alts := [], laidByText := true, laidKinds := [.data, .data], laidTests := true, laidLooks := .later }
def TreesUptoCardSaid : Prop := Claim7.holds Tryd.pinned (.plain (OpenSpec.upto treesSpec)) treesUptoCard

/-- THE SECOND FORM's CARD OF 'ferrylaw.Verified'. -/
def verifiedUptoCard : Claim7 := { stood := { row := verifiedUptoRow, standIns := [], harness := (true, "8380596c4200f38022271a0ea7697c52e5eaaedc3f0e0e13c3daa8cb988535b0"), looks := false }, kinds := [], alts := [], laidByText := true, laidKinds := [.data, .data], laidTests := true, laidLooks := .later }
def VerifiedUptoCardSaid : Prop := Claim7.holds Tryd.pinned (.plain (OpenSpec.upto verifiedSpec)) verifiedUptoCard

/-- THE SECOND FORM's CARD OF 'ferrykeep.Proven'. -/
def provenUptoCard : Claim7 := { stood := { row := provenUptoRow, standIns := [], harness := (true, "8380596c4200f38022271a0ea7697c52e5eaaedc3f0e0e13c3daa8cb988535b0"), looks := false }, kinds := [], alts := [], laidByText := true, laidKinds := [.data, .data], laidTests := true, laidLooks := .later }
def ProvenUptoCardSaid : Prop := Claim7.holds Tryd.pinned (.plain (OpenSpec.upto provenSpec)) provenUptoCard

/-- THE SECOND FORM's CARD OF 'ferrykeep.Grown'. -/
def grownUptoCard : Claim7 := { stood := { row := grownUptoRow, standIns := [], harness := (true, "8380596c4200f38022271a0ea7697c52e5eaaedc3f0e0e13c3daa8cb988535b0"), looks := false }, kinds := [], alts := [], laidByText := true, laidKinds := [.data, .data], laidTests := true, laidLooks := .later }
def GrownUptoCardSaid : Prop := Claim7.holds Tryd.pinned (.plain (OpenSpec.upto grownSpec)) grownUptoCard

/-- THE SECOND FORM's CARD OF 'ferrylaw.Carries'. -/
def carriesUptoCard : Claim7 := { stood := { row := carriesUptoRow, standIns := [], harness := (true, "8380596c4200f38022271a0ea7697c52e5eaaedc3f0e0e13c3daa8cb988535b0"), looks := false }, kinds := [], alts := [], laidByText := true, laidKinds := [.data, .data], laidTests := true, laidLooks := .later }
def CarriesUptoCardSaid : Prop := Claim7.holds Tryd.pinned (.plain (OpenSpec.upto carriesSpec)) carriesUptoCard

/-- THE SECOND FORM's CARD OF 'ferrylaw.Junk'. -/
def junkUptoCard : Claim7 := { stood := { row := junkUptoRow, standIns := [], harness := (true, "8380596c4200f38022271a0ea7697c52e5eaaedc3f0e0e13c3daa8cb988535b0"), looks := false }, kinds := [], alts := [], laidByText := true, laidKinds := [.data, .data], laidTests := true, laidLooks := .later }
def JunkUptoCardSaid : Prop := Claim7.holds Tryd.pinned (.plain (OpenSpec.upto junkSpec)) junkUptoCard

/-- THE SECOND FORM's CARD OF 'ferrykeep.Resumed'. -/
def resumedUptoCard : Claim7 := { stood := { row := resumedUptoRow, standIns := [], harness := (true, "8380596c4200f38022271a0ea7697c52e5eaaedc3f0e0e13c3daa8cb988535b0"), looks := false }, kinds := [], alts := [], laidByText := true, laidKinds := [.data, .data], laidTests := true, laidLooks := .later }
def ResumedUptoCardSaid : Prop := Claim7.holds Tryd.pinned (.plain (OpenSpec.upto resumedSpec)) resumedUptoCard

/-- THE SECOND FORM's CARD OF 'ferrykeep.Stopped'. -/
def stoppedUptoCard : Claim7 := { stood := { row := stoppedUptoRow, standIns := [], harness := (true, "8380596c4200f38022271a0ea7697c52e5eaaedc3f0e0e13c3daa8cb988535b0"), looks := false }, kinds := [], alts := [], laidByText := true, laidKinds := [.data, .data], laidTests := true, laidLooks := .later }
def StoppedUptoCardSaid : Prop := Claim7.holds Tryd.pinned (.plain (OpenSpec.upto stoppedSpec)) stoppedUptoCard
end Rows
end Go.Proofs.YtanfolfopalbeaaDoor
