/-
  DERIVED. GIVEN WITH THE SEED: THE CARDS: each row of YtagickkgffkjjaaDoorRows.lean that lists a variable, with what it lists TIED to the program's text (the seventh form; the later family's looks); each row that meets fmt, with fmt's text TOLD by the authors' own Lean function (tested against real Go, not proved from fmt's source: count such statements apart). THE CARD IS WHAT COUNTS. Prove the row's statement (the work); the ties are given (YtagickkgffkjjaaDoorTie.lean); close each card by the builder's one call (the guide's Derived/Test/ToyasCard.lean, 'card_holds'). Laid BY PROGRAM, IN A SANDBOX (cutbox-door.mjs). By AI agents, Wed Nov 11 2026. No macro, syntax, notation, axiom, sorry.
-/
import Derived.Test.YtagickkgffkjjaaDoorRows
import GoSem.ClaimSeven
namespace Go.Proofs.YtagickkgffkjjaaDoor
namespace Rows

/-- THE TIED CARD OF 'ferrylaw.Sums'. -/
def sumsCard : Claim7 := { stood := { row := sumsRow, standIns := [], harness := (true, "92058cb9219188df53e399ca7e63537db15dbe6941f59dce441649e044739a76"), looks := false }, kinds := [], alts := [], laidByText := true, laidKinds := [.data, .data], laidTests := true, laidLooks := .later }
def SumsCardSaid : Prop := Claim7.holds Tryd.pinned (.plain (OpenSpec.ofChange sumsSpec)) sumsCard

/-- THE TIED CARD OF 'ferrykeep.Linked'. -/
def linkedCard : Claim7 := { stood := { row := linkedRow, standIns := [], harness := (true, "92058cb9219188df53e399ca7e63537db15dbe6941f59dce441649e044739a76"), looks := false }, kinds := [], alts := [], laidByText := true, laidKinds := [.data, .data], laidTests := true, laidLooks := .later }
def LinkedCardSaid : Prop := Claim7.holds Tryd.pinned (.plain (OpenSpec.ofChange linkedSpec)) linkedCard

/-- THE SECOND FORM's CARD OF 'ferrylaw.Sums'. -/
def sumsUptoCard : Claim7 := { stood := { row := sumsUptoRow, standIns := [], harness := (true, "92058cb9219188df53e399ca7e63537db15dbe6941f59dce441649e044739a76"), looks := false }, kinds := [], alts := [], laidByText := true, laidKinds := [.data, .data], laidTests := true, laidLooks := .later }
def SumsUptoCardSaid : Prop := Claim7.holds Tryd.pinned (.plain (OpenSpec.upto sumsSpec)) sumsUptoCard

/-- THE SECOND FORM's CARD OF 'ferrykeep.Linked'. -/
def linkedUptoCard : Claim7 := { stood := { row := linkedUptoRow, standIns := [], harness := (true, "92058cb9219188df53e399ca7e63537db15dbe6941f59dce441649e044739a76"), looks := false }, kinds := [], alts := [], laidByText := true, laidKinds := [.data, .data], laidTests := true, laidLooks := .later }
def LinkedUptoCardSaid : Prop := Claim7.holds Tryd.pinned (.plain (OpenSpec.upto linkedSpec)) linkedUptoCard
end Rows
end Go.Proofs.YtagickkgffkjjaaDoor
