/-
  DERIVED. GIVEN WITH THE SEED: THE CARDS: each row of YtanfolfopalbeabDoorRows.lean that lists a variable, with what it lists TIED to the program's text (the seventh form; the later family's looks); each row that meets fmt, with fmt's text TOLD by the authors' own Lean function (tested against real Go, not proved from fmt's source: count such statements apart). THE CARD IS WHAT COUNTS. Prove the row's statement (the work); the ties are given (YtanfolfopalbeabDoorTie.lean); close each card by the builder's one call (the guide's Derived/Test/ToyasCard.lean, 'card_holds'). Laid BY PROGRAM, IN A SANDBOX (cutbox-door.mjs). By AI agents, Wed Nov 11 2026. No macro, syntax, notation, axiom, sorry.
-/
import Derived.Test.YtanfolfopalbeabDoorRows
import GoSem.ClaimSeven
namespace Go.Proofs.YtanfolfopalbeabDoor
namespace Rows

/-- THE TIED CARD OF 'ferrylaw.Translates'. -/
def translatesCard : Claim7 := { stood := { row := translatesRow, standIns := [], harness := (true, "dc44d04f84d85ee08574b7ee3745c7304022aa490e713d988feda4793c6a7ed0"), looks := false }, kinds := [], alts := [], laidByText := true, laidKinds := [.data, .data], laidTests := true, laidLooks := .later }
def TranslatesCardSaid : Prop := Claim7.holds Tryd.pinned (.plain (OpenSpec.ofChange translatesSpec)) translatesCard

/-- THE TIED CARD OF 'ferrykeep.Bridged'. -/
def bridgedCard : Claim7 := { stood := { row := bridgedRow, standIns := [], harness := (true, "dc44d04f84d85ee08574b7ee3745c7304022aa490e713d988feda4793c6a7ed0"), looks := false }, kinds := [], alts := [], laidByText := true, laidKinds := [.data, .data], laidTests := true, laidLooks := .later }
def BridgedCardSaid : Prop := Claim7.holds Tryd.pinned (.plain (OpenSpec.ofChange bridgedSpec)) bridgedCard

/-- THE TIED CARD OF 'ferrykeep.Collided'. -/
def collidedCard : Claim7 := { stood := { row := collidedRow, standIns := [], harness := (true, "dc44d04f84d85ee08574b7ee3745c7304022aa490e713d988feda4793c6a7ed0"), looks := false }, kinds := [], alts := [], laidByText := true, laidKinds := [.data, .data], laidTests := true, laidLooks := .later }
def CollidedCardSaid : Prop := Claim7.holds Tryd.pinned (.plain (OpenSpec.ofChange collidedSpec)) collidedCard

/-- THE SECOND FORM's CARD OF 'ferrylaw.Translates'. -/
def translatesUptoCard : Claim7 := { stood := { row := translatesUptoRow, standIns := [], harness := (true, "dc44d04f84d85ee08574b7ee3745c7304022aa490e713d988feda4793c6a7ed0"), looks := false }, kinds := [], alts := [], laidByText := true, laidKinds := [.data, .data], laidTests := true, laidLooks := .later }
def TranslatesUptoCardSaid : Prop := Claim7.holds Tryd.pinned (.plain (OpenSpec.upto translatesSpec)) translatesUptoCard

/-- THE SECOND FORM's CARD OF 'ferrykeep.Bridged'. -/
def bridgedUptoCard : Claim7 := { stood := { row := bridgedUptoRow, standIns := [], harness := (true, "dc44d04f84d85ee08574b7ee3745c7304022aa490e713d988feda4793c6a7ed0"), looks := false }, kinds := [], alts := [], laidByText := true, laidKinds := [.data, .data], laidTests := true, laidLooks := .later }
def BridgedUptoCardSaid : Prop := Claim7.holds Tryd.pinned (.plain (OpenSpec.upto bridgedSpec)) bridgedUptoCard

/-- THE SECOND FORM's CARD OF 'ferrykeep.Collided'. -/
def collidedUptoCard : Claim7 := { stood := { row := collidedUptoRow, standIns := [], harness := (true, "dc44d04f84d85ee08574b7ee3745c7304022aa490e713d988feda4793c6a7ed0"), looks := false }, kinds := [], alts := [], laidByText := true, laidKinds := [.data, .data], laidTests := true, laidLooks := .later }
def CollidedUptoCardSaid : Prop := Claim7.holds Tryd.pinned (.plain (OpenSpec.upto collidedSpec)) collidedUptoCard
end Rows
end Go.Proofs.YtanfolfopalbeabDoor
