/-
  NARROWER THAN 'FOR EVERY INPUT', by the rows' own cells (each row's printed sentence says how): Sums: laid · Linked: laid · Trees: laid · Verified: laid · Proven: laid · Grown: laid · Carries: laid · Junk: laid · Resumed: laid · Stopped: laid.
  DERIVED. THE GIVEN ROWS OF THIS SEAT. 10 by the template 'for every input the law returns true; each argument reads behind the call as it read before'; 0 by the template 'total and deterministic' (their statements: YtanfolfopalbeaaDoorTotals.lean).
  GIVEN WITH THE SEED: the statements are not yours to turn. If you find one false, say at which input.
  Laid BY PROGRAM, IN A SANDBOX (cutbox-rows.mjs): the forced cells as the released guide's own fill.sh prints them over the translation 7199e4849edc47e0… (all of the seat's roots in one cut). By AI agents, Wed Nov 11 2026. No macro, syntax, notation, axiom, sorry.
-/
import Derived.Test.YtanfolfopalbeaaDoorChecked
import GoSem.Claim
import GoSem.ClaimJoined
import GoSem.ClaimMapViews
import Derived.JoinedTies
import Derived.KernelRfl
namespace Go.Proofs.YtanfolfopalbeaaDoor
/- THE CELL 'sum', in the pinned program and in every row, IS THE sha256 OF THE DUMP (.gsa) THAT YtanfolfopalbeaaDoorProg.lean LOADS. Nothing in Lean hashes anything: it is a label: what it is worth is what the hold of that sum in a sandbox is worth. -/
noncomputable def Tryd.pinned : Pinned := { name := "ytanfolfopalbeaadoor", sum := "7199e4849edc47e0debc8f07145a1363ec1afceb8b5da3d9c14468a8b8b35d1c", checked := Tryd.checked }
namespace Rows
def none {H : Type} : Left H := { results := [], args := [] }

/- WHAT THE LISTED PACKAGE-LEVEL VARIABLES READ AS WHEN THE CALL BEGINS. Each datum BY PROGRAM (the guide's laid-datum.mjs) off the statement by which the dump's own 'gosem.cut.vars' lays the variable. In a bare row this is a premise. The card (YtanfolfopalbeaaDoorCards.lean) ties it to the program's text. -/
def laid_ferry_sums_startWords {H : Type} : DataW H := .agg [.lit (.int .u32 1779033703), .lit (.int .u32 3144134277), .lit (.int .u32 1013904242), .lit (.int .u32 2773480762), .lit (.int .u32 1359893119), .lit (.int .u32 2600822924), .lit (.int .u32 528734635), .lit (.int .u32 1541459225)]
def laid_ferry_sums_roundWords {H : Type} : DataW H := .agg [.lit (.int .u32 1116352408), .lit (.int .u32 1899447441), .lit (.int .u32 3049323471), .lit (.int .u32 3921009573), .lit (.int .u32 961987163), .lit (.int .u32 1508970993), .lit (.int .u32 2453635748), .lit (.int .u32 2870763221), .lit (.int .u32 3624381080), .lit (.int .u32 310598401), .lit (.int .u32 607225278), .lit (.int .u32 1426881987), .lit (.int .u32 1925078388), .lit (.int .u32 2162078206), .lit (.int .u32 2614888103), .lit (.int .u32 3248222580), .lit (.int .u32 3835390401), .lit (.int .u32 4022224774), .lit (.int .u32 264347078), .lit (.int .u32 604807628), .lit (.int .u32 770255983), .lit (.int .u32 1249150122), .lit (.int .u32 1555081692), .lit (.int .u32 1996064986), .lit (.int .u32 2554220882), .lit (.int .u32 2821834349), .lit (.int .u32 2952996808), .lit (.int .u32 3210313671), .lit (.int .u32 3336571891), .lit (.int .u32 3584528711), .lit (.int .u32 113926993), .lit (.int .u32 338241895), .lit (.int .u32 666307205), .lit (.int .u32 773529912), .lit (.int .u32 1294757372), .lit (.int .u32 1396182291), .lit (.int .u32 1695183700), .lit (.int .u32 1986661051), .lit (.int .u32 2177026350), .lit (.int .u32 2456956037), .lit (.int .u32 2730485921), .lit (.int .u32 2820302411), .lit (.int .u32 3259730800), .lit (.int .u32 3345764771), .lit (.int .u32 3516065817), .lit (.int .u32 3600352804), .lit (.int .u32 4094571909), .lit (.int .u32 275423344), .lit (.int .u32 430227734), .lit (.int .u32 506948616), .lit (.int .u32 659060556), .lit (.int .u32 883997877), .lit (.int .u32 958139571), .lit (.int .u32 1322822218), .lit (.int .u32 1537002063), .lit (.int .u32 1747873779), .lit (.int .u32 1955562222), .lit (.int .u32 2024104815), .lit (.int .u32 2227730452), .lit (.int .u32 2361852424), .lit (.int .u32 2428436474), .lit (.int .u32 2756734187), .lit (.int .u32 3204031479), .lit (.int .u32 3329325298)]

/-- 'ferrylaw.Sums': WHATEVER THE INPUT: true; the input reads as it did. -/
def sumsSpec : ChangeSpec := { name := "sums", fn := fun _ => fun
  | [d] => { results := [.lit (.bool true)], args := [d] }
  | _ => none }
def sumsRow : OpenClaim := { program := "ytanfolfopalbeaadoor", sum := "7199e4849edc47e0debc8f07145a1363ec1afceb8b5da3d9c14468a8b8b35d1c", func := "ferry/ferrylaw.Sums", spec := "sums", named := ["ferry/sums.startWords", "ferry/sums.roundWords"], apart := false, laid := [("ferry/sums.startWords", laid_ferry_sums_startWords), ("ferry/sums.roundWords", laid_ferry_sums_roundWords)] }
def SumsSaid : Prop := sumsRow.holds Tryd.pinned (OpenSpec.ofChange sumsSpec)

/-- ITS FALSE NEIGHBOUR: 'it returns false'. Refute it at one input. -/
def sumsWrong : ChangeSpec := { name := "sums", fn := fun _ => fun
  | [d] => { results := [.lit (.bool false)], args := [d] }
  | _ => none }
def SumsWrongFalsely : Prop := sumsRow.holds Tryd.pinned (OpenSpec.ofChange sumsWrong)

/-- 'ferrykeep.Linked': WHATEVER THE INPUT: true; the input reads as it did. -/
def linkedSpec : ChangeSpec := { name := "linked", fn := fun _ => fun
  | [d1, d2, d3] => { results := [.lit (.bool true)], args := [d1, d2, d3] }
  | _ => none }
def linkedRow : OpenClaim := { program := "ytanfolfopalbeaadoor", sum := "7199e4849edc47e0debc8f07145a1363ec1afceb8b5da3d9c14468a8b8b35d1c", func := "ferry/ferrykeep.Linked", spec := "linked", named := ["ferry/sums.startWords", "ferry/sums.roundWords"], apart := false, laid := [("ferry/sums.startWords", laid_ferry_sums_startWords), ("ferry/sums.roundWords", laid_ferry_sums_roundWords)] }
def LinkedSaid : Prop := linkedRow.holds Tryd.pinned (OpenSpec.ofChange linkedSpec)

/-- ITS FALSE NEIGHBOUR: 'it returns false'. Refute it at one input. -/
def linkedWrong : ChangeSpec := { name := "linked", fn := fun _ => fun
  | [d1, d2, d3] => { results := [.lit (.bool false)], args := [d1, d2, d3] }
  | _ => none }
def LinkedWrongFalsely : Prop := linkedRow.holds Tryd.pinned (OpenSpec.ofChange linkedWrong)

/-- 'ferrylaw.Trees': WHATEVER THE INPUT: true; the input reads as it did. -/
def treesSpec : ChangeSpec := { name := "trees", fn := fun _ => fun
  | [d1, d2] => { results := [.lit (.bool true)], args := [d1, d2] }
  | _ => none }
def treesRow : OpenClaim := { program := "ytanfolfopalbeaadoor", sum := "7199e4849edc47e0debc8f07145a1363ec1afceb8b5da3d9c14468a8b8b35d1c", func := "ferry/ferrylaw.Trees", spec := "trees", recurses := true, named := ["ferry/sums.startWords", "ferry/sums.roundWords"], apart := false, laid := [("ferry/sums.startWords", laid_ferry_sums_startWords), ("ferry/sums.roundWords", laid_ferry_sums_roundWords)] }
def TreesSaid : Prop := treesRow.holds Tryd.pinned (OpenSpec.ofChange treesSpec)

/-- ITS FALSE NEIGHBOUR: 'it returns false'. Refute it at one input. -/
def treesWrong : ChangeSpec := { name := "trees", fn := fun _ => fun
  | [d1, d2] => { results := [.lit (.bool false)], args := [d1, d2] }
  | _ => none }
def TreesWrongFalsely : Prop := treesRow.holds Tryd.pinned (OpenSpec.ofChange treesWrong)

/-- 'ferrylaw.Verified': WHATEVER THE INPUT: true; the input reads as it did. -/
def verifiedSpec : ChangeSpec := { name := "verified", fn := fun _ => fun
  | [d1, d2, d3, d4, d5, d6] => { results := [.lit (.bool true)], args := [d1, d2, d3, d4, d5, d6] }
  | _ => none }
def verifiedRow : OpenClaim := { program := "ytanfolfopalbeaadoor", sum := "7199e4849edc47e0debc8f07145a1363ec1afceb8b5da3d9c14468a8b8b35d1c", func := "ferry/ferrylaw.Verified", spec := "verified", recurses := true, named := ["ferry/sums.startWords", "ferry/sums.roundWords"], apart := false, laid := [("ferry/sums.startWords", laid_ferry_sums_startWords), ("ferry/sums.roundWords", laid_ferry_sums_roundWords)] }
def VerifiedSaid : Prop := verifiedRow.holds Tryd.pinned (OpenSpec.ofChange verifiedSpec)

/-- ITS FALSE NEIGHBOUR: 'it returns false'. Refute it at one input. -/
def verifiedWrong : ChangeSpec := { name := "verified", fn := fun _ => fun
  | [d1, d2, d3, d4, d5, d6] => { results := [.lit (.bool false)], args := [d1, d2, d3, d4, d5, d6] }
  | _ => none }
def VerifiedWrongFalsely : Prop := verifiedRow.holds Tryd.pinned (OpenSpec.ofChange verifiedWrong)

/-- 'ferrykeep.Proven': WHATEVER THE INPUT: true; the input reads as it did. -/
def provenSpec : ChangeSpec := { name := "proven", fn := fun _ => fun
  | [d1, d2] => { results := [.lit (.bool true)], args := [d1, d2] }
  | _ => none }
def provenRow : OpenClaim := { program := "ytanfolfopalbeaadoor", sum := "7199e4849edc47e0debc8f07145a1363ec1afceb8b5da3d9c14468a8b8b35d1c", func := "ferry/ferrykeep.Proven", spec := "proven", recurses := true, named := ["ferry/sums.startWords", "ferry/sums.roundWords"], apart := false, laid := [("ferry/sums.startWords", laid_ferry_sums_startWords), ("ferry/sums.roundWords", laid_ferry_sums_roundWords)] }
def ProvenSaid : Prop := provenRow.holds Tryd.pinned (OpenSpec.ofChange provenSpec)

/-- ITS FALSE NEIGHBOUR: 'it returns false'. Refute it at one input. -/
def provenWrong : ChangeSpec := { name := "proven", fn := fun _ => fun
  | [d1, d2] => { results := [.lit (.bool false)], args := [d1, d2] }
  | _ => none }
def ProvenWrongFalsely : Prop := provenRow.holds Tryd.pinned (OpenSpec.ofChange provenWrong)

/-- 'ferrykeep.Grown': WHATEVER THE INPUT: true; the input reads as it did. -/
def grownSpec : ChangeSpec := { name := "grown", fn := fun _ => fun
  | [d1, d2] => { results := [.lit (.bool true)], args := [d1, d2] }
  | _ => none }
def grownRow : OpenClaim := { program := "ytanfolfopalbeaadoor", sum := "7199e4849edc47e0debc8f07145a1363ec1afceb8b5da3d9c14468a8b8b35d1c", func := "ferry/ferrykeep.Grown", spec := "grown", recurses := true, named := ["ferry/sums.startWords", "ferry/sums.roundWords"], apart := false, laid := [("ferry/sums.startWords", laid_ferry_sums_startWords), ("ferry/sums.roundWords", laid_ferry_sums_roundWords)] }
def GrownSaid : Prop := grownRow.holds Tryd.pinned (OpenSpec.ofChange grownSpec)

/-- ITS FALSE NEIGHBOUR: 'it returns false'. Refute it at one input. -/
def grownWrong : ChangeSpec := { name := "grown", fn := fun _ => fun
  | [d1, d2] => { results := [.lit (.bool false)], args := [d1, d2] }
  | _ => none }
def GrownWrongFalsely : Prop := grownRow.holds Tryd.pinned (OpenSpec.ofChange grownWrong)

/-- 'ferrylaw.Carries': WHATEVER THE INPUT: true; the input reads as it did. -/
def carriesSpec : ChangeSpec := { name := "carries", fn := fun _ => fun
  | [d1, d2, d3] => { results := [.lit (.bool true)], args := [d1, d2, d3] }
  | _ => none }
def carriesRow : OpenClaim := { program := "ytanfolfopalbeaadoor", sum := "7199e4849edc47e0debc8f07145a1363ec1afceb8b5da3d9c14468a8b8b35d1c", func := "ferry/ferrylaw.Carries", spec := "carries", recurses := true, named := ["ferry/sums.startWords", "ferry/sums.roundWords"], apart := false, laid := [("ferry/sums.startWords", laid_ferry_sums_startWords), ("ferry/sums.roundWords", laid_ferry_sums_roundWords)] }
def CarriesSaid : Prop := carriesRow.holds Tryd.pinned (OpenSpec.ofChange carriesSpec)

/-- ITS FALSE NEIGHBOUR: 'it returns false'. Refute it at one input. -/
def carriesWrong : ChangeSpec := { name := "carries", fn := fun _ => fun
  | [d1, d2, d3] => { results := [.lit (.bool false)], args := [d1, d2, d3] }
  | _ => none }
def CarriesWrongFalsely : Prop := carriesRow.holds Tryd.pinned (OpenSpec.ofChange carriesWrong)

/-- 'ferrylaw.Junk': WHATEVER THE INPUT: true; the input reads as it did. -/
def junkSpec : ChangeSpec := { name := "junk", fn := fun _ => fun
  | [d1, d2, d3] => { results := [.lit (.bool true)], args := [d1, d2, d3] }
  | _ => none }
def junkRow : OpenClaim := { program := "ytanfolfopalbeaadoor", sum := "7199e4849edc47e0debc8f07145a1363ec1afceb8b5da3d9c14468a8b8b35d1c", func := "ferry/ferrylaw.Junk", spec := "junk", recurses := true, named := ["ferry/sums.startWords", "ferry/sums.roundWords"], apart := false, laid := [("ferry/sums.startWords", laid_ferry_sums_startWords), ("ferry/sums.roundWords", laid_ferry_sums_roundWords)] }
def JunkSaid : Prop := junkRow.holds Tryd.pinned (OpenSpec.ofChange junkSpec)

/-- ITS FALSE NEIGHBOUR: 'it returns false'. Refute it at one input. -/
def junkWrong : ChangeSpec := { name := "junk", fn := fun _ => fun
  | [d1, d2, d3] => { results := [.lit (.bool false)], args := [d1, d2, d3] }
  | _ => none }
def JunkWrongFalsely : Prop := junkRow.holds Tryd.pinned (OpenSpec.ofChange junkWrong)

/-- 'ferrykeep.Resumed': WHATEVER THE INPUT: true; the input reads as it did. -/
def resumedSpec : ChangeSpec := { name := "resumed", fn := fun _ => fun
  | [d1, d2, d3, d4] => { results := [.lit (.bool true)], args := [d1, d2, d3, d4] }
  | _ => none }
def resumedRow : OpenClaim := { program := "ytanfolfopalbeaadoor", sum := "7199e4849edc47e0debc8f07145a1363ec1afceb8b5da3d9c14468a8b8b35d1c", func := "ferry/ferrykeep.Resumed", spec := "resumed", recurses := true, named := ["ferry/sums.startWords", "ferry/sums.roundWords"], apart := false, laid := [("ferry/sums.startWords", laid_ferry_sums_startWords), ("ferry/sums.roundWords", laid_ferry_sums_roundWords)] }
def ResumedSaid : Prop := resumedRow.holds Tryd.pinned (OpenSpec.ofChange resumedSpec)

/-- ITS FALSE NEIGHBOUR: 'it returns false'. Refute it at one input. -/
def resumedWrong : ChangeSpec := { name := "resumed", fn := fun _ => fun
  | [d1, d2, d3, d4] => { results := [.lit (.bool false)], args := [d1, d2, d3, d4] }
  | _ => none }
def ResumedWrongFalsely : Prop := resumedRow.holds Tryd.pinned (OpenSpec.ofChange resumedWrong)

/-- 'ferrykeep.Stopped': WHATEVER THE INPUT: true; the input reads as it did. -/
def stoppedSpec : ChangeSpec := { name := "stopped", fn := fun _ => fun
  | [d1, d2, d3] => { results := [.lit (.bool true)], args := [d1, d2, d3] }
  | _ => none }
def stoppedRow : OpenClaim := { program := "ytanfolfopalbeaadoor", sum := "7199e4849edc47e0debc8f07145a1363ec1afceb8b5da3d9c14468a8b8b35d1c", func := "ferry/ferrykeep.Stopped", spec := "stopped", recurses := true, named := ["ferry/sums.startWords", "ferry/sums.roundWords"], apart := false, laid := [("ferry/sums.startWords", laid_ferry_sums_startWords), ("ferry/sums.roundWords", laid_ferry_sums_roundWords)] }
def StoppedSaid : Prop := stoppedRow.holds Tryd.pinned (OpenSpec.ofChange stoppedSpec)

/-- ITS FALSE NEIGHBOUR: 'it returns false'. Refute it at one input. -/
def stoppedWrong : ChangeSpec := { name := "stopped", fn := fun _ => fun
  | [d1, d2, d3] => { results := [.lit (.bool false)], args := [d1, d2, d3] }
  | _ => none }
def StoppedWrongFalsely : Prop := stoppedRow.holds Tryd.pinned (OpenSpec.ofChange stoppedWrong)

/- THE SECOND FORM. 'bulk': how many values and letters a reading holds, each counted each time it is reached (what is shared counts as often as it is met; a slice's spare places count too). A statement '..UptoSaid' is the law's where the arguments, and the package variables that the reading takes, are together of bulk at most 1048576: NARROWER than '..Said'. Prove '..Said' where nothing that the law and all that it calls make is longer than what came in: it says more and counts as full. Else prove '..UptoSaid'. A law counts once. -/
mutual
def uptoBulk {H : Type} : DataW H → Nat
  | .lit (.string bytes) => bytes.length + 1
  | .lit _ => 1
  | .nil => 1
  | .ptr d => uptoBulk d + 1
  | .slice elems spare => uptoBulkAll elems + uptoBulkAll spare + 1
  | .agg parts => uptoBulkAll parts + 1
  | .iface _ d => uptoBulk d + 1
  | .map entries => uptoBulkEntries entries + 1
  | .held _ => 1
def uptoBulkAll {H : Type} : List (DataW H) → Nat
  | [] => 0
  | d :: r => uptoBulk d + uptoBulkAll r
def uptoBulkEntries {H : Type} : List (Lit × DataW H) → Nat
  | [] => 0
  | x :: r => uptoBulkEntry x + uptoBulkEntries r
def uptoBulkEntry {H : Type} : Lit × DataW H → Nat
  | (.string bytes, d) => bytes.length + uptoBulk d + 1
  | (_, d) => uptoBulk d + 1
 end
def uptoSmall : (H : Type) → List (DataW H) → Bool := fun _ ds => decide (uptoBulkAll ds ≤ 1048576)
def OpenSpec.upto (s : _root_.Go.ChangeSpec) : _root_.Go.OpenSpec := { _root_.Go.OpenSpec.ofChange s with cond := some uptoSmall }

/-- 'ferrylaw.Sums', WHERE WHAT IT READS IS OF BULK AT MOST 1048576: true; the input reads as it did. -/
def sumsUptoRow : OpenClaim := { program := "ytanfolfopalbeaadoor", sum := "7199e4849edc47e0debc8f07145a1363ec1afceb8b5da3d9c14468a8b8b35d1c", func := "ferry/ferrylaw.Sums", spec := "sums", named := ["ferry/sums.startWords", "ferry/sums.roundWords"], apart := false, laid := [("ferry/sums.startWords", laid_ferry_sums_startWords), ("ferry/sums.roundWords", laid_ferry_sums_roundWords)], narrowed := true }
def SumsUptoSaid : Prop := sumsUptoRow.holds Tryd.pinned (OpenSpec.upto sumsSpec)

/-- 'ferrykeep.Linked', WHERE WHAT IT READS IS OF BULK AT MOST 1048576: true; the input reads as it did. -/
def linkedUptoRow : OpenClaim := { program := "ytanfolfopalbeaadoor", sum := "7199e4849edc47e0debc8f07145a1363ec1afceb8b5da3d9c14468a8b8b35d1c", func := "ferry/ferrykeep.Linked", spec := "linked", named := ["ferry/sums.startWords", "ferry/sums.roundWords"], apart := false, laid := [("ferry/sums.startWords", laid_ferry_sums_startWords), ("ferry/sums.roundWords", laid_ferry_sums_roundWords)], narrowed := true }
def LinkedUptoSaid : Prop := linkedUptoRow.holds Tryd.pinned (OpenSpec.upto linkedSpec)

/-- 'ferrylaw.Trees', WHERE WHAT IT READS IS OF BULK AT MOST 1048576: true; the input reads as it did. -/
def treesUptoRow : OpenClaim := { program := "ytanfolfopalbeaadoor", sum := "7199e4849edc47e0debc8f07145a1363ec1afceb8b5da3d9c14468a8b8b35d1c", func := "ferry/ferrylaw.Trees", spec := "trees", recurses := true, named := ["ferry/sums.startWords", "ferry/sums.roundWords"], apart := false, laid := [("ferry/sums.startWords", laid_ferry_sums_startWords), ("ferry/sums.roundWords", laid_ferry_sums_roundWords)], narrowed := true }
def TreesUptoSaid : Prop := treesUptoRow.holds Tryd.pinned (OpenSpec.upto treesSpec)

/-- 'ferrylaw.Verified', WHERE WHAT IT READS IS OF BULK AT MOST 1048576: true; the input reads as it did. -/
def verifiedUptoRow : OpenClaim := { program := "ytanfolfopalbeaadoor", sum := "7199e4849edc47e0debc8f07145a1363ec1afceb8b5da3d9c14468a8b8b35d1c", func := "ferry/ferrylaw.Verified", spec := "verified", recurses := true, named := ["ferry/sums.startWords", "ferry/sums.roundWords"], apart := false, laid := [("ferry/sums.startWords", laid_ferry_sums_startWords), ("ferry/sums.roundWords", laid_ferry_sums_roundWords)], narrowed := true }
def VerifiedUptoSaid : Prop := verifiedUptoRow.holds Tryd.pinned (OpenSpec.upto verifiedSpec)

/-- 'ferrykeep.Proven', WHERE WHAT IT READS IS OF BULK AT MOST 1048576: true; the input reads as it did. -/
def provenUptoRow : OpenClaim := { program := "ytanfolfopalbeaadoor", sum := "7199e4849edc47e0debc8f07145a1363ec1afceb8b5da3d9c14468a8b8b35d1c", func := "ferry/ferrykeep.Proven", spec := "proven", recurses := true, named := ["ferry/sums.startWords", "ferry/sums.roundWords"], apart := false, laid := [("ferry/sums.startWords", laid_ferry_sums_startWords), ("ferry/sums.roundWords", laid_ferry_sums_roundWords)], narrowed := true }
def ProvenUptoSaid : Prop := provenUptoRow.holds Tryd.pinned (OpenSpec.upto provenSpec)

/-- 'ferrykeep.Grown', WHERE WHAT IT READS IS OF BULK AT MOST 1048576: true; the input reads as it did. -/
def grownUptoRow : OpenClaim := { program := "ytanfolfopalbeaadoor", sum := "7199e4849edc47e0debc8f07145a1363ec1afceb8b5da3d9c14468a8b8b35d1c", func := "ferry/ferrykeep.Grown", spec := "grown", recurses := true, named := ["ferry/sums.startWords", "ferry/sums.roundWords"], apart := false, laid := [("ferry/sums.startWords", laid_ferry_sums_startWords), ("ferry/sums.roundWords", laid_ferry_sums_roundWords)], narrowed := true }
def GrownUptoSaid : Prop := grownUptoRow.holds Tryd.pinned (OpenSpec.upto grownSpec)

/-- 'ferrylaw.Carries', WHERE WHAT IT READS IS OF BULK AT MOST 1048576: true; the input reads as it did. -/
def carriesUptoRow : OpenClaim := { program := "ytanfolfopalbeaadoor", sum := "7199e4849edc47e0debc8f07145a1363ec1afceb8b5da3d9c14468a8b8b35d1c", func := "ferry/ferrylaw.Carries", spec := "carries", recurses := true, named := ["ferry/sums.startWords", "ferry/sums.roundWords"], apart := false, laid := [("ferry/sums.startWords", laid_ferry_sums_startWords), ("ferry/sums.roundWords", laid_ferry_sums_roundWords)], narrowed := true }
def CarriesUptoSaid : Prop := carriesUptoRow.holds Tryd.pinned (OpenSpec.upto carriesSpec)

/-- 'ferrylaw.Junk', WHERE WHAT IT READS IS OF BULK AT MOST 1048576: true; the input reads as it did. -/
def junkUptoRow : OpenClaim := { program := "ytanfolfopalbeaadoor", sum := "7199e4849edc47e0debc8f07145a1363ec1afceb8b5da3d9c14468a8b8b35d1c", func := "ferry/ferrylaw.Junk", spec := "junk", recurses := true, named := ["ferry/sums.startWords", "ferry/sums.roundWords"], apart := false, laid := [("ferry/sums.startWords", laid_ferry_sums_startWords), ("ferry/sums.roundWords", laid_ferry_sums_roundWords)], narrowed := true }
def JunkUptoSaid : Prop := junkUptoRow.holds Tryd.pinned (OpenSpec.upto junkSpec)

/-- 'ferrykeep.Resumed', WHERE WHAT IT READS IS OF BULK AT MOST 1048576: true; the input reads as it did. -/
def resumedUptoRow : OpenClaim := { program := "ytanfolfopalbeaadoor", sum := "7199e4849edc47e0debc8f07145a1363ec1afceb8b5da3d9c14468a8b8b35d1c", func := "ferry/ferrykeep.Resumed", spec := "resumed", recurses := true, named := ["ferry/sums.startWords", "ferry/sums.roundWords"], apart := false, laid := [("ferry/sums.startWords", laid_ferry_sums_startWords), ("ferry/sums.roundWords", laid_ferry_sums_roundWords)], narrowed := true }
def ResumedUptoSaid : Prop := resumedUptoRow.holds Tryd.pinned (OpenSpec.upto resumedSpec)

/-- 'ferrykeep.Stopped', WHERE WHAT IT READS IS OF BULK AT MOST 1048576: true; the input reads as it did. -/
def stoppedUptoRow : OpenClaim := { program := "ytanfolfopalbeaadoor", sum := "7199e4849edc47e0debc8f07145a1363ec1afceb8b5da3d9c14468a8b8b35d1c", func := "ferry/ferrykeep.Stopped", spec := "stopped", recurses := true, named := ["ferry/sums.startWords", "ferry/sums.roundWords"], apart := false, laid := [("ferry/sums.startWords", laid_ferry_sums_startWords), ("ferry/sums.roundWords", laid_ferry_sums_roundWords)], narrowed := true }
def StoppedUptoSaid : Prop := stoppedUptoRow.holds Tryd.pinned (OpenSpec.upto stoppedSpec)

end Rows
end Go.Proofs.YtanfolfopalbeaaDoor
