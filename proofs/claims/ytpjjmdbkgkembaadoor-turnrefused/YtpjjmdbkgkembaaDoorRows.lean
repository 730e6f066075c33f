/-
  NARROWER THAN 'FOR EVERY INPUT', by the rows' own cells (each row's printed sentence says how): TurnPlans: laid · TurnIs: laid · TurnRefuses: laid · TurnRings: laid · TurnRounds: laid · TurnMany: laid · TurnRefused: laid · TurnWhole: laid · TurnMoved: laid · TurnMore: laid · TurnTurned: laid · TurnShort: laid.
  DERIVED. THE GIVEN ROWS OF THIS SEAT. 12 by the template 'for every input the law returns true; each argument reads behind the call as it read before'; 0 by the template 'total and deterministic' (their statements: YtpjjmdbkgkembaaDoorTotals.lean).
  GIVEN WITH THE SEED: the statements are not yours to turn. If you find one false, say at which input.
  Laid BY PROGRAM, IN A SANDBOX (cutbox-rows.mjs): the forced cells as the released guide's own fill.sh prints them over the translation b0f1b919c38c6881… (all of the seat's roots in one cut). By AI agents, Wed Nov 11 2026. No macro, syntax, notation, axiom, sorry.
-/
import Derived.Test.YtpjjmdbkgkembaaDoorChecked
import GoSem.Claim
import GoSem.ClaimJoined
import GoSem.ClaimMapViews
import Derived.JoinedTies
import Derived.KernelRfl
namespace Go.Proofs.YtpjjmdbkgkembaaDoor
/- THE CELL 'sum', in the pinned program and in every row, IS THE sha256 OF THE DUMP (.gsa) THAT YtpjjmdbkgkembaaDoorProg.lean LOADS. Nothing in Lean hashes anything: it is a label: what it is worth is what the hold of that sum in a sandbox is worth. -/
noncomputable def Tryd.pinned : Pinned := { name := "ytpjjmdbkgkembaadoor", sum := "b0f1b919c38c688172e34eabf7fec43692a4650a310c138682ee4a0e6a3021d9", checked := Tryd.checked }
namespace Rows
def none {H : Type} : Left H := { results := [], args := [] }

/- WHAT THE LISTED PACKAGE-LEVEL VARIABLES READ AS WHEN THE CALL BEGINS. Each datum BY PROGRAM (the guide's laid-datum.mjs) off the statement by which the dump's own 'gosem.cut.vars' lays the variable. In a bare row this is a premise. The card (YtpjjmdbkgkembaaDoorCards.lean) ties it to the program's text. -/
def laid_math_bits_deBruijn32tab {H : Type} : DataW H := .agg [.lit (.int .u8 0), .lit (.int .u8 1), .lit (.int .u8 28), .lit (.int .u8 2), .lit (.int .u8 29), .lit (.int .u8 14), .lit (.int .u8 24), .lit (.int .u8 3), .lit (.int .u8 30), .lit (.int .u8 22), .lit (.int .u8 20), .lit (.int .u8 15), .lit (.int .u8 25), .lit (.int .u8 17), .lit (.int .u8 4), .lit (.int .u8 8), .lit (.int .u8 31), .lit (.int .u8 27), .lit (.int .u8 13), .lit (.int .u8 23), .lit (.int .u8 21), .lit (.int .u8 19), .lit (.int .u8 16), .lit (.int .u8 7), .lit (.int .u8 26), .lit (.int .u8 12), .lit (.int .u8 18), .lit (.int .u8 6), .lit (.int .u8 11), .lit (.int .u8 5), .lit (.int .u8 10), .lit (.int .u8 9)]

/-- 'dibberlaw04.TurnPlans': WHATEVER THE INPUT: true; the input reads as it did. -/
def turnPlansSpec : ChangeSpec := { name := "turnPlans", fn := fun _ => fun
  | [d1, d2, d3] => { results := [.lit (.bool true)], args := [d1, d2, d3] }
  | _ => none }
def turnPlansRow : OpenClaim := { program := "ytpjjmdbkgkembaadoor", sum := "b0f1b919c38c688172e34eabf7fec43692a4650a310c138682ee4a0e6a3021d9", func := "dibber/dibberlaw04.TurnPlans", spec := "turnPlans", unfollowed := true, recurses := true, named := ["math/bits.deBruijn32tab"], apart := false, laid := [("math/bits.deBruijn32tab", laid_math_bits_deBruijn32tab)] }
def TurnPlansSaid : Prop := turnPlansRow.holds Tryd.pinned (OpenSpec.ofChange turnPlansSpec)

/-- ITS FALSE NEIGHBOUR: 'it returns false'. Refute it at one input. -/
def turnPlansWrong : ChangeSpec := { name := "turnPlans", fn := fun _ => fun
  | [d1, d2, d3] => { results := [.lit (.bool false)], args := [d1, d2, d3] }
  | _ => none }
def TurnPlansWrongFalsely : Prop := turnPlansRow.holds Tryd.pinned (OpenSpec.ofChange turnPlansWrong)

/-- 'dibberlaw04.TurnIs': WHATEVER THE INPUT: true; the input reads as it did. -/
def turnIsSpec : ChangeSpec := { name := "turnIs", fn := fun _ => fun
  | [d1, d2, d3, d4] => { results := [.lit (.bool true)], args := [d1, d2, d3, d4] }
  | _ => none }
def turnIsRow : OpenClaim := { program := "ytpjjmdbkgkembaadoor", sum := "b0f1b919c38c688172e34eabf7fec43692a4650a310c138682ee4a0e6a3021d9", func := "dibber/dibberlaw04.TurnIs", spec := "turnIs", unfollowed := true, recurses := true, named := ["math/bits.deBruijn32tab"], apart := false, laid := [("math/bits.deBruijn32tab", laid_math_bits_deBruijn32tab)] }
def TurnIsSaid : Prop := turnIsRow.holds Tryd.pinned (OpenSpec.ofChange turnIsSpec)

/-- ITS FALSE NEIGHBOUR: 'it returns false'. Refute it at one input. -/
def turnIsWrong : ChangeSpec := { name := "turnIs", fn := fun _ => fun
  | [d1, d2, d3, d4] => { results := [.lit (.bool false)], args := [d1, d2, d3, d4] }
  | _ => none }
def TurnIsWrongFalsely : Prop := turnIsRow.holds Tryd.pinned (OpenSpec.ofChange turnIsWrong)

/-- 'dibberlaw04.TurnRefuses': WHATEVER THE INPUT: true; the input reads as it did. -/
def turnRefusesSpec : ChangeSpec := { name := "turnRefuses", fn := fun _ => fun
  | [d1, d2, d3, d4] => { results := [.lit (.bool true)], args := [d1, d2, d3, d4] }
  | _ => none }
def turnRefusesRow : OpenClaim := { program := "ytpjjmdbkgkembaadoor", sum := "b0f1b919c38c688172e34eabf7fec43692a4650a310c138682ee4a0e6a3021d9", func := "dibber/dibberlaw04.TurnRefuses", spec := "turnRefuses", unfollowed := true, recurses := true, named := ["math/bits.deBruijn32tab"], apart := false, laid := [("math/bits.deBruijn32tab", laid_math_bits_deBruijn32tab)] }
def TurnRefusesSaid : Prop := turnRefusesRow.holds Tryd.pinned (OpenSpec.ofChange turnRefusesSpec)

/-- ITS FALSE NEIGHBOUR: 'it returns false'. Refute it at one input. -/
def turnRefusesWrong : ChangeSpec := { name := "turnRefuses", fn := fun _ => fun
  | [d1, d2, d3, d4] => { results := [.lit (.bool false)], args := [d1, d2, d3, d4] }
  | _ => none }
def TurnRefusesWrongFalsely : Prop := turnRefusesRow.holds Tryd.pinned (OpenSpec.ofChange turnRefusesWrong)

/-- 'dibberlaw04.TurnRings': WHATEVER THE INPUT: true; the input reads as it did. -/
def turnRingsSpec : ChangeSpec := { name := "turnRings", fn := fun _ => fun
  | [d1, d2, d3] => { results := [.lit (.bool true)], args := [d1, d2, d3] }
  | _ => none }
def turnRingsRow : OpenClaim := { program := "ytpjjmdbkgkembaadoor", sum := "b0f1b919c38c688172e34eabf7fec43692a4650a310c138682ee4a0e6a3021d9", func := "dibber/dibberlaw04.TurnRings", spec := "turnRings", unfollowed := true, recurses := true, named := ["math/bits.deBruijn32tab"], apart := false, laid := [("math/bits.deBruijn32tab", laid_math_bits_deBruijn32tab)] }
def TurnRingsSaid : Prop := turnRingsRow.holds Tryd.pinned (OpenSpec.ofChange turnRingsSpec)

/-- ITS FALSE NEIGHBOUR: 'it returns false'. Refute it at one input. -/
def turnRingsWrong : ChangeSpec := { name := "turnRings", fn := fun _ => fun
  | [d1, d2, d3] => { results := [.lit (.bool false)], args := [d1, d2, d3] }
  | _ => none }
def TurnRingsWrongFalsely : Prop := turnRingsRow.holds Tryd.pinned (OpenSpec.ofChange turnRingsWrong)

/-- 'dibberlaw04.TurnRounds': WHATEVER THE INPUT: true; the input reads as it did. -/
def turnRoundsSpec : ChangeSpec := { name := "turnRounds", fn := fun _ => fun
  | [d1, d2, d3, d4, d5] => { results := [.lit (.bool true)], args := [d1, d2, d3, d4, d5] }
  | _ => none }
def turnRoundsRow : OpenClaim := { program := "ytpjjmdbkgkembaadoor", sum := "b0f1b919c38c688172e34eabf7fec43692a4650a310c138682ee4a0e6a3021d9", func := "dibber/dibberlaw04.TurnRounds", spec := "turnRounds", unfollowed := true, recurses := true, named := ["math/bits.deBruijn32tab"], apart := false, laid := [("math/bits.deBruijn32tab", laid_math_bits_deBruijn32tab)] }
def TurnRoundsSaid : Prop := turnRoundsRow.holds Tryd.pinned (OpenSpec.ofChange turnRoundsSpec)

/-- ITS FALSE NEIGHBOUR: 'it returns false'. Refute it at one input. -/
def turnRoundsWrong : ChangeSpec := { name := "turnRounds", fn := fun _ => fun
  | [d1, d2, d3, d4, d5] => { results := [.lit (.bool false)], args := [d1, d2, d3, d4, d5] }
  | _ => none }
def TurnRoundsWrongFalsely : Prop := turnRoundsRow.holds Tryd.pinned (OpenSpec.ofChange turnRoundsWrong)

/-- 'dibberlaw04.TurnMany': WHATEVER THE INPUT: true; the input reads as it did. -/
def turnManySpec : ChangeSpec := { name := "turnMany", fn := fun _ => fun
  | [d] => { results := [.lit (.bool true)], args := [d] }
  | _ => none }
def turnManyRow : OpenClaim := { program := "ytpjjmdbkgkembaadoor", sum := "b0f1b919c38c688172e34eabf7fec43692a4650a310c138682ee4a0e6a3021d9", func := "dibber/dibberlaw04.TurnMany", spec := "turnMany", unfollowed := true, recurses := true, named := ["math/bits.deBruijn32tab"], apart := false, laid := [("math/bits.deBruijn32tab", laid_math_bits_deBruijn32tab)] }
def TurnManySaid : Prop := turnManyRow.holds Tryd.pinned (OpenSpec.ofChange turnManySpec)

/-- ITS FALSE NEIGHBOUR: 'it returns false'. Refute it at one input. -/
def turnManyWrong : ChangeSpec := { name := "turnMany", fn := fun _ => fun
  | [d] => { results := [.lit (.bool false)], args := [d] }
  | _ => none }
def TurnManyWrongFalsely : Prop := turnManyRow.holds Tryd.pinned (OpenSpec.ofChange turnManyWrong)

/-- 'dibberlaw04.TurnRefused': WHATEVER THE INPUT: true; the input reads as it did. -/
def turnRefusedSpec : ChangeSpec := { name := "turnRefused", fn := fun _ => fun
  | [d1, d2, d3, d4] => { results := [.lit (.bool true)], args := [d1, d2, d3, d4] }
  | _ => none }
def turnRefusedRow : OpenClaim := { program := "ytpjjmdbkgkembaadoor", sum := "b0f1b919c38c688172e34eabf7fec43692a4650a310c138682ee4a0e6a3021d9", func := "dibber/dibberlaw04.TurnRefused", spec := "turnRefused", unfollowed := true, recurses := true, named := ["math/bits.deBruijn32tab"], apart := false, laid := [("math/bits.deBruijn32tab", laid_math_bits_deBruijn32tab)] }
def TurnRefusedSaid : Prop := turnRefusedRow.holds Tryd.pinned (OpenSpec.ofChange turnRefusedSpec)

/-- ITS FALSE NEIGHBOUR: 'it returns false'. Refute it at one input. -/
def turnRefusedWrong : ChangeSpec := { name := "turnRefused", fn := fun _ => fun
  | [d1, d2, d3, d4] => { results := [.lit (.bool false)], args := [d1, d2, d3, d4] }
  | _ => none }
def TurnRefusedWrongFalsely : Prop := turnRefusedRow.holds Tryd.pinned (OpenSpec.ofChange turnRefusedWrong)

/-- 'dibberlaw04.TurnWhole': WHATEVER THE INPUT: true; the input reads as it did. -/
def turnWholeSpec : ChangeSpec := { name := "turnWhole", fn := fun _ => fun
  | [d1, d2, d3, d4, d5] => { results := [.lit (.bool true)], args := [d1, d2, d3, d4, d5] }
  | _ => none }
def turnWholeRow : OpenClaim := { program := "ytpjjmdbkgkembaadoor", sum := "b0f1b919c38c688172e34eabf7fec43692a4650a310c138682ee4a0e6a3021d9", func := "dibber/dibberlaw04.TurnWhole", spec := "turnWhole", unfollowed := true, recurses := true, named := ["math/bits.deBruijn32tab"], apart := false, laid := [("math/bits.deBruijn32tab", laid_math_bits_deBruijn32tab)] }
def TurnWholeSaid : Prop := turnWholeRow.holds Tryd.pinned (OpenSpec.ofChange turnWholeSpec)

/-- ITS FALSE NEIGHBOUR: 'it returns false'. Refute it at one input. -/
def turnWholeWrong : ChangeSpec := { name := "turnWhole", fn := fun _ => fun
  | [d1, d2, d3, d4, d5] => { results := [.lit (.bool false)], args := [d1, d2, d3, d4, d5] }
  | _ => none }
def TurnWholeWrongFalsely : Prop := turnWholeRow.holds Tryd.pinned (OpenSpec.ofChange turnWholeWrong)

/-- 'dibberlaw04.TurnMoved': WHATEVER THE INPUT: true; the input reads as it did. -/
def turnMovedSpec : ChangeSpec := { name := "turnMoved", fn := fun _ => fun
  | [d1, d2, d3, d4, d5] => { results := [.lit (.bool true)], args := [d1, d2, d3, d4, d5] }
  | _ => none }
def turnMovedRow : OpenClaim := { program := "ytpjjmdbkgkembaadoor", sum := "b0f1b919c38c688172e34eabf7fec43692a4650a310c138682ee4a0e6a3021d9", func := "dibber/dibberlaw04.TurnMoved", spec := "turnMoved", unfollowed := true, recurses := true, named := ["math/bits.deBruijn32tab"], apart := false, laid := [("math/bits.deBruijn32tab", laid_math_bits_deBruijn32tab)] }
def TurnMovedSaid : Prop := turnMovedRow.holds Tryd.pinned (OpenSpec.ofChange turnMovedSpec)

/-- ITS FALSE NEIGHBOUR: 'it returns false'. Refute it at one input. -/
def turnMovedWrong : ChangeSpec := { name := "turnMoved", fn := fun _ => fun
  | [d1, d2, d3, d4, d5] => { results := [.lit (.bool false)], args := [d1, d2, d3, d4, d5] }
  | _ => none }
def TurnMovedWrongFalsely : Prop := turnMovedRow.holds Tryd.pinned (OpenSpec.ofChange turnMovedWrong)

/-- 'dibberlaw04.TurnMore': WHATEVER THE INPUT: true; the input reads as it did. -/
def turnMoreSpec : ChangeSpec := { name := "turnMore", fn := fun _ => fun
  | [d1, d2, d3, d4, d5, d6, d7] => { results := [.lit (.bool true)], args := [d1, d2, d3, d4, d5, d6, d7] }
  | _ => none }
def turnMoreRow : OpenClaim := { program := "ytpjjmdbkgkembaadoor", sum := "b0f1b919c38c688172e34eabf7fec43692a4650a310c138682ee4a0e6a3021d9", func := "dibber/dibberlaw04.TurnMore", spec := "turnMore", unfollowed := true, recurses := true, named := ["math/bits.deBruijn32tab"], apart := false, laid := [("math/bits.deBruijn32tab", laid_math_bits_deBruijn32tab)] }
def TurnMoreSaid : Prop := turnMoreRow.holds Tryd.pinned (OpenSpec.ofChange turnMoreSpec)

/-- ITS FALSE NEIGHBOUR: 'it returns false'. Refute it at one input. -/
def turnMoreWrong : ChangeSpec := { name := "turnMore", fn := fun _ => fun
  | [d1, d2, d3, d4, d5, d6, d7] => { results := [.lit (.bool false)], args := [d1, d2, d3, d4, d5, d6, d7] }
  | _ => none }
def TurnMoreWrongFalsely : Prop := turnMoreRow.holds Tryd.pinned (OpenSpec.ofChange turnMoreWrong)

/-- 'dibberlaw04.TurnTurned': WHATEVER THE INPUT: true; the input reads as it did. -/
def turnTurnedSpec : ChangeSpec := { name := "turnTurned", fn := fun _ => fun
  | [d1, d2, d3, d4] => { results := [.lit (.bool true)], args := [d1, d2, d3, d4] }
  | _ => none }
def turnTurnedRow : OpenClaim := { program := "ytpjjmdbkgkembaadoor", sum := "b0f1b919c38c688172e34eabf7fec43692a4650a310c138682ee4a0e6a3021d9", func := "dibber/dibberlaw04.TurnTurned", spec := "turnTurned", unfollowed := true, recurses := true, named := ["math/bits.deBruijn32tab"], apart := false, laid := [("math/bits.deBruijn32tab", laid_math_bits_deBruijn32tab)] }
def TurnTurnedSaid : Prop := turnTurnedRow.holds Tryd.pinned (OpenSpec.ofChange turnTurnedSpec)

/-- ITS FALSE NEIGHBOUR: 'it returns false'. Refute it at one input. -/
def turnTurnedWrong : ChangeSpec := { name := "turnTurned", fn := fun _ => fun
  | [d1, d2, d3, d4] => { results := [.lit (.bool false)], args := [d1, d2, d3, d4] }
  | _ => none }
def TurnTurnedWrongFalsely : Prop := turnTurnedRow.holds Tryd.pinned (OpenSpec.ofChange turnTurnedWrong)

/-- 'dibberlaw04.TurnShort': WHATEVER THE INPUT: true; the input reads as it did. -/
def turnShortSpec : ChangeSpec := { name := "turnShort", fn := fun _ => fun
  | [d1, d2, d3, d4] => { results := [.lit (.bool true)], args := [d1, d2, d3, d4] }
  | _ => none }
def turnShortRow : OpenClaim := { program := "ytpjjmdbkgkembaadoor", sum := "b0f1b919c38c688172e34eabf7fec43692a4650a310c138682ee4a0e6a3021d9", func := "dibber/dibberlaw04.TurnShort", spec := "turnShort", unfollowed := true, recurses := true, named := ["math/bits.deBruijn32tab"], apart := false, laid := [("math/bits.deBruijn32tab", laid_math_bits_deBruijn32tab)] }
def TurnShortSaid : Prop := turnShortRow.holds Tryd.pinned (OpenSpec.ofChange turnShortSpec)

/-- ITS FALSE NEIGHBOUR: 'it returns false'. Refute it at one input. -/
def turnShortWrong : ChangeSpec := { name := "turnShort", fn := fun _ => fun
  | [d1, d2, d3, d4] => { results := [.lit (.bool false)], args := [d1, d2, d3, d4] }
  | _ => none }
def TurnShortWrongFalsely : Prop := turnShortRow.holds Tryd.pinned (OpenSpec.ofChange turnShortWrong)

/- THE SECOND FORM. 'bulk': how many values and letters a reading holds, each counted each time it is reached (what is shared counts as often as it is met; a slice's spare places count too). A statement '..UptoSaid' is the law's where the arguments, and the package variables that the reading takes, are together of bulk at most 1048576: NARROWER than '..Said'. Prove '..Said' where nothing that the law and all that it calls make is longer than what came in: it says more and counts as full. Else prove '..UptoSaid'. A law counts once. -/
mutual
def uptoBulk {H : Type} : DataW H → Nat
  | .lit (.string bytes) => bytes.length + 1
  | .lit _ => 1
  | .nil => 1
  | .ptr d => uptoBulk d + 1
  | .slice elems spare => uptoBulkAll elems + uptoBulkAll spare + 1
  | .agg parts => uptoBulkAll parts + 1
  | .iface _ d => uptoBulk d + 1
  | .map entries => uptoBulkEntries entries + 1
  | .held _ => 1
def uptoBulkAll {H : Type} : List (DataW H) → Nat
  | [] => 0
  | d :: r => uptoBulk d + uptoBulkAll r
def uptoBulkEntries {H : Type} : List (Lit × DataW H) → Nat
  | [] => 0
  | x :: r => uptoBulkEntry x + uptoBulkEntries r
def uptoBulkEntry {H : Type} : Lit × DataW H → Nat
  | (.string bytes, d) => bytes.length + uptoBulk d + 1
  | (_, d) => uptoBulk d + 1
 end
def uptoSmall : (H : Type) → List (DataW H) → Bool := fun _ ds => decide (uptoBulkAll ds ≤ 1048576)
def OpenSpec.upto (s : _root_.Go.ChangeSpec) : _root_.Go.OpenSpec := { _root_.Go.OpenSpec.ofChange s with cond := some uptoSmall }

/-- 'dibberlaw04.TurnPlans', WHERE WHAT IT READS IS OF BULK AT MOST 1048576: true; the input reads as it did. -/
def turnPlansUptoRow : OpenClaim := { program := "ytpjjmdbkgkembaadoor", sum := "b0f1b919c38c688172e34eabf7fec43692a4650a310c138682ee4a0e6a3021d9", func := "dibber/dibberlaw04.TurnPlans", spec := "turnPlans", unfollowed := true, recurses := true, named := ["math/bits.deBruijn32tab"], apart := false, laid := [("math/bits.deBruijn32tab", laid_math_bits_deBruijn32tab)], narrowed := true }
def TurnPlansUptoSaid : Prop := turnPlansUptoRow.holds Tryd.pinned (OpenSpec.upto turnPlansSpec)

/-- 'dibberlaw04.TurnIs', WHERE WHAT IT READS IS OF BULK AT MOST 1048576: true; the input reads as it did. -/
def turnIsUptoRow : OpenClaim := { program := "ytpjjmdbkgkembaadoor", sum := "b0f1b919c38c688172e34eabf7fec43692a4650a310c138682ee4a0e6a3021d9", func := "dibber/dibberlaw04.TurnIs", spec := "turnIs", unfollowed := true, recurses := true, named := ["math/bits.deBruijn32tab"], apart := false, laid := [("math/bits.deBruijn32tab", laid_math_bits_deBruijn32tab)], narrowed := true }
def TurnIsUptoSaid : Prop := turnIsUptoRow.holds Tryd.pinned (OpenSpec.upto turnIsSpec)

/-- 'dibberlaw04.TurnRefuses', WHERE WHAT IT READS IS OF BULK AT MOST 1048576: true; the input reads as it did. -/
def turnRefusesUptoRow : OpenClaim := { program := "ytpjjmdbkgkembaadoor", sum := "b0f1b919c38c688172e34eabf7fec43692a4650a310c138682ee4a0e6a3021d9", func := "dibber/dibberlaw04.TurnRefuses", spec := "turnRefuses", unfollowed := true, recurses := true, named := ["math/bits.deBruijn32tab"], apart := false, laid := [("math/bits.deBruijn32tab", laid_math_bits_deBruijn32tab)], narrowed := true }
def TurnRefusesUptoSaid : Prop := turnRefusesUptoRow.holds Tryd.pinned (OpenSpec.upto turnRefusesSpec)

/-- 'dibberlaw04.TurnRings', WHERE WHAT IT READS IS OF BULK AT MOST 1048576: true; the input reads as it did. -/
def turnRingsUptoRow : OpenClaim := { program := "ytpjjmdbkgkembaadoor", sum := "b0f1b919c38c688172e34eabf7fec43692a4650a310c138682ee4a0e6a3021d9", func := "dibber/dibberlaw04.TurnRings", spec := "turnRings", unfollowed := true, recurses := true, named := ["math/bits.deBruijn32tab"], apart := false, laid := [("math/bits.deBruijn32tab", laid_math_bits_deBruijn32tab)], narrowed := true }
def TurnRingsUptoSaid : Prop := turnRingsUptoRow.holds Tryd.pinned (OpenSpec.upto turnRingsSpec)

/-- 'dibberlaw04.TurnRounds', WHERE WHAT IT READS IS OF BULK AT MOST 1048576: true; the input reads as it did. -/
def turnRoundsUptoRow : OpenClaim := { program := "ytpjjmdbkgkembaadoor", sum := "b0f1b919c38c688172e34eabf7fec43692a4650a310c138682ee4a0e6a3021d9", func := "dibber/dibberlaw04.TurnRounds", spec := "turnRounds", unfollowed := true, recurses := true, named := ["math/bits.deBruijn32tab"], apart := false, laid := [("math/bits.deBruijn32tab", laid_math_bits_deBruijn32tab)], narrowed := true }
def TurnRoundsUptoSaid : Prop := turnRoundsUptoRow.holds Tryd.pinned (OpenSpec.upto turnRoundsSpec)

/-- 'dibberlaw04.TurnMany', WHERE WHAT IT READS IS OF BULK AT MOST 1048576: true; the input reads as it did. -/
def turnManyUptoRow : OpenClaim := { program := "ytpjjmdbkgkembaadoor", sum := "b0f1b919c38c688172e34eabf7fec43692a4650a310c138682ee4a0e6a3021d9", func := "dibber/dibberlaw04.TurnMany", spec := "turnMany", unfollowed := true, recurses := true, named := ["math/bits.deBruijn32tab"], apart := false, laid := [("math/bits.deBruijn32tab", laid_math_bits_deBruijn32tab)], narrowed := true }
def TurnManyUptoSaid : Prop := turnManyUptoRow.holds Tryd.pinned (OpenSpec.upto turnManySpec)

/-- 'dibberlaw04.TurnRefused', WHERE WHAT IT READS IS OF BULK AT MOST 1048576: true; the input reads as it did. -/
def turnRefusedUptoRow : OpenClaim := { program := "ytpjjmdbkgkembaadoor", sum := "b0f1b919c38c688172e34eabf7fec43692a4650a310c138682ee4a0e6a3021d9", func := "dibber/dibberlaw04.TurnRefused", spec := "turnRefused", unfollowed := true, recurses := true, named := ["math/bits.deBruijn32tab"], apart := false, laid := [("math/bits.deBruijn32tab", laid_math_bits_deBruijn32tab)], narrowed := true }
def TurnRefusedUptoSaid : Prop := turnRefusedUptoRow.holds Tryd.pinned (OpenSpec.upto turnRefusedSpec)

/-- 'dibberlaw04.TurnWhole', WHERE WHAT IT READS IS OF BULK AT MOST 1048576: true; the input reads as it did. -/
def turnWholeUptoRow : OpenClaim := { program := "ytpjjmdbkgkembaadoor", sum := "b0f1b919c38c688172e34eabf7fec43692a4650a310c138682ee4a0e6a3021d9", func := "dibber/dibberlaw04.TurnWhole", spec := "turnWhole", unfollowed := true, recurses := true, named := ["math/bits.deBruijn32tab"], apart := false, laid := [("math/bits.deBruijn32tab", laid_math_bits_deBruijn32tab)], narrowed := true }
def TurnWholeUptoSaid : Prop := turnWholeUptoRow.holds Tryd.pinned (OpenSpec.upto turnWholeSpec)

/-- 'dibberlaw04.TurnMoved', WHERE WHAT IT READS IS OF BULK AT MOST 1048576: true; the input reads as it did. -/
def turnMovedUptoRow : OpenClaim := { program := "ytpjjmdbkgkembaadoor", sum := "b0f1b919c38c688172e34eabf7fec43692a4650a310c138682ee4a0e6a3021d9", func := "dibber/dibberlaw04.TurnMoved", spec := "turnMoved", unfollowed := true, recurses := true, named := ["math/bits.deBruijn32tab"], apart := false, laid := [("math/bits.deBruijn32tab", laid_math_bits_deBruijn32tab)], narrowed := true }
def TurnMovedUptoSaid : Prop := turnMovedUptoRow.holds Tryd.pinned (OpenSpec.upto turnMovedSpec)

/-- 'dibberlaw04.TurnMore', WHERE WHAT IT READS IS OF BULK AT MOST 1048576: true; the input reads as it did. -/
def turnMoreUptoRow : OpenClaim := { program := "ytpjjmdbkgkembaadoor", sum := "b0f1b919c38c688172e34eabf7fec43692a4650a310c138682ee4a0e6a3021d9", func := "dibber/dibberlaw04.TurnMore", spec := "turnMore", unfollowed := true, recurses := true, named := ["math/bits.deBruijn32tab"], apart := false, laid := [("math/bits.deBruijn32tab", laid_math_bits_deBruijn32tab)], narrowed := true }
def TurnMoreUptoSaid : Prop := turnMoreUptoRow.holds Tryd.pinned (OpenSpec.upto turnMoreSpec)

/-- 'dibberlaw04.TurnTurned', WHERE WHAT IT READS IS OF BULK AT MOST 1048576: true; the input reads as it did. -/
def turnTurnedUptoRow : OpenClaim := { program := "ytpjjmdbkgkembaadoor", sum := "b0f1b919c38c688172e34eabf7fec43692a4650a310c138682ee4a0e6a3021d9", func := "dibber/dibberlaw04.TurnTurned", spec := "turnTurned", unfollowed := true, recurses := true, named := ["math/bits.deBruijn32tab"], apart := false, laid := [("math/bits.deBruijn32tab", laid_math_bits_deBruijn32tab)], narrowed := true }
def TurnTurnedUptoSaid : Prop := turnTurnedUptoRow.holds Tryd.pinned (OpenSpec.upto turnTurnedSpec)

/-- 'dibberlaw04.TurnShort', WHERE WHAT IT READS IS OF BULK AT MOST 1048576: true; the input reads as it did. -/
def turnShortUptoRow : OpenClaim := { program := "ytpjjmdbkgkembaadoor", sum := "b0f1b919c38c688172e34eabf7fec43692a4650a310c138682ee4a0e6a3021d9", func := "dibber/dibberlaw04.TurnShort", spec := "turnShort", unfollowed := true, recurses := true, named := ["math/bits.deBruijn32tab"], apart := false, laid := [("math/bits.deBruijn32tab", laid_math_bits_deBruijn32tab)], narrowed := true }
def TurnShortUptoSaid : Prop := turnShortUptoRow.holds Tryd.pinned (OpenSpec.upto turnShortSpec)

end Rows
end Go.Proofs.YtpjjmdbkgkembaaDoor
