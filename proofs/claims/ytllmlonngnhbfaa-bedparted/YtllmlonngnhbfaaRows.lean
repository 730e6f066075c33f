/-
  No cell of these rows narrows 'for every input' (looked for: loops, veiled, ifaces, maps, wideKeys, modest, calm, conditions, laid).
  DERIVED. THE GIVEN ROWS OF THIS SEAT. 13 by the template 'for every input the law returns true; each argument reads behind the call as it read before'; 0 by the template 'total and deterministic' (their statements: YtllmlonngnhbfaaTotals.lean).
  GIVEN WITH THE SEED: the statements are not yours to turn. If you find one false, say at which input.
  Laid BY PROGRAM, IN A SANDBOX (cutbox-rows.mjs): the forced cells as the released guide's own fill.sh prints them over the translation dc1c7a9a5ce078ff… (all of the seat's roots in one cut). By AI agents, Wed Nov 11 2026. No macro, syntax, notation, axiom, sorry.
-/
import Derived.Test.YtllmlonngnhbfaaChecked
import GoSem.Claim
import GoSem.ClaimJoined
import GoSem.ClaimMapViews
import Derived.JoinedTies
import Derived.KernelRfl
namespace Go.Proofs.Ytllmlonngnhbfaa
/- THE CELL 'sum', in the pinned program and in every row, IS THE sha256 OF THE DUMP (.gsa) THAT YtllmlonngnhbfaaProg.lean LOADS. Nothing in Lean hashes anything: it is a label: what it is worth is what the hold of that sum in a sandbox is worth. -/
noncomputable def Try.pinned : Pinned := { name := "ytllmlonngnhbfaa", sum := "dc1c7a9a5ce078ff3e7689f0917ef02adfdf9d5bed09961d067ba670448201f7", checked := Try.checked }
namespace Rows
def none {H : Type} : Left H := { results := [], args := [] }

/-- 'dibberlaw01.BedChecks': WHATEVER THE INPUT: true; the input reads as it did. -/
def bedChecksSpec : ChangeSpec := { name := "bedChecks", fn := fun _ => fun
  | [d] => { results := [.lit (.bool true)], args := [d] }
  | _ => none }
def bedChecksRow : OpenClaim := { program := "ytllmlonngnhbfaa", sum := "dc1c7a9a5ce078ff3e7689f0917ef02adfdf9d5bed09961d067ba670448201f7", func := "dibber/dibberlaw01.BedChecks", spec := "bedChecks", unfollowed := true, recurses := true, plainKeys := false, apart := false }
def BedChecksSaid : Prop := bedChecksRow.holds Try.pinned (OpenSpec.ofChange bedChecksSpec)

/-- ITS FALSE NEIGHBOUR: 'it returns false'. Refute it at one input. -/
def bedChecksWrong : ChangeSpec := { name := "bedChecks", fn := fun _ => fun
  | [d] => { results := [.lit (.bool false)], args := [d] }
  | _ => none }
def BedChecksWrongFalsely : Prop := bedChecksRow.holds Try.pinned (OpenSpec.ofChange bedChecksWrong)

/-- 'dibberlaw01.BedFills': WHATEVER THE INPUT: true; the input reads as it did. -/
def bedFillsSpec : ChangeSpec := { name := "bedFills", fn := fun _ => fun
  | [d] => { results := [.lit (.bool true)], args := [d] }
  | _ => none }
def bedFillsRow : OpenClaim := { program := "ytllmlonngnhbfaa", sum := "dc1c7a9a5ce078ff3e7689f0917ef02adfdf9d5bed09961d067ba670448201f7", func := "dibber/dibberlaw01.BedFills", spec := "bedFills", unfollowed := true, recurses := true, plainKeys := false, apart := false }
def BedFillsSaid : Prop := bedFillsRow.holds Try.pinned (OpenSpec.ofChange bedFillsSpec)

/-- ITS FALSE NEIGHBOUR: 'it returns false'. Refute it at one input. -/
def bedFillsWrong : ChangeSpec := { name := "bedFills", fn := fun _ => fun
  | [d] => { results := [.lit (.bool false)], args := [d] }
  | _ => none }
def BedFillsWrongFalsely : Prop := bedFillsRow.holds Try.pinned (OpenSpec.ofChange bedFillsWrong)

/-- 'dibberlaw01.BedCounts': WHATEVER THE INPUT: true; the input reads as it did. -/
def bedCountsSpec : ChangeSpec := { name := "bedCounts", fn := fun _ => fun
  | [d] => { results := [.lit (.bool true)], args := [d] }
  | _ => none }
def bedCountsRow : OpenClaim := { program := "ytllmlonngnhbfaa", sum := "dc1c7a9a5ce078ff3e7689f0917ef02adfdf9d5bed09961d067ba670448201f7", func := "dibber/dibberlaw01.BedCounts", spec := "bedCounts", unfollowed := true, recurses := true, plainKeys := false, apart := false }
def BedCountsSaid : Prop := bedCountsRow.holds Try.pinned (OpenSpec.ofChange bedCountsSpec)

/-- ITS FALSE NEIGHBOUR: 'it returns false'. Refute it at one input. -/
def bedCountsWrong : ChangeSpec := { name := "bedCounts", fn := fun _ => fun
  | [d] => { results := [.lit (.bool false)], args := [d] }
  | _ => none }
def BedCountsWrongFalsely : Prop := bedCountsRow.holds Try.pinned (OpenSpec.ofChange bedCountsWrong)

/-- 'dibberlaw01.BedRows': WHATEVER THE INPUT: true; the input reads as it did. -/
def bedRowsSpec : ChangeSpec := { name := "bedRows", fn := fun _ => fun
  | [d1, d2] => { results := [.lit (.bool true)], args := [d1, d2] }
  | _ => none }
def bedRowsRow : OpenClaim := { program := "ytllmlonngnhbfaa", sum := "dc1c7a9a5ce078ff3e7689f0917ef02adfdf9d5bed09961d067ba670448201f7", func := "dibber/dibberlaw01.BedRows", spec := "bedRows", unfollowed := true, recurses := true, plainKeys := false, apart := false }
def BedRowsSaid : Prop := bedRowsRow.holds Try.pinned (OpenSpec.ofChange bedRowsSpec)

/-- ITS FALSE NEIGHBOUR: 'it returns false'. Refute it at one input. -/
def bedRowsWrong : ChangeSpec := { name := "bedRows", fn := fun _ => fun
  | [d1, d2] => { results := [.lit (.bool false)], args := [d1, d2] }
  | _ => none }
def BedRowsWrongFalsely : Prop := bedRowsRow.holds Try.pinned (OpenSpec.ofChange bedRowsWrong)

/-- 'dibberlaw01.BedTransversals': WHATEVER THE INPUT: true; the input reads as it did. -/
def bedTransversalsSpec : ChangeSpec := { name := "bedTransversals", fn := fun _ => fun
  | [d] => { results := [.lit (.bool true)], args := [d] }
  | _ => none }
def bedTransversalsRow : OpenClaim := { program := "ytllmlonngnhbfaa", sum := "dc1c7a9a5ce078ff3e7689f0917ef02adfdf9d5bed09961d067ba670448201f7", func := "dibber/dibberlaw01.BedTransversals", spec := "bedTransversals", unfollowed := true, recurses := true, plainKeys := false, apart := false }
def BedTransversalsSaid : Prop := bedTransversalsRow.holds Try.pinned (OpenSpec.ofChange bedTransversalsSpec)

/-- ITS FALSE NEIGHBOUR: 'it returns false'. Refute it at one input. -/
def bedTransversalsWrong : ChangeSpec := { name := "bedTransversals", fn := fun _ => fun
  | [d] => { results := [.lit (.bool false)], args := [d] }
  | _ => none }
def BedTransversalsWrongFalsely : Prop := bedTransversalsRow.holds Try.pinned (OpenSpec.ofChange bedTransversalsWrong)

/-- 'dibberlaw01.BedMates': WHATEVER THE INPUT: true; the input reads as it did. -/
def bedMatesSpec : ChangeSpec := { name := "bedMates", fn := fun _ => fun
  | [d1, d2] => { results := [.lit (.bool true)], args := [d1, d2] }
  | _ => none }
def bedMatesRow : OpenClaim := { program := "ytllmlonngnhbfaa", sum := "dc1c7a9a5ce078ff3e7689f0917ef02adfdf9d5bed09961d067ba670448201f7", func := "dibber/dibberlaw01.BedMates", spec := "bedMates", unfollowed := true, recurses := true, plainKeys := false, apart := false }
def BedMatesSaid : Prop := bedMatesRow.holds Try.pinned (OpenSpec.ofChange bedMatesSpec)

/-- ITS FALSE NEIGHBOUR: 'it returns false'. Refute it at one input. -/
def bedMatesWrong : ChangeSpec := { name := "bedMates", fn := fun _ => fun
  | [d1, d2] => { results := [.lit (.bool false)], args := [d1, d2] }
  | _ => none }
def BedMatesWrongFalsely : Prop := bedMatesRow.holds Try.pinned (OpenSpec.ofChange bedMatesWrong)

/-- 'dibberlaw01.BedTurns': WHATEVER THE INPUT: true; the input reads as it did. -/
def bedTurnsSpec : ChangeSpec := { name := "bedTurns", fn := fun _ => fun
  | [d1, d2, d3] => { results := [.lit (.bool true)], args := [d1, d2, d3] }
  | _ => none }
def bedTurnsRow : OpenClaim := { program := "ytllmlonngnhbfaa", sum := "dc1c7a9a5ce078ff3e7689f0917ef02adfdf9d5bed09961d067ba670448201f7", func := "dibber/dibberlaw01.BedTurns", spec := "bedTurns", unfollowed := true, recurses := true, plainKeys := false, apart := false }
def BedTurnsSaid : Prop := bedTurnsRow.holds Try.pinned (OpenSpec.ofChange bedTurnsSpec)

/-- ITS FALSE NEIGHBOUR: 'it returns false'. Refute it at one input. -/
def bedTurnsWrong : ChangeSpec := { name := "bedTurns", fn := fun _ => fun
  | [d1, d2, d3] => { results := [.lit (.bool false)], args := [d1, d2, d3] }
  | _ => none }
def BedTurnsWrongFalsely : Prop := bedTurnsRow.holds Try.pinned (OpenSpec.ofChange bedTurnsWrong)

/-- 'dibberlaw01.BedHall': WHATEVER THE INPUT: true; the input reads as it did. -/
def bedHallSpec : ChangeSpec := { name := "bedHall", fn := fun _ => fun
  | [d1, d2] => { results := [.lit (.bool true)], args := [d1, d2] }
  | _ => none }
def bedHallRow : OpenClaim := { program := "ytllmlonngnhbfaa", sum := "dc1c7a9a5ce078ff3e7689f0917ef02adfdf9d5bed09961d067ba670448201f7", func := "dibber/dibberlaw01.BedHall", spec := "bedHall", unfollowed := true, recurses := true, plainKeys := false, apart := false }
def BedHallSaid : Prop := bedHallRow.holds Try.pinned (OpenSpec.ofChange bedHallSpec)

/-- ITS FALSE NEIGHBOUR: 'it returns false'. Refute it at one input. -/
def bedHallWrong : ChangeSpec := { name := "bedHall", fn := fun _ => fun
  | [d1, d2] => { results := [.lit (.bool false)], args := [d1, d2] }
  | _ => none }
def BedHallWrongFalsely : Prop := bedHallRow.holds Try.pinned (OpenSpec.ofChange bedHallWrong)

/-- 'dibberlaw01.BedFinished': WHATEVER THE INPUT: true; the input reads as it did. -/
def bedFinishedSpec : ChangeSpec := { name := "bedFinished", fn := fun _ => fun
  | [d] => { results := [.lit (.bool true)], args := [d] }
  | _ => none }
def bedFinishedRow : OpenClaim := { program := "ytllmlonngnhbfaa", sum := "dc1c7a9a5ce078ff3e7689f0917ef02adfdf9d5bed09961d067ba670448201f7", func := "dibber/dibberlaw01.BedFinished", spec := "bedFinished", unfollowed := true, recurses := true, plainKeys := false, apart := false }
def BedFinishedSaid : Prop := bedFinishedRow.holds Try.pinned (OpenSpec.ofChange bedFinishedSpec)

/-- ITS FALSE NEIGHBOUR: 'it returns false'. Refute it at one input. -/
def bedFinishedWrong : ChangeSpec := { name := "bedFinished", fn := fun _ => fun
  | [d] => { results := [.lit (.bool false)], args := [d] }
  | _ => none }
def BedFinishedWrongFalsely : Prop := bedFinishedRow.holds Try.pinned (OpenSpec.ofChange bedFinishedWrong)

/-- 'dibberlaw01.BedPairs': WHATEVER THE INPUT: true; the input reads as it did. -/
def bedPairsSpec : ChangeSpec := { name := "bedPairs", fn := fun _ => fun
  | [d1, d2] => { results := [.lit (.bool true)], args := [d1, d2] }
  | _ => none }
def bedPairsRow : OpenClaim := { program := "ytllmlonngnhbfaa", sum := "dc1c7a9a5ce078ff3e7689f0917ef02adfdf9d5bed09961d067ba670448201f7", func := "dibber/dibberlaw01.BedPairs", spec := "bedPairs", unfollowed := true, recurses := true, plainKeys := false, apart := false }
def BedPairsSaid : Prop := bedPairsRow.holds Try.pinned (OpenSpec.ofChange bedPairsSpec)

/-- ITS FALSE NEIGHBOUR: 'it returns false'. Refute it at one input. -/
def bedPairsWrong : ChangeSpec := { name := "bedPairs", fn := fun _ => fun
  | [d1, d2] => { results := [.lit (.bool false)], args := [d1, d2] }
  | _ => none }
def BedPairsWrongFalsely : Prop := bedPairsRow.holds Try.pinned (OpenSpec.ofChange bedPairsWrong)

/-- 'dibberlaw01.BedParted': WHATEVER THE INPUT: true; the input reads as it did. -/
def bedPartedSpec : ChangeSpec := { name := "bedParted", fn := fun _ => fun
  | [d] => { results := [.lit (.bool true)], args := [d] }
  | _ => none }
def bedPartedRow : OpenClaim := { program := "ytllmlonngnhbfaa", sum := "dc1c7a9a5ce078ff3e7689f0917ef02adfdf9d5bed09961d067ba670448201f7", func := "dibber/dibberlaw01.BedParted", spec := "bedParted", unfollowed := true, recurses := true, plainKeys := false, apart := false }
def BedPartedSaid : Prop := bedPartedRow.holds Try.pinned (OpenSpec.ofChange bedPartedSpec)

/-- ITS FALSE NEIGHBOUR: 'it returns false'. Refute it at one input. -/
def bedPartedWrong : ChangeSpec := { name := "bedParted", fn := fun _ => fun
  | [d] => { results := [.lit (.bool false)], args := [d] }
  | _ => none }
def BedPartedWrongFalsely : Prop := bedPartedRow.holds Try.pinned (OpenSpec.ofChange bedPartedWrong)

/-- 'dibberlaw01.BedCyclic': WHATEVER THE INPUT: true; the input reads as it did. -/
def bedCyclicSpec : ChangeSpec := { name := "bedCyclic", fn := fun _ => fun
  | [d1, d2, d3] => { results := [.lit (.bool true)], args := [d1, d2, d3] }
  | _ => none }
def bedCyclicRow : OpenClaim := { program := "ytllmlonngnhbfaa", sum := "dc1c7a9a5ce078ff3e7689f0917ef02adfdf9d5bed09961d067ba670448201f7", func := "dibber/dibberlaw01.BedCyclic", spec := "bedCyclic", unfollowed := true, recurses := true, plainKeys := false, apart := false }
def BedCyclicSaid : Prop := bedCyclicRow.holds Try.pinned (OpenSpec.ofChange bedCyclicSpec)

/-- ITS FALSE NEIGHBOUR: 'it returns false'. Refute it at one input. -/
def bedCyclicWrong : ChangeSpec := { name := "bedCyclic", fn := fun _ => fun
  | [d1, d2, d3] => { results := [.lit (.bool false)], args := [d1, d2, d3] }
  | _ => none }
def BedCyclicWrongFalsely : Prop := bedCyclicRow.holds Try.pinned (OpenSpec.ofChange bedCyclicWrong)

/-- 'dibberlaw01.BedTurned': WHATEVER THE INPUT: true; the input reads as it did. -/
def bedTurnedSpec : ChangeSpec := { name := "bedTurned", fn := fun _ => fun
  | [d1, d2, d3] => { results := [.lit (.bool true)], args := [d1, d2, d3] }
  | _ => none }
def bedTurnedRow : OpenClaim := { program := "ytllmlonngnhbfaa", sum := "dc1c7a9a5ce078ff3e7689f0917ef02adfdf9d5bed09961d067ba670448201f7", func := "dibber/dibberlaw01.BedTurned", spec := "bedTurned", unfollowed := true, recurses := true, plainKeys := false, apart := false }
def BedTurnedSaid : Prop := bedTurnedRow.holds Try.pinned (OpenSpec.ofChange bedTurnedSpec)

/-- ITS FALSE NEIGHBOUR: 'it returns false'. Refute it at one input. -/
def bedTurnedWrong : ChangeSpec := { name := "bedTurned", fn := fun _ => fun
  | [d1, d2, d3] => { results := [.lit (.bool false)], args := [d1, d2, d3] }
  | _ => none }
def BedTurnedWrongFalsely : Prop := bedTurnedRow.holds Try.pinned (OpenSpec.ofChange bedTurnedWrong)

/- THE SECOND FORM. 'bulk': how many values and letters a reading holds, each counted each time it is reached (what is shared counts as often as it is met; a slice's spare places count too). A statement '..UptoSaid' is the law's where the arguments, and the package variables that the reading takes, are together of bulk at most 1048576: NARROWER than '..Said'. Prove '..Said' where nothing that the law and all that it calls make is longer than what came in: it says more and counts as full. Else prove '..UptoSaid'. A law counts once. -/
mutual
def uptoBulk {H : Type} : DataW H → Nat
  | .lit (.string bytes) => bytes.length + 1
  | .lit _ => 1
  | .nil => 1
  | .ptr d => uptoBulk d + 1
  | .slice elems spare => uptoBulkAll elems + uptoBulkAll spare + 1
  | .agg parts => uptoBulkAll parts + 1
  | .iface _ d => uptoBulk d + 1
  | .map entries => uptoBulkEntries entries + 1
  | .held _ => 1
def uptoBulkAll {H : Type} : List (DataW H) → Nat
  | [] => 0
  | d :: r => uptoBulk d + uptoBulkAll r
def uptoBulkEntries {H : Type} : List (Lit × DataW H) → Nat
  | [] => 0
  | x :: r => uptoBulkEntry x + uptoBulkEntries r
def uptoBulkEntry {H : Type} : Lit × DataW H → Nat
  | (.string bytes, d) => bytes.length + uptoBulk d + 1
  | (_, d) => uptoBulk d + 1
 end
def uptoSmall : (H : Type) → List (DataW H) → Bool := fun _ ds => decide (uptoBulkAll ds ≤ 1048576)
def OpenSpec.upto (s : _root_.Go.ChangeSpec) : _root_.Go.OpenSpec := { _root_.Go.OpenSpec.ofChange s with cond := some uptoSmall }

/-- 'dibberlaw01.BedChecks', WHERE WHAT IT READS IS OF BULK AT MOST 1048576: true; the input reads as it did. -/
def bedChecksUptoRow : OpenClaim := { program := "ytllmlonngnhbfaa", sum := "dc1c7a9a5ce078ff3e7689f0917ef02adfdf9d5bed09961d067ba670448201f7", func := "dibber/dibberlaw01.BedChecks", spec := "bedChecks", unfollowed := true, recurses := true, plainKeys := false, apart := false, narrowed := true }
def BedChecksUptoSaid : Prop := bedChecksUptoRow.holds Try.pinned (OpenSpec.upto bedChecksSpec)

/-- 'dibberlaw01.BedFills', WHERE WHAT IT READS IS OF BULK AT MOST 1048576: true; the input reads as it did. -/
def bedFillsUptoRow : OpenClaim := { program := "ytllmlonngnhbfaa", sum := "dc1c7a9a5ce078ff3e7689f0917ef02adfdf9d5bed09961d067ba670448201f7", func := "dibber/dibberlaw01.BedFills", spec := "bedFills", unfollowed := true, recurses := true, plainKeys := false, apart := false, narrowed := true }
def BedFillsUptoSaid : Prop := bedFillsUptoRow.holds Try.pinned (OpenSpec.upto bedFillsSpec)

/-- 'dibberlaw01.BedCounts', WHERE WHAT IT READS IS OF BULK AT MOST 1048576: true; the input reads as it did. -/
def bedCountsUptoRow : OpenClaim := { program := "ytllmlonngnhbfaa", sum := "dc1c7a9a5ce078ff3e7689f0917ef02adfdf9d5bed09961d067ba670448201f7", func := "dibber/dibberlaw01.BedCounts", spec := "bedCounts", unfollowed := true, recurses := true, plainKeys := false, apart := false, narrowed := true }
def BedCountsUptoSaid : Prop := bedCountsUptoRow.holds Try.pinned (OpenSpec.upto bedCountsSpec)

/-- 'dibberlaw01.BedRows', WHERE WHAT IT READS IS OF BULK AT MOST 1048576: true; the input reads as it did. -/
def bedRowsUptoRow : OpenClaim := { program := "ytllmlonngnhbfaa", sum := "dc1c7a9a5ce078ff3e7689f0917ef02adfdf9d5bed09961d067ba670448201f7", func := "dibber/dibberlaw01.BedRows", spec := "bedRows", unfollowed := true, recurses := true, plainKeys := false, apart := false, narrowed := true }
def BedRowsUptoSaid : Prop := bedRowsUptoRow.holds Try.pinned (OpenSpec.upto bedRowsSpec)

/-- 'dibberlaw01.BedTransversals', WHERE WHAT IT READS IS OF BULK AT MOST 1048576: true; the input reads as it did. -/
def bedTransversalsUptoRow : OpenClaim := { program := "ytllmlonngnhbfaa", sum := "dc1c7a9a5ce078ff3e7689f0917ef02adfdf9d5bed09961d067ba670448201f7", func := "dibber/dibberlaw01.BedTransversals", spec := "bedTransversals", unfollowed := true, recurses := true, plainKeys := false, apart := false, narrowed := true }
def BedTransversalsUptoSaid : Prop := bedTransversalsUptoRow.holds Try.pinned (OpenSpec.upto bedTransversalsSpec)

/-- 'dibberlaw01.BedMates', WHERE WHAT IT READS IS OF BULK AT MOST 1048576: true; the input reads as it did. -/
def bedMatesUptoRow : OpenClaim := { program := "ytllmlonngnhbfaa", sum := "dc1c7a9a5ce078ff3e7689f0917ef02adfdf9d5bed09961d067ba670448201f7", func := "dibber/dibberlaw01.BedMates", spec := "bedMates", unfollowed := true, recurses := true, plainKeys := false, apart := false, narrowed := true }
def BedMatesUptoSaid : Prop := bedMatesUptoRow.holds Try.pinned (OpenSpec.upto bedMatesSpec)

/-- 'dibberlaw01.BedTurns', WHERE WHAT IT READS IS OF BULK AT MOST 1048576: true; the input reads as it did. -/
def bedTurnsUptoRow : OpenClaim := { program := "ytllmlonngnhbfaa", sum := "dc1c7a9a5ce078ff3e7689f0917ef02adfdf9d5bed09961d067ba670448201f7", func := "dibber/dibberlaw01.BedTurns", spec := "bedTurns", unfollowed := true, recurses := true, plainKeys := false, apart := false, narrowed := true }
def BedTurnsUptoSaid : Prop := bedTurnsUptoRow.holds Try.pinned (OpenSpec.upto bedTurnsSpec)

/-- 'dibberlaw01.BedHall', WHERE WHAT IT READS IS OF BULK AT MOST 1048576: true; the input reads as it did. -/
def bedHallUptoRow : OpenClaim := { program := "ytllmlonngnhbfaa", sum := "dc1c7a9a5ce078ff3e7689f0917ef02adfdf9d5bed09961d067ba670448201f7", func := "dibber/dibberlaw01.BedHall", spec := "bedHall", unfollowed := true, recurses := true, plainKeys := false, apart := false, narrowed := true }
def BedHallUptoSaid : Prop := bedHallUptoRow.holds Try.pinned (OpenSpec.upto bedHallSpec)

/-- 'dibberlaw01.BedFinished', WHERE WHAT IT READS IS OF BULK AT MOST 1048576: true; the input reads as it did. -/
def bedFinishedUptoRow : OpenClaim := { program := "ytllmlonngnhbfaa", sum := "dc1c7a9a5ce078ff3e7689f0917ef02adfdf9d5bed09961d067ba670448201f7", func := "dibber/dibberlaw01.BedFinished", spec := "bedFinished", unfollowed := true, recurses := true, plainKeys := false, apart := false, narrowed := true }
def BedFinishedUptoSaid : Prop := bedFinishedUptoRow.holds Try.pinned (OpenSpec.upto bedFinishedSpec)

/-- 'dibberlaw01.BedPairs', WHERE WHAT IT READS IS OF BULK AT MOST 1048576: true; the input reads as it did. -/
def bedPairsUptoRow : OpenClaim := { program := "ytllmlonngnhbfaa", sum := "dc1c7a9a5ce078ff3e7689f0917ef02adfdf9d5bed09961d067ba670448201f7", func := "dibber/dibberlaw01.BedPairs", spec := "bedPairs", unfollowed := true, recurses := true, plainKeys := false, apart := false, narrowed := true }
def BedPairsUptoSaid : Prop := bedPairsUptoRow.holds Try.pinned (OpenSpec.upto bedPairsSpec)

/-- 'dibberlaw01.BedParted', WHERE WHAT IT READS IS OF BULK AT MOST 1048576: true; the input reads as it did. -/
def bedPartedUptoRow : OpenClaim := { program := "ytllmlonngnhbfaa", sum := "dc1c7a9a5ce078ff3e7689f0917ef02adfdf9d5bed09961d067ba670448201f7", func := "dibber/dibberlaw01.BedParted", spec := "bedParted", unfollowed := true, recurses := true, plainKeys := false, apart := false, narrowed := true }
def BedPartedUptoSaid : Prop := bedPartedUptoRow.holds Try.pinned (OpenSpec.upto bedPartedSpec)

/-- 'dibberlaw01.BedCyclic', WHERE WHAT IT READS IS OF BULK AT MOST 1048576: true; the input reads as it did. -/
def bedCyclicUptoRow : OpenClaim := { program := "ytllmlonngnhbfaa", sum := "dc1c7a9a5ce078ff3e7689f0917ef02adfdf9d5bed09961d067ba670448201f7", func := "dibber/dibberlaw01.BedCyclic", spec := "bedCyclic", unfollowed := true, recurses := true, plainKeys := false, apart := false, narrowed := true }
def BedCyclicUptoSaid : Prop := bedCyclicUptoRow.holds Try.pinned (OpenSpec.upto bedCyclicSpec)

/-- 'dibberlaw01.BedTurned', WHERE WHAT IT READS IS OF BULK AT MOST 1048576: true; the input reads as it did. -/
def bedTurnedUptoRow : OpenClaim := { program := "ytllmlonngnhbfaa", sum := "dc1c7a9a5ce078ff3e7689f0917ef02adfdf9d5bed09961d067ba670448201f7", func := "dibber/dibberlaw01.BedTurned", spec := "bedTurned", unfollowed := true, recurses := true, plainKeys := false, apart := false, narrowed := true }
def BedTurnedUptoSaid : Prop := bedTurnedUptoRow.holds Try.pinned (OpenSpec.upto bedTurnedSpec)

end Rows
end Go.Proofs.Ytllmlonngnhbfaa
