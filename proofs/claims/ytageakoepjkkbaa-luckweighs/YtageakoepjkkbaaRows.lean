/-
  No cell of these rows narrows 'for every input' (looked for: loops, veiled, ifaces, maps, wideKeys, modest, calm, conditions, laid).
  DERIVED. THE GIVEN ROWS OF THIS SEAT. 12 by the template 'for every input the law returns true; each argument reads behind the call as it read before'; 0 by the template 'total and deterministic' (their statements: YtageakoepjkkbaaTotals.lean).
  GIVEN WITH THE SEED: the statements are not yours to turn. If you find one false, say at which input.
  Laid BY PROGRAM, IN A SANDBOX (cutbox-rows.mjs): the forced cells as the released guide's own fill.sh prints them over the translation 067fa3bba4da36b2… (all of the seat's roots in one cut). By AI agents, Wed Nov 11 2026. No macro, syntax, notation, axiom, sorry.
-/
import Derived.Test.YtageakoepjkkbaaChecked
import GoSem.Claim
import GoSem.ClaimJoined
import GoSem.ClaimMapViews
import Derived.JoinedTies
import Derived.KernelRfl
namespace Go.Proofs.Ytageakoepjkkbaa
/- THE CELL 'sum', in the pinned program and in every row, IS THE sha256 OF THE DUMP (.gsa) THAT YtageakoepjkkbaaProg.lean LOADS. Nothing in Lean hashes anything: it is a label: what it is worth is what the hold of that sum in a sandbox is worth. -/
noncomputable def Try.pinned : Pinned := { name := "ytageakoepjkkbaa", sum := "067fa3bba4da36b2edd86ba476824e70468215b36d9be16bfac136b9027c962b", checked := Try.checked }
namespace Rows
def none {H : Type} : Left H := { results := [], args := [] }

/-- 'dibberlaw05.LuckHalves': WHATEVER THE INPUT: true; the input reads as it did. -/
def luckHalvesSpec : ChangeSpec := { name := "luckHalves", fn := fun _ => fun
  | [d1, d2, d3] => { results := [.lit (.bool true)], args := [d1, d2, d3] }
  | _ => none }
def luckHalvesRow : OpenClaim := { program := "ytageakoepjkkbaa", sum := "067fa3bba4da36b2edd86ba476824e70468215b36d9be16bfac136b9027c962b", func := "dibber/dibberlaw05.LuckHalves", spec := "luckHalves", unfollowed := true, recurses := true, apart := false }
def LuckHalvesSaid : Prop := luckHalvesRow.holds Try.pinned (OpenSpec.ofChange luckHalvesSpec)

/-- ITS FALSE NEIGHBOUR: 'it returns false'. Refute it at one input. -/
def luckHalvesWrong : ChangeSpec := { name := "luckHalves", fn := fun _ => fun
  | [d1, d2, d3] => { results := [.lit (.bool false)], args := [d1, d2, d3] }
  | _ => none }
def LuckHalvesWrongFalsely : Prop := luckHalvesRow.holds Try.pinned (OpenSpec.ofChange luckHalvesWrong)

/-- 'dibberlaw05.LuckWeighs': WHATEVER THE INPUT: true; the input reads as it did. -/
def luckWeighsSpec : ChangeSpec := { name := "luckWeighs", fn := fun _ => fun
  | [d1, d2, d3] => { results := [.lit (.bool true)], args := [d1, d2, d3] }
  | _ => none }
def luckWeighsRow : OpenClaim := { program := "ytageakoepjkkbaa", sum := "067fa3bba4da36b2edd86ba476824e70468215b36d9be16bfac136b9027c962b", func := "dibber/dibberlaw05.LuckWeighs", spec := "luckWeighs", unfollowed := true, recurses := true, apart := false }
def LuckWeighsSaid : Prop := luckWeighsRow.holds Try.pinned (OpenSpec.ofChange luckWeighsSpec)

/-- ITS FALSE NEIGHBOUR: 'it returns false'. Refute it at one input. -/
def luckWeighsWrong : ChangeSpec := { name := "luckWeighs", fn := fun _ => fun
  | [d1, d2, d3] => { results := [.lit (.bool false)], args := [d1, d2, d3] }
  | _ => none }
def LuckWeighsWrongFalsely : Prop := luckWeighsRow.holds Try.pinned (OpenSpec.ofChange luckWeighsWrong)

/-- 'dibberlaw05.LuckLearns': WHATEVER THE INPUT: true; the input reads as it did. -/
def luckLearnsSpec : ChangeSpec := { name := "luckLearns", fn := fun _ => fun
  | [d1, d2, d3] => { results := [.lit (.bool true)], args := [d1, d2, d3] }
  | _ => none }
def luckLearnsRow : OpenClaim := { program := "ytageakoepjkkbaa", sum := "067fa3bba4da36b2edd86ba476824e70468215b36d9be16bfac136b9027c962b", func := "dibber/dibberlaw05.LuckLearns", spec := "luckLearns", unfollowed := true, recurses := true, apart := false }
def LuckLearnsSaid : Prop := luckLearnsRow.holds Try.pinned (OpenSpec.ofChange luckLearnsSpec)

/-- ITS FALSE NEIGHBOUR: 'it returns false'. Refute it at one input. -/
def luckLearnsWrong : ChangeSpec := { name := "luckLearns", fn := fun _ => fun
  | [d1, d2, d3] => { results := [.lit (.bool false)], args := [d1, d2, d3] }
  | _ => none }
def LuckLearnsWrongFalsely : Prop := luckLearnsRow.holds Try.pinned (OpenSpec.ofChange luckLearnsWrong)

/-- 'dibberlaw05.LuckGoals': WHATEVER THE INPUT: true; the input reads as it did. -/
def luckGoalsSpec : ChangeSpec := { name := "luckGoals", fn := fun _ => fun
  | [d1, d2, d3, d4] => { results := [.lit (.bool true)], args := [d1, d2, d3, d4] }
  | _ => none }
def luckGoalsRow : OpenClaim := { program := "ytageakoepjkkbaa", sum := "067fa3bba4da36b2edd86ba476824e70468215b36d9be16bfac136b9027c962b", func := "dibber/dibberlaw05.LuckGoals", spec := "luckGoals", unfollowed := true, recurses := true, apart := false }
def LuckGoalsSaid : Prop := luckGoalsRow.holds Try.pinned (OpenSpec.ofChange luckGoalsSpec)

/-- ITS FALSE NEIGHBOUR: 'it returns false'. Refute it at one input. -/
def luckGoalsWrong : ChangeSpec := { name := "luckGoals", fn := fun _ => fun
  | [d1, d2, d3, d4] => { results := [.lit (.bool false)], args := [d1, d2, d3, d4] }
  | _ => none }
def LuckGoalsWrongFalsely : Prop := luckGoalsRow.holds Try.pinned (OpenSpec.ofChange luckGoalsWrong)

/-- 'dibberlaw05.LuckRegrets': WHATEVER THE INPUT: true; the input reads as it did. -/
def luckRegretsSpec : ChangeSpec := { name := "luckRegrets", fn := fun _ => fun
  | [d1, d2, d3] => { results := [.lit (.bool true)], args := [d1, d2, d3] }
  | _ => none }
def luckRegretsRow : OpenClaim := { program := "ytageakoepjkkbaa", sum := "067fa3bba4da36b2edd86ba476824e70468215b36d9be16bfac136b9027c962b", func := "dibber/dibberlaw05.LuckRegrets", spec := "luckRegrets", unfollowed := true, recurses := true, apart := false }
def LuckRegretsSaid : Prop := luckRegretsRow.holds Try.pinned (OpenSpec.ofChange luckRegretsSpec)

/-- ITS FALSE NEIGHBOUR: 'it returns false'. Refute it at one input. -/
def luckRegretsWrong : ChangeSpec := { name := "luckRegrets", fn := fun _ => fun
  | [d1, d2, d3] => { results := [.lit (.bool false)], args := [d1, d2, d3] }
  | _ => none }
def LuckRegretsWrongFalsely : Prop := luckRegretsRow.holds Try.pinned (OpenSpec.ofChange luckRegretsWrong)

/-- 'dibberlaw05.LuckExpert': WHATEVER THE INPUT: true; the input reads as it did. -/
def luckExpertSpec : ChangeSpec := { name := "luckExpert", fn := fun _ => fun
  | [d1, d2, d3] => { results := [.lit (.bool true)], args := [d1, d2, d3] }
  | _ => none }
def luckExpertRow : OpenClaim := { program := "ytageakoepjkkbaa", sum := "067fa3bba4da36b2edd86ba476824e70468215b36d9be16bfac136b9027c962b", func := "dibber/dibberlaw05.LuckExpert", spec := "luckExpert", unfollowed := true, recurses := true, apart := false }
def LuckExpertSaid : Prop := luckExpertRow.holds Try.pinned (OpenSpec.ofChange luckExpertSpec)

/-- ITS FALSE NEIGHBOUR: 'it returns false'. Refute it at one input. -/
def luckExpertWrong : ChangeSpec := { name := "luckExpert", fn := fun _ => fun
  | [d1, d2, d3] => { results := [.lit (.bool false)], args := [d1, d2, d3] }
  | _ => none }
def LuckExpertWrongFalsely : Prop := luckExpertRow.holds Try.pinned (OpenSpec.ofChange luckExpertWrong)

/-- 'dibberlaw05.LuckWeights': WHATEVER THE INPUT: true; the input reads as it did. -/
def luckWeightsSpec : ChangeSpec := { name := "luckWeights", fn := fun _ => fun
  | [d1, d2, d3] => { results := [.lit (.bool true)], args := [d1, d2, d3] }
  | _ => none }
def luckWeightsRow : OpenClaim := { program := "ytageakoepjkkbaa", sum := "067fa3bba4da36b2edd86ba476824e70468215b36d9be16bfac136b9027c962b", func := "dibber/dibberlaw05.LuckWeights", spec := "luckWeights", unfollowed := true, recurses := true, apart := false }
def LuckWeightsSaid : Prop := luckWeightsRow.holds Try.pinned (OpenSpec.ofChange luckWeightsSpec)

/-- ITS FALSE NEIGHBOUR: 'it returns false'. Refute it at one input. -/
def luckWeightsWrong : ChangeSpec := { name := "luckWeights", fn := fun _ => fun
  | [d1, d2, d3] => { results := [.lit (.bool false)], args := [d1, d2, d3] }
  | _ => none }
def LuckWeightsWrongFalsely : Prop := luckWeightsRow.holds Try.pinned (OpenSpec.ofChange luckWeightsWrong)

/-- 'dibberlaw05.LuckNovikoff': WHATEVER THE INPUT: true; the input reads as it did. -/
def luckNovikoffSpec : ChangeSpec := { name := "luckNovikoff", fn := fun _ => fun
  | [d1, d2, d3, d4] => { results := [.lit (.bool true)], args := [d1, d2, d3, d4] }
  | _ => none }
def luckNovikoffRow : OpenClaim := { program := "ytageakoepjkkbaa", sum := "067fa3bba4da36b2edd86ba476824e70468215b36d9be16bfac136b9027c962b", func := "dibber/dibberlaw05.LuckNovikoff", spec := "luckNovikoff", unfollowed := true, recurses := true, apart := false }
def LuckNovikoffSaid : Prop := luckNovikoffRow.holds Try.pinned (OpenSpec.ofChange luckNovikoffSpec)

/-- ITS FALSE NEIGHBOUR: 'it returns false'. Refute it at one input. -/
def luckNovikoffWrong : ChangeSpec := { name := "luckNovikoff", fn := fun _ => fun
  | [d1, d2, d3, d4] => { results := [.lit (.bool false)], args := [d1, d2, d3, d4] }
  | _ => none }
def LuckNovikoffWrongFalsely : Prop := luckNovikoffRow.holds Try.pinned (OpenSpec.ofChange luckNovikoffWrong)

/-- 'dibberlaw05.LuckWinnows': WHATEVER THE INPUT: true; the input reads as it did. -/
def luckWinnowsSpec : ChangeSpec := { name := "luckWinnows", fn := fun _ => fun
  | [d1, d2, d3] => { results := [.lit (.bool true)], args := [d1, d2, d3] }
  | _ => none }
def luckWinnowsRow : OpenClaim := { program := "ytageakoepjkkbaa", sum := "067fa3bba4da36b2edd86ba476824e70468215b36d9be16bfac136b9027c962b", func := "dibber/dibberlaw05.LuckWinnows", spec := "luckWinnows", unfollowed := true, recurses := true, apart := false }
def LuckWinnowsSaid : Prop := luckWinnowsRow.holds Try.pinned (OpenSpec.ofChange luckWinnowsSpec)

/-- ITS FALSE NEIGHBOUR: 'it returns false'. Refute it at one input. -/
def luckWinnowsWrong : ChangeSpec := { name := "luckWinnows", fn := fun _ => fun
  | [d1, d2, d3] => { results := [.lit (.bool false)], args := [d1, d2, d3] }
  | _ => none }
def LuckWinnowsWrongFalsely : Prop := luckWinnowsRow.holds Try.pinned (OpenSpec.ofChange luckWinnowsWrong)

/-- 'dibberlaw05.LuckCover': WHATEVER THE INPUT: true; the input reads as it did. -/
def luckCoverSpec : ChangeSpec := { name := "luckCover", fn := fun _ => fun
  | [d1, d2, d3] => { results := [.lit (.bool true)], args := [d1, d2, d3] }
  | _ => none }
def luckCoverRow : OpenClaim := { program := "ytageakoepjkkbaa", sum := "067fa3bba4da36b2edd86ba476824e70468215b36d9be16bfac136b9027c962b", func := "dibber/dibberlaw05.LuckCover", spec := "luckCover", unfollowed := true, recurses := true, apart := false }
def LuckCoverSaid : Prop := luckCoverRow.holds Try.pinned (OpenSpec.ofChange luckCoverSpec)

/-- ITS FALSE NEIGHBOUR: 'it returns false'. Refute it at one input. -/
def luckCoverWrong : ChangeSpec := { name := "luckCover", fn := fun _ => fun
  | [d1, d2, d3] => { results := [.lit (.bool false)], args := [d1, d2, d3] }
  | _ => none }
def LuckCoverWrongFalsely : Prop := luckCoverRow.holds Try.pinned (OpenSpec.ofChange luckCoverWrong)

/-- 'dibberlaw05.LuckWalks': WHATEVER THE INPUT: true; the input reads as it did. -/
def luckWalksSpec : ChangeSpec := { name := "luckWalks", fn := fun _ => fun
  | [d1, d2, d3, d4] => { results := [.lit (.bool true)], args := [d1, d2, d3, d4] }
  | _ => none }
def luckWalksRow : OpenClaim := { program := "ytageakoepjkkbaa", sum := "067fa3bba4da36b2edd86ba476824e70468215b36d9be16bfac136b9027c962b", func := "dibber/dibberlaw05.LuckWalks", spec := "luckWalks", unfollowed := true, recurses := true, apart := false }
def LuckWalksSaid : Prop := luckWalksRow.holds Try.pinned (OpenSpec.ofChange luckWalksSpec)

/-- ITS FALSE NEIGHBOUR: 'it returns false'. Refute it at one input. -/
def luckWalksWrong : ChangeSpec := { name := "luckWalks", fn := fun _ => fun
  | [d1, d2, d3, d4] => { results := [.lit (.bool false)], args := [d1, d2, d3, d4] }
  | _ => none }
def LuckWalksWrongFalsely : Prop := luckWalksRow.holds Try.pinned (OpenSpec.ofChange luckWalksWrong)

/-- 'dibberlaw05.LuckGoal': WHATEVER THE INPUT: true; the input reads as it did. -/
def luckGoalSpec : ChangeSpec := { name := "luckGoal", fn := fun _ => fun
  | [d1, d2, d3, d4] => { results := [.lit (.bool true)], args := [d1, d2, d3, d4] }
  | _ => none }
def luckGoalRow : OpenClaim := { program := "ytageakoepjkkbaa", sum := "067fa3bba4da36b2edd86ba476824e70468215b36d9be16bfac136b9027c962b", func := "dibber/dibberlaw05.LuckGoal", spec := "luckGoal", unfollowed := true, recurses := true, apart := false }
def LuckGoalSaid : Prop := luckGoalRow.holds Try.pinned (OpenSpec.ofChange luckGoalSpec)

/-- ITS FALSE NEIGHBOUR: 'it returns false'. Refute it at one input. -/
def luckGoalWrong : ChangeSpec := { name := "luckGoal", fn := fun _ => fun
  | [d1, d2, d3, d4] => { results := [.lit (.bool false)], args := [d1, d2, d3, d4] }
  | _ => none }
def LuckGoalWrongFalsely : Prop := luckGoalRow.holds Try.pinned (OpenSpec.ofChange luckGoalWrong)

/- THE SECOND FORM. 'bulk': how many values and letters a reading holds, each counted each time it is reached (what is shared counts as often as it is met; a slice's spare places count too). A statement '..UptoSaid' is the law's where the arguments, and the package variables that the reading takes, are together of bulk at most 1048576: NARROWER than '..Said'. Prove '..Said' where nothing that the law and all that it calls make is longer than what came in: it says more and counts as full. Else prove '..UptoSaid'. A law counts once. -/
mutual
def uptoBulk {H : Type} : DataW H → Nat
  | .lit (.string bytes) => bytes.length + 1
  | .lit _ => 1
  | .nil => 1
  | .ptr d => uptoBulk d + 1
  | .slice elems spare => uptoBulkAll elems + uptoBulkAll spare + 1
  | .agg parts => uptoBulkAll parts + 1
  | .iface _ d => uptoBulk d + 1
  | .map entries => uptoBulkEntries entries + 1
  | .held _ => 1
def uptoBulkAll {H : Type} : List (DataW H) → Nat
  | [] => 0
  | d :: r => uptoBulk d + uptoBulkAll r
def uptoBulkEntries {H : Type} : List (Lit × DataW H) → Nat
  | [] => 0
  | x :: r => uptoBulkEntry x + uptoBulkEntries r
def uptoBulkEntry {H : Type} : Lit × DataW H → Nat
  | (.string bytes, d) => bytes.length + uptoBulk d + 1
  | (_, d) => uptoBulk d + 1
 end
def uptoSmall : (H : Type) → List (DataW H) → Bool := fun _ ds => decide (uptoBulkAll ds ≤ 1048576)
def OpenSpec.upto (s : _root_.Go.ChangeSpec) : _root_.Go.OpenSpec := { _root_.Go.OpenSpec.ofChange s with cond := some uptoSmall }

/-- 'dibberlaw05.LuckHalves', WHERE WHAT IT READS IS OF BULK AT MOST 1048576: true; the input reads as it did. -/
def luckHalvesUptoRow : OpenClaim := { program := "ytageakoepjkkbaa", sum := "067fa3bba4da36b2edd86ba476824e70468215b36d9be16bfac136b9027c962b", func := "dibber/dibberlaw05.LuckHalves", spec := "luckHalves", unfollowed := true, recurses := true, apart := false, narrowed := true }
def LuckHalvesUptoSaid : Prop := luckHalvesUptoRow.holds Try.pinned (OpenSpec.upto luckHalvesSpec)

/-- 'dibberlaw05.LuckWeighs', WHERE WHAT IT READS IS OF BULK AT MOST 1048576: true; the input reads as it did. -/
def luckWeighsUptoRow : OpenClaim := { program := "ytageakoepjkkbaa", sum := "067fa3bba4da36b2edd86ba476824e70468215b36d9be16bfac136b9027c962b", func := "dibber/dibberlaw05.LuckWeighs", spec := "luckWeighs", unfollowed := true, recurses := true, apart := false, narrowed := true }
def LuckWeighsUptoSaid : Prop := luckWeighsUptoRow.holds Try.pinned (OpenSpec.upto luckWeighsSpec)

/-- 'dibberlaw05.LuckLearns', WHERE WHAT IT READS IS OF BULK AT MOST 1048576: true; the input reads as it did. -/
def luckLearnsUptoRow : OpenClaim := { program := "ytageakoepjkkbaa", sum := "067fa3bba4da36b2edd86ba476824e70468215b36d9be16bfac136b9027c962b", func := "dibber/dibberlaw05.LuckLearns", spec := "luckLearns", unfollowed := true, recurses := true, apart := false, narrowed := true }
def LuckLearnsUptoSaid : Prop := luckLearnsUptoRow.holds Try.pinned (OpenSpec.upto luckLearnsSpec)

/-- 'dibberlaw05.LuckGoals', WHERE WHAT IT READS IS OF BULK AT MOST 1048576: true; the input reads as it did. -/
def luckGoalsUptoRow : OpenClaim := { program := "ytageakoepjkkbaa", sum := "067fa3bba4da36b2edd86ba476824e70468215b36d9be16bfac136b9027c962b", func := "dibber/dibberlaw05.LuckGoals", spec := "luckGoals", unfollowed := true, recurses := true, apart := false, narrowed := true }
def LuckGoalsUptoSaid : Prop := luckGoalsUptoRow.holds Try.pinned (OpenSpec.upto luckGoalsSpec)

/-- 'dibberlaw05.LuckRegrets', WHERE WHAT IT READS IS OF BULK AT MOST 1048576: true; the input reads as it did. -/
def luckRegretsUptoRow : OpenClaim := { program := "ytageakoepjkkbaa", sum := "067fa3bba4da36b2edd86ba476824e70468215b36d9be16bfac136b9027c962b", func := "dibber/dibberlaw05.LuckRegrets", spec := "luckRegrets", unfollowed := true, recurses := true, apart := false, narrowed := true }
def LuckRegretsUptoSaid : Prop := luckRegretsUptoRow.holds Try.pinned (OpenSpec.upto luckRegretsSpec)

/-- 'dibberlaw05.LuckExpert', WHERE WHAT IT READS IS OF BULK AT MOST 1048576: true; the input reads as it did. -/
def luckExpertUptoRow : OpenClaim := { program := "ytageakoepjkkbaa", sum := "067fa3bba4da36b2edd86ba476824e70468215b36d9be16bfac136b9027c962b", func := "dibber/dibberlaw05.LuckExpert", spec := "luckExpert", unfollowed := true, recurses := true, apart := false, narrowed := true }
def LuckExpertUptoSaid : Prop := luckExpertUptoRow.holds Try.pinned (OpenSpec.upto luckExpertSpec)

/-- 'dibberlaw05.LuckWeights', WHERE WHAT IT READS IS OF BULK AT MOST 1048576: true; the input reads as it did. -/
def luckWeightsUptoRow : OpenClaim := { program := "ytageakoepjkkbaa", sum := "067fa3bba4da36b2edd86ba476824e70468215b36d9be16bfac136b9027c962b", func := "dibber/dibberlaw05.LuckWeights", spec := "luckWeights", unfollowed := true, recurses := true, apart := false, narrowed := true }
def LuckWeightsUptoSaid : Prop := luckWeightsUptoRow.holds Try.pinned (OpenSpec.upto luckWeightsSpec)

/-- 'dibberlaw05.LuckNovikoff', WHERE WHAT IT READS IS OF BULK AT MOST 1048576: true; the input reads as it did. -/
def luckNovikoffUptoRow : OpenClaim := { program := "ytageakoepjkkbaa", sum := "067fa3bba4da36b2edd86ba476824e70468215b36d9be16bfac136b9027c962b", func := "dibber/dibberlaw05.LuckNovikoff", spec := "luckNovikoff", unfollowed := true, recurses := true, apart := false, narrowed := true }
def LuckNovikoffUptoSaid : Prop := luckNovikoffUptoRow.holds Try.pinned (OpenSpec.upto luckNovikoffSpec)

/-- 'dibberlaw05.LuckWinnows', WHERE WHAT IT READS IS OF BULK AT MOST 1048576: true; the input reads as it did. -/
def luckWinnowsUptoRow : OpenClaim := { program := "ytageakoepjkkbaa", sum := "067fa3bba4da36b2edd86ba476824e70468215b36d9be16bfac136b9027c962b", func := "dibber/dibberlaw05.LuckWinnows", spec := "luckWinnows", unfollowed := true, recurses := true, apart := false, narrowed := true }
def LuckWinnowsUptoSaid : Prop := luckWinnowsUptoRow.holds Try.pinned (OpenSpec.upto luckWinnowsSpec)

/-- 'dibberlaw05.LuckCover', WHERE WHAT IT READS IS OF BULK AT MOST 1048576: true; the input reads as it did. -/
def luckCoverUptoRow : OpenClaim := { program := "ytageakoepjkkbaa", sum := "067fa3bba4da36b2edd86ba476824e70468215b36d9be16bfac136b9027c962b", func := "dibber/dibberlaw05.LuckCover", spec := "luckCover", unfollowed := true, recurses := true, apart := false, narrowed := true }
def LuckCoverUptoSaid : Prop := luckCoverUptoRow.holds Try.pinned (OpenSpec.upto luckCoverSpec)

/-- 'dibberlaw05.LuckWalks', WHERE WHAT IT READS IS OF BULK AT MOST 1048576: true; the input reads as it did. -/
def luckWalksUptoRow : OpenClaim := { program := "ytageakoepjkkbaa", sum := "067fa3bba4da36b2edd86ba476824e70468215b36d9be16bfac136b9027c962b", func := "dibber/dibberlaw05.LuckWalks", spec := "luckWalks", unfollowed := true, recurses := true, apart := false, narrowed := true }
def LuckWalksUptoSaid : Prop := luckWalksUptoRow.holds Try.pinned (OpenSpec.upto luckWalksSpec)

/-- 'dibberlaw05.LuckGoal', WHERE WHAT IT READS IS OF BULK AT MOST 1048576: true; the input reads as it did. -/
def luckGoalUptoRow : OpenClaim := { program := "ytageakoepjkkbaa", sum := "067fa3bba4da36b2edd86ba476824e70468215b36d9be16bfac136b9027c962b", func := "dibber/dibberlaw05.LuckGoal", spec := "luckGoal", unfollowed := true, recurses := true, apart := false, narrowed := true }
def LuckGoalUptoSaid : Prop := luckGoalUptoRow.holds Try.pinned (OpenSpec.upto luckGoalSpec)

end Rows
end Go.Proofs.Ytageakoepjkkbaa
