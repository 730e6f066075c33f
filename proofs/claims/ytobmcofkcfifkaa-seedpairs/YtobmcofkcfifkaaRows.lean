/-
  No cell of these rows narrows 'for every input' (looked for: loops, veiled, ifaces, maps, wideKeys, modest, calm, conditions, laid).
  DERIVED. THE GIVEN ROWS OF THIS SEAT. 15 by the template 'for every input the law returns true; each argument reads behind the call as it read before'; 0 by the template 'total and deterministic' (their statements: YtobmcofkcfifkaaTotals.lean).
  GIVEN WITH THE SEED: the statements are not yours to turn. If you find one false, say at which input.
  Laid BY PROGRAM, IN A SANDBOX (cutbox-rows.mjs): the forced cells as the released guide's own fill.sh prints them over the translation 0906cfe53d7b9cf4… (all of the seat's roots in one cut). By AI agents, Wed Nov 11 2026. No macro, syntax, notation, axiom, sorry.
-/
import Derived.Test.YtobmcofkcfifkaaChecked
import GoSem.Claim
import GoSem.ClaimJoined
import GoSem.ClaimMapViews
import Derived.JoinedTies
import Derived.KernelRfl
namespace Go.Proofs.Ytobmcofkcfifkaa
/- THE CELL 'sum', in the pinned program and in every row, IS THE sha256 OF THE DUMP (.gsa) THAT YtobmcofkcfifkaaProg.lean LOADS. Nothing in Lean hashes anything: it is a label: what it is worth is what the hold of that sum in a sandbox is worth. -/
noncomputable def Try.pinned : Pinned := { name := "ytobmcofkcfifkaa", sum := "0906cfe53d7b9cf408539807ece2c69a5a7c7955904a41b02f901026026f2964", checked := Try.checked }
namespace Rows
def none {H : Type} : Left H := { results := [], args := [] }

/-- 'dibberlaw09.SeedWords': WHATEVER THE INPUT: true; the input reads as it did. -/
def seedWordsSpec : ChangeSpec := { name := "seedWords", fn := fun _ => fun
  | [d1, d2] => { results := [.lit (.bool true)], args := [d1, d2] }
  | _ => none }
def seedWordsRow : OpenClaim := { program := "ytobmcofkcfifkaa", sum := "0906cfe53d7b9cf408539807ece2c69a5a7c7955904a41b02f901026026f2964", func := "dibber/dibberlaw09.SeedWords", spec := "seedWords", inPlace := ["internal/bytealg.MakeNoZero"], unfollowed := true, recurses := true, apart := false }
def SeedWordsSaid : Prop := seedWordsRow.holds Try.pinned (OpenSpec.ofChange seedWordsSpec)

/-- ITS FALSE NEIGHBOUR: 'it returns false'. Refute it at one input. -/
def seedWordsWrong : ChangeSpec := { name := "seedWords", fn := fun _ => fun
  | [d1, d2] => { results := [.lit (.bool false)], args := [d1, d2] }
  | _ => none }
def SeedWordsWrongFalsely : Prop := seedWordsRow.holds Try.pinned (OpenSpec.ofChange seedWordsWrong)

/-- 'dibberlaw09.SeedTidies': WHATEVER THE INPUT: true; the input reads as it did. -/
def seedTidiesSpec : ChangeSpec := { name := "seedTidies", fn := fun _ => fun
  | [d] => { results := [.lit (.bool true)], args := [d] }
  | _ => none }
def seedTidiesRow : OpenClaim := { program := "ytobmcofkcfifkaa", sum := "0906cfe53d7b9cf408539807ece2c69a5a7c7955904a41b02f901026026f2964", func := "dibber/dibberlaw09.SeedTidies", spec := "seedTidies", inPlace := ["internal/bytealg.MakeNoZero"], unfollowed := true, recurses := true, apart := false }
def SeedTidiesSaid : Prop := seedTidiesRow.holds Try.pinned (OpenSpec.ofChange seedTidiesSpec)

/-- ITS FALSE NEIGHBOUR: 'it returns false'. Refute it at one input. -/
def seedTidiesWrong : ChangeSpec := { name := "seedTidies", fn := fun _ => fun
  | [d] => { results := [.lit (.bool false)], args := [d] }
  | _ => none }
def SeedTidiesWrongFalsely : Prop := seedTidiesRow.holds Try.pinned (OpenSpec.ofChange seedTidiesWrong)

/-- 'dibberlaw09.SeedSums': WHATEVER THE INPUT: true; the input reads as it did. -/
def seedSumsSpec : ChangeSpec := { name := "seedSums", fn := fun _ => fun
  | [d] => { results := [.lit (.bool true)], args := [d] }
  | _ => none }
def seedSumsRow : OpenClaim := { program := "ytobmcofkcfifkaa", sum := "0906cfe53d7b9cf408539807ece2c69a5a7c7955904a41b02f901026026f2964", func := "dibber/dibberlaw09.SeedSums", spec := "seedSums", inPlace := ["internal/bytealg.MakeNoZero"], unfollowed := true, recurses := true, apart := false }
def SeedSumsSaid : Prop := seedSumsRow.holds Try.pinned (OpenSpec.ofChange seedSumsSpec)

/-- ITS FALSE NEIGHBOUR: 'it returns false'. Refute it at one input. -/
def seedSumsWrong : ChangeSpec := { name := "seedSums", fn := fun _ => fun
  | [d] => { results := [.lit (.bool false)], args := [d] }
  | _ => none }
def SeedSumsWrongFalsely : Prop := seedSumsRow.holds Try.pinned (OpenSpec.ofChange seedSumsWrong)

/-- 'dibberlaw09.SeedCircles': WHATEVER THE INPUT: true; the input reads as it did. -/
def seedCirclesSpec : ChangeSpec := { name := "seedCircles", fn := fun _ => fun
  | [d1, d2, d3] => { results := [.lit (.bool true)], args := [d1, d2, d3] }
  | _ => none }
def seedCirclesRow : OpenClaim := { program := "ytobmcofkcfifkaa", sum := "0906cfe53d7b9cf408539807ece2c69a5a7c7955904a41b02f901026026f2964", func := "dibber/dibberlaw09.SeedCircles", spec := "seedCircles", inPlace := ["internal/bytealg.MakeNoZero"], unfollowed := true, recurses := true, apart := false }
def SeedCirclesSaid : Prop := seedCirclesRow.holds Try.pinned (OpenSpec.ofChange seedCirclesSpec)

/-- ITS FALSE NEIGHBOUR: 'it returns false'. Refute it at one input. -/
def seedCirclesWrong : ChangeSpec := { name := "seedCircles", fn := fun _ => fun
  | [d1, d2, d3] => { results := [.lit (.bool false)], args := [d1, d2, d3] }
  | _ => none }
def SeedCirclesWrongFalsely : Prop := seedCirclesRow.holds Try.pinned (OpenSpec.ofChange seedCirclesWrong)

/-- 'dibberlaw09.SeedPairs': WHATEVER THE INPUT: true; the input reads as it did. -/
def seedPairsSpec : ChangeSpec := { name := "seedPairs", fn := fun _ => fun
  | [d1, d2, d3] => { results := [.lit (.bool true)], args := [d1, d2, d3] }
  | _ => none }
def seedPairsRow : OpenClaim := { program := "ytobmcofkcfifkaa", sum := "0906cfe53d7b9cf408539807ece2c69a5a7c7955904a41b02f901026026f2964", func := "dibber/dibberlaw09.SeedPairs", spec := "seedPairs", inPlace := ["internal/bytealg.MakeNoZero"], unfollowed := true, recurses := true, apart := false }
def SeedPairsSaid : Prop := seedPairsRow.holds Try.pinned (OpenSpec.ofChange seedPairsSpec)

/-- ITS FALSE NEIGHBOUR: 'it returns false'. Refute it at one input. -/
def seedPairsWrong : ChangeSpec := { name := "seedPairs", fn := fun _ => fun
  | [d1, d2, d3] => { results := [.lit (.bool false)], args := [d1, d2, d3] }
  | _ => none }
def SeedPairsWrongFalsely : Prop := seedPairsRow.holds Try.pinned (OpenSpec.ofChange seedPairsWrong)

/-- 'dibberlaw09.SeedTakes': WHATEVER THE INPUT: true; the input reads as it did. -/
def seedTakesSpec : ChangeSpec := { name := "seedTakes", fn := fun _ => fun
  | [d1, d2] => { results := [.lit (.bool true)], args := [d1, d2] }
  | _ => none }
def seedTakesRow : OpenClaim := { program := "ytobmcofkcfifkaa", sum := "0906cfe53d7b9cf408539807ece2c69a5a7c7955904a41b02f901026026f2964", func := "dibber/dibberlaw09.SeedTakes", spec := "seedTakes", inPlace := ["internal/bytealg.MakeNoZero"], unfollowed := true, recurses := true, apart := false }
def SeedTakesSaid : Prop := seedTakesRow.holds Try.pinned (OpenSpec.ofChange seedTakesSpec)

/-- ITS FALSE NEIGHBOUR: 'it returns false'. Refute it at one input. -/
def seedTakesWrong : ChangeSpec := { name := "seedTakes", fn := fun _ => fun
  | [d1, d2] => { results := [.lit (.bool false)], args := [d1, d2] }
  | _ => none }
def SeedTakesWrongFalsely : Prop := seedTakesRow.holds Try.pinned (OpenSpec.ofChange seedTakesWrong)

/-- 'dibberlaw09.SeedArrays': WHATEVER THE INPUT: true; the input reads as it did. -/
def seedArraysSpec : ChangeSpec := { name := "seedArrays", fn := fun _ => fun
  | [d1, d2, d3] => { results := [.lit (.bool true)], args := [d1, d2, d3] }
  | _ => none }
def seedArraysRow : OpenClaim := { program := "ytobmcofkcfifkaa", sum := "0906cfe53d7b9cf408539807ece2c69a5a7c7955904a41b02f901026026f2964", func := "dibber/dibberlaw09.SeedArrays", spec := "seedArrays", inPlace := ["internal/bytealg.MakeNoZero"], unfollowed := true, recurses := true, apart := false }
def SeedArraysSaid : Prop := seedArraysRow.holds Try.pinned (OpenSpec.ofChange seedArraysSpec)

/-- ITS FALSE NEIGHBOUR: 'it returns false'. Refute it at one input. -/
def seedArraysWrong : ChangeSpec := { name := "seedArrays", fn := fun _ => fun
  | [d1, d2, d3] => { results := [.lit (.bool false)], args := [d1, d2, d3] }
  | _ => none }
def SeedArraysWrongFalsely : Prop := seedArraysRow.holds Try.pinned (OpenSpec.ofChange seedArraysWrong)

/-- 'dibberlaw09.SeedZeckendorf': WHATEVER THE INPUT: true; the input reads as it did. -/
def seedZeckendorfSpec : ChangeSpec := { name := "seedZeckendorf", fn := fun _ => fun
  | [d1, d2, d3] => { results := [.lit (.bool true)], args := [d1, d2, d3] }
  | _ => none }
def seedZeckendorfRow : OpenClaim := { program := "ytobmcofkcfifkaa", sum := "0906cfe53d7b9cf408539807ece2c69a5a7c7955904a41b02f901026026f2964", func := "dibber/dibberlaw09.SeedZeckendorf", spec := "seedZeckendorf", inPlace := ["internal/bytealg.MakeNoZero"], unfollowed := true, recurses := true, apart := false }
def SeedZeckendorfSaid : Prop := seedZeckendorfRow.holds Try.pinned (OpenSpec.ofChange seedZeckendorfSpec)

/-- ITS FALSE NEIGHBOUR: 'it returns false'. Refute it at one input. -/
def seedZeckendorfWrong : ChangeSpec := { name := "seedZeckendorf", fn := fun _ => fun
  | [d1, d2, d3] => { results := [.lit (.bool false)], args := [d1, d2, d3] }
  | _ => none }
def SeedZeckendorfWrongFalsely : Prop := seedZeckendorfRow.holds Try.pinned (OpenSpec.ofChange seedZeckendorfWrong)

/-- 'dibberlaw09.SeedTidied': WHATEVER THE INPUT: true; the input reads as it did. -/
def seedTidiedSpec : ChangeSpec := { name := "seedTidied", fn := fun _ => fun
  | [d1, d2] => { results := [.lit (.bool true)], args := [d1, d2] }
  | _ => none }
def seedTidiedRow : OpenClaim := { program := "ytobmcofkcfifkaa", sum := "0906cfe53d7b9cf408539807ece2c69a5a7c7955904a41b02f901026026f2964", func := "dibber/dibberlaw09.SeedTidied", spec := "seedTidied", inPlace := ["internal/bytealg.MakeNoZero"], unfollowed := true, recurses := true, apart := false }
def SeedTidiedSaid : Prop := seedTidiedRow.holds Try.pinned (OpenSpec.ofChange seedTidiedSpec)

/-- ITS FALSE NEIGHBOUR: 'it returns false'. Refute it at one input. -/
def seedTidiedWrong : ChangeSpec := { name := "seedTidied", fn := fun _ => fun
  | [d1, d2] => { results := [.lit (.bool false)], args := [d1, d2] }
  | _ => none }
def SeedTidiedWrongFalsely : Prop := seedTidiedRow.holds Try.pinned (OpenSpec.ofChange seedTidiedWrong)

/-- 'dibberlaw09.SeedKnuth': WHATEVER THE INPUT: true; the input reads as it did. -/
def seedKnuthSpec : ChangeSpec := { name := "seedKnuth", fn := fun _ => fun
  | [d1, d2, d3] => { results := [.lit (.bool true)], args := [d1, d2, d3] }
  | _ => none }
def seedKnuthRow : OpenClaim := { program := "ytobmcofkcfifkaa", sum := "0906cfe53d7b9cf408539807ece2c69a5a7c7955904a41b02f901026026f2964", func := "dibber/dibberlaw09.SeedKnuth", spec := "seedKnuth", inPlace := ["internal/bytealg.MakeNoZero"], unfollowed := true, recurses := true, apart := false }
def SeedKnuthSaid : Prop := seedKnuthRow.holds Try.pinned (OpenSpec.ofChange seedKnuthSpec)

/-- ITS FALSE NEIGHBOUR: 'it returns false'. Refute it at one input. -/
def seedKnuthWrong : ChangeSpec := { name := "seedKnuth", fn := fun _ => fun
  | [d1, d2, d3] => { results := [.lit (.bool false)], args := [d1, d2, d3] }
  | _ => none }
def SeedKnuthWrongFalsely : Prop := seedKnuthRow.holds Try.pinned (OpenSpec.ofChange seedKnuthWrong)

/-- 'dibberlaw09.SeedWythoff': WHATEVER THE INPUT: true; the input reads as it did. -/
def seedWythoffSpec : ChangeSpec := { name := "seedWythoff", fn := fun _ => fun
  | [d1, d2, d3, d4, d5] => { results := [.lit (.bool true)], args := [d1, d2, d3, d4, d5] }
  | _ => none }
def seedWythoffRow : OpenClaim := { program := "ytobmcofkcfifkaa", sum := "0906cfe53d7b9cf408539807ece2c69a5a7c7955904a41b02f901026026f2964", func := "dibber/dibberlaw09.SeedWythoff", spec := "seedWythoff", inPlace := ["internal/bytealg.MakeNoZero"], unfollowed := true, recurses := true, apart := false }
def SeedWythoffSaid : Prop := seedWythoffRow.holds Try.pinned (OpenSpec.ofChange seedWythoffSpec)

/-- ITS FALSE NEIGHBOUR: 'it returns false'. Refute it at one input. -/
def seedWythoffWrong : ChangeSpec := { name := "seedWythoff", fn := fun _ => fun
  | [d1, d2, d3, d4, d5] => { results := [.lit (.bool false)], args := [d1, d2, d3, d4, d5] }
  | _ => none }
def SeedWythoffWrongFalsely : Prop := seedWythoffRow.holds Try.pinned (OpenSpec.ofChange seedWythoffWrong)

/-- 'dibberlaw09.SeedWhinihan': WHATEVER THE INPUT: true; the input reads as it did. -/
def seedWhinihanSpec : ChangeSpec := { name := "seedWhinihan", fn := fun _ => fun
  | [d1, d2, d3, d4] => { results := [.lit (.bool true)], args := [d1, d2, d3, d4] }
  | _ => none }
def seedWhinihanRow : OpenClaim := { program := "ytobmcofkcfifkaa", sum := "0906cfe53d7b9cf408539807ece2c69a5a7c7955904a41b02f901026026f2964", func := "dibber/dibberlaw09.SeedWhinihan", spec := "seedWhinihan", inPlace := ["internal/bytealg.MakeNoZero"], unfollowed := true, recurses := true, apart := false }
def SeedWhinihanSaid : Prop := seedWhinihanRow.holds Try.pinned (OpenSpec.ofChange seedWhinihanSpec)

/-- ITS FALSE NEIGHBOUR: 'it returns false'. Refute it at one input. -/
def seedWhinihanWrong : ChangeSpec := { name := "seedWhinihan", fn := fun _ => fun
  | [d1, d2, d3, d4] => { results := [.lit (.bool false)], args := [d1, d2, d3, d4] }
  | _ => none }
def SeedWhinihanWrongFalsely : Prop := seedWhinihanRow.holds Try.pinned (OpenSpec.ofChange seedWhinihanWrong)

/-- 'dibberlaw09.SeedArray': WHATEVER THE INPUT: true; the input reads as it did. -/
def seedArraySpec : ChangeSpec := { name := "seedArray", fn := fun _ => fun
  | [d1, d2, d3] => { results := [.lit (.bool true)], args := [d1, d2, d3] }
  | _ => none }
def seedArrayRow : OpenClaim := { program := "ytobmcofkcfifkaa", sum := "0906cfe53d7b9cf408539807ece2c69a5a7c7955904a41b02f901026026f2964", func := "dibber/dibberlaw09.SeedArray", spec := "seedArray", inPlace := ["internal/bytealg.MakeNoZero"], unfollowed := true, recurses := true, apart := false }
def SeedArraySaid : Prop := seedArrayRow.holds Try.pinned (OpenSpec.ofChange seedArraySpec)

/-- ITS FALSE NEIGHBOUR: 'it returns false'. Refute it at one input. -/
def seedArrayWrong : ChangeSpec := { name := "seedArray", fn := fun _ => fun
  | [d1, d2, d3] => { results := [.lit (.bool false)], args := [d1, d2, d3] }
  | _ => none }
def SeedArrayWrongFalsely : Prop := seedArrayRow.holds Try.pinned (OpenSpec.ofChange seedArrayWrong)

/-- 'dibberlaw09.SeedLetters': WHATEVER THE INPUT: true; the input reads as it did. -/
def seedLettersSpec : ChangeSpec := { name := "seedLetters", fn := fun _ => fun
  | [d] => { results := [.lit (.bool true)], args := [d] }
  | _ => none }
def seedLettersRow : OpenClaim := { program := "ytobmcofkcfifkaa", sum := "0906cfe53d7b9cf408539807ece2c69a5a7c7955904a41b02f901026026f2964", func := "dibber/dibberlaw09.SeedLetters", spec := "seedLetters", inPlace := ["internal/bytealg.MakeNoZero"], unfollowed := true, recurses := true, apart := false }
def SeedLettersSaid : Prop := seedLettersRow.holds Try.pinned (OpenSpec.ofChange seedLettersSpec)

/-- ITS FALSE NEIGHBOUR: 'it returns false'. Refute it at one input. -/
def seedLettersWrong : ChangeSpec := { name := "seedLetters", fn := fun _ => fun
  | [d] => { results := [.lit (.bool false)], args := [d] }
  | _ => none }
def SeedLettersWrongFalsely : Prop := seedLettersRow.holds Try.pinned (OpenSpec.ofChange seedLettersWrong)

/-- 'dibberlaw09.SeedShifts': WHATEVER THE INPUT: true; the input reads as it did. -/
def seedShiftsSpec : ChangeSpec := { name := "seedShifts", fn := fun _ => fun
  | [d1, d2, d3] => { results := [.lit (.bool true)], args := [d1, d2, d3] }
  | _ => none }
def seedShiftsRow : OpenClaim := { program := "ytobmcofkcfifkaa", sum := "0906cfe53d7b9cf408539807ece2c69a5a7c7955904a41b02f901026026f2964", func := "dibber/dibberlaw09.SeedShifts", spec := "seedShifts", inPlace := ["internal/bytealg.MakeNoZero"], unfollowed := true, recurses := true, apart := false }
def SeedShiftsSaid : Prop := seedShiftsRow.holds Try.pinned (OpenSpec.ofChange seedShiftsSpec)

/-- ITS FALSE NEIGHBOUR: 'it returns false'. Refute it at one input. -/
def seedShiftsWrong : ChangeSpec := { name := "seedShifts", fn := fun _ => fun
  | [d1, d2, d3] => { results := [.lit (.bool false)], args := [d1, d2, d3] }
  | _ => none }
def SeedShiftsWrongFalsely : Prop := seedShiftsRow.holds Try.pinned (OpenSpec.ofChange seedShiftsWrong)

/- THE SECOND FORM. 'bulk': how many values and letters a reading holds, each counted each time it is reached (what is shared counts as often as it is met; a slice's spare places count too). A statement '..UptoSaid' is the law's where the arguments, and the package variables that the reading takes, are together of bulk at most 1048576: NARROWER than '..Said'. Prove '..Said' where nothing that the law and all that it calls make is longer than what came in: it says more and counts as full. Else prove '..UptoSaid'. A law counts once. -/
mutual
def uptoBulk {H : Type} : DataW H → Nat
  | .lit (.string bytes) => bytes.length + 1
  | .lit _ => 1
  | .nil => 1
  | .ptr d => uptoBulk d + 1
  | .slice elems spare => uptoBulkAll elems + uptoBulkAll spare + 1
  | .agg parts => uptoBulkAll parts + 1
  | .iface _ d => uptoBulk d + 1
  | .map entries => uptoBulkEntries entries + 1
  | .held _ => 1
def uptoBulkAll {H : Type} : List (DataW H) → Nat
  | [] => 0
  | d :: r => uptoBulk d + uptoBulkAll r
def uptoBulkEntries {H : Type} : List (Lit × DataW H) → Nat
  | [] => 0
  | x :: r => uptoBulkEntry x + uptoBulkEntries r
def uptoBulkEntry {H : Type} : Lit × DataW H → Nat
  | (.string bytes, d) => bytes.length + uptoBulk d + 1
  | (_, d) => uptoBulk d + 1
 end
def uptoSmall : (H : Type) → List (DataW H) → Bool := fun _ ds => decide (uptoBulkAll ds ≤ 1048576)
def OpenSpec.upto (s : _root_.Go.ChangeSpec) : _root_.Go.OpenSpec := { _root_.Go.OpenSpec.ofChange s with cond := some uptoSmall }

/-- 'dibberlaw09.SeedWords', WHERE WHAT IT READS IS OF BULK AT MOST 1048576: true; the input reads as it did. -/
def seedWordsUptoRow : OpenClaim := { program := "ytobmcofkcfifkaa", sum := "0906cfe53d7b9cf408539807ece2c69a5a7c7955904a41b02f901026026f2964", func := "dibber/dibberlaw09.SeedWords", spec := "seedWords", inPlace := ["internal/bytealg.MakeNoZero"], unfollowed := true, recurses := true, apart := false, narrowed := true }
def SeedWordsUptoSaid : Prop := seedWordsUptoRow.holds Try.pinned (OpenSpec.upto seedWordsSpec)

/-- 'dibberlaw09.SeedTidies', WHERE WHAT IT READS IS OF BULK AT MOST 1048576: true; the input reads as it did. -/
def seedTidiesUptoRow : OpenClaim := { program := "ytobmcofkcfifkaa", sum := "0906cfe53d7b9cf408539807ece2c69a5a7c7955904a41b02f901026026f2964", func := "dibber/dibberlaw09.SeedTidies", spec := "seedTidies", inPlace := ["internal/bytealg.MakeNoZero"], unfollowed := true, recurses := true, apart := false, narrowed := true }
def SeedTidiesUptoSaid : Prop := seedTidiesUptoRow.holds Try.pinned (OpenSpec.upto seedTidiesSpec)

/-- 'dibberlaw09.SeedSums', WHERE WHAT IT READS IS OF BULK AT MOST 1048576: true; the input reads as it did. -/
def seedSumsUptoRow : OpenClaim := { program := "ytobmcofkcfifkaa", sum := "0906cfe53d7b9cf408539807ece2c69a5a7c7955904a41b02f901026026f2964", func := "dibber/dibberlaw09.SeedSums", spec := "seedSums", inPlace := ["internal/bytealg.MakeNoZero"], unfollowed := true, recurses := true, apart := false, narrowed := true }
def SeedSumsUptoSaid : Prop := seedSumsUptoRow.holds Try.pinned (OpenSpec.upto seedSumsSpec)

/-- 'dibberlaw09.SeedCircles', WHERE WHAT IT READS IS OF BULK AT MOST 1048576: true; the input reads as it did. -/
def seedCirclesUptoRow : OpenClaim := { program := "ytobmcofkcfifkaa", sum := "0906cfe53d7b9cf408539807ece2c69a5a7c7955904a41b02f901026026f2964", func := "dibber/dibberlaw09.SeedCircles", spec := "seedCircles", inPlace := ["internal/bytealg.MakeNoZero"], unfollowed := true, recurses := true, apart := false, narrowed := true }
def SeedCirclesUptoSaid : Prop := seedCirclesUptoRow.holds Try.pinned (OpenSpec.upto seedCirclesSpec)

/-- 'dibberlaw09.SeedPairs', WHERE WHAT IT READS IS OF BULK AT MOST 1048576: true; the input reads as it did. -/
def seedPairsUptoRow : OpenClaim := { program := "ytobmcofkcfifkaa", sum := "0906cfe53d7b9cf408539807ece2c69a5a7c7955904a41b02f901026026f2964", func := "dibber/dibberlaw09.SeedPairs", spec := "seedPairs", inPlace := ["internal/bytealg.MakeNoZero"], unfollowed := true, recurses := true, apart := false, narrowed := true }
def SeedPairsUptoSaid : Prop := seedPairsUptoRow.holds Try.pinned (OpenSpec.upto seedPairsSpec)

/-- 'dibberlaw09.SeedTakes', WHERE WHAT IT READS IS OF BULK AT MOST 1048576: true; the input reads as it did. -/
def seedTakesUptoRow : OpenClaim := { program := "ytobmcofkcfifkaa", sum := "0906cfe53d7b9cf408539807ece2c69a5a7c7955904a41b02f901026026f2964", func := "dibber/dibberlaw09.SeedTakes", spec := "seedTakes", inPlace := ["internal/bytealg.MakeNoZero"], unfollowed := true, recurses := true, apart := false, narrowed := true }
def SeedTakesUptoSaid : Prop := seedTakesUptoRow.holds Try.pinned (OpenSpec.upto seedTakesSpec)

/-- 'dibberlaw09.SeedArrays', WHERE WHAT IT READS IS OF BULK AT MOST 1048576: true; the input reads as it did. -/
def seedArraysUptoRow : OpenClaim := { program := "ytobmcofkcfifkaa", sum := "0906cfe53d7b9cf408539807ece2c69a5a7c7955904a41b02f901026026f2964", func := "dibber/dibberlaw09.SeedArrays", spec := "seedArrays", inPlace := ["internal/bytealg.MakeNoZero"], unfollowed := true, recurses := true, apart := false, narrowed := true }
def SeedArraysUptoSaid : Prop := seedArraysUptoRow.holds Try.pinned (OpenSpec.upto seedArraysSpec)

/-- 'dibberlaw09.SeedZeckendorf', WHERE WHAT IT READS IS OF BULK AT MOST 1048576: true; the input reads as it did. -/
def seedZeckendorfUptoRow : OpenClaim := { program := "ytobmcofkcfifkaa", sum := "0906cfe53d7b9cf408539807ece2c69a5a7c7955904a41b02f901026026f2964", func := "dibber/dibberlaw09.SeedZeckendorf", spec := "seedZeckendorf", inPlace := ["internal/bytealg.MakeNoZero"], unfollowed := true, recurses := true, apart := false, narrowed := true }
def SeedZeckendorfUptoSaid : Prop := seedZeckendorfUptoRow.holds Try.pinned (OpenSpec.upto seedZeckendorfSpec)

/-- 'dibberlaw09.SeedTidied', WHERE WHAT IT READS IS OF BULK AT MOST 1048576: true; the input reads as it did. -/
def seedTidiedUptoRow : OpenClaim := { program := "ytobmcofkcfifkaa", sum := "0906cfe53d7b9cf408539807ece2c69a5a7c7955904a41b02f901026026f2964", func := "dibber/dibberlaw09.SeedTidied", spec := "seedTidied", inPlace := ["internal/bytealg.MakeNoZero"], unfollowed := true, recurses := true, apart := false, narrowed := true }
def SeedTidiedUptoSaid : Prop := seedTidiedUptoRow.holds Try.pinned (OpenSpec.upto seedTidiedSpec)

/-- 'dibberlaw09.SeedKnuth', WHERE WHAT IT READS IS OF BULK AT MOST 1048576: true; the input reads as it did. -/
def seedKnuthUptoRow : OpenClaim := { program := "ytobmcofkcfifkaa", sum := "0906cfe53d7b9cf408539807ece2c69a5a7c7955904a41b02f901026026f2964", func := "dibber/dibberlaw09.SeedKnuth", spec := "seedKnuth", inPlace := ["internal/bytealg.MakeNoZero"], unfollowed := true, recurses := true, apart := false, narrowed := true }
def SeedKnuthUptoSaid : Prop := seedKnuthUptoRow.holds Try.pinned (OpenSpec.upto seedKnuthSpec)

/-- 'dibberlaw09.SeedWythoff', WHERE WHAT IT READS IS OF BULK AT MOST 1048576: true; the input reads as it did. -/
def seedWythoffUptoRow : OpenClaim := { program := "ytobmcofkcfifkaa", sum := "0906cfe53d7b9cf408539807ece2c69a5a7c7955904a41b02f901026026f2964", func := "dibber/dibberlaw09.SeedWythoff", spec := "seedWythoff", inPlace := ["internal/bytealg.MakeNoZero"], unfollowed := true, recurses := true, apart := false, narrowed := true }
def SeedWythoffUptoSaid : Prop := seedWythoffUptoRow.holds Try.pinned (OpenSpec.upto seedWythoffSpec)

/-- 'dibberlaw09.SeedWhinihan', WHERE WHAT IT READS IS OF BULK AT MOST 1048576: true; the input reads as it did. -/
def seedWhinihanUptoRow : OpenClaim := { program := "ytobmcofkcfifkaa", sum := "0906cfe53d7b9cf408539807ece2c69a5a7c7955904a41b02f901026026f2964", func := "dibber/dibberlaw09.SeedWhinihan", spec := "seedWhinihan", inPlace := ["internal/bytealg.MakeNoZero"], unfollowed := true, recurses := true, apart := false, narrowed := true }
def SeedWhinihanUptoSaid : Prop := seedWhinihanUptoRow.holds Try.pinned (OpenSpec.upto seedWhinihanSpec)

/-- 'dibberlaw09.SeedArray', WHERE WHAT IT READS IS OF BULK AT MOST 1048576: true; the input reads as it did. -/
def seedArrayUptoRow : OpenClaim := { program := "ytobmcofkcfifkaa", sum := "0906cfe53d7b9cf408539807ece2c69a5a7c7955904a41b02f901026026f2964", func := "dibber/dibberlaw09.SeedArray", spec := "seedArray", inPlace := ["internal/bytealg.MakeNoZero"], unfollowed := true, recurses := true, apart := false, narrowed := true }
def SeedArrayUptoSaid : Prop := seedArrayUptoRow.holds Try.pinned (OpenSpec.upto seedArraySpec)

/-- 'dibberlaw09.SeedLetters', WHERE WHAT IT READS IS OF BULK AT MOST 1048576: true; the input reads as it did. -/
def seedLettersUptoRow : OpenClaim := { program := "ytobmcofkcfifkaa", sum := "0906cfe53d7b9cf408539807ece2c69a5a7c7955904a41b02f901026026f2964", func := "dibber/dibberlaw09.SeedLetters", spec := "seedLetters", inPlace := ["internal/bytealg.MakeNoZero"], unfollowed := true, recurses := true, apart := false, narrowed := true }
def SeedLettersUptoSaid : Prop := seedLettersUptoRow.holds Try.pinned (OpenSpec.upto seedLettersSpec)

/-- 'dibberlaw09.SeedShifts', WHERE WHAT IT READS IS OF BULK AT MOST 1048576: true; the input reads as it did. -/
def seedShiftsUptoRow : OpenClaim := { program := "ytobmcofkcfifkaa", sum := "0906cfe53d7b9cf408539807ece2c69a5a7c7955904a41b02f901026026f2964", func := "dibber/dibberlaw09.SeedShifts", spec := "seedShifts", inPlace := ["internal/bytealg.MakeNoZero"], unfollowed := true, recurses := true, apart := false, narrowed := true }
def SeedShiftsUptoSaid : Prop := seedShiftsUptoRow.holds Try.pinned (OpenSpec.upto seedShiftsSpec)

end Rows
end Go.Proofs.Ytobmcofkcfifkaa
