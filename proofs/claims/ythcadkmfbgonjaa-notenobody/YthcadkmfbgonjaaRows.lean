/-
  No cell of these rows narrows 'for every input' (looked for: loops, veiled, ifaces, maps, wideKeys, modest, calm, conditions, laid).
  DERIVED. THE GIVEN ROWS OF THIS SEAT. 14 by the template 'for every input the law returns true; each argument reads behind the call as it read before'; 0 by the template 'total and deterministic' (their statements: YthcadkmfbgonjaaTotals.lean).
  GIVEN WITH THE SEED: the statements are not yours to turn. If you find one false, say at which input.
  Laid BY PROGRAM, IN A SANDBOX (cutbox-rows.mjs): the forced cells as the released guide's own fill.sh prints them over the translation dd1a66eebf351335… (all of the seat's roots in one cut). By AI agents, Wed Nov 11 2026. No macro, syntax, notation, axiom, sorry.
-/
import Derived.Test.YthcadkmfbgonjaaChecked
import GoSem.Claim
import GoSem.ClaimJoined
import GoSem.ClaimMapViews
import Derived.JoinedTies
import Derived.KernelRfl
namespace Go.Proofs.Ythcadkmfbgonjaa
/- THE CELL 'sum', in the pinned program and in every row, IS THE sha256 OF THE DUMP (.gsa) THAT YthcadkmfbgonjaaProg.lean LOADS. Nothing in Lean hashes anything: it is a label: what it is worth is what the hold of that sum in a sandbox is worth. -/
noncomputable def Try.pinned : Pinned := { name := "ythcadkmfbgonjaa", sum := "dd1a66eebf3513350bf90a538484f57d153fe170ce0784e83dba9cd7896dbbfd", checked := Try.checked }
namespace Rows
def none {H : Type} : Left H := { results := [], args := [] }

/-- 'dibberlaw07.NoteApplies': WHATEVER THE INPUT: true; the input reads as it did. -/
def noteAppliesSpec : ChangeSpec := { name := "noteApplies", fn := fun _ => fun
  | [d1, d2] => { results := [.lit (.bool true)], args := [d1, d2] }
  | _ => none }
def noteAppliesRow : OpenClaim := { program := "ythcadkmfbgonjaa", sum := "dd1a66eebf3513350bf90a538484f57d153fe170ce0784e83dba9cd7896dbbfd", func := "dibber/dibberlaw07.NoteApplies", spec := "noteApplies", unfollowed := true, recurses := true, apart := false }
def NoteAppliesSaid : Prop := noteAppliesRow.holds Try.pinned (OpenSpec.ofChange noteAppliesSpec)

/-- ITS FALSE NEIGHBOUR: 'it returns false'. Refute it at one input. -/
def noteAppliesWrong : ChangeSpec := { name := "noteApplies", fn := fun _ => fun
  | [d1, d2] => { results := [.lit (.bool false)], args := [d1, d2] }
  | _ => none }
def NoteAppliesWrongFalsely : Prop := noteAppliesRow.holds Try.pinned (OpenSpec.ofChange noteAppliesWrong)

/-- 'dibberlaw07.NoteTurns': WHATEVER THE INPUT: true; the input reads as it did. -/
def noteTurnsSpec : ChangeSpec := { name := "noteTurns", fn := fun _ => fun
  | [d1, d2, d3] => { results := [.lit (.bool true)], args := [d1, d2, d3] }
  | _ => none }
def noteTurnsRow : OpenClaim := { program := "ythcadkmfbgonjaa", sum := "dd1a66eebf3513350bf90a538484f57d153fe170ce0784e83dba9cd7896dbbfd", func := "dibber/dibberlaw07.NoteTurns", spec := "noteTurns", unfollowed := true, recurses := true, apart := false }
def NoteTurnsSaid : Prop := noteTurnsRow.holds Try.pinned (OpenSpec.ofChange noteTurnsSpec)

/-- ITS FALSE NEIGHBOUR: 'it returns false'. Refute it at one input. -/
def noteTurnsWrong : ChangeSpec := { name := "noteTurns", fn := fun _ => fun
  | [d1, d2, d3] => { results := [.lit (.bool false)], args := [d1, d2, d3] }
  | _ => none }
def NoteTurnsWrongFalsely : Prop := noteTurnsRow.holds Try.pinned (OpenSpec.ofChange noteTurnsWrong)

/-- 'dibberlaw07.NoteBoth': WHATEVER THE INPUT: true; the input reads as it did. -/
def noteBothSpec : ChangeSpec := { name := "noteBoth", fn := fun _ => fun
  | [d1, d2] => { results := [.lit (.bool true)], args := [d1, d2] }
  | _ => none }
def noteBothRow : OpenClaim := { program := "ythcadkmfbgonjaa", sum := "dd1a66eebf3513350bf90a538484f57d153fe170ce0784e83dba9cd7896dbbfd", func := "dibber/dibberlaw07.NoteBoth", spec := "noteBoth", unfollowed := true, recurses := true, apart := false }
def NoteBothSaid : Prop := noteBothRow.holds Try.pinned (OpenSpec.ofChange noteBothSpec)

/-- ITS FALSE NEIGHBOUR: 'it returns false'. Refute it at one input. -/
def noteBothWrong : ChangeSpec := { name := "noteBoth", fn := fun _ => fun
  | [d1, d2] => { results := [.lit (.bool false)], args := [d1, d2] }
  | _ => none }
def NoteBothWrongFalsely : Prop := noteBothRow.holds Try.pinned (OpenSpec.ofChange noteBothWrong)

/-- 'dibberlaw07.NoteCrosses': WHATEVER THE INPUT: true; the input reads as it did. -/
def noteCrossesSpec : ChangeSpec := { name := "noteCrosses", fn := fun _ => fun
  | [d1, d2, d3, d4] => { results := [.lit (.bool true)], args := [d1, d2, d3, d4] }
  | _ => none }
def noteCrossesRow : OpenClaim := { program := "ythcadkmfbgonjaa", sum := "dd1a66eebf3513350bf90a538484f57d153fe170ce0784e83dba9cd7896dbbfd", func := "dibber/dibberlaw07.NoteCrosses", spec := "noteCrosses", unfollowed := true, recurses := true, apart := false }
def NoteCrossesSaid : Prop := noteCrossesRow.holds Try.pinned (OpenSpec.ofChange noteCrossesSpec)

/-- ITS FALSE NEIGHBOUR: 'it returns false'. Refute it at one input. -/
def noteCrossesWrong : ChangeSpec := { name := "noteCrosses", fn := fun _ => fun
  | [d1, d2, d3, d4] => { results := [.lit (.bool false)], args := [d1, d2, d3, d4] }
  | _ => none }
def NoteCrossesWrongFalsely : Prop := noteCrossesRow.holds Try.pinned (OpenSpec.ofChange noteCrossesWrong)

/-- 'dibberlaw07.NoteTypes': WHATEVER THE INPUT: true; the input reads as it did. -/
def noteTypesSpec : ChangeSpec := { name := "noteTypes", fn := fun _ => fun
  | [d1, d2, d3, d4] => { results := [.lit (.bool true)], args := [d1, d2, d3, d4] }
  | _ => none }
def noteTypesRow : OpenClaim := { program := "ythcadkmfbgonjaa", sum := "dd1a66eebf3513350bf90a538484f57d153fe170ce0784e83dba9cd7896dbbfd", func := "dibber/dibberlaw07.NoteTypes", spec := "noteTypes", unfollowed := true, recurses := true, apart := false }
def NoteTypesSaid : Prop := noteTypesRow.holds Try.pinned (OpenSpec.ofChange noteTypesSpec)

/-- ITS FALSE NEIGHBOUR: 'it returns false'. Refute it at one input. -/
def noteTypesWrong : ChangeSpec := { name := "noteTypes", fn := fun _ => fun
  | [d1, d2, d3, d4] => { results := [.lit (.bool false)], args := [d1, d2, d3, d4] }
  | _ => none }
def NoteTypesWrongFalsely : Prop := noteTypesRow.holds Try.pinned (OpenSpec.ofChange noteTypesWrong)

/-- 'dibberlaw07.NoteDesks': WHATEVER THE INPUT: true; the input reads as it did. -/
def noteDesksSpec : ChangeSpec := { name := "noteDesks", fn := fun _ => fun
  | [d1, d2] => { results := [.lit (.bool true)], args := [d1, d2] }
  | _ => none }
def noteDesksRow : OpenClaim := { program := "ythcadkmfbgonjaa", sum := "dd1a66eebf3513350bf90a538484f57d153fe170ce0784e83dba9cd7896dbbfd", func := "dibber/dibberlaw07.NoteDesks", spec := "noteDesks", unfollowed := true, recurses := true, apart := false }
def NoteDesksSaid : Prop := noteDesksRow.holds Try.pinned (OpenSpec.ofChange noteDesksSpec)

/-- ITS FALSE NEIGHBOUR: 'it returns false'. Refute it at one input. -/
def noteDesksWrong : ChangeSpec := { name := "noteDesks", fn := fun _ => fun
  | [d1, d2] => { results := [.lit (.bool false)], args := [d1, d2] }
  | _ => none }
def NoteDesksWrongFalsely : Prop := noteDesksRow.holds Try.pinned (OpenSpec.ofChange noteDesksWrong)

/-- 'dibberlaw07.NoteCopies': WHATEVER THE INPUT: true; the input reads as it did. -/
def noteCopiesSpec : ChangeSpec := { name := "noteCopies", fn := fun _ => fun
  | [d1, d2, d3, d4] => { results := [.lit (.bool true)], args := [d1, d2, d3, d4] }
  | _ => none }
def noteCopiesRow : OpenClaim := { program := "ythcadkmfbgonjaa", sum := "dd1a66eebf3513350bf90a538484f57d153fe170ce0784e83dba9cd7896dbbfd", func := "dibber/dibberlaw07.NoteCopies", spec := "noteCopies", unfollowed := true, recurses := true, apart := false }
def NoteCopiesSaid : Prop := noteCopiesRow.holds Try.pinned (OpenSpec.ofChange noteCopiesSpec)

/-- ITS FALSE NEIGHBOUR: 'it returns false'. Refute it at one input. -/
def noteCopiesWrong : ChangeSpec := { name := "noteCopies", fn := fun _ => fun
  | [d1, d2, d3, d4] => { results := [.lit (.bool false)], args := [d1, d2, d3, d4] }
  | _ => none }
def NoteCopiesWrongFalsely : Prop := noteCopiesRow.holds Try.pinned (OpenSpec.ofChange noteCopiesWrong)

/-- 'dibberlaw07.NoteNobody': WHATEVER THE INPUT: true; the input reads as it did. -/
def noteNobodySpec : ChangeSpec := { name := "noteNobody", fn := fun _ => fun
  | [d1, d2, d3] => { results := [.lit (.bool true)], args := [d1, d2, d3] }
  | _ => none }
def noteNobodyRow : OpenClaim := { program := "ythcadkmfbgonjaa", sum := "dd1a66eebf3513350bf90a538484f57d153fe170ce0784e83dba9cd7896dbbfd", func := "dibber/dibberlaw07.NoteNobody", spec := "noteNobody", unfollowed := true, recurses := true, apart := false }
def NoteNobodySaid : Prop := noteNobodyRow.holds Try.pinned (OpenSpec.ofChange noteNobodySpec)

/-- ITS FALSE NEIGHBOUR: 'it returns false'. Refute it at one input. -/
def noteNobodyWrong : ChangeSpec := { name := "noteNobody", fn := fun _ => fun
  | [d1, d2, d3] => { results := [.lit (.bool false)], args := [d1, d2, d3] }
  | _ => none }
def NoteNobodyWrongFalsely : Prop := noteNobodyRow.holds Try.pinned (OpenSpec.ofChange noteNobodyWrong)

/-- 'dibberlaw07.NoteTwo': WHATEVER THE INPUT: true; the input reads as it did. -/
def noteTwoSpec : ChangeSpec := { name := "noteTwo", fn := fun _ => fun
  | [d1, d2, d3] => { results := [.lit (.bool true)], args := [d1, d2, d3] }
  | _ => none }
def noteTwoRow : OpenClaim := { program := "ythcadkmfbgonjaa", sum := "dd1a66eebf3513350bf90a538484f57d153fe170ce0784e83dba9cd7896dbbfd", func := "dibber/dibberlaw07.NoteTwo", spec := "noteTwo", unfollowed := true, recurses := true, apart := false }
def NoteTwoSaid : Prop := noteTwoRow.holds Try.pinned (OpenSpec.ofChange noteTwoSpec)

/-- ITS FALSE NEIGHBOUR: 'it returns false'. Refute it at one input. -/
def noteTwoWrong : ChangeSpec := { name := "noteTwo", fn := fun _ => fun
  | [d1, d2, d3] => { results := [.lit (.bool false)], args := [d1, d2, d3] }
  | _ => none }
def NoteTwoWrongFalsely : Prop := noteTwoRow.holds Try.pinned (OpenSpec.ofChange noteTwoWrong)

/-- 'dibberlaw07.NoteThree': WHATEVER THE INPUT: true; the input reads as it did. -/
def noteThreeSpec : ChangeSpec := { name := "noteThree", fn := fun _ => fun
  | [d1, d2, d3] => { results := [.lit (.bool true)], args := [d1, d2, d3] }
  | _ => none }
def noteThreeRow : OpenClaim := { program := "ythcadkmfbgonjaa", sum := "dd1a66eebf3513350bf90a538484f57d153fe170ce0784e83dba9cd7896dbbfd", func := "dibber/dibberlaw07.NoteThree", spec := "noteThree", unfollowed := true, recurses := true, apart := false }
def NoteThreeSaid : Prop := noteThreeRow.holds Try.pinned (OpenSpec.ofChange noteThreeSpec)

/-- ITS FALSE NEIGHBOUR: 'it returns false'. Refute it at one input. -/
def noteThreeWrong : ChangeSpec := { name := "noteThree", fn := fun _ => fun
  | [d1, d2, d3] => { results := [.lit (.bool false)], args := [d1, d2, d3] }
  | _ => none }
def NoteThreeWrongFalsely : Prop := noteThreeRow.holds Try.pinned (OpenSpec.ofChange noteThreeWrong)

/-- 'dibberlaw07.NoteLists': WHATEVER THE INPUT: true; the input reads as it did. -/
def noteListsSpec : ChangeSpec := { name := "noteLists", fn := fun _ => fun
  | [d1, d2, d3] => { results := [.lit (.bool true)], args := [d1, d2, d3] }
  | _ => none }
def noteListsRow : OpenClaim := { program := "ythcadkmfbgonjaa", sum := "dd1a66eebf3513350bf90a538484f57d153fe170ce0784e83dba9cd7896dbbfd", func := "dibber/dibberlaw07.NoteLists", spec := "noteLists", unfollowed := true, recurses := true, apart := false }
def NoteListsSaid : Prop := noteListsRow.holds Try.pinned (OpenSpec.ofChange noteListsSpec)

/-- ITS FALSE NEIGHBOUR: 'it returns false'. Refute it at one input. -/
def noteListsWrong : ChangeSpec := { name := "noteLists", fn := fun _ => fun
  | [d1, d2, d3] => { results := [.lit (.bool false)], args := [d1, d2, d3] }
  | _ => none }
def NoteListsWrongFalsely : Prop := noteListsRow.holds Try.pinned (OpenSpec.ofChange noteListsWrong)

/-- 'dibberlaw07.NoteSettles': WHATEVER THE INPUT: true; the input reads as it did. -/
def noteSettlesSpec : ChangeSpec := { name := "noteSettles", fn := fun _ => fun
  | [d1, d2] => { results := [.lit (.bool true)], args := [d1, d2] }
  | _ => none }
def noteSettlesRow : OpenClaim := { program := "ythcadkmfbgonjaa", sum := "dd1a66eebf3513350bf90a538484f57d153fe170ce0784e83dba9cd7896dbbfd", func := "dibber/dibberlaw07.NoteSettles", spec := "noteSettles", unfollowed := true, recurses := true, apart := false }
def NoteSettlesSaid : Prop := noteSettlesRow.holds Try.pinned (OpenSpec.ofChange noteSettlesSpec)

/-- ITS FALSE NEIGHBOUR: 'it returns false'. Refute it at one input. -/
def noteSettlesWrong : ChangeSpec := { name := "noteSettles", fn := fun _ => fun
  | [d1, d2] => { results := [.lit (.bool false)], args := [d1, d2] }
  | _ => none }
def NoteSettlesWrongFalsely : Prop := noteSettlesRow.holds Try.pinned (OpenSpec.ofChange noteSettlesWrong)

/-- 'dibberlaw07.NoteWords': WHATEVER THE INPUT: true; the input reads as it did. -/
def noteWordsSpec : ChangeSpec := { name := "noteWords", fn := fun _ => fun
  | [d1, d2, d3, d4, d5, d6] => { results := [.lit (.bool true)], args := [d1, d2, d3, d4, d5, d6] }
  | _ => none }
def noteWordsRow : OpenClaim := { program := "ythcadkmfbgonjaa", sum := "dd1a66eebf3513350bf90a538484f57d153fe170ce0784e83dba9cd7896dbbfd", func := "dibber/dibberlaw07.NoteWords", spec := "noteWords", unfollowed := true, recurses := true, apart := false }
def NoteWordsSaid : Prop := noteWordsRow.holds Try.pinned (OpenSpec.ofChange noteWordsSpec)

/-- ITS FALSE NEIGHBOUR: 'it returns false'. Refute it at one input. -/
def noteWordsWrong : ChangeSpec := { name := "noteWords", fn := fun _ => fun
  | [d1, d2, d3, d4, d5, d6] => { results := [.lit (.bool false)], args := [d1, d2, d3, d4, d5, d6] }
  | _ => none }
def NoteWordsWrongFalsely : Prop := noteWordsRow.holds Try.pinned (OpenSpec.ofChange noteWordsWrong)

/-- 'dibberlaw07.NoteHides': WHATEVER THE INPUT: true; the input reads as it did. -/
def noteHidesSpec : ChangeSpec := { name := "noteHides", fn := fun _ => fun
  | [d1, d2] => { results := [.lit (.bool true)], args := [d1, d2] }
  | _ => none }
def noteHidesRow : OpenClaim := { program := "ythcadkmfbgonjaa", sum := "dd1a66eebf3513350bf90a538484f57d153fe170ce0784e83dba9cd7896dbbfd", func := "dibber/dibberlaw07.NoteHides", spec := "noteHides", unfollowed := true, recurses := true, apart := false }
def NoteHidesSaid : Prop := noteHidesRow.holds Try.pinned (OpenSpec.ofChange noteHidesSpec)

/-- ITS FALSE NEIGHBOUR: 'it returns false'. Refute it at one input. -/
def noteHidesWrong : ChangeSpec := { name := "noteHides", fn := fun _ => fun
  | [d1, d2] => { results := [.lit (.bool false)], args := [d1, d2] }
  | _ => none }
def NoteHidesWrongFalsely : Prop := noteHidesRow.holds Try.pinned (OpenSpec.ofChange noteHidesWrong)

/- THE SECOND FORM. 'bulk': how many values and letters a reading holds, each counted each time it is reached (what is shared counts as often as it is met; a slice's spare places count too). A statement '..UptoSaid' is the law's where the arguments, and the package variables that the reading takes, are together of bulk at most 1048576: NARROWER than '..Said'. Prove '..Said' where nothing that the law and all that it calls make is longer than what came in: it says more and counts as full. Else prove '..UptoSaid'. A law counts once. -/
mutual
def uptoBulk {H : Type} : DataW H → Nat
  | .lit (.string bytes) => bytes.length + 1
  | .lit _ => 1
  | .nil => 1
  | .ptr d => uptoBulk d + 1
  | .slice elems spare => uptoBulkAll elems + uptoBulkAll spare + 1
  | .agg parts => uptoBulkAll parts + 1
  | .iface _ d => uptoBulk d + 1
  | .map entries => uptoBulkEntries entries + 1
  | .held _ => 1
def uptoBulkAll {H : Type} : List (DataW H) → Nat
  | [] => 0
  | d :: r => uptoBulk d + uptoBulkAll r
def uptoBulkEntries {H : Type} : List (Lit × DataW H) → Nat
  | [] => 0
  | x :: r => uptoBulkEntry x + uptoBulkEntries r
def uptoBulkEntry {H : Type} : Lit × DataW H → Nat
  | (.string bytes, d) => bytes.length + uptoBulk d + 1
  | (_, d) => uptoBulk d + 1
 end
def uptoSmall : (H : Type) → List (DataW H) → Bool := fun _ ds => decide (uptoBulkAll ds ≤ 1048576)
def OpenSpec.upto (s : _root_.Go.ChangeSpec) : _root_.Go.OpenSpec := { _root_.Go.OpenSpec.ofChange s with cond := some uptoSmall }

/-- 'dibberlaw07.NoteApplies', WHERE WHAT IT READS IS OF BULK AT MOST 1048576: true; the input reads as it did. -/
def noteAppliesUptoRow : OpenClaim := { program := "ythcadkmfbgonjaa", sum := "dd1a66eebf3513350bf90a538484f57d153fe170ce0784e83dba9cd7896dbbfd", func := "dibber/dibberlaw07.NoteApplies", spec := "noteApplies", unfollowed := true, recurses := true, apart := false, narrowed := true }
def NoteAppliesUptoSaid : Prop := noteAppliesUptoRow.holds Try.pinned (OpenSpec.upto noteAppliesSpec)

/-- 'dibberlaw07.NoteTurns', WHERE WHAT IT READS IS OF BULK AT MOST 1048576: true; the input reads as it did. -/
def noteTurnsUptoRow : OpenClaim := { program := "ythcadkmfbgonjaa", sum := "dd1a66eebf3513350bf90a538484f57d153fe170ce0784e83dba9cd7896dbbfd", func := "dibber/dibberlaw07.NoteTurns", spec := "noteTurns", unfollowed := true, recurses := true, apart := false, narrowed := true }
def NoteTurnsUptoSaid : Prop := noteTurnsUptoRow.holds Try.pinned (OpenSpec.upto noteTurnsSpec)

/-- 'dibberlaw07.NoteBoth', WHERE WHAT IT READS IS OF BULK AT MOST 1048576: true; the input reads as it did. -/
def noteBothUptoRow : OpenClaim := { program := "ythcadkmfbgonjaa", sum := "dd1a66eebf3513350bf90a538484f57d153fe170ce0784e83dba9cd7896dbbfd", func := "dibber/dibberlaw07.NoteBoth", spec := "noteBoth", unfollowed := true, recurses := true, apart := false, narrowed := true }
def NoteBothUptoSaid : Prop := noteBothUptoRow.holds Try.pinned (OpenSpec.upto noteBothSpec)

/-- 'dibberlaw07.NoteCrosses', WHERE WHAT IT READS IS OF BULK AT MOST 1048576: true; the input reads as it did. -/
def noteCrossesUptoRow : OpenClaim := { program := "ythcadkmfbgonjaa", sum := "dd1a66eebf3513350bf90a538484f57d153fe170ce0784e83dba9cd7896dbbfd", func := "dibber/dibberlaw07.NoteCrosses", spec := "noteCrosses", unfollowed := true, recurses := true, apart := false, narrowed := true }
def NoteCrossesUptoSaid : Prop := noteCrossesUptoRow.holds Try.pinned (OpenSpec.upto noteCrossesSpec)

/-- 'dibberlaw07.NoteTypes', WHERE WHAT IT READS IS OF BULK AT MOST 1048576: true; the input reads as it did. -/
def noteTypesUptoRow : OpenClaim := { program := "ythcadkmfbgonjaa", sum := "dd1a66eebf3513350bf90a538484f57d153fe170ce0784e83dba9cd7896dbbfd", func := "dibber/dibberlaw07.NoteTypes", spec := "noteTypes", unfollowed := true, recurses := true, apart := false, narrowed := true }
def NoteTypesUptoSaid : Prop := noteTypesUptoRow.holds Try.pinned (OpenSpec.upto noteTypesSpec)

/-- 'dibberlaw07.NoteDesks', WHERE WHAT IT READS IS OF BULK AT MOST 1048576: true; the input reads as it did. -/
def noteDesksUptoRow : OpenClaim := { program := "ythcadkmfbgonjaa", sum := "dd1a66eebf3513350bf90a538484f57d153fe170ce0784e83dba9cd7896dbbfd", func := "dibber/dibberlaw07.NoteDesks", spec := "noteDesks", unfollowed := true, recurses := true, apart := false, narrowed := true }
def NoteDesksUptoSaid : Prop := noteDesksUptoRow.holds Try.pinned (OpenSpec.upto noteDesksSpec)

/-- 'dibberlaw07.NoteCopies', WHERE WHAT IT READS IS OF BULK AT MOST 1048576: true; the input reads as it did. -/
def noteCopiesUptoRow : OpenClaim := { program := "ythcadkmfbgonjaa", sum := "dd1a66eebf3513350bf90a538484f57d153fe170ce0784e83dba9cd7896dbbfd", func := "dibber/dibberlaw07.NoteCopies", spec := "noteCopies", unfollowed := true, recurses := true, apart := false, narrowed := true }
def NoteCopiesUptoSaid : Prop := noteCopiesUptoRow.holds Try.pinned (OpenSpec.upto noteCopiesSpec)

/-- 'dibberlaw07.NoteNobody', WHERE WHAT IT READS IS OF BULK AT MOST 1048576: true; the input reads as it did. -/
def noteNobodyUptoRow : OpenClaim := { program := "ythcadkmfbgonjaa", sum := "dd1a66eebf3513350bf90a538484f57d153fe170ce0784e83dba9cd7896dbbfd", func := "dibber/dibberlaw07.NoteNobody", spec := "noteNobody", unfollowed := true, recurses := true, apart := false, narrowed := true }
def NoteNobodyUptoSaid : Prop := noteNobodyUptoRow.holds Try.pinned (OpenSpec.upto noteNobodySpec)

/-- 'dibberlaw07.NoteTwo', WHERE WHAT IT READS IS OF BULK AT MOST 1048576: true; the input reads as it did. -/
def noteTwoUptoRow : OpenClaim := { program := "ythcadkmfbgonjaa", sum := "dd1a66eebf3513350bf90a538484f57d153fe170ce0784e83dba9cd7896dbbfd", func := "dibber/dibberlaw07.NoteTwo", spec := "noteTwo", unfollowed := true, recurses := true, apart := false, narrowed := true }
def NoteTwoUptoSaid : Prop := noteTwoUptoRow.holds Try.pinned (OpenSpec.upto noteTwoSpec)

/-- 'dibberlaw07.NoteThree', WHERE WHAT IT READS IS OF BULK AT MOST 1048576: true; the input reads as it did. -/
def noteThreeUptoRow : OpenClaim := { program := "ythcadkmfbgonjaa", sum := "dd1a66eebf3513350bf90a538484f57d153fe170ce0784e83dba9cd7896dbbfd", func := "dibber/dibberlaw07.NoteThree", spec := "noteThree", unfollowed := true, recurses := true, apart := false, narrowed := true }
def NoteThreeUptoSaid : Prop := noteThreeUptoRow.holds Try.pinned (OpenSpec.upto noteThreeSpec)

/-- 'dibberlaw07.NoteLists', WHERE WHAT IT READS IS OF BULK AT MOST 1048576: true; the input reads as it did. -/
def noteListsUptoRow : OpenClaim := { program := "ythcadkmfbgonjaa", sum := "dd1a66eebf3513350bf90a538484f57d153fe170ce0784e83dba9cd7896dbbfd", func := "dibber/dibberlaw07.NoteLists", spec := "noteLists", unfollowed := true, recurses := true, apart := false, narrowed := true }
def NoteListsUptoSaid : Prop := noteListsUptoRow.holds Try.pinned (OpenSpec.upto noteListsSpec)

/-- 'dibberlaw07.NoteSettles', WHERE WHAT IT READS IS OF BULK AT MOST 1048576: true; the input reads as it did. -/
def noteSettlesUptoRow : OpenClaim := { program := "ythcadkmfbgonjaa", sum := "dd1a66eebf3513350bf90a538484f57d153fe170ce0784e83dba9cd7896dbbfd", func := "dibber/dibberlaw07.NoteSettles", spec := "noteSettles", unfollowed := true, recurses := true, apart := false, narrowed := true }
def NoteSettlesUptoSaid : Prop := noteSettlesUptoRow.holds Try.pinned (OpenSpec.upto noteSettlesSpec)

/-- 'dibberlaw07.NoteWords', WHERE WHAT IT READS IS OF BULK AT MOST 1048576: true; the input reads as it did. -/
def noteWordsUptoRow : OpenClaim := { program := "ythcadkmfbgonjaa", sum := "dd1a66eebf3513350bf90a538484f57d153fe170ce0784e83dba9cd7896dbbfd", func := "dibber/dibberlaw07.NoteWords", spec := "noteWords", unfollowed := true, recurses := true, apart := false, narrowed := true }
def NoteWordsUptoSaid : Prop := noteWordsUptoRow.holds Try.pinned (OpenSpec.upto noteWordsSpec)

/-- 'dibberlaw07.NoteHides', WHERE WHAT IT READS IS OF BULK AT MOST 1048576: true; the input reads as it did. -/
def noteHidesUptoRow : OpenClaim := { program := "ythcadkmfbgonjaa", sum := "dd1a66eebf3513350bf90a538484f57d153fe170ce0784e83dba9cd7896dbbfd", func := "dibber/dibberlaw07.NoteHides", spec := "noteHides", unfollowed := true, recurses := true, apart := false, narrowed := true }
def NoteHidesUptoSaid : Prop := noteHidesUptoRow.holds Try.pinned (OpenSpec.upto noteHidesSpec)

end Rows
end Go.Proofs.Ythcadkmfbgonjaa
