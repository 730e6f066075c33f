/-
  No cell of these rows narrows 'for every input' (looked for: loops, veiled, ifaces, maps, wideKeys, modest, calm, conditions, laid).
  DERIVED. THE GIVEN ROWS OF THIS SEAT. 12 by the template 'for every input the law returns true; each argument reads behind the call as it read before'; 0 by the template 'total and deterministic' (their statements: YtfohppnelbbepaaTotals.lean).
  GIVEN WITH THE SEED: the statements are not yours to turn. If you find one false, say at which input.
  Laid BY PROGRAM, IN A SANDBOX (cutbox-rows.mjs): the forced cells as the released guide's own fill.sh prints them over the translation 4379d964b94095ff… (all of the seat's roots in one cut). By AI agents, Wed Nov 11 2026. No macro, syntax, notation, axiom, sorry.
-/
import Derived.Test.YtfohppnelbbepaaChecked
import GoSem.Claim
import GoSem.ClaimJoined
import GoSem.ClaimMapViews
import Derived.JoinedTies
import Derived.KernelRfl
namespace Go.Proofs.Ytfohppnelbbepaa
/- THE CELL 'sum', in the pinned program and in every row, IS THE sha256 OF THE DUMP (.gsa) THAT YtfohppnelbbepaaProg.lean LOADS. Nothing in Lean hashes anything: it is a label: what it is worth is what the hold of that sum in a sandbox is worth. -/
noncomputable def Try.pinned : Pinned := { name := "ytfohppnelbbepaa", sum := "4379d964b94095ff1340930b2ab20aef2574960f090d03fe66eb463d0f5b0fc2", checked := Try.checked }
namespace Rows
def none {H : Type} : Left H := { results := [], args := [] }

/-- 'dibberlaw03.VineGrows': WHATEVER THE INPUT: true; the input reads as it did. -/
def vineGrowsSpec : ChangeSpec := { name := "vineGrows", fn := fun _ => fun
  | [d1, d2, d3] => { results := [.lit (.bool true)], args := [d1, d2, d3] }
  | _ => none }
def vineGrowsRow : OpenClaim := { program := "ytfohppnelbbepaa", sum := "4379d964b94095ff1340930b2ab20aef2574960f090d03fe66eb463d0f5b0fc2", func := "dibber/dibberlaw03.VineGrows", spec := "vineGrows", inPlace := ["internal/bytealg.CountString", "internal/bytealg.IndexByteString", "internal/bytealg.IndexString"], unfollowed := true, recurses := true, named := ["internal/bytealg.MaxLen"], apart := false }
def VineGrowsSaid : Prop := vineGrowsRow.holds Try.pinned (OpenSpec.ofChange vineGrowsSpec)

/-- ITS FALSE NEIGHBOUR: 'it returns false'. Refute it at one input. -/
def vineGrowsWrong : ChangeSpec := { name := "vineGrows", fn := fun _ => fun
  | [d1, d2, d3] => { results := [.lit (.bool false)], args := [d1, d2, d3] }
  | _ => none }
def VineGrowsWrongFalsely : Prop := vineGrowsRow.holds Try.pinned (OpenSpec.ofChange vineGrowsWrong)

/-- 'dibberlaw03.VineAt': WHATEVER THE INPUT: true; the input reads as it did. -/
def vineAtSpec : ChangeSpec := { name := "vineAt", fn := fun _ => fun
  | [d1, d2, d3, d4] => { results := [.lit (.bool true)], args := [d1, d2, d3, d4] }
  | _ => none }
def vineAtRow : OpenClaim := { program := "ytfohppnelbbepaa", sum := "4379d964b94095ff1340930b2ab20aef2574960f090d03fe66eb463d0f5b0fc2", func := "dibber/dibberlaw03.VineAt", spec := "vineAt", inPlace := ["internal/bytealg.CountString", "internal/bytealg.IndexByteString", "internal/bytealg.IndexString"], unfollowed := true, recurses := true, named := ["internal/bytealg.MaxLen"], apart := false }
def VineAtSaid : Prop := vineAtRow.holds Try.pinned (OpenSpec.ofChange vineAtSpec)

/-- ITS FALSE NEIGHBOUR: 'it returns false'. Refute it at one input. -/
def vineAtWrong : ChangeSpec := { name := "vineAt", fn := fun _ => fun
  | [d1, d2, d3, d4] => { results := [.lit (.bool false)], args := [d1, d2, d3, d4] }
  | _ => none }
def VineAtWrongFalsely : Prop := vineAtRow.holds Try.pinned (OpenSpec.ofChange vineAtWrong)

/-- 'dibberlaw03.VineKinds': WHATEVER THE INPUT: true; the input reads as it did. -/
def vineKindsSpec : ChangeSpec := { name := "vineKinds", fn := fun _ => fun
  | [d1, d2] => { results := [.lit (.bool true)], args := [d1, d2] }
  | _ => none }
def vineKindsRow : OpenClaim := { program := "ytfohppnelbbepaa", sum := "4379d964b94095ff1340930b2ab20aef2574960f090d03fe66eb463d0f5b0fc2", func := "dibber/dibberlaw03.VineKinds", spec := "vineKinds", inPlace := ["internal/bytealg.CountString", "internal/bytealg.IndexByteString", "internal/bytealg.IndexString"], unfollowed := true, recurses := true, named := ["internal/bytealg.MaxLen"], apart := false }
def VineKindsSaid : Prop := vineKindsRow.holds Try.pinned (OpenSpec.ofChange vineKindsSpec)

/-- ITS FALSE NEIGHBOUR: 'it returns false'. Refute it at one input. -/
def vineKindsWrong : ChangeSpec := { name := "vineKinds", fn := fun _ => fun
  | [d1, d2] => { results := [.lit (.bool false)], args := [d1, d2] }
  | _ => none }
def VineKindsWrongFalsely : Prop := vineKindsRow.holds Try.pinned (OpenSpec.ofChange vineKindsWrong)

/-- 'dibberlaw03.VineSame': WHATEVER THE INPUT: true; the input reads as it did. -/
def vineSameSpec : ChangeSpec := { name := "vineSame", fn := fun _ => fun
  | [d1, d2, d3, d4] => { results := [.lit (.bool true)], args := [d1, d2, d3, d4] }
  | _ => none }
def vineSameRow : OpenClaim := { program := "ytfohppnelbbepaa", sum := "4379d964b94095ff1340930b2ab20aef2574960f090d03fe66eb463d0f5b0fc2", func := "dibber/dibberlaw03.VineSame", spec := "vineSame", inPlace := ["internal/bytealg.CountString", "internal/bytealg.IndexByteString", "internal/bytealg.IndexString"], unfollowed := true, recurses := true, named := ["internal/bytealg.MaxLen"], apart := false }
def VineSameSaid : Prop := vineSameRow.holds Try.pinned (OpenSpec.ofChange vineSameSpec)

/-- ITS FALSE NEIGHBOUR: 'it returns false'. Refute it at one input. -/
def vineSameWrong : ChangeSpec := { name := "vineSame", fn := fun _ => fun
  | [d1, d2, d3, d4] => { results := [.lit (.bool false)], args := [d1, d2, d3, d4] }
  | _ => none }
def VineSameWrongFalsely : Prop := vineSameRow.holds Try.pinned (OpenSpec.ofChange vineSameWrong)

/-- 'dibberlaw03.VineEndless': WHATEVER THE INPUT: true; the input reads as it did. -/
def vineEndlessSpec : ChangeSpec := { name := "vineEndless", fn := fun _ => fun
  | [d1, d2, d3] => { results := [.lit (.bool true)], args := [d1, d2, d3] }
  | _ => none }
def vineEndlessRow : OpenClaim := { program := "ytfohppnelbbepaa", sum := "4379d964b94095ff1340930b2ab20aef2574960f090d03fe66eb463d0f5b0fc2", func := "dibber/dibberlaw03.VineEndless", spec := "vineEndless", inPlace := ["internal/bytealg.CountString", "internal/bytealg.IndexByteString", "internal/bytealg.IndexString"], unfollowed := true, recurses := true, named := ["internal/bytealg.MaxLen"], apart := false }
def VineEndlessSaid : Prop := vineEndlessRow.holds Try.pinned (OpenSpec.ofChange vineEndlessSpec)

/-- ITS FALSE NEIGHBOUR: 'it returns false'. Refute it at one input. -/
def vineEndlessWrong : ChangeSpec := { name := "vineEndless", fn := fun _ => fun
  | [d1, d2, d3] => { results := [.lit (.bool false)], args := [d1, d2, d3] }
  | _ => none }
def VineEndlessWrongFalsely : Prop := vineEndlessRow.holds Try.pinned (OpenSpec.ofChange vineEndlessWrong)

/-- 'dibberlaw03.VineFactors': WHATEVER THE INPUT: true; the input reads as it did. -/
def vineFactorsSpec : ChangeSpec := { name := "vineFactors", fn := fun _ => fun
  | [d1, d2, d3] => { results := [.lit (.bool true)], args := [d1, d2, d3] }
  | _ => none }
def vineFactorsRow : OpenClaim := { program := "ytfohppnelbbepaa", sum := "4379d964b94095ff1340930b2ab20aef2574960f090d03fe66eb463d0f5b0fc2", func := "dibber/dibberlaw03.VineFactors", spec := "vineFactors", inPlace := ["internal/bytealg.CountString", "internal/bytealg.IndexByteString", "internal/bytealg.IndexString"], unfollowed := true, recurses := true, named := ["internal/bytealg.MaxLen"], apart := false }
def VineFactorsSaid : Prop := vineFactorsRow.holds Try.pinned (OpenSpec.ofChange vineFactorsSpec)

/-- ITS FALSE NEIGHBOUR: 'it returns false'. Refute it at one input. -/
def vineFactorsWrong : ChangeSpec := { name := "vineFactors", fn := fun _ => fun
  | [d1, d2, d3] => { results := [.lit (.bool false)], args := [d1, d2, d3] }
  | _ => none }
def VineFactorsWrongFalsely : Prop := vineFactorsRow.holds Try.pinned (OpenSpec.ofChange vineFactorsWrong)

/-- 'dibberlaw03.VineRecurs': WHATEVER THE INPUT: true; the input reads as it did. -/
def vineRecursSpec : ChangeSpec := { name := "vineRecurs", fn := fun _ => fun
  | [d1, d2] => { results := [.lit (.bool true)], args := [d1, d2] }
  | _ => none }
def vineRecursRow : OpenClaim := { program := "ytfohppnelbbepaa", sum := "4379d964b94095ff1340930b2ab20aef2574960f090d03fe66eb463d0f5b0fc2", func := "dibber/dibberlaw03.VineRecurs", spec := "vineRecurs", inPlace := ["internal/bytealg.CountString", "internal/bytealg.IndexByteString", "internal/bytealg.IndexString"], unfollowed := true, recurses := true, named := ["internal/bytealg.MaxLen"], apart := false }
def VineRecursSaid : Prop := vineRecursRow.holds Try.pinned (OpenSpec.ofChange vineRecursSpec)

/-- ITS FALSE NEIGHBOUR: 'it returns false'. Refute it at one input. -/
def vineRecursWrong : ChangeSpec := { name := "vineRecurs", fn := fun _ => fun
  | [d1, d2] => { results := [.lit (.bool false)], args := [d1, d2] }
  | _ => none }
def VineRecursWrongFalsely : Prop := vineRecursRow.holds Try.pinned (OpenSpec.ofChange vineRecursWrong)

/-- 'dibberlaw03.VineAdds': WHATEVER THE INPUT: true; the input reads as it did. -/
def vineAddsSpec : ChangeSpec := { name := "vineAdds", fn := fun _ => fun
  | [d1, d2, d3, d4, d5] => { results := [.lit (.bool true)], args := [d1, d2, d3, d4, d5] }
  | _ => none }
def vineAddsRow : OpenClaim := { program := "ytfohppnelbbepaa", sum := "4379d964b94095ff1340930b2ab20aef2574960f090d03fe66eb463d0f5b0fc2", func := "dibber/dibberlaw03.VineAdds", spec := "vineAdds", inPlace := ["internal/bytealg.CountString", "internal/bytealg.IndexByteString", "internal/bytealg.IndexString"], unfollowed := true, recurses := true, named := ["internal/bytealg.MaxLen"], apart := false }
def VineAddsSaid : Prop := vineAddsRow.holds Try.pinned (OpenSpec.ofChange vineAddsSpec)

/-- ITS FALSE NEIGHBOUR: 'it returns false'. Refute it at one input. -/
def vineAddsWrong : ChangeSpec := { name := "vineAdds", fn := fun _ => fun
  | [d1, d2, d3, d4, d5] => { results := [.lit (.bool false)], args := [d1, d2, d3, d4, d5] }
  | _ => none }
def VineAddsWrongFalsely : Prop := vineAddsRow.holds Try.pinned (OpenSpec.ofChange vineAddsWrong)

/-- 'dibberlaw03.VineRepeats': WHATEVER THE INPUT: true; the input reads as it did. -/
def vineRepeatsSpec : ChangeSpec := { name := "vineRepeats", fn := fun _ => fun
  | [d1, d2, d3, d4] => { results := [.lit (.bool true)], args := [d1, d2, d3, d4] }
  | _ => none }
def vineRepeatsRow : OpenClaim := { program := "ytfohppnelbbepaa", sum := "4379d964b94095ff1340930b2ab20aef2574960f090d03fe66eb463d0f5b0fc2", func := "dibber/dibberlaw03.VineRepeats", spec := "vineRepeats", inPlace := ["internal/bytealg.CountString", "internal/bytealg.IndexByteString", "internal/bytealg.IndexString"], unfollowed := true, recurses := true, named := ["internal/bytealg.MaxLen"], apart := false }
def VineRepeatsSaid : Prop := vineRepeatsRow.holds Try.pinned (OpenSpec.ofChange vineRepeatsSpec)

/-- ITS FALSE NEIGHBOUR: 'it returns false'. Refute it at one input. -/
def vineRepeatsWrong : ChangeSpec := { name := "vineRepeats", fn := fun _ => fun
  | [d1, d2, d3, d4] => { results := [.lit (.bool false)], args := [d1, d2, d3, d4] }
  | _ => none }
def VineRepeatsWrongFalsely : Prop := vineRepeatsRow.holds Try.pinned (OpenSpec.ofChange vineRepeatsWrong)

/-- 'dibberlaw03.VineOrders': WHATEVER THE INPUT: true; the input reads as it did. -/
def vineOrdersSpec : ChangeSpec := { name := "vineOrders", fn := fun _ => fun
  | [d1, d2, d3] => { results := [.lit (.bool true)], args := [d1, d2, d3] }
  | _ => none }
def vineOrdersRow : OpenClaim := { program := "ytfohppnelbbepaa", sum := "4379d964b94095ff1340930b2ab20aef2574960f090d03fe66eb463d0f5b0fc2", func := "dibber/dibberlaw03.VineOrders", spec := "vineOrders", inPlace := ["internal/bytealg.CountString", "internal/bytealg.IndexByteString", "internal/bytealg.IndexString"], unfollowed := true, recurses := true, named := ["internal/bytealg.MaxLen"], apart := false }
def VineOrdersSaid : Prop := vineOrdersRow.holds Try.pinned (OpenSpec.ofChange vineOrdersSpec)

/-- ITS FALSE NEIGHBOUR: 'it returns false'. Refute it at one input. -/
def vineOrdersWrong : ChangeSpec := { name := "vineOrders", fn := fun _ => fun
  | [d1, d2, d3] => { results := [.lit (.bool false)], args := [d1, d2, d3] }
  | _ => none }
def VineOrdersWrongFalsely : Prop := vineOrdersRow.holds Try.pinned (OpenSpec.ofChange vineOrdersWrong)

/-- 'dibberlaw03.VineBuds': WHATEVER THE INPUT: true; the input reads as it did. -/
def vineBudsSpec : ChangeSpec := { name := "vineBuds", fn := fun _ => fun
  | [d1, d2, d3, d4, d5] => { results := [.lit (.bool true)], args := [d1, d2, d3, d4, d5] }
  | _ => none }
def vineBudsRow : OpenClaim := { program := "ytfohppnelbbepaa", sum := "4379d964b94095ff1340930b2ab20aef2574960f090d03fe66eb463d0f5b0fc2", func := "dibber/dibberlaw03.VineBuds", spec := "vineBuds", inPlace := ["internal/bytealg.CountString", "internal/bytealg.IndexByteString", "internal/bytealg.IndexString"], unfollowed := true, recurses := true, named := ["internal/bytealg.MaxLen"], apart := false }
def VineBudsSaid : Prop := vineBudsRow.holds Try.pinned (OpenSpec.ofChange vineBudsSpec)

/-- ITS FALSE NEIGHBOUR: 'it returns false'. Refute it at one input. -/
def vineBudsWrong : ChangeSpec := { name := "vineBuds", fn := fun _ => fun
  | [d1, d2, d3, d4, d5] => { results := [.lit (.bool false)], args := [d1, d2, d3, d4, d5] }
  | _ => none }
def VineBudsWrongFalsely : Prop := vineBudsRow.holds Try.pinned (OpenSpec.ofChange vineBudsWrong)

/-- 'dibberlaw03.VineSturm': WHATEVER THE INPUT: true; the input reads as it did. -/
def vineSturmSpec : ChangeSpec := { name := "vineSturm", fn := fun _ => fun
  | [d1, d2] => { results := [.lit (.bool true)], args := [d1, d2] }
  | _ => none }
def vineSturmRow : OpenClaim := { program := "ytfohppnelbbepaa", sum := "4379d964b94095ff1340930b2ab20aef2574960f090d03fe66eb463d0f5b0fc2", func := "dibber/dibberlaw03.VineSturm", spec := "vineSturm", inPlace := ["internal/bytealg.CountString", "internal/bytealg.IndexByteString", "internal/bytealg.IndexString"], unfollowed := true, recurses := true, named := ["internal/bytealg.MaxLen"], apart := false }
def VineSturmSaid : Prop := vineSturmRow.holds Try.pinned (OpenSpec.ofChange vineSturmSpec)

/-- ITS FALSE NEIGHBOUR: 'it returns false'. Refute it at one input. -/
def vineSturmWrong : ChangeSpec := { name := "vineSturm", fn := fun _ => fun
  | [d1, d2] => { results := [.lit (.bool false)], args := [d1, d2] }
  | _ => none }
def VineSturmWrongFalsely : Prop := vineSturmRow.holds Try.pinned (OpenSpec.ofChange vineSturmWrong)

/- THE SECOND FORM. 'bulk': how many values and letters a reading holds, each counted each time it is reached (what is shared counts as often as it is met; a slice's spare places count too). A statement '..UptoSaid' is the law's where the arguments, and the package variables that the reading takes, are together of bulk at most 1048576: NARROWER than '..Said'. Prove '..Said' where nothing that the law and all that it calls make is longer than what came in: it says more and counts as full. Else prove '..UptoSaid'. A law counts once. -/
mutual
def uptoBulk {H : Type} : DataW H → Nat
  | .lit (.string bytes) => bytes.length + 1
  | .lit _ => 1
  | .nil => 1
  | .ptr d => uptoBulk d + 1
  | .slice elems spare => uptoBulkAll elems + uptoBulkAll spare + 1
  | .agg parts => uptoBulkAll parts + 1
  | .iface _ d => uptoBulk d + 1
  | .map entries => uptoBulkEntries entries + 1
  | .held _ => 1
def uptoBulkAll {H : Type} : List (DataW H) → Nat
  | [] => 0
  | d :: r => uptoBulk d + uptoBulkAll r
def uptoBulkEntries {H : Type} : List (Lit × DataW H) → Nat
  | [] => 0
  | x :: r => uptoBulkEntry x + uptoBulkEntries r
def uptoBulkEntry {H : Type} : Lit × DataW H → Nat
  | (.string bytes, d) => bytes.length + uptoBulk d + 1
  | (_, d) => uptoBulk d + 1
 end
def uptoSmall : (H : Type) → List (DataW H) → Bool := fun _ ds => decide (uptoBulkAll ds ≤ 1048576)
def OpenSpec.upto (s : _root_.Go.ChangeSpec) : _root_.Go.OpenSpec := { _root_.Go.OpenSpec.ofChange s with cond := some uptoSmall }

/-- 'dibberlaw03.VineGrows', WHERE WHAT IT READS IS OF BULK AT MOST 1048576: true; the input reads as it did. -/
def vineGrowsUptoRow : OpenClaim := { program := "ytfohppnelbbepaa", sum := "4379d964b94095ff1340930b2ab20aef2574960f090d03fe66eb463d0f5b0fc2", func := "dibber/dibberlaw03.VineGrows", spec := "vineGrows", inPlace := ["internal/bytealg.CountString", "internal/bytealg.IndexByteString", "internal/bytealg.IndexString"], unfollowed := true, recurses := true, named := ["internal/bytealg.MaxLen"], apart := false, narrowed := true }
def VineGrowsUptoSaid : Prop := vineGrowsUptoRow.holds Try.pinned (OpenSpec.upto vineGrowsSpec)

/-- 'dibberlaw03.VineAt', WHERE WHAT IT READS IS OF BULK AT MOST 1048576: true; the input reads as it did. -/
def vineAtUptoRow : OpenClaim := { program := "ytfohppnelbbepaa", sum := "4379d964b94095ff1340930b2ab20aef2574960f090d03fe66eb463d0f5b0fc2", func := "dibber/dibberlaw03.VineAt", spec := "vineAt", inPlace := ["internal/bytealg.CountString", "internal/bytealg.IndexByteString", "internal/bytealg.IndexString"], unfollowed := true, recurses := true, named := ["internal/bytealg.MaxLen"], apart := false, narrowed := true }
def VineAtUptoSaid : Prop := vineAtUptoRow.holds Try.pinned (OpenSpec.upto vineAtSpec)

/-- 'dibberlaw03.VineKinds', WHERE WHAT IT READS IS OF BULK AT MOST 1048576: true; the input reads as it did. -/
def vineKindsUptoRow : OpenClaim := { program := "ytfohppnelbbepaa", sum := "4379d964b94095ff1340930b2ab20aef2574960f090d03fe66eb463d0f5b0fc2", func := "dibber/dibberlaw03.VineKinds", spec := "vineKinds", inPlace := ["internal/bytealg.CountString", "internal/bytealg.IndexByteString", "internal/bytealg.IndexString"], unfollowed := true, recurses := true, named := ["internal/bytealg.MaxLen"], apart := false, narrowed := true }
def VineKindsUptoSaid : Prop := vineKindsUptoRow.holds Try.pinned (OpenSpec.upto vineKindsSpec)

/-- 'dibberlaw03.VineSame', WHERE WHAT IT READS IS OF BULK AT MOST 1048576: true; the input reads as it did. -/
def vineSameUptoRow : OpenClaim := { program := "ytfohppnelbbepaa", sum := "4379d964b94095ff1340930b2ab20aef2574960f090d03fe66eb463d0f5b0fc2", func := "dibber/dibberlaw03.VineSame", spec := "vineSame", inPlace := ["internal/bytealg.CountString", "internal/bytealg.IndexByteString", "internal/bytealg.IndexString"], unfollowed := true, recurses := true, named := ["internal/bytealg.MaxLen"], apart := false, narrowed := true }
def VineSameUptoSaid : Prop := vineSameUptoRow.holds Try.pinned (OpenSpec.upto vineSameSpec)

/-- 'dibberlaw03.VineEndless', WHERE WHAT IT READS IS OF BULK AT MOST 1048576: true; the input reads as it did. -/
def vineEndlessUptoRow : OpenClaim := { program := "ytfohppnelbbepaa", sum := "4379d964b94095ff1340930b2ab20aef2574960f090d03fe66eb463d0f5b0fc2", func := "dibber/dibberlaw03.VineEndless", spec := "vineEndless", inPlace := ["internal/bytealg.CountString", "internal/bytealg.IndexByteString", "internal/bytealg.IndexString"], unfollowed := true, recurses := true, named := ["internal/bytealg.MaxLen"], apart := false, narrowed := true }
def VineEndlessUptoSaid : Prop := vineEndlessUptoRow.holds Try.pinned (OpenSpec.upto vineEndlessSpec)

/-- 'dibberlaw03.VineFactors', WHERE WHAT IT READS IS OF BULK AT MOST 1048576: true; the input reads as it did. -/
def vineFactorsUptoRow : OpenClaim := { program := "ytfohppnelbbepaa", sum := "4379d964b94095ff1340930b2ab20aef2574960f090d03fe66eb463d0f5b0fc2", func := "dibber/dibberlaw03.VineFactors", spec := "vineFactors", inPlace := ["internal/bytealg.CountString", "internal/bytealg.IndexByteString", "internal/bytealg.IndexString"], unfollowed := true, recurses := true, named := ["internal/bytealg.MaxLen"], apart := false, narrowed := true }
def VineFactorsUptoSaid : Prop := vineFactorsUptoRow.holds Try.pinned (OpenSpec.upto vineFactorsSpec)

/-- 'dibberlaw03.VineRecurs', WHERE WHAT IT READS IS OF BULK AT MOST 1048576: true; the input reads as it did. -/
def vineRecursUptoRow : OpenClaim := { program := "ytfohppnelbbepaa", sum := "4379d964b94095ff1340930b2ab20aef2574960f090d03fe66eb463d0f5b0fc2", func := "dibber/dibberlaw03.VineRecurs", spec := "vineRecurs", inPlace := ["internal/bytealg.CountString", "internal/bytealg.IndexByteString", "internal/bytealg.IndexString"], unfollowed := true, recurses := true, named := ["internal/bytealg.MaxLen"], apart := false, narrowed := true }
def VineRecursUptoSaid : Prop := vineRecursUptoRow.holds Try.pinned (OpenSpec.upto vineRecursSpec)

/-- 'dibberlaw03.VineAdds', WHERE WHAT IT READS IS OF BULK AT MOST 1048576: true; the input reads as it did. -/
def vineAddsUptoRow : OpenClaim := { program := "ytfohppnelbbepaa", sum := "4379d964b94095ff1340930b2ab20aef2574960f090d03fe66eb463d0f5b0fc2", func := "dibber/dibberlaw03.VineAdds", spec := "vineAdds", inPlace := ["internal/bytealg.CountString", "internal/bytealg.IndexByteString", "internal/bytealg.IndexString"], unfollowed := true, recurses := true, named := ["internal/bytealg.MaxLen"], apart := false, narrowed := true }
def VineAddsUptoSaid : Prop := vineAddsUptoRow.holds Try.pinned (OpenSpec.upto vineAddsSpec)

/-- 'dibberlaw03.VineRepeats', WHERE WHAT IT READS IS OF BULK AT MOST 1048576: true; the input reads as it did. -/
def vineRepeatsUptoRow : OpenClaim := { program := "ytfohppnelbbepaa", sum := "4379d964b94095ff1340930b2ab20aef2574960f090d03fe66eb463d0f5b0fc2", func := "dibber/dibberlaw03.VineRepeats", spec := "vineRepeats", inPlace := ["internal/bytealg.CountString", "internal/bytealg.IndexByteString", "internal/bytealg.IndexString"], unfollowed := true, recurses := true, named := ["internal/bytealg.MaxLen"], apart := false, narrowed := true }
def VineRepeatsUptoSaid : Prop := vineRepeatsUptoRow.holds Try.pinned (OpenSpec.upto vineRepeatsSpec)

/-- 'dibberlaw03.VineOrders', WHERE WHAT IT READS IS OF BULK AT MOST 1048576: true; the input reads as it did. -/
def vineOrdersUptoRow : OpenClaim := { program := "ytfohppnelbbepaa", sum := "4379d964b94095ff1340930b2ab20aef2574960f090d03fe66eb463d0f5b0fc2", func := "dibber/dibberlaw03.VineOrders", spec := "vineOrders", inPlace := ["internal/bytealg.CountString", "internal/bytealg.IndexByteString", "internal/bytealg.IndexString"], unfollowed := true, recurses := true, named := ["internal/bytealg.MaxLen"], apart := false, narrowed := true }
def VineOrdersUptoSaid : Prop := vineOrdersUptoRow.holds Try.pinned (OpenSpec.upto vineOrdersSpec)

/-- 'dibberlaw03.VineBuds', WHERE WHAT IT READS IS OF BULK AT MOST 1048576: true; the input reads as it did. -/
def vineBudsUptoRow : OpenClaim := { program := "ytfohppnelbbepaa", sum := "4379d964b94095ff1340930b2ab20aef2574960f090d03fe66eb463d0f5b0fc2", func := "dibber/dibberlaw03.VineBuds", spec := "vineBuds", inPlace := ["internal/bytealg.CountString", "internal/bytealg.IndexByteString", "internal/bytealg.IndexString"], unfollowed := true, recurses := true, named := ["internal/bytealg.MaxLen"], apart := false, narrowed := true }
def VineBudsUptoSaid : Prop := vineBudsUptoRow.holds Try.pinned (OpenSpec.upto vineBudsSpec)

/-- 'dibberlaw03.VineSturm', WHERE WHAT IT READS IS OF BULK AT MOST 1048576: true; the input reads as it did. -/
def vineSturmUptoRow : OpenClaim := { program := "ytfohppnelbbepaa", sum := "4379d964b94095ff1340930b2ab20aef2574960f090d03fe66eb463d0f5b0fc2", func := "dibber/dibberlaw03.VineSturm", spec := "vineSturm", inPlace := ["internal/bytealg.CountString", "internal/bytealg.IndexByteString", "internal/bytealg.IndexString"], unfollowed := true, recurses := true, named := ["internal/bytealg.MaxLen"], apart := false, narrowed := true }
def VineSturmUptoSaid : Prop := vineSturmUptoRow.holds Try.pinned (OpenSpec.upto vineSturmSpec)

end Rows
end Go.Proofs.Ytfohppnelbbepaa
