/-
  No cell of these rows narrows 'for every input' (looked for: loops, veiled, ifaces, maps, wideKeys, modest, calm, conditions, laid).
  DERIVED. THE GIVEN ROWS OF THIS SEAT. 12 by the template 'for every input the law returns true; each argument reads behind the call as it read before'; 0 by the template 'total and deterministic' (their statements: YtgbkicelkpagpaaTotals.lean).
  GIVEN WITH THE SEED: the statements are not yours to turn. If you find one false, say at which input.
  Laid BY PROGRAM, IN A SANDBOX (cutbox-rows.mjs): the forced cells as the released guide's own fill.sh prints them over the translation afc255841e91a4f9… (all of the seat's roots in one cut). By AI agents, Wed Nov 11 2026. No macro, syntax, notation, axiom, sorry.
-/
import Derived.Test.YtgbkicelkpagpaaChecked
import GoSem.Claim
import GoSem.ClaimJoined
import GoSem.ClaimMapViews
import Derived.JoinedTies
import Derived.KernelRfl
namespace Go.Proofs.Ytgbkicelkpagpaa
/- THE CELL 'sum', in the pinned program and in every row, IS THE sha256 OF THE DUMP (.gsa) THAT YtgbkicelkpagpaaProg.lean LOADS. Nothing in Lean hashes anything: it is a label: what it is worth is what the hold of that sum in a sandbox is worth. -/
noncomputable def Try.pinned : Pinned := { name := "ytgbkicelkpagpaa", sum := "afc255841e91a4f926978a95481d1117910d55801db7c51defb7489f8c7f5cf4", checked := Try.checked }
namespace Rows
def none {H : Type} : Left H := { results := [], args := [] }

/-- 'dibberlaw02.WeedGrows': WHATEVER THE INPUT: true; the input reads as it did. -/
def weedGrowsSpec : ChangeSpec := { name := "weedGrows", fn := fun _ => fun
  | [d1, d2, d3] => { results := [.lit (.bool true)], args := [d1, d2, d3] }
  | _ => none }
def weedGrowsRow : OpenClaim := { program := "ytgbkicelkpagpaa", sum := "afc255841e91a4f926978a95481d1117910d55801db7c51defb7489f8c7f5cf4", func := "dibber/dibberlaw02.WeedGrows", spec := "weedGrows", unfollowed := true, recurses := true, apart := false }
def WeedGrowsSaid : Prop := weedGrowsRow.holds Try.pinned (OpenSpec.ofChange weedGrowsSpec)

/-- ITS FALSE NEIGHBOUR: 'it returns false'. Refute it at one input. -/
def weedGrowsWrong : ChangeSpec := { name := "weedGrows", fn := fun _ => fun
  | [d1, d2, d3] => { results := [.lit (.bool false)], args := [d1, d2, d3] }
  | _ => none }
def WeedGrowsWrongFalsely : Prop := weedGrowsRow.holds Try.pinned (OpenSpec.ofChange weedGrowsWrong)

/-- 'dibberlaw02.WeedBacks': WHATEVER THE INPUT: true; the input reads as it did. -/
def weedBacksSpec : ChangeSpec := { name := "weedBacks", fn := fun _ => fun
  | [d1, d2] => { results := [.lit (.bool true)], args := [d1, d2] }
  | _ => none }
def weedBacksRow : OpenClaim := { program := "ytgbkicelkpagpaa", sum := "afc255841e91a4f926978a95481d1117910d55801db7c51defb7489f8c7f5cf4", func := "dibber/dibberlaw02.WeedBacks", spec := "weedBacks", unfollowed := true, recurses := true, apart := false }
def WeedBacksSaid : Prop := weedBacksRow.holds Try.pinned (OpenSpec.ofChange weedBacksSpec)

/-- ITS FALSE NEIGHBOUR: 'it returns false'. Refute it at one input. -/
def weedBacksWrong : ChangeSpec := { name := "weedBacks", fn := fun _ => fun
  | [d1, d2] => { results := [.lit (.bool false)], args := [d1, d2] }
  | _ => none }
def WeedBacksWrongFalsely : Prop := weedBacksRow.holds Try.pinned (OpenSpec.ofChange weedBacksWrong)

/-- 'dibberlaw02.WeedOrphans': WHATEVER THE INPUT: true; the input reads as it did. -/
def weedOrphansSpec : ChangeSpec := { name := "weedOrphans", fn := fun _ => fun
  | [d1, d2] => { results := [.lit (.bool true)], args := [d1, d2] }
  | _ => none }
def weedOrphansRow : OpenClaim := { program := "ytgbkicelkpagpaa", sum := "afc255841e91a4f926978a95481d1117910d55801db7c51defb7489f8c7f5cf4", func := "dibber/dibberlaw02.WeedOrphans", spec := "weedOrphans", unfollowed := true, recurses := true, apart := false }
def WeedOrphansSaid : Prop := weedOrphansRow.holds Try.pinned (OpenSpec.ofChange weedOrphansSpec)

/-- ITS FALSE NEIGHBOUR: 'it returns false'. Refute it at one input. -/
def weedOrphansWrong : ChangeSpec := { name := "weedOrphans", fn := fun _ => fun
  | [d1, d2] => { results := [.lit (.bool false)], args := [d1, d2] }
  | _ => none }
def WeedOrphansWrongFalsely : Prop := weedOrphansRow.holds Try.pinned (OpenSpec.ofChange weedOrphansWrong)

/-- 'dibberlaw02.WeedTwins': WHATEVER THE INPUT: true; the input reads as it did. -/
def weedTwinsSpec : ChangeSpec := { name := "weedTwins", fn := fun _ => fun
  | [d] => { results := [.lit (.bool true)], args := [d] }
  | _ => none }
def weedTwinsRow : OpenClaim := { program := "ytgbkicelkpagpaa", sum := "afc255841e91a4f926978a95481d1117910d55801db7c51defb7489f8c7f5cf4", func := "dibber/dibberlaw02.WeedTwins", spec := "weedTwins", unfollowed := true, recurses := true, apart := false }
def WeedTwinsSaid : Prop := weedTwinsRow.holds Try.pinned (OpenSpec.ofChange weedTwinsSpec)

/-- ITS FALSE NEIGHBOUR: 'it returns false'. Refute it at one input. -/
def weedTwinsWrong : ChangeSpec := { name := "weedTwins", fn := fun _ => fun
  | [d] => { results := [.lit (.bool false)], args := [d] }
  | _ => none }
def WeedTwinsWrongFalsely : Prop := weedTwinsRow.holds Try.pinned (OpenSpec.ofChange weedTwinsWrong)

/-- 'dibberlaw02.WeedSettles': WHATEVER THE INPUT: true; the input reads as it did. -/
def weedSettlesSpec : ChangeSpec := { name := "weedSettles", fn := fun _ => fun
  | [d1, d2] => { results := [.lit (.bool true)], args := [d1, d2] }
  | _ => none }
def weedSettlesRow : OpenClaim := { program := "ytgbkicelkpagpaa", sum := "afc255841e91a4f926978a95481d1117910d55801db7c51defb7489f8c7f5cf4", func := "dibber/dibberlaw02.WeedSettles", spec := "weedSettles", unfollowed := true, recurses := true, apart := false }
def WeedSettlesSaid : Prop := weedSettlesRow.holds Try.pinned (OpenSpec.ofChange weedSettlesSpec)

/-- ITS FALSE NEIGHBOUR: 'it returns false'. Refute it at one input. -/
def weedSettlesWrong : ChangeSpec := { name := "weedSettles", fn := fun _ => fun
  | [d1, d2] => { results := [.lit (.bool false)], args := [d1, d2] }
  | _ => none }
def WeedSettlesWrongFalsely : Prop := weedSettlesRow.holds Try.pinned (OpenSpec.ofChange weedSettlesWrong)

/-- 'dibberlaw02.WeedMirrors': WHATEVER THE INPUT: true; the input reads as it did. -/
def weedMirrorsSpec : ChangeSpec := { name := "weedMirrors", fn := fun _ => fun
  | [d] => { results := [.lit (.bool true)], args := [d] }
  | _ => none }
def weedMirrorsRow : OpenClaim := { program := "ytgbkicelkpagpaa", sum := "afc255841e91a4f926978a95481d1117910d55801db7c51defb7489f8c7f5cf4", func := "dibber/dibberlaw02.WeedMirrors", spec := "weedMirrors", unfollowed := true, recurses := true, apart := false }
def WeedMirrorsSaid : Prop := weedMirrorsRow.holds Try.pinned (OpenSpec.ofChange weedMirrorsSpec)

/-- ITS FALSE NEIGHBOUR: 'it returns false'. Refute it at one input. -/
def weedMirrorsWrong : ChangeSpec := { name := "weedMirrors", fn := fun _ => fun
  | [d] => { results := [.lit (.bool false)], args := [d] }
  | _ => none }
def WeedMirrorsWrongFalsely : Prop := weedMirrorsRow.holds Try.pinned (OpenSpec.ofChange weedMirrorsWrong)

/-- 'dibberlaw02.WeedMoore': WHATEVER THE INPUT: true; the input reads as it did. -/
def weedMooreSpec : ChangeSpec := { name := "weedMoore", fn := fun _ => fun
  | [d] => { results := [.lit (.bool true)], args := [d] }
  | _ => none }
def weedMooreRow : OpenClaim := { program := "ytgbkicelkpagpaa", sum := "afc255841e91a4f926978a95481d1117910d55801db7c51defb7489f8c7f5cf4", func := "dibber/dibberlaw02.WeedMoore", spec := "weedMoore", unfollowed := true, recurses := true, apart := false }
def WeedMooreSaid : Prop := weedMooreRow.holds Try.pinned (OpenSpec.ofChange weedMooreSpec)

/-- ITS FALSE NEIGHBOUR: 'it returns false'. Refute it at one input. -/
def weedMooreWrong : ChangeSpec := { name := "weedMoore", fn := fun _ => fun
  | [d] => { results := [.lit (.bool false)], args := [d] }
  | _ => none }
def WeedMooreWrongFalsely : Prop := weedMooreRow.holds Try.pinned (OpenSpec.ofChange weedMooreWrong)

/-- 'dibberlaw02.WeedBalance': WHATEVER THE INPUT: true; the input reads as it did. -/
def weedBalanceSpec : ChangeSpec := { name := "weedBalance", fn := fun _ => fun
  | [d1, d2] => { results := [.lit (.bool true)], args := [d1, d2] }
  | _ => none }
def weedBalanceRow : OpenClaim := { program := "ytgbkicelkpagpaa", sum := "afc255841e91a4f926978a95481d1117910d55801db7c51defb7489f8c7f5cf4", func := "dibber/dibberlaw02.WeedBalance", spec := "weedBalance", unfollowed := true, recurses := true, apart := false }
def WeedBalanceSaid : Prop := weedBalanceRow.holds Try.pinned (OpenSpec.ofChange weedBalanceSpec)

/-- ITS FALSE NEIGHBOUR: 'it returns false'. Refute it at one input. -/
def weedBalanceWrong : ChangeSpec := { name := "weedBalance", fn := fun _ => fun
  | [d1, d2] => { results := [.lit (.bool false)], args := [d1, d2] }
  | _ => none }
def WeedBalanceWrongFalsely : Prop := weedBalanceRow.holds Try.pinned (OpenSpec.ofChange weedBalanceWrong)

/-- 'dibberlaw02.WeedRings': WHATEVER THE INPUT: true; the input reads as it did. -/
def weedRingsSpec : ChangeSpec := { name := "weedRings", fn := fun _ => fun
  | [d1, d2] => { results := [.lit (.bool true)], args := [d1, d2] }
  | _ => none }
def weedRingsRow : OpenClaim := { program := "ytgbkicelkpagpaa", sum := "afc255841e91a4f926978a95481d1117910d55801db7c51defb7489f8c7f5cf4", func := "dibber/dibberlaw02.WeedRings", spec := "weedRings", unfollowed := true, recurses := true, apart := false }
def WeedRingsSaid : Prop := weedRingsRow.holds Try.pinned (OpenSpec.ofChange weedRingsSpec)

/-- ITS FALSE NEIGHBOUR: 'it returns false'. Refute it at one input. -/
def weedRingsWrong : ChangeSpec := { name := "weedRings", fn := fun _ => fun
  | [d1, d2] => { results := [.lit (.bool false)], args := [d1, d2] }
  | _ => none }
def WeedRingsWrongFalsely : Prop := weedRingsRow.holds Try.pinned (OpenSpec.ofChange weedRingsWrong)

/-- 'dibberlaw02.WeedWays': WHATEVER THE INPUT: true; the input reads as it did. -/
def weedWaysSpec : ChangeSpec := { name := "weedWays", fn := fun _ => fun
  | [d1, d2, d3] => { results := [.lit (.bool true)], args := [d1, d2, d3] }
  | _ => none }
def weedWaysRow : OpenClaim := { program := "ytgbkicelkpagpaa", sum := "afc255841e91a4f926978a95481d1117910d55801db7c51defb7489f8c7f5cf4", func := "dibber/dibberlaw02.WeedWays", spec := "weedWays", unfollowed := true, recurses := true, apart := false }
def WeedWaysSaid : Prop := weedWaysRow.holds Try.pinned (OpenSpec.ofChange weedWaysSpec)

/-- ITS FALSE NEIGHBOUR: 'it returns false'. Refute it at one input. -/
def weedWaysWrong : ChangeSpec := { name := "weedWays", fn := fun _ => fun
  | [d1, d2, d3] => { results := [.lit (.bool false)], args := [d1, d2, d3] }
  | _ => none }
def WeedWaysWrongFalsely : Prop := weedWaysRow.holds Try.pinned (OpenSpec.ofChange weedWaysWrong)

/-- 'dibberlaw02.WeedMirrored': WHATEVER THE INPUT: true; the input reads as it did. -/
def weedMirroredSpec : ChangeSpec := { name := "weedMirrored", fn := fun _ => fun
  | [d1, d2, d3] => { results := [.lit (.bool true)], args := [d1, d2, d3] }
  | _ => none }
def weedMirroredRow : OpenClaim := { program := "ytgbkicelkpagpaa", sum := "afc255841e91a4f926978a95481d1117910d55801db7c51defb7489f8c7f5cf4", func := "dibber/dibberlaw02.WeedMirrored", spec := "weedMirrored", unfollowed := true, recurses := true, apart := false }
def WeedMirroredSaid : Prop := weedMirroredRow.holds Try.pinned (OpenSpec.ofChange weedMirroredSpec)

/-- ITS FALSE NEIGHBOUR: 'it returns false'. Refute it at one input. -/
def weedMirroredWrong : ChangeSpec := { name := "weedMirrored", fn := fun _ => fun
  | [d1, d2, d3] => { results := [.lit (.bool false)], args := [d1, d2, d3] }
  | _ => none }
def WeedMirroredWrongFalsely : Prop := weedMirroredRow.holds Try.pinned (OpenSpec.ofChange weedMirroredWrong)

/-- 'dibberlaw02.WeedAdds': WHATEVER THE INPUT: true; the input reads as it did. -/
def weedAddsSpec : ChangeSpec := { name := "weedAdds", fn := fun _ => fun
  | [d1, d2, d3] => { results := [.lit (.bool true)], args := [d1, d2, d3] }
  | _ => none }
def weedAddsRow : OpenClaim := { program := "ytgbkicelkpagpaa", sum := "afc255841e91a4f926978a95481d1117910d55801db7c51defb7489f8c7f5cf4", func := "dibber/dibberlaw02.WeedAdds", spec := "weedAdds", unfollowed := true, recurses := true, apart := false }
def WeedAddsSaid : Prop := weedAddsRow.holds Try.pinned (OpenSpec.ofChange weedAddsSpec)

/-- ITS FALSE NEIGHBOUR: 'it returns false'. Refute it at one input. -/
def weedAddsWrong : ChangeSpec := { name := "weedAdds", fn := fun _ => fun
  | [d1, d2, d3] => { results := [.lit (.bool false)], args := [d1, d2, d3] }
  | _ => none }
def WeedAddsWrongFalsely : Prop := weedAddsRow.holds Try.pinned (OpenSpec.ofChange weedAddsWrong)

/- THE SECOND FORM. 'bulk': how many values and letters a reading holds, each counted each time it is reached (what is shared counts as often as it is met; a slice's spare places count too). A statement '..UptoSaid' is the law's where the arguments, and the package variables that the reading takes, are together of bulk at most 1048576: NARROWER than '..Said'. Prove '..Said' where nothing that the law and all that it calls make is longer than what came in: it says more and counts as full. Else prove '..UptoSaid'. A law counts once. -/
mutual
def uptoBulk {H : Type} : DataW H → Nat
  | .lit (.string bytes) => bytes.length + 1
  | .lit _ => 1
  | .nil => 1
  | .ptr d => uptoBulk d + 1
  | .slice elems spare => uptoBulkAll elems + uptoBulkAll spare + 1
  | .agg parts => uptoBulkAll parts + 1
  | .iface _ d => uptoBulk d + 1
  | .map entries => uptoBulkEntries entries + 1
  | .held _ => 1
def uptoBulkAll {H : Type} : List (DataW H) → Nat
  | [] => 0
  | d :: r => uptoBulk d + uptoBulkAll r
def uptoBulkEntries {H : Type} : List (Lit × DataW H) → Nat
  | [] => 0
  | x :: r => uptoBulkEntry x + uptoBulkEntries r
def uptoBulkEntry {H : Type} : Lit × DataW H → Nat
  | (.string bytes, d) => bytes.length + uptoBulk d + 1
  | (_, d) => uptoBulk d + 1
 end
def uptoSmall : (H : Type) → List (DataW H) → Bool := fun _ ds => decide (uptoBulkAll ds ≤ 1048576)
def OpenSpec.upto (s : _root_.Go.ChangeSpec) : _root_.Go.OpenSpec := { _root_.Go.OpenSpec.ofChange s with cond := some uptoSmall }

/-- 'dibberlaw02.WeedGrows', WHERE WHAT IT READS IS OF BULK AT MOST 1048576: true; the input reads as it did. -/
def weedGrowsUptoRow : OpenClaim := { program := "ytgbkicelkpagpaa", sum := "afc255841e91a4f926978a95481d1117910d55801db7c51defb7489f8c7f5cf4", func := "dibber/dibberlaw02.WeedGrows", spec := "weedGrows", unfollowed := true, recurses := true, apart := false, narrowed := true }
def WeedGrowsUptoSaid : Prop := weedGrowsUptoRow.holds Try.pinned (OpenSpec.upto weedGrowsSpec)

/-- 'dibberlaw02.WeedBacks', WHERE WHAT IT READS IS OF BULK AT MOST 1048576: true; the input reads as it did. -/
def weedBacksUptoRow : OpenClaim := { program := "ytgbkicelkpagpaa", sum := "afc255841e91a4f926978a95481d1117910d55801db7c51defb7489f8c7f5cf4", func := "dibber/dibberlaw02.WeedBacks", spec := "weedBacks", unfollowed := true, recurses := true, apart := false, narrowed := true }
def WeedBacksUptoSaid : Prop := weedBacksUptoRow.holds Try.pinned (OpenSpec.upto weedBacksSpec)

/-- 'dibberlaw02.WeedOrphans', WHERE WHAT IT READS IS OF BULK AT MOST 1048576: true; the input reads as it did. -/
def weedOrphansUptoRow : OpenClaim := { program := "ytgbkicelkpagpaa", sum := "afc255841e91a4f926978a95481d1117910d55801db7c51defb7489f8c7f5cf4", func := "dibber/dibberlaw02.WeedOrphans", spec := "weedOrphans", unfollowed := true, recurses := true, apart := false, narrowed := true }
def WeedOrphansUptoSaid : Prop := weedOrphansUptoRow.holds Try.pinned (OpenSpec.upto weedOrphansSpec)

/-- 'dibberlaw02.WeedTwins', WHERE WHAT IT READS IS OF BULK AT MOST 1048576: true; the input reads as it did. -/
def weedTwinsUptoRow : OpenClaim := { program := "ytgbkicelkpagpaa", sum := "afc255841e91a4f926978a95481d1117910d55801db7c51defb7489f8c7f5cf4", func := "dibber/dibberlaw02.WeedTwins", spec := "weedTwins", unfollowed := true, recurses := true, apart := false, narrowed := true }
def WeedTwinsUptoSaid : Prop := weedTwinsUptoRow.holds Try.pinned (OpenSpec.upto weedTwinsSpec)

/-- 'dibberlaw02.WeedSettles', WHERE WHAT IT READS IS OF BULK AT MOST 1048576: true; the input reads as it did. -/
def weedSettlesUptoRow : OpenClaim := { program := "ytgbkicelkpagpaa", sum := "afc255841e91a4f926978a95481d1117910d55801db7c51defb7489f8c7f5cf4", func := "dibber/dibberlaw02.WeedSettles", spec := "weedSettles", unfollowed := true, recurses := true, apart := false, narrowed := true }
def WeedSettlesUptoSaid : Prop := weedSettlesUptoRow.holds Try.pinned (OpenSpec.upto weedSettlesSpec)

/-- 'dibberlaw02.WeedMirrors', WHERE WHAT IT READS IS OF BULK AT MOST 1048576: true; the input reads as it did. -/
def weedMirrorsUptoRow : OpenClaim := { program := "ytgbkicelkpagpaa", sum := "afc255841e91a4f926978a95481d1117910d55801db7c51defb7489f8c7f5cf4", func := "dibber/dibberlaw02.WeedMirrors", spec := "weedMirrors", unfollowed := true, recurses := true, apart := false, narrowed := true }
def WeedMirrorsUptoSaid : Prop := weedMirrorsUptoRow.holds Try.pinned (OpenSpec.upto weedMirrorsSpec)

/-- 'dibberlaw02.WeedMoore', WHERE WHAT IT READS IS OF BULK AT MOST 1048576: true; the input reads as it did. -/
def weedMooreUptoRow : OpenClaim := { program := "ytgbkicelkpagpaa", sum := "afc255841e91a4f926978a95481d1117910d55801db7c51defb7489f8c7f5cf4", func := "dibber/dibberlaw02.WeedMoore", spec := "weedMoore", unfollowed := true, recurses := true, apart := false, narrowed := true }
def WeedMooreUptoSaid : Prop := weedMooreUptoRow.holds Try.pinned (OpenSpec.upto weedMooreSpec)

/-- 'dibberlaw02.WeedBalance', WHERE WHAT IT READS IS OF BULK AT MOST 1048576: true; the input reads as it did. -/
def weedBalanceUptoRow : OpenClaim := { program := "ytgbkicelkpagpaa", sum := "afc255841e91a4f926978a95481d1117910d55801db7c51defb7489f8c7f5cf4", func := "dibber/dibberlaw02.WeedBalance", spec := "weedBalance", unfollowed := true, recurses := true, apart := false, narrowed := true }
def WeedBalanceUptoSaid : Prop := weedBalanceUptoRow.holds Try.pinned (OpenSpec.upto weedBalanceSpec)

/-- 'dibberlaw02.WeedRings', WHERE WHAT IT READS IS OF BULK AT MOST 1048576: true; the input reads as it did. -/
def weedRingsUptoRow : OpenClaim := { program := "ytgbkicelkpagpaa", sum := "afc255841e91a4f926978a95481d1117910d55801db7c51defb7489f8c7f5cf4", func := "dibber/dibberlaw02.WeedRings", spec := "weedRings", unfollowed := true, recurses := true, apart := false, narrowed := true }
def WeedRingsUptoSaid : Prop := weedRingsUptoRow.holds Try.pinned (OpenSpec.upto weedRingsSpec)

/-- 'dibberlaw02.WeedWays', WHERE WHAT IT READS IS OF BULK AT MOST 1048576: true; the input reads as it did. -/
def weedWaysUptoRow : OpenClaim := { program := "ytgbkicelkpagpaa", sum := "afc255841e91a4f926978a95481d1117910d55801db7c51defb7489f8c7f5cf4", func := "dibber/dibberlaw02.WeedWays", spec := "weedWays", unfollowed := true, recurses := true, apart := false, narrowed := true }
def WeedWaysUptoSaid : Prop := weedWaysUptoRow.holds Try.pinned (OpenSpec.upto weedWaysSpec)

/-- 'dibberlaw02.WeedMirrored', WHERE WHAT IT READS IS OF BULK AT MOST 1048576: true; the input reads as it did. -/
def weedMirroredUptoRow : OpenClaim := { program := "ytgbkicelkpagpaa", sum := "afc255841e91a4f926978a95481d1117910d55801db7c51defb7489f8c7f5cf4", func := "dibber/dibberlaw02.WeedMirrored", spec := "weedMirrored", unfollowed := true, recurses := true, apart := false, narrowed := true }
def WeedMirroredUptoSaid : Prop := weedMirroredUptoRow.holds Try.pinned (OpenSpec.upto weedMirroredSpec)

/-- 'dibberlaw02.WeedAdds', WHERE WHAT IT READS IS OF BULK AT MOST 1048576: true; the input reads as it did. -/
def weedAddsUptoRow : OpenClaim := { program := "ytgbkicelkpagpaa", sum := "afc255841e91a4f926978a95481d1117910d55801db7c51defb7489f8c7f5cf4", func := "dibber/dibberlaw02.WeedAdds", spec := "weedAdds", unfollowed := true, recurses := true, apart := false, narrowed := true }
def WeedAddsUptoSaid : Prop := weedAddsUptoRow.holds Try.pinned (OpenSpec.upto weedAddsSpec)

end Rows
end Go.Proofs.Ytgbkicelkpagpaa
