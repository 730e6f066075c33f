/-
  DERIVED. GIVEN WITH THE SEED: THE CARDS: each row of YtpjjmdbkgkembaaDoorRows.lean that lists a variable, with what it lists TIED to the program's text (the seventh form; the later family's looks); each row that meets fmt, with fmt's text TOLD by the authors' own Lean function (tested against real Go, not proved from fmt's source: count such statements apart). THE CARD IS WHAT COUNTS. Prove the row's statement (the work); the ties are given (YtpjjmdbkgkembaaDoorTie.lean); close each card by the builder's one call (the guide's Derived/Test/ToyasCard.lean, 'card_holds'). Laid BY PROGRAM, IN A SANDBOX (cutbox-door.mjs). By AI agents, Wed Nov 11 2026. No macro, syntax, notation, axiom, sorry.
-/
import Derived.Test.YtpjjmdbkgkembaaDoorRows
import GoSem.ClaimSeven
namespace Go.Proofs.YtpjjmdbkgkembaaDoor
namespace Rows

/-- THE TIED CARD OF 'dibberlaw04.TurnPlans'. -/
def turnPlansCard : Claim7 := { stood := { row := turnPlansRow, standIns := [], harness := (true, "00253b0f1b8656e2a8b9cb369595e91f6eaf6d3c179b6300cca9defd0d0b2fe0"), looks := false }, kinds := [], alts := [], laidByText := true, laidKinds := [.data], laidTests := true, laidLooks := .later }
def TurnPlansCardSaid : Prop := Claim7.holds Tryd.pinned (.plain (OpenSpec.ofChange turnPlansSpec)) turnPlansCard

/-- THE TIED CARD OF 'dibberlaw04.TurnIs'. -/
def turnIsCard : Claim7 := { stood := { row := turnIsRow, standIns := [], harness := (true, "00253b0f1b8656e2a8b9cb369595e91f6eaf6d3c179b6300cca9defd0d0b2fe0"), looks := false }, kinds := [], alts := [], laidByText := true, laidKinds := [.data], laidTests := true, laidLooks := .later }
def TurnIsCardSaid : Prop := Claim7.holds Tryd.pinned (.plain (OpenSpec.ofChange turnIsSpec)) turnIsCard

/-- THE TIED CARD OF 'dibberlaw04.TurnRefuses'. -/
def turnRefusesCard : Claim7 := { stood := { row := turnRefusesRow, standIns := [], harness := (true, "00253b0f1b8656e2a8b9cb369595e91f6eaf6d3c179b6300cca9defd0d0b2fe0"), looks := false }, kinds := [], alts := [], laidByText := true, laidKinds := [.data], laidTests := true, laidLooks := .later }
def TurnRefusesCardSaid : Prop := Claim7.holds Tryd.pinned (.plain (OpenSpec.ofChange turnRefusesSpec)) turnRefusesCard

/-- THE TIED CARD OF 'dibberlaw04.TurnRings'. -/
def turnRingsCard : Claim7 := { stood := { row := turnRingsRow, standIns := [], harness := (true, "00253b0f1b8656e2a8b9cb369595e91f6eaf6d3c179b6300cca9defd0d0b2fe0"), looks := false }, kinds := [], alts := [], laidByText := true, laidKinds := [.data], laidTests := true, laidLooks := .later }
def TurnRingsCardSaid : Prop := Claim7.holds Tryd.pinned (.plain (OpenSpec.ofChange turnRingsSpec)) turnRingsCard

/-- THE TIED CARD OF 'dibberlaw04.TurnRounds'. -/
def turnRoundsCard : Claim7 := { stood := { row := turnRoundsRow, standIns := [], harness := (true, "00253b0f1b8656e2a8b9cb369595e91f6eaf6d3c179b6300cca9defd0d0b2fe0"), looks := false }, kinds := [], alts := [], laidByText := true, laidKinds := [.data], laidTests := true, laidLooks := .later }
def TurnRoundsCardSaid : Prop := Claim7.holds Tryd.pinned (.plain (OpenSpec.ofChange turnRoundsSpec)) turnRoundsCard

/-- THE TIED CARD OF 'dibberlaw04.TurnMany'. -/
def turnManyCard : Claim7 := { stood := { row := turnManyRow, standIns := [], harness := (true, "00253b0f1b8656e2a8b9cb369595e91f6eaf6d3c179b6300cca9defd0d0b2fe0"), looks := false }, kinds := [], alts := [], laidByText := true, laidKinds := [.data], laidTests := true, laidLooks := .later }
def TurnManyCardSaid : Prop := Claim7.holds Tryd.pinned (.plain (OpenSpec.ofChange turnManySpec)) turnManyCard

/-- THE TIED CARD OF 'dibberlaw04.TurnRefused'. -/
def turnRefusedCard : Claim7 := { stood := { row := turnRefusedRow, standIns := [], harness := (true, "00253b0f1b8656e2a8b9cb369595e91f6eaf6d3c179b6300cca9defd0d0b2fe0"), looks := false }, kinds := [], alts := [], laidByText := true, laidKinds := [.data], laidTests := true, laidLooks := .later }
def TurnRefusedCardSaid : Prop := Claim7.holds Tryd.pinned (.plain (OpenSpec.ofChange turnRefusedSpec)) turnRefusedCard

/-- THE TIED CARD OF 'dibberlaw04.TurnWhole'. -/
def turnWholeCard : Claim7 := { stood := { row := turnWholeRow, standIns := [], harness := (true, "00253b0f1b8656e2a8b9cb369595e91f6eaf6d3c179b6300cca9defd0d0b2fe0"), looks := false }, kinds := [], alts := [], laidByText := true, laidKinds := [.data], laidTests := true, laidLooks := .later }
def TurnWholeCardSaid : Prop := Claim7.holds Tryd.pinned (.plain (OpenSpec.ofChange turnWholeSpec)) turnWholeCard

/-- THE TIED CARD OF 'dibberlaw04.TurnMoved'. -/
def turnMovedCard : Claim7 := { stood := { row := turnMovedRow, standIns := [], harness := (true, "00253b0f1b8656e2a8b9cb369595e91f6eaf6d3c179b6300cca9defd0d0b2fe0"), looks := false }, kinds := [], alts := [], laidByText := true, laidKinds := [.data], laidTests := true, laidLooks := .later }
def TurnMovedCardSaid : Prop := Claim7.holds Tryd.pinned (.plain (OpenSpec.ofChange turnMovedSpec)) turnMovedCard

/-- THE TIED CARD OF 'dibberlaw04.TurnMore'. -/
def turnMoreCard : Claim7 := { stood := { row := turnMoreRow, standIns := [], harness := (true, "00253b0f1b8656e2a8b9cb369595e91f6eaf6d3c179b6300cca9defd0d0b2fe0"), looks := false }, kinds := [], alts := [], laidByText := true, laidKinds := [.data], laidTests := true, laidLooks := .later }
def TurnMoreCardSaid : Prop := Claim7.holds Tryd.pinned (.plain (OpenSpec.ofChange turnMoreSpec)) turnMoreCard

/-- THE TIED CARD OF 'dibberlaw04.TurnTurned'. -/
def turnTurnedCard : Claim7 := { stood := { row := turnTurnedRow, standIns := [], harness := (true, "00253b0f1b8656e2a8b9cb369595e91f6eaf6d3c179b6300cca9defd0d0b2fe0"), looks := false }, kinds := [], alts := [], laidByText := true, laidKinds := [.data], laidTests := true, laidLooks := .later }
def TurnTurnedCardSaid : Prop := Claim7.holds Tryd.pinned (.plain (OpenSpec.ofChange turnTurnedSpec)) turnTurnedCard

/-- THE TIED CARD OF 'dibberlaw04.TurnShort'. -/
def turnShortCard : Claim7 := { stood := { row := turnShortRow, standIns := [], harness := (true, "00253b0f1b8656e2a8b9cb369595e91f6eaf6d3c179b6300cca9defd0d0b2fe0"), looks := false }, kinds := [], alts := [], laidByText := true, laidKinds := [.data], laidTests := true, laidLooks := .later }
def TurnShortCardSaid : Prop := Claim7.holds Tryd.pinned (.plain (OpenSpec.ofChange turnShortSpec)) turnShortCard

/-- THE SECOND FORM's CARD OF 'dibberlaw04.TurnPlans'. -/
def turnPlansUptoCard : Claim7 := { stood := { row := turnPlansUptoRow, standIns := [], harness := (true, "00253b0f1b8656e2a8b9cb369595e91f6eaf6d3c179b6300cca9defd0d0b2fe0"), looks := false }, kinds := [], alts := [], laidByText := true, laidKinds := [.data], laidTests := true, laidLooks := .later }
def TurnPlansUptoCardSaid : Prop := Claim7.holds Tryd.pinned (.plain (OpenSpec.upto turnPlansSpec)) turnPlansUptoCard

/-- THE SECOND FORM's CARD OF 'dibberlaw04.TurnIs'. -/
def turnIsUptoCard : Claim7 := { stood := { row := turnIsUptoRow, standIns := [], harness := (true, "00253b0f1b8656e2a8b9cb369595e91f6eaf6d3c179b6300cca9defd0d0b2fe0"), looks := false }, kinds := [], alts := [], laidByText := true, laidKinds := [.data], laidTests := true, laidLooks := .later }
def TurnIsUptoCardSaid : Prop := Claim7.holds Tryd.pinned (.plain (OpenSpec.upto turnIsSpec)) turnIsUptoCard

/-- THE SECOND FORM's CARD OF 'dibberlaw04.TurnRefuses'. -/
def turnRefusesUptoCard : Claim7 := { stood := { row := turnRefusesUptoRow, standIns := [], harness := (true, "00253b0f1b8656e2a8b9cb369595e91f6eaf6d3c179b6300cca9defd0d0b2fe0"), looks := false }, kinds := [], alts := [], laidByText := true, laidKinds := [.data], laidTests := true, laidLooks := .later }
def TurnRefusesUptoCardSaid : Prop := Claim7.holds Tryd.pinned (.plain (OpenSpec.upto turnRefusesSpec)) turnRefusesUptoCard

/-- THE SECOND FORM's CARD OF 'dibberlaw04.TurnRings'. -/
def turnRingsUptoCard : Claim7 := { stood := { row := turnRingsUptoRow, standIns := [], harness := (true, "00253b0f1b8656e2a8b9cb369595e91f6eaf6d3c179b6300cca9defd0d0b2fe0"), looks := false }, kinds := [], alts := [], laidByText := true, laidKinds := [.data], laidTests := true, laidLooks := .later }
def TurnRingsUptoCardSaid : Prop := Claim7.holds Tryd.pinned (.plain (OpenSpec.upto turnRingsSpec)) turnRingsUptoCard

/-- THE SECOND FORM's CARD OF 'dibberlaw04.TurnRounds'. -/
def turnRoundsUptoCard : Claim7 := { stood := { row := turnRoundsUptoRow, standIns := [], harness := (true, "00253b0f1b8656e2a8b9cb369595e91f6eaf6d3c179b6300cca9defd0d0b2fe0"), looks := false }, kinds := [], alts := [], laidByText := true, laidKinds := [.data], laidTests := true, laidLooks := .later }
def TurnRoundsUptoCardSaid : Prop := Claim7.holds Tryd.pinned (.plain (OpenSpec.upto turnRoundsSpec)) turnRoundsUptoCard

/-- THE SECOND FORM's CARD OF 'dibberlaw04.TurnMany'. -/
def turnManyUptoCard : Claim7 := { stood := { row := turnManyUptoRow, standIns := [], harness := (true, "00253b0f1b8656e2a8b9cb369595e91f6eaf6d3c179b6300cca9defd0d0b2fe0"), looks := false }, kinds := [], alts := [], laidByText := true, laidKinds := [.data], laidTests := true, laidLooks := .later }
def TurnManyUptoCardSaid : Prop := Claim7.holds Tryd.pinned (.plain (OpenSpec.upto turnManySpec)) turnManyUptoCard

/-- THE SECOND FORM's CARD OF 'dibberlaw04.TurnRefused'. -/
def turnRefusedUptoCard : Claim7 := { stood := { row := turnRefusedUptoRow, standIns := [], harness := (true, "00253b0f1b8656e2a8b9cb369595e91f6eaf6d3c179b6300cca9defd0d0b2fe0"), looks := false }, kinds := [], alts := [], laidByText := true, laidKinds := [.data], laidTests := true, laidLooks := .later }
def TurnRefusedUptoCardSaid : Prop := Claim7.holds Tryd.pinned (.plain (OpenSpec.upto turnRefusedSpec)) turnRefusedUptoCard

/-- THE SECOND FORM's CARD OF 'dibberlaw04.TurnWhole'. -/
def turnWholeUptoCard : Claim7 := { stood := { row := turnWholeUptoRow, standIns := [], harness := (true, "00253b0f1b8656e2a8b9cb369595e91f6eaf6d3c179b6300cca9defd0d0b2fe0"), looks := false }, kinds := [], alts := [], laidByText := true, laidKinds := [.data], laidTests := true, laidLooks := .later }
def TurnWholeUptoCardSaid : Prop := Claim7.holds Tryd.pinned (.plain (OpenSpec.upto turnWholeSpec)) turnWholeUptoCard

/-- THE SECOND FORM's CARD OF 'dibberlaw04.TurnMoved'. -/
def turnMovedUptoCard : Claim7 := { stood := { row := turnMovedUptoRow, standIns := [], harness := (true, "00253b0f1b8656e2a8b9cb369595e91f6eaf6d3c179b6300cca9defd0d0b2fe0"), looks := false }, kinds := [], alts := [], laidByText := true, laidKinds := [.data], laidTests := true, laidLooks := .later }
def TurnMovedUptoCardSaid : Prop := Claim7.holds Tryd.pinned (.plain (OpenSpec.upto turnMovedSpec)) turnMovedUptoCard

/-- THE SECOND FORM's CARD OF 'dibberlaw04.TurnMore'. -/
def turnMoreUptoCard : Claim7 := { stood := { row := turnMoreUptoRow, standIns := [], harness := (true, "00253b0f1b8656e2a8b9cb369595e91f6eaf6d3c179b6300cca9defd0d0b2fe0"), looks := false }, kinds := [], alts := [], laidByText := true, laidKinds := [.data], laidTests := true, laidLooks := .later }
def TurnMoreUptoCardSaid : Prop := Claim7.holds Tryd.pinned (.plain (OpenSpec.upto turnMoreSpec)) turnMoreUptoCard

/-- THE SECOND FORM's CARD OF 'dibberlaw04.TurnTurned'. -/
def turnTurnedUptoCard : Claim7 := { stood := { row := turnTurnedUptoRow, standIns := [], harness := (true, "00253b0f1b8656e2a8b9cb369595e91f6eaf6d3c179b6300cca9defd0d0b2fe0"), looks := false }, kinds := [], alts := [], laidByText := true, laidKinds := [.data], laidTests := true, laidLooks := .later }
def TurnTurnedUptoCardSaid : Prop := Claim7.holds Tryd.pinned (.plain (OpenSpec.upto turnTurnedSpec)) turnTurnedUptoCard

/-- THE SECOND FORM's CARD OF 'dibberlaw04.TurnShort'. -/
def turnShortUptoCard : Claim7 := { stood := { row := turnShortUptoRow, standIns := [], harness := (true, "00253b0f1b8656e2a8b9cb369595e91f6eaf6d3c179b6300cca9defd0d0b2fe0"), looks := false }, kinds := [], alts := [], laidByText := true, laidKinds := [.data], laidTests := true, laidLooks := .later }
def TurnShortUptoCardSaid : Prop := Claim7.holds Tryd.pinned (.plain (OpenSpec.upto turnShortSpec)) turnShortUptoCard
end Rows
end Go.Proofs.YtpjjmdbkgkembaaDoor
