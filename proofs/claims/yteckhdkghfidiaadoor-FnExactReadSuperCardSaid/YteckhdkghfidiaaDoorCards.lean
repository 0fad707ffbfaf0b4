/-
  DERIVED. GIVEN WITH THE SEED: THE CARDS: each row of YteckhdkghfidiaaDoorRows.lean that lists a variable, with what it lists TIED to the program's text (the seventh form; the later family's looks); each row that meets fmt, with fmt's text TOLD by the authors' own Lean function (tested against real Go, not proved from fmt's source: count such statements apart). THE CARD IS WHAT COUNTS. Prove the row's statement (the work); the ties are given (YteckhdkghfidiaaDoorTie.lean); close each card by the builder's one call (the guide's Derived/Test/ToyasCard.lean, 'card_holds'). Laid BY PROGRAM, IN A SANDBOX (cutbox-door.mjs). By AI agents, Wed Nov 11 2026. No macro, syntax, notation, axiom, sorry.
-/
import Derived.Test.YteckhdkghfidiaaDoorRows
import GoSem.ClaimSeven
namespace Go.Proofs.YteckhdkghfidiaaDoor
namespace Rows

/-- THE TIED CARD OF 'laws.FnExactSuperText'. -/
def fnExactSuperTextCard : Claim7 := { stood := { row := fnExactSuperTextRow, standIns := [], harness := (true, "129999f5d56db3c5cc7b0e56c465076096cc4371f48bc5d1bc8f78827711638d"), looks := true }, kinds := [], alts := [], laidByText := true, laidKinds := [.data, .data, .data], laidTests := true, laidLooks := .later }
def FnExactSuperTextCardSaid : Prop := Claim7.holds Tryd.pinned (.plain (OpenSpec.ofChange fnExactSuperTextSpec)) fnExactSuperTextCard

/-- THE TIED CARD OF 'laws.FnExactReadSuper'. -/
def fnExactReadSuperCard : Claim7 := { stood := { row := fnExactReadSuperRow, standIns := [], harness := (true, "129999f5d56db3c5cc7b0e56c465076096cc4371f48bc5d1bc8f78827711638d"), looks := true }, kinds := [], alts := [], laidByText := true, laidKinds := [.data, .sentinel, .sentinel, .pinned], laidTests := true, laidLooks := .later }
def FnExactReadSuperCardSaid : Prop := Claim7.holds Tryd.pinned (.plain (OpenSpec.ofChange fnExactReadSuperSpec)) fnExactReadSuperCard

/-- THE SECOND FORM's CARD OF 'laws.FnExactSuperText'. -/
def fnExactSuperTextUptoCard : Claim7 := { stood := { row := fnExactSuperTextUptoRow, standIns := [], harness := (true, "129999f5d56db3c5cc7b0e56c465076096cc4371f48bc5d1bc8f78827711638d"), looks := true }, kinds := [], alts := [], laidByText := true, laidKinds := [.data, .data, .data], laidTests := true, laidLooks := .later }
def FnExactSuperTextUptoCardSaid : Prop := Claim7.holds Tryd.pinned (.plain (OpenSpec.upto fnExactSuperTextSpec)) fnExactSuperTextUptoCard

/-- THE SECOND FORM's CARD OF 'laws.FnExactReadSuper'. -/
def fnExactReadSuperUptoCard : Claim7 := { stood := { row := fnExactReadSuperUptoRow, standIns := [], harness := (true, "129999f5d56db3c5cc7b0e56c465076096cc4371f48bc5d1bc8f78827711638d"), looks := true }, kinds := [], alts := [], laidByText := true, laidKinds := [.data, .sentinel, .sentinel, .pinned], laidTests := true, laidLooks := .later }
def FnExactReadSuperUptoCardSaid : Prop := Claim7.holds Tryd.pinned (.plain (OpenSpec.upto fnExactReadSuperSpec)) fnExactReadSuperUptoCard
end Rows
end Go.Proofs.YteckhdkghfidiaaDoor
