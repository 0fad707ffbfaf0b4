/-
  DERIVED. GIVEN WITH THE SEED: THE CARDS: each row of YteckhdkghfidiaaGreatDoorRows.lean that lists a variable, with what it lists TIED to the program's text (the seventh form; the later family's looks); each row that meets fmt, with fmt's text TOLD by the authors' own Lean function (tested against real Go, not proved from fmt's source: count such statements apart). THE CARD IS WHAT COUNTS. Prove the row's statement (the work); the ties are given (YteckhdkghfidiaaGreatDoorTie.lean); close each card by the builder's one call (the guide's Derived/Test/ToyasCard.lean, 'card_holds'). Laid BY PROGRAM, IN A SANDBOX (cutbox-door.mjs). By AI agents, Wed Nov 11 2026. No macro, syntax, notation, axiom, sorry.
-/
import Derived.Test.YteckhdkghfidiaaGreatDoorRows
import GoSem.ClaimSeven
namespace Go.Proofs.YteckhdkghfidiaaGreatDoor
namespace Rows

/-- THE TIED CARD OF 'laws.FnSuper'. -/
def fnSuperCard : Claim7 := { stood := { row := fnSuperRow, standIns := [], harness := (true, "c6199fc5a282465d2ef01c1a9331e54171ddcc9cee151fac85433edaa6c7b12f"), looks := true }, kinds := [], alts := [], laidByText := true, laidKinds := [.data, .data, .data, .data, .handle, .sentinel, .sentinel, .pinned], laidTests := true, laidLooks := .later }
def FnSuperCardSaid : Prop := Claim7.holds Tryz.pinned (.plain (OpenSpec.ofChange fnSuperSpec)) fnSuperCard

/-- THE TIED CARD OF 'laws.FnExactNewestSuper'. -/
def fnExactNewestSuperCard : Claim7 := { stood := { row := fnExactNewestSuperRow, standIns := [], harness := (true, "c6199fc5a282465d2ef01c1a9331e54171ddcc9cee151fac85433edaa6c7b12f"), looks := true }, kinds := [], alts := [], laidByText := true, laidKinds := [.data, .handle, .sentinel, .sentinel, .pinned], laidTests := true, laidLooks := .later }
def FnExactNewestSuperCardSaid : Prop := Claim7.holds Tryz.pinned (.plain (OpenSpec.ofChange fnExactNewestSuperSpec)) fnExactNewestSuperCard

/-- THE TIED CARD OF 'laws.FnExactCommitSuper'. -/
def fnExactCommitSuperCard : Claim7 := { stood := { row := fnExactCommitSuperRow, standIns := [], harness := (true, "c6199fc5a282465d2ef01c1a9331e54171ddcc9cee151fac85433edaa6c7b12f"), looks := true }, kinds := [], alts := [], laidByText := true, laidKinds := [.data, .data, .data, .data, .handle, .sentinel, .sentinel, .pinned], laidTests := true, laidLooks := .later }
def FnExactCommitSuperCardSaid : Prop := Claim7.holds Tryz.pinned (.plain (OpenSpec.ofChange fnExactCommitSuperSpec)) fnExactCommitSuperCard

/-- THE SECOND FORM's CARD OF 'laws.FnSuper'. -/
def fnSuperUptoCard : Claim7 := { stood := { row := fnSuperUptoRow, standIns := [], harness := (true, "c6199fc5a282465d2ef01c1a9331e54171ddcc9cee151fac85433edaa6c7b12f"), looks := true }, kinds := [], alts := [], laidByText := true, laidKinds := [.data, .data, .data, .data, .handle, .sentinel, .sentinel, .pinned], laidTests := true, laidLooks := .later }
def FnSuperUptoCardSaid : Prop := Claim7.holds Tryz.pinned (.plain (OpenSpec.upto fnSuperSpec)) fnSuperUptoCard

/-- THE SECOND FORM's CARD OF 'laws.FnExactNewestSuper'. -/
def fnExactNewestSuperUptoCard : Claim7 := { stood := { row := fnExactNewestSuperUptoRow, standIns := [], harness := (true, "c6199fc5a282465d2ef01c1a9331e54171ddcc9cee151fac85433edaa6c7b12f"), looks := true }, kinds := [], alts := [], laidByText := true, laidKinds := [.data, .handle, .sentinel, .sentinel, .pinned], laidTests := true, laidLooks := .later }
def FnExactNewestSuperUptoCardSaid : Prop := Claim7.holds Tryz.pinned (.plain (OpenSpec.upto fnExactNewestSuperSpec)) fnExactNewestSuperUptoCard

/-- THE SECOND FORM's CARD OF 'laws.FnExactCommitSuper'. -/
def fnExactCommitSuperUptoCard : Claim7 := { stood := { row := fnExactCommitSuperUptoRow, standIns := [], harness := (true, "c6199fc5a282465d2ef01c1a9331e54171ddcc9cee151fac85433edaa6c7b12f"), looks := true }, kinds := [], alts := [], laidByText := true, laidKinds := [.data, .data, .data, .data, .handle, .sentinel, .sentinel, .pinned], laidTests := true, laidLooks := .later }
def FnExactCommitSuperUptoCardSaid : Prop := Claim7.holds Tryz.pinned (.plain (OpenSpec.upto fnExactCommitSuperSpec)) fnExactCommitSuperUptoCard
end Rows
end Go.Proofs.YteckhdkghfidiaaGreatDoor
