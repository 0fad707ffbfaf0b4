/-
  DERIVED. GIVEN WITH THE SEED: THE CARDS: each row of YtieoiailjjnnoaaGreatDoorRows.lean that lists a variable, with what it lists TIED to the program's text (the seventh form; the later family's looks); each row that meets fmt, with fmt's text TOLD by the authors' own Lean function (tested against real Go, not proved from fmt's source: count such statements apart). THE CARD IS WHAT COUNTS. Prove the row's statement (the work); the ties are given (YtieoiailjjnnoaaGreatDoorTie.lean); close each card by the builder's one call (the guide's Derived/Test/ToyasCard.lean, 'card_holds'). Laid BY PROGRAM, IN A SANDBOX (cutbox-door.mjs). By AI agents, Wed Nov 11 2026. No macro, syntax, notation, axiom, sorry.
-/
import Derived.Test.YtieoiailjjnnoaaGreatDoorRows
import GoSem.ClaimSeven
namespace Go.Proofs.YtieoiailjjnnoaaGreatDoor
namespace Rows

/-- THE TIED CARD OF 'laws.FnSuper'. -/
def fnSuperCard : Claim7 := { stood := { row := fnSuperRow, standIns := [], harness := (true, "76497f8bce3deb4521e93e76f7090c470846224a59fd929c3895838fe69f1d99"), looks := true }, kinds := [], alts := [], laidByText := true, laidKinds := [.data, .data, .data, .data, .handle, .sentinel, .sentinel, .pinned], laidTests := true, laidLooks := .later }
def FnSuperCardSaid : Prop := Claim7.holds Tryz.pinned (.plain (OpenSpec.ofChange fnSuperSpec)) fnSuperCard

/-- THE TIED CARD OF 'laws.FnAppend'. -/
def fnAppendCard : Claim7 := { stood := { row := fnAppendRow, standIns := [], harness := (true, "76497f8bce3deb4521e93e76f7090c470846224a59fd929c3895838fe69f1d99"), looks := true }, kinds := [], alts := [], laidByText := true, laidKinds := [.data, .data, .data, .data, .handle, .sentinel, .sentinel, .pinned], laidTests := true, laidLooks := .later }
def FnAppendCardSaid : Prop := Claim7.holds Tryz.pinned (.plain (OpenSpec.ofChange fnAppendSpec)) fnAppendCard

/-- THE TIED CARD OF 'laws.FnAppendTorn'. -/
def fnAppendTornCard : Claim7 := { stood := { row := fnAppendTornRow, standIns := [], harness := (true, "76497f8bce3deb4521e93e76f7090c470846224a59fd929c3895838fe69f1d99"), looks := true }, kinds := [], alts := [], laidByText := true, laidKinds := [.data, .data, .data, .data, .handle, .sentinel, .sentinel, .pinned], laidTests := true, laidLooks := .later }
def FnAppendTornCardSaid : Prop := Claim7.holds Tryz.pinned (.plain (OpenSpec.ofChange fnAppendTornSpec)) fnAppendTornCard

/-- THE TIED CARD OF 'laws.FnExactAppendWrite'. -/
def fnExactAppendWriteCard : Claim7 := { stood := { row := fnExactAppendWriteRow, standIns := [], harness := (true, "76497f8bce3deb4521e93e76f7090c470846224a59fd929c3895838fe69f1d99"), looks := true }, kinds := [], alts := [], laidByText := true, laidKinds := [.data, .data, .data, .data, .handle, .sentinel, .sentinel, .pinned], laidTests := true, laidLooks := .later }
def FnExactAppendWriteCardSaid : Prop := Claim7.holds Tryz.pinned (.plain (OpenSpec.ofChange fnExactAppendWriteSpec)) fnExactAppendWriteCard

/-- THE TIED CARD OF 'laws.FnExactAppendTorn'. -/
def fnExactAppendTornCard : Claim7 := { stood := { row := fnExactAppendTornRow, standIns := [], harness := (true, "76497f8bce3deb4521e93e76f7090c470846224a59fd929c3895838fe69f1d99"), looks := true }, kinds := [], alts := [], laidByText := true, laidKinds := [.data, .data, .data, .data, .handle, .sentinel, .sentinel, .pinned], laidTests := true, laidLooks := .later }
def FnExactAppendTornCardSaid : Prop := Claim7.holds Tryz.pinned (.plain (OpenSpec.ofChange fnExactAppendTornSpec)) fnExactAppendTornCard

/-- THE SECOND FORM's CARD OF 'laws.FnSuper'. -/
def fnSuperUptoCard : Claim7 := { stood := { row := fnSuperUptoRow, standIns := [], harness := (true, "76497f8bce3deb4521e93e76f7090c470846224a59fd929c3895838fe69f1d99"), looks := true }, kinds := [], alts := [], laidByText := true, laidKinds := [.data, .data, .data, .data, .handle, .sentinel, .sentinel, .pinned], laidTests := true, laidLooks := .later }
def FnSuperUptoCardSaid : Prop := Claim7.holds Tryz.pinned (.plain (OpenSpec.upto fnSuperSpec)) fnSuperUptoCard

/-- THE SECOND FORM's CARD OF 'laws.FnAppend'. -/
def fnAppendUptoCard : Claim7 := { stood := { row := fnAppendUptoRow, standIns := [], harness := (true, "76497f8bce3deb4521e93e76f7090c470846224a59fd929c3895838fe69f1d99"), looks := true }, kinds := [], alts := [], laidByText := true, laidKinds := [.data, .data, .data, .data, .handle, .sentinel, .sentinel, .pinned], laidTests := true, laidLooks := .later }
def FnAppendUptoCardSaid : Prop := Claim7.holds Tryz.pinned (.plain (OpenSpec.upto fnAppendSpec)) fnAppendUptoCard

/-- THE SECOND FORM's CARD OF 'laws.FnAppendTorn'. -/
def fnAppendTornUptoCard : Claim7 := { stood := { row := fnAppendTornUptoRow, standIns := [], harness := (true, "76497f8bce3deb4521e93e76f7090c470846224a59fd929c3895838fe69f1d99"), looks := true }, kinds := [], alts := [], laidByText := true, laidKinds := [.data, .data, .data, .data, .handle, .sentinel, .sentinel, .pinned], laidTests := true, laidLooks := .later }
def FnAppendTornUptoCardSaid : Prop := Claim7.holds Tryz.pinned (.plain (OpenSpec.upto fnAppendTornSpec)) fnAppendTornUptoCard

/-- THE SECOND FORM's CARD OF 'laws.FnExactAppendWrite'. -/
def fnExactAppendWriteUptoCard : Claim7 := { stood := { row := fnExactAppendWriteUptoRow, standIns := [], harness := (true, "76497f8bce3deb4521e93e76f7090c470846224a59fd929c3895838fe69f1d99"), looks := true }, kinds := [], alts := [], laidByText := true, laidKinds := [.data, .data, .data, .data, .handle, .sentinel, .sentinel, .pinned], laidTests := true, laidLooks := .later }
def FnExactAppendWriteUptoCardSaid : Prop := Claim7.holds Tryz.pinned (.plain (OpenSpec.upto fnExactAppendWriteSpec)) fnExactAppendWriteUptoCard

/-- THE SECOND FORM's CARD OF 'laws.FnExactAppendTorn'. -/
def fnExactAppendTornUptoCard : Claim7 := { stood := { row := fnExactAppendTornUptoRow, standIns := [], harness := (true, "76497f8bce3deb4521e93e76f7090c470846224a59fd929c3895838fe69f1d99"), looks := true }, kinds := [], alts := [], laidByText := true, laidKinds := [.data, .data, .data, .data, .handle, .sentinel, .sentinel, .pinned], laidTests := true, laidLooks := .later }
def FnExactAppendTornUptoCardSaid : Prop := Claim7.holds Tryz.pinned (.plain (OpenSpec.upto fnExactAppendTornSpec)) fnExactAppendTornUptoCard
end Rows
end Go.Proofs.YtieoiailjjnnoaaGreatDoor
