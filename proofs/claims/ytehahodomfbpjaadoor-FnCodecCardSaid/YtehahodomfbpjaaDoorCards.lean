/-
  DERIVED. GIVEN WITH THE SEED: THE CARDS: each row of YtehahodomfbpjaaDoorRows.lean that lists a variable, with what it lists TIED to the program's text (the seventh form; the later family's looks); each row that meets fmt, with fmt's text TOLD by the authors' own Lean function (tested against real Go, not proved from fmt's source: count such statements apart). THE CARD IS WHAT COUNTS. Prove the row's statement (the work); the ties are given (YtehahodomfbpjaaDoorTie.lean); close each card by the builder's one call (the guide's Derived/Test/ToyasCard.lean, 'card_holds'). Laid BY PROGRAM, IN A SANDBOX (cutbox-door.mjs). By AI agents, Wed Nov 11 2026. No macro, syntax, notation, axiom, sorry.
-/
import Derived.Test.YtehahodomfbpjaaDoorRows
import GoSem.ClaimSeven
namespace Go.Proofs.YtehahodomfbpjaaDoor
namespace Rows

/-- THE TIED CARD OF 'laws.FnExactFormatVault'. -/
def fnExactFormatVaultCard : Claim7 := { stood := { row := fnExactFormatVaultRow, standIns := [], harness := (true, "9122d5fa83f509e2f131f002a849f8e2961a62baa118d36e34bd803d8df79fb8"), looks := true }, kinds := [], alts := [], laidByText := true, laidKinds := [.data, .data, .data], laidTests := true, laidLooks := .later }
def FnExactFormatVaultCardSaid : Prop := Claim7.holds Tryd.pinned (.plain (OpenSpec.ofChange fnExactFormatVaultSpec)) fnExactFormatVaultCard

/-- THE TIED CARD OF 'laws.FnCodec'. -/
def fnCodecCard : Claim7 := { stood := { row := fnCodecRow, standIns := [], harness := (true, "9122d5fa83f509e2f131f002a849f8e2961a62baa118d36e34bd803d8df79fb8"), looks := true }, kinds := [], alts := [], laidByText := true, laidKinds := [.sentinel, .sentinel], laidTests := true, laidLooks := .later }
def FnCodecCardSaid : Prop := Claim7.holds Tryd.pinned (.plain (OpenSpec.ofChange fnCodecSpec)) fnCodecCard

/-- THE SECOND FORM's CARD OF 'laws.FnExactFormatVault'. -/
def fnExactFormatVaultUptoCard : Claim7 := { stood := { row := fnExactFormatVaultUptoRow, standIns := [], harness := (true, "9122d5fa83f509e2f131f002a849f8e2961a62baa118d36e34bd803d8df79fb8"), looks := true }, kinds := [], alts := [], laidByText := true, laidKinds := [.data, .data, .data], laidTests := true, laidLooks := .later }
def FnExactFormatVaultUptoCardSaid : Prop := Claim7.holds Tryd.pinned (.plain (OpenSpec.upto fnExactFormatVaultSpec)) fnExactFormatVaultUptoCard

/-- THE SECOND FORM's CARD OF 'laws.FnCodec'. -/
def fnCodecUptoCard : Claim7 := { stood := { row := fnCodecUptoRow, standIns := [], harness := (true, "9122d5fa83f509e2f131f002a849f8e2961a62baa118d36e34bd803d8df79fb8"), looks := true }, kinds := [], alts := [], laidByText := true, laidKinds := [.sentinel, .sentinel], laidTests := true, laidLooks := .later }
def FnCodecUptoCardSaid : Prop := Claim7.holds Tryd.pinned (.plain (OpenSpec.upto fnCodecSpec)) fnCodecUptoCard
end Rows
end Go.Proofs.YtehahodomfbpjaaDoor
