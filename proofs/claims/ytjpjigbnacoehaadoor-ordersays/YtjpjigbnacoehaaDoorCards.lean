/-
  DERIVED. GIVEN WITH THE SEED: THE CARDS: each row of YtjpjigbnacoehaaDoorRows.lean that lists a variable, with what it lists TIED to the program's text (the seventh form; the later family's looks); each row that meets fmt, with fmt's text TOLD by the authors' own Lean function (tested against real Go, not proved from fmt's source: count such statements apart). THE CARD IS WHAT COUNTS. Prove the row's statement (the work); the ties are given (YtjpjigbnacoehaaDoorTie.lean); close each card by the builder's one call (the guide's Derived/Test/ToyasCard.lean, 'card_holds'). Laid BY PROGRAM, IN A SANDBOX (cutbox-door.mjs). By AI agents, Wed Nov 11 2026. No macro, syntax, notation, axiom, sorry.
-/
import Derived.Test.YtjpjigbnacoehaaDoorRows
import GoSem.ClaimSeven
namespace Go.Proofs.YtjpjigbnacoehaaDoor
namespace Rows

/-- THE TIED CARD OF 'whensteadlaw1.OrderSays'. -/
def orderSaysCard : Claim7 := { stood := { row := orderSaysRow, standIns := [], harness := (true, "e7ecd18ae7a11f53f142808462532ab302fd86084910a3cd656c371442eb701e"), looks := true }, kinds := [], alts := [], laidByText := true, laidKinds := [.data, .data, .handle], laidTests := true, laidLooks := .later }
def OrderSaysCardSaid : Prop := Claim7.holds Tryd.pinned (.plain (OpenSpec.ofChange orderSaysSpec)) orderSaysCard

/-- THE TIED CARD OF 'whensteadlaw1.OrderRules'. -/
def orderRulesCard : Claim7 := { stood := { row := orderRulesRow, standIns := [], harness := (true, "e7ecd18ae7a11f53f142808462532ab302fd86084910a3cd656c371442eb701e"), looks := true }, kinds := [], alts := [], laidByText := true, laidKinds := [.data, .data], laidTests := true, laidLooks := .later }
def OrderRulesCardSaid : Prop := Claim7.holds Tryd.pinned (.plain (OpenSpec.ofChange orderRulesSpec)) orderRulesCard

/-- THE TIED CARD OF 'whensteadlaw1.OrderMore'. -/
def orderMoreCard : Claim7 := { stood := { row := orderMoreRow, standIns := [], harness := (true, "e7ecd18ae7a11f53f142808462532ab302fd86084910a3cd656c371442eb701e"), looks := true }, kinds := [], alts := [], laidByText := true, laidKinds := [.data, .data, .handle], laidTests := true, laidLooks := .later }
def OrderMoreCardSaid : Prop := Claim7.holds Tryd.pinned (.plain (OpenSpec.ofChange orderMoreSpec)) orderMoreCard

/-- THE SECOND FORM's CARD OF 'whensteadlaw1.OrderSays'. -/
def orderSaysUptoCard : Claim7 := { stood := { row := orderSaysUptoRow, standIns := [], harness := (true, "e7ecd18ae7a11f53f142808462532ab302fd86084910a3cd656c371442eb701e"), looks := true }, kinds := [], alts := [], laidByText := true, laidKinds := [.data, .data, .handle], laidTests := true, laidLooks := .later }
def OrderSaysUptoCardSaid : Prop := Claim7.holds Tryd.pinned (.plain (OpenSpec.upto orderSaysSpec)) orderSaysUptoCard

/-- THE SECOND FORM's CARD OF 'whensteadlaw1.OrderRules'. -/
def orderRulesUptoCard : Claim7 := { stood := { row := orderRulesUptoRow, standIns := [], harness := (true, "e7ecd18ae7a11f53f142808462532ab302fd86084910a3cd656c371442eb701e"), looks := true }, kinds := [], alts := [], laidByText := true, laidKinds := [.data, .data], laidTests := true, laidLooks := .later }
def OrderRulesUptoCardSaid : Prop := Claim7.holds Tryd.pinned (.plain (OpenSpec.upto orderRulesSpec)) orderRulesUptoCard

/-- THE SECOND FORM's CARD OF 'whensteadlaw1.OrderMore'. -/
def orderMoreUptoCard : Claim7 := { stood := { row := orderMoreUptoRow, standIns := [], harness := (true, "e7ecd18ae7a11f53f142808462532ab302fd86084910a3cd656c371442eb701e"), looks := true }, kinds := [], alts := [], laidByText := true, laidKinds := [.data, .data, .handle], laidTests := true, laidLooks := .later }
def OrderMoreUptoCardSaid : Prop := Claim7.holds Tryd.pinned (.plain (OpenSpec.upto orderMoreSpec)) orderMoreUptoCard
end Rows
end Go.Proofs.YtjpjigbnacoehaaDoor
