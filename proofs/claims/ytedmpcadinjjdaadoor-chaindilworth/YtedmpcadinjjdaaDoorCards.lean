/-
  DERIVED. GIVEN WITH THE SEED: THE CARDS: each row of YtedmpcadinjjdaaDoorRows.lean that lists a variable, with what it lists TIED to the program's text (the seventh form; the later family's looks); each row that meets fmt, with fmt's text TOLD by the authors' own Lean function (tested against real Go, not proved from fmt's source: count such statements apart). THE CARD IS WHAT COUNTS. Prove the row's statement (the work); the ties are given (YtedmpcadinjjdaaDoorTie.lean); close each card by the builder's one call (the guide's Derived/Test/ToyasCard.lean, 'card_holds'). Laid BY PROGRAM, IN A SANDBOX (cutbox-door.mjs). By AI agents, Wed Nov 11 2026. No macro, syntax, notation, axiom, sorry.
-/
import Derived.Test.YtedmpcadinjjdaaDoorRows
import GoSem.ClaimSeven
namespace Go.Proofs.YtedmpcadinjjdaaDoor
namespace Rows

/-- THE TIED CARD OF 'whensteadlaw1.OrderSays'. -/
def orderSaysCard : Claim7 := { stood := { row := orderSaysRow, standIns := [], harness := (true, "0e21372a1fe9a949774663046d7f6704c75ebd9976719a9e057b215578a6cc04"), looks := true }, kinds := [], alts := [], laidByText := true, laidKinds := [.data, .data, .handle], laidTests := true, laidLooks := .later }
def OrderSaysCardSaid : Prop := Claim7.holds Tryd.pinned (.plain (OpenSpec.ofChange orderSaysSpec)) orderSaysCard

/-- THE TIED CARD OF 'whensteadlaw1.OrderRules'. -/
def orderRulesCard : Claim7 := { stood := { row := orderRulesRow, standIns := [], harness := (true, "0e21372a1fe9a949774663046d7f6704c75ebd9976719a9e057b215578a6cc04"), looks := true }, kinds := [], alts := [], laidByText := true, laidKinds := [.data, .data], laidTests := true, laidLooks := .later }
def OrderRulesCardSaid : Prop := Claim7.holds Tryd.pinned (.plain (OpenSpec.ofChange orderRulesSpec)) orderRulesCard

/-- THE TIED CARD OF 'whensteadlaw1.OrderMore'. -/
def orderMoreCard : Claim7 := { stood := { row := orderMoreRow, standIns := [], harness := (true, "0e21372a1fe9a949774663046d7f6704c75ebd9976719a9e057b215578a6cc04"), looks := true }, kinds := [], alts := [], laidByText := true, laidKinds := [.data, .data, .handle], laidTests := true, laidLooks := .later }
def OrderMoreCardSaid : Prop := Claim7.holds Tryd.pinned (.plain (OpenSpec.ofChange orderMoreSpec)) orderMoreCard

/-- THE TIED CARD OF 'whensteadlaw1.ChainSays'. -/
def chainSaysCard : Claim7 := { stood := { row := chainSaysRow, standIns := [], harness := (true, "0e21372a1fe9a949774663046d7f6704c75ebd9976719a9e057b215578a6cc04"), looks := true }, kinds := [], alts := [], laidByText := true, laidKinds := [.data, .data, .handle], laidTests := true, laidLooks := .later }
def ChainSaysCardSaid : Prop := Claim7.holds Tryd.pinned (.plain (OpenSpec.ofChange chainSaysSpec)) chainSaysCard

/-- THE TIED CARD OF 'whensteadlaw1.ChainMirsky'. -/
def chainMirskyCard : Claim7 := { stood := { row := chainMirskyRow, standIns := [], harness := (true, "0e21372a1fe9a949774663046d7f6704c75ebd9976719a9e057b215578a6cc04"), looks := true }, kinds := [], alts := [], laidByText := true, laidKinds := [.data, .data], laidTests := true, laidLooks := .later }
def ChainMirskyCardSaid : Prop := Claim7.holds Tryd.pinned (.plain (OpenSpec.ofChange chainMirskySpec)) chainMirskyCard

/-- THE TIED CARD OF 'whensteadlaw1.ChainDilworth'. -/
def chainDilworthCard : Claim7 := { stood := { row := chainDilworthRow, standIns := [], harness := (true, "0e21372a1fe9a949774663046d7f6704c75ebd9976719a9e057b215578a6cc04"), looks := true }, kinds := [], alts := [], laidByText := true, laidKinds := [.data, .data], laidTests := true, laidLooks := .later }
def ChainDilworthCardSaid : Prop := Claim7.holds Tryd.pinned (.plain (OpenSpec.ofChange chainDilworthSpec)) chainDilworthCard

/-- THE SECOND FORM's CARD OF 'whensteadlaw1.OrderSays'. -/
def orderSaysUptoCard : Claim7 := { stood := { row := orderSaysUptoRow, standIns := [], harness := (true, "0e21372a1fe9a949774663046d7f6704c75ebd9976719a9e057b215578a6cc04"), looks := true }, kinds := [], alts := [], laidByText := true, laidKinds := [.data, .data, .handle], laidTests := true, laidLooks := .later }
def OrderSaysUptoCardSaid : Prop := Claim7.holds Tryd.pinned (.plain (OpenSpec.upto orderSaysSpec)) orderSaysUptoCard

/-- THE SECOND FORM's CARD OF 'whensteadlaw1.OrderRules'. -/
def orderRulesUptoCard : Claim7 := { stood := { row := orderRulesUptoRow, standIns := [], harness := (true, "0e21372a1fe9a949774663046d7f6704c75ebd9976719a9e057b215578a6cc04"), looks := true }, kinds := [], alts := [], laidByText := true, laidKinds := [.data, .data], laidTests := true, laidLooks := .later }
def OrderRulesUptoCardSaid : Prop := Claim7.holds Tryd.pinned (.plain (OpenSpec.upto orderRulesSpec)) orderRulesUptoCard

/-- THE SECOND FORM's CARD OF 'whensteadlaw1.OrderMore'. -/
def orderMoreUptoCard : Claim7 := { stood := { row := orderMoreUptoRow, standIns := [], harness := (true, "0e21372a1fe9a949774663046d7f6704c75ebd9976719a9e057b215578a6cc04"), looks := true }, kinds := [], alts := [], laidByText := true, laidKinds := [.data, .data, .handle], laidTests := true, laidLooks := .later }
def OrderMoreUptoCardSaid : Prop := Claim7.holds Tryd.pinned (.plain (OpenSpec.upto orderMoreSpec)) orderMoreUptoCard

/-- THE SECOND FORM's CARD OF 'whensteadlaw1.ChainSays'. -/
def chainSaysUptoCard : Claim7 := { stood := { row := chainSaysUptoRow, standIns := [], harness := (true, "0e21372a1fe9a949774663046d7f6704c75ebd9976719a9e057b215578a6cc04"), looks := true }, kinds := [], alts := [], laidByText := true, laidKinds := [.data, .data, .handle], laidTests := true, laidLooks := .later }
def ChainSaysUptoCardSaid : Prop := Claim7.holds Tryd.pinned (.plain (OpenSpec.upto chainSaysSpec)) chainSaysUptoCard

/-- THE SECOND FORM's CARD OF 'whensteadlaw1.ChainMirsky'. -/
def chainMirskyUptoCard : Claim7 := { stood := { row := chainMirskyUptoRow, standIns := [], harness := (true, "0e21372a1fe9a949774663046d7f6704c75ebd9976719a9e057b215578a6cc04"), looks := true }, kinds := [], alts := [], laidByText := true, laidKinds := [.data, .data], laidTests := true, laidLooks := .later }
def ChainMirskyUptoCardSaid : Prop := Claim7.holds Tryd.pinned (.plain (OpenSpec.upto chainMirskySpec)) chainMirskyUptoCard

/-- THE SECOND FORM's CARD OF 'whensteadlaw1.ChainDilworth'. -/
def chainDilworthUptoCard : Claim7 := { stood := { row := chainDilworthUptoRow, standIns := [], harness := (true, "0e21372a1fe9a949774663046d7f6704c75ebd9976719a9e057b215578a6cc04"), looks := true }, kinds := [], alts := [], laidByText := true, laidKinds := [.data, .data], laidTests := true, laidLooks := .later }
def ChainDilworthUptoCardSaid : Prop := Claim7.holds Tryd.pinned (.plain (OpenSpec.upto chainDilworthSpec)) chainDilworthUptoCard
end Rows
end Go.Proofs.YtedmpcadinjjdaaDoor
