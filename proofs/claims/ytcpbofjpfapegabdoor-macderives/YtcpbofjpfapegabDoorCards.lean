/-
  DERIVED. GIVEN WITH THE SEED: THE CARDS: each row of YtcpbofjpfapegabDoorRows.lean that lists a variable, with what it lists TIED to the program's text (the seventh form; the later family's looks); each row that meets fmt, with fmt's text TOLD by the authors' own Lean function (tested against real Go, not proved from fmt's source: count such statements apart). THE CARD IS WHAT COUNTS. Prove the row's statement (the work); the ties are given (YtcpbofjpfapegabDoorTie.lean); close each card by the builder's one call (the guide's Derived/Test/ToyasCard.lean, 'card_holds'). Laid BY PROGRAM, IN A SANDBOX (cutbox-door.mjs). By AI agents, Wed Nov 11 2026. No macro, syntax, notation, axiom, sorry.
-/
import Derived.Test.YtcpbofjpfapegabDoorRows
import GoSem.ClaimSeven
namespace Go.Proofs.YtcpbofjpfapegabDoor
namespace Rows

/-- THE TIED CARD OF 'atriumlaw04.MacNobody'. -/
def macNobodyCard : Claim7 := { stood := { row := macNobodyRow, standIns := [], harness := (true, "3bccb6d226d643282f0e8f47409507d0bae70bb1b1be6f26c2727543d9e12629"), looks := false }, kinds := [], alts := [], laidByText := true, laidKinds := [.data], laidTests := true, laidLooks := .later }
def MacNobodyCardSaid : Prop := Claim7.holds Tryd.pinned (.plain (OpenSpec.ofChange macNobodySpec)) macNobodyCard

/-- THE TIED CARD OF 'atriumlaw04.MacDerives'. -/
def macDerivesCard : Claim7 := { stood := { row := macDerivesRow, standIns := [], harness := (true, "3bccb6d226d643282f0e8f47409507d0bae70bb1b1be6f26c2727543d9e12629"), looks := false }, kinds := [], alts := [], laidByText := true, laidKinds := [.data], laidTests := true, laidLooks := .later }
def MacDerivesCardSaid : Prop := Claim7.holds Tryd.pinned (.plain (OpenSpec.ofChange macDerivesSpec)) macDerivesCard

/-- THE SECOND FORM's CARD OF 'atriumlaw04.MacNobody'. -/
def macNobodyUptoCard : Claim7 := { stood := { row := macNobodyUptoRow, standIns := [], harness := (true, "3bccb6d226d643282f0e8f47409507d0bae70bb1b1be6f26c2727543d9e12629"), looks := false }, kinds := [], alts := [], laidByText := true, laidKinds := [.data], laidTests := true, laidLooks := .later }
def MacNobodyUptoCardSaid : Prop := Claim7.holds Tryd.pinned (.plain (OpenSpec.upto macNobodySpec)) macNobodyUptoCard

/-- THE SECOND FORM's CARD OF 'atriumlaw04.MacDerives'. -/
def macDerivesUptoCard : Claim7 := { stood := { row := macDerivesUptoRow, standIns := [], harness := (true, "3bccb6d226d643282f0e8f47409507d0bae70bb1b1be6f26c2727543d9e12629"), looks := false }, kinds := [], alts := [], laidByText := true, laidKinds := [.data], laidTests := true, laidLooks := .later }
def MacDerivesUptoCardSaid : Prop := Claim7.holds Tryd.pinned (.plain (OpenSpec.upto macDerivesSpec)) macDerivesUptoCard
end Rows
end Go.Proofs.YtcpbofjpfapegabDoor
