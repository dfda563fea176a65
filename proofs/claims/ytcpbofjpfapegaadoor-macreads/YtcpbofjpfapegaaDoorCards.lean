/-
  DERIVED. GIVEN WITH THE SEED: THE CARDS: each row of YtcpbofjpfapegaaDoorRows.lean that lists a variable, with what it lists TIED to the program's text (the seventh form; the later family's looks); each row that meets fmt, with fmt's text TOLD by the authors' own Lean function (tested against real Go, not proved from fmt's source: count such statements apart). THE CARD IS WHAT COUNTS. Prove the row's statement (the work); the ties are given (YtcpbofjpfapegaaDoorTie.lean); close each card by the builder's one call (the guide's Derived/Test/ToyasCard.lean, 'card_holds'). Laid BY PROGRAM, IN A SANDBOX (cutbox-door.mjs). By AI agents, Wed Nov 11 2026. No macro, syntax, notation, axiom, sorry.
-/
import Derived.Test.YtcpbofjpfapegaaDoorRows
import GoSem.ClaimSeven
namespace Go.Proofs.YtcpbofjpfapegaaDoor
namespace Rows

/-- THE TIED CARD OF 'atriumlaw04.MacSums'. -/
def macSumsCard : Claim7 := { stood := { row := macSumsRow, standIns := [], harness := (true, "647ffd04eda55d66a7a77398a77b9937ada6e20a689037e80afc2527c80654bf"), looks := false }, kinds := [], alts := [], laidByText := true, laidKinds := [.data], laidTests := true, laidLooks := .later }
def MacSumsCardSaid : Prop := Claim7.holds Tryd.pinned (.plain (OpenSpec.ofChange macSumsSpec)) macSumsCard

/-- THE TIED CARD OF 'atriumlaw04.MacProofs'. -/
def macProofsCard : Claim7 := { stood := { row := macProofsRow, standIns := [], harness := (true, "647ffd04eda55d66a7a77398a77b9937ada6e20a689037e80afc2527c80654bf"), looks := false }, kinds := [], alts := [], laidByText := true, laidKinds := [.data], laidTests := true, laidLooks := .later }
def MacProofsCardSaid : Prop := Claim7.holds Tryd.pinned (.plain (OpenSpec.ofChange macProofsSpec)) macProofsCard

/-- THE TIED CARD OF 'atriumlaw04.MacKeys'. -/
def macKeysCard : Claim7 := { stood := { row := macKeysRow, standIns := [], harness := (true, "647ffd04eda55d66a7a77398a77b9937ada6e20a689037e80afc2527c80654bf"), looks := false }, kinds := [], alts := [], laidByText := true, laidKinds := [.data], laidTests := true, laidLooks := .later }
def MacKeysCardSaid : Prop := Claim7.holds Tryd.pinned (.plain (OpenSpec.ofChange macKeysSpec)) macKeysCard

/-- THE TIED CARD OF 'atriumlaw04.MacPieces'. -/
def macPiecesCard : Claim7 := { stood := { row := macPiecesRow, standIns := [], harness := (true, "647ffd04eda55d66a7a77398a77b9937ada6e20a689037e80afc2527c80654bf"), looks := false }, kinds := [], alts := [], laidByText := true, laidKinds := [.data], laidTests := true, laidLooks := .later }
def MacPiecesCardSaid : Prop := Claim7.holds Tryd.pinned (.plain (OpenSpec.ofChange macPiecesSpec)) macPiecesCard

/-- THE TIED CARD OF 'atriumlaw04.MacTexts'. -/
def macTextsCard : Claim7 := { stood := { row := macTextsRow, standIns := [], harness := (true, "647ffd04eda55d66a7a77398a77b9937ada6e20a689037e80afc2527c80654bf"), looks := false }, kinds := [], alts := [], laidByText := true, laidKinds := [.data], laidTests := true, laidLooks := .later }
def MacTextsCardSaid : Prop := Claim7.holds Tryd.pinned (.plain (OpenSpec.ofChange macTextsSpec)) macTextsCard

/-- THE TIED CARD OF 'atriumlaw04.MacReads'. -/
def macReadsCard : Claim7 := { stood := { row := macReadsRow, standIns := [], harness := (true, "647ffd04eda55d66a7a77398a77b9937ada6e20a689037e80afc2527c80654bf"), looks := false }, kinds := [], alts := [], laidByText := true, laidKinds := [.data], laidTests := true, laidLooks := .later }
def MacReadsCardSaid : Prop := Claim7.holds Tryd.pinned (.plain (OpenSpec.ofChange macReadsSpec)) macReadsCard

/-- THE SECOND FORM's CARD OF 'atriumlaw04.MacSums'. -/
def macSumsUptoCard : Claim7 := { stood := { row := macSumsUptoRow, standIns := [], harness := (true, "647ffd04eda55d66a7a77398a77b9937ada6e20a689037e80afc2527c80654bf"), looks := false }, kinds := [], alts := [], laidByText := true, laidKinds := [.data], laidTests := true, laidLooks := .later }
def MacSumsUptoCardSaid : Prop := Claim7.holds Tryd.pinned (.plain (OpenSpec.upto macSumsSpec)) macSumsUptoCard

/-- THE SECOND FORM's CARD OF 'atriumlaw04.MacProofs'. -/
def macProofsUptoCard : Claim7 := { stood := { row := macProofsUptoRow, standIns := [], harness := (true, "647ffd04eda55d66a7a77398a77b9937ada6e20a689037e80afc2527c80654bf"), looks := false }, kinds := [], alts := [], laidByText := true, laidKinds := [.data], laidTests := true, laidLooks := .later }
def MacProofsUptoCardSaid : Prop := Claim7.holds Tryd.pinned (.plain (OpenSpec.upto macProofsSpec)) macProofsUptoCard

/-- THE SECOND FORM's CARD OF 'atriumlaw04.MacKeys'. -/
def macKeysUptoCard : Claim7 := { stood := { row := macKeysUptoRow, standIns := [], harness := (true, "647ffd04eda55d66a7a77398a77b9937ada6e20a689037e80afc2527c80654bf"), looks := false }, kinds := [], alts := [], laidByText := true, laidKinds := [.data], laidTests := true, laidLooks := .later }
def MacKeysUptoCardSaid : Prop := Claim7.holds Tryd.pinned (.plain (OpenSpec.upto macKeysSpec)) macKeysUptoCard

/-- THE SECOND FORM's CARD OF 'atriumlaw04.MacPieces'. -/
def macPiecesUptoCard : Claim7 := { stood := { row := macPiecesUptoRow, standIns := [], harness := (true, "647ffd04eda55d66a7a77398a77b9937ada6e20a689037e80afc2527c80654bf"), looks := false }, kinds := [], alts := [], laidByText := true, laidKinds := [.data], laidTests := true, laidLooks := .later }
def MacPiecesUptoCardSaid : Prop := Claim7.holds Tryd.pinned (.plain (OpenSpec.upto macPiecesSpec)) macPiecesUptoCard

/-- THE SECOND FORM's CARD OF 'atriumlaw04.MacTexts'. -/
def macTextsUptoCard : Claim7 := { stood := { row := macTextsUptoRow, standIns := [], harness := (true, "647ffd04eda55d66a7a77398a77b9937ada6e20a689037e80afc2527c80654bf"), looks := false }, kinds := [], alts := [], laidByText := true, laidKinds := [.data], laidTests := true, laidLooks := .later }
def MacTextsUptoCardSaid : Prop := Claim7.holds Tryd.pinned (.plain (OpenSpec.upto macTextsSpec)) macTextsUptoCard

/-- THE SECOND FORM's CARD OF 'atriumlaw04.MacReads'. -/
def macReadsUptoCard : Claim7 := { stood := { row := macReadsUptoRow, standIns := [], harness := (true, "647ffd04eda55d66a7a77398a77b9937ada6e20a689037e80afc2527c80654bf"), looks := false }, kinds := [], alts := [], laidByText := true, laidKinds := [.data], laidTests := true, laidLooks := .later }
def MacReadsUptoCardSaid : Prop := Claim7.holds Tryd.pinned (.plain (OpenSpec.upto macReadsSpec)) macReadsUptoCard
end Rows
end Go.Proofs.YtcpbofjpfapegaaDoor
