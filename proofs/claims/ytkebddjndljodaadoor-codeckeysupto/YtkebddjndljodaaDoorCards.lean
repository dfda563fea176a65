/-
  DERIVED. GIVEN WITH THE SEED: THE CARDS: each row of YtkebddjndljodaaDoorRows.lean that lists a variable, with what it lists TIED to the program's text (the seventh form; the later family's looks); each row that meets fmt, with fmt's text TOLD by the authors' own Lean function (tested against real Go, not proved from fmt's source: count such statements apart). THE CARD IS WHAT COUNTS. Prove the row's statement (the work); the ties are given (YtkebddjndljodaaDoorTie.lean); close each card by the builder's one call (the guide's Derived/Test/ToyasCard.lean, 'card_holds'). Laid BY PROGRAM, IN A SANDBOX (cutbox-door.mjs). By AI agents, Wed Nov 11 2026. No macro, syntax, notation, axiom, sorry.
-/
import Derived.Test.YtkebddjndljodaaDoorRows
import GoSem.ClaimSeven
namespace Go.Proofs.YtkebddjndljodaaDoor
namespace Rows

/-- THE TIED CARD OF 'atriumlaw02.CodecKeys'. -/
def codecKeysCard : Claim7 := { stood := { row := codecKeysRow, standIns := [], harness := (true, "0fd1012a0babffdf2afde8ff5241eb1118609a72f9fb3ea8ab0e26bb4d061450"), looks := false }, kinds := [], alts := [], laidByText := true, laidKinds := [.data, .pinned], laidTests := true, laidLooks := .later }
def CodecKeysCardSaid : Prop := Claim7.holds Tryd.pinned (.plain (OpenSpec.ofChange codecKeysSpec)) codecKeysCard

/-- THE TIED CARD OF 'atriumlaw02.CodecOrder'. -/
def codecOrderCard : Claim7 := { stood := { row := codecOrderRow, standIns := [], harness := (true, "0fd1012a0babffdf2afde8ff5241eb1118609a72f9fb3ea8ab0e26bb4d061450"), looks := false }, kinds := [], alts := [], laidByText := true, laidKinds := [.data, .pinned], laidTests := true, laidLooks := .later }
def CodecOrderCardSaid : Prop := Claim7.holds Tryd.pinned (.plain (OpenSpec.ofChange codecOrderSpec)) codecOrderCard

/-- THE TIED CARD OF 'atriumlaw02.CodecRanges'. -/
def codecRangesCard : Claim7 := { stood := { row := codecRangesRow, standIns := [], harness := (true, "0fd1012a0babffdf2afde8ff5241eb1118609a72f9fb3ea8ab0e26bb4d061450"), looks := false }, kinds := [], alts := [], laidByText := true, laidKinds := [.data, .pinned], laidTests := true, laidLooks := .later }
def CodecRangesCardSaid : Prop := Claim7.holds Tryd.pinned (.plain (OpenSpec.ofChange codecRangesSpec)) codecRangesCard

/-- THE SECOND FORM's CARD OF 'atriumlaw02.CodecKeys'. -/
def codecKeysUptoCard : Claim7 := { stood := { row := codecKeysUptoRow, standIns := [], harness := (true, "0fd1012a0babffdf2afde8ff5241eb1118609a72f9fb3ea8ab0e26bb4d061450"), looks := false }, kinds := [], alts := [], laidByText := true, laidKinds := [.data, .pinned], laidTests := true, laidLooks := .later }
def CodecKeysUptoCardSaid : Prop := Claim7.holds Tryd.pinned (.plain (OpenSpec.upto codecKeysSpec)) codecKeysUptoCard

/-- THE SECOND FORM's CARD OF 'atriumlaw02.CodecOrder'. -/
def codecOrderUptoCard : Claim7 := { stood := { row := codecOrderUptoRow, standIns := [], harness := (true, "0fd1012a0babffdf2afde8ff5241eb1118609a72f9fb3ea8ab0e26bb4d061450"), looks := false }, kinds := [], alts := [], laidByText := true, laidKinds := [.data, .pinned], laidTests := true, laidLooks := .later }
def CodecOrderUptoCardSaid : Prop := Claim7.holds Tryd.pinned (.plain (OpenSpec.upto codecOrderSpec)) codecOrderUptoCard

/-- THE SECOND FORM's CARD OF 'atriumlaw02.CodecRanges'. -/
def codecRangesUptoCard : Claim7 := { stood := { row := codecRangesUptoRow, standIns := [], harness := (true, "0fd1012a0babffdf2afde8ff5241eb1118609a72f9fb3ea8ab0e26bb4d061450"), looks := false }, kinds := [], alts := [], laidByText := true, laidKinds := [.data, .pinned], laidTests := true, laidLooks := .later }
def CodecRangesUptoCardSaid : Prop := Claim7.holds Tryd.pinned (.plain (OpenSpec.upto codecRangesSpec)) codecRangesUptoCard
end Rows
end Go.Proofs.YtkebddjndljodaaDoor
