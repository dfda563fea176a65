/-
  DERIVED. GIVEN WITH THE SEED: THE CARDS: each row of YtbpfggpljfpfcaaDoorRows.lean that lists a variable, with what it lists TIED to the program's text (the seventh form; the later family's looks); each row that meets fmt, with fmt's text TOLD by the authors' own Lean function (tested against real Go, not proved from fmt's source: count such statements apart). THE CARD IS WHAT COUNTS. Prove the row's statement (the work); the ties are given (YtbpfggpljfpfcaaDoorTie.lean); close each card by the builder's one call (the guide's Derived/Test/ToyasCard.lean, 'card_holds'). Laid BY PROGRAM, IN A SANDBOX (cutbox-door.mjs). By AI agents, Wed Nov 11 2026. No macro, syntax, notation, axiom, sorry.
-/
import Derived.Test.YtbpfggpljfpfcaaDoorRows
import GoSem.ClaimSeven
namespace Go.Proofs.YtbpfggpljfpfcaaDoor
namespace Rows

/-- THE TIED CARD OF 'atriumlaw20.RouteFinds'. -/
def routeFindsCard : Claim7 := { stood := { row := routeFindsRow, standIns := [], harness := (true, "e54d3bee942049bba2b184e9bace0a38c90d2c382088f0cb93620b8f0d55302d"), looks := false }, kinds := [], alts := [], laidByText := true, laidKinds := [.data, .data, .data, .data, .pinned], laidTests := true, laidLooks := .later }
def RouteFindsCardSaid : Prop := Claim7.holds Tryd.pinned (.plain (OpenSpec.ofChange routeFindsSpec)) routeFindsCard

/-- THE TIED CARD OF 'atriumlaw20.RouteSplits'. -/
def routeSplitsCard : Claim7 := { stood := { row := routeSplitsRow, standIns := [], harness := (true, "e54d3bee942049bba2b184e9bace0a38c90d2c382088f0cb93620b8f0d55302d"), looks := false }, kinds := [], alts := [], laidByText := true, laidKinds := [.data, .data, .data, .data, .pinned], laidTests := true, laidLooks := .later }
def RouteSplitsCardSaid : Prop := Claim7.holds Tryd.pinned (.plain (OpenSpec.ofChange routeSplitsSpec)) routeSplitsCard

/-- THE TIED CARD OF 'atriumlaw20.RouteBack'. -/
def routeBackCard : Claim7 := { stood := { row := routeBackRow, standIns := [], harness := (true, "e54d3bee942049bba2b184e9bace0a38c90d2c382088f0cb93620b8f0d55302d"), looks := false }, kinds := [], alts := [], laidByText := true, laidKinds := [.data, .data, .data, .data, .pinned], laidTests := true, laidLooks := .later }
def RouteBackCardSaid : Prop := Claim7.holds Tryd.pinned (.plain (OpenSpec.ofChange routeBackSpec)) routeBackCard

/-- THE TIED CARD OF 'atriumlaw20.RouteOnce'. -/
def routeOnceCard : Claim7 := { stood := { row := routeOnceRow, standIns := [], harness := (true, "e54d3bee942049bba2b184e9bace0a38c90d2c382088f0cb93620b8f0d55302d"), looks := false }, kinds := [], alts := [], laidByText := true, laidKinds := [.data, .data, .data, .data, .pinned], laidTests := true, laidLooks := .later }
def RouteOnceCardSaid : Prop := Claim7.holds Tryd.pinned (.plain (OpenSpec.ofChange routeOnceSpec)) routeOnceCard

/-- THE TIED CARD OF 'atriumlaw20.RouteEscapes'. -/
def routeEscapesCard : Claim7 := { stood := { row := routeEscapesRow, standIns := [], harness := (true, "e54d3bee942049bba2b184e9bace0a38c90d2c382088f0cb93620b8f0d55302d"), looks := false }, kinds := [], alts := [], laidByText := true, laidKinds := [.data, .data, .data, .data, .pinned], laidTests := true, laidLooks := .later }
def RouteEscapesCardSaid : Prop := Claim7.holds Tryd.pinned (.plain (OpenSpec.ofChange routeEscapesSpec)) routeEscapesCard

/-- THE SECOND FORM's CARD OF 'atriumlaw20.RouteFinds'. -/
def routeFindsUptoCard : Claim7 := { stood := { row := routeFindsUptoRow, standIns := [], harness := (true, "e54d3bee942049bba2b184e9bace0a38c90d2c382088f0cb93620b8f0d55302d"), looks := false }, kinds := [], alts := [], laidByText := true, laidKinds := [.data, .data, .data, .data, .pinned], laidTests := true, laidLooks := .later }
def RouteFindsUptoCardSaid : Prop := Claim7.holds Tryd.pinned (.plain (OpenSpec.upto routeFindsSpec)) routeFindsUptoCard

/-- THE SECOND FORM's CARD OF 'atriumlaw20.RouteSplits'. -/
def routeSplitsUptoCard : Claim7 := { stood := { row := routeSplitsUptoRow, standIns := [], harness := (true, "e54d3bee942049bba2b184e9bace0a38c90d2c382088f0cb93620b8f0d55302d"), looks := false }, kinds := [], alts := [], laidByText := true, laidKinds := [.data, .data, .data, .data, .pinned], laidTests := true, laidLooks := .later }
def RouteSplitsUptoCardSaid : Prop := Claim7.holds Tryd.pinned (.plain (OpenSpec.upto routeSplitsSpec)) routeSplitsUptoCard

/-- THE SECOND FORM's CARD OF 'atriumlaw20.RouteBack'. -/
def routeBackUptoCard : Claim7 := { stood := { row := routeBackUptoRow, standIns := [], harness := (true, "e54d3bee942049bba2b184e9bace0a38c90d2c382088f0cb93620b8f0d55302d"), looks := false }, kinds := [], alts := [], laidByText := true, laidKinds := [.data, .data, .data, .data, .pinned], laidTests := true, laidLooks := .later }
def RouteBackUptoCardSaid : Prop := Claim7.holds Tryd.pinned (.plain (OpenSpec.upto routeBackSpec)) routeBackUptoCard

/-- THE SECOND FORM's CARD OF 'atriumlaw20.RouteOnce'. -/
def routeOnceUptoCard : Claim7 := { stood := { row := routeOnceUptoRow, standIns := [], harness := (true, "e54d3bee942049bba2b184e9bace0a38c90d2c382088f0cb93620b8f0d55302d"), looks := false }, kinds := [], alts := [], laidByText := true, laidKinds := [.data, .data, .data, .data, .pinned], laidTests := true, laidLooks := .later }
def RouteOnceUptoCardSaid : Prop := Claim7.holds Tryd.pinned (.plain (OpenSpec.upto routeOnceSpec)) routeOnceUptoCard

/-- THE SECOND FORM's CARD OF 'atriumlaw20.RouteEscapes'. -/
def routeEscapesUptoCard : Claim7 := { stood := { row := routeEscapesUptoRow, standIns := [], harness := (true, "e54d3bee942049bba2b184e9bace0a38c90d2c382088f0cb93620b8f0d55302d"), looks := false }, kinds := [], alts := [], laidByText := true, laidKinds := [.data, .data, .data, .data, .pinned], laidTests := true, laidLooks := .later }
def RouteEscapesUptoCardSaid : Prop := Claim7.holds Tryd.pinned (.plain (OpenSpec.upto routeEscapesSpec)) routeEscapesUptoCard
end Rows
end Go.Proofs.YtbpfggpljfpfcaaDoor
