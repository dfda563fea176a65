/-
  DERIVED. GIVEN WITH THE SEED: THE CARDS: each row of YtedibkcempcpnaaDoorRows.lean that lists a variable, with what it lists TIED to the program's text (the seventh form; the later family's looks); each row that meets fmt, with fmt's text TOLD by the authors' own Lean function (tested against real Go, not proved from fmt's source: count such statements apart). THE CARD IS WHAT COUNTS. Prove the row's statement (the work); the ties are given (YtedibkcempcpnaaDoorTie.lean); close each card by the builder's one call (the guide's Derived/Test/ToyasCard.lean, 'card_holds'). Laid BY PROGRAM, IN A SANDBOX (cutbox-door.mjs). By AI agents, Wed Nov 11 2026. No macro, syntax, notation, axiom, sorry.
-/
import Derived.Test.YtedibkcempcpnaaDoorRows
import GoSem.ClaimSeven
namespace Go.Proofs.YtedibkcempcpnaaDoor
namespace Rows

/-- THE TIED CARD OF 'atriumlaw21.CredMints'. -/
def credMintsCard : Claim7 := { stood := { row := credMintsRow, standIns := [], harness := (true, "5329108b160e653814a6a8161a38298b23a469dc3129adaae2f3e3079ea0d232"), looks := false }, kinds := [], alts := [], laidByText := true, laidKinds := [.data], laidTests := true, laidLooks := .later }
def CredMintsCardSaid : Prop := Claim7.holds Tryd.pinned (.plain (OpenSpec.ofChange credMintsSpec)) credMintsCard

/-- THE TIED CARD OF 'atriumlaw21.CredVerifies'. -/
def credVerifiesCard : Claim7 := { stood := { row := credVerifiesRow, standIns := [], harness := (true, "5329108b160e653814a6a8161a38298b23a469dc3129adaae2f3e3079ea0d232"), looks := false }, kinds := [], alts := [], laidByText := true, laidKinds := [.data], laidTests := true, laidLooks := .later }
def CredVerifiesCardSaid : Prop := Claim7.holds Tryd.pinned (.plain (OpenSpec.ofChange credVerifiesSpec)) credVerifiesCard

/-- THE TIED CARD OF 'atriumlaw21.CredOwn'. -/
def credOwnCard : Claim7 := { stood := { row := credOwnRow, standIns := [], harness := (true, "5329108b160e653814a6a8161a38298b23a469dc3129adaae2f3e3079ea0d232"), looks := false }, kinds := [], alts := [], laidByText := true, laidKinds := [.data], laidTests := true, laidLooks := .later }
def CredOwnCardSaid : Prop := Claim7.holds Tryd.pinned (.plain (OpenSpec.ofChange credOwnSpec)) credOwnCard

/-- THE TIED CARD OF 'atriumlaw21.CredTokens'. -/
def credTokensCard : Claim7 := { stood := { row := credTokensRow, standIns := [], harness := (true, "5329108b160e653814a6a8161a38298b23a469dc3129adaae2f3e3079ea0d232"), looks := false }, kinds := [], alts := [], laidByText := true, laidKinds := [.data], laidTests := true, laidLooks := .later }
def CredTokensCardSaid : Prop := Claim7.holds Tryd.pinned (.plain (OpenSpec.ofChange credTokensSpec)) credTokensCard

/-- THE TIED CARD OF 'atriumlaw21.CredApart'. -/
def credApartCard : Claim7 := { stood := { row := credApartRow, standIns := [], harness := (true, "5329108b160e653814a6a8161a38298b23a469dc3129adaae2f3e3079ea0d232"), looks := false }, kinds := [], alts := [], laidByText := true, laidKinds := [.data], laidTests := true, laidLooks := .later }
def CredApartCardSaid : Prop := Claim7.holds Tryd.pinned (.plain (OpenSpec.ofChange credApartSpec)) credApartCard

/-- THE SECOND FORM's CARD OF 'atriumlaw21.CredMints'. -/
def credMintsUptoCard : Claim7 := { stood := { row := credMintsUptoRow, standIns := [], harness := (true, "5329108b160e653814a6a8161a38298b23a469dc3129adaae2f3e3079ea0d232"), looks := false }, kinds := [], alts := [], laidByText := true, laidKinds := [.data], laidTests := true, laidLooks := .later }
def CredMintsUptoCardSaid : Prop := Claim7.holds Tryd.pinned (.plain (OpenSpec.upto credMintsSpec)) credMintsUptoCard

/-- THE SECOND FORM's CARD OF 'atriumlaw21.CredVerifies'. -/
def credVerifiesUptoCard : Claim7 := { stood := { row := credVerifiesUptoRow, standIns := [], harness := (true, "5329108b160e653814a6a8161a38298b23a469dc3129adaae2f3e3079ea0d232"), looks := false }, kinds := [], alts := [], laidByText := true, laidKinds := [.data], laidTests := true, laidLooks := .later }
def CredVerifiesUptoCardSaid : Prop := Claim7.holds Tryd.pinned (.plain (OpenSpec.upto credVerifiesSpec)) credVerifiesUptoCard

/-- THE SECOND FORM's CARD OF 'atriumlaw21.CredOwn'. -/
def credOwnUptoCard : Claim7 := { stood := { row := credOwnUptoRow, standIns := [], harness := (true, "5329108b160e653814a6a8161a38298b23a469dc3129adaae2f3e3079ea0d232"), looks := false }, kinds := [], alts := [], laidByText := true, laidKinds := [.data], laidTests := true, laidLooks := .later }
def CredOwnUptoCardSaid : Prop := Claim7.holds Tryd.pinned (.plain (OpenSpec.upto credOwnSpec)) credOwnUptoCard

/-- THE SECOND FORM's CARD OF 'atriumlaw21.CredTokens'. -/
def credTokensUptoCard : Claim7 := { stood := { row := credTokensUptoRow, standIns := [], harness := (true, "5329108b160e653814a6a8161a38298b23a469dc3129adaae2f3e3079ea0d232"), looks := false }, kinds := [], alts := [], laidByText := true, laidKinds := [.data], laidTests := true, laidLooks := .later }
def CredTokensUptoCardSaid : Prop := Claim7.holds Tryd.pinned (.plain (OpenSpec.upto credTokensSpec)) credTokensUptoCard

/-- THE SECOND FORM's CARD OF 'atriumlaw21.CredApart'. -/
def credApartUptoCard : Claim7 := { stood := { row := credApartUptoRow, standIns := [], harness := (true, "5329108b160e653814a6a8161a38298b23a469dc3129adaae2f3e3079ea0d232"), looks := false }, kinds := [], alts := [], laidByText := true, laidKinds := [.data], laidTests := true, laidLooks := .later }
def CredApartUptoCardSaid : Prop := Claim7.holds Tryd.pinned (.plain (OpenSpec.upto credApartSpec)) credApartUptoCard
end Rows
end Go.Proofs.YtedibkcempcpnaaDoor
