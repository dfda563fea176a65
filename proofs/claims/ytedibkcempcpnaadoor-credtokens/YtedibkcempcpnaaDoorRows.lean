/-
  NARROWER THAN 'FOR EVERY INPUT', by the rows' own cells (each row's printed sentence says how): CredMints: laid · CredVerifies: laid · CredOwn: laid · CredTokens: laid · CredApart: laid.
  DERIVED. THE GIVEN ROWS OF THIS SEAT. 5 by the template 'for every input the law returns true; each argument reads behind the call as it read before'; 0 by the template 'total and deterministic' (their statements: YtedibkcempcpnaaDoorTotals.lean).
  GIVEN WITH THE SEED: the statements are not yours to turn. If you find one false, say at which input.
  Laid BY PROGRAM, IN A SANDBOX (cutbox-rows.mjs): the forced cells as the released guide's own fill.sh prints them over the translation 01dbec9d3727bcd7… (all of the seat's roots in one cut). By AI agents, Wed Nov 11 2026. No macro, syntax, notation, axiom, sorry.
-/
import Derived.Test.YtedibkcempcpnaaDoorChecked
import GoSem.Claim
import GoSem.ClaimJoined
import GoSem.ClaimMapViews
import Derived.JoinedTies
import Derived.KernelRfl
namespace Go.Proofs.YtedibkcempcpnaaDoor
/- THE CELL 'sum', in the pinned program and in every row, IS THE sha256 OF THE DUMP (.gsa) THAT YtedibkcempcpnaaDoorProg.lean LOADS. Nothing in Lean hashes anything: it is a label: what it is worth is what the hold of that sum in a sandbox is worth. -/
noncomputable def Tryd.pinned : Pinned := { name := "ytedibkcempcpnaadoor", sum := "01dbec9d3727bcd732fc96c69c71e35d95f7bbf734bb3be503bfd5c1ecb6247a", checked := Tryd.checked }
namespace Rows
def none {H : Type} : Left H := { results := [], args := [] }

/- WHAT THE LISTED PACKAGE-LEVEL VARIABLES READ AS WHEN THE CALL BEGINS. Each datum BY PROGRAM (the guide's laid-datum.mjs) off the statement by which the dump's own 'gosem.cut.vars' lays the variable. In a bare row this is a premise. The card (YtedibkcempcpnaaDoorCards.lean) ties it to the program's text. -/
def laid_atrium_mac_roundWords {H : Type} : DataW H := .agg [.lit (.int .u32 1116352408), .lit (.int .u32 1899447441), .lit (.int .u32 3049323471), .lit (.int .u32 3921009573), .lit (.int .u32 961987163), .lit (.int .u32 1508970993), .lit (.int .u32 2453635748), .lit (.int .u32 2870763221), .lit (.int .u32 3624381080), .lit (.int .u32 310598401), .lit (.int .u32 607225278), .lit (.int .u32 1426881987), .lit (.int .u32 1925078388), .lit (.int .u32 2162078206), .lit (.int .u32 2614888103), .lit (.int .u32 3248222580), .lit (.int .u32 3835390401), .lit (.int .u32 4022224774), .lit (.int .u32 264347078), .lit (.int .u32 604807628), .lit (.int .u32 770255983), .lit (.int .u32 1249150122), .lit (.int .u32 1555081692), .lit (.int .u32 1996064986), .lit (.int .u32 2554220882), .lit (.int .u32 2821834349), .lit (.int .u32 2952996808), .lit (.int .u32 3210313671), .lit (.int .u32 3336571891), .lit (.int .u32 3584528711), .lit (.int .u32 113926993), .lit (.int .u32 338241895), .lit (.int .u32 666307205), .lit (.int .u32 773529912), .lit (.int .u32 1294757372), .lit (.int .u32 1396182291), .lit (.int .u32 1695183700), .lit (.int .u32 1986661051), .lit (.int .u32 2177026350), .lit (.int .u32 2456956037), .lit (.int .u32 2730485921), .lit (.int .u32 2820302411), .lit (.int .u32 3259730800), .lit (.int .u32 3345764771), .lit (.int .u32 3516065817), .lit (.int .u32 3600352804), .lit (.int .u32 4094571909), .lit (.int .u32 275423344), .lit (.int .u32 430227734), .lit (.int .u32 506948616), .lit (.int .u32 659060556), .lit (.int .u32 883997877), .lit (.int .u32 958139571), .lit (.int .u32 1322822218), .lit (.int .u32 1537002063), .lit (.int .u32 1747873779), .lit (.int .u32 1955562222), .lit (.int .u32 2024104815), .lit (.int .u32 2227730452), .lit (.int .u32 2361852424), .lit (.int .u32 2428436474), .lit (.int .u32 2756734187), .lit (.int .u32 3204031479), .lit (.int .u32 3329325298)]

/-- 'atriumlaw21.CredMints': WHATEVER THE INPUT: true; the input reads as it did. -/
def credMintsSpec : ChangeSpec := { name := "credMints", fn := fun _ => fun
  | [d1, d2] => { results := [.lit (.bool true)], args := [d1, d2] }
  | _ => none }
def credMintsRow : OpenClaim := { program := "ytedibkcempcpnaadoor", sum := "01dbec9d3727bcd732fc96c69c71e35d95f7bbf734bb3be503bfd5c1ecb6247a", func := "atrium/atriumlaw21.CredMints", spec := "credMints", inPlace := ["internal/bytealg.IndexByteString", "internal/bytealg.IndexString"], named := ["atrium/mac.roundWords", "internal/bytealg.MaxLen"], apart := false, laid := [("atrium/mac.roundWords", laid_atrium_mac_roundWords)] }
def CredMintsSaid : Prop := credMintsRow.holds Tryd.pinned (OpenSpec.ofChange credMintsSpec)

/-- ITS FALSE NEIGHBOUR: 'it returns false'. Refute it at one input. -/
def credMintsWrong : ChangeSpec := { name := "credMints", fn := fun _ => fun
  | [d1, d2] => { results := [.lit (.bool false)], args := [d1, d2] }
  | _ => none }
def CredMintsWrongFalsely : Prop := credMintsRow.holds Tryd.pinned (OpenSpec.ofChange credMintsWrong)

/-- 'atriumlaw21.CredVerifies': WHATEVER THE INPUT: true; the input reads as it did. -/
def credVerifiesSpec : ChangeSpec := { name := "credVerifies", fn := fun _ => fun
  | [d1, d2, d3] => { results := [.lit (.bool true)], args := [d1, d2, d3] }
  | _ => none }
def credVerifiesRow : OpenClaim := { program := "ytedibkcempcpnaadoor", sum := "01dbec9d3727bcd732fc96c69c71e35d95f7bbf734bb3be503bfd5c1ecb6247a", func := "atrium/atriumlaw21.CredVerifies", spec := "credVerifies", inPlace := ["internal/bytealg.IndexByteString", "internal/bytealg.IndexString"], named := ["internal/bytealg.MaxLen", "atrium/mac.roundWords"], apart := false, laid := [("atrium/mac.roundWords", laid_atrium_mac_roundWords)] }
def CredVerifiesSaid : Prop := credVerifiesRow.holds Tryd.pinned (OpenSpec.ofChange credVerifiesSpec)

/-- ITS FALSE NEIGHBOUR: 'it returns false'. Refute it at one input. -/
def credVerifiesWrong : ChangeSpec := { name := "credVerifies", fn := fun _ => fun
  | [d1, d2, d3] => { results := [.lit (.bool false)], args := [d1, d2, d3] }
  | _ => none }
def CredVerifiesWrongFalsely : Prop := credVerifiesRow.holds Tryd.pinned (OpenSpec.ofChange credVerifiesWrong)

/-- 'atriumlaw21.CredOwn': WHATEVER THE INPUT: true; the input reads as it did. -/
def credOwnSpec : ChangeSpec := { name := "credOwn", fn := fun _ => fun
  | [d1, d2, d3, d4] => { results := [.lit (.bool true)], args := [d1, d2, d3, d4] }
  | _ => none }
def credOwnRow : OpenClaim := { program := "ytedibkcempcpnaadoor", sum := "01dbec9d3727bcd732fc96c69c71e35d95f7bbf734bb3be503bfd5c1ecb6247a", func := "atrium/atriumlaw21.CredOwn", spec := "credOwn", inPlace := ["internal/bytealg.IndexByteString", "internal/bytealg.IndexString"], named := ["atrium/mac.roundWords", "internal/bytealg.MaxLen"], apart := false, laid := [("atrium/mac.roundWords", laid_atrium_mac_roundWords)] }
def CredOwnSaid : Prop := credOwnRow.holds Tryd.pinned (OpenSpec.ofChange credOwnSpec)

/-- ITS FALSE NEIGHBOUR: 'it returns false'. Refute it at one input. -/
def credOwnWrong : ChangeSpec := { name := "credOwn", fn := fun _ => fun
  | [d1, d2, d3, d4] => { results := [.lit (.bool false)], args := [d1, d2, d3, d4] }
  | _ => none }
def CredOwnWrongFalsely : Prop := credOwnRow.holds Tryd.pinned (OpenSpec.ofChange credOwnWrong)

/-- 'atriumlaw21.CredTokens': WHATEVER THE INPUT: true; the input reads as it did. -/
def credTokensSpec : ChangeSpec := { name := "credTokens", fn := fun _ => fun
  | [d1, d2, d3, d4, d5] => { results := [.lit (.bool true)], args := [d1, d2, d3, d4, d5] }
  | _ => none }
def credTokensRow : OpenClaim := { program := "ytedibkcempcpnaadoor", sum := "01dbec9d3727bcd732fc96c69c71e35d95f7bbf734bb3be503bfd5c1ecb6247a", func := "atrium/atriumlaw21.CredTokens", spec := "credTokens", inPlace := ["internal/bytealg.IndexByteString", "internal/bytealg.IndexString"], named := ["atrium/mac.roundWords", "internal/bytealg.MaxLen"], apart := false, laid := [("atrium/mac.roundWords", laid_atrium_mac_roundWords)] }
def CredTokensSaid : Prop := credTokensRow.holds Tryd.pinned (OpenSpec.ofChange credTokensSpec)

/-- ITS FALSE NEIGHBOUR: 'it returns false'. Refute it at one input. -/
def credTokensWrong : ChangeSpec := { name := "credTokens", fn := fun _ => fun
  | [d1, d2, d3, d4, d5] => { results := [.lit (.bool false)], args := [d1, d2, d3, d4, d5] }
  | _ => none }
def CredTokensWrongFalsely : Prop := credTokensRow.holds Tryd.pinned (OpenSpec.ofChange credTokensWrong)

/-- 'atriumlaw21.CredApart': WHATEVER THE INPUT: true; the input reads as it did. -/
def credApartSpec : ChangeSpec := { name := "credApart", fn := fun _ => fun
  | [d1, d2] => { results := [.lit (.bool true)], args := [d1, d2] }
  | _ => none }
def credApartRow : OpenClaim := { program := "ytedibkcempcpnaadoor", sum := "01dbec9d3727bcd732fc96c69c71e35d95f7bbf734bb3be503bfd5c1ecb6247a", func := "atrium/atriumlaw21.CredApart", spec := "credApart", inPlace := ["internal/bytealg.IndexByteString", "internal/bytealg.IndexString"], named := ["atrium/mac.roundWords", "internal/bytealg.MaxLen"], apart := false, laid := [("atrium/mac.roundWords", laid_atrium_mac_roundWords)] }
def CredApartSaid : Prop := credApartRow.holds Tryd.pinned (OpenSpec.ofChange credApartSpec)

/-- ITS FALSE NEIGHBOUR: 'it returns false'. Refute it at one input. -/
def credApartWrong : ChangeSpec := { name := "credApart", fn := fun _ => fun
  | [d1, d2] => { results := [.lit (.bool false)], args := [d1, d2] }
  | _ => none }
def CredApartWrongFalsely : Prop := credApartRow.holds Tryd.pinned (OpenSpec.ofChange credApartWrong)

/- THE SECOND FORM. 'bulk': how many values and letters a reading holds, each counted each time it is reached (what is shared counts as often as it is met; a slice's spare places count too). A statement '..UptoSaid' is the law's where the arguments, and the package variables that the reading takes, are together of bulk at most 1048576: NARROWER than '..Said'. Prove '..Said' where nothing that the law and all that it calls make is longer than what came in: it says more and counts as full. Else prove '..UptoSaid'. A law counts once. -/
mutual
def uptoBulk {H : Type} : DataW H → Nat
  | .lit (.string bytes) => bytes.length + 1
  | .lit _ => 1
  | .nil => 1
  | .ptr d => uptoBulk d + 1
  | .slice elems spare => uptoBulkAll elems + uptoBulkAll spare + 1
  | .agg parts => uptoBulkAll parts + 1
  | .iface _ d => uptoBulk d + 1
  | .map entries => uptoBulkEntries entries + 1
  | .held _ => 1
def uptoBulkAll {H : Type} : List (DataW H) → Nat
  | [] => 0
  | d :: r => uptoBulk d + uptoBulkAll r
def uptoBulkEntries {H : Type} : List (Lit × DataW H) → Nat
  | [] => 0
  | x :: r => uptoBulkEntry x + uptoBulkEntries r
def uptoBulkEntry {H : Type} : Lit × DataW H → Nat
  | (.string bytes, d) => bytes.length + uptoBulk d + 1
  | (_, d) => uptoBulk d + 1
 end
def uptoSmall : (H : Type) → List (DataW H) → Bool := fun _ ds => decide (uptoBulkAll ds ≤ 1048576)
def OpenSpec.upto (s : _root_.Go.ChangeSpec) : _root_.Go.OpenSpec := { _root_.Go.OpenSpec.ofChange s with cond := some uptoSmall }

/-- 'atriumlaw21.CredMints', WHERE WHAT IT READS IS OF BULK AT MOST 1048576: true; the input reads as it did. -/
def credMintsUptoRow : OpenClaim := { program := "ytedibkcempcpnaadoor", sum := "01dbec9d3727bcd732fc96c69c71e35d95f7bbf734bb3be503bfd5c1ecb6247a", func := "atrium/atriumlaw21.CredMints", spec := "credMints", inPlace := ["internal/bytealg.IndexByteString", "internal/bytealg.IndexString"], named := ["atrium/mac.roundWords", "internal/bytealg.MaxLen"], apart := false, laid := [("atrium/mac.roundWords", laid_atrium_mac_roundWords)], narrowed := true }
def CredMintsUptoSaid : Prop := credMintsUptoRow.holds Tryd.pinned (OpenSpec.upto credMintsSpec)

/-- 'atriumlaw21.CredVerifies', WHERE WHAT IT READS IS OF BULK AT MOST 1048576: true; the input reads as it did. -/
def credVerifiesUptoRow : OpenClaim := { program := "ytedibkcempcpnaadoor", sum := "01dbec9d3727bcd732fc96c69c71e35d95f7bbf734bb3be503bfd5c1ecb6247a", func := "atrium/atriumlaw21.CredVerifies", spec := "credVerifies", inPlace := ["internal/bytealg.IndexByteString", "internal/bytealg.IndexString"], named := ["internal/bytealg.MaxLen", "atrium/mac.roundWords"], apart := false, laid := [("atrium/mac.roundWords", laid_atrium_mac_roundWords)], narrowed := true }
def CredVerifiesUptoSaid : Prop := credVerifiesUptoRow.holds Tryd.pinned (OpenSpec.upto credVerifiesSpec)

/-- 'atriumlaw21.CredOwn', WHERE WHAT IT READS IS OF BULK AT MOST 1048576: true; the input reads as it did. -/
def credOwnUptoRow : OpenClaim := { program := "ytedibkcempcpnaadoor", sum := "01dbec9d3727bcd732fc96c69c71e35d95f7bbf734bb3be503bfd5c1ecb6247a", func := "atrium/atriumlaw21.CredOwn", spec := "credOwn", inPlace := ["internal/bytealg.IndexByteString", "internal/bytealg.IndexString"], named := ["atrium/mac.roundWords", "internal/bytealg.MaxLen"], apart := false, laid := [("atrium/mac.roundWords", laid_atrium_mac_roundWords)], narrowed := true }
def CredOwnUptoSaid : Prop := credOwnUptoRow.holds Tryd.pinned (OpenSpec.upto credOwnSpec)

/-- 'atriumlaw21.CredTokens', WHERE WHAT IT READS IS OF BULK AT MOST 1048576: true; the input reads as it did. -/
def credTokensUptoRow : OpenClaim := { program := "ytedibkcempcpnaadoor", sum := "01dbec9d3727bcd732fc96c69c71e35d95f7bbf734bb3be503bfd5c1ecb6247a", func := "atrium/atriumlaw21.CredTokens", spec := "credTokens", inPlace := ["internal/bytealg.IndexByteString", "internal/bytealg.IndexString"], named := ["atrium/mac.roundWords", "internal/bytealg.MaxLen"], apart := false, laid := [("atrium/mac.roundWords", laid_atrium_mac_roundWords)], narrowed := true }
def CredTokensUptoSaid : Prop := credTokensUptoRow.holds Tryd.pinned (OpenSpec.upto credTokensSpec)

/-- 'atriumlaw21.CredApart', WHERE WHAT IT READS IS OF BULK AT MOST 1048576: true; the input reads as it did. -/
def credApartUptoRow : OpenClaim := { program := "ytedibkcempcpnaadoor", sum := "01dbec9d3727bcd732fc96c69c71e35d95f7bbf734bb3be503bfd5c1ecb6247a", func := "atrium/atriumlaw21.CredApart", spec := "credApart", inPlace := ["internal/bytealg.IndexByteString", "internal/bytealg.IndexString"], named := ["atrium/mac.roundWords", "internal/bytealg.MaxLen"], apart := false, laid := [("atrium/mac.roundWords", laid_atrium_mac_roundWords)], narrowed := true }
def CredApartUptoSaid : Prop := credApartUptoRow.holds Tryd.pinned (OpenSpec.upto credApartSpec)

end Rows
end Go.Proofs.YtedibkcempcpnaaDoor
