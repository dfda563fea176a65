/-
  No cell of these rows narrows 'for every input' (looked for: loops, veiled, ifaces, maps, wideKeys, modest, calm, conditions, laid).
  DERIVED. THE GIVEN ROWS OF THIS SEAT. 6 by the template 'for every input the law returns true; each argument reads behind the call as it read before'; 0 by the template 'total and deterministic' (their statements: YtdgmjmohfpjlnaaTotals.lean).
  GIVEN WITH THE SEED: the statements are not yours to turn. If you find one false, say at which input.
  Laid BY PROGRAM, IN A SANDBOX (cutbox-rows.mjs): the forced cells as the released guide's own fill.sh prints them over the translation a3451b45878afb42… (all of the seat's roots in one cut). By AI agents, Wed Nov 11 2026. No macro, syntax, notation, axiom, sorry.
-/
import Derived.Test.YtdgmjmohfpjlnaaChecked
import GoSem.Claim
import GoSem.ClaimJoined
import GoSem.ClaimMapViews
import Derived.JoinedTies
import Derived.KernelRfl
namespace Go.Proofs.Ytdgmjmohfpjlnaa
/- THE CELL 'sum', in the pinned program and in every row, IS THE sha256 OF THE DUMP (.gsa) THAT YtdgmjmohfpjlnaaProg.lean LOADS. Nothing in Lean hashes anything: it is a label: what it is worth is what the hold of that sum in a sandbox is worth. -/
noncomputable def Try.pinned : Pinned := { name := "ytdgmjmohfpjlnaa", sum := "a3451b45878afb42bc361df0851e6d525c83cf3860c927a0415525bfa8243058", checked := Try.checked }
namespace Rows
def none {H : Type} : Left H := { results := [], args := [] }

/-- 'atriumlaw06.MemDoes': WHATEVER THE INPUT: true; the input reads as it did. -/
def memDoesSpec : ChangeSpec := { name := "memDoes", fn := fun _ => fun
  | [d] => { results := [.lit (.bool true)], args := [d] }
  | _ => none }
def memDoesRow : OpenClaim := { program := "ytdgmjmohfpjlnaa", sum := "a3451b45878afb42bc361df0851e6d525c83cf3860c927a0415525bfa8243058", func := "atrium/atriumlaw06.MemDoes", spec := "memDoes", unfollowed := true, recurses := true, apart := false }
def MemDoesSaid : Prop := memDoesRow.holds Try.pinned (OpenSpec.ofChange memDoesSpec)

/-- ITS FALSE NEIGHBOUR: 'it returns false'. Refute it at one input. -/
def memDoesWrong : ChangeSpec := { name := "memDoes", fn := fun _ => fun
  | [d] => { results := [.lit (.bool false)], args := [d] }
  | _ => none }
def MemDoesWrongFalsely : Prop := memDoesRow.holds Try.pinned (OpenSpec.ofChange memDoesWrong)

/-- 'atriumlaw06.MemForks': WHATEVER THE INPUT: true; the input reads as it did. -/
def memForksSpec : ChangeSpec := { name := "memForks", fn := fun _ => fun
  | [d1, d2] => { results := [.lit (.bool true)], args := [d1, d2] }
  | _ => none }
def memForksRow : OpenClaim := { program := "ytdgmjmohfpjlnaa", sum := "a3451b45878afb42bc361df0851e6d525c83cf3860c927a0415525bfa8243058", func := "atrium/atriumlaw06.MemForks", spec := "memForks", unfollowed := true, recurses := true, apart := false }
def MemForksSaid : Prop := memForksRow.holds Try.pinned (OpenSpec.ofChange memForksSpec)

/-- ITS FALSE NEIGHBOUR: 'it returns false'. Refute it at one input. -/
def memForksWrong : ChangeSpec := { name := "memForks", fn := fun _ => fun
  | [d1, d2] => { results := [.lit (.bool false)], args := [d1, d2] }
  | _ => none }
def MemForksWrongFalsely : Prop := memForksRow.holds Try.pinned (OpenSpec.ofChange memForksWrong)

/-- 'atriumlaw06.MemHeights': WHATEVER THE INPUT: true; the input reads as it did. -/
def memHeightsSpec : ChangeSpec := { name := "memHeights", fn := fun _ => fun
  | [d1, d2, d3] => { results := [.lit (.bool true)], args := [d1, d2, d3] }
  | _ => none }
def memHeightsRow : OpenClaim := { program := "ytdgmjmohfpjlnaa", sum := "a3451b45878afb42bc361df0851e6d525c83cf3860c927a0415525bfa8243058", func := "atrium/atriumlaw06.MemHeights", spec := "memHeights", unfollowed := true, recurses := true, apart := false }
def MemHeightsSaid : Prop := memHeightsRow.holds Try.pinned (OpenSpec.ofChange memHeightsSpec)

/-- ITS FALSE NEIGHBOUR: 'it returns false'. Refute it at one input. -/
def memHeightsWrong : ChangeSpec := { name := "memHeights", fn := fun _ => fun
  | [d1, d2, d3] => { results := [.lit (.bool false)], args := [d1, d2, d3] }
  | _ => none }
def MemHeightsWrongFalsely : Prop := memHeightsRow.holds Try.pinned (OpenSpec.ofChange memHeightsWrong)

/-- 'atriumlaw06.MemSnapshots': WHATEVER THE INPUT: true; the input reads as it did. -/
def memSnapshotsSpec : ChangeSpec := { name := "memSnapshots", fn := fun _ => fun
  | [d1, d2, d3] => { results := [.lit (.bool true)], args := [d1, d2, d3] }
  | _ => none }
def memSnapshotsRow : OpenClaim := { program := "ytdgmjmohfpjlnaa", sum := "a3451b45878afb42bc361df0851e6d525c83cf3860c927a0415525bfa8243058", func := "atrium/atriumlaw06.MemSnapshots", spec := "memSnapshots", unfollowed := true, recurses := true, apart := false }
def MemSnapshotsSaid : Prop := memSnapshotsRow.holds Try.pinned (OpenSpec.ofChange memSnapshotsSpec)

/-- ITS FALSE NEIGHBOUR: 'it returns false'. Refute it at one input. -/
def memSnapshotsWrong : ChangeSpec := { name := "memSnapshots", fn := fun _ => fun
  | [d1, d2, d3] => { results := [.lit (.bool false)], args := [d1, d2, d3] }
  | _ => none }
def MemSnapshotsWrongFalsely : Prop := memSnapshotsRow.holds Try.pinned (OpenSpec.ofChange memSnapshotsWrong)

/-- 'atriumlaw06.MemOrder': WHATEVER THE INPUT: true; the input reads as it did. -/
def memOrderSpec : ChangeSpec := { name := "memOrder", fn := fun _ => fun
  | [d1, d2] => { results := [.lit (.bool true)], args := [d1, d2] }
  | _ => none }
def memOrderRow : OpenClaim := { program := "ytdgmjmohfpjlnaa", sum := "a3451b45878afb42bc361df0851e6d525c83cf3860c927a0415525bfa8243058", func := "atrium/atriumlaw06.MemOrder", spec := "memOrder", unfollowed := true, recurses := true, apart := false }
def MemOrderSaid : Prop := memOrderRow.holds Try.pinned (OpenSpec.ofChange memOrderSpec)

/-- ITS FALSE NEIGHBOUR: 'it returns false'. Refute it at one input. -/
def memOrderWrong : ChangeSpec := { name := "memOrder", fn := fun _ => fun
  | [d1, d2] => { results := [.lit (.bool false)], args := [d1, d2] }
  | _ => none }
def MemOrderWrongFalsely : Prop := memOrderRow.holds Try.pinned (OpenSpec.ofChange memOrderWrong)

/-- 'atriumlaw06.MemNobody': WHATEVER THE INPUT: true; the input reads as it did. -/
def memNobodySpec : ChangeSpec := { name := "memNobody", fn := fun _ => fun
  | [d] => { results := [.lit (.bool true)], args := [d] }
  | _ => none }
def memNobodyRow : OpenClaim := { program := "ytdgmjmohfpjlnaa", sum := "a3451b45878afb42bc361df0851e6d525c83cf3860c927a0415525bfa8243058", func := "atrium/atriumlaw06.MemNobody", spec := "memNobody", unfollowed := true, recurses := true, apart := false }
def MemNobodySaid : Prop := memNobodyRow.holds Try.pinned (OpenSpec.ofChange memNobodySpec)

/-- ITS FALSE NEIGHBOUR: 'it returns false'. Refute it at one input. -/
def memNobodyWrong : ChangeSpec := { name := "memNobody", fn := fun _ => fun
  | [d] => { results := [.lit (.bool false)], args := [d] }
  | _ => none }
def MemNobodyWrongFalsely : Prop := memNobodyRow.holds Try.pinned (OpenSpec.ofChange memNobodyWrong)

/- THE SECOND FORM. 'bulk': how many values and letters a reading holds, each counted each time it is reached (what is shared counts as often as it is met; a slice's spare places count too). A statement '..UptoSaid' is the law's where the arguments, and the package variables that the reading takes, are together of bulk at most 1048576: NARROWER than '..Said'. Prove '..Said' where nothing that the law and all that it calls make is longer than what came in: it says more and counts as full. Else prove '..UptoSaid'. A law counts once. -/
mutual
def uptoBulk {H : Type} : DataW H → Nat
  | .lit (.string bytes) => bytes.length + 1
  | .lit _ => 1
  | .nil => 1
  | .ptr d => uptoBulk d + 1
  | .slice elems spare => uptoBulkAll elems + uptoBulkAll spare + 1
  | .agg parts => uptoBulkAll parts + 1
  | .iface _ d => uptoBulk d + 1
  | .map entries => uptoBulkEntries entries + 1
  | .held _ => 1
def uptoBulkAll {H : Type} : List (DataW H) → Nat
  | [] => 0
  | d :: r => uptoBulk d + uptoBulkAll r
def uptoBulkEntries {H : Type} : List (Lit × DataW H) → Nat
  | [] => 0
  | x :: r => uptoBulkEntry x + uptoBulkEntries r
def uptoBulkEntry {H : Type} : Lit × DataW H → Nat
  | (.string bytes, d) => bytes.length + uptoBulk d + 1
  | (_, d) => uptoBulk d + 1
 end
def uptoSmall : (H : Type) → List (DataW H) → Bool := fun _ ds => decide (uptoBulkAll ds ≤ 1048576)
def OpenSpec.upto (s : _root_.Go.ChangeSpec) : _root_.Go.OpenSpec := { _root_.Go.OpenSpec.ofChange s with cond := some uptoSmall }

/-- 'atriumlaw06.MemDoes', WHERE WHAT IT READS IS OF BULK AT MOST 1048576: true; the input reads as it did. -/
def memDoesUptoRow : OpenClaim := { program := "ytdgmjmohfpjlnaa", sum := "a3451b45878afb42bc361df0851e6d525c83cf3860c927a0415525bfa8243058", func := "atrium/atriumlaw06.MemDoes", spec := "memDoes", unfollowed := true, recurses := true, apart := false, narrowed := true }
def MemDoesUptoSaid : Prop := memDoesUptoRow.holds Try.pinned (OpenSpec.upto memDoesSpec)

/-- 'atriumlaw06.MemForks', WHERE WHAT IT READS IS OF BULK AT MOST 1048576: true; the input reads as it did. -/
def memForksUptoRow : OpenClaim := { program := "ytdgmjmohfpjlnaa", sum := "a3451b45878afb42bc361df0851e6d525c83cf3860c927a0415525bfa8243058", func := "atrium/atriumlaw06.MemForks", spec := "memForks", unfollowed := true, recurses := true, apart := false, narrowed := true }
def MemForksUptoSaid : Prop := memForksUptoRow.holds Try.pinned (OpenSpec.upto memForksSpec)

/-- 'atriumlaw06.MemHeights', WHERE WHAT IT READS IS OF BULK AT MOST 1048576: true; the input reads as it did. -/
def memHeightsUptoRow : OpenClaim := { program := "ytdgmjmohfpjlnaa", sum := "a3451b45878afb42bc361df0851e6d525c83cf3860c927a0415525bfa8243058", func := "atrium/atriumlaw06.MemHeights", spec := "memHeights", unfollowed := true, recurses := true, apart := false, narrowed := true }
def MemHeightsUptoSaid : Prop := memHeightsUptoRow.holds Try.pinned (OpenSpec.upto memHeightsSpec)

/-- 'atriumlaw06.MemSnapshots', WHERE WHAT IT READS IS OF BULK AT MOST 1048576: true; the input reads as it did. -/
def memSnapshotsUptoRow : OpenClaim := { program := "ytdgmjmohfpjlnaa", sum := "a3451b45878afb42bc361df0851e6d525c83cf3860c927a0415525bfa8243058", func := "atrium/atriumlaw06.MemSnapshots", spec := "memSnapshots", unfollowed := true, recurses := true, apart := false, narrowed := true }
def MemSnapshotsUptoSaid : Prop := memSnapshotsUptoRow.holds Try.pinned (OpenSpec.upto memSnapshotsSpec)

/-- 'atriumlaw06.MemOrder', WHERE WHAT IT READS IS OF BULK AT MOST 1048576: true; the input reads as it did. -/
def memOrderUptoRow : OpenClaim := { program := "ytdgmjmohfpjlnaa", sum := "a3451b45878afb42bc361df0851e6d525c83cf3860c927a0415525bfa8243058", func := "atrium/atriumlaw06.MemOrder", spec := "memOrder", unfollowed := true, recurses := true, apart := false, narrowed := true }
def MemOrderUptoSaid : Prop := memOrderUptoRow.holds Try.pinned (OpenSpec.upto memOrderSpec)

/-- 'atriumlaw06.MemNobody', WHERE WHAT IT READS IS OF BULK AT MOST 1048576: true; the input reads as it did. -/
def memNobodyUptoRow : OpenClaim := { program := "ytdgmjmohfpjlnaa", sum := "a3451b45878afb42bc361df0851e6d525c83cf3860c927a0415525bfa8243058", func := "atrium/atriumlaw06.MemNobody", spec := "memNobody", unfollowed := true, recurses := true, apart := false, narrowed := true }
def MemNobodyUptoSaid : Prop := memNobodyUptoRow.holds Try.pinned (OpenSpec.upto memNobodySpec)

end Rows
end Go.Proofs.Ytdgmjmohfpjlnaa
