/-
  The variable roundWords: what the card's condition gives a walk; a world that meets it.
-/
import Derived.Test.YtedibkcempcpnaaDoorHash
import Derived.ProofKit
import Derived.OpenShut
import Derived.ShutString
import Derived.ChangeOld
import Derived.ChangeVars
import Derived.LaidLaws
import Derived.LaidHandle
import Derived.Lib.LaidTab
import Derived.Lib.LaidU8
namespace Go.Proofs.YtedibkcempcpnaaDoor
open Go.RowKit
/-! ### The variable -/
def kInts : List Int := kList.map fun n : Nat => (n : Int)
theorem laid_is {H : Type} : (Rows.laid_atrium_mac_roundWords : DataW H) = Go.Lib.tabData .u32 kInts := rfl
theorem gname : Tryd.prog.globalNamed "atrium/mac.roundWords" = some 0 := by kernel_rfl
theorem gtype : (Tryd.prog.globals[0]?).map (·.type) = some 87 := by kernel_rfl
theorem cells41 : Tryd.prog.cellsOf 76 = 1 := by kernel_rfl
theorem cells53 : Tryd.prog.cellsOf 87 = 64 := by kernel_rfl
theorem gk_of {W : World} (h : laidMetH Tryd.prog [("atrium/mac.roundWords", Rows.laid_atrium_mac_roundWords)] W) : GK W := by
  have h' : laidMet Tryd.prog [("atrium/mac.roundWords", Go.Lib.tabData .u32 kInts)] W := by rw [← laid_is]; exact h
  have ht := Go.Lib.tabIs_of_head gname gtype Tryd.underlying87 Tryd.underlying76 cells41 cells53 h'
  have hc : ∀ i, i < 64 → W.cell? ⟨0, i, none⟩ = some (.int .u32 (Kc i : Int)) := fun i hi => by
    rw [ht.cell gname i (by simpa [kInts, kList] using hi)]
    congr 2
    simp [kInts, Kc, List.getD_eq_getElem?_getD]
    rw [List.getElem?_eq_getElem (show i < kList.length by simpa [kList] using hi)]
    rfl
  exact ⟨World.block_lt_of_cell? W ⟨0, 0, none⟩ (hc 0 (by decide)), hc⟩
theorem own : ownKnob Tryd.prog.godebug = none := by kernel_rfl
theorem laidOut : laidOutB Tryd.prog = true := by kernel_rfl
/-- The variable's block, with what the text lays there. -/
def relay : Obj → Obj
  | .cells _ t frozen => .cells (kInts.map fun z => Value.int .u32 z).toArray t frozen
  | o => o
theorem laidWorld_met (os : Os) (args : Array Value) : laidMetH Tryd.prog [("atrium/mac.roundWords", Rows.laid_atrium_mac_roundWords)] (({ World.holding Tryd.prog os ⟨#[], #[], []⟩ with heap := (World.holding Tryd.prog os ⟨#[], #[], []⟩).heap.modify 0 relay } : World).forCall (fun _ _ => 0) ⟨#[], args, []⟩).memory :=
  show laidMet Tryd.prog [("atrium/mac.roundWords", Rows.laid_atrium_mac_roundWords)] _ from laidMet_of_run' 4 (by kernel_rfl) (by kernel_rfl)
end Go.Proofs.YtedibkcempcpnaaDoor
