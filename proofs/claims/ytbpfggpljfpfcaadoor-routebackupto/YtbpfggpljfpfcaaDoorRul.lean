/-
  The table of routes: rules.
-/
import Derived.Test.YtbpfggpljfpfcaaDoorQry
import Derived.Laws.EntriesVeiled
import Derived.Deep.RegionHeld
namespace Go.Proofs.YtbpfggpljfpfcaaDoor
open Go.RowKit
/-- A rule in memory: its method, where its path lies, and so on. -/
structure RM where
  meth : ByteArray
  pb : Nat
  pn : Nat
  kind : Int
  me : Bool
  fp : Option Nat
  fr : Nat
  fw : Nat
def pfV : Option Nat → Value
  | none => .nilFunc
  | some n => .func (.func n) #[] #[]
def askV (k : Int) (me : Bool) : Value := .agg #[.int .i64 k, .string ⟨#[]⟩, .string ⟨#[]⟩, .int .i64 0, .bool me]
def ruL (r : RM) : List Value := [.string r.meth, .slice (some ⟨r.pb, 0, none⟩) r.pn r.pn, .int .i64 r.kind, .string ⟨#[]⟩, .string ⟨#[]⟩, .int .i64 0, .bool r.me, pfV r.fp, .func (.func r.fr) #[] #[], .func (.func r.fw) #[] #[]]
def ruV (r : RM) : Value := .agg (ruL r).toArray
theorem results_cell1 {fn : Func} {p : Tmp} {ty : TypeId} (h : fn.results = #[.cell p ty]) (tmps : Array Value) (P : Program) (w : World) :
    (results fn tmps).run P w =
      ((asAddr (tmps.getD p undef)).run P w).andThen fun a w₁ => (loadVar ty a).run P w₁ := by
  simp only [results, h]
  simp [Sem.run_bind, Result.andThen]
set_option maxRecDepth 20000 in
set_option maxHeartbeats 8000000 in
theorem bare_any (r : RM) (h52 : r.fr = 52) (h53 : r.fw = 53) (w : World) : Calls Tryd.prog 51 #[.string r.meth, askV r.kind r.me, pfV r.fp, .slice (some ⟨r.pb, 0, none⟩) r.pn r.pn] w fun e w' => e = .returned (ruV r) ∧ Below w.heap.size w w' := by
  obtain ⟨meth, pb, pn, kind, me, fp, fr, fw⟩ := r
  simp only at h52 h53
  subst h52 h53
  have HB : Hid (∀ o p : Obj, Below w.heap.size w ((w.alloc o).alloc p)) := fun o p => ((Below.refl _ _).alloc (Nat.le_refl _) _).alloc (by simp) _
  cases fp with
  | none =>
    simp only [ruV, ruL, askV, pfV]
    go_enter Tryd.func51, Tryd.ntmps51
    go_wp2_with fail
    refine bodyPost_ret (v := .agg #[.string meth, .slice (some ⟨pb, 0, none⟩) pn pn, .int .i64 kind, .string ⟨#[]⟩, .string ⟨#[]⟩, .int .i64 0, .bool me, .nilFunc, .func (.func 52) #[] #[], .func (.func 53) #[] #[]]) ?_ rfl ⟨rfl, HB.out _ _⟩
    rw [results_cell1 rfl]
    go_simp
  | some n =>
    simp only [ruV, ruL, askV, pfV]
    go_enter Tryd.func51, Tryd.ntmps51
    go_wp2_with fail
    refine bodyPost_ret (v := .agg #[.string meth, .slice (some ⟨pb, 0, none⟩) pn pn, .int .i64 kind, .string ⟨#[]⟩, .string ⟨#[]⟩, .int .i64 0, .bool me, .func (.func n) #[] #[], .func (.func 52) #[] #[], .func (.func 53) #[] #[]]) ?_ rfl ⟨rfl, HB.out _ _⟩
    rw [results_cell1 rfl]
    go_simp
end Go.Proofs.YtbpfggpljfpfcaaDoor
