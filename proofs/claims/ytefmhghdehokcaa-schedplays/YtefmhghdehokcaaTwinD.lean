/-
  The twin's draw.
-/
import Derived.Test.YtefmhghdehokcaaTwinW
namespace Go.Proofs.Ytefmhghdehokcaa
open Go.RowKit
set_option maxRecDepth 100000 in
set_option maxHeartbeats 2000000 in
theorem tdraw (lo x : Nat) (T : TS) (w : World) (h : TW w lo x T) (hd : T.drawn < 100000000000000000) (hl : T.draws.length ≤ 65536) :
    Calls Try.prog 48 #[.pointer (some ⟨x, 0, none⟩)] w fun r w' => r = .returned (.int .u64 (drawI T.ps.draws T.ps.fu)) ∧ TW w' lo x { T with drawn := T.drawn + 1 } ∧ Kb (fun b => b = x) w w' := by
  obtain ⟨aD, cD, hvD, hva, hcD, _⟩ := h.dr
  rw [List.length_map] at hvD
  obtain ⟨nd, hnd⟩ : ∃ nd, T.draws.length = nd := ⟨_, rfl⟩
  obtain ⟨dn, hdn⟩ : ∃ dn, T.drawn = dn := ⟨_, rfl⟩
  have hhx := h.hx
  rw [hvD, hnd, hdn] at hhx
  rw [hnd] at hl
  rw [hdn] at hd
  have c2 : w.cell? ⟨x, 2, none⟩ = some (.slice aD nd cD) := by have := cells_of_block hhx 2; simpa using this
  have c7 : w.cell? ⟨x, 7, none⟩ = some (.int .i64 (dn : Nat)) := by have := cells_of_block hhx 7; simpa using this
  have f7 : w.frozen? ⟨x, 7, none⟩ = false := by simp [World.frozen?, hhx]
  have hxs := h.xs
  have hlo := h.lox
  have hx2 : (w.setCell ⟨x, 7, none⟩ (.int .i64 ((dn : Int) + 1))).heap[x]? = some (.cells #[T.vP, T.vK, .slice aD nd cD, T.vT, .int .u64 T.clock, .int .i64 (T.count : Nat), .int .i64 (T.used : Nat), .int .i64 ((dn : Int) + 1)] 75 (0, 0)) := block_set hhx 7 _
  have k2 : Kb (fun b => b = x) w (w.setCell ⟨x, 7, none⟩ (.int .i64 ((dn : Int) + 1))) := (Kb.refl (fun b => b = x) w).setCell rfl _ _
  obtain ⟨W, hW⟩ : ∃ W, w.setCell ⟨x, 7, none⟩ (.int .i64 ((dn : Int) + 1)) = W := ⟨_, rfl⟩
  rw [hW] at hx2 k2
  have HTW : Hid (TW W lo x { T with drawn := T.drawn + 1 }) := by
    refine h.num T.clock T.count T.used (T.drawn + 1) ?_ k2
    rw [hx2, hvD, hnd, hdn]
    rfl
  have HK : Hid (Kb (fun b => b = x) w W) := k2
  have w2 : W.cell? ⟨x, 2, none⟩ = some (.slice aD nd cD) := by have := cells_of_block hx2 2; simpa using this
  have w7 : W.cell? ⟨x, 7, none⟩ = some (.int .i64 ((dn : Int) + 1)) := by have := cells_of_block hx2 7; simpa using this
  have HV : Hid (VA lo W aD (T.draws.map nV)) := hva.below (fun b hb => k2.block b (by omega) (by omega))
  have HND : Hid _ := hnd
  have HDN : Hid _ := hdn
  have HW : Hid _ := hW
  obtain ⟨res, hres⟩ : ∃ res, drawI T.ps.draws T.ps.fu = res := ⟨_, rfl⟩
  have HRES : Hid _ := hres
  rw [hres]
  clear h hvD hva hcD hhx hx2 k2 hW hres hnd hdn
  by_cases hlt : dn < nd
  · obtain ⟨d, hdd⟩ : ∃ d, T.draws[dn]? = some d := ⟨T.draws[dn]'(by rw [HND.out]; exact hlt), List.getElem?_eq_getElem _⟩
    obtain ⟨b, off, rfl, hb, hc⟩ := HV.out dn (nV d) (by rw [List.getElem?_map, hdd]; rfl)
    simp only [nV] at hc
    have HR : Hid (res = d) := by
      rw [Hid, ← HRES.out]
      show drawI (T.draws.drop T.drawn) _ = d
      have hl2 : T.drawn < T.draws.length := by rw [HND.out, HDN.out]; exact hlt
      have e : T.draws.drop T.drawn = d :: T.draws.drop (T.drawn + 1) := by
        rw [List.drop_eq_getElem_cons hl2]
        congr 1
        have := (List.getElem?_eq_some_iff.1 hdd).2
        simp only [HDN.out]
        exact this
      rw [e]
      rfl
    have hw1 : IntKind.i64.wrap ((dn : Int) + 1 - 1) = (dn : Int) := by rw [IntKind.wrap_i64]; omega
    have hw2 : IntKind.i64.wrap (dn : Int) = (dn : Int) := by rw [IntKind.wrap_i64]; omega
    have dle : decide ((dn : Int) + 1 ≤ (nd : Int)) = true := decide_eq_true (by omega)
    clear hdd
    go_enter Try.func48, Try.ntmps48
    go_upto_region 2 with fail
    rw [HW.out]
    clear HW c2 c7 f7
    go_quiet (fail)
    obtain ⟨V, hV⟩ : ∃ V, W.drewN nq = V := ⟨_, rfl⟩
    have v2 : V.cell? ⟨x, 2, none⟩ = some (.slice (some ⟨b, off, none⟩) nd cD) := by rw [← hV]; exact w2
    have v7 : V.cell? ⟨x, 7, none⟩ = some (.int .i64 ((dn : Int) + 1)) := by rw [← hV]; exact w7
    have HBV : Hid (Below W.heap.size W V) := by rw [Hid, ← hV]; exact belD W _
    rw [hV]
    have vc : V.cell? ⟨b, off + dn, none⟩ = some (.int .u64 d) := by rw [← hV]; exact hc
    clear hV w2 w7 hc
    go_wp2_with fail
    go_quiet (fail)
    go_wp2_with fail
    go_ret
    exact ⟨by rw [HR.out]; rfl, TW.below (HTW.out.below HBV.out) (belD V _), (HK.out.trans (Kb.of_below (S := fun _ => False) HBV.out) (fun _ _ e => e.elim)).trans (Kb.of_below (S := fun _ => False) (belD V _)) (fun _ _ e => e.elim)⟩
  · have HR : Hid (res = mixI ((dn + 1 - nd : Nat) : Int)) := by
      rw [Hid, ← HRES.out]
      show drawI (T.draws.drop T.drawn) (T.drawn - T.draws.length) = _
      rw [List.drop_eq_nil_of_le (by rw [HND.out, HDN.out]; omega), HND.out, HDN.out]
      show mixI ((dn - nd + 1 : Nat) : Int) = _
      rw [show dn - nd + 1 = dn + 1 - nd by omega]
    obtain ⟨q, hq⟩ : ∃ q : Nat, dn + 1 - nd = q := ⟨_, rfl⟩
    rw [hq] at HR
    have hqI : (dn : Int) + 1 - (nd : Int) = (q : Int) := by omega
    have hw1 : IntKind.i64.wrap ((dn : Int) + 1 - (nd : Int)) = (q : Int) := by rw [IntKind.wrap_i64]; omega
    have hw2 : IntKind.u64.wrap (q : Int) = (q : Int) := by rw [IntKind.wrap_u64]; omega
    have hw3 : IntKind.i64.wrap (q : Int) = (q : Int) := by rw [IntKind.wrap_i64]; omega
    have dle : decide ((dn : Int) + 1 ≤ (nd : Int)) = false := decide_eq_false (by omega)
    obtain ⟨mq, hmq⟩ : ∃ mq, mixI (q : Int) = mq := ⟨_, rfl⟩
    have HMX : Hid (∀ W : World, Calls Try.prog 32 #[.int .u64 (q : Nat)] W fun r w' => r = .returned (.int .u64 mq) ∧ w' = W) := fun W => by rw [← hmq]; exact rmix_any q W
    rw [hmq] at HR
    clear hq hmq
    go_enter Try.func48, Try.ntmps48
    go_upto_region 2 with fail
    rw [HW.out]
    clear HW c2 c7 f7
    go_quiet (fail)
    obtain ⟨V, hV⟩ : ∃ V, W.drewN nq = V := ⟨_, rfl⟩
    have v2 : V.cell? ⟨x, 2, none⟩ = some (.slice aD nd cD) := by rw [← hV]; exact w2
    have v7 : V.cell? ⟨x, 7, none⟩ = some (.int .i64 ((dn : Int) + 1)) := by rw [← hV]; exact w7
    have HBV : Hid (Below W.heap.size W V) := by rw [Hid, ← hV]; exact belD W _
    rw [hV]
    clear hV w2 w7
    go_wp2_with fail
    go_quiet ((go_at_call 32; exact Calls.quiet_of_same (HMX.out _)))
    go_wp2_with fail
    go_ret
    exact ⟨by rw [HR.out]; rfl, TW.below (HTW.out.below HBV.out) (belD V _), (HK.out.trans (Kb.of_below (S := fun _ => False) HBV.out) (fun _ _ e => e.elim)).trans (Kb.of_below (S := fun _ => False) (belD V _)) (fun _ _ e => e.elim)⟩
end Go.Proofs.Ytefmhghdehokcaa
