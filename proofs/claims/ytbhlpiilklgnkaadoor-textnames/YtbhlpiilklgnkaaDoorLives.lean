/-
  The contracts of Encode and lives: it returns true, and turns nothing that was there.
-/
import Derived.Test.YtbhlpiilklgnkaaDoorRunes
import Derived.Test.YtbhlpiilklgnkaaDoorUnesc
import Derived.Test.YtbhlpiilklgnkaaDoorDigits
import Derived.Laws.Runes
namespace Go.Proofs.YtbhlpiilklgnkaaDoor
open Go.RowKit
set_option maxRecDepth 20000 in
theorem encode_ok (z : Int) (h : isRn z = true) (w : World) : Calls Tryd.prog 14 #[.int .i32 z] w fun e w' => e = .returned (.tuple #[.string (Utf8.encode z), .int .i64 0]) ∧ w' = w := by
  have HC : Hid (∀ W : World, _) := fun W => isRune_any z W
  rw [h] at HC
  clear h
  go_enter Tryd.func14, Tryd.ntmps14
  go_wp2_with (go_at_call 29; refine (HC.out _).mono ?_; rintro e w' ⟨rfl, rfl⟩)
  go_ret2
  exact ⟨rfl, rfl⟩
set_option maxRecDepth 20000 in
theorem encode_bad (z : Int) (h : isRn z = false) (w : World) : Calls Tryd.prog 14 #[.int .i32 z] w fun e w' => e = .returned (.tuple #[.string ⟨#[]⟩, .int .i64 150]) ∧ w' = w := by
  have HC : Hid (∀ W : World, _) := fun W => isRune_any z W
  rw [h] at HC
  clear h
  go_enter Tryd.func14, Tryd.ntmps14
  go_wp2_with (go_at_call 29; refine (HC.out _).mono ?_; rintro e w' ⟨rfl, rfl⟩)
  go_ret2
  exact ⟨rfl, rfl⟩
theorem row_at {W : World} {base : Nat} {a : Option Addr} {n cap : Nat} {xs : List Value} (h : W.ownsRow base 21 1 (.slice a n cap) n xs) (hn : 0 < n) : ∃ g, a = some ⟨g, 0, none⟩ ∧ base ≤ g ∧ g < W.heap.size ∧ ∀ j u, xs[j]? = some u → W.cell? ⟨g, j, none⟩ = some u := by
  rcases h.2 with ⟨hv, h0⟩ | ⟨g, cp, cur, hv, hg, hr⟩
  · omega
  · simp only [Value.slice.injEq] at hv
    obtain ⟨rfl, _, rfl⟩ := hv
    refine ⟨g, rfl, hg, (h.lt g rfl).2, fun j u hj => ?_⟩
    have := h.cells rfl j u hj
    rw [add_off, Nat.zero_add] at this
    exact this
theorem runes_lives : runesOf ⟨#[97, 195, 169, 255]⟩ = [97, 233, 65533] := by decide +kernel
theorem digR_lives : digR ⟨#[49, 50]⟩ 99 = (12, 0) := by decide +kernel
theorem unesc_lives : unescV (⟨#[97, 37, 50, 102, 98]⟩ : ByteArray).data.toList = #[.string ⟨#[97, 47, 98]⟩, .int .i64 0] := by
  have : unesc (⟨#[97, 37, 50, 102, 98]⟩ : ByteArray).data.toList = some [97, 47, 98] := by decide +kernel
  rw [unescV, this]
set_option maxRecDepth 20000 in
set_option maxHeartbeats 4000000 in
theorem lives_any (w : World) : Calls Tryd.prog 4 #[] w fun e w' => e = .returned (.bool true) ∧ Below w.heap.size w w' := by
  have H1 : Hid (∀ W : World, _) := fun W => runes_any ⟨#[97, 195, 169, 255]⟩ W (by decide)
  rw [runes_lives] at H1
  have H2 : Hid (∀ W : World, _) := fun W => encode_bad 55296 (by decide) W
  have H3 : Hid (∀ W : World, _) := fun W => unescape_any ⟨#[97, 37, 50, 102, 98]⟩ W (by decide)
  rw [unesc_lives] at H3
  have H4 : Hid (∀ W : World, _) := fun W => digits_any ⟨#[49, 50]⟩ 99 (by decide) W
  rw [digR_lives] at H4
  go_enter Tryd.func4, Tryd.ntmps4
  go_wp2_with fail
  refine (H1.out w).mono ?_
  rintro e w1 ⟨a, cap, rfl, hown, b1⟩
  obtain ⟨g, rfl, hg, hgl, hc⟩ := row_at hown (by decide)
  have c1 := hc 1 (.int .i32 233) rfl
  have c2 := hc 2 (.int .i32 65533) rfl
  clear hc hown
  go_wp2_with fail
  refine (H2.out w1).mono ?_
  rintro e w2 ⟨rfl, rfl⟩
  go_wp2_with fail
  refine (H3.out _).mono ?_
  rintro e w3 ⟨rfl, b3⟩
  have d1 := (b3.cell (p := ⟨g, 1, none⟩) hgl).trans c1
  have d2 := (b3.cell (p := ⟨g, 2, none⟩) hgl).trans c2
  have B3 := b1.trans (b3.mono b1.size)
  clear b1 b3 c1 c2
  go_wp2_with fail
  refine (H4.out _).mono ?_
  rintro e w4 ⟨rfl, rfl⟩
  go_wp2_with fail
  go_ret
  exact ⟨rfl, B3⟩
end Go.Proofs.YtbhlpiilklgnkaaDoor
