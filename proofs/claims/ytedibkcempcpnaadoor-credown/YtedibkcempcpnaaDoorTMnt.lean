/-
  The contracts of Mint and of the twin's.
-/
import Derived.Test.YtedibkcempcpnaaDoorTCwn
import Derived.Test.YtedibkcempcpnaaDoorRefMac
import Derived.Test.YtedibkcempcpnaaDoorRefHex
import Derived.Test.YtedibkcempcpnaaDoorChain
import Derived.Deep.RegionHeld
namespace Go.Proofs.YtedibkcempcpnaaDoor.T
open Go.RowKit
def TnB (W : World) (g : Nat) (t : Tn) : Prop := W.heap[g]? = some (.cells (tnA t) 24 (0, 0))
theorem TnB.cells {W : World} {g : Nat} {t : Tn} (h : TnB W g t) : W.cell? ⟨g, 0, none⟩ = some (.string t.name) ∧ W.cell? ⟨g, 1, none⟩ = some (.string t.key) ∧ W.cell? ⟨g, 2, none⟩ = some (.int .i64 t.quota) := ⟨cell_of_block h rfl, cell_of_block h rfl, cell_of_block h rfl⟩
theorem TnB.below {W W' : World} {g : Nat} {t : Tn} (h : TnB W g t) (b : Below W.heap.size W W') : TnB W' g t := (b.block g (Array.getElem?_eq_some_iff.1 h).1).trans h
def tenT : ByteArray := ⟨#[116, 101, 110, 97, 110, 116, 58]⟩
/-- A tenant's proof, and its credential. -/
def prfT (t : Tn) : ByteArray := ⟨(macB t.key.data.toList (tenT ++ t.name)).toArray⟩
def credT (t : Tn) : ByteArray := t.name ++ ⟨#[46]⟩ ++ ⟨(hexOf (prfT t).data.toList).toArray⟩
def mintR (t : Tn) : ByteArray × Int := if okT t = true then (credT t, 0) else (⟨#[]⟩, 1)
theorem okT_z {t : Tn} (h : okT t = true) : t.name.size ≤ 32 ∧ 1 ≤ t.key.size ∧ t.key.size ≤ 64 := by
  unfold okT nmR at h
  simp only [Bool.and_eq_true, decide_eq_true_eq] at h
  exact ⟨h.1.2.2, h.2.1, h.2.2.1⟩
theorem prfT_size (t : Tn) : (prfT t).size = 32 := by
  have h := mac_len t.key.data.toList (tenT ++ t.name)
  show (macB t.key.data.toList (tenT ++ t.name)).toArray.size = 32
  rw [List.size_toArray, h]
theorem hexT_size (t : Tn) : (⟨(hexOf (prfT t).data.toList).toArray⟩ : ByteArray).size = 64 := by
  show (hexOf (prfT t).data.toList).toArray.size = 64
  rw [List.size_toArray, hexOf_len]
  have := prfT_size t
  have e : (prfT t).data.toList.length = (prfT t).size := by simp
  rw [e, this]
set_option maxRecDepth 20000 in
set_option maxHeartbeats 4000000 in
theorem mint_any (t : Tn) (hz : t.name.size ≤ 140737488355328) (hk : t.key.size ≤ 140737488355328) (w : World) (hK : GK w) : Calls Tryd.prog 8 #[tnV t] w fun e w' => e = .returned (.tuple #[.string (mintR t).1, .int .i64 (mintR t).2]) ∧ Below w.heap.size w w' := by
  have H1 : Hid (∀ W : World, _) := fun W => mayBe_any t hz hk W
  have HGK : Hid (∀ W, Below w.heap.size w W → GK W) := fun W b => hK.below b
  have HZ : Hid (okT t = true → _) := okT_z
  have H2 : Hid (okT t = true → ∀ W, Below w.heap.size w W → _) := fun h W b => mac_short t.key (tenT ++ t.name) W (HGK.out W b) (okT_z h).2.2 (by rw [ByteArray.size_append]; have := (okT_z h).1; show 7 + _ ≤ _; omega)
  have H3 : Hid (∀ W : World, _) := fun W => hex_any (prfT t) W (by rw [prfT_size]; decide)
  have HR : Hid (mintR t = if okT t = true then (credT t, 0) else (⟨#[]⟩, 1)) := rfl
  have hx := hexT_size t
  rw [show (⟨(macB t.key.data.toList (tenT ++ t.name)).toArray⟩ : ByteArray) = prfT t from rfl, show tenT = (⟨#[116, 101, 110, 97, 110, 116, 58]⟩ : ByteArray) from rfl] at H2
  have HCR : Hid (credT t = t.name ++ ⟨#[46]⟩ ++ ⟨(hexOf (prfT t).data.toList).toArray⟩) := rfl
  obtain ⟨R, hR⟩ : ∃ R, mintR t = R := ⟨_, rfl⟩
  rw [hR] at HR ⊢
  obtain ⟨P, hP⟩ : ∃ P, prfT t = P := ⟨_, rfl⟩
  rw [hP] at H2 H3 hx HCR
  obtain ⟨X, hX⟩ : ∃ X, (⟨(hexOf P.data.toList).toArray⟩ : ByteArray) = X := ⟨_, rfl⟩
  rw [hX] at H3 hx HCR
  obtain ⟨ok, hok⟩ : ∃ ok, okT t = ok := ⟨_, rfl⟩
  rw [hok] at H1 H2 HR HZ
  clear hR hP hX hok
  obtain ⟨W0, hW0⟩ : ∃ W0, w.alloc (.cells (tnA t) 24) = W0 := ⟨_, rfl⟩
  have HB0 : Hid (Below w.heap.size w W0) := by rw [Hid, ← hW0]; exact (Below.refl _ _).alloc (Nat.le_refl _) _
  have HX0 : Hid (TnB W0 w.heap.size t) := by rw [Hid, ← hW0]; exact block_alloc_at _ _
  obtain ⟨c0, c1, c2⟩ := HX0.out.cells
  unfold tnA at hW0
  unfold tnV
  unfold tnV at H1
  go_enter Tryd.func8, Tryd.ntmps8
  go_wp2_with fail
  try rw [hW0]
  refine (H1.out _).mono ?_
  rintro e w1 ⟨rfl, b1⟩
  have HB1 : Hid (Below w.heap.size w w1) := HB0.out.trans (b1.mono HB0.out.size)
  have HX1 : Hid (TnB w1 w.heap.size t) := HX0.out.below b1
  clear hW0 c0 c1 c2 H1 b1
  cases ok with
  | false =>
    have HRR : Hid (R = (⟨#[]⟩, 1)) := by rw [Hid, HR.out]; rfl
    go_wp2_with fail
    go_ret2
    exact ⟨by rw [HRR.out]; rfl, HB1.out⟩
  | true =>
    have HRR : Hid (R = (credT t, 0)) := by rw [Hid, HR.out]; rfl
    rw [HCR.out] at HRR
    obtain ⟨z0, z1, z2⟩ := HZ.out rfl
    have H22 : Hid (∀ W, Below w.heap.size w W → _) := fun W b => H2.out rfl W b
    have s0 : ¬ 9223372036854775807 < t.name.size + 1 := by omega
    have s1 : ¬ 9223372036854775807 < 7 + t.name.size := by omega
    have s2 : ¬ 9223372036854775807 < t.name.size + 1 + X.size := by omega
    clear HR HZ H2 HCR hx
    go_wp2_with fail
    refine wp_region_held_drew (S := fun W => TnB W w.heap.size t) (by kernel_rfl) HX1.out (fun hHeld => ?_)
    refine wpAnyH_take (i := 0) (oi := ({ dst := some 7, op := Op.fieldAddr 24 (Operand.tmp 1) 0, type := 0, pos := "cred.go:72", after := #[], guard := none } : Oper)) (v := ?_) rfl (by kernel_rfl) (by kernel_rfl) (by kernel_rfl) (fun _ _ _ h => h) (Or.inl ⟨by rfl, ?_⟩) (by assumption) ?_
    rotate_left
    · (intro w hSw; go_simp; try with_reducible rfl)
    try simp only [Act.put, List.setIfInBounds_toArray, List.set_cons_zero, List.set_cons_succ]
    refine wpAnyH_take (i := 1) (oi := ({ dst := some 8, op := Op.load 9 (Operand.tmp 7), type := 9, pos := "cred.go:72", after := #[{ on := 0, ground := Ground.data }], guard := none } : Oper)) (v := ?_) rfl (by kernel_rfl) (by kernel_rfl) (by kernel_rfl) (fun _ _ _ h => h) (Or.inl ⟨by rfl, ?_⟩) (by assumption) ?_
    rotate_left
    · (intro w hSw; obtain ⟨c0, c1, c2⟩ := TnB.cells hSw; go_simp; try with_reducible rfl)
    try simp only [Act.put, List.setIfInBounds_toArray, List.set_cons_zero, List.set_cons_succ]
    refine wpAnyH_take (i := 2) (oi := ({ dst := some 9, op := Op.binOp BinOp.add 9 (Operand.tmp 8) (Operand.const (Value.string { data := #[46] })) 9, type := 9, pos := "cred.go:72", after := #[{ on := 1, ground := Ground.data }], guard := none } : Oper)) (v := ?_) rfl (by kernel_rfl) (by kernel_rfl) (by kernel_rfl) (fun _ _ _ h => h) (Or.inl ⟨by rfl, ?_⟩) (by assumption) ?_
    rotate_left
    · (intro w hSw; go_simp; try with_reducible rfl)
    try simp only [Act.put, List.setIfInBounds_toArray, List.set_cons_zero, List.set_cons_succ]
    refine wpAnyH_take (i := 3) (oi := ({ dst := some 10, op := Op.fieldAddr 24 (Operand.tmp 1) 1, type := 0, pos := "cred.go:72", after := #[], guard := none } : Oper)) (v := ?_) rfl (by kernel_rfl) (by kernel_rfl) (by kernel_rfl) (fun _ _ _ h => h) (Or.inl ⟨by rfl, ?_⟩) (by assumption) ?_
    rotate_left
    · (intro w hSw; go_simp; try with_reducible rfl)
    try simp only [Act.put, List.setIfInBounds_toArray, List.set_cons_zero, List.set_cons_succ]
    refine wpAnyH_take (i := 4) (oi := ({ dst := some 11, op := Op.load 9 (Operand.tmp 10), type := 9, pos := "cred.go:72", after := #[{ on := 3, ground := Ground.data }], guard := none } : Oper)) (v := ?_) rfl (by kernel_rfl) (by kernel_rfl) (by kernel_rfl) (fun _ _ _ h => h) (Or.inl ⟨by rfl, ?_⟩) (by assumption) ?_
    rotate_left
    · (intro w hSw; obtain ⟨c0, c1, c2⟩ := TnB.cells hSw; go_simp; try with_reducible rfl)
    try simp only [Act.put, List.setIfInBounds_toArray, List.set_cons_zero, List.set_cons_succ]
    refine wpAnyH_take (i := 5) (oi := ({ dst := some 12, op := Op.fieldAddr 24 (Operand.tmp 1) 0, type := 0, pos := "cred.go:72", after := #[], guard := none } : Oper)) (v := ?_) rfl (by kernel_rfl) (by kernel_rfl) (by kernel_rfl) (fun _ _ _ h => h) (Or.inl ⟨by rfl, ?_⟩) (by assumption) ?_
    rotate_left
    · (intro w hSw; go_simp; try with_reducible rfl)
    try simp only [Act.put, List.setIfInBounds_toArray, List.set_cons_zero, List.set_cons_succ]
    refine wpAnyH_take (i := 6) (oi := ({ dst := some 13, op := Op.load 9 (Operand.tmp 12), type := 9, pos := "cred.go:72", after := #[{ on := 5, ground := Ground.data }], guard := none } : Oper)) (v := ?_) rfl (by kernel_rfl) (by kernel_rfl) (by kernel_rfl) (fun _ _ _ h => h) (Or.inl ⟨by rfl, ?_⟩) (by assumption) ?_
    rotate_left
    · (intro w hSw; obtain ⟨c0, c1, c2⟩ := TnB.cells hSw; go_simp; try with_reducible rfl)
    try simp only [Act.put, List.setIfInBounds_toArray, List.set_cons_zero, List.set_cons_succ]
    refine wpAnyH_take (i := 7) (oi := ({ dst := some 14, op := Op.binOp BinOp.add 9 (Operand.const (Value.string { data := #[116, 101, 110, 97, 110, 116, 58] })) (Operand.tmp 13) 9, type := 9, pos := "cred.go:72", after := #[{ on := 6, ground := Ground.data }], guard := none } : Oper)) (v := ?_) rfl (by kernel_rfl) (by kernel_rfl) (by kernel_rfl) (fun _ _ _ h => h) (Or.inl ⟨by rfl, ?_⟩) (by assumption) ?_
    rotate_left
    · (intro w hSw; go_simp; try with_reducible rfl)
    try simp only [Act.put, List.setIfInBounds_toArray, List.set_cons_zero, List.set_cons_succ]
    refine wpAnyH_ready (rs := [8]) (by kernel_rfl) (by simp) ?_
    refine AllReadyH.cons rfl (fun K hK => ?_) AllReadyH.nil
    go_simp
    go_wp2_with (go_at_call 25; refine (H22.out _ (below_drewN HB1.out 1)).mono ?_; rintro e w5 ⟨rfl, b5⟩)
    have HB5 : Hid (Below w.heap.size w w5) := (below_drewN HB1.out 1).trans (b5.mono HB1.out.size)
    refine hK.out _ _ (TnB.below hHeld b5) (fun hHeld => ?_)
    clear b5
    clear hK K
    refine wpAnyH_ready (rs := [9]) (by kernel_rfl) (by simp) ?_
    refine AllReadyH.cons rfl (fun K hK => ?_) AllReadyH.nil
    go_simp
    go_wp2_with (go_at_call 24; refine (H3.out _).mono ?_; rintro e w6 ⟨rfl, b6⟩)
    have HB6 : Hid (Below w.heap.size w w6) := HB5.out.trans (b6.mono HB5.out.size)
    refine hK.out _ _ (TnB.below hHeld b6) (fun hHeld => ?_)
    clear b6
    clear hK K
    refine wpAnyH_take (i := 10) (oi := ({ dst := some 17, op := Op.binOp BinOp.add 9 (Operand.tmp 9) (Operand.tmp 16) 9, type := 9, pos := "cred.go:72", after := #[{ on := 2, ground := Ground.data }, { on := 9, ground := Ground.data }], guard := none } : Oper)) (v := ?_) rfl (by kernel_rfl) (by kernel_rfl) (by kernel_rfl) (fun _ _ _ h => h) (Or.inl ⟨by rfl, ?_⟩) (by assumption) ?_
    rotate_left
    · (intro w hSw; go_simp; try with_reducible rfl)
    try simp only [Act.put, List.setIfInBounds_toArray, List.set_cons_zero, List.set_cons_succ]
    refine wpAnyH_take (i := 11) (oi := ({ dst := some 2, op := Op.assign (Operand.tmp 17), type := 9, pos := "cred.go:72", after := #[{ on := 10, ground := Ground.data }, { on := 9, ground := Ground.chain }, { on := 0, ground := Ground.phase }, { on := 1, ground := Ground.phase }, { on := 2, ground := Ground.phase }, { on := 3, ground := Ground.phase }, { on := 4, ground := Ground.phase }, { on := 5, ground := Ground.phase }, { on := 6, ground := Ground.phase }, { on := 7, ground := Ground.phase }, { on := 8, ground := Ground.phase }, { on := 9, ground := Ground.phase }, { on := 10, ground := Ground.phase }], guard := none } : Oper)) (v := ?_) rfl (by kernel_rfl) (by kernel_rfl) (by kernel_rfl) (fun _ _ _ h => h) (Or.inl ⟨by rfl, ?_⟩) (by assumption) ?_
    rotate_left
    · (intro w hSw; go_simp; try with_reducible rfl)
    try simp only [Act.put, List.setIfInBounds_toArray, List.set_cons_zero, List.set_cons_succ]
    refine wpAnyH_take (i := 12) (oi := ({ dst := some 3, op := Op.assign (Operand.const (Value.int IntKind.i64 0)), type := 25, pos := "cred.go:72", after := #[{ on := 11, ground := Ground.chain }, { on := 0, ground := Ground.phase }, { on := 1, ground := Ground.phase }, { on := 2, ground := Ground.phase }, { on := 3, ground := Ground.phase }, { on := 4, ground := Ground.phase }, { on := 5, ground := Ground.phase }, { on := 6, ground := Ground.phase }, { on := 7, ground := Ground.phase }, { on := 8, ground := Ground.phase }, { on := 9, ground := Ground.phase }, { on := 10, ground := Ground.phase }, { on := 11, ground := Ground.phase }], guard := none } : Oper)) (v := ?_) rfl (by kernel_rfl) (by kernel_rfl) (by kernel_rfl) (fun _ _ _ h => h) (Or.inl ⟨by rfl, ?_⟩) (by assumption) ?_
    rotate_left
    · (intro w hSw; go_simp; try with_reducible rfl)
    refine wpAnyH_done (by kernel_rfl) ?_ _
    go_wp2_with fail
    go_ret2
    exact ⟨by rw [HRR.out]; rfl, HB6.out⟩
set_option maxRecDepth 20000 in
set_option maxHeartbeats 4000000 in
theorem qmint_any (t : Tn) (hz : t.name.size ≤ 140737488355328) (hk : t.key.size ≤ 140737488355328) (w : World) : Calls Tryd.prog 9 #[tnV t] w fun e w' => e = .returned (.tuple #[.string (mintR t).1, .int .i64 (mintR t).2]) ∧ Below w.heap.size w w' := by
  have H1 : Hid (∀ W : World, _) := fun W => qmay_any t hz hk W
  have HZ : Hid (okT t = true → _) := okT_z
  have H2 : Hid (okT t = true → ∀ W, Below w.heap.size w W → _) := fun h W b => refMac_short t.key (tenT ++ t.name) W (okT_z h).2.2 (by rw [ByteArray.size_append]; have := (okT_z h).1; show 7 + _ ≤ _; omega)
  have H3 : Hid (∀ W : World, _) := fun W => refHex_any (prfT t) W (by rw [prfT_size]; decide)
  have HR : Hid (mintR t = if okT t = true then (credT t, 0) else (⟨#[]⟩, 1)) := rfl
  have hx := hexT_size t
  rw [show (⟨(macB t.key.data.toList (tenT ++ t.name)).toArray⟩ : ByteArray) = prfT t from rfl, show tenT = (⟨#[116, 101, 110, 97, 110, 116, 58]⟩ : ByteArray) from rfl] at H2
  have HCR : Hid (credT t = t.name ++ ⟨#[46]⟩ ++ ⟨(hexOf (prfT t).data.toList).toArray⟩) := rfl
  obtain ⟨R, hR⟩ : ∃ R, mintR t = R := ⟨_, rfl⟩
  rw [hR] at HR ⊢
  obtain ⟨P, hP⟩ : ∃ P, prfT t = P := ⟨_, rfl⟩
  rw [hP] at H2 H3 hx HCR
  obtain ⟨X, hX⟩ : ∃ X, (⟨(hexOf P.data.toList).toArray⟩ : ByteArray) = X := ⟨_, rfl⟩
  rw [hX] at H3 hx HCR
  obtain ⟨ok, hok⟩ : ∃ ok, okT t = ok := ⟨_, rfl⟩
  rw [hok] at H1 H2 HR HZ
  clear hR hP hX hok
  obtain ⟨W0, hW0⟩ : ∃ W0, w.alloc (.cells (tnA t) 24) = W0 := ⟨_, rfl⟩
  have HB0 : Hid (Below w.heap.size w W0) := by rw [Hid, ← hW0]; exact (Below.refl _ _).alloc (Nat.le_refl _) _
  have HX0 : Hid (TnB W0 w.heap.size t) := by rw [Hid, ← hW0]; exact block_alloc_at _ _
  obtain ⟨c0, c1, c2⟩ := HX0.out.cells
  unfold tnA at hW0
  unfold tnV
  unfold tnV at H1
  go_enter Tryd.func9, Tryd.ntmps9
  go_wp2_with fail
  try rw [hW0]
  refine (H1.out _).mono ?_
  rintro e w1 ⟨rfl, b1⟩
  have HB1 : Hid (Below w.heap.size w w1) := HB0.out.trans (b1.mono HB0.out.size)
  have HX1 : Hid (TnB w1 w.heap.size t) := HX0.out.below b1
  clear hW0 c0 c1 c2 H1 b1
  cases ok with
  | false =>
    have HRR : Hid (R = (⟨#[]⟩, 1)) := by rw [Hid, HR.out]; rfl
    go_wp2_with fail
    go_ret2
    exact ⟨by rw [HRR.out]; rfl, HB1.out⟩
  | true =>
    have HRR : Hid (R = (credT t, 0)) := by rw [Hid, HR.out]; rfl
    rw [HCR.out] at HRR
    obtain ⟨z0, z1, z2⟩ := HZ.out rfl
    have H22 : Hid (∀ W, Below w.heap.size w W → _) := fun W b => H2.out rfl W b
    have s0 : ¬ 9223372036854775807 < t.name.size + 1 := by omega
    have s1 : ¬ 9223372036854775807 < 7 + t.name.size := by omega
    have s2 : ¬ 9223372036854775807 < t.name.size + 1 + X.size := by omega
    clear HR HZ H2 HCR hx
    go_wp2_with fail
    refine wp_region_held_drew (S := fun W => TnB W w.heap.size t) (by kernel_rfl) HX1.out (fun hHeld => ?_)
    refine wpAnyH_take (i := 0) (oi := ({ dst := some 7, op := Op.fieldAddr 24 (Operand.tmp 1) 0, type := 0, pos := "ref.go:48", after := #[], guard := none } : Oper)) (v := ?_) rfl (by kernel_rfl) (by kernel_rfl) (by kernel_rfl) (fun _ _ _ h => h) (Or.inl ⟨by rfl, ?_⟩) (by assumption) ?_
    rotate_left
    · (intro w hSw; go_simp; try with_reducible rfl)
    try simp only [Act.put, List.setIfInBounds_toArray, List.set_cons_zero, List.set_cons_succ]
    refine wpAnyH_take (i := 1) (oi := ({ dst := some 8, op := Op.load 9 (Operand.tmp 7), type := 9, pos := "ref.go:48", after := #[{ on := 0, ground := Ground.data }], guard := none } : Oper)) (v := ?_) rfl (by kernel_rfl) (by kernel_rfl) (by kernel_rfl) (fun _ _ _ h => h) (Or.inl ⟨by rfl, ?_⟩) (by assumption) ?_
    rotate_left
    · (intro w hSw; obtain ⟨c0, c1, c2⟩ := TnB.cells hSw; go_simp; try with_reducible rfl)
    try simp only [Act.put, List.setIfInBounds_toArray, List.set_cons_zero, List.set_cons_succ]
    refine wpAnyH_take (i := 2) (oi := ({ dst := some 9, op := Op.binOp BinOp.add 9 (Operand.tmp 8) (Operand.const (Value.string { data := #[46] })) 9, type := 9, pos := "ref.go:48", after := #[{ on := 1, ground := Ground.data }], guard := none } : Oper)) (v := ?_) rfl (by kernel_rfl) (by kernel_rfl) (by kernel_rfl) (fun _ _ _ h => h) (Or.inl ⟨by rfl, ?_⟩) (by assumption) ?_
    rotate_left
    · (intro w hSw; go_simp; try with_reducible rfl)
    try simp only [Act.put, List.setIfInBounds_toArray, List.set_cons_zero, List.set_cons_succ]
    refine wpAnyH_take (i := 3) (oi := ({ dst := some 10, op := Op.fieldAddr 24 (Operand.tmp 1) 1, type := 0, pos := "ref.go:48", after := #[], guard := none } : Oper)) (v := ?_) rfl (by kernel_rfl) (by kernel_rfl) (by kernel_rfl) (fun _ _ _ h => h) (Or.inl ⟨by rfl, ?_⟩) (by assumption) ?_
    rotate_left
    · (intro w hSw; go_simp; try with_reducible rfl)
    try simp only [Act.put, List.setIfInBounds_toArray, List.set_cons_zero, List.set_cons_succ]
    refine wpAnyH_take (i := 4) (oi := ({ dst := some 11, op := Op.load 9 (Operand.tmp 10), type := 9, pos := "ref.go:48", after := #[{ on := 3, ground := Ground.data }], guard := none } : Oper)) (v := ?_) rfl (by kernel_rfl) (by kernel_rfl) (by kernel_rfl) (fun _ _ _ h => h) (Or.inl ⟨by rfl, ?_⟩) (by assumption) ?_
    rotate_left
    · (intro w hSw; obtain ⟨c0, c1, c2⟩ := TnB.cells hSw; go_simp; try with_reducible rfl)
    try simp only [Act.put, List.setIfInBounds_toArray, List.set_cons_zero, List.set_cons_succ]
    refine wpAnyH_take (i := 5) (oi := ({ dst := some 12, op := Op.fieldAddr 24 (Operand.tmp 1) 0, type := 0, pos := "ref.go:48", after := #[], guard := none } : Oper)) (v := ?_) rfl (by kernel_rfl) (by kernel_rfl) (by kernel_rfl) (fun _ _ _ h => h) (Or.inl ⟨by rfl, ?_⟩) (by assumption) ?_
    rotate_left
    · (intro w hSw; go_simp; try with_reducible rfl)
    try simp only [Act.put, List.setIfInBounds_toArray, List.set_cons_zero, List.set_cons_succ]
    refine wpAnyH_take (i := 6) (oi := ({ dst := some 13, op := Op.load 9 (Operand.tmp 12), type := 9, pos := "ref.go:48", after := #[{ on := 5, ground := Ground.data }], guard := none } : Oper)) (v := ?_) rfl (by kernel_rfl) (by kernel_rfl) (by kernel_rfl) (fun _ _ _ h => h) (Or.inl ⟨by rfl, ?_⟩) (by assumption) ?_
    rotate_left
    · (intro w hSw; obtain ⟨c0, c1, c2⟩ := TnB.cells hSw; go_simp; try with_reducible rfl)
    try simp only [Act.put, List.setIfInBounds_toArray, List.set_cons_zero, List.set_cons_succ]
    refine wpAnyH_take (i := 7) (oi := ({ dst := some 14, op := Op.binOp BinOp.add 9 (Operand.const (Value.string { data := #[116, 101, 110, 97, 110, 116, 58] })) (Operand.tmp 13) 9, type := 9, pos := "ref.go:48", after := #[{ on := 6, ground := Ground.data }], guard := none } : Oper)) (v := ?_) rfl (by kernel_rfl) (by kernel_rfl) (by kernel_rfl) (fun _ _ _ h => h) (Or.inl ⟨by rfl, ?_⟩) (by assumption) ?_
    rotate_left
    · (intro w hSw; go_simp; try with_reducible rfl)
    try simp only [Act.put, List.setIfInBounds_toArray, List.set_cons_zero, List.set_cons_succ]
    refine wpAnyH_ready (rs := [8]) (by kernel_rfl) (by simp) ?_
    refine AllReadyH.cons rfl (fun K hK => ?_) AllReadyH.nil
    go_simp
    go_wp2_with (go_at_call 28; refine (H22.out _ (below_drewN HB1.out 1)).mono ?_; rintro e w5 ⟨rfl, b5⟩)
    have HB5 : Hid (Below w.heap.size w w5) := (below_drewN HB1.out 1).trans (b5.mono HB1.out.size)
    refine hK.out _ _ (TnB.below hHeld b5) (fun hHeld => ?_)
    clear b5
    clear hK K
    refine wpAnyH_ready (rs := [9]) (by kernel_rfl) (by simp) ?_
    refine AllReadyH.cons rfl (fun K hK => ?_) AllReadyH.nil
    go_simp
    go_wp2_with (go_at_call 27; refine (H3.out _).mono ?_; rintro e w6 ⟨rfl, b6⟩)
    have HB6 : Hid (Below w.heap.size w w6) := HB5.out.trans (b6.mono HB5.out.size)
    refine hK.out _ _ (TnB.below hHeld b6) (fun hHeld => ?_)
    clear b6
    clear hK K
    refine wpAnyH_take (i := 10) (oi := ({ dst := some 17, op := Op.binOp BinOp.add 9 (Operand.tmp 9) (Operand.tmp 16) 9, type := 9, pos := "ref.go:48", after := #[{ on := 2, ground := Ground.data }, { on := 9, ground := Ground.data }], guard := none } : Oper)) (v := ?_) rfl (by kernel_rfl) (by kernel_rfl) (by kernel_rfl) (fun _ _ _ h => h) (Or.inl ⟨by rfl, ?_⟩) (by assumption) ?_
    rotate_left
    · (intro w hSw; go_simp; try with_reducible rfl)
    try simp only [Act.put, List.setIfInBounds_toArray, List.set_cons_zero, List.set_cons_succ]
    refine wpAnyH_take (i := 11) (oi := ({ dst := some 2, op := Op.assign (Operand.tmp 17), type := 9, pos := "ref.go:48", after := #[{ on := 10, ground := Ground.data }, { on := 9, ground := Ground.chain }, { on := 0, ground := Ground.phase }, { on := 1, ground := Ground.phase }, { on := 2, ground := Ground.phase }, { on := 3, ground := Ground.phase }, { on := 4, ground := Ground.phase }, { on := 5, ground := Ground.phase }, { on := 6, ground := Ground.phase }, { on := 7, ground := Ground.phase }, { on := 8, ground := Ground.phase }, { on := 9, ground := Ground.phase }, { on := 10, ground := Ground.phase }], guard := none } : Oper)) (v := ?_) rfl (by kernel_rfl) (by kernel_rfl) (by kernel_rfl) (fun _ _ _ h => h) (Or.inl ⟨by rfl, ?_⟩) (by assumption) ?_
    rotate_left
    · (intro w hSw; go_simp; try with_reducible rfl)
    try simp only [Act.put, List.setIfInBounds_toArray, List.set_cons_zero, List.set_cons_succ]
    refine wpAnyH_take (i := 12) (oi := ({ dst := some 3, op := Op.assign (Operand.const (Value.int IntKind.i64 0)), type := 25, pos := "ref.go:48", after := #[{ on := 11, ground := Ground.chain }, { on := 0, ground := Ground.phase }, { on := 1, ground := Ground.phase }, { on := 2, ground := Ground.phase }, { on := 3, ground := Ground.phase }, { on := 4, ground := Ground.phase }, { on := 5, ground := Ground.phase }, { on := 6, ground := Ground.phase }, { on := 7, ground := Ground.phase }, { on := 8, ground := Ground.phase }, { on := 9, ground := Ground.phase }, { on := 10, ground := Ground.phase }, { on := 11, ground := Ground.phase }], guard := none } : Oper)) (v := ?_) rfl (by kernel_rfl) (by kernel_rfl) (by kernel_rfl) (fun _ _ _ h => h) (Or.inl ⟨by rfl, ?_⟩) (by assumption) ?_
    rotate_left
    · (intro w hSw; go_simp; try with_reducible rfl)
    refine wpAnyH_done (by kernel_rfl) ?_ _
    go_wp2_with fail
    go_ret2
    exact ⟨by rw [HRR.out]; rfl, HB6.out⟩
end Go.Proofs.YtedibkcempcpnaaDoor.T
