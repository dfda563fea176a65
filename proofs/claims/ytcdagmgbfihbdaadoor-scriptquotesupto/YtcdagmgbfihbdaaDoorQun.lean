/-
  Unquote, as the twin does it.
-/
import Derived.Test.YtcdagmgbfihbdaaDoorDig
import Derived.Test.YtcdagmgbfihbdaaDoorQqt
namespace Go.Proofs.YtcdagmgbfihbdaaDoor
open Go.RowKit
set_option maxRecDepth 100000 in
set_option maxHeartbeats 8000000 in
theorem qunquote_any (l : List UInt8) (w : World) (hlen : l.length ≤ 30000000000000) :
    Calls Tryd.prog 10 #[.string (bOf l)] w fun e w' => ∃ d ok, e = .returned (.tuple #[.string (bOf d), .bool ok]) ∧ UqR l d ok ∧ d.length ≤ l.length ∧ Below w.heap.size w w' := by
  obtain ⟨i0, hi, hz0, hz1, hz2⟩ := info_parts info5
  obtain ⟨n, hn⟩ : ∃ q, l.length = q := ⟨_, rfl⟩
  have HN : Hid (l.length = n) := hn
  have hsz : (bOf l).size = n := by rw [bOf_size]; exact hn
  rw [hn] at hlen ⊢
  by_cases h2 : n < 2
  · have hz : ((n : Nat) : Int) < 2 := by omega
    have HR : Hid (UqR l [] false) := ⟨fun e => (by cases e), fun _ => ⟨rfl, fun x hx => by have := quoteL_two x; rw [hx, hn] at this; omega⟩⟩
    clear hn h2
    go_enter Tryd.func10, Tryd.ntmps10
    go_wp2_with fail
    go_ret2
    first | exact ⟨[], false, rfl, HR.out, by simp, Below.refl _ _⟩ | exact ⟨[], .inl ⟨rfl, HR.out, by simp, Below.refl _ _⟩⟩
  · have hz : ¬ ((n : Nat) : Int) < 2 := by omega
    have hn2 : 2 ≤ n := by omega
    obtain ⟨c0, hc0⟩ : ∃ c, l[0]? = some c := ⟨_, List.getElem?_eq_getElem (by omega)⟩
    obtain ⟨cz, hcz⟩ : ∃ c, l[n - 1]? = some c := ⟨_, List.getElem?_eq_getElem (by omega)⟩
    obtain ⟨x0, hx0⟩ : ∃ x, c0.toNat = x := ⟨_, rfl⟩
    obtain ⟨xz, hxz⟩ : ∃ x, cz.toNat = x := ⟨_, rfl⟩
    have g0 := at_bOf hc0 hx0
    have rz : ∀ W, (Instr.index 9 (.string (bOf l)) (.int .i64 (((n : Nat) : Int) - 1))).run Tryd.prog W = .ok (.int .u8 ((xz : Nat) : Int)) W := fun W => by
      have := run_byteB l hcz W
      rw [hxz, show ((n - 1 : Nat) : Int) = ((n : Nat) : Int) - 1 by omega] at this
      exact this
    by_cases hE : ¬ (x0 = 34 ∧ xz = 34)
    · have HR : Hid (UqR l [] false) := ⟨fun e => (by cases e), fun _ => ⟨rfl, fun x hx => by
        obtain ⟨q1, q2⟩ := quote_ends hx hn
        rw [hc0] at q1
        rw [hcz] at q2
        exact hE ⟨by rw [← hx0, Option.some.inj q1]; rfl, by rw [← hxz, Option.some.inj q2]; rfl⟩⟩⟩
      have hs : (¬ ((x0 : Nat) : Int) = 34) ∨ (x0 = 34 ∧ ¬ ((xz : Nat) : Int) = 34) := by omega
      clear hn h2 hE hc0 hcz hx0 hxz
      rcases hs with y1 | ⟨rfl, y2⟩
      · skip
        go_enter Tryd.func10, Tryd.ntmps10
        go_wp2_with fail
        go_ret2
        first | exact ⟨[], false, rfl, HR.out, by simp, Below.refl _ _⟩ | exact ⟨[], .inl ⟨rfl, HR.out, by simp, Below.refl _ _⟩⟩
      · skip
        go_enter Tryd.func10, Tryd.ntmps10
        go_wp2_with fail
        go_ret2
        first | exact ⟨[], false, rfl, HR.out, by simp, Below.refl _ _⟩ | exact ⟨[], .inl ⟨rfl, HR.out, by simp, Below.refl _ _⟩⟩
    · obtain ⟨rfl, rfl⟩ : x0 = 34 ∧ xz = 34 := by omega
      have HI0 : Hid (UI l [] (midL l n 1)) := fun x hx => ⟨0, rfl, by
        have := quoteL_mid x
        rw [hx, hn] at this
        exact this⟩
      have HO0 : Hid (w.ownsRow w.heap.size 5 1 (.slice none 0 0) 0 (Lib.byteCells [])) := World.ownsRow_nil _ _ _ _
      clear hn h2 hE hc0 hcz hx0 hxz
      go_enter Tryd.func10, Tryd.ntmps10
      go_wp2_with fail
      clear g0 rz
      go_loopw [4, 5] (fun v i wr => ∃ (k m : Nat) (d : List UInt8), 1 ≤ k ∧ k ≤ n ∧ i = .int .i64 ((k : Nat) : Int) ∧ d.length = m ∧ m ≤ k ∧ Hid (UI l d (midL l n k)) ∧ Hid (wr.ownsRow w.heap.size 5 1 v m (Lib.byteCells d)) ∧ Hid (Below w.heap.size w wr)) (fun _ i _ => n - (intOf i).toNat)
      case atStart => exact ⟨1, 0, [], by omega, by omega, rfl, rfl, by omega, HI0.out, HO0.out, Below.refl _ _⟩
      case round =>
        obtain ⟨k, m, d, hk1, hkn, rfl, hdm, hmk, HI, HO, HB⟩ := hrel
        have HDM : Hid (d.length = m) := hdm
        by_cases hk : k < n - 1
        · have z1 : ((k : Nat) : Int) < ((n : Nat) : Int) - 1 := by omega
          obtain ⟨c, hc⟩ : ∃ c, l[k]? = some c := ⟨_, List.getElem?_eq_getElem (by have := HN.out; omega)⟩
          obtain ⟨x, hx⟩ : ∃ x, c.toNat = x := ⟨_, rfl⟩
          have HX : Hid (c.toNat = x) := hx
          have r0 : ∀ W, (Instr.index 9 (.string (bOf l)) (.int .i64 ((k : Nat) : Int))).run Tryd.prog W = .ok (.int .u8 ((x : Nat) : Int)) W := fun W => by rw [← hx]; exact run_byteB l hc W
          have HMC : Hid (midL l n k = c :: midL l n (k + 1)) := mid_cons hc hk
          have HMD : Hid (∀ j, (midL l n k).drop j = midL l n (k + j)) := mid_drop l n k
          by_cases h92 : x = 92
          · subst h92
            by_cases hk1n : k + 1 < n - 1
            · have z2 : ((k : Nat) : Int) + 1 < ((n : Nat) : Int) - 1 := by omega
              obtain ⟨e, he⟩ : ∃ c, l[k + 1]? = some c := ⟨_, List.getElem?_eq_getElem (by have := HN.out; omega)⟩
              obtain ⟨y, hy⟩ : ∃ x, e.toNat = x := ⟨_, rfl⟩
              have HY : Hid (e.toNat = y) := hy
              have r1 : ∀ W, (Instr.index 9 (.string (bOf l)) (.int .i64 (((k : Nat) : Int) + 1))).run Tryd.prog W = .ok (.int .u8 ((y : Nat) : Int)) W := fun W => by rw [← hy]; exact run_byteB l he W
              have HMC2 : Hid (midL l n k = c :: e :: midL l n (k + 2)) := by rw [Hid, HMC.out, mid_cons he hk1n]
              by_cases h120 : y = 120
              · subst h120
                by_cases hk3 : k + 3 < n - 1
                · have z3 : ((k : Nat) : Int) + 3 < ((n : Nat) : Int) - 1 := by omega
                  obtain ⟨p, hp⟩ : ∃ c, l[k + 2]? = some c := ⟨_, List.getElem?_eq_getElem (by have := HN.out; omega)⟩
                  obtain ⟨q, hq⟩ : ∃ c, l[k + 3]? = some c := ⟨_, List.getElem?_eq_getElem (by have := HN.out; omega)⟩
                  have r2 : ∀ W, (Instr.index 9 (.string (bOf l)) (.int .i64 (((k : Nat) : Int) + 2))).run Tryd.prog W = .ok (.int .u8 ((p.toNat : Nat) : Int)) W := fun W => run_byteB l hp W
                  have r3 : ∀ W, (Instr.index 9 (.string (bOf l)) (.int .i64 (((k : Nat) : Int) + 3))).run Tryd.prog W = .ok (.int .u8 ((q.toNat : Nat) : Int)) W := fun W => run_byteB l hq W
                  have HMC4 : Hid (midL l n k = c :: e :: p :: q :: midL l n (k + 4)) := by rw [Hid, HMC2.out, mid_cons hp (by omega), mid_cons hq hk3]
                  have HDX : Hid (∀ (c : UInt8) (W : World), _) := fun c W => digit_any c W
                  have hb1 := nib_bound p
                  have hb2 := nib_bound q
                  have HNH : Hid ((nibI p < 0 ∨ nibI q < 0) → UqR l [] false) := fun h => ⟨fun e => (by cases e), fun _ => ⟨rfl, UI.none HI.out (by rw [HMC4.out]; simp) (by rw [HMC4.out]; exact no_hex hx hy (.inr ⟨p, q, _, rfl, h⟩))⟩⟩
                  have HUB : Hid (∀ y : UInt8, (∀ a b : Fin 16, nibI p = (a.val : Int) → nibI q = (b.val : Int) → y.toNat = 16 * a.val + b.val) → UI l (d ++ [y]) (midL l n (k + 4))) := fun y hy2 => by
                    have := HI.out.step (by rw [HMC4.out]; simp) (c := y) (m := 4) (by rw [HMC4.out]; exact ub_four hx hy hy2)
                    rw [HMD.out] at this
                    exact this
                  clear hx hc hy he hp hq HI HMC HMC2 HMC4 HMD hk hk1n
                  rcases hb1 with hP | ⟨a, hP⟩
                  · have HR : Hid (UqR l [] false) := HNH.out (.inl (by omega))
                    have HP : Hid _ := hP
                    clear hP
                    go_wp2_with (go_at_call 23; refine (HDX.out _ _).mono ?_; rintro e w' ⟨rfl, rfl⟩; rw [HP.out])
                    go_ret2
                    first | exact ⟨[], false, rfl, HR.out, by simp, HB.out⟩ | exact ⟨[], .inl ⟨rfl, HR.out, by simp, HB.out⟩⟩
                  · rcases hb2 with hQ | ⟨b, hQ⟩
                    · have HR : Hid (UqR l [] false) := HNH.out (.inr (by omega))
                      have HP : Hid _ := hP
                      have HQ : Hid _ := hQ
                      clear hP hQ
                      have ha0 : ¬ ((a.val : Nat) : Int) < 0 := by omega
                      go_wp2_with (go_at_call 23; refine (HDX.out _ _).mono ?_; rintro e w' ⟨rfl, rfl⟩; (first | rw [HP.out] | rw [HQ.out]))
                      go_ret2
                      first | exact ⟨[], false, rfl, HR.out, by simp, HB.out⟩ | exact ⟨[], .inl ⟨rfl, HR.out, by simp, HB.out⟩⟩
                    · obtain ⟨A, hA⟩ : ∃ q, a.val = q := ⟨_, rfl⟩
                      obtain ⟨E, hE⟩ : ∃ q, b.val = q := ⟨_, rfl⟩
                      have hal := a.isLt
                      have hbl := b.isLt
                      have HU : Hid (UI l (d ++ [UInt8.ofNat (16 * A + E)]) (midL l n (k + 4))) := HUB.out _ (fun a' b' h1 h2 => by
                        rw [UInt8.toNat_ofNat_of_lt' (by show 16 * A + E < 256; omega)]
                        omega)
                      have hyn : (UInt8.ofNat (16 * A + E)).toNat = 16 * A + E := UInt8.toNat_ofNat_of_lt' (by show 16 * A + E < 256; omega)
                      obtain ⟨u, hu⟩ : ∃ u, UInt8.ofNat (16 * A + E) = u := ⟨_, rfl⟩
                      rw [hu] at HU hyn
                      rw [hA] at hP hal
                      rw [hE] at hQ hbl
                      have HP : Hid _ := hP
                      have HQ : Hid _ := hQ
                      clear hP hQ
                      have ha0 : ¬ ((A : Nat) : Int) < 0 := by omega
                      have hb0 : ¬ ((E : Nat) : Int) < 0 := by omega
                      obtain ⟨M, hM⟩ : ∃ M, 16 * ((A : Nat) : Int) = M := ⟨_, rfl⟩
                      obtain ⟨V, hV⟩ : ∃ V, M + ((E : Nat) : Int) = V := ⟨_, rfl⟩
                      have Q1 : Hid (IntKind.i64.wrap (16 * ((A : Nat) : Int)) = M) := by rw [Hid, IntKind.wrap_i64]; omega
                      have Q2 : Hid (IntKind.i64.wrap (M + ((E : Nat) : Int)) = V) := by rw [Hid, IntKind.wrap_i64]; omega
                      have Q3 : Hid (IntKind.u8.wrap V = ((u.toNat : Nat) : Int)) := by rw [Hid, hyn, IntKind.wrap_u8]; omega
                      clear hM hV
                      clear HNH HUB hA hE hu hyn
                      go_wp2_with fail
                      refine (HDX.out _ _).mono ?_
                      rintro e w' ⟨rfl, rfl⟩
                      rw [HP.out]
                      go_wp2_with fail
                      refine (HDX.out _ _).mono ?_
                      rintro e w' ⟨rfl, rfl⟩
                      rw [HQ.out]
                      go_wp2_with fail
                      have v2 : IntKind.i64.wrap (((k : Nat) : Int) + 2) = ((k : Nat) : Int) + 2 := by rw [IntKind.wrap_i64]; omega
                      have v3 : IntKind.i64.wrap (((k : Nat) : Int) + 3) = ((k : Nat) : Int) + 3 := by rw [IntKind.wrap_i64]; omega
                      have q1 := Q1.out
                      have q2 := Q2.out
                      have q3 := Q3.out
                      refine wp_region_held_drew (S := fun _ => True) (by kernel_rfl) trivial (fun hHeld => ?_)
                      refine wpAnyH_take (i := 0) (oi := ({ dst := some 81, op := Op.move (Operand.tmp 4), type := 46, pos := "ref.go:116", after := #[], guard := none } : Oper)) (v := ?_) rfl (by kernel_rfl) (by kernel_rfl) (by kernel_rfl) (fun _ _ _ h => h) (Or.inl ⟨by rfl, ?_⟩) (by assumption) ?_
                      rotate_left
                      · (intro w hSw; go_simp; try with_reducible rfl)
                      try simp only [Act.put, List.setIfInBounds_toArray, List.set_cons_zero, List.set_cons_succ]
                      refine wpAnyH_take (i := 1) (oi := ({ dst := some 82, op := Op.move (Operand.tmp 0), type := 9, pos := "ref.go:116", after := #[], guard := none } : Oper)) (v := ?_) rfl (by kernel_rfl) (by kernel_rfl) (by kernel_rfl) (fun _ _ _ h => h) (Or.inl ⟨by rfl, ?_⟩) (by assumption) ?_
                      rotate_left
                      · (intro w hSw; go_simp; try with_reducible rfl)
                      try simp only [Act.put, List.setIfInBounds_toArray, List.set_cons_zero, List.set_cons_succ]
                      refine wpAnyH_take (i := 2) (oi := ({ dst := some 83, op := Op.move (Operand.tmp 5), type := 3, pos := "ref.go:116", after := #[], guard := none } : Oper)) (v := ?_) rfl (by kernel_rfl) (by kernel_rfl) (by kernel_rfl) (fun _ _ _ h => h) (Or.inl ⟨by rfl, ?_⟩) (by assumption) ?_
                      rotate_left
                      · (intro w hSw; go_simp; try with_reducible rfl)
                      try simp only [Act.put, List.setIfInBounds_toArray, List.set_cons_zero, List.set_cons_succ]
                      refine wpAnyH_take (i := 3) (oi := ({ dst := some 84, op := Op.binOp BinOp.add 3 (Operand.tmp 83) (Operand.const (Value.int IntKind.i64 2)) 3, type := 3, pos := "ref.go:116", after := #[{ on := 2, ground := Ground.data }], guard := none } : Oper)) (v := ?_) rfl (by kernel_rfl) (by kernel_rfl) (by kernel_rfl) (fun _ _ _ h => h) (Or.inl ⟨by rfl, ?_⟩) (by assumption) ?_
                      rotate_left
                      · (intro w hSw; go_simp; try with_reducible rfl)
                      try simp only [Act.put, List.setIfInBounds_toArray, List.set_cons_zero, List.set_cons_succ]
                      refine wpAnyH_take (i := 4) (oi := ({ dst := some 85, op := Op.index 9 (Operand.tmp 82) (Operand.tmp 84), type := 5, pos := "ref.go:116", after := #[{ on := 1, ground := Ground.data }, { on := 3, ground := Ground.data }], guard := none } : Oper)) (v := ?_) rfl (by kernel_rfl) (by kernel_rfl) (by kernel_rfl) (fun _ _ _ h => h) (Or.inl ⟨by rfl, ?_⟩) (by assumption) ?_
                      rotate_left
                      · (intro w hSw; go_simp; try with_reducible rfl)
                      try simp only [Act.put, List.setIfInBounds_toArray, List.set_cons_zero, List.set_cons_succ]
                      refine wpAnyH_take (i := 7) (oi := ({ dst := some 88, op := Op.move (Operand.tmp 0), type := 9, pos := "ref.go:116", after := #[], guard := none } : Oper)) (v := ?_) rfl (by kernel_rfl) (by kernel_rfl) (by kernel_rfl) (fun _ _ _ h => h) (Or.inl ⟨by rfl, ?_⟩) (by assumption) ?_
                      rotate_left
                      · (intro w hSw; go_simp; try with_reducible rfl)
                      try simp only [Act.put, List.setIfInBounds_toArray, List.set_cons_zero, List.set_cons_succ]
                      refine wpAnyH_take (i := 8) (oi := ({ dst := some 89, op := Op.move (Operand.tmp 5), type := 3, pos := "ref.go:116", after := #[], guard := none } : Oper)) (v := ?_) rfl (by kernel_rfl) (by kernel_rfl) (by kernel_rfl) (fun _ _ _ h => h) (Or.inl ⟨by rfl, ?_⟩) (by assumption) ?_
                      rotate_left
                      · (intro w hSw; go_simp; try with_reducible rfl)
                      try simp only [Act.put, List.setIfInBounds_toArray, List.set_cons_zero, List.set_cons_succ]
                      refine wpAnyH_take (i := 9) (oi := ({ dst := some 90, op := Op.binOp BinOp.add 3 (Operand.tmp 89) (Operand.const (Value.int IntKind.i64 3)) 3, type := 3, pos := "ref.go:116", after := #[{ on := 8, ground := Ground.data }], guard := none } : Oper)) (v := ?_) rfl (by kernel_rfl) (by kernel_rfl) (by kernel_rfl) (fun _ _ _ h => h) (Or.inl ⟨by rfl, ?_⟩) (by assumption) ?_
                      rotate_left
                      · (intro w hSw; go_simp; try with_reducible rfl)
                      try simp only [Act.put, List.setIfInBounds_toArray, List.set_cons_zero, List.set_cons_succ]
                      refine wpAnyH_take (i := 10) (oi := ({ dst := some 91, op := Op.index 9 (Operand.tmp 88) (Operand.tmp 90), type := 5, pos := "ref.go:116", after := #[{ on := 7, ground := Ground.data }, { on := 9, ground := Ground.data }], guard := none } : Oper)) (v := ?_) rfl (by kernel_rfl) (by kernel_rfl) (by kernel_rfl) (fun _ _ _ h => h) (Or.inl ⟨by rfl, ?_⟩) (by assumption) ?_
                      rotate_left
                      · (intro w hSw; go_simp; try with_reducible rfl)
                      try simp only [Act.put, List.setIfInBounds_toArray, List.set_cons_zero, List.set_cons_succ]
                      refine wpAnyH_ready (rs := [5]) (by kernel_rfl) (by simp) ?_
                      refine (AllReadyH.cons rfl (fun K hK => ?_) AllReadyH.nil)
                      go_simp
                      go_wp2_with (go_at_call 23; refine (HDX.out _ _).mono ?_; rintro e w5 ⟨rfl, rfl⟩; rw [HP.out])
                      refine hK.out _ _ trivial (fun hHeld => ?_)
                      clear hK K
                      refine wpAnyH_take (i := 6) (oi := ({ dst := some 87, op := Op.binOp BinOp.mul 3 (Operand.const (Value.int IntKind.i64 16)) (Operand.tmp 86) 3, type := 3, pos := "ref.go:116", after := #[{ on := 5, ground := Ground.data }], guard := none } : Oper)) (v := ?_) rfl (by kernel_rfl) (by kernel_rfl) (by kernel_rfl) (fun _ _ _ h => h) (Or.inl ⟨by rfl, ?_⟩) (by assumption) ?_
                      rotate_left
                      · (intro w hSw; go_simp; try with_reducible rfl)
                      try simp only [Act.put, List.setIfInBounds_toArray, List.set_cons_zero, List.set_cons_succ]
                      refine wpAnyH_ready (rs := [11]) (by kernel_rfl) (by simp) ?_
                      refine (AllReadyH.cons rfl (fun K hK => ?_) AllReadyH.nil)
                      go_simp
                      go_wp2_with (go_at_call 23; refine (HDX.out _ _).mono ?_; rintro e w11 ⟨rfl, rfl⟩; rw [HQ.out])
                      refine hK.out _ _ trivial (fun hHeld => ?_)
                      clear hK K
                      refine wpAnyH_take (i := 12) (oi := ({ dst := some 93, op := Op.binOp BinOp.add 3 (Operand.tmp 87) (Operand.tmp 92) 3, type := 3, pos := "ref.go:116", after := #[{ on := 6, ground := Ground.data }, { on := 11, ground := Ground.data }], guard := none } : Oper)) (v := ?_) rfl (by kernel_rfl) (by kernel_rfl) (by kernel_rfl) (fun _ _ _ h => h) (Or.inl ⟨by rfl, ?_⟩) (by assumption) ?_
                      rotate_left
                      · (intro w hSw; go_simp; try with_reducible rfl)
                      try simp only [Act.put, List.setIfInBounds_toArray, List.set_cons_zero, List.set_cons_succ]
                      refine wpAnyH_take (i := 13) (oi := ({ dst := some 94, op := Op.convert 3 5 (Operand.tmp 93), type := 5, pos := "ref.go:116", after := #[{ on := 12, ground := Ground.data }], guard := none } : Oper)) (v := ?_) rfl (by kernel_rfl) (by kernel_rfl) (by kernel_rfl) (fun _ _ _ h => h) (Or.inl ⟨by rfl, ?_⟩) (by assumption) ?_
                      rotate_left
                      · (intro w hSw; go_simp; try with_reducible rfl)
                      try simp only [Act.put, List.setIfInBounds_toArray, List.set_cons_zero, List.set_cons_succ]
                      refine wpAnyH_ready (rs := [14]) (by kernel_rfl) (by simp) ?_
                      refine (AllReadyH.cons rfl (fun K hK => ?_) AllReadyH.nil)
                      go_simp
                      go_wp2_with fail
                      refine hK.out _ _ trivial (fun hHeld => ?_)
                      clear hK K
                      refine wpAnyH_ready (rs := [15]) (by kernel_rfl) (by simp) ?_
                      refine (AllReadyH.cons rfl (fun K hK => ?_) AllReadyH.nil)
                      refine step_append_own rfl (.tmp 81) (.tmp 95) 46 rfl w.heap.size 5 i0 (.int .u8 0) 1 1 Tryd.underlying46 hi hz0 hz1 hz2 rfl (by decide) _ m _ rfl (World.ownsRow.alloc HO.out _) ⟨w'.heap.size, 0, none⟩ 1 1 [.int .u8 ((u.toNat : Nat) : Int)] rfl rfl (new_cells _ [.int .u8 ((u.toNat : Nat) : Int)] _) (by simp [Value.oneCell']) (by unfold maxLen; omega) (by omega) (by have := HB.out.size; simp; omega) ?_
                      intro v2 w2 ho2 hg2
                      have HO2 : Hid (w2.ownsRow w.heap.size 5 1 v2 (m + 1) (Lib.byteCells (d ++ [u]))) := by rw [Hid, byteC_app]; exact ho2
                      have HB2 : Hid (Below w.heap.size w w2) := (below_drewN (HB.out.alloc HB.out.size _) 1).grown hg2 (by have := HB.out.size; simp; omega) (fun j ej => (World.ownsRow.lt HO.out j ej).1)
                      refine hK.out _ _ trivial (fun hHeld => ?_)
                      clear ho2 hg2
                      clear hK K
                      refine wpAnyH_take (i := 16) (oi := ({ dst := some 4, op := Op.assign (Operand.tmp 96), type := 46, pos := "ref.go:116", after := #[{ on := 15, ground := Ground.data }, { on := 15, ground := Ground.chain }, { on := 0, ground := Ground.phase }, { on := 1, ground := Ground.phase }, { on := 2, ground := Ground.phase }, { on := 3, ground := Ground.phase }, { on := 4, ground := Ground.phase }, { on := 5, ground := Ground.phase }, { on := 6, ground := Ground.phase }, { on := 7, ground := Ground.phase }, { on := 8, ground := Ground.phase }, { on := 9, ground := Ground.phase }, { on := 10, ground := Ground.phase }, { on := 11, ground := Ground.phase }, { on := 12, ground := Ground.phase }, { on := 13, ground := Ground.phase }, { on := 14, ground := Ground.phase }, { on := 15, ground := Ground.phase }], guard := none } : Oper)) (v := ?_) rfl (by kernel_rfl) (by kernel_rfl) (by kernel_rfl) (fun _ _ _ h => h) (Or.inl ⟨by rfl, ?_⟩) (by assumption) ?_
                      rotate_left
                      · (intro w hSw; go_simp; try with_reducible rfl)
                      refine wpAnyH_done (by kernel_rfl) ?_ _
                      go_wp2_with fail
                      go_roundw
                      case rel => exact ⟨k + 4, m + 1, d ++ [u], by omega, by omega, by go_num, by rw [List.length_append, HDM.out]; rfl, by omega, HU.out, HO2.out, HB2.out⟩
                      case measure => simp [intOf]; omega
                · have z3 : ¬ ((k : Nat) : Int) + 3 < ((n : Nat) : Int) - 1 := by omega
                  have HR : Hid (UqR l [] false) := ⟨fun e => (by cases e), fun _ => ⟨rfl, UI.none HI.out (by rw [HMC2.out]; simp) (by rw [HMC2.out]; exact no_hex hx hy (.inl (by rw [mid_len HN.out]; omega)))⟩⟩
                  clear hx hc hy he HI HMC HMC2 HMD hk hk3
                  go_wp2_with fail
                  go_ret2
                  first | exact ⟨[], false, rfl, HR.out, by simp, HB.out⟩ | exact ⟨[], .inl ⟨rfl, HR.out, by simp, HB.out⟩⟩
              · have y1 : ¬ ((y : Nat) : Int) = 120 := by omega
                have HU : Hid (UI l (d ++ [e]) (midL l n (k + 2))) := by
                  have := HI.out.step (by rw [HMC2.out]; simp) (c := e) (m := 2) (by rw [HMC2.out]; exact ub_two hx (.inl (by rw [hy]; exact h120)))
                  rw [HMD.out] at this
                  exact this
                clear hx hc hy he h120 HI HMC HMC2 HMD hk
                go_wp2_with (
                    at_builtin
                    refine wpList_append_own _ rfl _ _ 46 rfl w.heap.size 5 i0 (.int .u8 0) 1 1 Tryd.underlying46 hi hz0 hz1 hz2 rfl (by decide) _ m _ rfl (World.ownsRow.alloc HO.out _) ⟨wr.heap.size, 0, none⟩ 1 1 [.int .u8 ((y : Nat) : Int)] rfl rfl (new_cells _ [.int .u8 ((y : Nat) : Int)] _) (by simp [Value.oneCell']) (by unfold maxLen; omega) (by omega) (by have := HB.out.size; simp; omega) ?_
                    intro v2 w2 ho2 hg2 _
                    have HO2 : Hid (w2.ownsRow w.heap.size 5 1 v2 (m + 1) (Lib.byteCells (d ++ [e]))) := (by rw [Hid, byteC_app]; show w2.ownsRow w.heap.size 5 1 v2 (m + 1) (Lib.byteCells d ++ [.int .u8 ((e.toNat : Nat) : Int)]); rw [HY.out]; exact ho2)
                    have HB2 : Hid (Below w.heap.size w w2) := (HB.out.alloc HB.out.size _).grown hg2 (by have := HB.out.size; simp; omega) (fun j ej => (World.ownsRow.lt HO.out j ej).1)
                    clear ho2 hg2)
                go_roundw
                case rel => exact ⟨k + 2, m + 1, d ++ [e], by omega, by omega, by go_num, by rw [List.length_append, HDM.out]; rfl, by omega, HU.out, HO2.out, HB2.out⟩
                case measure => simp [intOf]; omega
            · have z2 : ¬ ((k : Nat) : Int) + 1 < ((n : Nat) : Int) - 1 := by omega
              have HR : Hid (UqR l [] false) := ⟨fun e => (by cases e), fun _ => ⟨rfl, UI.none HI.out (by rw [HMC.out]; simp) (by rw [HMC.out, mid_nil (by omega)]; exact no_one hx)⟩⟩
              clear hx hc HI HMC HMD hk
              go_wp2_with fail
              go_ret2
              first | exact ⟨[], false, rfl, HR.out, by simp, HB.out⟩ | exact ⟨[], .inl ⟨rfl, HR.out, by simp, HB.out⟩⟩
          · have y1 : ¬ ((x : Nat) : Int) = 92 := by omega
            have HU : Hid (UI l (d ++ [c]) (midL l n (k + 1))) := by
              have := HI.out.step (by rw [HMC.out]; simp) (c := c) (m := 1) (by rw [HMC.out]; exact ub_self (by rw [hx]; exact h92))
              rw [HMD.out] at this
              exact this
            clear hx hc h92 HI HMC HMD hk
            go_wp2_with (
                at_builtin
                refine wpList_append_own _ rfl _ _ 46 rfl w.heap.size 5 i0 (.int .u8 0) 1 1 Tryd.underlying46 hi hz0 hz1 hz2 rfl (by decide) _ m _ rfl (World.ownsRow.alloc HO.out _) ⟨wr.heap.size, 0, none⟩ 1 1 [.int .u8 ((x : Nat) : Int)] rfl rfl (new_cells _ [.int .u8 ((x : Nat) : Int)] _) (by simp [Value.oneCell']) (by unfold maxLen; omega) (by omega) (by have := HB.out.size; simp; omega) ?_
                intro v2 w2 ho2 hg2 _
                have HO2 : Hid (w2.ownsRow w.heap.size 5 1 v2 (m + 1) (Lib.byteCells (d ++ [c]))) := (by rw [Hid, byteC_app]; show w2.ownsRow w.heap.size 5 1 v2 (m + 1) (Lib.byteCells d ++ [.int .u8 ((c.toNat : Nat) : Int)]); rw [HX.out]; exact ho2)
                have HB2 : Hid (Below w.heap.size w w2) := (HB.out.alloc HB.out.size _).grown hg2 (by have := HB.out.size; simp; omega) (fun j ej => (World.ownsRow.lt HO.out j ej).1)
                clear ho2 hg2)
            go_roundw
            case rel => exact ⟨k + 1, m + 1, d ++ [c], by omega, by omega, by go_num, by rw [List.length_append, HDM.out]; rfl, by omega, HU.out, HO2.out, HB2.out⟩
            case measure => simp [intOf]; omega
        · have z1 : ¬ ((k : Nat) : Int) < ((n : Nat) : Int) - 1 := by omega
          have HIN : Hid (UI l d []) := by
            have := HI.out
            rw [mid_nil (by omega)] at this
            exact this
          have HUQ : Hid _ := uq_of HIN.out.last
          have HQ : Hid (∀ W : World, _) := fun W => qquote_any d W (by omega)
          have HDN : Hid (d.length ≤ n) := by rw [Hid]; omega
          obtain ⟨va, vc, rfl⟩ := row_form HO.out
          have hcv := conv_row hdm HO.out
          by_cases hq : quoteL d = l
          · have HU2 : Hid (UqR l d true) := by
              have h := HUQ.out
              rw [if_pos hq, decide_eq_true hq] at h
              exact h
            rw [hq] at HQ
            clear hq HUQ HI HIN hk
            go_wp2_with fail
            refine (HQ.out _).mono ?_
            rintro e w2 ⟨rfl, hl2⟩
            have HE2 : Hid (Below w.heap.size w w2) := HB.out.trans (hl2.mono HB.out.size)
            have hcv2 := conv_row hdm (owns_on2 HO.out hl2)
            clear hl2 hcv
            go_wp2_with fail
            go_ret2
            first | exact ⟨d, true, rfl, HU2.out, HDN.out, HE2.out⟩ | exact ⟨d, .inr ⟨rfl, HU2.out, HDN.out, HE2.out⟩⟩
          · have HU2 : Hid (UqR l [] false) := by
              have h := HUQ.out
              rw [if_neg hq, decide_eq_false hq] at h
              exact h
            have hq2 : ((bOf (quoteL d)).toList == (bOf l).toList) = false := by
              rw [beq_eq_false_iff_ne, ByteArray.toList_eq, ByteArray.toList_eq]
              exact hq
            clear hq HUQ HI HIN hk
            go_wp2_with fail
            refine (HQ.out _).mono ?_
            rintro e w2 ⟨rfl, hl2⟩
            have HE2 : Hid (Below w.heap.size w w2) := HB.out.trans (hl2.mono HB.out.size)
            clear hl2 hcv
            go_wp2_with fail
            go_ret2
            first | exact ⟨[], false, rfl, HU2.out, by simp, HE2.out⟩ | exact ⟨[], .inl ⟨rfl, HU2.out, by simp, HE2.out⟩⟩
end Go.Proofs.YtcdagmgbfihbdaaDoor
