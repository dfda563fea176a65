/-
  The contracts of the twin's begins, line, failed, cookie, number.
-/
import Derived.Test.YtdkbgbhcnbmlfaaDoorQdg
import Derived.BigQuiet
namespace Go.Proofs.YtdkbgbhcnbmlfaaDoor
open Go.RowKit
/-- How many bytes two texts begin with alike. -/
def com : List UInt8 → List UInt8 → Nat
  | a :: l, b :: m => if a = b then com l m + 1 else 0
  | _, _ => 0
theorem com_le : ∀ l m : List UInt8, com l m ≤ l.length ∧ com l m ≤ m.length
  | [], m => by rw [com.eq_def]; simp
  | a :: l, [] => by rw [com.eq_def]; simp
  | a :: l, b :: m => by
    have := com_le l m
    rw [com]
    simp only [List.length_cons]
    split <;> omega
theorem com_right : ∀ l m : List UInt8, decide (com l m = m.length) = m.isPrefixOf l
  | [], [] => by simp [com.eq_def]
  | [], b :: m => by simp [com.eq_def]
  | a :: l, [] => by simp [com.eq_def]
  | a :: l, b :: m => by
    have := com_right l m
    rw [com, List.isPrefixOf, List.length_cons]
    by_cases h : a = b
    · subst h
      rw [if_pos rfl, ← this]
      simp
    · rw [if_neg h]
      have : (b == a) = false := by simpa using fun q => h q.symm
      rw [this]
      simp
theorem com_left : ∀ l m : List UInt8, decide (com l m = l.length) = l.isPrefixOf m
  | [], [] => by simp [com.eq_def]
  | [], b :: m => by simp [com.eq_def]
  | a :: l, [] => by simp [com.eq_def]
  | a :: l, b :: m => by
    have := com_left l m
    rw [com, List.isPrefixOf, List.length_cons]
    by_cases h : a = b
    · subst h
      rw [if_pos rfl, ← this]
      simp
    · rw [if_neg h]
      have : (a == b) = false := by simpa using h
      rw [this]
      simp
set_option maxRecDepth 20000 in
set_option maxHeartbeats 4000000 in
theorem qbegins_any (s t : ByteArray) (hs : s.size ≤ 140737488355328) (ht : t.size ≤ 140737488355328) (w : World) : Calls Tryd.prog 50 #[.string s, .string t] w fun e w' => e = .returned (.tuple #[.bool (decide (com s.data.toList t.data.toList = s.size) || decide (com s.data.toList t.data.toList = t.size)), .bool (decide (com s.data.toList t.data.toList = t.size))]) ∧ Below w.heap.size w w' := by
  have HL1 : Hid (s.data.toList.length = s.size) := size_list s
  have HL2 : Hid (t.data.toList.length = t.size) := size_list t
  have HS0 : Hid (com s.data.toList t.data.toList = 0 + com (s.data.toList.drop 0) (t.data.toList.drop 0)) := by rw [Hid, List.drop_zero, List.drop_zero, Nat.zero_add]
  obtain ⟨T, hT⟩ : ∃ T, com s.data.toList t.data.toList = T := ⟨_, rfl⟩
  rw [hT] at HS0 ⊢
  clear hT
  have fin : Hid (∀ k : Nat, T = k → (((k : Int) == (s.size : Int)) || ((k : Int) == (t.size : Int))) = (decide (T = s.size) || decide (T = t.size)) ∧ ((k : Int) == (t.size : Int)) = decide (T = t.size)) := fun k q => by
    subst q
    have h1 : ((T : Int) == (s.size : Int)) = decide (T = s.size) := by rw [Bool.eq_iff_iff]; simp; omega
    have h2 : ((T : Int) == (t.size : Int)) = decide (T = t.size) := by rw [Bool.eq_iff_iff]; simp; omega
    rw [h1, h2]
    exact ⟨rfl, rfl⟩
  go_enter Tryd.func50, Tryd.ntmps50
  go_wp2_with fail
  go_loopw [6] (fun i wr => ∃ k : Nat, k ≤ s.size ∧ k ≤ t.size ∧ i = .int .i64 k ∧ Hid (T = k + com (s.data.toList.drop k) (t.data.toList.drop k)) ∧ Hid (Below w.heap.size w wr)) (fun i _ => s.size - (intOf i).toNat)
  case atStart => exact ⟨0, by omega, by omega, rfl, HS0.out, Below.refl _ _⟩
  case round =>
    obtain ⟨k, hk, hk2, rfl, HN, HB⟩ := hrel
    by_cases h1 : k < s.size
    · have h1z : decide ((k : Int) < (s.size : Int)) = true := by simp; omega
      by_cases h2 : k < t.size
      · have h2z : decide ((k : Int) < (t.size : Int)) = true := by simp; omega
        have r1 := fun W => run_byte s (i := k) (z := (k : Int)) rfl h1 W
        have r2 := fun W => run_byte t (i := k) (z := (k : Int)) rfl h2 W
        have hnx : com (s.data.toList.drop k) (t.data.toList.drop k) = if byteAt s k = byteAt t k then com (s.data.toList.drop (k + 1)) (t.data.toList.drop (k + 1)) + 1 else 0 := by
          rw [byteAt_drop h1, byteAt_drop h2, com]
          have q1 := UInt8.toNat_ofNat_of_lt' (byteAt_lt s k)
          have q2 := UInt8.toNat_ofNat_of_lt' (byteAt_lt t k)
          by_cases e : byteAt s k = byteAt t k
          · rw [e, if_pos rfl, if_pos rfl]
          · rw [if_neg e, if_neg (fun c => e (by rw [← q1, ← q2, c]))]
        obtain ⟨x, hx⟩ : ∃ x, byteAt s k = x := ⟨_, rfl⟩
        obtain ⟨y, hy⟩ : ∃ y, byteAt t k = y := ⟨_, rfl⟩
        rw [hx] at r1 hnx
        rw [hy] at r2 hnx
        have HNX : Hid _ := hnx
        clear hx hy hnx
        by_cases g : x = y
        · subst g
          have HQ : Hid (T = k + 1 + com (s.data.toList.drop (k + 1)) (t.data.toList.drop (k + 1))) := by rw [Hid, HN.out, HNX.out, if_pos rfl]; omega
          have gz : ((x : Int) == (x : Int)) = true := by simp
          go_wp2_with fail
          go_quiet (fail)
          obtain ⟨v3, hv3⟩ : ∃ v3, wr.drewN nq = v3 := ⟨_, rfl⟩
          have HB3 : Hid (Below w.heap.size w v3) := by rw [Hid, ← hv3]; exact below_drewN HB.out nq
          rw [hv3]
          clear hv3
          go_wp2_with fail
          go_roundw
          case rel => exact ⟨k + 1, by omega, by omega, by go_num, HQ.out, HB3.out⟩
          case measure => simp [intOf]; omega
        · have HQ : Hid (T = k) := by rw [Hid, HN.out, HNX.out, if_neg g]; rfl
          have gz : ((x : Int) == (y : Int)) = false := beq_eq_false_iff_ne.2 (by omega)
          have e1 : ((k : Int) == (s.size : Int)) = false := beq_eq_false_iff_ne.2 (by omega)
          have e2 : ((k : Int) == (t.size : Int)) = false := beq_eq_false_iff_ne.2 (by omega)
          have HF : Hid _ := fin.out k HQ.out
          rw [e1, e2] at HF
          go_wp2_with fail
          go_quiet (fail)
          obtain ⟨v3, hv3⟩ : ∃ v3, wr.drewN nq = v3 := ⟨_, rfl⟩
          have HB3 : Hid (Below w.heap.size w v3) := by rw [Hid, ← hv3]; exact below_drewN HB.out nq
          rw [hv3]
          clear hv3
          go_wp2_with fail
          go_ret2
          exact ⟨by rw [← HF.out.1, ← HF.out.2]; rfl, HB3.out⟩
      · obtain rfl : k = t.size := by omega
        have h2z : decide ((t.size : Int) < (t.size : Int)) = false := by simp
        have HQ : Hid (T = t.size) := by rw [Hid, HN.out, List.drop_of_length_le (l := t.data.toList) (by rw [HL2.out]; omega), com.eq_def]; simp
        have e1 : ((t.size : Int) == (s.size : Int)) = false := beq_eq_false_iff_ne.2 (by omega)
        have e2 : ((t.size : Int) == (t.size : Int)) = true := by simp
        have HF : Hid _ := fin.out t.size HQ.out
        rw [e1, e2] at HF
        go_wp2_with fail
        go_quiet (fail)
        obtain ⟨v3, hv3⟩ : ∃ v3, wr.drewN nq = v3 := ⟨_, rfl⟩
        have HB3 : Hid (Below w.heap.size w v3) := by rw [Hid, ← hv3]; exact below_drewN HB.out nq
        rw [hv3]
        clear hv3
        go_wp2_with fail
        go_ret2
        exact ⟨by rw [← HF.out.1, ← HF.out.2]; rfl, HB3.out⟩
    · obtain rfl : k = s.size := by omega
      have h1z : decide ((s.size : Int) < (s.size : Int)) = false := by simp
      have HQ : Hid (T = s.size) := by rw [Hid, HN.out, List.drop_of_length_le (l := s.data.toList) (by rw [HL1.out]; omega), com.eq_def]; simp
      have e1 : ((s.size : Int) == (s.size : Int)) = true := by simp
      have HF : Hid _ := fin.out s.size HQ.out
      rw [e1] at HF
      by_cases h2 : s.size = t.size
      · have e2 : ((s.size : Int) == (t.size : Int)) = true := by rw [h2]; simp
        rw [e2] at HF
        go_wp2_with fail
        go_quiet (fail)
        obtain ⟨v3, hv3⟩ : ∃ v3, wr.drewN nq = v3 := ⟨_, rfl⟩
        have HB3 : Hid (Below w.heap.size w v3) := by rw [Hid, ← hv3]; exact below_drewN HB.out nq
        rw [hv3]
        clear hv3 h2
        go_wp2_with fail
        go_ret2
        exact ⟨by rw [← HF.out.1, ← HF.out.2]; rfl, HB3.out⟩
      · have e2 : ((s.size : Int) == (t.size : Int)) = false := beq_eq_false_iff_ne.2 (by omega)
        rw [e2] at HF
        go_wp2_with fail
        go_quiet (fail)
        obtain ⟨v3, hv3⟩ : ∃ v3, wr.drewN nq = v3 := ⟨_, rfl⟩
        have HB3 : Hid (Below w.heap.size w v3) := by rw [Hid, ← hv3]; exact below_drewN HB.out nq
        rw [hv3]
        clear hv3
        go_wp2_with fail
        go_ret2
        exact ⟨by rw [← HF.out.1, ← HF.out.2]; rfl, HB3.out⟩
set_option maxRecDepth 20000 in
theorem qfailed_any (b : Bool) (w : World) : Calls Tryd.prog 39 #[.bool b] w fun e w' => e = .returned (.int .i64 (if b then 20 else 180)) ∧ w' = w := by
  cases b with
  | false =>
    go_enter Tryd.func39, Tryd.ntmps39
    go_wp2_with fail
    go_ret
    exact ⟨rfl, rfl⟩
  | true =>
    go_enter Tryd.func39, Tryd.ntmps39
    go_wp2_with fail
    go_ret
    exact ⟨rfl, rfl⟩
/-- A line at a place: the place behind it, whether the text ends within it, whether it stands there. -/
def linQ (l : List UInt8) (a : Nat) (m : List UInt8) : Nat × Bool × Bool := if m.isPrefixOf (l.drop a) = true then (a + m.length, false, true) else (a, (l.drop a).isPrefixOf m, false)
set_option maxRecDepth 20000 in
set_option maxHeartbeats 4000000 in
theorem qline_any (s t : ByteArray) (a : Nat) (hs : s.size ≤ 140737488355328) (ht : t.size ≤ 140737488355328) (ha : a ≤ s.size) (w : World) : Calls Tryd.prog 38 #[.string s, .int .i64 (a : Nat), .string t] w fun e w' => e = .returned (.tuple #[.int .i64 ((linQ s.data.toList a t.data.toList).1 : Nat), .bool (linQ s.data.toList a t.data.toList).2.1, .bool (linQ s.data.toList a t.data.toList).2.2]) ∧ Below w.heap.size w w' := by
  have HX : Hid ((s.extract a s.size).data.toList = s.data.toList.drop a) := by
    rw [Hid]
    conv => lhs; rw [← list_mkB s]
    rw [mkB_suf, mkB_list]
  have hxs : (s.extract a s.size).size ≤ s.size := by rw [ByteArray.size_extract]; omega
  have H1 : Hid (∀ W : World, _) := fun W => qbegins_any (s.extract a s.size) t (by omega) (by omega) W
  rw [← size_list (s.extract a s.size), ← size_list t, com_right, com_left, HX.out] at H1
  have HT : Hid (t.data.toList.length = t.size) := size_list t
  unfold linQ
  rw [HT.out]
  obtain ⟨p, hp⟩ : ∃ p, t.data.toList.isPrefixOf (s.data.toList.drop a) = p := ⟨_, rfl⟩
  obtain ⟨q, hq⟩ : ∃ q, (s.data.toList.drop a).isPrefixOf t.data.toList = q := ⟨_, rfl⟩
  rw [hp, hq] at H1 ⊢
  obtain ⟨X, hX⟩ : ∃ X, s.extract a s.size = X := ⟨_, rfl⟩
  rw [hX] at H1
  clear hp hq HX hxs HT
  cases p with
  | false =>
    rw [Bool.or_false] at H1
    rw [if_neg (by decide)]
    go_enter Tryd.func38, Tryd.ntmps38
    go_wp2_with fail
    refine (H1.out _).mono ?_
    rintro e w1 ⟨rfl, b1⟩
    go_wp2_with fail
    go_ret3
    exact ⟨rfl, b1⟩
  | true =>
    rw [Bool.or_true] at H1
    rw [if_pos rfl]
    go_enter Tryd.func38, Tryd.ntmps38
    go_wp2_with fail
    refine (H1.out _).mono ?_
    rintro e w1 ⟨rfl, b1⟩
    go_wp2_with fail
    go_ret3
    exact ⟨by first | rfl | (simp only [Nat.cast_add]; rfl), b1⟩
end Go.Proofs.YtdkbgbhcnbmlfaaDoor
