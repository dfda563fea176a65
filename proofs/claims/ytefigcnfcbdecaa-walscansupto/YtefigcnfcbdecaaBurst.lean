/-
  Plain mathematics of the check sum: up to 32 neighbouring bits that are turned turn the check sum. No program in sight.
-/
import Derived.Test.YtefigcnfcbdecaaMath
namespace Go.Proofs.Ytefigcnfcbdecaa.Cx

theorem xor_mod2 (a b : Nat) : (a ^^^ b) % 2 = (a + b) % 2 := by
  have h : (a ^^^ b) % 2 = (a % 2) ^^^ (b % 2) := Nat.xor_mod_two_pow (n := 1)
  rcases Nat.mod_two_eq_zero_or_one a with ha | ha <;> rcases Nat.mod_two_eq_zero_or_one b with hb | hb <;> rw [h, ha, hb] <;> simp only [Nat.xor_self, Nat.zero_xor, Nat.xor_zero] <;> omega
theorem step1_xor (a b : Nat) : step1 (a ^^^ b) = step1 a ^^^ step1 b := by
  have h1 : (a ^^^ b) % 2 = (a + b) % 2 := xor_mod2 a b
  have h2 : (a ^^^ b) / 2 = a / 2 ^^^ b / 2 := Nat.xor_div_two
  unfold step1
  rw [h1, h2]
  by_cases ha : a % 2 = 1 <;> by_cases hb : b % 2 = 1
  · rw [if_neg (by omega), if_pos ha, if_pos hb, show a / 2 ^^^ 2197175160 ^^^ (b / 2 ^^^ 2197175160) = a / 2 ^^^ b / 2 ^^^ (2197175160 ^^^ 2197175160) by ac_rfl, Nat.xor_self, Nat.xor_zero]
  · rw [if_pos (by omega), if_pos ha, if_neg hb]
    ac_rfl
  · rw [if_pos (by omega), if_neg ha, if_pos hb]
    ac_rfl
  · rw [if_neg (by omega), if_neg ha, if_neg hb]
theorem step1_ne {x : Nat} (h : x < 4294967296) (h0 : x ≠ 0) : step1 x ≠ 0 := by
  unfold step1
  split
  · intro e
    have e2 : x / 2 = 2197175160 := by
      have := congrArg (· ^^^ 2197175160) e
      simpa [Nat.xor_assoc, Nat.xor_self] using this
    omega
  · omega
theorem step1_zero : step1 0 = 0 := by decide
theorem step1_double (c : Nat) : step1 (2 * c) = c := by
  unfold step1
  rw [if_neg (by omega)]
  omega
theorem steps_succ (n x : Nat) : steps (n + 1) x = steps n (step1 x) := by
  induction n with
  | zero => rfl
  | succ n ih => show step1 (steps (n + 1) x) = step1 (steps n (step1 x)); rw [ih]
theorem steps_ne {x : Nat} (h : x < 4294967296) (h0 : x ≠ 0) : ∀ n, steps n x ≠ 0
  | 0 => h0
  | n + 1 => step1_ne (steps_lt h n) (steps_ne h h0 n)

/-- One bit goes in. -/
def feed (x : Nat) (b : Bool) : Nat := step1 (x ^^^ b.toNat)
/-- Bits go in, one behind the other. -/
def feeds (l : List Bool) (x : Nat) : Nat := l.foldl feed x
/-- The number that bits are, the lowest first. -/
def num : List Bool → Nat
  | [] => 0
  | b :: l => b.toNat + 2 * num l
theorem num_lt : ∀ l : List Bool, num l < 2 ^ l.length
  | [] => by decide
  | b :: l => by
    have := num_lt l
    have hb : b.toNat ≤ 1 := by cases b <;> decide
    rw [num, List.length_cons, Nat.pow_succ]
    omega
theorem bool_xor_double (b : Bool) (m : Nat) : b.toNat + 2 * m = b.toNat ^^^ (2 * m) := by
  cases b
  · simp
  · apply Nat.eq_of_testBit_eq
    intro i
    cases i with
    | zero => simp [Nat.testBit_zero]
    | succ i =>
      rw [Nat.testBit_xor, Nat.testBit_succ, Nat.testBit_succ, Nat.testBit_succ]
      have h1 : (true.toNat + 2 * m) / 2 = m := by show (1 + 2 * m) / 2 = m; omega
      have h2 : (2 * m) / 2 = m := by omega
      have h3 : true.toNat / 2 = 0 := by decide
      rw [h1, h2, h3]
      simp
theorem feeds_num (l : List Bool) : ∀ x, feeds l x = steps l.length (x ^^^ num l) := by
  induction l with
  | nil => intro x; simp [feeds, num, steps]
  | cons b l ih =>
    intro x
    show feeds l (feed x b) = _
    rw [ih, List.length_cons, steps_succ, num, bool_xor_double, ← Nat.xor_assoc, step1_xor, step1_double]
    rfl
/-- A byte's bits, the lowest first. -/
def bitsOf (c : UInt8) : List Bool := (List.range 8).map fun i => c.toNat.testBit i
theorem num_bits : ∀ n : Fin 256, num ((List.range 8).map fun i => n.val.testBit i) = n.val := by decide +kernel
theorem num_bitsOf (c : UInt8) : num (bitsOf c) = c.toNat := num_bits ⟨c.toNat, c.toNat_lt⟩
theorem byte_feeds (x : Nat) (c : UInt8) : byte x c = feeds (bitsOf c) x := by
  rw [feeds_num, num_bitsOf]
  rfl
/-- All bits of bytes. -/
def bitsAll (l : List UInt8) : List Bool := l.flatMap bitsOf
theorem run_feeds (l : List UInt8) : ∀ x, run l x = feeds (bitsAll l) x := by
  induction l with
  | nil => intro x; rfl
  | cons c l ih =>
    intro x
    show run l (byte x c) = _
    rw [ih, byte_feeds]
    simp [feeds, bitsAll]
theorem feed_xor (x y : Nat) (b c : Bool) : feed x b ^^^ feed y c = feed (x ^^^ y) (b ^^ c) := by
  unfold feed
  rw [← step1_xor]
  congr 1
  have : (b ^^ c).toNat = b.toNat ^^^ c.toNat := by cases b <;> cases c <;> decide
  rw [this]
  ac_rfl
theorem feeds_xor : ∀ (l m : List Bool) (x y : Nat), l.length = m.length → feeds l x ^^^ feeds m y = feeds (List.zipWith (· ^^ ·) l m) (x ^^^ y)
  | [], [], x, y, _ => by simp [feeds]
  | b :: l, c :: m, x, y, h => by
    have := feeds_xor l m (feed x b) (feed y c) (by simpa using h)
    rw [feed_xor] at this
    exact this
  | [], _ :: _, _, _, h => by simp at h
  | _ :: _, [], _, _, h => by simp at h
theorem feeds_append (l m : List Bool) (x : Nat) : feeds (l ++ m) x = feeds m (feeds l x) := by simp [feeds]
theorem feeds_none (n : Nat) : feeds (List.replicate n false) 0 = 0 := by
  induction n with
  | zero => rfl
  | succ n ih => exact ih
theorem feeds_still : ∀ (n x : Nat), x < 4294967296 → x ≠ 0 → feeds (List.replicate n false) x ≠ 0
  | 0, _, _, h0 => h0
  | n + 1, x, h, h0 => by
    show feeds (List.replicate n false) (feed x false) ≠ 0
    have e : feed x false = step1 x := by simp [feed]
    rw [e]
    exact feeds_still n _ (step1_lt h) (step1_ne h h0)
/-- A window of up to 32 bits, one of them set: it is told. -/
theorem feeds_burst (p q : Nat) (win : List Bool) (hw : win.length ≤ 32) (h0 : num win ≠ 0) : feeds (List.replicate p false ++ win ++ List.replicate q false) 0 ≠ 0 := by
  have hl : num win < 4294967296 := Nat.lt_of_lt_of_le (num_lt win) (Nat.pow_le_pow_right (n := 2) (by decide) hw)
  rw [feeds_append, feeds_append, feeds_none, feeds_num win 0, Nat.zero_xor]
  exact feeds_still q _ (steps_lt hl _) (steps_ne hl h0 _)
/-- Two texts whose bits part in such a window have two check sums. -/
theorem crc_burst (l m : List UInt8) (hlen : l.length = m.length) (p q : Nat) (win : List Bool) (hw : win.length ≤ 32) (h0 : num win ≠ 0)
    (hd : List.zipWith (· ^^ ·) (bitsAll l) (bitsAll m) = List.replicate p false ++ win ++ List.replicate q false) : crc l ≠ crc m := by
  intro e
  have hb : ∀ t : List UInt8, (bitsAll t).length = 8 * t.length := by
    intro t
    induction t with
    | nil => rfl
    | cons c t ih => rw [bitsAll, List.flatMap_cons, List.length_append, ← bitsAll, ih, List.length_cons]; simp [bitsOf]; omega
  have e1 : run l 4294967295 = run m 4294967295 := by
    have := congrArg (4294967295 ^^^ ·) e
    simpa [crc, ← Nat.xor_assoc, Nat.xor_self] using this
  rw [run_feeds, run_feeds] at e1
  have e2 := feeds_xor (bitsAll l) (bitsAll m) 4294967295 4294967295 (by rw [hb, hb, hlen])
  rw [e1, Nat.xor_self, Nat.xor_self, hd] at e2
  exact feeds_burst p q win hw h0 e2.symm
end Go.Proofs.Ytefigcnfcbdecaa.Cx
