/-
  Plain mathematics of the check sum: a number of 32 bits is shifted bit by bit, as chapter 2 says it. No program in sight.
-/
namespace Go.Proofs.Ytefigcnfcbdecaa.Cx

/-- One bit goes out. -/
def step1 (x : Nat) : Nat := if x % 2 = 1 then (x / 2) ^^^ 2197175160 else x / 2
/-- So many bits go out. -/
def steps : Nat → Nat → Nat
  | 0, x => x
  | n + 1, x => step1 (steps n x)
/-- A byte goes in. -/
def byte (x : Nat) (c : UInt8) : Nat := steps 8 (x ^^^ c.toNat)
/-- Bytes go in, one behind the other. -/
def run (l : List UInt8) (x : Nat) : Nat := l.foldl byte x
/-- The check sum. -/
def crc (l : List UInt8) : Nat := 4294967295 ^^^ run l 4294967295

theorem step1_lt {x : Nat} (h : x < 4294967296) : step1 x < 4294967296 := by
  unfold step1
  split
  · exact Nat.xor_lt_two_pow (n := 32) (by omega) (by omega)
  · omega
theorem steps_lt {x : Nat} (h : x < 4294967296) : ∀ n, steps n x < 4294967296
  | 0 => h
  | n + 1 => step1_lt (steps_lt h n)
theorem xor_lt {x y : Nat} (h : x < 4294967296) (k : y < 4294967296) : x ^^^ y < 4294967296 := Nat.xor_lt_two_pow (n := 32) h k
theorem byte_in {x : Nat} (c : UInt8) (h : x < 4294967296) : x ^^^ c.toNat < 4294967296 := xor_lt h (by have := c.toNat_lt; omega)
theorem byte_lt {x : Nat} (c : UInt8) (h : x < 4294967296) : byte x c < 4294967296 := steps_lt (byte_in c h) 8
theorem run_lt : ∀ (l : List UInt8) {x : Nat}, x < 4294967296 → run l x < 4294967296
  | [], _, h => h
  | c :: l, _, h => run_lt l (byte_lt c h)
theorem crc_lt (l : List UInt8) : crc l < 4294967296 := xor_lt (by decide) (run_lt l (by decide))
theorem run_snoc (l : List UInt8) (c : UInt8) (x : Nat) : run (l ++ [c]) x = byte (run l x) c := by simp [run]
theorem step1_odd {x : Nat} (h : x % 2 = 1) : step1 x = (x / 2) ^^^ 2197175160 := by simp [step1, h]
theorem step1_even {x : Nat} (h : ¬ x % 2 = 1) : step1 x = x / 2 := by simp [step1, h]
end Go.Proofs.Ytefigcnfcbdecaa.Cx
