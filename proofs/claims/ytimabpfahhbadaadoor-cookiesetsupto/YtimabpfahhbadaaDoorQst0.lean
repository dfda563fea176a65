/-
  What the twin's Set tells, text by text.
-/
import Derived.Test.YtimabpfahhbadaaDoorNmb
namespace Go.Proofs.YtimabpfahhbadaaDoor
open Go.RowKit
def qs0 (c : Ck) : ByteArray := c.name ++ ⟨#[61]⟩ ++ c.value
def qs1 (c : Ck) : ByteArray := cond (hasK c 0) (qs0 c ++ ⟨#[59, 32, 80, 97, 116, 104, 61]⟩ ++ c.path) (qs0 c)
def qs2 (c : Ck) : ByteArray := cond (hasK c 1) (qs1 c ++ ⟨#[59, 32, 77, 97, 120, 45, 65, 103, 101, 61]⟩ ++ numB c.age.toNat) (qs1 c)
def qs3 (c : Ck) : ByteArray := cond (hasK c 2) (qs2 c ++ ⟨#[59, 32, 72, 116, 116, 112, 79, 110, 108, 121]⟩) (qs2 c)
def qs4 (c : Ck) : ByteArray := cond (hasK c 3) (qs3 c ++ ⟨#[59, 32, 83, 101, 99, 117, 114, 101]⟩) (qs3 c)
def qs5 (c : Ck) : ByteArray := cond (hasK c 4) (qs4 c ++ ⟨#[59, 32, 83, 97, 109, 101, 83, 105, 116, 101, 61]⟩ ++ c.same) (qs4 c)
theorem jn_step (c : Ck) (k : Nat) (hk : k ≤ 5) : jn (txK c (k + 1)) = cond (hasK c k) (jn (txK c k) ++ smb ++ (wordK k ++ sayK c k)) (jn (txK c k)) := by
  rw [txK]
  cases hh : hasK c k with
  | false => rw [txs_not hh, List.append_nil]; rfl
  | true =>
    rw [txs_has hh]
    have h1 := (txK_len c k hk).1
    cases hq : txK c k with
    | nil => rw [hq] at h1; simp at h1
    | cons t ts => rw [jn_snoc]; rfl
theorem qs0_eq (c : Ck) : jn (txK c 0) = qs0 c := by rw [txK, jn_one]; rfl
theorem qs1_eq (c : Ck) : jn (txK c 1) = qs1 c := by
  rw [jn_step c 0 (by omega), qs0_eq]
  unfold qs1
  congr 1
  apply ext_list
  simp only [app_list]
  simp [smb, wordK, wPath, sayK]
theorem itB_num {n : Int} (h : 0 ≤ n) : itB n = numB n.toNat := ext_list (itB_list h)
theorem qs2_eq (c : Ck) (h : 0 ≤ c.age) : jn (txK c 2) = qs2 c := by
  rw [jn_step c 1 (by omega), qs1_eq]
  unfold qs2
  congr 1
  rw [show sayK c 1 = itB c.age from rfl, itB_num h]
  apply ext_list
  simp only [app_list]
  simp [smb, wordK, wAge]
theorem qs3_eq (c : Ck) (h : 0 ≤ c.age) : jn (txK c 3) = qs3 c := by
  rw [jn_step c 2 (by omega), qs2_eq c h]
  unfold qs3
  congr 1
  apply ext_list
  simp only [app_list]
  simp [smb, wordK, wHttp, sayK]
theorem qs4_eq (c : Ck) (h : 0 ≤ c.age) : jn (txK c 4) = qs4 c := by
  rw [jn_step c 3 (by omega), qs3_eq c h]
  unfold qs4
  congr 1
  apply ext_list
  simp only [app_list]
  simp [smb, wordK, wSec, sayK]
theorem qs5_eq (c : Ck) (h : 0 ≤ c.age) : jn (txK c 5) = qs5 c := by
  rw [jn_step c 4 (by omega), qs4_eq c h]
  unfold qs5
  congr 1
  apply ext_list
  simp only [app_list]
  simp [smb, wordK, wSame, sayK]
theorem qnum_any {n : Int} (h0 : 0 ≤ n) (h1 : n ≤ 2147483647) (w : World) : Calls Tryd.prog 35 #[.int .i64 n] w fun e w' => e = .returned (.string (numB n.toNat)) ∧ Below w.heap.size w w' := by
  have := number_any n.toNat n.toNat (Nat.le_refl _) (by omega) w
  rw [show ((n.toNat : Nat) : Int) = n by omega] at this
  exact this
end Go.Proofs.YtimabpfahhbadaaDoor
