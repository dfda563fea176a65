/-
  Where a key's versions end; where among them the newest one up to a moment stands.
-/
import Derived.Test.YtohamjoiohfoiaaSorted
namespace Go.Proofs.Ytohamjoiohfoiaa
open Go.RowKit
def sameK (a b : Cl) : Bool := a.key.toList == b.key.toList
theorem sameK_refl (a : Cl) : sameK a a = true := by simp [sameK]
/-- How many of the first cells have the first one's key. -/
def runN (l : List Cl) : Nat := match l with
  | [] => 0
  | c :: _ => (l.takeWhile (fun x => sameK x c)).length
theorem tw_len {p : Cl → Bool} : ∀ (l : List Cl) (k : Nat), k ≤ l.length → (∀ j x, j < k → l[j]? = some x → p x = true) → (∀ y, l[k]? = some y → p y = false) → (l.takeWhile p).length = k
  | [], k, hk, _, _ => by simp at hk; simp [hk]
  | a :: l, 0, _, _, h2 => by
    have := h2 a rfl
    simp [this]
  | a :: l, k + 1, hk, h1, h2 => by
    have ha := h1 0 a (by omega) rfl
    rw [List.takeWhile_cons, ha, if_pos rfl, List.length_cons, tw_len l k (by simpa using hk) (fun j x hj hx => h1 (j + 1) x (by omega) (by simpa using hx)) (fun y hy => h2 y (by simpa using hy))]
theorem runN_of {l : List Cl} {c : Cl} {k : Nat} (h0 : l[0]? = some c) (hk : k ≤ l.length) (h1 : ∀ j x, j < k → l[j]? = some x → sameK x c = true) (h2 : ∀ y, l[k]? = some y → sameK y c = false) : runN l = k := by
  cases l with
  | nil => simp at h0
  | cons a l =>
    simp only [List.getElem?_cons_zero, Option.some.injEq] at h0
    subst h0
    exact tw_len _ k hk h1 h2
theorem runN_le (l : List Cl) : runN l ≤ l.length := by
  unfold runN
  split
  · exact Nat.zero_le _
  · exact (List.takeWhile_prefix _).length_le
theorem runN_pos {l : List Cl} (h : l ≠ []) : 1 ≤ runN l := by
  cases l with
  | nil => exact absurd rfl h
  | cons a l =>
    show 1 ≤ ((a :: l).takeWhile (fun x => sameK x a)).length
    rw [List.takeWhile_cons, sameK_refl, if_pos rfl, List.length_cons]
    omega
set_option maxHeartbeats 1000000 in
theorem keyne_any (c c0 : Cl) (x b off n cp : Nat) (w : World) (hx : w.cell? ⟨x, 0, none⟩ = some (.slice (some ⟨b, off, none⟩) n cp)) (hn : 0 < n) (h0 : w.cell? ⟨b, off, none⟩ = some (.string c0.key)) :
    Calls Try.prog 41 #[clV c, .pointer (some ⟨x, 0, none⟩)] w fun r w' => r = .returned (.bool (!sameK c c0)) ∧ Below w.heap.size w w' := by
  obtain ⟨k1, s1, v1, g1⟩ := c
  obtain ⟨k2, s2, v2, g2⟩ := c0
  simp only [clV]
  simp only at h0
  obtain ⟨WA, hWA⟩ : ∃ WA, w.alloc (.cells #[.string k1, .int .u64 (s1 : Nat), .string v1, .bool g1] 24) = WA := ⟨_, rfl⟩
  obtain ⟨M, hM⟩ : ∃ M, w.heap.size = M := ⟨_, rfl⟩
  have hmA : WA.heap[M]? = some (.cells #[.string k1, .int .u64 (s1 : Nat), .string v1, .bool g1] 24 (0, 0)) := by rw [← hWA, ← hM]; exact World.alloc_heap_new _ _
  have bA : Below w.heap.size w WA := by rw [← hWA]; exact (Below.refl _ w).alloc (Nat.le_refl _) _
  have c1 : WA.cell? ⟨M, 0, none⟩ = some (.string k1) := by have := cells_of_block hmA 0; simpa using this
  have c2 : WA.cell? ⟨x, 0, none⟩ = some (.slice (some ⟨b, off, none⟩) n cp) := (bA.cell (p := ⟨x, 0, none⟩) (World.block_lt_of_cell? w _ hx)).trans hx
  have c3 : WA.cell? ⟨b, off, none⟩ = some (.string k2) := (bA.cell (p := ⟨b, off, none⟩) (World.block_lt_of_cell? w _ h0)).trans h0
  have HB : Hid _ := bA
  clear hx h0 bA hmA
  have hs : Hid ((!sameK ⟨k1, s1, v1, g1⟩ ⟨k2, s2, v2, g2⟩) = !(k1.toList == k2.toList)) := rfl
  cases h : (k1.toList == k2.toList) with
  | true =>
    rw [h] at hs
    have h2 : (k1.toList != k2.toList) = false := by simp [bne, h]
    go_enter Try.func41, Try.ntmps41
    go_wp2_with fail
    go_quiet (fail)
    go_wp2_with fail
    go_ret
    exact ⟨by rw [hs.out]; rfl, HB.out.trans ((belD _ _).mono HB.out.size)⟩
  | false =>
    rw [h] at hs
    have h2 : (k1.toList != k2.toList) = true := by simp [bne, h]
    go_enter Try.func41, Try.ntmps41
    go_wp2_with fail
    go_quiet (fail)
    go_wp2_with fail
    go_ret
    exact ⟨by rw [hs.out]; rfl, HB.out.trans ((belD _ _).mono HB.out.size)⟩
/-- What IndexFunc tells. -/
def idxR (l : List Cl) (n : Nat) : Int := if runN l < n then ((runN l : Nat) : Int) else -1
set_option maxRecDepth 100000 in
set_option maxHeartbeats 2000000 in
/-- IndexFunc, asked where another key begins. -/
theorem index_any (b off n cp x : Nat) (c0 : Cl) (l : List Cl) (w : World) (hx : w.cell? ⟨x, 0, none⟩ = some (.slice (some ⟨b, off, none⟩) n cp)) (hc : CA w.heap.size w (some ⟨b, off, none⟩) l) (hl : l.length = n) (h0 : l[0]? = some c0) (hn : n < 1000000000000000) :
    Calls Try.prog 40 #[.slice (some ⟨b, off, none⟩) n cp, .func (.func 41) #[] #[.pointer (some ⟨x, 0, none⟩)]] w fun r w' => r = .returned (.int .i64 (idxR l n)) ∧ Below w.heap.size w w' := by
  have hn0 : 0 < n := by have := (List.getElem?_eq_some_iff.1 h0).1; omega
  have hk0 : w.cell? ⟨b, off, none⟩ = some (.string c0.key) := by
    obtain ⟨b', off', e, _, e0, _⟩ := hc 0 c0 h0
    cases e
    simpa using e0
  have HK : Hid (∀ (W : World) c, Below w.heap.size w W → Calls Try.prog 41 #[clV c, .pointer (some ⟨x, 0, none⟩)] W fun r w' => r = .returned (.bool (!sameK c c0)) ∧ Below W.heap.size W w') := fun W c k => keyne_any c c0 x b off n cp W ((k.cell (p := ⟨x, 0, none⟩) (World.block_lt_of_cell? w _ hx)).trans hx) hn0 ((k.cell (p := ⟨b, off, none⟩) (World.block_lt_of_cell? w _ hk0)).trans hk0)
  simp only [clV] at HK
  have HC : Hid _ := hc
  have HL : Hid _ := hl
  have H0 : Hid _ := h0
  clear hx hc hl h0 hk0
  go_enter Try.func40, Try.ntmps40
  go_wp2_with fail
  go_loopw [8] (fun s wr => ∃ k : Nat, k ≤ n ∧ s = .int .i64 (k : Nat) ∧ Hid (∀ j y, j < k → l[j]? = some y → sameK y c0 = true) ∧ Hid (Below w.heap.size w wr)) (fun s _ => n - (intOf s).toNat)
  case atStart => exact ⟨0, by omega, rfl, fun j y hj => by omega, Below.refl _ _⟩
  case round =>
    obtain ⟨k, hk, rfl, HE, HB⟩ := hrel
    by_cases hlt : k < n
    · obtain ⟨y, hy⟩ : ∃ y, l[k]? = some y := ⟨l[k]'(by rw [HL.out]; exact hlt), List.getElem?_eq_getElem _⟩
      have HC2 : CA w.heap.size wr (some ⟨b, off, none⟩) l := CA.below HC.out (fun b hb => HB.out.block b hb)
      obtain ⟨b', off', e, _, y0, y1, y2, y3⟩ := HC2 k y hy
      cases e
      have HKY : Hid _ := HK.out wr y HB.out
      have HY : Hid _ := hy
      clear hy HC2
      cases hs : sameK y c0 with
      | true =>
        rw [hs] at HKY
        have HS : Hid _ := hs
        clear hs
        go_wp2_with fail
        refine Calls.mono HKY.out ?_
        rintro e w1 ⟨rfl, b1⟩
        have HB1 : Hid (Below w.heap.size w w1) := HB.out.trans (b1.mono HB.out.size)
        clear b1 HB HKY y0 y1 y2 y3
        go_wp2_with fail
        go_roundw
        case rel =>
          refine ⟨k + 1, by omega, by go_num, fun j z hj hz => ?_, HB1.out⟩
          by_cases hjk : j < k
          · exact HE.out j z hjk hz
          · obtain rfl : j = k := by omega
            rw [HY.out] at hz
            cases hz
            exact HS.out
        case measure => simp [intOf]; omega
      | false =>
        rw [hs] at HKY
        have HR : Hid (runN l = k) := runN_of H0.out (by have := HL.out; omega) HE.out (fun z hz => by rw [HY.out] at hz; cases hz; exact hs)
        clear hs
        go_wp2_with fail
        refine Calls.mono HKY.out ?_
        rintro e w1 ⟨rfl, b1⟩
        have HB1 : Hid (Below w.heap.size w w1) := HB.out.trans (b1.mono HB.out.size)
        clear b1 HB HKY y0 y1 y2 y3
        go_wp2_with fail
        go_ret
        exact ⟨by rw [idxR, HR.out, if_pos hlt]; rfl, HB1.out⟩
    · obtain rfl : k = n := by omega
      have HR : Hid (runN l = k) := runN_of H0.out (by have := HL.out; omega) HE.out (fun z hz => by
        have := (List.getElem?_eq_some_iff.1 hz).1
        have := HL.out
        omega)
      go_wp2_with fail
      go_ret
      exact ⟨by rw [idxR, HR.out, if_neg (by omega)]; rfl, HB.out⟩
/-- Where the newest one up to a moment stands. -/
def newN (l : List Cl) (seq : Nat) : Nat := (l.takeWhile (fun c => !decide (c.seq ≤ seq))).length
set_option maxHeartbeats 1000000 in
theorem seqle_any (x y b off i n cp seq : Nat) (c : Cl) (w : World) (hx : w.cell? ⟨x, 0, none⟩ = some (.slice (some ⟨b, off, none⟩) n cp)) (hy : w.cell? ⟨y, 0, none⟩ = some (.int .u64 (seq : Nat))) (hi : i < n) (hc : w.cell? ⟨b, off + i * 4 + 1, none⟩ = some (.int .u64 (c.seq : Nat))) :
    Calls Try.prog 43 #[.int .i64 (i : Nat), .pointer (some ⟨x, 0, none⟩), .pointer (some ⟨y, 0, none⟩)] w fun r w' => r = .returned (.bool (decide (c.seq ≤ seq))) ∧ Below w.heap.size w w' := by
  obtain ⟨s, hs⟩ : ∃ s, c.seq = s := ⟨_, rfl⟩
  rw [hs] at hc ⊢
  clear hs
  by_cases h : s ≤ seq
  · have hd : decide ((s : Int) ≤ (seq : Int)) = true := decide_eq_true (by omega)
    have HD : Hid (decide (s ≤ seq) = true) := decide_eq_true h
    clear h
    go_enter Try.func43, Try.ntmps43
    go_wp2_with fail
    go_quiet (fail)
    go_wp2_with fail
    go_ret
    exact ⟨by rw [HD.out]; rfl, belD _ _⟩
  · have hd : decide ((s : Int) ≤ (seq : Int)) = false := decide_eq_false (by omega)
    have HD : Hid (decide (s ≤ seq) = false) := decide_eq_false h
    clear h
    go_enter Try.func43, Try.ntmps43
    go_wp2_with fail
    go_quiet (fail)
    go_wp2_with fail
    go_ret
    exact ⟨by rw [HD.out]; rfl, belD _ _⟩
/-- Versions stand from the newest on. -/
def Falls (l : List Cl) : Prop := ∀ (i j : Nat) x y, i ≤ j → l[i]? = some x → l[j]? = some y → y.seq ≤ x.seq
set_option maxRecDepth 100000 in
set_option maxHeartbeats 2000000 in
/-- Search, asked where the newest one up to a moment stands. -/
theorem search_any (x y b off n cp seq : Nat) (l : List Cl) (w : World) (hx : w.cell? ⟨x, 0, none⟩ = some (.slice (some ⟨b, off, none⟩) n cp)) (hy : w.cell? ⟨y, 0, none⟩ = some (.int .u64 (seq : Nat))) (hc : CA w.heap.size w (some ⟨b, off, none⟩) l) (hl : l.length = n) (hf : Falls l) (hn : n < 1000000000000000) :
    Calls Try.prog 42 #[.int .i64 (n : Nat), .func (.func 43) #[] #[.pointer (some ⟨x, 0, none⟩), .pointer (some ⟨y, 0, none⟩)]] w fun r w' => r = .returned (.int .i64 (newN l seq : Nat)) ∧ Below w.heap.size w w' := by
  have HK : Hid (∀ (W : World) (i : Nat) c, Below w.heap.size w W → l[i]? = some c → Calls Try.prog 43 #[.int .i64 (i : Nat), .pointer (some ⟨x, 0, none⟩), .pointer (some ⟨y, 0, none⟩)] W fun r w' => r = .returned (.bool (decide (c.seq ≤ seq))) ∧ Below W.heap.size W w') := fun W i c k hi => by
    obtain ⟨b', off', e, _, _, e1, _⟩ := hc i c hi
    cases e
    exact seqle_any x y b off i n cp seq c W ((k.cell (p := ⟨x, 0, none⟩) (World.block_lt_of_cell? w _ hx)).trans hx) ((k.cell (p := ⟨y, 0, none⟩) (World.block_lt_of_cell? w _ hy)).trans hy) (by have := (List.getElem?_eq_some_iff.1 hi).1; omega) ((k.cell (p := ⟨b, off + i * 4 + 1, none⟩) (World.block_lt_of_cell? w _ e1)).trans e1)
  have HF : Hid _ := hf
  have HL : Hid _ := hl
  clear hx hy hc hl hf
  go_enter Try.func42, Try.ntmps42
  go_wp2_with fail
  go_loopw [5, 6] (fun s t wr => ∃ i j : Nat, i ≤ j ∧ j ≤ n ∧ s = .int .i64 (i : Nat) ∧ t = .int .i64 (j : Nat) ∧ Hid (∀ k z, k < i → l[k]? = some z → ¬ z.seq ≤ seq) ∧ Hid (∀ k z, j ≤ k → l[k]? = some z → z.seq ≤ seq) ∧ Hid (Below w.heap.size w wr)) (fun s t _ => (intOf t).toNat - (intOf s).toNat)
  case atStart => exact ⟨0, n, by omega, by omega, rfl, rfl, fun k z hk => by omega, fun k z hk hz => by have := (List.getElem?_eq_some_iff.1 hz).1; have := HL.out; omega, Below.refl _ _⟩
  case round =>
    obtain ⟨i, j, hij, hjn, rfl, rfl, HLo, HHi, HB⟩ := hrel
    by_cases hlt : i < j
    · obtain ⟨h, hh⟩ : ∃ h, (i + j) / 2 = h := ⟨_, rfl⟩
      have hih : i ≤ h := by omega
      have hhj : h < j := by omega
      obtain ⟨c, hc⟩ : ∃ c, l[h]? = some c := ⟨l[h]'(by rw [HL.out]; omega), List.getElem?_eq_getElem _⟩
      have HKY : Hid _ := HK.out wr h c HB.out hc
      have HC : Hid _ := hc
      clear hc
      have e2 : ((i : Int) + (j : Int)) / 2 = (h : Int) := by omega
      clear hh
      go_wp2_with fail
      clear e2
      refine Calls.mono HKY.out ?_
      rintro e w1 ⟨rfl, b1⟩
      have HB1 : Hid (Below w.heap.size w w1) := HB.out.trans (b1.mono HB.out.size)
      clear b1 HB HKY
      by_cases hp : c.seq ≤ seq
      · have hd : decide (c.seq ≤ seq) = true := decide_eq_true hp
        have HP : Hid _ := hp
        clear hp
        rw [hd]
        go_wp2_with fail
        go_roundw
        case rel => exact ⟨i, h, by omega, by omega, rfl, rfl, HLo.out, fun k z hk hz => Nat.le_trans (HF.out h k c z hk HC.out hz) HP.out, HB1.out⟩
        case measure => simp [intOf]; omega
      · have hd : decide (c.seq ≤ seq) = false := decide_eq_false hp
        have HP : Hid (¬ c.seq ≤ seq) := hp
        clear hp
        rw [hd]
        go_wp2_with fail
        go_roundw
        case rel => exact ⟨h + 1, j, by omega, by omega, by go_num, rfl, fun k z hk hz hle => HP.out (Nat.le_trans (HF.out k h z c (by omega) hz HC.out) hle), HHi.out, HB1.out⟩
        case measure => simp [intOf]; omega
    · obtain rfl : i = j := by omega
      have HR : Hid (newN l seq = i) := tw_len l i (by have := HL.out; omega) (fun k z hk hz => by have := HLo.out k z hk hz; simp [this]) (fun z hz => by have := HHi.out i z (by omega) hz; simp [this])
      go_wp2_with fail
      go_ret
      exact ⟨by rw [HR.out]; rfl, HB.out⟩
set_option maxRecDepth 100000 in
set_option maxHeartbeats 2000000 in
theorem newest_any (b off n cp seq : Nat) (l : List Cl) (w : World) (hc : CA w.heap.size w (some ⟨b, off, none⟩) l) (hl : l.length = n) (hf : Falls l) (hn : n < 1000000000000000) :
    Calls Try.prog 29 #[.slice (some ⟨b, off, none⟩) n cp, .int .u64 (seq : Nat)] w fun r w' => r = .returned (.int .i64 (newN l seq : Nat)) ∧ Below w.heap.size w w' := by
  obtain ⟨M, hM⟩ : ∃ M, w.heap.size = M := ⟨_, rfl⟩
  obtain ⟨WA, hWA⟩ : ∃ WA, (w.alloc (.cells #[.slice (some ⟨b, off, none⟩) n cp] 25)).alloc (.cells #[.int .u64 (seq : Nat)] 22) = WA := ⟨_, rfl⟩
  have bA : Below w.heap.size w WA := by rw [← hWA]; exact ((Below.refl _ w).alloc (Nat.le_refl _) _).alloc (by simp) _
  have h0 : WA.heap[M]? = some (.cells #[.slice (some ⟨b, off, none⟩) n cp] 25 (0, 0)) := by
    rw [← hWA, ← hM, Below.heap_alloc _ _ _ (by simp)]
    exact World.alloc_heap_new _ _
  have h1 : WA.heap[M + 1]? = some (.cells #[.int .u64 (seq : Nat)] 22 (0, 0)) := by
    rw [← hWA, ← hM]
    have := World.alloc_heap_new (w.alloc (.cells #[.slice (some ⟨b, off, none⟩) n cp] 25)) (.cells #[.int .u64 (seq : Nat)] 22)
    rw [World.size_alloc] at this
    exact this
  have c0 : WA.cell? ⟨M, 0, none⟩ = some (.slice (some ⟨b, off, none⟩) n cp) := by have := cells_of_block h0 0; simpa using this
  have c1 : WA.cell? ⟨M + 1, 0, none⟩ = some (.int .u64 (seq : Nat)) := by have := cells_of_block h1 0; simpa using this
  have HS : Hid _ := search_any M (M + 1) b off n cp seq l WA c0 c1 ((CA.below hc (fun b hb => bA.block b hb)).up bA.size) hl hf hn
  have HB : Hid _ := bA
  clear hc hl hf bA h0 h1 c1
  go_enter Try.func29, Try.ntmps29
  go_wp2_with fail
  refine Calls.mono HS.out ?_
  rintro e w1 ⟨rfl, b1⟩
  have HB1 : Hid (Below w.heap.size w w1) := HB.out.trans (b1.mono HB.out.size)
  clear b1
  go_wp2_with fail
  go_ret
  exact ⟨rfl, HB1.out⟩
end Go.Proofs.Ytohamjoiohfoiaa
