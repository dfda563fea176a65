/-
  The walk of FilterNever: never a false no, few ones, and the keys' order is no matter.
-/
import Derived.Test.YtoopgddhkdekmaaOrWalk
import Derived.Test.YtoopgddhkdekmaaNMath
namespace Go.Proofs.Ytoopgddhkdekmaa
open Go.RowKit Go.Shelf
/-- All that is asked behind the two filters' making. -/
structure NFacts (A B C : List UInt8) (X Y : List ByteArray) (n S k : Nat) : Prop where
  la : A.length = S + 1
  lb : B.length = S + 1
  lc : C.length = S + 1
  fa : isF A = true
  kab : lastB A = lastB B
  ec : C = orL A B
  last : (A.getD S 0).toNat = k
  k30 : k ≤ 30
  few : onesB A ≤ n * k
  ma : ∀ s ∈ X, mayB A s = true
  mc : ∀ s ∈ X, mayB C s = true
  md : ∀ s ∈ Y, mayB C s = true
theorem nFacts {ks ms : List ByteArray} {n : Nat} (hk : ks.length = n) (hm : ms.length = n) (bt : Nat) :
    NFacts (buildF ks bt) (buildF ms bt) (orL (buildF ks bt) (buildF ms bt)) ks ms n (sizeOfF n bt) (kOf bt) := by
  have F := orFacts hk hm bt ByteArray.empty
  have hl : (buildF ks bt).length = (buildF ms bt).length := by rw [F.la, F.lb]
  refine ⟨F.la, F.lb, F.lc, F.fa, F.kab, rfl, ?_, (kOf_in bt).2, ?_, fun s h => may_own bt h, fun s h => may_or_left hl F.kab F.fa (may_own bt h), fun s h => ?_⟩
  · have := buildF_lastB ks bt
    rw [lastB, F.la, Nat.add_sub_cancel] at this
    exact this
  · rw [← hk]; exact ones_few ks bt
  · rw [orL_comm hl]; exact may_or_left hl.symm F.kab.symm F.fb (may_own bt h)
/-- Texts of the call's own, in block g. -/
structure TR (w W : World) (g n : Nat) (l : List ByteArray) : Prop where
  row : W.heap[g]? = some (.cells (l.map Value.string).toArray 9 (0, 0))
  len : l.length = n
  ge : w.heap.size ≤ g
  bel : Below w.heap.size w W
theorem TR.strs {w W : World} {g n : Nat} {l : List ByteArray} (h : TR w W g n l) : StrsAt W (some ⟨g, 0, none⟩) l := by
  intro j s hj
  have hb : (l.map Value.string).toArray[j]? = some (.string s) := by
    simp only [List.getElem?_toArray, List.getElem?_map, hj]
    rfl
  exact ⟨g, 0, rfl, (Array.getElem?_eq_some_iff.1 h.row).1, by simp [World.cell?, h.row, hb]⟩
theorem TR.free {w W : World} {g n : Nat} {l : List ByteArray} (h : TR w W g n l) (j : Nat) : W.frozen? ⟨g, j, none⟩ = false := by simp [World.frozen?, h.row]
theorem TR.cell {w W : World} {g n : Nat} {l : List ByteArray} (h : TR w W g n l) {j : Nat} (hj : j < n) : ∃ s, W.cell? ⟨g, j, none⟩ = some (.string s) := by
  have hl := h.len
  have hb : (l.map Value.string).toArray[j]? = some (.string (l[j]'(by omega))) := by
    simp only [List.getElem?_toArray, List.getElem?_map, List.getElem?_eq_getElem (show j < l.length by omega)]
    rfl
  exact ⟨_, by simp [World.cell?, h.row, hb]; rfl⟩
theorem TR.set {w W : World} {g n : Nat} {l : List ByteArray} (h : TR w W g n l) (j : Nat) (s : ByteArray) : TR w (W.setCell ⟨g, j, none⟩ (.string s)) g n (l.set j s) := by
  refine ⟨?_, by rw [List.length_set, h.len], h.ge, h.bel.setCell (p := ⟨g, j, none⟩) h.ge _⟩
  rw [block_set h.row]
  simp [List.map_set]
theorem BytesAt.same {w w' : World} {bs : List UInt8} {B : Nat} {g : Nat} (h : BytesAt w (some ⟨g, 0, none⟩) bs) (hB : g < B) (k : Below B w w') : BytesAt w' (some ⟨g, 0, none⟩) bs := by
  intro j c hj
  obtain ⟨b, off, ha, hb, h0⟩ := h j c hj
  simp only [Option.some.injEq, Addr.mk.injEq] at ha
  obtain ⟨rfl, rfl, _⟩ := ha
  exact ⟨g, 0, rfl, Nat.lt_of_lt_of_le hb k.size, (k.cell (p := ⟨g, 0 + j, none⟩) hB).trans h0⟩
/-- What the first loop holds. -/
structure NInv (w W : World) (ga gc : Nat) (A C : List UInt8) : Prop where
  bel : Below w.heap.size w W
  ya : BytesAt W (some ⟨ga, 0, none⟩) A
  yc : BytesAt W (some ⟨gc, 0, none⟩) C
theorem NInv.step {w W W' : World} {ga gc : Nat} {A C : List UInt8} (h : NInv w W ga gc A C) (b : Below W.heap.size W W') : NInv w W' ga gc A C :=
  ⟨h.bel.trans (b.mono h.bel.size), h.ya.below (Nat.le_refl _) b, h.yc.below (Nat.le_refl _) b⟩
theorem info9 : (Try.prog.info? 9).map (fun i => (i.zero, i.size, i.bytes)) = some (some (.string ByteArray.empty), 1, 16) := by kernel_rfl
theorem made_block9 {w : World} {B g n : Nat} {xs : List Value} (h : w.ownsRow B 9 1 (.slice (some ⟨g, 0, none⟩) n n) n xs) : w.heap[g]? = some (.cells xs.toArray 9 (0, 0)) := by
  rcases h.2 with ⟨hv, _⟩ | ⟨g', cap, cur, hv, _, hh, _, _, hs, ht⟩
  · simp at hv
  · simp only [Value.slice.injEq, Option.some.injEq, Addr.mk.injEq, and_true, true_and] at hv
    obtain ⟨rfl, rfl⟩ := hv
    rw [hh, ← ht, List.take_of_length_le (by rw [Array.length_toList, hs]; exact Nat.le_refl _)]
theorem made_texts (n : Nat) : (madeCells (Value.string ByteArray.empty).cells (n * 1)).toList = (List.replicate n ByteArray.empty).map Value.string := by
  have hz : (Value.string ByteArray.empty).cells = #[Value.string ByteArray.empty] := rfl
  rw [hz]
  simp only [madeCells, Nat.mul_one]
  apply List.ext_getElem
  · simp
  · intro i h1 h2
    simp [Nat.mod_one]
/-- So many texts are turned. -/
def turnTo (X : List ByteArray) (j : Nat) : List ByteArray := X.reverse.take j ++ List.replicate (X.length - j) ByteArray.empty
theorem turn_next {X : List ByteArray} {j : Nat} {s : ByteArray} (hj : j < X.length) (hs : X[X.length - 1 - j]? = some s) : (turnTo X j).set j s = turnTo X (j + 1) := by
  have hr : X.reverse[j]? = some s := by rw [List.getElem?_reverse hj]; exact hs
  have hl : (X.reverse.take j).length = j := by rw [List.length_take, List.length_reverse]; omega
  unfold turnTo
  rw [List.set_append_right _ _ (by omega), hl, Nat.sub_self, List.take_add_one, hr]
  obtain ⟨m, hm⟩ : ∃ m, X.length - j = m + 1 := ⟨X.length - j - 1, by omega⟩
  rw [hm, show X.length - (j + 1) = m by omega, List.replicate_succ]
  simp
theorem turn_all (X : List ByteArray) : turnTo X X.length = X.reverse := by
  unfold turnTo
  rw [List.take_of_length_le (by rw [List.length_reverse]; exact Nat.le_refl _), Nat.sub_self]
  simp
set_option maxRecDepth 100000 in
set_option maxHeartbeats 8000000 in
theorem never_walk (a b : Option Addr) (ca cb : Nat) (ks ms : List ByteArray) (bits : Int) (w : World) (hk : StrsAt w a ks) (hm : StrsAt w b ms) (hks : ∀ s ∈ ks, s.size ≤ 140737488355328) (hms : ∀ s ∈ ms, s.size ≤ 140737488355328)
    (hl1 : ks.length ≤ 140737488355328) (hl2 : ms.length ≤ 140737488355328) (hc1 : ks.length ≤ ca) (hc2 : ms.length ≤ cb) :
    Calls Try.prog 5 #[.slice a ks.length ca, .slice b ms.length cb, .int .i64 bits] w fun r w' => r = .returned (.bool true) ∧ Below w.heap.size w w' := by
  obtain ⟨n1, hn1⟩ : ∃ n1, ks.length = n1 := ⟨_, rfl⟩
  obtain ⟨n2, hn2⟩ : ∃ n2, ms.length = n2 := ⟨_, rfl⟩
  have HK : Hid (∀ n, n ≤ n1 → ∀ W : World, Below w.heap.size w W → StrsAt W a (ks.take n)) := fun n _ W k => (hk.below (Nat.le_refl _) k).take n
  have HM : Hid (∀ n, n ≤ n2 → ∀ W : World, Below w.heap.size w W → StrsAt W b (ms.take n)) := fun n _ W k => (hm.below (Nat.le_refl _) k).take n
  have HKL : Hid (∀ n, n ≤ n1 → (ks.take n).length = n) := fun n h => by rw [List.length_take]; omega
  have HML : Hid (∀ n, n ≤ n2 → (ms.take n).length = n) := fun n h => by rw [List.length_take]; omega
  have HKS : Hid (∀ n, ∀ s ∈ ks.take n, s.size ≤ 140737488355328) := fun n s hs => hks s (List.mem_of_mem_take hs)
  have HMS : Hid (∀ n, ∀ s ∈ ms.take n, s.size ≤ 140737488355328) := fun n s hs => hms s (List.mem_of_mem_take hs)
  rw [hn1] at hl1 hc1 ⊢
  rw [hn2] at hl2 hc2 ⊢
  clear hk hm hks hms hn1 hn2
  obtain ⟨n, hn, hna, hnb, hnn⟩ : ∃ n, n ≤ 140737488355328 ∧ n ≤ n1 ∧ n ≤ n2 ∧ ((n2 < n1 ∧ n = n2) ∨ (¬ n2 < n1 ∧ n = n1)) := by
    by_cases h : n2 < n1
    · exact ⟨n2, by omega, by omega, Nat.le_refl _, Or.inl ⟨h, rfl⟩⟩
    · exact ⟨n1, by omega, Nat.le_refl _, by omega, Or.inr ⟨h, rfl⟩⟩
  have hna' : n ≤ ca := by omega
  have hnb' : n ≤ cb := by omega
  have hcase : (bits < 1 ∨ (¬ bits < 1 ∧ 32 < bits)) ∨ (¬ bits < 1 ∧ ¬ 32 < bits ∧ 65536 < n) ∨ (∃ bt : Nat, bits = (bt : Int) ∧ 1 ≤ bt ∧ bt ≤ 32 ∧ n ≤ 65536) := by
    by_cases h1 : bits < 1
    · exact Or.inl (Or.inl h1)
    · by_cases h2 : 32 < bits
      · exact Or.inl (Or.inr ⟨h1, h2⟩)
      · by_cases h3 : 65536 < n
        · exact Or.inr (Or.inl ⟨h1, h2, h3⟩)
        · exact Or.inr (Or.inr ⟨bits.toNat, by omega, by omega, by omega, by omega⟩)
  have hb12 : (n2 < n1 ∧ n = n2) ∨ (¬ n2 < n1 ∧ n = n1) := hnn
  clear hnn
  rcases hcase with hbad | ⟨hg1, hg2, hlong⟩ | ⟨bt, rfl, hb1, hb32, hn65⟩
  · have hbadO : bits < 1 ∨ 32 < bits := by rcases hbad with h | ⟨_, h⟩ <;> simp [h]
    have HB1 : Hid (∀ W : World, Calls Try.prog 10 #[.slice a n ca, .int .i64 bits] W fun r w' => r = .returned (.tuple #[.slice none 0 0, .int .i64 1]) ∧ w' = W) := fun W => build_bits a n ca bits W hbadO
    have HB2 : Hid (∀ W : World, Calls Try.prog 10 #[.slice b n cb, .int .i64 bits] W fun r w' => r = .returned (.tuple #[.slice none 0 0, .int .i64 1]) ∧ w' = W) := fun W => build_bits b n cb bits W hbadO
    clear hbadO
    rcases hbad with hbad | ⟨hbad0, hbad⟩
    all_goals rcases hb12 with ⟨hlt, hnq⟩ | ⟨hlt, hnq⟩
    all_goals
      first
        | (obtain rfl : n = n2 := hnq)
        | (obtain rfl : n = n1 := hnq)
      go_enter Try.func5, Try.ntmps5
      go_wp2_with fail
      refine (lives_any _).mono ?_
      rintro e w1 ⟨rfl, B1⟩
      go_wp2_with fail
      refine (HB1.out _).mono ?_
      rintro e w2 ⟨rfl, hw2⟩
      subst hw2
      go_wp2_with fail
      refine (HB2.out _).mono ?_
      rintro e w3 ⟨rfl, hw3⟩
      subst hw3
      go_wp2_with fail
      go_ret
      exact ⟨rfl, B1⟩
  · have hlong' : decide ((65536 : Int) < (n : Int)) = true := decide_eq_true (by omega)
    have HB1 : Hid (∀ W : World, Calls Try.prog 10 #[.slice a n ca, .int .i64 bits] W fun r w' => r = .returned (.tuple #[.slice none 0 0, .int .i64 3]) ∧ w' = W) := fun W => build_long a n ca bits W hg1 hg2 hlong
    have HB2 : Hid (∀ W : World, Calls Try.prog 10 #[.slice b n cb, .int .i64 bits] W fun r w' => r = .returned (.tuple #[.slice none 0 0, .int .i64 3]) ∧ w' = W) := fun W => build_long b n cb bits W hg1 hg2 hlong
    rcases hb12 with ⟨hlt, hnq⟩ | ⟨hlt, hnq⟩
    all_goals
      first
        | (obtain rfl : n = n2 := hnq)
        | (obtain rfl : n = n1 := hnq)
      go_enter Try.func5, Try.ntmps5
      go_wp2_with fail
      refine (lives_any _).mono ?_
      rintro e w1 ⟨rfl, B1⟩
      go_wp2_with fail
      refine (HB1.out _).mono ?_
      rintro e w2 ⟨rfl, hw2⟩
      subst hw2
      go_wp2_with fail
      refine (HB2.out _).mono ?_
      rintro e w3 ⟨rfl, hw3⟩
      subst hw3
      go_wp2_with fail
      go_ret
      exact ⟨rfl, B1⟩
  · have HFA : Hid (NFacts (buildF (ks.take n) bt) (buildF (ms.take n) bt) (orL (buildF (ks.take n) bt) (buildF (ms.take n) bt)) (ks.take n) (ms.take n) n (sizeOfF n bt) (kOf bt)) := nFacts (HKL.out n hna) (HML.out n hnb) bt
    have HB1 : Hid (∀ W : World, Below w.heap.size w W → Calls Try.prog 10 #[.slice a n ca, .int .i64 bt] W fun r w' => ∃ g, r = .returned (.tuple #[.slice (some ⟨g, 0, none⟩) (sizeOfF n bt + 1) (sizeOfF n bt + 1), .int .i64 0]) ∧ W.heap.size ≤ g ∧ w'.heap[g]? = some (.cells (bcells (buildF (ks.take n) bt)) 5 (0, 0)) ∧ Below W.heap.size W w') := fun W k => by
      have := build_any a ca (ks.take n) bt W (HK.out n hna W k) (HKS.out n) hb1 hb32 (by rw [HKL.out n hna]; exact hn65)
      rw [HKL.out n hna] at this
      exact this
    have HB2 : Hid (∀ W : World, Below w.heap.size w W → Calls Try.prog 10 #[.slice b n cb, .int .i64 bt] W fun r w' => ∃ g, r = .returned (.tuple #[.slice (some ⟨g, 0, none⟩) (sizeOfF n bt + 1) (sizeOfF n bt + 1), .int .i64 0]) ∧ W.heap.size ≤ g ∧ w'.heap[g]? = some (.cells (bcells (buildF (ms.take n) bt)) 5 (0, 0)) ∧ Below W.heap.size W w') := fun W k => by
      have := build_any b cb (ms.take n) bt W (HM.out n hnb W k) (HMS.out n) hb1 hb32 (by rw [HML.out n hnb]; exact hn65)
      rw [HML.out n hnb] at this
      exact this
    have HB3 : Hid (∀ (W : World) (g c : Nat), StrsAt W (some ⟨g, 0, none⟩) (ks.take n).reverse → Calls Try.prog 10 #[.slice (some ⟨g, 0, none⟩) n c, .int .i64 bt] W fun r w' => ∃ g, r = .returned (.tuple #[.slice (some ⟨g, 0, none⟩) (sizeOfF n bt + 1) (sizeOfF n bt + 1), .int .i64 0]) ∧ W.heap.size ≤ g ∧ w'.heap[g]? = some (.cells (bcells (buildF (ks.take n) bt)) 5 (0, 0)) ∧ Below W.heap.size W w') := fun W g c k => by
      have := build_any (some ⟨g, 0, none⟩) c (ks.take n).reverse bt W k (fun s h => HKS.out n s (List.mem_reverse.1 h)) hb1 hb32 (by rw [List.length_reverse, HKL.out n hna]; exact hn65)
      rw [List.length_reverse, HKL.out n hna, buildF_rev] at this
      exact this
    have hLb : sizeOfF n bt + 1 ≤ 70368744177664 := by
      have : n * bt ≤ 65536 * 32 := Nat.mul_le_mul hn65 hb32
      unfold sizeOfF
      omega
    have HX : Hid (∀ W : World, Below w.heap.size w W → StrsAt W a (ks.take n)) := fun W k => HK.out n hna W k
    have HY : Hid (∀ W : World, Below w.heap.size w W → StrsAt W b (ms.take n)) := fun W k => HM.out n hnb W k
    have HXL : Hid ((ks.take n).length = n) := HKL.out n hna
    have HYL : Hid ((ms.take n).length = n) := HML.out n hnb
    have HXS : Hid (∀ s ∈ ks.take n, s.size ≤ 140737488355328) := HKS.out n
    have HYS : Hid (∀ s ∈ ms.take n, s.size ≤ 140737488355328) := HMS.out n
    clear HK HM HKL HML HKS HMS
    generalize ks.take n = X at *
    generalize ms.take n = Y at *
    generalize buildF X bt = A at *
    generalize buildF Y bt = B at *
    generalize hC : orL A B = C at *
    generalize sizeOfF n bt = S at *
    generalize kOf bt = k at *
    have hk30 := HFA.out.k30
    have hfew := HFA.out.few
    obtain ⟨T, hT⟩ : ∃ T, n * k = T := ⟨_, rfl⟩
    have hmul : (n : Int) * (k : Int) = (T : Int) := by rw [← hT]; push_cast; rfl
    have hTl : T ≤ 65536 * 30 := by rw [← hT]; exact Nat.mul_le_mul hn65 hk30
    rw [hT] at hfew
    have HJ1 : Hid (∀ (W : World) (gx cx gy cy : Nat), BytesAt W (some ⟨gx, 0, none⟩) A → BytesAt W (some ⟨gy, 0, none⟩) B → Calls Try.prog 19 #[.slice (some ⟨gx, 0, none⟩) (S + 1) cx, .slice (some ⟨gy, 0, none⟩) (S + 1) cy] W fun r w' => ∃ g cap, r = .returned (.tuple #[.slice (some ⟨g, 0, none⟩) (S + 1) cap, .int .i64 0]) ∧ S + 1 ≤ cap ∧ OR W w' g (S + 1) cap C) := fun W gx cx gy cy yX yY => by
      rw [← hC]; exact merge_at HFA.out.la HFA.out.lb HFA.out.kab HFA.out.fa hLb W gx cx gy cy yX yY
    have hdec : decide (T < onesB A) = false := decide_eq_false (by omega)
    clear hC hT
    rcases hb12 with ⟨hlt, hnq⟩ | ⟨hlt, hnq⟩
    all_goals
      first
        | (obtain rfl : n = n2 := hnq)
        | (obtain rfl : n = n1 := hnq)
      go_enter Try.func5, Try.ntmps5
      go_wp2_with fail
      refine (lives_any _).mono ?_
      rintro e w1 ⟨rfl, B1⟩
      go_wp2_with fail
      refine (HB1.out _ B1).mono ?_
      rintro e w2 ⟨ga, rfl, _, rowa, b2⟩
      have B2 := B1.trans (b2.mono B1.size)
      have ya := bytes_of_block rowa
      clear rowa b2 B1
      go_wp2_with fail
      refine (HB2.out _ B2).mono ?_
      rintro e w3 ⟨gb, rfl, _, rowb, b3⟩
      have B3 := B2.trans (b3.mono B2.size)
      have yb := bytes_of_block rowb
      replace ya := ya.below (Nat.le_refl _) b3
      clear rowb b3 B2
      go_wp2_with fail
      refine (HJ1.out _ _ _ _ _ ya yb).mono ?_
      rintro e w4 ⟨gc, cc, rfl, hcc, oC⟩
      have B4 := B3.trans (oC.bel.mono B3.size)
      have yc := oC.bytes
      replace ya := ya.below (Nat.le_refl _) oC.bel
      clear oC B3 yb
      go_wp2_with fail
      have hcell : w4.cell? ⟨ga, S, none⟩ = some (.int .u8 (k : Nat)) := by
        obtain ⟨b', off', e', _, h'⟩ := ya S _ (getD_at (by rw [HFA.out.la]; omega))
        simp only [Option.some.injEq, Addr.mk.injEq] at e'
        obtain ⟨rfl, rfl, _⟩ := e'
        rw [HFA.out.last, Nat.zero_add] at h'
        exact h'
      go_quiet (first | (go_at_call 15; exact Calls.quiet_of_same (ones_at HFA.out.la hLb _ _ _ (Nat.le_refl _) (by exact ya))))
      go_wp2_with fail
      clear hcell
      have I0 : NInv w w4 ga gc A C := ⟨B4, ya, yc⟩
      have hgc : gc < w4.heap.size := by
        obtain ⟨b', off', e', h', _⟩ := yc 0 _ (getD_at (by rw [HFA.out.lc]; omega))
        simp only [Option.some.injEq, Addr.mk.injEq] at e'
        obtain ⟨rfl, rfl, _⟩ := e'
        exact h'
      clear B4 ya yc
      go_loopw [13] (fun i wr => ∃ j : Nat, j ≤ n ∧ i = .int .i64 j ∧ NInv w wr ga gc A C) (fun i _ => n - (intOf i).toNat)
      case atStart => exact ⟨0, by omega, rfl, I0.step (drewN_below _ _)⟩
      case round =>
        obtain ⟨j, hj, rfl, I⟩ := hrel
        clear I0
        by_cases hjn : j < n
        · obtain ⟨x, hx⟩ : ∃ x, X[j]? = some x := ⟨X[j]'(by rw [HXL.out]; exact hjn), List.getElem?_eq_getElem _⟩
          obtain ⟨y, hy⟩ : ∃ y, Y[j]? = some y := ⟨Y[j]'(by rw [HYL.out]; exact hjn), List.getElem?_eq_getElem _⟩
          obtain ⟨b1, o1, ea, hb1', hx0⟩ := HX.out wr I.bel j x hx
          obtain ⟨b2, o2, eb, hb2', hy0⟩ := HY.out wr I.bel j y hy
          subst ea eb
          have HXC : Hid (∀ W, NInv w W ga gc A C → W.cell? ⟨b1, o1 + j, none⟩ = some (.string x)) := fun W k => by
            obtain ⟨b', o', e', _, h'⟩ := HX.out W k.bel j x hx
            simp only [Option.some.injEq, Addr.mk.injEq] at e'
            obtain ⟨rfl, rfl, _⟩ := e'
            exact h'
          have HYC : Hid (∀ W, NInv w W ga gc A C → W.cell? ⟨b2, o2 + j, none⟩ = some (.string y)) := fun W k => by
            obtain ⟨b', o', e', _, h'⟩ := HY.out W k.bel j y hy
            simp only [Option.some.injEq, Addr.mk.injEq] at e'
            obtain ⟨rfl, rfl, _⟩ := e'
            exact h'
          have HM1 : Hid (∀ W, NInv w W ga gc A C → Calls Try.prog 13 #[.slice (some ⟨ga, 0, none⟩) (S + 1) (S + 1), .string x] W fun r w' => r = .returned (.bool true) ∧ NInv w w' ga gc A C) := fun W k => by
            refine (may_at HFA.out.la hLb x (HXS.out x (List.mem_of_getElem? hx)) W ga (S + 1) k.ya).mono ?_
            rintro e w' ⟨rfl, b'⟩
            exact ⟨by rw [HFA.out.ma x (List.mem_of_getElem? hx)], k.step b'⟩
          have HM2 : Hid (∀ W, NInv w W ga gc A C → Calls Try.prog 13 #[.slice (some ⟨gc, 0, none⟩) (S + 1) cc, .string x] W fun r w' => r = .returned (.bool true) ∧ NInv w w' ga gc A C) := fun W k => by
            refine (may_at HFA.out.lc hLb x (HXS.out x (List.mem_of_getElem? hx)) W gc cc k.yc).mono ?_
            rintro e w' ⟨rfl, b'⟩
            exact ⟨by rw [HFA.out.mc x (List.mem_of_getElem? hx)], k.step b'⟩
          have HM3 : Hid (∀ W, NInv w W ga gc A C → Calls Try.prog 13 #[.slice (some ⟨gc, 0, none⟩) (S + 1) cc, .string y] W fun r w' => r = .returned (.bool true) ∧ NInv w w' ga gc A C) := fun W k => by
            refine (may_at HFA.out.lc hLb y (HYS.out y (List.mem_of_getElem? hy)) W gc cc k.yc).mono ?_
            rintro e w' ⟨rfl, b'⟩
            exact ⟨by rw [HFA.out.md y (List.mem_of_getElem? hy)], k.step b'⟩
          clear hx hy HX HY HXS HYS HXL HYL HFA HB1 HB2 HB3 HJ1
          go_wp2_with fail
          refine (HM1.out _ I).mono ?_
          rintro e w6 ⟨rfl, I6⟩
          have c6 := HXC.out w6 I6
          go_wp2_with fail
          refine (HM2.out _ I6).mono ?_
          rintro e w7 ⟨rfl, I7⟩
          have c7 := HYC.out w7 I7
          go_wp2_with fail
          refine (HM3.out _ I7).mono ?_
          rintro e w8 ⟨rfl, I8⟩
          go_wp2_with fail
          go_roundw
          case rel => exact ⟨j + 1, by omega, by go_num, I8⟩
          case measure => simp [intOf]; omega
        · obtain rfl : j = n := by omega
          obtain ⟨i0, hi, hz0, hz1, hz2⟩ := info_parts info9
          clear HY HYL HYS HB1 HB2 HJ1
          go_upto_region 19 with (refine wpList_make_full _ rfl _ _ 22 rfl wr.heap.size 9 i0 (.string ByteArray.empty) 1 Try.underlying22 hi hz0 hz1 .i64 .i64 _ _ j rfl rfl rfl rfl (by rw [hz2]; omega) (by unfold maxLen; omega) (Nat.le_refl _) ?_; intro v1 hown1 hg1)
          have hrow := made_block9 hown1
          rw [made_texts] at hrow
          have B1 : Below wr.heap.size wr v1 := (Below.refl _ wr).grown hg1 (Nat.le_refl _) (fun k e => by cases e)
          have HT0 : Hid (List.replicate j ByteArray.empty = turnTo X 0) := by rw [Hid, turnTo, HXL.out]; rfl
          rw [HT0.out] at hrow
          have I1 := I.step B1
          have T0 : TR wr v1 wr.heap.size j (turnTo X 0) := ⟨hrow, by rw [← HT0.out, List.length_replicate], Nat.le_refl _, B1⟩
          clear hown1 hg1 hrow B1
          clear HT0
          obtain ⟨g, hg⟩ : ∃ g, wr.heap.size = g := ⟨_, rfl⟩
          rw [hg] at T0
          rw [hg]
          clear hg I1
          go_wp2_with fail
          go_loopw [15] (fun i W => ∃ q : Nat, q ≤ j ∧ i = .int .i64 q ∧ TR wr W g j (turnTo X q)) (fun i _ => j - (intOf i).toNat)
          case atStart => exact ⟨0, by omega, rfl, T0⟩
          case round =>
            obtain ⟨q, hq, rfl, TQ⟩ := hrel
            clear T0
            have IQ := I.step (TQ.bel.mono (Nat.le_refl _))
            by_cases hqn : q < j
            · obtain ⟨p, hp⟩ : ∃ p : Nat, (p : Int) = (j : Int) - 1 - (q : Int) := ⟨j - 1 - q, by omega⟩
              have hpj : p < j := by omega
              obtain ⟨x, hx⟩ : ∃ x, X[p]? = some x := ⟨X[p]'(by rw [HXL.out]; exact hpj), List.getElem?_eq_getElem _⟩
              obtain ⟨b1, o1, ea, _, hx0⟩ := HX.out _ IQ.bel p x hx
              subst ea
              have hidx : (j : Int) - 1 - (q : Int) = (p : Int) := hp.symm
              have HN : Hid ((turnTo X q).set q x = turnTo X (q + 1)) := turn_next (by rw [HXL.out]; exact hqn) (by rw [HXL.out, show j - 1 - q = p by omega]; exact hx)
              have TN := TQ.set q x
              rw [HN.out] at TN
              obtain ⟨z, cz⟩ := TQ.cell hqn
              have fz := TQ.free q
              clear hx HX HXS HXL HFA HB3 hp IQ
              go_wp2_with fail
              exact ⟨⟨q + 1, by omega, by go_num, TN⟩, by simp [intOf]; omega⟩
            · obtain rfl : q = j := by omega
              have hts := TQ.strs
              have HTA : Hid (turnTo X q = X.reverse) := by have := turn_all X; rw [HXL.out] at this; exact this
              rw [HTA.out] at hts
              clear HTA TQ HX HXS
              go_wp2_with fail
              refine (HB3.out _ _ _ hts).mono ?_
              rintro e x1 ⟨gd, rfl, _, rowd, bd⟩
              have ID := IQ.step bd
              have yd := bytes_of_block rowd
              have ya := ID.ya
              clear rowd bd IQ hts
              go_wp2_with fail
              refine (same_at HFA.out.la HFA.out.la hLb rfl _ _ _ _ _ ya yd).mono ?_
              rintro e x2 ⟨rfl, q6, hw6⟩
              have b6 : Below x1.heap.size x1 x2 := by rw [hw6]; exact drewN_below x1 q6
              have B6 := (ID.step b6).bel
              clear hw6 b6 ID ya yd
              go_wp2_with fail
              go_ret
              exact ⟨rfl, B6⟩
end Go.Proofs.Ytoopgddhkdekmaa
