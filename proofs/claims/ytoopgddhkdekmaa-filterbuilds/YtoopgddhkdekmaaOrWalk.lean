/-
  The walk of FilterOr: whatever the keys, the call returns true, and turns nothing that was there.
-/
import Derived.Test.YtoopgddhkdekmaaLives
namespace Go.Proofs.Ytoopgddhkdekmaa
open Go.RowKit
theorem StrsAt.take {w : World} {a : Option Addr} {ks : List ByteArray} (h : StrsAt w a ks) (k : Nat) : StrsAt w a (ks.take k) := by
  intro j p hj
  rw [List.getElem?_take] at hj
  split at hj
  · exact h j p hj
  · cases hj
theorem merge_at {X Y : List UInt8} {L : Nat} (hX : X.length = L) (hY : Y.length = L) (hk : lastB X = lastB Y) (hF : isF X = true) (hL : L ≤ 70368744177664) (W : World) (gx cx gy cy : Nat) (yX : BytesAt W (some ⟨gx, 0, none⟩) X) (yY : BytesAt W (some ⟨gy, 0, none⟩) Y) :
    Calls Try.prog 19 #[.slice (some ⟨gx, 0, none⟩) L cx, .slice (some ⟨gy, 0, none⟩) L cy] W fun r w' => ∃ g cap, r = .returned (.tuple #[.slice (some ⟨g, 0, none⟩) L cap, .int .i64 0]) ∧ L ≤ cap ∧ OR W w' g L cap (orL X Y) := by
  have h := merge_ok (some ⟨gx, 0, none⟩) (some ⟨gy, 0, none⟩) cx cy X Y W yX yY (by omega) (by omega) (merge_of (by rw [hX, hY]) hk hF)
  rw [hX, hY] at h
  exact h
theorem same_at {X Y : List UInt8} {L : Nat} (hX : X.length = L) (hY : Y.length = L) (hL : L ≤ 70368744177664) (e : X = Y) (W : World) (gx cx gy cy : Nat) (yX : BytesAt W (some ⟨gx, 0, none⟩) X) (yY : BytesAt W (some ⟨gy, 0, none⟩) Y) :
    Calls Try.prog 12 #[.slice (some ⟨gx, 0, none⟩) L cx, .slice (some ⟨gy, 0, none⟩) L cy] W fun r w' => r = .returned (.bool true) ∧ ∃ n, w' = W.drewN n := by
  have h := sameBytes_any (some ⟨gx, 0, none⟩) (some ⟨gy, 0, none⟩) cx cy X Y W yX yY (by omega)
  rw [hX, hY, decide_eq_true e] at h
  exact h
theorem may_at {X : List UInt8} {L : Nat} (hX : X.length = L) (hL : L ≤ 70368744177664) (key : ByteArray) (hk : key.size ≤ 140737488355328) (W : World) (gx cx : Nat) (yX : BytesAt W (some ⟨gx, 0, none⟩) X) :
    Calls Try.prog 13 #[.slice (some ⟨gx, 0, none⟩) L cx, .string key] W fun r w' => r = .returned (.bool (mayB X key)) ∧ Below W.heap.size W w' := by
  have h := may_any (some ⟨gx, 0, none⟩) cx X key W yX (by omega) hk
  rw [hX] at h
  exact h
theorem ones_at {X : List UInt8} {L : Nat} (hX : X.length = L) (hL : L ≤ 70368744177664) (W : World) (gx cx : Nat) (hc : L ≤ cx) (yX : BytesAt W (some ⟨gx, 0, none⟩) X) :
    Calls Try.prog 15 #[.slice (some ⟨gx, 0, none⟩) L cx] W fun r w' => r = .returned (.int .i64 (onesB X : Nat)) ∧ w' = W := by
  have h := ones_any (some ⟨gx, 0, none⟩) cx X W yX (by omega) (by omega)
  rw [hX] at h
  exact h
theorem drewN_below (W : World) (q : Nat) : Below W.heap.size W (W.drewN q) := ⟨rfl, rfl, rfl, Nat.le_refl _, fun _ _ => rfl⟩
/-- All that is asked behind the two filters' making. -/
structure OrFacts (A B C D E : List UInt8) (key : ByteArray) (L : Nat) : Prop where
  la : A.length = L
  lb : B.length = L
  lc : C.length = L
  ld : D.length = L
  le : E.length = L
  fa : isF A = true
  fb : isF B = true
  fc : isF C = true
  kab : lastB A = lastB B
  kca : lastB C = lastB A
  ec : C = orL A B
  ed : D = orL B A
  ee : E = orL C A
  cd : C = D
  ce : E = C
  ma : mayB A key = true → mayB C key = true
  mb : mayB B key = true → mayB C key = true
  o1 : onesB A ≤ onesB C
  o2 : onesB C ≤ onesB A + onesB B
  oa : onesB A ≤ 8 * L
  ob : onesB B ≤ 8 * L
  oc : onesB C ≤ 8 * L
theorem onesB_le (X : List UInt8) : onesB X ≤ 8 * X.length := by
  unfold onesB
  split
  · have := onesTo_le X (X.length - 1); omega
  · omega
theorem orFacts {ks ms : List ByteArray} {n : Nat} (hk : ks.length = n) (hm : ms.length = n) (bt : Nat) (key : ByteArray) :
    OrFacts (buildF ks bt) (buildF ms bt) (orL (buildF ks bt) (buildF ms bt)) (orL (buildF ms bt) (buildF ks bt)) (orL (orL (buildF ks bt) (buildF ms bt)) (buildF ks bt)) key (sizeOfF n bt + 1) := by
  have la : (buildF ks bt).length = sizeOfF n bt + 1 := by rw [buildF_len, hk]
  have lb : (buildF ms bt).length = sizeOfF n bt + 1 := by rw [buildF_len, hm]
  have hl : (buildF ks bt).length = (buildF ms bt).length := by rw [la, lb]
  have hkk : lastB (buildF ks bt) = lastB (buildF ms bt) := by rw [buildF_lastB, buildF_lastB]
  have hF := isF_build ks bt
  have hFb := isF_build ms bt
  have h9 := (isF_facts hF).1
  have hFc := orL_isF hl hkk hF
  have lc := orL_len' hl
  have lcd := orL_comm hl
  have hon : ∀ X : List UInt8, isF X = true → onesB X = onesTo X (X.length - 1) := fun X h => by rw [onesB, if_pos h]
  refine ⟨la, lb, lc.trans la, (orL_len' hl.symm).trans lb, (orL_len' lc).trans (lc.trans la), hF, hFb, hFc, hkk, orL_lastB hl (by omega) hkk, rfl, rfl, rfl, lcd, orL_again hl, may_or_left hl hkk hF, fun h => ?_, ?_, ?_, ?_, ?_, ?_⟩
  · rw [lcd]; exact may_or_left hl.symm hkk.symm hFb h
  · rw [hon _ hF, hon _ hFc, lc]; exact (ones_or hl _ (by omega)).1
  · rw [hon _ hF, hon _ hFc, hon _ hFb, lc, ← hl]; exact (ones_or hl _ (by omega)).2
  · rw [← la]; exact onesB_le _
  · rw [← lb]; exact onesB_le _
  · rw [← la, ← lc]; exact onesB_le _
set_option maxRecDepth 100000 in
set_option maxHeartbeats 8000000 in
theorem or_walk (a b : Option Addr) (ca cb : Nat) (ks ms : List ByteArray) (bits : Int) (key : ByteArray) (w : World) (hk : StrsAt w a ks) (hm : StrsAt w b ms) (hks : ∀ s ∈ ks, s.size ≤ 140737488355328) (hms : ∀ s ∈ ms, s.size ≤ 140737488355328)
    (hl1 : ks.length ≤ 140737488355328) (hl2 : ms.length ≤ 140737488355328) (hc1 : ks.length ≤ ca) (hc2 : ms.length ≤ cb) (hkey : key.size ≤ 140737488355328) :
    Calls Try.prog 6 #[.slice a ks.length ca, .slice b ms.length cb, .int .i64 bits, .string key] w fun r w' => r = .returned (.bool true) ∧ Below w.heap.size w w' := by
  obtain ⟨n1, hn1⟩ : ∃ n1, ks.length = n1 := ⟨_, rfl⟩
  obtain ⟨n2, hn2⟩ : ∃ n2, ms.length = n2 := ⟨_, rfl⟩
  have HK : Hid (∀ n, n ≤ n1 → ∀ W : World, Below w.heap.size w W → StrsAt W a (ks.take n)) := fun n _ W k => (hk.below (Nat.le_refl _) k).take n
  have HM : Hid (∀ n, n ≤ n2 → ∀ W : World, Below w.heap.size w W → StrsAt W b (ms.take n)) := fun n _ W k => (hm.below (Nat.le_refl _) k).take n
  have HKL : Hid (∀ n, n ≤ n1 → (ks.take n).length = n) := fun n h => by rw [List.length_take]; omega
  have HML : Hid (∀ n, n ≤ n2 → (ms.take n).length = n) := fun n h => by rw [List.length_take]; omega
  have HKS : Hid (∀ n, ∀ s ∈ ks.take n, s.size ≤ 140737488355328) := fun n s hs => hks s (List.mem_of_mem_take hs)
  have HMS : Hid (∀ n, ∀ s ∈ ms.take n, s.size ≤ 140737488355328) := fun n s hs => hms s (List.mem_of_mem_take hs)
  rw [hn1] at hl1 hc1 ⊢
  rw [hn2] at hl2 hc2 ⊢
  clear hk hm hks hms hn1 hn2
  obtain ⟨n, hn, hna, hnb, hnn⟩ : ∃ n, n ≤ 140737488355328 ∧ n ≤ n1 ∧ n ≤ n2 ∧ ((n2 < n1 ∧ n = n2) ∨ (¬ n2 < n1 ∧ n = n1)) := by
    by_cases h : n2 < n1
    · exact ⟨n2, by omega, by omega, Nat.le_refl _, Or.inl ⟨h, rfl⟩⟩
    · exact ⟨n1, by omega, Nat.le_refl _, by omega, Or.inr ⟨h, rfl⟩⟩
  have hna' : n ≤ ca := by omega
  have hnb' : n ≤ cb := by omega
  have hcase : (bits < 1 ∨ 32 < bits) ∨ (¬ bits < 1 ∧ ¬ 32 < bits ∧ 65536 < n) ∨ (∃ bt : Nat, bits = (bt : Int) ∧ 1 ≤ bt ∧ bt ≤ 32 ∧ n ≤ 65536) := by
    by_cases h1 : bits < 1
    · exact Or.inl (Or.inl h1)
    · by_cases h2 : 32 < bits
      · exact Or.inl (Or.inr h2)
      · by_cases h3 : 65536 < n
        · exact Or.inr (Or.inl ⟨h1, h2, h3⟩)
        · exact Or.inr (Or.inr ⟨bits.toNat, by omega, by omega, by omega, by omega⟩)
  have hb12 : (n2 < n1 ∧ n = n2) ∨ (¬ n2 < n1 ∧ n = n1) := hnn
  clear hnn
  rcases hcase with hbad | ⟨hg1, hg2, hlong⟩ | ⟨bt, rfl, hb1, hb32, hn65⟩
  · have HB1 : Hid (∀ W : World, Calls Try.prog 10 #[.slice a n ca, .int .i64 bits] W fun r w' => r = .returned (.tuple #[.slice none 0 0, .int .i64 1]) ∧ w' = W) := fun W => build_bits a n ca bits W hbad
    have HB2 : Hid (∀ W : World, Calls Try.prog 10 #[.slice b n cb, .int .i64 bits] W fun r w' => r = .returned (.tuple #[.slice none 0 0, .int .i64 1]) ∧ w' = W) := fun W => build_bits b n cb bits W hbad
    rcases hb12 with ⟨hlt, hnq⟩ | ⟨hlt, hnq⟩
    all_goals
      first
        | (obtain rfl : n = n2 := hnq)
        | (obtain rfl : n = n1 := hnq)
      go_enter Try.func6, Try.ntmps6
      go_wp2_with fail
      refine (lives_any _).mono ?_
      rintro e w1 ⟨rfl, B1⟩
      go_wp2_with fail
      refine (HB1.out _).mono ?_
      rintro e w2 ⟨rfl, hw2⟩
      subst hw2
      go_wp2_with fail
      refine (HB2.out _).mono ?_
      rintro e w3 ⟨rfl, hw3⟩
      subst hw3
      go_wp2_with fail
      go_ret
      exact ⟨rfl, B1⟩
  · have HB1 : Hid (∀ W : World, Calls Try.prog 10 #[.slice a n ca, .int .i64 bits] W fun r w' => r = .returned (.tuple #[.slice none 0 0, .int .i64 3]) ∧ w' = W) := fun W => build_long a n ca bits W hg1 hg2 hlong
    have HB2 : Hid (∀ W : World, Calls Try.prog 10 #[.slice b n cb, .int .i64 bits] W fun r w' => r = .returned (.tuple #[.slice none 0 0, .int .i64 3]) ∧ w' = W) := fun W => build_long b n cb bits W hg1 hg2 hlong
    rcases hb12 with ⟨hlt, hnq⟩ | ⟨hlt, hnq⟩
    all_goals
      first
        | (obtain rfl : n = n2 := hnq)
        | (obtain rfl : n = n1 := hnq)
      go_enter Try.func6, Try.ntmps6
      go_wp2_with fail
      refine (lives_any _).mono ?_
      rintro e w1 ⟨rfl, B1⟩
      go_wp2_with fail
      refine (HB1.out _).mono ?_
      rintro e w2 ⟨rfl, hw2⟩
      subst hw2
      go_wp2_with fail
      refine (HB2.out _).mono ?_
      rintro e w3 ⟨rfl, hw3⟩
      subst hw3
      go_wp2_with fail
      go_ret
      exact ⟨rfl, B1⟩
  · have HFA : Hid _ := orFacts (HKL.out n hna) (HML.out n hnb) bt key
    have HB1 : Hid (∀ W : World, Below w.heap.size w W → Calls Try.prog 10 #[.slice a n ca, .int .i64 bt] W fun r w' => ∃ g, r = .returned (.tuple #[.slice (some ⟨g, 0, none⟩) (sizeOfF n bt + 1) (sizeOfF n bt + 1), .int .i64 0]) ∧ W.heap.size ≤ g ∧ w'.heap[g]? = some (.cells (bcells (buildF (ks.take n) bt)) 5 (0, 0)) ∧ Below W.heap.size W w') := fun W k => by
      have := build_any a ca (ks.take n) bt W (HK.out n hna W k) (HKS.out n) hb1 hb32 (by rw [HKL.out n hna]; exact hn65)
      rw [HKL.out n hna] at this
      exact this
    have HB2 : Hid (∀ W : World, Below w.heap.size w W → Calls Try.prog 10 #[.slice b n cb, .int .i64 bt] W fun r w' => ∃ g, r = .returned (.tuple #[.slice (some ⟨g, 0, none⟩) (sizeOfF n bt + 1) (sizeOfF n bt + 1), .int .i64 0]) ∧ W.heap.size ≤ g ∧ w'.heap[g]? = some (.cells (bcells (buildF (ms.take n) bt)) 5 (0, 0)) ∧ Below W.heap.size W w') := fun W k => by
      have := build_any b cb (ms.take n) bt W (HM.out n hnb W k) (HMS.out n) hb1 hb32 (by rw [HML.out n hnb]; exact hn65)
      rw [HML.out n hnb] at this
      exact this
    have hLb : sizeOfF n bt + 1 ≤ 70368744177664 := by
      have : n * bt ≤ 65536 * 32 := Nat.mul_le_mul hn65 hb32
      unfold sizeOfF
      omega
    clear HK HM HKL HML HKS HMS
    generalize hA : buildF (ks.take n) bt = A at *
    generalize hBd : buildF (ms.take n) bt = B at *
    generalize hC : orL A B = C at *
    generalize hD : orL B A = D at *
    generalize hE : orL C A = E at *
    generalize sizeOfF n bt + 1 = L at *
    clear hA hBd
    have hsum : decide ((onesB C : Int) ≤ (onesB A : Int) + (onesB B : Int)) = true := decide_eq_true (by have := HFA.out.o2; omega)
    have oa := HFA.out.oa; have ob := HFA.out.ob; have oc := HFA.out.oc; have o1 := HFA.out.o1; have o2 := HFA.out.o2
    have HJ1 : Hid (∀ (W : World) (gx cx gy cy : Nat), BytesAt W (some ⟨gx, 0, none⟩) A → BytesAt W (some ⟨gy, 0, none⟩) B → Calls Try.prog 19 #[.slice (some ⟨gx, 0, none⟩) L cx, .slice (some ⟨gy, 0, none⟩) L cy] W fun r w' => ∃ g cap, r = .returned (.tuple #[.slice (some ⟨g, 0, none⟩) L cap, .int .i64 0]) ∧ L ≤ cap ∧ OR W w' g L cap C) := fun W gx cx gy cy yX yY => by
      rw [← hC]; exact merge_at HFA.out.la HFA.out.lb HFA.out.kab HFA.out.fa hLb W gx cx gy cy yX yY
    have HJ2 : Hid (∀ (W : World) (gx cx gy cy : Nat), BytesAt W (some ⟨gx, 0, none⟩) B → BytesAt W (some ⟨gy, 0, none⟩) A → Calls Try.prog 19 #[.slice (some ⟨gx, 0, none⟩) L cx, .slice (some ⟨gy, 0, none⟩) L cy] W fun r w' => ∃ g cap, r = .returned (.tuple #[.slice (some ⟨g, 0, none⟩) L cap, .int .i64 0]) ∧ L ≤ cap ∧ OR W w' g L cap D) := fun W gx cx gy cy yX yY => by
      rw [← hD]; exact merge_at HFA.out.lb HFA.out.la HFA.out.kab.symm HFA.out.fb hLb W gx cx gy cy yX yY
    have HJ3 : Hid (∀ (W : World) (gx cx gy cy : Nat), BytesAt W (some ⟨gx, 0, none⟩) C → BytesAt W (some ⟨gy, 0, none⟩) A → Calls Try.prog 19 #[.slice (some ⟨gx, 0, none⟩) L cx, .slice (some ⟨gy, 0, none⟩) L cy] W fun r w' => ∃ g cap, r = .returned (.tuple #[.slice (some ⟨g, 0, none⟩) L cap, .int .i64 0]) ∧ L ≤ cap ∧ OR W w' g L cap E) := fun W gx cx gy cy yX yY => by
      rw [← hE]; exact merge_at HFA.out.lc HFA.out.la HFA.out.kca HFA.out.fc hLb W gx cx gy cy yX yY
    clear hC hD hE
    rcases hb12 with ⟨hlt, hnq⟩ | ⟨hlt, hnq⟩
    all_goals
      first
        | (obtain rfl : n = n2 := hnq)
        | (obtain rfl : n = n1 := hnq)
      go_enter Try.func6, Try.ntmps6
      go_wp2_with fail
      refine (lives_any _).mono ?_
      rintro e w1 ⟨rfl, B1⟩
      go_wp2_with fail
      refine (HB1.out _ B1).mono ?_
      rintro e w2 ⟨ga, rfl, _, rowa, b2⟩
      have B2 := B1.trans (b2.mono B1.size)
      have ya := bytes_of_block rowa
      clear rowa b2 B1
      go_wp2_with fail
      refine (HB2.out _ B2).mono ?_
      rintro e w3 ⟨gb, rfl, _, rowb, b3⟩
      have B3 := B2.trans (b3.mono B2.size)
      have yb := bytes_of_block rowb
      replace ya := ya.below (Nat.le_refl _) b3
      clear rowb b3 B2
      go_wp2_with fail
      refine (HJ1.out _ _ _ _ _ ya yb).mono ?_
      rintro e w4 ⟨gc, cc, rfl, hcc, oC⟩
      have B4 := B3.trans (oC.bel.mono B3.size)
      have yc := oC.bytes
      replace ya := ya.below (Nat.le_refl _) oC.bel
      replace yb := yb.below (Nat.le_refl _) oC.bel
      clear oC B3
      go_wp2_with fail
      refine (HJ2.out _ _ _ _ _ yb ya).mono ?_
      rintro e w5 ⟨gd, cd, rfl, hcd, oD⟩
      have B5 := B4.trans (oD.bel.mono B4.size)
      have yd := oD.bytes
      replace ya := ya.below (Nat.le_refl _) oD.bel
      replace yb := yb.below (Nat.le_refl _) oD.bel
      replace yc := yc.below (Nat.le_refl _) oD.bel
      clear oD B4
      go_wp2_with fail
      refine (same_at HFA.out.lc HFA.out.ld hLb HFA.out.cd _ _ _ _ _ yc yd).mono ?_
      rintro e w6 ⟨rfl, q6, hw6⟩
      have b6 : Below w5.heap.size w5 w6 := by rw [hw6]; exact drewN_below w5 q6
      have B6 := B5.trans (b6.mono B5.size)
      replace ya := ya.below (Nat.le_refl _) b6
      replace yb := yb.below (Nat.le_refl _) b6
      replace yc := yc.below (Nat.le_refl _) b6
      clear hw6 b6 B5 yd
      go_wp2_with fail
      refine (may_at HFA.out.la hLb key hkey _ _ _ ya).mono ?_
      rintro e w7 ⟨rfl, b7⟩
      have B7 := B6.trans (b7.mono B6.size)
      replace ya := ya.below (Nat.le_refl _) b7
      replace yb := yb.below (Nat.le_refl _) b7
      replace yc := yc.below (Nat.le_refl _) b7
      clear b7 B6
      by_cases hma : mayB A key = true
      · rw [hma]
        go_wp2_with fail
        refine (may_at HFA.out.lc hLb key hkey _ _ _ yc).mono ?_
        rintro e w8 ⟨rfl, b8⟩
        rw [HFA.out.ma hma]
        have B8 := B7.trans (b8.mono B7.size)
        replace ya := ya.below (Nat.le_refl _) b8
        replace yb := yb.below (Nat.le_refl _) b8
        replace yc := yc.below (Nat.le_refl _) b8
        clear b8 B7
        go_wp2_with fail
        refine (HJ3.out _ _ _ _ _ yc ya).mono ?_
        rintro e u1 ⟨ge, ce, rfl, hce, oE⟩
        have C1 := B8.trans (oE.bel.mono B8.size)
        have ye := oE.bytes
        replace ya := ya.below (Nat.le_refl _) oE.bel
        replace yb := yb.below (Nat.le_refl _) oE.bel
        replace yc := yc.below (Nat.le_refl _) oE.bel
        clear oE B8
        go_wp2_with fail
        refine (same_at HFA.out.le HFA.out.lc hLb HFA.out.ce _ _ _ _ _ ye yc).mono ?_
        rintro e u2 ⟨rfl, q8, hu2⟩
        have c2 : Below u1.heap.size u1 u2 := by rw [hu2]; exact drewN_below u1 q8
        have C2 := C1.trans (c2.mono C1.size)
        replace ya := ya.below (Nat.le_refl _) c2
        replace yb := yb.below (Nat.le_refl _) c2
        replace yc := yc.below (Nat.le_refl _) c2
        clear hu2 c2 C1 ye
        go_wp2_with fail
        refine (ones_at HFA.out.lc hLb _ _ _ hcc yc).mono ?_
        rintro e v0 ⟨rfl, hv0⟩
        subst hv0
        go_wp2_with fail
        refine (ones_at HFA.out.la hLb _ _ _ (Nat.le_refl _) ya).mono ?_
        rintro e v1 ⟨rfl, hv1⟩
        subst hv1
        go_wp2_with fail
        refine (ones_at HFA.out.lc hLb _ _ _ hcc yc).mono ?_
        rintro e v2 ⟨rfl, hv2⟩
        subst hv2
        go_wp2_with fail
        refine (ones_at HFA.out.la hLb _ _ _ (Nat.le_refl _) ya).mono ?_
        rintro e v3 ⟨rfl, hv3⟩
        subst hv3
        go_wp2_with fail
        refine (ones_at HFA.out.lb hLb _ _ _ (Nat.le_refl _) yb).mono ?_
        rintro e v4 ⟨rfl, hv4⟩
        subst hv4
        go_wp2_with fail
        go_ret
        exact ⟨rfl, C2⟩
      · rw [Bool.not_eq_true] at hma
        rw [hma]
        go_wp2_with fail
        refine (may_at HFA.out.lb hLb key hkey _ _ _ yb).mono ?_
        rintro e w8 ⟨rfl, b8⟩
        have B8 := B7.trans (b8.mono B7.size)
        replace ya := ya.below (Nat.le_refl _) b8
        replace yb := yb.below (Nat.le_refl _) b8
        replace yc := yc.below (Nat.le_refl _) b8
        clear b8 B7
        by_cases hmb : mayB B key = true
        · rw [hmb]
          go_wp2_with fail
          refine (may_at HFA.out.lc hLb key hkey _ _ _ yc).mono ?_
          rintro e w9 ⟨rfl, b9⟩
          rw [HFA.out.mb hmb]
          have B9 := B8.trans (b9.mono B8.size)
          replace ya := ya.below (Nat.le_refl _) b9
          replace yb := yb.below (Nat.le_refl _) b9
          replace yc := yc.below (Nat.le_refl _) b9
          clear b9 B8
          go_wp2_with fail
          refine (HJ3.out _ _ _ _ _ yc ya).mono ?_
          rintro e u1 ⟨ge, ce, rfl, hce, oE⟩
          have C1 := B9.trans (oE.bel.mono B9.size)
          have ye := oE.bytes
          replace ya := ya.below (Nat.le_refl _) oE.bel
          replace yb := yb.below (Nat.le_refl _) oE.bel
          replace yc := yc.below (Nat.le_refl _) oE.bel
          clear oE B9
          go_wp2_with fail
          refine (same_at HFA.out.le HFA.out.lc hLb HFA.out.ce _ _ _ _ _ ye yc).mono ?_
          rintro e u2 ⟨rfl, q8, hu2⟩
          have c2 : Below u1.heap.size u1 u2 := by rw [hu2]; exact drewN_below u1 q8
          have C2 := C1.trans (c2.mono C1.size)
          replace ya := ya.below (Nat.le_refl _) c2
          replace yb := yb.below (Nat.le_refl _) c2
          replace yc := yc.below (Nat.le_refl _) c2
          clear hu2 c2 C1 ye
          go_wp2_with fail
          refine (ones_at HFA.out.lc hLb _ _ _ hcc yc).mono ?_
          rintro e v0 ⟨rfl, hv0⟩
          subst hv0
          go_wp2_with fail
          refine (ones_at HFA.out.la hLb _ _ _ (Nat.le_refl _) ya).mono ?_
          rintro e v1 ⟨rfl, hv1⟩
          subst hv1
          go_wp2_with fail
          refine (ones_at HFA.out.lc hLb _ _ _ hcc yc).mono ?_
          rintro e v2 ⟨rfl, hv2⟩
          subst hv2
          go_wp2_with fail
          refine (ones_at HFA.out.la hLb _ _ _ (Nat.le_refl _) ya).mono ?_
          rintro e v3 ⟨rfl, hv3⟩
          subst hv3
          go_wp2_with fail
          refine (ones_at HFA.out.lb hLb _ _ _ (Nat.le_refl _) yb).mono ?_
          rintro e v4 ⟨rfl, hv4⟩
          subst hv4
          go_wp2_with fail
          go_ret
          exact ⟨rfl, C2⟩
        · rw [Bool.not_eq_true] at hmb
          rw [hmb]
          go_wp2_with fail
          refine (HJ3.out _ _ _ _ _ yc ya).mono ?_
          rintro e u1 ⟨ge, ce, rfl, hce, oE⟩
          have C1 := B8.trans (oE.bel.mono B8.size)
          have ye := oE.bytes
          replace ya := ya.below (Nat.le_refl _) oE.bel
          replace yb := yb.below (Nat.le_refl _) oE.bel
          replace yc := yc.below (Nat.le_refl _) oE.bel
          clear oE B8
          go_wp2_with fail
          refine (same_at HFA.out.le HFA.out.lc hLb HFA.out.ce _ _ _ _ _ ye yc).mono ?_
          rintro e u2 ⟨rfl, q8, hu2⟩
          have c2 : Below u1.heap.size u1 u2 := by rw [hu2]; exact drewN_below u1 q8
          have C2 := C1.trans (c2.mono C1.size)
          replace ya := ya.below (Nat.le_refl _) c2
          replace yb := yb.below (Nat.le_refl _) c2
          replace yc := yc.below (Nat.le_refl _) c2
          clear hu2 c2 C1 ye
          go_wp2_with fail
          refine (ones_at HFA.out.lc hLb _ _ _ hcc yc).mono ?_
          rintro e v0 ⟨rfl, hv0⟩
          subst hv0
          go_wp2_with fail
          refine (ones_at HFA.out.la hLb _ _ _ (Nat.le_refl _) ya).mono ?_
          rintro e v1 ⟨rfl, hv1⟩
          subst hv1
          go_wp2_with fail
          refine (ones_at HFA.out.lc hLb _ _ _ hcc yc).mono ?_
          rintro e v2 ⟨rfl, hv2⟩
          subst hv2
          go_wp2_with fail
          refine (ones_at HFA.out.la hLb _ _ _ (Nat.le_refl _) ya).mono ?_
          rintro e v3 ⟨rfl, hv3⟩
          subst hv3
          go_wp2_with fail
          refine (ones_at HFA.out.lb hLb _ _ _ (Nat.le_refl _) yb).mono ?_
          rintro e v4 ⟨rfl, hv4⟩
          subst hv4
          go_wp2_with fail
          go_ret
          exact ⟨rfl, C2⟩
end Go.Proofs.Ytoopgddhkdekmaa
