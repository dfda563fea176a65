/-
  The walk of RouteOnce.
-/
import Derived.Test.YtbpfggpljfpfcaaDoorAwk
namespace Go.Proofs.YtbpfggpljfpfcaaDoor
open Go.RowKit Go.Sort
theorem meth_rise (t : List UInt8) : methR t = [] ∨ (∃ a, methR t = [a]) ∨ (∃ a b, methR t = [a, b] ∧ a < b) := by
  unfold methR
  by_cases h : splE t = 0
  · rw [if_pos h]
    match rawL t with
    | [] => exact Or.inl rfl
    | [a] =>
      unfold rowsR
      dsimp only
      by_cases h1 : a = wSess
      · rw [if_pos h1]; exact Or.inr (Or.inr ⟨_, _, rfl, by decide⟩)
      rw [if_neg h1]
      by_cases h2 : a = wAudit
      · rw [if_pos h2]; exact Or.inr (Or.inl ⟨_, rfl⟩)
      rw [if_neg h2]
      by_cases h3 : a = wStats
      · rw [if_pos h3]; exact Or.inr (Or.inl ⟨_, rfl⟩)
      rw [if_neg h3]
      by_cases h4 : a = wMe
      · rw [if_pos h4]; exact Or.inr (Or.inl ⟨_, rfl⟩)
      rw [if_neg h4]
      exact Or.inl rfl
    | [a, b] =>
      unfold rowsR
      dsimp only
      by_cases h1 : a = wSess ∧ b ≠ []
      · rw [if_pos h1]; exact Or.inr (Or.inr ⟨_, _, rfl, by decide⟩)
      · rw [if_neg h1]; exact Or.inl rfl
    | [a, b, c] =>
      unfold rowsR
      dsimp only
      by_cases h1 : a = wSess ∧ b ≠ [] ∧ c = wTouch
      · rw [if_pos h1]; exact Or.inr (Or.inl ⟨_, rfl⟩)
      rw [if_neg h1]
      by_cases h2 : a = wUsers ∧ b ≠ [] ∧ c = wSess
      · rw [if_pos h2]; exact Or.inr (Or.inr ⟨_, _, rfl, by decide⟩)
      · rw [if_neg h2]; exact Or.inl rfl
    | _ :: _ :: _ :: _ :: _ => exact Or.inl rfl
  · rw [if_neg h]; exact Or.inl rfl
theorem read_st (x : Rt) (q : List UInt8) (has : Bool) : (readR x q has).2 = 200 ∨ (readR x q has).2 = 400 := by
  unfold readR
  cases has with
  | false => exact Or.inl rfl
  | true =>
    rw [if_pos rfl]
    by_cases hk : x.kind = 8
    · rw [if_pos hk]
      split
      · split
        · exact Or.inl rfl
        · exact Or.inr rfl
      · exact Or.inr rfl
    · rw [if_neg hk]; exact Or.inr rfl
theorem find_st {m t : List UInt8} (h : m ∈ methR t) : (findR m t).2 = 200 ∨ (findR m t).2 = 400 := by
  unfold methR at h
  by_cases h0 : splE t = 0
  · rw [if_pos h0] at h
    obtain ⟨r, hr, rfl⟩ := List.mem_map.1 h
    unfold findR
    rw [if_pos h0, if_neg (fun e => by rw [e] at hr; cases hr)]
    cases hf : (rowsR (rawL t)).find? (fun y => decide (y.1 = r.1)) with
    | none =>
      rw [List.find?_eq_none] at hf
      exact absurd (decide_eq_true rfl) (hf r hr)
    | some y => exact read_st _ _ _
  · rw [if_neg h0] at h; cases h
theorem find_out {m t : List UInt8} (h : m ∉ methR t) : ((findR m t).2 = 405 ∧ methR t ≠ []) ∨ (((findR m t).2 = 404 ∨ (findR m t).2 = 400) ∧ methR t = []) := by
  unfold methR at h ⊢
  by_cases h0 : splE t = 0
  · rw [if_pos h0] at h ⊢
    by_cases hr : rowsR (rawL t) = []
    · refine Or.inr ⟨Or.inl ?_, by rw [hr]; rfl⟩
      unfold findR
      rw [if_pos h0, if_pos hr]
    · refine Or.inl ⟨?_, fun e => hr (List.map_eq_nil_iff.1 e)⟩
      unfold findR
      rw [if_pos h0, if_neg hr]
      have : (rowsR (rawL t)).find? (fun y => decide (y.1 = m)) = none := by
        rw [List.find?_eq_none]
        intro y hy e
        exact h (List.mem_map.2 ⟨y, hy, of_decide_eq_true e⟩)
      rw [this]
  · rw [if_neg h0]
    exact Or.inr ⟨Or.inr (by rw [find_bad h0]), rfl⟩
theorem less_bytes {a b : List UInt8} (h : a < b) : Op.bytesLess (bOf a).toList (bOf b).toList = true := by
  rw [bytesLess_eq, ByteArray.toList_eq, ByteArray.toList_eq]
  exact decide_eq_true h
theorem eq_dec (b : List UInt8) (m : ByteArray) : ((bOf b).toList == m.toList) = decide (b = m.data.toList) := by
  by_cases h : b = m.data.toList
  · rw [decide_eq_true h, h]; exact toList_eq' rfl
  · rw [decide_eq_false h]; exact toList_ne (fun e => h (congrArg (fun x => x.data.toList) e))
theorem mem_take_next {M : List (List UInt8)} {k : Nat} {b x : List UInt8} (h : M[k]? = some b) : decide (x ∈ M.take (k + 1)) = (decide (x ∈ M.take k) || decide (b = x)) := by
  rw [List.take_add_one, h, Bool.eq_iff_iff, Bool.or_eq_true, decide_eq_true_eq, decide_eq_true_eq, decide_eq_true_eq, List.mem_append]
  constructor
  · rintro (q | q)
    · exact Or.inl q
    · exact Or.inr (List.mem_singleton.1 q).symm
  · rintro (q | q)
    · exact Or.inl q
    · exact Or.inr (List.mem_singleton.2 q.symm)
set_option maxRecDepth 20000 in
set_option maxHeartbeats 32000000 in
theorem once_walk (m s : ByteArray) (hs : s.size ≤ 140737488355328) (mx : Int) (w : World) (hm : w.cell? ⟨0, 0, none⟩ = some (.int .i64 mx)) : Calls Tryd.prog 6 #[.string m, .string s] w fun e w' => e = .returned (.bool true) ∧ Below w.heap.size w w' := by
  have HMX : Hid (∀ W, Below w.heap.size w W → W.cell? ⟨0, 0, none⟩ = some (.int .i64 mx)) := fun W b => mx_below hm b
  have H0 : Hid (∀ _ : Unit, _) := fun _ => awake_any mx w hm
  have H1 : Hid (∀ W, Below w.heap.size w W → _) := fun W b => methods_any s hs mx W (HMX.out W b)
  have H2 : Hid (∀ (k : List UInt8) W, Below w.heap.size w W → _) := fun k W b => find_any k s hs mx W (HMX.out W b)
  have H3 : Hid (∀ W, Below w.heap.size w W → _) := fun W b => find_any m.data.toList s hs mx W (HMX.out W b)
  rw [show bOf m.data.toList = m from rfl] at H3
  have HS : Hid (∀ k ∈ methR s.data.toList, _) := fun k hk => find_st (t := s.data.toList) hk
  have HO : Hid (m.data.toList ∉ methR s.data.toList → _) := fun hk => find_out (t := s.data.toList) hk
  have HR := meth_rise s.data.toList
  obtain ⟨t, ht⟩ : ∃ t, s.data.toList = t := ⟨_, rfl⟩
  rw [ht] at H1 H2 H3 HS HO HR
  obtain ⟨M, hM⟩ : ∃ M, methR t = M := ⟨_, rfl⟩
  rw [hM] at H1 HS HO HR
  have HLT : Hid (∀ (k : Nat) a b, M[k]? = some a → M[k + 1]? = some b → a < b) := by
    rw [Hid]
    rcases HR with rfl | ⟨a, rfl⟩ | ⟨a, b, rfl, hab⟩
    · intro k a b h; simp at h
    · intro k a' b' h h2; simp at h2
    · intro k a' b' h h2
      match k with
      | 0 =>
        simp at h h2
        rw [← h, ← h2]
        exact hab
      | k + 1 => simp at h2
  have hML : M.length ≤ 2 := by
    rcases HR with rfl | ⟨a, rfl⟩ | ⟨a, b, rfl, hab⟩
    · simp
    · simp
    · simp
  obtain ⟨n, hn⟩ : ∃ n, M.length = n := ⟨_, rfl⟩
  unfold MthP at H1
  rw [hn] at H1 hML
  have HN : Hid (M.length = n) := hn
  obtain ⟨fm, hfm⟩ : ∃ fm, findR m.data.toList t = fm := ⟨_, rfl⟩
  rw [hfm] at H3 HO
  clear hm ht hM HR hn hfm
  go_enter Tryd.func6, Tryd.ntmps6
  go_wp2_with fail
  refine (H0.out ()).mono ?_
  rintro e w1 ⟨rfl, b1⟩
  have HB1 : Hid (Below w.heap.size w w1) := b1
  clear b1 H0
  go_wp2_with fail
  refine (H1.out w1 HB1.out).mono ?_
  rintro e w2 ⟨a, c, rfl, htx, b2⟩
  have HB2 : Hid (Below w.heap.size w w2) := HB1.out.trans (b2.mono HB1.out.size)
  have HTX : Hid (TextsAt w2 a (M.map bOf)) := htx
  clear b2 htx H1
  go_wp2_with fail
  go_loopw [6, 19] (fun v i wr => ∃ (k : Nat) (hb : Bool), k ≤ n ∧ v = .bool hb ∧ i = .int .i64 (k : Nat) ∧ Hid (hb = decide (m.data.toList ∈ M.take k)) ∧ Hid (Below w2.heap.size w2 wr)) (fun _ i _ => n - (intOf i).toNat)
  case atStart => exact ⟨0, false, by omega, rfl, rfl, by rw [Hid]; simp, Below.refl _ _⟩
  case round =>
    obtain ⟨k, hb, hk, rfl, rfl, HH, HB⟩ := hrel
    have HBW : Hid (Below w.heap.size w wr) := HB2.out.trans (HB.out.mono HB2.out.size)
    by_cases hlt : k < n
    · have hlz : (k : Int) < (n : Int) := by omega
      obtain ⟨b, hbk⟩ : ∃ b, M[k]? = some b := ⟨_, List.getElem?_eq_getElem (by rw [HN.out]; exact hlt)⟩
      obtain ⟨gb, off, rfl, _, c0⟩ := (HTX.out.below HB.out) k (bOf b) (by rw [List.getElem?_map, hbk]; rfl)
      have HNX : Hid _ := mem_take_next (x := m.data.toList) hbk
      have hst := HS.out b (List.mem_of_getElem? hbk)
      have heq := eq_dec b m
      obtain ⟨d, hd⟩ : ∃ d, decide (b = m.data.toList) = d := ⟨_, rfl⟩
      rw [hd] at heq HNX
      have H4 : Hid (∀ _ : Unit, _) := fun _ => H2.out b wr HBW.out
      obtain ⟨y, hy⟩ : ∃ y, findR b t = y := ⟨_, rfl⟩
      rw [hy] at H4 hst
      obtain ⟨y1, y2⟩ := y
      simp only at hst
      simp only [rtV, rtA] at H4
      have HNB : Hid (∀ h2 : Bool, h2 = (hb || d) → h2 = decide (m.data.toList ∈ M.take (k + 1))) := fun h2 e => by rw [e, HNX.out, HH.out]
      clear hd hy HNX
      have z2 : (y2 != 200 && y2 != 400) = false := by rcases hst with rfl | rfl <;> decide
      clear z2
      by_cases hk0 : k = 0
      · have hkz : ¬ (0 : Int) < (k : Int) := by omega
        clear hk0 hbk
        rcases hst with rfl | rfl
        all_goals
          go_wp2_with fail
          refine (H4.out ()).mono ?_
          rintro e w3 ⟨rfl, b3⟩
          have HB3 : Hid (∀ o, Below w2.heap.size w2 (w3.alloc o)) := fun o => (HB.out.trans (b3.mono HB.out.size)).alloc (HB.out.trans (b3.mono HB.out.size)).size _
          clear b3
          cases hb with
          | true =>
            go_wp2_with fail
            go_roundw
            case rel => exact ⟨k + 1, true, by omega, rfl, by go_num, HNB.out true rfl, HB3.out _⟩
            case measure => simp [intOf]; omega
          | false =>
            cases d with
            | true =>
              go_wp2_with fail
              go_roundw
              case rel => exact ⟨k + 1, true, by omega, rfl, by go_num, HNB.out true rfl, HB3.out _⟩
              case measure => simp [intOf]; omega
            | false =>
              go_wp2_with fail
              go_roundw
              case rel => exact ⟨k + 1, false, by omega, rfl, by go_num, HNB.out false rfl, HB3.out _⟩
              case measure => simp [intOf]; omega
      · obtain ⟨j, rfl⟩ : ∃ j, k = j + 1 := ⟨k - 1, by omega⟩
        obtain ⟨p, hp⟩ : ∃ p, M[j]? = some p := ⟨_, List.getElem?_eq_getElem (by rw [HN.out]; omega)⟩
        have hls := less_bytes (HLT.out j p b hp hbk)
        obtain ⟨gb', off', hbo, _, d0⟩ := (HTX.out.below HB.out) j (bOf p) (by rw [List.getElem?_map, hp]; rfl)
        obtain ⟨rfl, rfl⟩ : gb = gb' ∧ off = off' := by cases hbo; exact ⟨rfl, rfl⟩
        have hkz : (0 : Int) < ((j + 1 : Nat) : Int) := by omega
        have hjn : (j : Int) < (n : Int) := by omega
        clear hk0 hbk hp hbo
        rcases hst with rfl | rfl
        all_goals
          go_wp2_with fail
          refine (H4.out ()).mono ?_
          rintro e w3 ⟨rfl, b3⟩
          have HB3 : Hid (∀ o, Below w2.heap.size w2 (w3.alloc o)) := fun o => (HB.out.trans (b3.mono HB.out.size)).alloc (HB.out.trans (b3.mono HB.out.size)).size _
          clear b3
          cases hb with
          | true =>
            go_wp2_with fail
            go_roundw
            case rel => exact ⟨j + 1 + 1, true, by omega, rfl, by go_num, HNB.out true rfl, HB3.out _⟩
            case measure => simp [intOf]; omega
          | false =>
            cases d with
            | true =>
              go_wp2_with fail
              go_roundw
              case rel => exact ⟨j + 1 + 1, true, by omega, rfl, by go_num, HNB.out true rfl, HB3.out _⟩
              case measure => simp [intOf]; omega
            | false =>
              go_wp2_with fail
              go_roundw
              case rel => exact ⟨j + 1 + 1, false, by omega, rfl, by go_num, HNB.out false rfl, HB3.out _⟩
              case measure => simp [intOf]; omega
    · obtain rfl : k = n := by omega
      have hlz : ¬ (k : Int) < (k : Int) := by omega
      have hh := HH.out
      rw [List.take_of_length_le (by rw [HN.out]; omega)] at hh
      obtain ⟨f1, f2⟩ := fm
      simp only at HO
      simp only [rtV, rtA] at H3
      cases hb with
      | true =>
        clear hh
        go_wp2_with fail
        refine (H3.out wr HBW.out).mono ?_
        rintro e w3 ⟨rfl, b3⟩
        have HB3 : Hid (∀ o, Below w.heap.size w (w3.alloc o)) := fun o => (HBW.out.trans (b3.mono HBW.out.size)).alloc (HBW.out.trans (b3.mono HBW.out.size)).size _
        clear b3
        go_wp2_with fail
        go_ret
        exact ⟨rfl, HB3.out _⟩
      | false =>
        have hout := HO.out (of_decide_eq_false hh.symm)
        have hcase : (f2 = 405 ∧ 0 < k) ∨ ((f2 = 404 ∨ f2 = 400) ∧ k = 0) := by
          rcases hout with ⟨e1, e2⟩ | ⟨e1, e2⟩
          · exact Or.inl ⟨e1, by rw [← HN.out]; exact List.length_pos_iff.2 e2⟩
          · exact Or.inr ⟨e1, by rw [← HN.out, e2]; rfl⟩
        clear hout hh
        rcases hcase with ⟨rfl, hk0⟩ | ⟨(rfl | rfl), hk0⟩
        · have hkz : (0 : Int) < (k : Int) := by omega
          go_wp2_with fail
          refine (H3.out wr HBW.out).mono ?_
          rintro e w3 ⟨rfl, b3⟩
          have HB3 : Hid (∀ o, Below w.heap.size w (w3.alloc o)) := fun o => (HBW.out.trans (b3.mono HBW.out.size)).alloc (HBW.out.trans (b3.mono HBW.out.size)).size _
          clear b3
          go_wp2_with fail
          go_ret
          exact ⟨rfl, HB3.out _⟩
        all_goals
          have hkz : ((k : Int) == 0) = true := by rw [beq_iff_eq]; omega
          clear hk0
          go_wp2_with fail
          refine (H3.out wr HBW.out).mono ?_
          rintro e w3 ⟨rfl, b3⟩
          have HB3 : Hid (∀ o, Below w.heap.size w (w3.alloc o)) := fun o => (HBW.out.trans (b3.mono HBW.out.size)).alloc (HBW.out.trans (b3.mono HBW.out.size)).size _
          clear b3
          go_wp2_with fail
          go_ret
          exact ⟨rfl, HB3.out _⟩
end Go.Proofs.YtbpfggpljfpfcaaDoor
