/-
  The contracts of the library's Cut and Split at this program, and of readFields.
-/
import Derived.Test.YthhhoppmbimeiaaDoorHm1
import Derived.WalkMore
namespace Go.Proofs.YthhhoppmbimeiaaDoor
open Go.RowKit
theorem info53 : (Tryd.prog.info? 53).map (fun i => (i.zero, i.size, i.bytes)) = some (some (.agg #[.string ByteArray.empty, .string ByteArray.empty]), 2, 32) := by kernel_rfl
theorem split_any (sep s : ByteArray) (h1 : 1 ≤ sep.size) (hs : s.size < 4294967281) (m : Int) (w : World) (hm : w.cell? ⟨0, 0, none⟩ = some (.int .i64 m)) :
    Calls Tryd.prog 40 #[.string s, .string sep] w fun e w' => e = .returned (.slice (some ⟨w.heap.size, 0, none⟩) (partsOf sep s).length (partsOf sep s).length) ∧ w' = w.alloc (.cells (strV (partsOf sep s)).toArray 9) := by
  rw [parts_len h1]
  exact Tryd.strings_Split s sep m w hs hm h1
def cutP (s : ByteArray) (c : Nat) : ByteArray × ByteArray × Bool := match ixB s c with
  | some k => (s.extract 0 k, s.extract (k + 1) s.size, true)
  | none => (s, ⟨#[]⟩, false)
theorem cutP_true {s : ByteArray} {c : Nat} (h : (cutP s c).2.2 = true) : cutR s c = cutP s c := by
  unfold cutP at h
  unfold cutP cutR
  cases hq : ixB s c with
  | some k => rfl
  | none => rw [hq] at h; cases h
theorem cutP_false {s : ByteArray} {c : Nat} (h : (cutP s c).2.2 = false) : (cutR s c).2.2 = false := by
  unfold cutP at h
  unfold cutR
  cases hq : ixB s c with
  | some k => rw [hq] at h; cases h
  | none => rfl
theorem cutP_size (s : ByteArray) (c : Nat) : (cutP s c).1.size ≤ s.size ∧ (cutP s c).2.1.size ≤ s.size := by
  unfold cutP
  cases hq : ixB s c with
  | some k => exact ⟨by show (s.extract 0 k).size ≤ _; rw [ByteArray.size_extract]; omega, by show (s.extract (k + 1) s.size).size ≤ _; rw [ByteArray.size_extract]; omega⟩
  | none => exact ⟨Nat.le_refl _, Nat.zero_le _⟩
theorem cut_any (s : ByteArray) (c : UInt8) (hs : s.size < 4294967281) (m : Int) (w : World) (hm : w.cell? ⟨0, 0, none⟩ = some (.int .i64 m)) :
    Calls Tryd.prog 60 #[.string s, .string ⟨#[c]⟩] w fun e w' => e = .returned (.tuple #[.string (cutP s c.toNat).1, .string (cutP s c.toNat).2.1, .bool (cutP s c.toNat).2.2]) ∧ ∃ n, w' = w.drewN n := by
  refine (Tryd.strings_Cut s ⟨#[c]⟩ m w hs hm).mono ?_
  rintro e w' ⟨rfl, h⟩
  refine ⟨?_, h⟩
  rcases ix_one s c with ⟨h1, h2⟩ | ⟨k, h1, h2, h3⟩
  · obtain ⟨q1, q2, q3⟩ := Lib.cutB_miss s ⟨#[c]⟩ h1
    rw [q1, q2, q3, cutP, h2]
    rfl
  · obtain ⟨q1, q2, q3⟩ := Lib.cutB_hit s ⟨#[c]⟩ k h1
    rw [q1, q2, q3, cutP, h2]
    rfl
theorem dw_len {α : Type} (p : α → Bool) (l : List α) : (l.dropWhile p).length ≤ l.length := by
  have := (List.dropWhile_sublist p (l := l)).length_le
  exact this
theorem trimT_size (s : ByteArray) : (trimT s).size ≤ s.size := by
  unfold trimT
  show (Lib.trimS s.data.toList [32, 9]).toArray.size ≤ s.data.size
  rw [List.size_toArray]
  unfold Lib.trimS Lib.trimLeftS Lib.trimRightS
  have h1 := dw_len (([32, 9] : List UInt8).contains ·) s.data.toList.reverse
  have h2 := dw_len (([32, 9] : List UInt8).contains ·) (s.data.toList.reverse.dropWhile (([32, 9] : List UInt8).contains ·)).reverse
  simp only [List.length_reverse, Array.length_toList] at h1 h2
  omega
theorem fldL_of {l : ByteArray} (h : (cutP l 58).2.2 = true) (hf : fldR ⟨(cutP l 58).1, trimT (cutP l 58).2.1⟩ = true) : fldL l = some ⟨(cutP l 58).1, trimT (cutP l 58).2.1⟩ := by
  unfold fldL
  rw [cutP_true h, h, hf]
  rfl
theorem fldL_cut {l : ByteArray} (h : (cutP l 58).2.2 = false) : fldL l = none := by
  unfold fldL
  rw [cutP_false h]
  rfl
theorem fldL_bad {l : ByteArray} (h : (cutP l 58).2.2 = true) (hf : fldR ⟨(cutP l 58).1, trimT (cutP l 58).2.1⟩ = false) : fldL l = none := by
  unfold fldL
  rw [cutP_true h, h, hf]
  rfl
theorem takeF_some {ls : List ByteArray} {l : ByteArray} {f : Fd} (h : fldL l = some f) : takeF (l :: ls) = (f :: (takeF ls).1, (takeF ls).2) := by rw [takeF, h]
theorem takeF_none {ls : List ByteArray} {l : ByteArray} (h : fldL l = none) : takeF (l :: ls) = ([], false) := by rw [takeF, h]
theorem fldL_ok {l : ByteArray} {f : Fd} (h : fldL l = some f) : f.name.size ≤ l.size ∧ f.val.size ≤ l.size ∧ fldR f = true := by
  unfold fldL at h
  split at h
  · rename_i hq
    cases h
    rw [Bool.and_eq_true] at hq
    have hx := cutP_size l 58
    have hc : cutR l 58 = cutP l 58 := by
      refine cutP_true ?_
      cases hz : (cutP l 58).2.2 with
      | true => rfl
      | false => have := cutP_false hz; rw [this] at hq; cases hq.1
    refine ⟨by rw [hc]; exact hx.1, ?_, hq.2⟩
    show (trimT (cutR l 58).2.1).size ≤ _
    rw [hc]
    exact Nat.le_trans (trimT_size _) hx.2
  · cases h
theorem takeF_ok : ∀ (ls : List ByteArray) (N : Nat), (∀ l ∈ ls, l.size ≤ N) → (takeF ls).1.length ≤ ls.length ∧ ∀ f ∈ (takeF ls).1, f.name.size ≤ N ∧ f.val.size ≤ N ∧ fldR f = true
  | [], N, _ => ⟨Nat.le_refl _, fun f hf => by cases hf⟩
  | l :: ls, N, h => by
    have ih := takeF_ok ls N (fun x hx => h x (List.mem_cons_of_mem _ hx))
    cases hf : fldL l with
    | none => rw [takeF_none hf]; exact ⟨Nat.zero_le _, fun f hf => by cases hf⟩
    | some f =>
      rw [takeF_some hf]
      refine ⟨by simp; omega, fun g hg => ?_⟩
      rcases List.mem_cons.1 hg with rfl | hg
      · have := fldL_ok hf
        have h1 := h l (List.mem_cons_self ..)
        exact ⟨by omega, by omega, this.2.2⟩
      · exact ih.2 g hg
theorem row_form {W : World} {B n size : Nat} {e : TypeId} {v : Value} {xs : List Value} (h : W.ownsRow B e size v n xs) : ∃ a c, v = .slice a n c := by
  rcases h.2 with ⟨rfl, hn⟩ | ⟨g, cap, cur, rfl, _⟩
  · exact ⟨none, 0, by rw [hn]⟩
  · exact ⟨_, _, rfl⟩
theorem flF_app (a b : List Fd) : flF (a ++ b) = flF a ++ flF b := by simp [flF]
theorem flF_cons (a : Fd) (b : List Fd) : flF (a :: b) = fdL a ++ flF b := by simp [flF]
theorem flF_len (l : List Fd) : (flF l).length = l.length * 2 := by
  induction l with
  | nil => rfl
  | cons a l ih => rw [flF_cons, List.length_append, ih, List.length_cons]; simp [fdL]; omega
theorem fdL_one (c : Fd) : ∀ u ∈ fdL c, u.oneCell' = true := by
  intro u hu
  simp only [fdL, List.mem_cons, List.not_mem_nil, or_false] at hu
  rcases hu with rfl | rfl <;> rfl
theorem flF_one (l : List Fd) : ∀ u ∈ flF l, u.oneCell' = true := by
  intro u hu
  obtain ⟨c, _, hc⟩ := List.mem_flatMap.1 hu
  exact fdL_one c u hc
theorem flF_get : ∀ {l : List Fd} {j : Nat} {c : Fd}, l[j]? = some c → ∀ i, i < 2 → (flF l)[j * 2 + i]? = (fdL c)[i]?
  | [], j, c, h, _, _ => by simp at h
  | d :: l, 0, c, h, i, hi => by
    simp only [List.getElem?_cons_zero, Option.some.injEq] at h
    subst h
    rw [flF_cons, Nat.zero_mul, Nat.zero_add, List.getElem?_append_left (by simp [fdL]; omega)]
  | d :: l, j + 1, c, h, i, hi => by
    rw [List.getElem?_cons_succ] at h
    rw [flF_cons, List.getElem?_append_right (by simp [fdL]; omega), ← flF_get h i hi]
    congr 1
    simp [fdL]
    omega
theorem fa_row {W : World} {B : Nat} {a : Option Addr} {c : Nat} {l : List Fd} (h : W.ownsRow B 53 2 (.slice a l.length c) l.length (flF l)) : FA W.heap.size W a l := by
  rcases h.2 with ⟨hv, h0⟩ | ⟨g, cap, cur, hv, hB, hh, hn, _⟩
  · have : l = [] := List.eq_nil_of_length_eq_zero h0
    subst this
    exact FA.nil _ _ _
  · rw [Value.slice.injEq] at hv
    obtain ⟨rfl, _, rfl⟩ := hv
    refine fun j d hj => ⟨g, 0, rfl, (Array.getElem?_eq_some_iff.1 hh).1, ?_⟩
    have hjl : j < l.length := (List.getElem?_eq_some_iff.1 hj).1
    refine ⟨?_, ?_⟩
    · have := h.cellAt (j * 2 + 0) (by omega)
      rw [flF_get hj 0 (by omega)] at this
      simpa [fdL] using this
    · have := h.cellAt (j * 2 + 1) (by omega)
      rw [flF_get hj 1 (by omega)] at this
      simpa [fdL] using this
theorem owns_on2 {w w' : World} {B e z n : Nat} {v : Value} {xs : List Value} (h : w.ownsRow B e z v n xs) (b : Below w.heap.size w w') : w'.ownsRow B e z v n xs := by
  refine ⟨h.1, ?_⟩
  rcases h.2 with q | ⟨g, cp, cur, hv, hg, hh, rr⟩
  · exact Or.inl q
  · exact Or.inr ⟨g, cp, cur, hv, hg, (b.block g (Array.getElem?_eq_some_iff.1 hh).1).trans hh, rr⟩
theorem mx_below {w W : World} {m : Int} (hm : w.cell? ⟨0, 0, none⟩ = some (.int .i64 m)) (b : Below w.heap.size w W) : W.cell? ⟨0, 0, none⟩ = some (.int .i64 m) := by
  have h0 : 0 < w.heap.size := by
    rcases Nat.eq_zero_or_pos w.heap.size with h | h
    · rw [World.cell?, Array.getElem?_eq_none (by omega)] at hm
      cases hm
    · exact h
  exact (World.cell?_of_block (b.block 0 h0)).trans hm
set_option maxRecDepth 20000 in
set_option maxHeartbeats 8000000 in
theorem readFields_any (ls : List ByteArray) (a : Option Addr) (c : Nat) (m : Int) (w : World) (ht : TextsAt w a ls) (hl : ls.length ≤ 1000000) (hs : ∀ l ∈ ls, l.size ≤ 1000000) (hm : w.cell? ⟨0, 0, none⟩ = some (.int .i64 m)) :
    Calls Tryd.prog 41 #[.slice a ls.length c] w fun e w' => ∃ a2 c2, e = .returned (.tuple #[.slice a2 (takeF ls).1.length c2, .bool (takeF ls).2]) ∧ w'.ownsRow w.heap.size 53 2 (.slice a2 (takeF ls).1.length c2) (takeF ls).1.length (flF (takeF ls).1) ∧ Below w.heap.size w w' := by
  obtain ⟨n, hn⟩ : ∃ n, ls.length = n := ⟨_, rfl⟩
  have HM : Hid (∀ W, Below w.heap.size w W → W.cell? ⟨0, 0, none⟩ = some (.int .i64 m)) := fun W b => mx_below hm b
  have HS : Hid (∀ l ∈ ls, l.size ≤ 1000000) := hs
  have HL : Hid _ := hn
  have HX : Hid _ := ht
  rw [hn] at hl ⊢
  clear hn ht hs hm
  obtain ⟨i0, hi, hz⟩ := Option.map_eq_some_iff.1 info53
  simp only [Prod.mk.injEq] at hz
  obtain ⟨hz0, hz1, hz2⟩ := hz
  obtain ⟨T, hT⟩ : ∃ T, takeF ls = T := ⟨_, rfl⟩
  have HT : Hid _ := hT
  rw [hT]
  clear hT
  go_enter Tryd.func41, Tryd.ntmps41
  go_wp2_with fail
  go_step3
  go_wp2_with fail
  go_step3
  go_wp2_with fail
  go_loopw [4, 13] (fun v i wr => ∃ (k : Nat) (acc : List Fd), k ≤ n ∧ i = .int .i64 (k : Nat) ∧ wr.ownsRow w.heap.size 53 2 v k (flF acc) ∧ Hid (acc.length = k) ∧ Hid (T = (acc ++ (takeF (ls.drop k)).1, (takeF (ls.drop k)).2)) ∧ Hid (Below w.heap.size w wr)) (fun _ i _ => n - (intOf i).toNat)
  case atStart => exact ⟨0, [], by omega, rfl, World.ownsRow_nil _ _ _ _, rfl, by rw [Hid, List.drop_zero, ← HT.out]; rfl, Below.refl _ _⟩
  case round =>
    obtain ⟨k, acc, hkn, rfl, hown, HK, HE, HB⟩ := hrel
    obtain ⟨va, vc, rfl⟩ := row_form hown
    have HOW : Hid _ := hown
    clear hown
    by_cases hlt : k < n
    · have hlz : (k : Int) < (n : Int) := by omega
      have hkk : ((k : Int) == (n : Int)) = false := by simp; omega
      obtain ⟨x, hx⟩ : ∃ x, ls[k]? = some x := ⟨ls[k]'(by rw [HL.out]; exact hlt), List.getElem?_eq_getElem _⟩
      have HD : Hid (ls.drop k = x :: ls.drop (k + 1)) := by
        obtain ⟨hj, e⟩ := List.getElem?_eq_some_iff.1 hx
        rw [Hid, List.drop_eq_getElem_cons hj, e]
      have HX2 : TextsAt wr a ls := TextsAt.below HX.out HB.out
      obtain ⟨b, off, rfl, _, x0⟩ := HX2 k x hx
      have HZ : Hid (x.size ≤ 1000000) := HS.out x (List.mem_of_getElem? hx)
      have H1 : Hid (∀ W, Below w.heap.size w W → _) := fun W b => cut_any x 58 (by have := HZ.out; omega) m W (HM.out W b)
      rw [show (58 : UInt8).toNat = 58 from rfl] at H1
      have HC := cutP_size x 58
      have HF1 : Hid ((cutP x 58).2.2 = false → fldL x = none) := fldL_cut
      have HF2 : Hid ((cutP x 58).2.2 = true → fldR ⟨(cutP x 58).1, trimT (cutP x 58).2.1⟩ = false → fldL x = none) := fldL_bad
      have HF3 : Hid ((cutP x 58).2.2 = true → fldR ⟨(cutP x 58).1, trimT (cutP x 58).2.1⟩ = true → fldL x = some ⟨(cutP x 58).1, trimT (cutP x 58).2.1⟩) := fldL_of
      obtain ⟨nm, hnm⟩ : ∃ nm, (cutP x 58).1 = nm := ⟨_, rfl⟩
      obtain ⟨vl, hvl⟩ : ∃ vl, (cutP x 58).2.1 = vl := ⟨_, rfl⟩
      obtain ⟨is, his⟩ : ∃ is, (cutP x 58).2.2 = is := ⟨_, rfl⟩
      rw [hnm, hvl] at HC HF2 HF3
      rw [his] at HF1 HF2 HF3
      rw [hnm, hvl, his] at H1
      have H2 : Hid (∀ W : World, _) := fun W => trim_any vl (by have := HZ.out; omega) W
      have HV : Hid ((trimT vl).size ≤ 1000000) := by have := trimT_size vl; have := HZ.out; rw [Hid]; omega
      obtain ⟨tv, htv⟩ : ∃ tv, trimT vl = tv := ⟨_, rfl⟩
      rw [htv] at H2 HV HF2 HF3
      have H3 : Hid (∀ W : World, _) := fun W => isField_any ⟨nm, tv⟩ ⟨by have := HZ.out; show nm.size ≤ _; omega, by have := HV.out; show tv.size ≤ _; omega⟩ W
      simp only [fdV] at H3
      clear hnm hvl his htv HC hx HX2 HZ HV
      go_wp2_with fail
      refine (H1.out _ HB.out).mono ?_
      rintro e w1 ⟨rfl, q1, rfl⟩
      obtain ⟨W1, hW1⟩ : ∃ W1, wr.drewN q1 = W1 := ⟨_, rfl⟩
      have HB1 : Hid (Below wr.heap.size wr W1) := by rw [Hid, ← hW1]; exact below_drewN (Below.refl _ _) q1
      rw [hW1]
      clear hW1 x0
      go_wp2_with fail
      refine (H2.out _).mono ?_
      rintro e w2 ⟨rfl, b2⟩
      have HB2 : Hid (Below wr.heap.size wr w2) := HB1.out.trans (b2.mono HB1.out.size)
      clear b2
      cases is with
      | false =>
        have HR : Hid (T = (acc, false)) := by rw [Hid, HE.out, HD.out, takeF_none (HF1.out rfl), List.append_nil]
        have HOW2 : Hid ((w2.alloc (.cells #[.string nm, .string tv] 53)).ownsRow w.heap.size 53 2 (.slice va k vc) k (flF acc)) := World.ownsRow.alloc (owns_on2 HOW.out HB2.out) _
        have HB3 : Hid (Below w.heap.size w (w2.alloc (.cells #[.string nm, .string tv] 53))) := (HB.out.trans (HB2.out.mono HB.out.size)).alloc (by have := HB.out.size; have := HB2.out.size; omega) _
        go_wp2_with fail
        rw [Exit.noGoto_ret]
        go_ret2
        refine ⟨va, vc, ?_, ?_, HB3.out⟩
        · rw [HR.out]; show _ = Ending.returned (.tuple #[.slice va acc.length vc, .bool false]); rw [HK.out]; rfl
        · rw [HR.out]; show World.ownsRow _ _ _ _ (.slice va acc.length vc) acc.length (flF acc); rw [HK.out]; exact HOW2.out
      | true =>
        go_wp2_with fail
        refine (H3.out _).mono ?_
        rintro e w3 ⟨rfl, b3⟩
        have HB3 : Hid (Below wr.heap.size wr w3) := (HB2.out.alloc HB2.out.size _).trans (b3.mono (by have := HB2.out.size; simp; omega))
        have c0 : w3.cell? ⟨w2.heap.size, 0, none⟩ = some (.string nm) := cell_of_block ((b3.block _ (by simp)).trans (block_alloc_at _ _)) rfl
        have c1 : w3.cell? ⟨w2.heap.size, 1, none⟩ = some (.string tv) := cell_of_block ((b3.block _ (by simp)).trans (block_alloc_at _ _)) rfl
        have HOW3 : Hid (w3.ownsRow w.heap.size 53 2 (.slice va k vc) k (flF acc)) := owns_on2 HOW.out HB3.out
        have HBW3 : Hid (Below w.heap.size w w3) := HB.out.trans (HB3.out.mono HB.out.size)
        clear b3
        cases hf : fldR ⟨nm, tv⟩ with
        | false =>
          have HR : Hid (T = (acc, false)) := by rw [Hid, HE.out, HD.out, takeF_none (HF2.out (by first | rfl | trivial) hf), List.append_nil]
          go_wp2_with fail
          rw [Exit.noGoto_ret]
          go_ret2
          refine ⟨va, vc, ?_, ?_, HBW3.out⟩
          · rw [HR.out]; show _ = Ending.returned (.tuple #[.slice va acc.length vc, .bool false]); rw [HK.out]; rfl
          · rw [HR.out]; show World.ownsRow _ _ _ _ (.slice va acc.length vc) acc.length (flF acc); rw [HK.out]; exact HOW3.out
        | true =>
          have HR : Hid (T = ((acc ++ [(⟨nm, tv⟩ : Fd)]) ++ (takeF (ls.drop (k + 1))).1, (takeF (ls.drop (k + 1))).2)) := by rw [Hid, HE.out, HD.out, takeF_some (HF3.out (by first | rfl | trivial) hf), List.append_assoc]; rfl
          have hra : Hid (∀ o, (w3.alloc o).ownsRow w.heap.size 53 2 (.slice va k vc) k (flF acc)) := fun o => World.ownsRow.alloc HOW3.out o
          have hsz := HBW3.out.size
          go_wp2_with (at_builtin; refine wpList_append_own _ rfl (.tmp 33) (.tmp 35) 22 rfl w.heap.size 53 i0 (.agg #[.string ByteArray.empty, .string ByteArray.empty]) 2 32 Tryd.underlying22 hi hz0 hz1 hz2 rfl (by decide) _ _ _ rfl (hra.out _) ⟨_, 0, none⟩ 1 1 [.string nm, .string tv] rfl rfl (new_cells _ [.string nm, .string tv] _) (fdL_one ⟨nm, tv⟩) (by unfold maxLen; omega) (by omega) (by simp; omega) ?_)
          intro v1 w5 hown1 hgrow _
          obtain ⟨a1, cap1, rfl⟩ := row_form hown1
          have HR5 : Hid (w5.ownsRow w.heap.size 53 2 (.slice a1 (k + 1) cap1) (k + 1) (flF (acc ++ [(⟨nm, tv⟩ : Fd)]))) := by
            rw [Hid, flF_app]; exact hown1
          have HB5 : Hid (Below w.heap.size w w5) := (HBW3.out.alloc hsz _).grown hgrow (by simp; omega) (fun i hi => (World.ownsRow.lt HOW3.out i hi).1)
          have HKK : Hid ((acc ++ [(⟨nm, tv⟩ : Fd)]).length = k + 1) := by rw [Hid, List.length_append, HK.out]; rfl
          clear hown1 hgrow
          go_wp2_with fail
          go_roundw
          case rel => exact ⟨k + 1, _, by omega, by go_num, HR5.out, HKK.out, HR.out, HB5.out⟩
          case measure => simp [intOf]; omega
    · have hlz : ¬ (k : Int) < (n : Int) := by omega
      have hkk : ((k : Int) == (n : Int)) = true := by simp; omega
      have HR : Hid (T = (acc, true)) := by
        rw [Hid, HE.out, List.drop_eq_nil_of_le (by rw [HL.out]; omega)]
        simp [takeF]
      go_wp2_with fail
      go_ret2
      refine ⟨va, vc, ?_, ?_, HB.out⟩
      · rw [HR.out]; show _ = Ending.returned (.tuple #[.slice va acc.length vc, .bool true]); rw [HK.out]; rfl
      · rw [HR.out]; show World.ownsRow _ _ _ _ (.slice va acc.length vc) acc.length (flF acc); rw [HK.out]; exact HOW.out
end Go.Proofs.YthhhoppmbimeiaaDoor
