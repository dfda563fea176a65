/-
  The UTF-8 of runes: the contract of Text; the runes of a text, written again, are it just if it is right.
-/
import Derived.Test.YtbhlpiilklgnkaaVal
import Derived.Test.YtbhlpiilklgnkaaSame
import Derived.Laws.Cover4
namespace Go.Proofs.Ytbhlpiilklgnkaa
open Go.RowKit
/-- What Text tells of numbers. -/
def textV (l : List Int) : Array Value := if l.all isRn = true then #[.string (runesBytes l), .int .i64 0] else #[.string ⟨#[]⟩, .int .i64 150]
theorem conv_runes {W : World} {a : Option Addr} {cap : Nat} {l : List Int} (h : RunesAt W a l) : (convert 26 9 (.slice a l.length cap)).run Try.prog W = .ok (.string (runesBytes l)) W := by
  cases l with
  | nil =>
    cases a with
    | none => exact run_convert_runes_nil W 26 9 21 0 cap Try.underlying26 Try.underlying21 Try.underlying9
    | some ad => exact run_convert_runes W 26 9 21 ad 0 cap [] (Nat.le_refl _) Try.underlying26 Try.underlying21 Try.underlying9 (fun j hj => by simp at hj)
  | cons z l =>
    obtain ⟨b, off, rfl, _, _⟩ := h 0 z rfl
    have := run_convert_runes W 26 9 21 ⟨b, off, none⟩ (z :: l).length cap (z :: l) (Nat.le_refl _) Try.underlying26 Try.underlying21 Try.underlying9 (fun j hj => by
      obtain ⟨b', off', e, _, hc⟩ := h j _ (List.getElem?_eq_getElem hj)
      simp only [Option.some.injEq, Addr.mk.injEq] at e
      obtain ⟨rfl, rfl, _⟩ := e
      rw [add_off, hc, List.getD_eq_getElem?_getD, List.getElem?_eq_getElem hj]
      rfl)
    rw [List.take_length] at this
    exact this
theorem all_take {l : List Int} {k : Nat} (h : ∀ j, j < k → ∀ z, l[j]? = some z → isRn z = true) (hk : l.length ≤ k) : l.all isRn = true := by
  rw [List.all_eq_true]
  intro z hz
  obtain ⟨j, hj, rfl⟩ := List.mem_iff_getElem.1 hz
  exact h j (by omega) _ (List.getElem?_eq_getElem hj)
set_option maxRecDepth 20000 in
set_option maxHeartbeats 2000000 in
theorem text_any (a : Option Addr) (cap : Nat) (l : List Int) (w : World) (h : RunesAt w a l) (hl : l.length ≤ 140737488355328) : Calls Try.prog 18 #[.slice a l.length cap] w fun e w' => e = .returned (.tuple (textV l)) ∧ w' = w := by
  have HA : Hid _ := h
  have hcv := conv_runes (cap := cap) h
  have HR : Hid (∀ (z : Int) (W : World), _) := fun z W => isRune_any z W
  obtain ⟨T, hT⟩ : ∃ T, textV l = T := ⟨_, rfl⟩
  have HT : Hid _ := hT
  rw [hT]
  clear h hT
  go_enter Try.func18, Try.ntmps18
  go_wp2_with fail
  go_loopw [8] (fun i wr => ∃ k : Nat, k ≤ l.length ∧ i = .int .i64 (k : Int) ∧ Hid (∀ j, j < k → ∀ z, l[j]? = some z → isRn z = true) ∧ wr = w) (fun i _ => l.length - (intOf i).toNat)
  case atStart => exact ⟨0, by omega, rfl, fun j hj => by omega, rfl⟩
  case round =>
    obtain ⟨k, hk, rfl, HJ, rfl⟩ := hrel
    by_cases hlt : k < l.length
    · have hz : l[k]? = some l[k] := List.getElem?_eq_getElem hlt
      obtain ⟨z, hzz⟩ : ∃ z, l[k] = z := ⟨_, rfl⟩
      rw [hzz] at hz
      obtain ⟨p, off, rfl, _, h1⟩ := HA.out k z hz
      have HZ : Hid _ := hz
      have hlz : (k : Int) < (l.length : Int) := by omega
      have HI := HR.out z
      cases hr : isRn z with
      | true =>
        rw [hr] at HI
        have HI2 : Hid _ := HI
        have HJ2 : Hid (∀ j, j < k + 1 → ∀ z, l[j]? = some z → isRn z = true) := fun j hj y hy => by
          rcases Nat.lt_succ_iff_lt_or_eq.1 hj with q | rfl
          · exact HJ.out j q y hy
          · rw [HZ.out, Option.some.injEq] at hy; rw [← hy]; exact hr
        clear hz hzz hr HI HJ hcv
        go_wp2_with (go_at_call 30; refine (HI2.out _).mono ?_; rintro e w' ⟨rfl, rfl⟩)
        go_roundw
        case rel => exact ⟨k + 1, by omega, by go_num, HJ2.out, by first | rfl | trivial⟩
        case measure => simp [intOf]; omega
      | false =>
        rw [hr] at HI
        have HI2 : Hid _ := HI
        have HE : Hid (T = #[.string ⟨#[]⟩, .int .i64 150]) := by
          rw [Hid, ← HT.out, textV, if_neg]
          intro e
          have := List.all_eq_true.1 e z (List.mem_of_getElem? HZ.out)
          rw [hr] at this
          cases this
        clear hz hzz hr HI HJ hcv
        go_wp2_with (go_at_call 30; refine (HI2.out _).mono ?_; rintro e w' ⟨rfl, rfl⟩)
        go_ret2
        exact ⟨by rw [HE.out]; rfl, rfl⟩
    · have hlz : ¬ (k : Int) < (l.length : Int) := by omega
      have HE : Hid (T = #[.string (runesBytes l), .int .i64 0]) := by
        rw [Hid, ← HT.out, textV, if_pos (all_take HJ.out (by omega))]
      go_wp2_with fail
      go_ret2
      exact ⟨by rw [HE.out]; rfl, rfl⟩
/-- The bytes of runes, one behind the other. -/
def flat (l : List Nat) : List UInt8 := l.flatMap fun (r : Nat) => (Utf8.encode (r : Int)).data.toList
theorem foldl_flat (l : List Nat) : ∀ s : ByteArray, ((l.map Int.ofNat).foldl (fun r n => r ++ Utf8.encode n) s).data.toList = s.data.toList ++ flat l := by
  induction l with
  | nil => intro s; simp [flat]
  | cons z l ih =>
    intro s
    rw [List.map_cons, List.foldl_cons, ih]
    simp [flat, ByteArray.data_append]
theorem runesBytes_flat (l : List Nat) : (runesBytes (l.map Int.ofNat)).data.toList = flat l := by
  rw [runesBytes, foldl_flat]
  rfl
theorem dec_rn (s : ByteArray) : isRn ((Utf8.decode s 0).1 : Int) = true := by
  have e := dec_eq s
  have l0 := byteAt_lt s 0
  generalize Utf8.decode s 0 = d at e ⊢
  obtain ⟨d1, d2⟩ := d
  unfold ok2 ok3 ok4 num2 num3 num4 at e
  simp only at e ⊢
  simp only [isRn, decide_eq_true_eq]
  repeat' split at e
  all_goals simp only [Prod.mk.injEq] at e
  all_goals omega
theorem enc_dec (s : ByteArray) (h0 : 0 < s.size) (h : ¬ Utf8.decode s 0 = (65533, 1)) : Utf8.encode ((Utf8.decode s 0).1 : Int) = s.extract 0 (Utf8.decode s 0).2 := by
  have e := dec_eq s
  generalize Utf8.decode s 0 = d at e h ⊢
  obtain ⟨d1, d2⟩ := d
  simp only at e ⊢
  split at e
  · rename_i h1
    simp only [Prod.mk.injEq] at e
    rw [e.1, e.2]
    exact (one_yes h0 h1).2
  · split at e
    · rename_i h1
      simp only [Prod.mk.injEq] at e
      rw [e.1, e.2]
      exact (two_yes h1.1 h1.2).2
    · split at e
      · rename_i h1
        simp only [Prod.mk.injEq] at e
        rw [e.1, e.2]
        exact (three_yes h1.1 h1.2).2
      · split at e
        · rename_i h1
          simp only [Prod.mk.injEq] at e
          rw [e.1, e.2]
          exact (four_yes h1.1 h1.2).2
        · simp only [Prod.mk.injEq] at e
          exact absurd (by rw [Prod.mk.injEq]; omega) h
theorem head_list (s : ByteArray) (k : Nat) : (s.extract 0 k).data.toList = s.data.toList.take k := by
  rw [ByteArray.data_extract, Array.toList_extract]
  simp
theorem enc_drop (s : ByteArray) (pos : Nat) (hp : pos < s.size) (h : ¬ Utf8.decode s pos = (65533, 1)) : (Utf8.encode ((Utf8.decode s pos).1 : Int)).data.toList = (s.data.toList.drop pos).take (Utf8.decode s pos).2 := by
  have e := enc_dec (s.extract pos s.size) (by rw [tail_size]; omega) (by rw [decode_tail]; exact h)
  rw [decode_tail] at e
  rw [e, head_list, tail_list]
theorem runes_rn (s : ByteArray) : ∀ fuel pos, ((runesF s fuel pos).map Int.ofNat).all isRn = true
  | 0, _ => rfl
  | f + 1, pos => by
    rw [runesF]
    split
    · rw [List.map_cons, List.all_cons, runes_rn s f _, Bool.and_true]
      have := dec_rn (s.extract pos s.size)
      rw [decode_tail] at this
      exact this
    · rfl
theorem flat_right (s : ByteArray) : ∀ fuel pos, s.size ≤ pos + fuel → validF s fuel pos = true → flat (runesF s fuel pos) = s.data.toList.drop pos
  | 0, pos, h, _ => by
    have hl : s.data.toList.length = s.size := by simp
    rw [runesF, List.drop_eq_nil_of_le (by omega)]
    rfl
  | f + 1, pos, h, hv => by
    have hl : s.data.toList.length = s.size := by simp
    by_cases hp : pos < s.size
    · by_cases hd : Utf8.decode s pos = (65533, 1)
      · rw [validF_bad f hp hd] at hv; cases hv
      · have hw := width_pos s pos hp
        rw [validF_next f hp hd] at hv
        rw [runesF_next f hp]
        show (Utf8.encode _).data.toList ++ flat _ = _
        rw [enc_drop s pos hp hd, flat_right s f _ (by omega) hv, ← List.drop_drop]
        exact List.take_append_drop _ _
    · rw [runesF_end _ hp, List.drop_eq_nil_of_le (by omega)]
      rfl
theorem flat_long (s : ByteArray) : ∀ fuel pos, s.size ≤ pos + fuel → s.size ≤ pos + (flat (runesF s fuel pos)).length ∧ (validF s fuel pos = false → s.size < pos + (flat (runesF s fuel pos)).length)
  | 0, pos, h => ⟨by omega, fun e => by simp [validF] at e⟩
  | f + 1, pos, h => by
    have hl : s.data.toList.length = s.size := by simp
    by_cases hp : pos < s.size
    · have hw := width_pos s pos hp
      obtain ⟨ih1, ih2⟩ := flat_long s f (pos + (Utf8.decode s pos).2) (by omega)
      rw [runesF_next f hp]
      have hf : (flat ((Utf8.decode s pos).1 :: runesF s f (pos + (Utf8.decode s pos).2))).length = (Utf8.encode ((Utf8.decode s pos).1 : Int)).data.toList.length + (flat (runesF s f (pos + (Utf8.decode s pos).2))).length := by
        show ((Utf8.encode _).data.toList ++ flat _).length = _
        rw [List.length_append]
      rw [hf]
      by_cases hd : Utf8.decode s pos = (65533, 1)
      · rw [hd] at ih1 ⊢
        have : (Utf8.encode ((65533 : Nat) : Int)).data.toList.length = 3 := by decide
        simp only at ih1 ⊢
        rw [this]
        exact ⟨by omega, fun _ => by omega⟩
      · have hw2 := (decode_width s pos hp).1
        rw [enc_drop s pos hp hd, List.length_take, List.length_drop, validF_next f hp hd]
        exact ⟨by omega, fun e => by have := ih2 e; omega⟩
    · rw [validF_end _ hp]
      exact ⟨by omega, fun e => by cases e⟩
/-- Written again, the runes of a text are it just if it is right. -/
theorem again_right (s : ByteArray) : ((runesBytes ((runesOf s).map Int.ofNat)).toList == s.toList) = validB s := by
  cases hv : validB s with
  | true =>
    apply sbeq_eq
    apply ByteArray.ext
    apply Array.toList_inj.1
    rw [runesBytes_flat, runesOf, flat_right s s.size 0 (by omega) hv, List.drop_zero]
  | false =>
    apply sbeq_ne
    intro e
    have h1 := (flat_long s s.size 0 (by omega)).2 hv
    have h2 := runesBytes_flat (runesOf s)
    rw [e] at h2
    have hl : s.data.toList.length = s.size := by simp
    have := congrArg List.length h2
    rw [hl, runesOf] at this
    omega
end Go.Proofs.Ytbhlpiilklgnkaa
