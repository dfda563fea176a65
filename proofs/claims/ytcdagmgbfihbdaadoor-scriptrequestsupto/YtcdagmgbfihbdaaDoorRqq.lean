/-
  Request, as the twin makes it; ScriptRequests.
-/
import Derived.Test.YtcdagmgbfihbdaaDoorReq
namespace Go.Proofs.YtcdagmgbfihbdaaDoor
open Go.RowKit
set_option maxRecDepth 20000 in
set_option maxHeartbeats 8000000 in
theorem qrequest_any (m t c b : ByteArray) (h : m.size + t.size + c.size + b.size ≤ 1048576) (w : World) :
    Calls Tryd.prog 18 #[.string m, .string t, .string c, .string b] w fun e w' => e = .returned (.string (reqB m t c b)) ∧ Below w.heap.size w w' := by
  have HIT : Hid (∀ _ : Unit, _) := fun _ => qnumber_any b.size (by omega) w
  have hds := digs_len (b := b) (by omega)
  have HRQ : Hid (reqB m t c b = ((if b = ⟨#[]⟩ then (if c = ⟨#[]⟩ then (((m ++ ⟨#[32]⟩) ++ t) ++ ⟨#[32, 72, 84, 84, 80, 47, 49, 46, 49, 13, 10, 72, 111, 115, 116, 58, 32, 97, 116, 114, 105, 117, 109, 13, 10]⟩) else (((m ++ ⟨#[32]⟩) ++ t) ++ ⟨#[32, 72, 84, 84, 80, 47, 49, 46, 49, 13, 10, 72, 111, 115, 116, 58, 32, 97, 116, 114, 105, 117, 109, 13, 10]⟩) ++ ((⟨#[65, 117, 116, 104, 111, 114, 105, 122, 97, 116, 105, 111, 110, 58, 32, 66, 101, 97, 114, 101, 114, 32]⟩ ++ c) ++ ⟨#[13, 10]⟩)) else (if c = ⟨#[]⟩ then (((m ++ ⟨#[32]⟩) ++ t) ++ ⟨#[32, 72, 84, 84, 80, 47, 49, 46, 49, 13, 10, 72, 111, 115, 116, 58, 32, 97, 116, 114, 105, 117, 109, 13, 10]⟩) else (((m ++ ⟨#[32]⟩) ++ t) ++ ⟨#[32, 72, 84, 84, 80, 47, 49, 46, 49, 13, 10, 72, 111, 115, 116, 58, 32, 97, 116, 114, 105, 117, 109, 13, 10]⟩) ++ ((⟨#[65, 117, 116, 104, 111, 114, 105, 122, 97, 116, 105, 111, 110, 58, 32, 66, 101, 97, 114, 101, 114, 32]⟩ ++ c) ++ ⟨#[13, 10]⟩)) ++ ((⟨#[67, 111, 110, 116, 101, 110, 116, 45, 76, 101, 110, 103, 116, 104, 58, 32]⟩ ++ bOf (Lib.decDigits b.size)) ++ ⟨#[13, 10]⟩)) ++ ⟨#[13, 10]⟩) ++ b) := rfl
  obtain ⟨R, hR⟩ : ∃ R, reqB m t c b = R := ⟨_, rfl⟩
  rw [hR] at HRQ ⊢
  obtain ⟨D, hD⟩ : ∃ D, bOf (Lib.decDigits b.size) = D := ⟨_, rfl⟩
  rw [hD] at HIT hds HRQ
  clear hD hR
  have a0 : ¬ 9223372036854775807 < m.size + 1 := by omega
  have a1 : ¬ 9223372036854775807 < m.size + 1 + t.size := by omega
  have a2 : ¬ 9223372036854775807 < m.size + 1 + t.size + 25 := by omega
  have a3 : ¬ 9223372036854775807 < 22 + c.size := by omega
  have a4 : ¬ 9223372036854775807 < 22 + c.size + 2 := by omega
  have a5 : ¬ 9223372036854775807 < m.size + 1 + t.size + 25 + (22 + c.size + 2) := by omega
  have a6 : ¬ 9223372036854775807 < 16 + D.size := by omega
  have a7 : ¬ 9223372036854775807 < 16 + D.size + 2 := by omega
  have a8 : ¬ 9223372036854775807 < m.size + 1 + t.size + 25 + (16 + D.size + 2) := by omega
  have a9 : ¬ 9223372036854775807 < m.size + 1 + t.size + 25 + 2 := by omega
  have a10 : ¬ 9223372036854775807 < m.size + 1 + t.size + 25 + 2 + b.size := by omega
  have a11 : ¬ 9223372036854775807 < m.size + 1 + t.size + 25 + (16 + D.size + 2) + 2 := by omega
  have a12 : ¬ 9223372036854775807 < m.size + 1 + t.size + 25 + (16 + D.size + 2) + 2 + b.size := by omega
  have a13 : ¬ 9223372036854775807 < m.size + 1 + t.size + 25 + (22 + c.size + 2) + (16 + D.size + 2) := by omega
  have a14 : ¬ 9223372036854775807 < m.size + 1 + t.size + 25 + (22 + c.size + 2) + 2 := by omega
  have a15 : ¬ 9223372036854775807 < m.size + 1 + t.size + 25 + (22 + c.size + 2) + 2 + b.size := by omega
  have a16 : ¬ 9223372036854775807 < m.size + 1 + t.size + 25 + (22 + c.size + 2) + (16 + D.size + 2) + 2 := by omega
  have a17 : ¬ 9223372036854775807 < m.size + 1 + t.size + 25 + (22 + c.size + 2) + (16 + D.size + 2) + 2 + b.size := by omega
  by_cases hc : c = ⟨#[]⟩
  · have ec : c.toList.isEmpty = true := by rw [hc, ByteArray.toList_eq]; rfl
    by_cases hb : b = ⟨#[]⟩
    · have eb : b.toList.isEmpty = true := by rw [hb, ByteArray.toList_eq]; rfl
      rw [if_pos hb, if_pos hc] at HRQ
      clear hb hc
      go_enter Tryd.func18, Tryd.ntmps18
      go_wp2_with fail
      go_ret
      exact ⟨by rw [HRQ.out]; rfl, Below.refl _ _⟩
    · have eb := not_nil hb
      rw [if_neg hb, if_pos hc] at HRQ
      clear hb hc
      go_enter Tryd.func18, Tryd.ntmps18
      go_wp2_with fail
      refine (HIT.out ()).mono ?_
      rintro e w1 ⟨rfl, b1⟩
      have HB1 : Hid _ := b1
      clear b1
      go_wp2_with fail
      go_ret
      exact ⟨by rw [HRQ.out]; rfl, HB1.out⟩
  · have ec := not_nil hc
    by_cases hb : b = ⟨#[]⟩
    · have eb : b.toList.isEmpty = true := by rw [hb, ByteArray.toList_eq]; rfl
      rw [if_pos hb, if_neg hc] at HRQ
      clear hb hc
      go_enter Tryd.func18, Tryd.ntmps18
      go_wp2_with fail
      go_ret
      exact ⟨by rw [HRQ.out]; rfl, Below.refl _ _⟩
    · have eb := not_nil hb
      rw [if_neg hb, if_neg hc] at HRQ
      clear hb hc
      go_enter Tryd.func18, Tryd.ntmps18
      go_wp2_with fail
      refine (HIT.out ()).mono ?_
      rintro e w1 ⟨rfl, b1⟩
      have HB1 : Hid _ := b1
      clear b1
      go_wp2_with fail
      go_ret
      exact ⟨by rw [HRQ.out]; rfl, HB1.out⟩
set_option maxRecDepth 100000 in
theorem requests_walk (m t c b : ByteArray) (h : m.size + t.size + c.size + b.size ≤ 1048576) (w : World) (hT : TabP w) :
    Calls Tryd.prog 5 #[.string m, .string t, .string c, .string b] w fun e w' => e = .returned (.bool true) ∧ Below w.heap.size w w' := by
  have HAW : Hid (∀ _ : Unit, _) := fun _ => awake_any w hT fuint
  have HRQ : Hid (∀ W, Below w.heap.size w W → _) := fun W hb => request_any m t c b h W (tab_on hT hb)
  have HQQ : Hid (∀ W : World, _) := fun W => qrequest_any m t c b h W
  obtain ⟨R, hR⟩ : ∃ R, reqB m t c b = R := ⟨_, rfl⟩
  rw [hR] at HRQ HQQ
  clear hT h hR
  go_enter Tryd.func5, Tryd.ntmps5
  go_wp2_with (first
    | (go_at_call 11; refine (HAW.out ()).mono ?_; rintro e w1 ⟨rfl, b1⟩; have HB1 : Hid _ := b1; clear b1)
    | (go_at_call 17; refine (HRQ.out _ HB1.out).mono ?_; rintro e w2 ⟨rfl, b2⟩; have HB2 : Hid (Below w.heap.size w w2) := (HB1.out.trans (b2.mono HB1.out.size)); clear b2)
    | (go_at_call 18; refine (HQQ.out _).mono ?_; rintro e w3 ⟨rfl, b3⟩; have HB3 : Hid (Below w.heap.size w w3) := (HB2.out.trans (b3.mono HB2.out.size)); clear b3))
  go_ret
  exact ⟨rfl, HB3.out⟩
end Go.Proofs.YtcdagmgbfihbdaaDoor
