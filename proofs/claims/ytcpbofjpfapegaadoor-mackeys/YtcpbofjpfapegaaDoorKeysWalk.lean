/-
  The walk of MacKeys.
-/
import Derived.Test.YtcpbofjpfapegaaDoorOwnZ
import Derived.Deep.RegionWith
namespace Go.Proofs.YtcpbofjpfapegaaDoor
open Go.RowKit
set_option maxHeartbeats 2000000 in
theorem keys_long (key text : ByteArray) (n : Int) (w : World) (hK : GK w) (hk : 64 < key.size) (hks : key.size ≤ 140737488355328) (ht : text.size ≤ 140737488355328) :
    Calls Tryd.prog 5 #[.string key, .string text, .int .i64 n] w fun e w' => e = .returned (.bool true) ∧ Below w.heap.size w w' := by
  have HK : Hid (GK w) := hK
  clear hK
  go_enter Tryd.func5, Tryd.ntmps5
  go_wp2_with fail
  refine (awake_any w HK.out).mono ?_
  rintro e1 w1 ⟨rfl, B1⟩
  have HK1 : Hid (GK w1) := HK.out.below B1
  have z1 := B1.size
  go_wp2_with fail
  refine (mac_long key text w1 HK1.out hk hks ht).mono ?_
  rintro e2 w2 ⟨rfl, B2⟩
  have HK2 : Hid (GK w2) := HK1.out.below B2
  have z2 := B2.size
  go_wp2_with fail
  refine (sum_any key w2 HK2.out hks).mono ?_
  rintro e3 w3 ⟨rfl, B3⟩
  have HK3 : Hid (GK w3) := HK2.out.below B3
  have z3 := B3.size
  go_wp2_with fail
  refine (mac_short ⟨(sha key).toArray⟩ text w3 HK3.out (by rw [mk_size, sha_len]; decide) ht).mono ?_
  rintro e4 w4 ⟨rfl, B4⟩
  have HB : Hid (Below w.heap.size w w4) := ((B1.trans (B2.mono (by omega))).trans (B3.mono (by omega))).trans (B4.mono (by omega))
  go_wp2_with fail
  go_ret
  exact ⟨rfl, HB.out⟩
theorem keyAt_pad (l : List UInt8) (j : Nat) : keyAt (l ++ List.replicate j 0) = keyAt l := by
  funext i
  unfold keyAt
  rw [List.getD_eq_getElem?_getD, List.getD_eq_getElem?_getD]
  by_cases hi : i < l.length
  · rw [List.getElem?_append_left hi]
  · rw [List.getElem?_append_right (by omega), List.getElem?_eq_none (by omega : l.length ≤ i), List.getElem?_replicate]
    split <;> rfl
theorem macB_pad (l : List UInt8) (j : Nat) (text : ByteArray) : macB (l ++ List.replicate j 0) text = macB l text := by
  unfold macB maskB
  rw [keyAt_pad]
theorem GK.drew {w : World} (h : GK w) : GK w.drew := h
theorem below_undrew {b : Nat} {w w' : World} (B : Below b w.drew w') : Below b w w' := ⟨B.os, B.tape, B.output, B.size, B.block⟩
set_option maxRecDepth 20000 in
set_option maxHeartbeats 4000000 in
theorem keys_short (key text : ByteArray) (n : Int) (w : World) (hK : GK w) (hk : key.size ≤ 64) (ht : text.size ≤ 140737488355328) (hn1 : -9223372036854775808 ≤ n) (hn2 : n ≤ 9223372036854775807) :
    Calls Tryd.prog 5 #[.string key, .string text, .int .i64 n] w fun e w' => e = .returned (.bool true) ∧ Below w.heap.size w w' := by
  obtain ⟨i0, hi, hz0, hz1, hz2⟩ := info_parts info5
  have HK : Hid (GK w) := hK
  clear hK
  go_enter Tryd.func5, Tryd.ntmps5
  go_wp2_with fail
  refine (awake_any w HK.out).mono ?_
  rintro e1 w1 ⟨rfl, B1⟩
  have HK1 : Hid (GK w1) := HK.out.below B1
  have z1 := B1.size
  have hcv := Lib.run_convert_string_bytes (P := Tryd.prog) w1 9 28 5 key Tryd.underlying9 Tryd.underlying28 Tryd.underlying5
  have hO := OwnZ.new w1 key (by unfold maxLen; omega)
  have B2 := bytes_below w1 key
  have hkl : key.data.toList.length = key.size := by simp
  have HKL : Hid _ := hkl
  clear hkl
  go_wp2_with fail
  clear hcv
  have HBW : Hid (Below w.heap.size w (Lib.bytesWorld w1 5 key)) := B1.trans (B2.mono (by omega))
  go_loopw [7, 8] (fun v i wr => ∃ (j g cap : Nat) (xs : List UInt8), v = .slice (some ⟨g, 0, none⟩) xs.length cap ∧ i = .int .i64 j ∧ Hid (xs = key.data.toList ++ List.replicate j 0) ∧ Hid (xs.length = key.size + j) ∧ xs.length ≤ 64 ∧ OwnZ wr w1.heap.size g cap xs ∧ Below w.heap.size w wr ∧ w1.heap.size ≤ wr.heap.size) (fun _ i _ => 64 - (intOf i).toNat)
  case atStart => exact ⟨0, w1.heap.size, _, key.data.toList, by rw [HKL.out], rfl, by simp [Hid], HKL.out, by rw [HKL.out]; exact hk, hO, HBW.out, B2.size⟩
  case round =>
    clear hO B2 HBW
    obtain ⟨j, g, cap, xs, rfl, rfl, HX, HL, hle, hO, hb, hsz⟩ := hrel
    have hz := hb.size
    by_cases h1 : (j : Int) < n
    · by_cases h2 : xs.length < 64
      · have HX' : Hid (xs ++ [0] = key.data.toList ++ List.replicate (j + 1) 0) := by
          show _ = _
          rw [HX.out, List.append_assoc, List.replicate_succ']
        go_wp2_with (at_builtin; refine wpList_append_Z rfl (.tmp 34) (.tmp 35) rfl i0 hi hz0 hz1 hz2 (hO.alloc _) rfl ⟨wr.heap.size, 0, none⟩ 0 1 rfl (new_cells _ (cellsOf [0]) _) (by omega) (by simp; omega) ?_)
        intro g5 cap5 w5 hO5 hgrow
        have HB : Hid (Below w.heap.size w w5) := (hb.alloc hz _).grown hgrow (by simp; omega) (fun i hi => by cases hi; have := hO.low; omega)
        have HS5 : Hid (w1.heap.size ≤ w5.heap.size) := by have := hgrow.size; simp at this; show _ ≤ _; omega
        have HO5 : Hid (OwnZ w5 w1.heap.size g5 cap5 (xs ++ [0])) := hO5
        clear hgrow hO hO5
        go_wp2_with fail
        go_roundw
        case rel => exact ⟨j + 1, g5, cap5, xs ++ [0], by simp, by go_num, HX'.out, by have := HL.out; show _ = _; simp; omega, by simp; omega, HO5.out, HB.out, HS5.out⟩
        case measure => have := HL.out; simp [intOf]; omega
      · have HKr : Hid (GK wr) := HK.out.below hb
        have HE : Hid (macB xs text = macB key.data.toList text) := by show _ = _; rw [HX.out, macB_pad]
        have hcv0 : (convert 28 9 (.slice (some ⟨g, 0, none⟩) xs.length cap)).run Tryd.prog wr.drew = .ok (.string ⟨xs.toArray⟩) wr.drew := (OwnZ.kept (w' := wr.drew) hO rfl).conv
        have HSX : Hid ((⟨xs.toArray⟩ : ByteArray).size ≤ 64) := by show _ ≤ _; rw [mk_size]; exact hle
        have hlen : (macB key.data.toList text).length = 32 := mac_len _ _
        have hglt := hO.lt
        go_wp2_with fail
        go_region_with (first
          | (go_at_call_of 12 (Value.string ⟨xs.toArray⟩); refine (mac_short ⟨xs.toArray⟩ text _ HK5.out HSX.out ht).mono ?_; rintro e6 w6 ⟨rfl, B6⟩; have hE6 := HE.out; rw [show (⟨xs.toArray⟩ : ByteArray).data.toList = xs from rfl, hE6]; clear hE6; have HK6 : Hid (GK w6) := HK5.out.below B6; have hB6 : Hid (Below wr.heap.size wr w6) := hB5.out.trans (B6.mono hB5.out.size); clear B6)
          | (go_at_call_of 12 (Value.string key); first
            | (refine (mac_short key text _ HK6.out hk ht).mono ?_; rintro e7 w7 ⟨rfl, B7⟩; have hB7 : Hid (Below wr.heap.size wr w7) := hB6.out.trans (B7.mono hB6.out.size); clear B7)
            | (refine (mac_short key text wr.drew HKr.out hk ht).mono ?_; rintro e5 w5 ⟨rfl, B5⟩; have HK5 : Hid (GK w5) := HKr.out.below (below_undrew B5); have hB5 : Hid (Below wr.heap.size wr w5) := below_undrew B5; have hcv5 : (convert 28 9 (.slice (some ⟨g, 0, none⟩) xs.length cap)).run Tryd.prog w5 = .ok (.string ⟨xs.toArray⟩) w5 := (hO.kept (hB5.out.block g hglt)).conv; clear B5)))
        all_goals
          go_wp2_with fail
          go_ret
          exact ⟨rfl, hb.trans (Below.mono hB7.out hb.size)⟩
    · have HKr : Hid (GK wr) := HK.out.below hb
      have HE : Hid (macB xs text = macB key.data.toList text) := by show _ = _; rw [HX.out, macB_pad]
      have hcv0 : (convert 28 9 (.slice (some ⟨g, 0, none⟩) xs.length cap)).run Tryd.prog wr.drew = .ok (.string ⟨xs.toArray⟩) wr.drew := (OwnZ.kept (w' := wr.drew) hO rfl).conv
      have HSX : Hid ((⟨xs.toArray⟩ : ByteArray).size ≤ 64) := by show _ ≤ _; rw [mk_size]; exact hle
      have hlen : (macB key.data.toList text).length = 32 := mac_len _ _
      have hglt := hO.lt
      go_wp2_with fail
      go_region_with (first
        | (go_at_call_of 12 (Value.string ⟨xs.toArray⟩); refine (mac_short ⟨xs.toArray⟩ text _ HK5.out HSX.out ht).mono ?_; rintro e6 w6 ⟨rfl, B6⟩; have hE6 := HE.out; rw [show (⟨xs.toArray⟩ : ByteArray).data.toList = xs from rfl, hE6]; clear hE6; have HK6 : Hid (GK w6) := HK5.out.below B6; have hB6 : Hid (Below wr.heap.size wr w6) := hB5.out.trans (B6.mono hB5.out.size); clear B6)
        | (go_at_call_of 12 (Value.string key); first
          | (refine (mac_short key text _ HK6.out hk ht).mono ?_; rintro e7 w7 ⟨rfl, B7⟩; have hB7 : Hid (Below wr.heap.size wr w7) := hB6.out.trans (B7.mono hB6.out.size); clear B7)
          | (refine (mac_short key text wr.drew HKr.out hk ht).mono ?_; rintro e5 w5 ⟨rfl, B5⟩; have HK5 : Hid (GK w5) := HKr.out.below (below_undrew B5); have hB5 : Hid (Below wr.heap.size wr w5) := below_undrew B5; have hcv5 : (convert 28 9 (.slice (some ⟨g, 0, none⟩) xs.length cap)).run Tryd.prog w5 = .ok (.string ⟨xs.toArray⟩) w5 := (hO.kept (hB5.out.block g hglt)).conv; clear B5)))
      all_goals
        go_wp2_with fail
        go_ret
        exact ⟨rfl, hb.trans (Below.mono hB7.out hb.size)⟩
end Go.Proofs.YtcpbofjpfapegaaDoor
