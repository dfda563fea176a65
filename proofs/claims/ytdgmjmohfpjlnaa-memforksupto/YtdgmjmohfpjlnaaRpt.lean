/-
  The contracts of the twin's Part and Size.
-/
import Derived.Test.YtdgmjmohfpjlnaaRnw
namespace Go.Proofs.Ytdgmjmohfpjlnaa
open Go.RowKit Go.Shelf
def partP (fr tw : ByteArray) (c : Cl) : Bool := !(Op.bytesLess c.key.toList fr.toList) && (tw.toList.isEmpty || Op.bytesLess c.key.toList tw.toList)
def partC (fr tw : ByteArray) (L : List Cl) : List Cl := L.filter (partP fr tw)
theorem take_snoc {L : List Cl} {k : Nat} {c : Cl} (hc : L[k]? = some c) : L.take (k + 1) = L.take k ++ [c] := by
  have hk : k < L.length := (List.getElem?_eq_some_iff.1 hc).1
  rw [List.getElem?_eq_getElem hk] at hc
  cases hc
  rw [List.take_succ_eq_append_getElem hk]
theorem part_take (fr tw : ByteArray) {L : List Cl} {k : Nat} {c : Cl} (hc : L[k]? = some c) : partC fr tw (L.take (k + 1)) = partC fr tw (L.take k) ++ (if partP fr tw c = true then [c] else []) := by
  rw [take_snoc hc]
  unfold partC
  rw [List.filter_append]
  congr 1
  split
  · rename_i h; rw [List.filter_cons_of_pos h]; rfl
  · rename_i h; rw [List.filter_cons_of_neg h]; rfl
set_option maxRecDepth 20000 in
set_option maxHeartbeats 8000000 in
theorem part_any (a : Option Addr) (n cp : Nat) (L : List Cl) (fr tw : ByteArray) (w : World) (h : CA w.heap.size w a L) (hl : L.length = n) (hn : n ≤ 4000000) :
    Calls Try.prog 35 #[.slice a n cp, .string fr, .string tw] w fun e w' => ∃ v, e = .returned v ∧ w'.ownsRow w.heap.size 33 4 v (partC fr tw L).length (flC (partC fr tw L)) ∧ Below w.heap.size w w' := by
  obtain ⟨i0, hi, hz0, hz1, hz2⟩ := info_parts info33
  have HCA : Hid (CA w.heap.size w a L) := h
  have HL : Hid (L.length = n) := hl
  clear h hl
  go_enter Try.func35, Try.ntmps35
  go_wp2_with fail
  go_loopw [7, 12] (fun v i wr => ∃ k : Nat, k ≤ n ∧ i = .int .i64 ((k : Nat) : Int) ∧ Hid (Below w.heap.size w wr) ∧ Hid (wr.ownsRow w.heap.size 33 4 v (partC fr tw (L.take k)).length (flC (partC fr tw (L.take k))))) (fun v i _ => n - (intOf i).toNat)
  case atStart => exact ⟨0, by omega, rfl, Below.refl _ _, by rw [List.take_zero]; exact World.ownsRow_nil _ _ _ _⟩
  case round =>
    obtain ⟨k, hk, rfl, HB, HR⟩ := hrel
    obtain ⟨v, rfl⟩ : ∃ v, v = u7 := ⟨_, rfl⟩
    by_cases hlt : k < n
    · have hlz : ((k : Nat) : Int) < ((n : Nat) : Int) := by omega
      obtain ⟨c, hc⟩ : ∃ c, L[k]? = some c := ⟨_, List.getElem?_eq_getElem (by rw [HL.out]; exact hlt)⟩
      obtain ⟨cb, off, rfl, hcb, c0, c1, c2, c3⟩ := (HCA.out.below (fun x hx => HB.out.block x hx)) k c hc
      have hd := part_take fr tw hc
      obtain ⟨V, hV⟩ : ∃ V, wr.alloc (.cells #[.string c.key, .int .u64 ((c.seq : Nat) : Int), .string c.val, .bool c.gone] 33) = V := ⟨_, rfl⟩
      have HBV : Hid (Below w.heap.size w V) := by rw [Hid, ← hV]; exact HB.out.alloc HB.out.size _
      have HRV : Hid (V.ownsRow w.heap.size 33 4 v (partC fr tw (L.take k)).length (flC (partC fr tw (L.take k)))) := by rw [Hid, ← hV]; exact World.ownsRow.alloc HR.out _
      have hx : CB V wr.heap.size c := by rw [← hV]; exact block_alloc_at _ _
      obtain ⟨x0, x1, x2, x3⟩ := CB.cells hx
      rw [← hV] at x0 x1 x2 x3
      have HV : Hid _ := hV
      have hge : ∀ W : World, (binOp BinOp.geq 9 (.string c.key) (.string fr)).run Try.prog W = .ok (.bool (!(Op.bytesLess c.key.toList fr.toList))) W := fun W => sgeq 9 c.key fr W
      by_cases hp : partP fr tw c = true
      · rw [if_pos hp] at hd
        have hlen : (partC fr tw (L.take k)).length ≤ k := by
          unfold partC
          refine Nat.le_trans (List.length_filter_le _ _) ?_
          rw [List.length_take]
          omega
        have HX : Hid (∀ (w3 : World) (v2 : Value), w3.ownsRow w.heap.size 33 4 v2 ((partC fr tw (L.take k)).length + 1) (flC (partC fr tw (L.take k)) ++ [Value.string c.key, .int .u64 ((c.seq : Nat) : Int), .string c.val, .bool c.gone]) → (V.alloc (.cells #[.string c.key, .int .u64 ((c.seq : Nat) : Int), .string c.val, .bool c.gone] 33)).grownBy w3 v.ownBlock → Below w.heap.size w w3 ∧ w3.ownsRow w.heap.size 33 4 v2 (partC fr tw (L.take (k + 1))).length (flC (partC fr tw (L.take (k + 1))))) := fun w3 v2 q1 q2 => by
          refine ⟨(HBV.out.alloc HBV.out.size _).grown q2 (by simp; have := HBV.out.size; omega) (fun j ej => (World.ownsRow.lt HRV.out j ej).1), ?_⟩
          rw [hd, List.length_append, List.length_singleton, flC_app]
          have e1 : flC [c] = clL c := by simp [flC]
          rw [e1]
          exact q1
        obtain ⟨m, hm⟩ : ∃ m, (partC fr tw (L.take k)).length = m := ⟨_, rfl⟩
        rw [hm] at HX HRV hlen
        obtain ⟨va, vc, rfl⟩ := row_form4 HRV.out
        have HRX : Hid ((V.alloc (.cells #[.string c.key, .int .u64 ((c.seq : Nat) : Int), .string c.val, .bool c.gone] 33)).ownsRow w.heap.size 33 4 (.slice va m vc) m (flC (partC fr tw (L.take k)))) := World.ownsRow.alloc HRV.out _
        have HNC : Hid (∀ j u, [Value.string c.key, .int .u64 ((c.seq : Nat) : Int), .string c.val, .bool c.gone][j]? = some u → (V.alloc (.cells #[.string c.key, .int .u64 ((c.seq : Nat) : Int), .string c.val, .bool c.gone] 33)).cell? ((⟨wr.heap.size + 1, 0, none⟩ : Addr).add j) = some u) := fun j u hj => by
          have hzs : V.heap.size = wr.heap.size + 1 := by rw [← hV]; simp
          rw [← hzs, addr_addC]
          exact cell_of_block (o := 0 + j) (block_alloc_at _ _) (by rw [Nat.zero_add]; simpa using hj)
        have hsW : w.heap.size ≤ (V.alloc (.cells #[.string c.key, .int .u64 ((c.seq : Nat) : Int), .string c.val, .bool c.gone] 33)).heap.size := by have := HBV.out.size; simp; omega
        have hb2 : (m + 1) * 48 ≤ 140737488355328 := by omega
        have hb1 : m + 1 ≤ maxLen := by unfold maxLen; omega
        have hcase : Op.bytesLess c.key.toList fr.toList = false ∧ (tw.toList.isEmpty = true ∨ (tw.toList.isEmpty = false ∧ Op.bytesLess c.key.toList tw.toList = true)) := by
          unfold partP at hp
          simp only [Bool.and_eq_true, Bool.not_eq_true', Bool.or_eq_true] at hp
          refine ⟨hp.1, ?_⟩
          cases h : tw.toList.isEmpty with
          | true => exact .inl rfl
          | false => rw [h] at hp; exact .inr ⟨rfl, by simpa using hp.2⟩
        obtain ⟨hl1, hcase⟩ := hcase
        rw [hl1] at hge
        clear hc hcb hd hx hp hm hlen hl1 HR HB
        rcases hcase with ht | ⟨ht, ht2⟩
        · subst hV
          go_wp2_with (at_builtin; refine wpList_append_own _ rfl (.tmp 30) (.tmp 32) 27 rfl w.heap.size 33 i0 (.agg #[.string ByteArray.empty, .int .u64 0, .string ByteArray.empty, .bool false]) 4 48 Try.underlying27 hi hz0 hz1 hz2 rfl (by decide) _ _ _ rfl HRX.out ⟨wr.heap.size + 1, 0, none⟩ 1 1 [.string c.key, .int .u64 ((c.seq : Nat) : Int), .string c.val, .bool c.gone] rfl rfl HNC.out (by simp [Value.oneCell']) hb1 hb2 hsW ?_; intro v2 w3 hown2 hg2 _; have HF : Hid _ := HX.out w3 v2 hown2 hg2; clear hown2 hg2)
          clear x0 x1 x2 x3 c0 c1 c2 c3
          go_roundw
          case rel => exact ⟨k + 1, by omega, by go_num, HF.out.1, HF.out.2⟩
          case measure => simp [intOf]; omega
        · subst hV
          go_wp2_with (at_builtin; refine wpList_append_own _ rfl (.tmp 30) (.tmp 32) 27 rfl w.heap.size 33 i0 (.agg #[.string ByteArray.empty, .int .u64 0, .string ByteArray.empty, .bool false]) 4 48 Try.underlying27 hi hz0 hz1 hz2 rfl (by decide) _ _ _ rfl HRX.out ⟨wr.heap.size + 1, 0, none⟩ 1 1 [.string c.key, .int .u64 ((c.seq : Nat) : Int), .string c.val, .bool c.gone] rfl rfl HNC.out (by simp [Value.oneCell']) hb1 hb2 hsW ?_; intro v2 w3 hown2 hg2 _; have HF : Hid _ := HX.out w3 v2 hown2 hg2; clear hown2 hg2)
          clear x0 x1 x2 x3 c0 c1 c2 c3
          go_roundw
          case rel => exact ⟨k + 1, by omega, by go_num, HF.out.1, HF.out.2⟩
          case measure => simp [intOf]; omega
      · rw [if_neg hp, List.append_nil] at hd
        have HRN : Hid (V.ownsRow w.heap.size 33 4 v (partC fr tw (L.take (k + 1))).length (flC (partC fr tw (L.take (k + 1))))) := by rw [hd]; exact HRV.out
        have hcase : Op.bytesLess c.key.toList fr.toList = true ∨ (Op.bytesLess c.key.toList fr.toList = false ∧ tw.toList.isEmpty = false ∧ Op.bytesLess c.key.toList tw.toList = false) := by
          unfold partP at hp
          cases h1 : Op.bytesLess c.key.toList fr.toList with
          | true => exact .inl rfl
          | false =>
            rw [h1] at hp
            cases h2 : tw.toList.isEmpty with
            | true => rw [h2] at hp; simp at hp
            | false => rw [h2] at hp; exact .inr ⟨rfl, rfl, by simpa using hp⟩
        clear hc hcb hd hx hp HR HB
        rcases hcase with hl1 | ⟨hl1, ht, ht2⟩
        · rw [hl1] at hge
          clear hV
          go_wp2_with fail
          try rw [HV.out]
          clear x0 x1 x2 x3 c0 c1 c2 c3
          go_roundw
          case rel => exact ⟨k + 1, by omega, by go_num, HBV.out, HRN.out⟩
          case measure => simp [intOf]; omega
        · rw [hl1] at hge
          clear hV
          go_wp2_with fail
          try rw [HV.out]
          clear x0 x1 x2 x3 c0 c1 c2 c3
          go_roundw
          case rel => exact ⟨k + 1, by omega, by go_num, HBV.out, HRN.out⟩
          case measure => simp [intOf]; omega
    · obtain rfl : k = n := by omega
      have hlz : ¬ ((k : Nat) : Int) < ((k : Nat) : Int) := by omega
      have HRN : Hid (wr.ownsRow w.heap.size 33 4 v (partC fr tw L).length (flC (partC fr tw L))) := by
        have := HR.out
        rw [← HL.out, List.take_length] at this
        exact this
      clear HR
      go_wp2_with fail
      go_ret
      exact ⟨_, rfl, HRN.out, HB.out⟩
end Go.Proofs.Ytdgmjmohfpjlnaa
