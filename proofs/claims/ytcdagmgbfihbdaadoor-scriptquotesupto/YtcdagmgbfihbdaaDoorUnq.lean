/-
  Unquote, as the code does it.
-/
import Derived.Test.YtcdagmgbfihbdaaDoorBst
import Derived.Test.YtcdagmgbfihbdaaDoorUqb
namespace Go.Proofs.YtcdagmgbfihbdaaDoor
open Go.RowKit
/-- What a reading of a quoted text comes to. -/
def UqR (s d : List UInt8) (ok : Bool) : Prop := (ok = true → quoteL d = s ∧ ∀ x, quoteL x = s → d = x) ∧ (ok = false → d = [] ∧ ∀ x, quoteL x ≠ s)
theorem quoteL_two (x : List UInt8) : 2 ≤ (quoteL x).length := by unfold quoteL; simp
theorem ext_mid (l : List UInt8) (a b : Nat) : (bOf l).extract a b = bOf ((l.drop a).take (b - a)) := by
  apply ByteArray.ext
  rw [ByteArray.data_extract]
  simp [bOf]
theorem quoteL_mid (x : List UInt8) : ((quoteL x).drop 1).take ((quoteL x).length - 1 - 1) = x.flatMap qB := by
  unfold quoteL
  simp
theorem flat_nil {x : List UInt8} (h : x.flatMap qB = []) : x = [] := by
  match x with
  | [] => rfl
  | y :: r =>
    obtain ⟨a, q, e⟩ := qB_head y
    rw [List.flatMap_cons, e] at h
    cases h
/-- The readings that are still open. -/
def UI (l d r : List UInt8) : Prop := ∀ x, quoteL x = l → ∃ k, d = x.take k ∧ r = (x.drop k).flatMap qB
theorem UI.step {l d r : List UInt8} (h : UI l d r) {c : UInt8} {m : Nat} (hr : r ≠ []) (hu : UB r c m) : UI l (d ++ [c]) (r.drop m) := fun x hx => by
  obtain ⟨k, rfl, rfl⟩ := h x hx
  cases hk : x.drop k with
  | nil => rw [hk] at hr; exact absurd rfl hr
  | cons y q =>
    rw [hk, List.flatMap_cons] at hu
    obtain ⟨rfl, rfl⟩ := hu.2.2 y (q.flatMap qB) rfl
    have hg : x[k]? = some c := by
      have := congrArg (fun z : List UInt8 => z[0]?) hk
      simpa using this
    refine ⟨k + 1, ?_, ?_⟩
    · rw [List.take_add_one, hg]; rfl
    · have : x.drop (k + 1) = q := by
        rw [← List.tail_drop, hk]; rfl
      rw [this, List.flatMap_cons, List.drop_left]
theorem UI.last {l d : List UInt8} (h : UI l d []) : ∀ x, quoteL x = l → d = x := fun x hx => by
  obtain ⟨k, rfl, h2⟩ := h x hx
  have := flat_nil h2.symm
  have h3 := List.take_append_drop k x
  rw [this, List.append_nil] at h3
  exact h3
theorem empty_list {r : List UInt8} (h : r ≠ []) : (bOf r).toList.isEmpty = false := by
  rw [ByteArray.toList_eq, List.isEmpty_eq_false_iff]
  exact h
theorem uq_of {l d : List UInt8} (h : ∀ x, quoteL x = l → d = x) : UqR l (if quoteL d = l then d else []) (decide (quoteL d = l)) := by
  refine ⟨fun e => ?_, fun e => ?_⟩
  · have := of_decide_eq_true e
    rw [if_pos this]
    exact ⟨this, h⟩
  · have := of_decide_eq_false e
    rw [if_neg this]
    exact ⟨rfl, fun x hx => this (by rw [h x hx]; exact hx)⟩
def strLenU : Value → Nat
  | .string s => s.size
  | _ => 0
theorem owns_on3 {w w' : World} {B e z n : Nat} {v : Value} {xs : List Value} (h : w.ownsRow B e z v n xs) (b : Below w.heap.size w w') : w'.ownsRow B e z v n xs := by
  refine ⟨h.1, ?_⟩
  rcases h.2 with q | ⟨g, cp, cur, hv, hg, hh, rr⟩
  · exact Or.inl q
  · exact Or.inr ⟨g, cp, cur, hv, hg, (b.block g (Array.getElem?_eq_some_iff.1 hh).1).trans hh, rr⟩
theorem BR.below {B T b : Nat} {l : List UInt8} {W W' : World} (h : BR B T b l W) (q : Below W.heap.size W W') : BR B T b l W' := by
  obtain ⟨v, c1, ⟨cs, hc⟩, h2⟩ := h
  have hb : W'.heap[b]? = W.heap[b]? := q.block b (Array.getElem?_eq_some_iff.1 hc).1
  refine ⟨v, by rw [World.cell?, hb]; exact c1, ⟨cs, by rw [hb]; exact hc⟩, ?_⟩
  rcases h2 with h2 | ⟨h0, g, cap, cur, fr, e, h3, h4, hg, h5⟩
  · exact .inl h2
  · exact .inr ⟨h0, g, cap, cur, fr, e, h3, h4, by rw [q.block g (Array.getElem?_eq_some_iff.1 hg).1]; exact hg, h5⟩
set_option maxRecDepth 100000 in
set_option maxHeartbeats 4000000 in
theorem unquote_any (l : List UInt8) (w : World) (hlen : l.length ≤ 30000000000000) :
    Calls Tryd.prog 9 #[.string (bOf l)] w fun e w' => ∃ d ok, e = .returned (.tuple #[.string (bOf d), .bool ok]) ∧ UqR l d ok ∧ d.length ≤ l.length ∧ Below w.heap.size w w' := by
  obtain ⟨n, hn⟩ : ∃ q, l.length = q := ⟨_, rfl⟩
  have HN : Hid (l.length = n) := hn
  have hsz : (bOf l).size = n := by rw [bOf_size]; exact hn
  rw [hn] at hlen ⊢
  by_cases h2 : n < 2
  · have hz : ((n : Nat) : Int) < 2 := by omega
    have HR : Hid (UqR l [] false) := ⟨fun e => (by cases e), fun _ => ⟨rfl, fun x hx => by have := quoteL_two x; rw [hx, hn] at this; omega⟩⟩
    clear hn h2
    go_enter Tryd.func9, Tryd.ntmps9
    go_wp2_with fail
    go_ret2
    exact ⟨[], false, rfl, HR.out, by simp, Below.refl _ _⟩
  · have hz : ¬ ((n : Nat) : Int) < 2 := by omega
    obtain ⟨B, hB⟩ : ∃ q, w.heap.size = q := ⟨_, rfl⟩
    obtain ⟨W0, hW0⟩ : ∃ V, w.alloc (.cells #[.pointer none, .slice none 0 0] 48) = V := ⟨_, rfl⟩
    have HA0 : Hid (BA B 48 B [] [] W0) := by rw [Hid, ← hW0, ← hB]; exact fresh_ba w
    have HC0 : Hid (W0.cell? ⟨B, 1, none⟩ = some (.slice none 0 0)) := by rw [Hid, ← hW0, ← hB]; exact cell_of_block (block_alloc_at _ _) rfl
    have HE0 : Hid (Below B w W0) := by rw [Hid, ← hW0, ← hB]; exact below_new _ _
    have HBB : Hid (w.heap.size = B) := hB
    have HI0 : Hid (UI l [] ((l.drop 1).take (n - 1 - 1))) := fun x hx => ⟨0, rfl, by rw [← hn, ← hx, quoteL_mid]; rfl⟩
    have hex : (bOf l).extract 1 (n - 1) = bOf ((l.drop 1).take (n - 1 - 1)) := ext_mid l 1 (n - 1)
    have hml : ((l.drop 1).take (n - 1 - 1)).length ≤ n := by rw [List.length_take, List.length_drop]; omega
    obtain ⟨M, hM⟩ : ∃ M, (l.drop 1).take (n - 1 - 1) = M := ⟨_, rfl⟩
    rw [hM] at HI0 hex hml
    have hs1 : ∀ W, (Instr.slice 9 (.string (bOf l)) (some (.int .i64 1)) (some (.int .i64 (((n : Nat) : Int) - 1))) none).run Tryd.prog W = .ok (.string (bOf M)) W := fun W => by
      rw [run_slice_string W 9 (bOf l) .i64 .i64 1 (((n : Nat) : Int) - 1) Tryd.underlying9 (by omega) (by omega) (by rw [hsz]; omega), show (((n : Nat) : Int) - 1).toNat = n - 1 by omega, show (1 : Int).toNat = 1 from rfl, hex]
    have HWB : Hid (∀ (W : World) (d : List UInt8) (c : UInt8), BA B 48 B [] d W → d.length ≤ n → B ≤ W.heap.size → Calls Tryd.prog 19 #[.pointer (some ⟨B, 0, none⟩), .int .u8 ((c.toNat : Nat) : Int)] W fun e w' => e = .returned .nilIface ∧ BA B 48 B [] (d ++ [c]) w' ∧ Below B W w') := fun W d c hm hl hb =>
      (wbyte_any B 48 B [] d c W layB hm (by omega) hb).mono (fun e w' q => ⟨q.1, q.2.1.ba, q.2.2.2⟩)
    rw [hB]
    clear hn h2 hM hex
    go_enter Tryd.func9, Tryd.ntmps9
    go_wp2_with fail
    clear hW0 hB hs1
    go_loopw [5] (fun v wr => ∃ (r d : List UInt8), v = .string (bOf r) ∧ d.length + r.length ≤ n ∧ Hid (UI l d r) ∧ Hid (BA B 48 B [] d wr) ∧ Hid (d = [] → wr.cell? ⟨B, 1, none⟩ = some (.slice none 0 0)) ∧ Hid (Below B w wr)) (fun v _ => strLenU v)
    case atStart => exact ⟨M, [], rfl, by simpa using hml, HI0.out, HA0.out, fun _ => HC0.out, HE0.out⟩
    case round =>
      obtain ⟨r, d, rfl, hdr, HI, HA, HC, HE⟩ := hrel
      by_cases hr : r = []
      · subst hr
        have hdn : d.length ≤ n := by simpa using hdr
        have HLL : Hid (d.length ≤ n) := hdn
        have HBR : Hid (BR B 48 B d wr) := BR.of HA.out (by decide) HC.out
        have HLS : Hid (∀ x, quoteL x = l → d = x) := HI.out.last
        have HUQ : Hid _ := uq_of HLS.out
        have HS1 : Hid (∀ _ : Unit, _) := fun _ => bstr2_any B 48 B d wr HBR.out
        have HQ : Hid (∀ W : World, _) := fun W => quote_any d W (by omega)
        have e0 : (bOf ([] : List UInt8)).toList.isEmpty = true := by rw [ByteArray.toList_eq]; rfl
        clear HBR HI HA HC HLS
        go_wp2_with fail
        refine Calls.mono (HS1.out ()) ?_
        rintro e w1 ⟨rfl, hb1, hl1⟩
        have HB1 : Hid _ := hb1
        have HE1 : Hid (Below B w w1) := HE.out.trans hl1
        clear hb1 hl1 HS1
        by_cases hq : quoteL d = l
        · have HU2 : Hid (UqR l d true) := by
            have h := HUQ.out
            rw [if_pos hq, decide_eq_true hq] at h
            exact h
          rw [hq] at HQ
          clear hq HUQ
          go_wp2_with fail
          refine (HQ.out _).mono ?_
          rintro e w2 ⟨rfl, hl2⟩
          have HE2 : Hid (Below B w w2) := HE1.out.trans (hl2.mono (le_s HBB.out HE1.out))
          have HS2 : Hid (∀ _ : Unit, _) := fun _ => bstr2_any B 48 B d w2 (BR.below HB1.out hl2)
          clear hl2
          go_wp2_with fail
          refine Calls.mono (HS2.out ()) ?_
          rintro e w3 ⟨rfl, _, hl3⟩
          have HE3 : Hid (Below B w w3) := HE2.out.trans hl3
          clear hl3
          go_wp2_with fail
          go_ret2
          exact ⟨d, true, rfl, HU2.out, HLL.out, HE3.out⟩
        · have HU2 : Hid (UqR l [] false) := by
            have h := HUQ.out
            rw [if_neg hq, decide_eq_false hq] at h
            exact h
          have hq2 : ((bOf (quoteL d)).toList == (bOf l).toList) = false := by
            rw [beq_eq_false_iff_ne, ByteArray.toList_eq, ByteArray.toList_eq]
            exact hq
          clear hq HUQ
          go_wp2_with fail
          refine (HQ.out _).mono ?_
          rintro e w2 ⟨rfl, hl2⟩
          have HE2 : Hid (Below B w w2) := HE1.out.trans (hl2.mono (le_s HBB.out HE1.out))
          clear hl2
          go_wp2_with fail
          go_ret2
          exact ⟨[], false, rfl, HU2.out, by simp, HE2.out⟩
      · have hne := empty_list hr
        have hrl : 0 < r.length := List.length_pos_iff.2 hr
        have HR : Hid (r ≠ []) := hr
        have HUB : Hid (∀ W : World, _) := fun W => unquoteByte_any r hrl (by omega) W
        have HRS : Hid (∀ m : Nat, m ≤ r.length → ∀ W : World, (Instr.slice 9 (.string (bOf r)) (some (.int .i64 ((m : Nat) : Int))) none none).run Tryd.prog W = .ok (.string (bOf (r.drop m))) W) := fun m hm W => by
          rw [run_slice_string_from_if W 9 (bOf r) .i64 ((m : Nat) : Int) Tryd.underlying9, if_pos ⟨by omega, by rw [bOf_size]; omega⟩]
          rw [Int.toNat_natCast, ext_mid, List.take_of_length_le (by rw [List.length_drop, bOf_size]; omega)]
        clear hr hrl
        go_wp2_with fail
        refine (HUB.out _).mono ?_
        rintro e w1 ⟨c, m, rfl, hub, hl1⟩
        have HBU : Hid _ := hub
        have HE1 : Hid (Below B w w1) := HE.out.trans (hl1.mono (le_s HBB.out HE.out))
        have HW1 : Hid (∀ _ : Unit, _) := fun _ => HWB.out w1 d c (by obtain ⟨q1, a, v, q2, q3, q4⟩ := HA.out; exact ⟨q1, a, v, by rw [hl1.block _ (Array.getElem?_eq_some_iff.1 q2).1]; exact q2, owns_on3 q3 hl1, q4⟩) (by omega) (le_s HBB.out HE1.out)
        have hm1 := hub.1
        have hm2 := hub.2.1
        have hs2 := HRS.out m hm2
        clear hub hl1 HUB HRS
        go_wp2_with fail
        refine (HW1.out ()).mono ?_
        rintro e w2 ⟨rfl, ha2, hl2⟩
        have HA2 : Hid _ := ha2
        have HE2 : Hid (Below B w w2) := HE1.out.trans hl2
        clear ha2 hl2 HW1
        go_wp2_with fail
        go_roundw
        case rel => exact ⟨r.drop m, d ++ [c], rfl, by rw [List.length_append, List.length_drop]; simp; omega, HI.out.step HR.out HBU.out, HA2.out, fun e => by simp at e, HE2.out⟩
        case measure => simp only [strLenU, bOf_size, List.length_drop]; omega
end Go.Proofs.YtcdagmgbfihbdaaDoor
