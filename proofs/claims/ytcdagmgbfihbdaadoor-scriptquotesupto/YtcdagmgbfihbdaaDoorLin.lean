/-
  The printer: part and line.
-/
import Derived.Test.YtcdagmgbfihbdaaDoorPrn
namespace Go.Proofs.YtcdagmgbfihbdaaDoor
open Go.RowKit
theorem ta_str (v : Value) (W : World) : (Instr.typeAssert (.iface 9 v) 20 9 true).run Tryd.prog W = .ok (.tuple #[v, .bool true]) W := by
  simp [Instr.typeAssert, run_underlying Tryd.underlying9]
theorem ta_int_str (v : Value) (W : World) : (Instr.typeAssert (.iface 3 v) 20 9 true).run Tryd.prog W = .ok (.tuple #[.string ⟨#[]⟩, .bool false]) W := by
  simp [Instr.typeAssert, run_underlying Tryd.underlying9, go_sem]
theorem ta_ints_str (v : Value) (W : World) : (Instr.typeAssert (.iface 60 v) 20 9 true).run Tryd.prog W = .ok (.tuple #[.string ⟨#[]⟩, .bool false]) W := by
  simp [Instr.typeAssert, run_underlying Tryd.underlying9, go_sem]
theorem ta_u64s_str (v : Value) (W : World) : (Instr.typeAssert (.iface 61 v) 20 9 true).run Tryd.prog W = .ok (.tuple #[.string ⟨#[]⟩, .bool false]) W := by
  simp [Instr.typeAssert, run_underlying Tryd.underlying9, go_sem]
theorem ta_int (v : Value) (W : World) : (Instr.typeAssert (.iface 3 v) 20 3 true).run Tryd.prog W = .ok (.tuple #[v, .bool true]) W := by
  simp [Instr.typeAssert, run_underlying Tryd.underlying3]
theorem ta_ints_int (v : Value) (W : World) : (Instr.typeAssert (.iface 60 v) 20 3 true).run Tryd.prog W = .ok (.tuple #[.int .i64 0, .bool false]) W := by
  simp [Instr.typeAssert, run_underlying Tryd.underlying3, go_sem]
theorem ta_u64s_int (v : Value) (W : World) : (Instr.typeAssert (.iface 61 v) 20 3 true).run Tryd.prog W = .ok (.tuple #[.int .i64 0, .bool false]) W := by
  simp [Instr.typeAssert, run_underlying Tryd.underlying3, go_sem]
theorem ta_ints (v : Value) (W : World) : (Instr.typeAssert (.iface 60 v) 20 60 true).run Tryd.prog W = .ok (.tuple #[v, .bool true]) W := by
  simp [Instr.typeAssert, run_underlying Tryd.underlying60]
theorem ta_u64s_ints (v : Value) (W : World) : (Instr.typeAssert (.iface 61 v) 20 60 true).run Tryd.prog W = .ok (.tuple #[.slice none 0 0, .bool false]) W := by
  simp [Instr.typeAssert, run_underlying Tryd.underlying60, go_sem]
theorem ta_u64s (v : Value) (W : World) : (Instr.typeAssert (.iface 61 v) 20 61 true).run Tryd.prog W = .ok (.tuple #[v, .bool true]) W := by
  simp [Instr.typeAssert, run_underlying Tryd.underlying61]
/-- What a line tells beside its word. -/
inductive Prt where
  | s (x : List UInt8)
  | i (n : Int)
  | is (a : Option Addr) (c : Nat) (l : List Int)
  | us (a : Option Addr) (c : Nat) (l : List Nat)
def prV : Prt → Value
  | .s x => .iface 9 (.string (bOf x))
  | .i n => .iface 3 (.int .i64 n)
  | .is a c l => .iface 60 (.slice a l.length c)
  | .us a c l => .iface 61 (.slice a l.length c)
def greatS (n : Nat) (s : PS) : PS := wordS (Lib.decDigits n) s
def prS : Prt → PS → PS
  | .s x, s => textS x s
  | .i n, s => numS n s
  | .is _ _ l, s => l.foldl (fun s n => numS n s) s
  | .us _ _ l, s => l.foldl (fun s n => greatS n s) s
/-- A list of numbers that came in. -/
def IV (W : World) (a : Option Addr) (l : List Int) : Prop := ∀ j v, l[j]? = some v → ∃ b off, a = some ⟨b, off, none⟩ ∧ b < W.heap.size ∧ W.cell? ⟨b, off + j, none⟩ = some (.int .i64 v)
def UV (W : World) (a : Option Addr) (l : List Nat) : Prop := ∀ j v, l[j]? = some v → ∃ b off, a = some ⟨b, off, none⟩ ∧ b < W.heap.size ∧ W.cell? ⟨b, off + j, none⟩ = some (.int .u64 ((v : Nat) : Int))
theorem IV.below {W W' : World} {a : Option Addr} {l : List Int} (h : IV W a l) (k : Below W.heap.size W W') : IV W' a l := fun j v hj => by
  obtain ⟨b, off, e, hb, hc⟩ := h j v hj
  exact ⟨b, off, e, Nat.lt_of_lt_of_le hb k.size, (k.cell (p := ⟨b, off + j, none⟩) hb).trans hc⟩
theorem UV.below {W W' : World} {a : Option Addr} {l : List Nat} (h : UV W a l) (k : Below W.heap.size W W') : UV W' a l := fun j v hj => by
  obtain ⟨b, off, e, hb, hc⟩ := h j v hj
  exact ⟨b, off, e, Nat.lt_of_lt_of_le hb k.size, (k.cell (p := ⟨b, off + j, none⟩) hb).trans hc⟩
def i64ok (n : Int) : Prop := -9223372036854775808 ≤ n ∧ n ≤ 9223372036854775807
def prOk (w0 : World) : Prt → Prop
  | .s _ => True
  | .i n => i64ok n
  | .is a _ l => IV w0 a l ∧ (∀ n ∈ l, i64ok n) ∧ l.length ≤ 4611686018427387904
  | .us a _ l => UV w0 a l ∧ (∀ n ∈ l, n < 18446744073709551616) ∧ l.length ≤ 4611686018427387904
/-- strconv.FormatUint in tens. -/
def FUint : Prop := ∀ (u : Nat) (W : World), u < 18446744073709551616 → TabP W → Calls Tryd.prog 69 #[.int .u64 ((u : Nat) : Int), .int .i64 10] W fun e w' => e = .returned (.string (bOf (Lib.decDigits u))) ∧ Below W.heap.size W w'
theorem dec_len {u : Nat} (h : u < 18446744073709551616) : (Lib.decDigits u).length ≤ 20 := by
  rw [Lib.decDigits_length]
  exact nDig_le 19 u (by omega)
theorem foldl_take {α : Type} (f : α → PS → PS) {l : List α} {k : Nat} {x : α} (h : l[k]? = some x) (s : PS) : (l.take (k + 1)).foldl (fun s x => f x s) s = f x ((l.take k).foldl (fun s x => f x s) s) := by
  rw [List.take_add_one, h, Option.toList, List.foldl_append]
  rfl
set_option maxRecDepth 100000 in
set_option maxHeartbeats 8000000 in
theorem part_any (w0 W : World) (p : Nat) (s : PS) (x : Prt) (h : PrA w0 W p s) (hx : prOk w0 x) (hFU : Hid FUint) :
    Calls Tryd.prog 49 #[.pointer (some ⟨p, 0, none⟩), prV x] W fun e W' => PD w0 W p (prS x s) e W' := by
  cases x with
  | s y =>
    have hta_str := ta_str
    have HT : Hid (∀ _ : Unit, _) := fun _ => text_any w0 W p s y h
    simp only [prV, prS]
    clear h hx
    go_enter Tryd.func49, Tryd.ntmps49
    go_wp2_with fail
    refine Calls.mono (HT.out ()) ?_
    rintro e w1 ⟨rfl, q1, q2⟩
    have HD : Hid (PD w0 W p (textS y s) (.returned (.tuple #[])) w1) := ⟨rfl, q1, q2⟩
    clear q1 q2
    go_wp2_with fail
    go_end0
    exact HD.out
  | i n =>
    have hta_int_str := ta_int_str
    have hta_int := ta_int
    have HT : Hid (∀ _ : Unit, _) := fun _ => number_any w0 W p s n h hx.1 hx.2
    simp only [prV, prS]
    clear h hx
    go_enter Tryd.func49, Tryd.ntmps49
    go_wp2_with fail
    refine Calls.mono (HT.out ()) ?_
    rintro e w1 ⟨rfl, q1, q2⟩
    have HD : Hid (PD w0 W p (numS n s) (.returned (.tuple #[])) w1) := ⟨rfl, q1, q2⟩
    clear q1 q2
    go_wp2_with fail
    go_end0
    exact HD.out
  | is a c l =>
    have hta_ints_str := ta_ints_str
    have hta_ints_int := ta_ints_int
    have hta_ints := ta_ints
    obtain ⟨h1, h2, h3⟩ := hx
    have HIV : Hid (IV w0 a l) := h1
    have HOK : Hid (∀ n ∈ l, i64ok n) := h2
    have HPR : Hid (PrA w0 W p s) := h
    obtain ⟨n, hn⟩ : ∃ q, l.length = q := ⟨_, rfl⟩
    have HN : Hid (l.length = n) := hn
    simp only [prV, prS]
    rw [hn] at h3 ⊢
    clear h h1 h2 hn
    go_enter Tryd.func49, Tryd.ntmps49
    go_wp2_with fail
    go_loopw [30] (fun i wr => ∃ k : Nat, k ≤ n ∧ i = .int .i64 ((k : Nat) : Int) ∧ Hid (PrA w0 wr p ((l.take k).foldl (fun s n => numS n s) s) ∧ KP p W wr)) (fun i _ => n - (intOf i).toNat)
    case atStart => exact ⟨0, by omega, rfl, HPR.out, KP.refl p W⟩
    case round =>
      obtain ⟨k, hk, rfl, HT⟩ := hrel
      by_cases hlt : k < n
      · have hlz : ((k : Nat) : Int) < ((n : Nat) : Int) := by omega
        obtain ⟨v, hv⟩ : ∃ v, l[k]? = some v := ⟨_, List.getElem?_eq_getElem (by rw [HN.out]; exact hlt)⟩
        obtain ⟨b, off, rfl, _, c0⟩ := (HIV.out.below HT.out.1.bel) k v hv
        have hok := HOK.out v (List.mem_of_getElem? hv)
        have HNU : Hid (∀ _ : Unit, _) := fun _ => number_any w0 wr p _ v HT.out.1 hok.1 hok.2
        rw [← foldl_take numS hv] at HNU
        clear hv hok
        go_wp2_with fail
        refine Calls.mono (HNU.out ()) ?_
        rintro e w1 ⟨rfl, q1, q2⟩
        have HQ : Hid (PrA w0 w1 p ((l.take (k + 1)).foldl (fun s n => numS n s) s) ∧ KP p W w1) := ⟨q1, HT.out.2.trans q2⟩
        clear q1 q2 HNU
        go_wp2_with fail
        go_roundw
        case rel => exact ⟨k + 1, by omega, by go_num, HQ.out⟩
        case measure => simp [intOf]; omega
      · obtain rfl : k = n := by omega
        have hlz : ¬ ((k : Nat) : Int) < ((k : Nat) : Int) := by omega
        have HFI : Hid (PD w0 W p (l.foldl (fun s n => numS n s) s) (.returned (.tuple #[])) wr) := by
          have := HT.out
          rw [← HN.out, List.take_length] at this
          exact ⟨rfl, this⟩
        go_wp2_with fail
        go_end0
        exact HFI.out
  | us a c l =>
    have hta_u64s_str := ta_u64s_str
    have hta_u64s_int := ta_u64s_int
    have hta_u64s_ints := ta_u64s_ints
    have hta_u64s := ta_u64s
    obtain ⟨h1, h2, h3⟩ := hx
    have HIV : Hid (UV w0 a l) := h1
    have HOK : Hid (∀ n ∈ l, n < 18446744073709551616) := h2
    have HPR : Hid (PrA w0 W p s) := h
    obtain ⟨n, hn⟩ : ∃ q, l.length = q := ⟨_, rfl⟩
    have HN : Hid (l.length = n) := hn
    simp only [prV, prS]
    rw [hn] at h3 ⊢
    clear h h1 h2 hn
    go_enter Tryd.func49, Tryd.ntmps49
    go_wp2_with fail
    go_loopw [43] (fun i wr => ∃ k : Nat, k ≤ n ∧ i = .int .i64 ((k : Nat) : Int) ∧ Hid (PrA w0 wr p ((l.take k).foldl (fun s n => greatS n s) s) ∧ KP p W wr)) (fun i _ => n - (intOf i).toNat)
    case atStart => exact ⟨0, by omega, rfl, HPR.out, KP.refl p W⟩
    case round =>
      obtain ⟨k, hk, rfl, HT⟩ := hrel
      by_cases hlt : k < n
      · have hlz : ((k : Nat) : Int) < ((n : Nat) : Int) := by omega
        obtain ⟨v, hv⟩ : ∃ v, l[k]? = some v := ⟨_, List.getElem?_eq_getElem (by rw [HN.out]; exact hlt)⟩
        obtain ⟨b, off, rfl, _, c0⟩ := (HIV.out.below HT.out.1.bel) k v hv
        have hok := HOK.out v (List.mem_of_getElem? hv)
        have HNU : Hid (∀ _ : Unit, _) := fun _ => hFU.out v wr hok (tab_on HT.out.1.tab HT.out.1.bel)
        have hft := foldl_take greatS hv s
        have HFT : Hid _ := hft
        have HDL : Hid ((Lib.decDigits v).length ≤ 20) := dec_len hok
        clear hv hok hft
        go_wp2_with fail
        refine Calls.mono (HNU.out ()) ?_
        rintro e w1 ⟨rfl, hb⟩
        have HWD : Hid _ := word_any w0 w1 p _ (Lib.decDigits v) (HT.out.1.kept hb) (by have := HDL.out; omega)
        have HK1 : Hid (KP p W w1) := HT.out.2.trans (KP.of hb)
        clear hb HNU
        go_wp2_with fail
        refine Calls.mono HWD.out ?_
        rintro e w2 ⟨rfl, q1, q2⟩
        have HQ : Hid (PrA w0 w2 p ((l.take (k + 1)).foldl (fun s n => greatS n s) s) ∧ KP p W w2) := by
          rw [Hid, HFT.out]
          exact ⟨q1, HK1.out.trans q2⟩
        clear q1 q2 HWD
        go_wp2_with fail
        go_roundw
        case rel => exact ⟨k + 1, by omega, by go_num, HQ.out⟩
        case measure => simp [intOf]; omega
      · obtain rfl : k = n := by omega
        have hlz : ¬ ((k : Nat) : Int) < ((k : Nat) : Int) := by omega
        have HFI : Hid (PD w0 W p (l.foldl (fun s n => greatS n s) s) (.returned (.tuple #[])) wr) := by
          have := HT.out
          rw [← HN.out, List.take_length] at this
          exact ⟨rfl, this⟩
        go_wp2_with fail
        go_end0
        exact HFI.out
/-- A line. -/
def lineS (word : List UInt8) (l : List Prt) (s : PS) : PS := putS [10] (l.foldl (fun s x => prS x s) (putS word s))
set_option maxRecDepth 100000 in
set_option maxHeartbeats 8000000 in
theorem line_any (w0 W : World) (p g : Nat) (s : PS) (word : List UInt8) (l : List Prt) (n : Nat) (h : PrA w0 W p s) (hg : W.heap[g]? = some (.cells (l.map prV).toArray 20 (0, 0))) (hgp : g ≠ p) (hl : l.length = n) (hn : n ≤ 1000000) (hok : ∀ x ∈ l, prOk w0 x) (hFU : Hid FUint) :
    Calls Tryd.prog 37 #[.pointer (some ⟨p, 0, none⟩), .string (bOf word), .slice (some ⟨g, 0, none⟩) n n] W fun e W' => PD w0 W p (lineS word l s) e W' := by
  have HG : Hid (∀ V, KP p W V → V.heap[g]? = some (.cells (l.map prV).toArray 20 (0, 0))) := fun V hV => hV.keep g _ hg hgp (fun c f e => by simp at e)
  have HOK : Hid (∀ x ∈ l, prOk w0 x) := hok
  have HPR : Hid (PrA w0 W p s) := h
  have HN : Hid (l.length = n) := hl
  have HPU : Hid (∀ _ : Unit, _) := fun _ => put_any w0 W p s word h
  clear h hg hok hl
  go_enter Tryd.func37, Tryd.ntmps37
  go_wp2_with fail
  refine Calls.mono (HPU.out ()) ?_
  rintro e w1 ⟨rfl, q1, q2⟩
  have HP1 : Hid (PrA w0 w1 p (putS word s) ∧ KP p W w1) := ⟨q1, q2⟩
  clear q1 q2 HPU
  go_wp2_with fail
  go_loopw [13] (fun i wr => ∃ k : Nat, k ≤ n ∧ i = .int .i64 ((k : Nat) : Int) ∧ Hid (PrA w0 wr p ((l.take k).foldl (fun s x => prS x s) (putS word s)) ∧ KP p W wr)) (fun i _ => n - (intOf i).toNat)
  case atStart => exact ⟨0, by omega, rfl, HP1.out⟩
  case round =>
    obtain ⟨k, hk, rfl, HT⟩ := hrel
    by_cases hlt : k < n
    · have hlz : ((k : Nat) : Int) < ((n : Nat) : Int) := by omega
      obtain ⟨x, hx⟩ : ∃ x, l[k]? = some x := ⟨_, List.getElem?_eq_getElem (by rw [HN.out]; exact hlt)⟩
      have c0 : wr.cell? ⟨g, k, none⟩ = some (prV x) := cell_of_block (HG.out wr HT.out.2) (by simp [hx])
      have HPA : Hid (∀ _ : Unit, _) := fun _ => part_any w0 wr p _ x HT.out.1 (HOK.out x (List.mem_of_getElem? hx)) hFU
      have hft := foldl_take prS hx (putS word s)
      have HFT : Hid _ := hft
      clear hx hft
      go_wp2_with fail
      refine Calls.mono (HPA.out ()) ?_
      rintro e w2 ⟨rfl, q1, q2⟩
      have HQ : Hid (PrA w0 w2 p ((l.take (k + 1)).foldl (fun s x => prS x s) (putS word s)) ∧ KP p W w2) := by
        rw [Hid, HFT.out]
        exact ⟨q1, HT.out.2.trans q2⟩
      clear q1 q2 HPA
      go_wp2_with fail
      go_roundw
      case rel => exact ⟨k + 1, by omega, by go_num, HQ.out⟩
      case measure => simp [intOf]; omega
    · obtain rfl : k = n := by omega
      have hlz : ¬ ((k : Nat) : Int) < ((k : Nat) : Int) := by omega
      have HPU : Hid (Calls Tryd.prog 48 #[.pointer (some ⟨p, 0, none⟩), .string ⟨#[10]⟩] wr fun e W' => PD w0 wr p (lineS word l s) e W') := by
        have := HT.out.1
        rw [← HN.out, List.take_length] at this
        exact put_any w0 wr p _ [10] this
      go_wp2_with fail
      refine Calls.mono HPU.out ?_
      rintro e w3 ⟨rfl, q1, q2⟩
      have HD : Hid (PD w0 W p (lineS word l s) (.returned (.tuple #[])) w3) := ⟨rfl, q1, HT.out.2.trans q2⟩
      clear q1 q2 HPU
      go_wp2_with fail
      go_end0
      exact HD.out
end Go.Proofs.YtcdagmgbfihbdaaDoor
