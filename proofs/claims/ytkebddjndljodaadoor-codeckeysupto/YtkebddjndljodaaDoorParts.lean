/-
  Parts in memory, and the contract of sameParts: it tells whether two lists of parts are the same.
-/
import Derived.Test.YtkebddjndljodaaDoorKeyMath
import Derived.Laws.StructEq
import Derived.WalkLawsBesides
import Derived.Deep.QuietTactic
import Derived.BigQuiet
namespace Go.Proofs.YtkebddjndljodaaDoor
open Go.RowKit
/-- Parts in memory: from a slice's address on, three cells a part. -/
def PartsAt (w : World) (a : Option Addr) (ps : List Prt) : Prop :=
  ∀ j p, ps[j]? = some p → ∃ b off, a = some ⟨b, off, none⟩ ∧ b < w.heap.size ∧ w.cell? ⟨b, off + j * 3, none⟩ = some (.string p.text) ∧ w.cell? ⟨b, off + j * 3 + 1, none⟩ = some (.int .u64 p.num) ∧ w.cell? ⟨b, off + j * 3 + 2, none⟩ = some (.bool p.isNum)
theorem PartsAt.below {w w' : World} {a : Option Addr} {ps : List Prt} {B : Nat} (h : PartsAt w a ps) (hB : w.heap.size ≤ B) (k : Below B w w') : PartsAt w' a ps := by
  intro j p hj
  obtain ⟨b, off, ha, hb, h0, h1, h2⟩ := h j p hj
  have e : ∀ o, w'.cell? ⟨b, o, none⟩ = w.cell? ⟨b, o, none⟩ := fun o => k.cell (p := ⟨b, o, none⟩) (by show b < B; omega)
  exact ⟨b, off, ha, Nat.lt_of_lt_of_le hb k.size, (e _).trans h0, (e _).trans h1, (e _).trans h2⟩
theorem PartsAt.take {w : World} {a : Option Addr} {ps : List Prt} (h : PartsAt w a ps) (k : Nat) : PartsAt w a (ps.take k) := by
  intro j p hj
  rw [List.getElem?_take] at hj
  split at hj
  · exact h j p hj
  · cases hj
theorem same_text (a b : ByteArray) : (a.toList == b.toList) = decide (a = b) := by
  by_cases h : a = b
  · simp [h]
  · have : ¬ a.toList = b.toList := fun e => h (by rw [ByteArray.toList_eq, ByteArray.toList_eq] at e; exact bytes_ext' e)
    simp [h, this]
theorem same_prt (p q : Prt) : decide (p = q) = (decide (p.text = q.text) && (p.num == q.num) && (p.isNum == q.isNum)) := by
  obtain ⟨a, b, c⟩ := p
  obtain ⟨d, e, f⟩ := q
  by_cases h1 : a = d <;> by_cases h2 : b = e <;> by_cases h3 : c = f <;> simp [h1, h2, h3]
theorem u64_beq (a b : Nat) : ((a : Int) == (b : Int)) = (a == b) := by
  by_cases h : a = b
  · simp [h]
  · have h2 : ¬ (a : Int) = b := by omega
    rw [beq_eq_false_iff_ne.2 h, beq_eq_false_iff_ne.2 h2]
theorem eqIn47 (p q : Prt) (w : World) : (Op.equalIn 10000 47 (.agg #[.string p.text, .int .u64 p.num, .bool p.isNum]) (.agg #[.string q.text, .int .u64 q.num, .bool q.isNum])).run Tryd.prog w = .ok (decide (p = q)) w := by
  have hS : Tryd.prog.underlying 47 = some (.struct (Tryd.prog.fieldsOf 47)) := by kernel_rfl
  have hp : Tryd.prog.stoodInHeld 47 = false := by kernel_rfl
  have t9 := Tryd.underlying9; have t38 := Tryd.underlying38; have t4 := Tryd.underlying4
  rw [run_equalIn_struct w 9999 47 _ _ hS hp]
  simp only [Program.fieldsOf, Tryd.underlying47]
  rw [same_prt, ← same_text, ← u64_beq]
  cases h1 : (p.text.toList == q.text.toList) <;> cases h2 : ((p.num : Int) == (q.num : Int)) <;> cases h3 : (p.isNum == q.isNum) <;> simp [go_sem, *]
theorem guard47 : Tryd.prog.eqGuardType Tryd.prog.depth 47 = false := by kernel_rfl
theorem list_ne_len {ps qs : List Prt} (h : ps.length ≠ qs.length) : decide (ps = qs) = false := decide_eq_false (fun e => h (by rw [e]))
theorem list_eq_of {ps qs : List Prt} (h : ps.length = qs.length) (k : ∀ j, j < ps.length → ps[j]? = qs[j]?) : decide (ps = qs) = true := by
  refine decide_eq_true (List.ext_getElem? fun j => ?_)
  by_cases hj : j < ps.length
  · exact k j hj
  · rw [List.getElem?_eq_none (by omega), List.getElem?_eq_none (by omega)]
theorem list_ne_of {ps qs : List Prt} {j : Nat} {p q : Prt} (hp : ps[j]? = some p) (hq : qs[j]? = some q) (h : p ≠ q) : decide (ps = qs) = false :=
  decide_eq_false (fun e => h (by rw [e, hq] at hp; cases hp; rfl))
set_option maxRecDepth 100000 in
set_option maxHeartbeats 2000000 in
theorem sameParts_any (a b : Option Addr) (ca cb : Nat) (ps qs : List Prt) (w : World) (ha : PartsAt w a ps) (hb : PartsAt w b qs) (hl : ps.length ≤ 1048576) (_hl2 : qs.length ≤ 1048576) :
    Calls Tryd.prog 9 #[.slice a ps.length ca, .slice b qs.length cb] w fun r w' => r = .returned (.bool (decide (ps = qs))) ∧ ∃ n, w' = w.drewN n := by
  have HA : Hid _ := ha
  have HB : Hid _ := hb
  clear ha hb
  by_cases hlen : ps.length = qs.length
  · have hlen' : ((ps.length : Int) == (qs.length : Int)) = true := by rw [hlen]; simp
    have HL : Hid _ := hlen
    obtain ⟨n, hn⟩ : ∃ n, ps.length = n := ⟨_, rfl⟩
    obtain ⟨m, hm⟩ : ∃ m, qs.length = m := ⟨_, rfl⟩
    have HN : Hid _ := hn
    have HM : Hid _ := hm
    rw [hn] at hl hlen'
    rw [hm] at _hl2 hlen'
    rw [hn, hm]
    clear hlen hn hm
    go_enter Tryd.func9, Tryd.ntmps9
    go_wp2_with fail
    go_loopw [13] (fun i wr => ∃ k : Nat, k ≤ n ∧ i = .int .i64 k ∧ Hid (∀ j, j < k → ps[j]? = qs[j]?) ∧ ∃ q, wr = w.drewN q) (fun i _ => n - (intOf i).toNat)
    case atStart => exact ⟨0, by omega, rfl, fun j hj => by omega, 0, rfl⟩
    case round =>
      obtain ⟨k, hk, rfl, HE, q, rfl⟩ := hrel
      by_cases hlt : k < n
      · obtain ⟨x, hx⟩ : ∃ x, ps[k]? = some x := ⟨ps[k]'(by rw [HN.out]; exact hlt), List.getElem?_eq_getElem _⟩
        obtain ⟨y, hy⟩ : ∃ y, qs[k]? = some y := ⟨qs[k]'(by rw [← HL.out, HN.out]; exact hlt), List.getElem?_eq_getElem _⟩
        obtain ⟨g, og, rfl, _, x0, x1, x2⟩ := HA.out k x hx
        obtain ⟨h, oh, rfl, _, y0, y1, y2⟩ := HB.out k y hy
        have HX : Hid _ := hx
        have HY : Hid _ := hy
        clear hx hy
        have hk' : k < m := by have := HL.out; have := HN.out; have := HM.out; omega
        have hg := guard47
        have he := eqIn47 x y
        by_cases hxy : x = y
        · have hd : decide (x = y) = true := decide_eq_true hxy
          have HXY : Hid _ := hxy
          clear hxy
          go_wp2_with fail
          go_quiet (fail)
          go_wp2_with fail
          go_roundw
          case rel =>
            refine ⟨k + 1, by omega, by go_num, ?_, q + nq, (by simp)⟩
            intro j hj
            by_cases hjk : j < k
            · exact HE.out j hjk
            · obtain rfl : j = k := by omega
              rw [HX.out, HY.out, HXY.out]
          case measure => simp [intOf]; omega
        · have hd : decide (x = y) = false := decide_eq_false hxy
          have HXY : Hid _ := hxy
          clear hxy
          go_wp2_with fail
          go_quiet (fail)
          go_wp2_with fail
          go_ret
          refine ⟨?_, q + nq, (by simp)⟩
          rw [list_ne_of HX.out HY.out HXY.out]
          rfl
      · obtain rfl : k = n := by omega
        go_wp2_with fail
        go_ret
        refine ⟨?_, q, rfl⟩
        rw [list_eq_of HL.out (fun j hj => HE.out j (by have := HN.out; omega))]
        rfl
  · have hlen' : ((ps.length : Int) == (qs.length : Int)) = false := by simp; omega
    have HD : Hid _ := list_ne_len hlen
    clear hlen
    go_enter Tryd.func9, Tryd.ntmps9
    go_wp2
    go_ret
    refine ⟨?_, 0, rfl⟩
    rw [HD.out]
    rfl
end Go.Proofs.YtkebddjndljodaaDoor
