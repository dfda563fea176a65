/-
  does: what a call of both leaves.
-/
import Derived.Test.YtdgmjmohfpjlnaaLks
import Derived.Test.YtdgmjmohfpjlnaaOpi
namespace Go.Proofs.Ytdgmjmohfpjlnaa
open Go.RowKit Go.Shelf
def opV (o : OpR) : Value := .agg #[.int .i64 o.k, .string o.c.key, .int .u64 ((o.c.seq : Nat) : Int), .string o.c.val, .bool o.c.gone, .string o.tw, .int .i64 o.n]
def opL (o : OpR) : Array Value := #[.int .i64 o.k, .string o.c.key, .int .u64 ((o.c.seq : Nat) : Int), .string o.c.val, .bool o.c.gone, .string o.tw, .int .i64 o.n]
/-- A call in a block. -/
def OB (W : World) (x : Nat) (o : OpR) : Prop := W.heap[x]? = some (.cells (opL o) 35 (0, 0))
theorem OB.cells {W : World} {x : Nat} {o : OpR} (h : OB W x o) : W.cell? ⟨x, 0, none⟩ = some (.int .i64 o.k) ∧ W.cell? ⟨x, 1, none⟩ = some (.string o.c.key) ∧ W.cell? ⟨x, 2, none⟩ = some (.int .u64 ((o.c.seq : Nat) : Int)) ∧ W.cell? ⟨x, 3, none⟩ = some (.string o.c.val) ∧ W.cell? ⟨x, 4, none⟩ = some (.bool o.c.gone) ∧ W.cell? ⟨x, 5, none⟩ = some (.string o.tw) ∧ W.cell? ⟨x, 6, none⟩ = some (.int .i64 o.n) :=
  ⟨cell_of_block h rfl, cell_of_block h rfl, cell_of_block h rfl, cell_of_block h rfl, cell_of_block h rfl, cell_of_block h rfl, cell_of_block h rfl⟩
/-- What a call of both leaves: the pair anew, all else as it was. -/
def DP (z : Nat) (w : World) (k : Nat) (B g b s0 r : Nat) (w' : World) : Prop :=
  ∃ (t' : St) (b' cap' : Nat) (ca' : Option Addr) (cc' : Nat) (ha' : Option Addr) (hc' : Nat), PT z w' (k + 1) t' B g b' cap' s0 r ca' cc' ha' hc' ∧ KG g b r w w' ∧ (b' = b ∨ w.heap.size ≤ b')
theorem DP.same {z : Nat} {W W' : World} {k : Nat} {t : St} {B g b cap s0 r : Nat} {ca : Option Addr} {cc : Nat} {ha : Option Addr} {hc : Nat} (h : PT z W k t B g b cap s0 r ca cc ha hc) (q : Below W.heap.size W W') : DP z W k B g b s0 r W' :=
  ⟨t, b, cap, ca, cc, ha, hc, (h.below q).up (Nat.le_succ _), KG.of q, .inl rfl⟩
set_option maxRecDepth 100000 in
set_option maxHeartbeats 16000000 in
theorem does_none (z k : Nat) (t : St) (B g b cap s0 r : Nat) (ca : Option Addr) (cc : Nat) (ha : Option Addr) (hc : Nat) (o : OpR) (w : World) (h : PT z w k t B g b cap s0 r ca cc ha hc) (hk : k ≤ 2900000) (h0 : o.k ≠ 0) (h1 : o.k ≠ 1) (h2 : o.k ≠ 2) (h3 : o.k ≠ 3) :
    Calls Try.prog 13 #[.pointer (some ⟨g, 0, none⟩), .pointer (some ⟨r, 0, none⟩), opV o] w fun e w' => e = .returned (.bool true) ∧ DP z w k B g b s0 r w' := by
  have hlen := h.len
  have hlt := h.ma.lt
  have hrl := h.ra.lt
  obtain ⟨ok, ⟨ckey, cseq, cval, cgone⟩, otw, on⟩ := o
  simp only [opV] at *
  have g0 : (ok == 0) = false := by simpa using h0
  have g1 : (ok == 1) = false := by simpa using h1
  have g2 : (ok == 2) = false := by simpa using h2
  have g3 : (ok == 3) = false := by simpa using h3
  clear h0 h1 h2 h3
  obtain ⟨x, hx⟩ : ∃ q, w.heap.size = q := ⟨_, rfl⟩
  obtain ⟨W0, hW0⟩ : ∃ V, w.alloc (.cells #[.int .i64 ok, .string ckey, .int .u64 ((cseq : Nat) : Int), .string cval, .bool cgone, .string otw, .int .i64 on] 35) = V := ⟨_, rfl⟩
  have HX : Hid (w.heap.size = x) := hx
  have HB0 : Hid (Below x w W0) := by rw [Hid, ← hW0, ← hx]; exact below_new _ _
  have HO0 : Hid (OB W0 x ⟨ok, ⟨ckey, cseq, cval, cgone⟩, otw, on⟩) := by rw [Hid, ← hW0, ← hx]; exact block_alloc_at _ _
  obtain ⟨o0, o1, o2, o3, o4, o5, o6⟩ := HO0.out.cells
  simp only at o0 o1 o2 o3 o4 o5 o6
  have HP : Hid (∀ V, Below x w V → PT z V k t B g b cap s0 r ca cc ha hc) := fun V hV => h.below (by rw [HX.out]; exact hV)
  have HLT : Hid (g < x ∧ b < x ∧ r < x) := by rw [Hid, ← hx]; exact ⟨hlt.1, hlt.2, hrl⟩
  have HK : Hid (k ≤ 2900000 ∧ t.E.length ≤ k) := ⟨hk, hlen⟩
  have HDP : Hid (∀ V, Below x w V → DP z w k B g b s0 r V) := fun V hV => DP.same h (by rw [HX.out]; exact hV)
  rw [← hW0, ← hx] at o0 o1 o2 o3 o4 o5 o6
  have HW0 : Hid _ := hW0
  clear hW0
  clear h hk hlen hlt hrl hx
  go_enter Try.func13, Try.ntmps13
  go_wp2_with fail
  rw [HW0.out]
  go_ret
  exact ⟨rfl, HDP.out _ HB0.out⟩
set_option maxRecDepth 100000 in
set_option maxHeartbeats 16000000 in
theorem does_look (z k : Nat) (t : St) (B g b cap s0 r : Nat) (ca : Option Addr) (cc : Nat) (ha : Option Addr) (hc : Nat) (o : OpR) (w : World) (h : PT z w k t B g b cap s0 r ca cc ha hc) (hk : k ≤ 2900000) (h0 : o.k = 3) :
    Calls Try.prog 13 #[.pointer (some ⟨g, 0, none⟩), .pointer (some ⟨r, 0, none⟩), opV o] w fun e w' => e = .returned (.bool true) ∧ DP z w k B g b s0 r w' := by
  have hlen := h.len
  have hlt := h.ma.lt
  have hrl := h.ra.lt
  obtain ⟨ok, ⟨ckey, cseq, cval, cgone⟩, otw, on⟩ := o
  simp only [opV] at *
  subst h0
  obtain ⟨x, hx⟩ : ∃ q, w.heap.size = q := ⟨_, rfl⟩
  obtain ⟨W0, hW0⟩ : ∃ V, w.alloc (.cells #[.int .i64 3, .string ckey, .int .u64 ((cseq : Nat) : Int), .string cval, .bool cgone, .string otw, .int .i64 on] 35) = V := ⟨_, rfl⟩
  have HX : Hid (w.heap.size = x) := hx
  have HB0 : Hid (Below x w W0) := by rw [Hid, ← hW0, ← hx]; exact below_new _ _
  have HO0 : Hid (OB W0 x ⟨3, ⟨ckey, cseq, cval, cgone⟩, otw, on⟩) := by rw [Hid, ← hW0, ← hx]; exact block_alloc_at _ _
  obtain ⟨o0, o1, o2, o3, o4, o5, o6⟩ := HO0.out.cells
  simp only at o0 o1 o2 o3 o4 o5 o6
  have HP : Hid (∀ V, Below x w V → PT z V k t B g b cap s0 r ca cc ha hc) := fun V hV => h.below (by rw [HX.out]; exact hV)
  have HLT : Hid (g < x ∧ b < x ∧ r < x) := by rw [Hid, ← hx]; exact ⟨hlt.1, hlt.2, hrl⟩
  have HK : Hid (k ≤ 2900000 ∧ t.E.length ≤ k) := ⟨hk, hlen⟩
  have HDP : Hid (∀ V, Below x w V → DP z w k B g b s0 r V) := fun V hV => DP.same h (by rw [HX.out]; exact hV)
  rw [← hW0, ← hx] at o0 o1 o2 o3 o4 o5 o6
  have HW0 : Hid _ := hW0
  clear hW0
  clear h hk hlen hlt hrl hx
  go_enter Try.func13, Try.ntmps13
  go_wp2_with fail
  rw [HW0.out]
  refine (looks_any z k t B g b cap s0 r ca cc ha hc W0 (HP.out _ HB0.out) (by have := HK.out; omega)).mono ?_
  rintro e w1 ⟨rfl, b1⟩
  have HB1 : Hid (Below x w w1) := HB0.out.trans (b1.mono (le_s HX.out HB0.out))
  clear b1
  go_wp2_with fail
  go_ret
  exact ⟨rfl, HDP.out _ HB1.out⟩
end Go.Proofs.Ytdgmjmohfpjlnaa
