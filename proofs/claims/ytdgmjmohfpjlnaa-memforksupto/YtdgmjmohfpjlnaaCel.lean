/-
  The contract of Cells.
-/
import Derived.Test.YtdgmjmohfpjlnaaCol
namespace Go.Proofs.Ytdgmjmohfpjlnaa
open Go.RowKit Go.Shelf
attribute [local go_sem] Oper.semAt_some
theorem obS_lt {W : World} {B g b cap x : Nat} {s : St} (h : MA B W g b cap s) (hx : x + 2 < W.heap.size) : ∀ q, obS g b x q → q < W.heap.size := fun q hq => by
  have := h.lt
  unfold obS at hq
  omega
set_option maxRecDepth 100000 in
set_option maxHeartbeats 4000000 in
theorem cells_any (B g b cap : Nat) (s : St) (w : World) (h : MA B w g b cap s) : Calls Try.prog 19 #[.pointer (some ⟨g, 0, none⟩)] w fun e w' => ∃ v, e = .returned v ∧ w'.ownsRow w.heap.size 33 4 v (scanL ⟨#[]⟩ ⟨#[]⟩ s.E).length (flC (scanL ⟨#[]⟩ ⟨#[]⟩ s.E)) ∧ Below w.heap.size w w' := by
  obtain ⟨i0, hi, hz0, hz1, hz2⟩ := info_parts info33
  obtain ⟨L, hL⟩ : ∃ L, scanL ⟨#[]⟩ ⟨#[]⟩ s.E = L := ⟨_, rfl⟩
  rw [hL]
  have hlen : s.E.length ≤ 1000000000 := by have := h.rep.size; have := h.small; omega
  have hglt := h.lt
  refine callsIn_wide.1 (callsIn_of_wp_marks (F := Fence.wide) (n := 8) Try.func19 rfl trivial ?_ rfl)
  refine wpIn_wide.2 ?_
  simp only [Try.ntmps19, List.size_toArray, List.length_cons, List.length_nil, Nat.reduceAdd, Nat.reduceSub, Array.replicate_succ, Array.replicate_zero, List.push_toArray, List.append_toArray, List.nil_append, List.cons_append]
  go_wp2_with fail
  refine (scan_any (some ⟨g, 0, none⟩) ⟨#[]⟩ ⟨#[]⟩ _).mono ?_
  rintro e w1 ⟨rfl, hw1⟩
  rw [hw1]
  clear hw1 w1
  go_wp2_with fail
  obtain ⟨t, ht⟩ : ∃ t, w.heap.size = t := ⟨_, rfl⟩
  have HB : Hid (Below w.heap.size w ((((w.alloc (.cells #[.slice none 0 0] 27)).alloc (.cells #[.pointer (some ⟨g, 0, none⟩)] 23)).alloc (.cells #[.string ⟨#[]⟩] 9)).alloc (.cells #[.string ⟨#[]⟩] 9))) := ((((Below.refl _ w).alloc (Nat.le_refl _) _).alloc (by simp) _).alloc (by simp; omega) _).alloc (by simp; omega) _
  have c0 : Boxed ((((w.alloc (.cells #[.slice none 0 0] 27)).alloc (.cells #[.pointer (some ⟨g, 0, none⟩)] 23)).alloc (.cells #[.string ⟨#[]⟩] 9)).alloc (.cells #[.string ⟨#[]⟩] 9)) w.heap.size 27 (.slice none 0 0) := (((Boxed.new w 27 (.slice none 0 0)).alloc _).alloc _).alloc _
  have c1 : ((((w.alloc (.cells #[.slice none 0 0] 27)).alloc (.cells #[.pointer (some ⟨g, 0, none⟩)] 23)).alloc (.cells #[.string ⟨#[]⟩] 9)).alloc (.cells #[.string ⟨#[]⟩] 9)).cell? ⟨w.heap.size + 1, 0, none⟩ = some (.pointer (some ⟨g, 0, none⟩)) := by
    have h1 := Boxed.new (w.alloc (.cells #[.slice none 0 0] 27)) 23 (.pointer (some ⟨g, 0, none⟩))
    rw [World.size_alloc] at h1
    exact ((h1.alloc _).alloc _).cell
  have c2 : ((((w.alloc (.cells #[.slice none 0 0] 27)).alloc (.cells #[.pointer (some ⟨g, 0, none⟩)] 23)).alloc (.cells #[.string ⟨#[]⟩] 9)).alloc (.cells #[.string ⟨#[]⟩] 9)).cell? ⟨w.heap.size + 1 + 1, 0, none⟩ = some (.string ⟨#[]⟩) := by
    have h1 := Boxed.new ((w.alloc (.cells #[.slice none 0 0] 27)).alloc (.cells #[.pointer (some ⟨g, 0, none⟩)] 23)) 9 (.string ⟨#[]⟩)
    rw [World.size_alloc, World.size_alloc] at h1
    exact (h1.alloc _).cell
  have c3 : ((((w.alloc (.cells #[.slice none 0 0] 27)).alloc (.cells #[.pointer (some ⟨g, 0, none⟩)] 23)).alloc (.cells #[.string ⟨#[]⟩] 9)).alloc (.cells #[.string ⟨#[]⟩] 9)).cell? ⟨w.heap.size + 1 + 2, 0, none⟩ = some (.string ⟨#[]⟩) := by
    have h1 := Boxed.new (((w.alloc (.cells #[.slice none 0 0] 27)).alloc (.cells #[.pointer (some ⟨g, 0, none⟩)] 23)).alloc (.cells #[.string ⟨#[]⟩] 9)) 9 (.string ⟨#[]⟩)
    rw [World.size_alloc, World.size_alloc, World.size_alloc] at h1
    exact h1.cell
  have hz : ((((w.alloc (.cells #[.slice none 0 0] 27)).alloc (.cells #[.pointer (some ⟨g, 0, none⟩)] 23)).alloc (.cells #[.string ⟨#[]⟩] 9)).alloc (.cells #[.string ⟨#[]⟩] 9)).heap.size = w.heap.size + 4 := by simp
  generalize ((((w.alloc (.cells #[.slice none 0 0] 27)).alloc (.cells #[.pointer (some ⟨g, 0, none⟩)] 23)).alloc (.cells #[.string ⟨#[]⟩] 9)).alloc (.cells #[.string ⟨#[]⟩] 9)) = W2 at *
  have hM2 : MA B W2 g b cap s := h.below HB.out
  have hob := obS_lt (x := w.heap.size + 1) hM2 (by omega)
  have hobt : ¬ obS g b (w.heap.size + 1) w.heap.size := by unfold obS; omega
  rw [ht] at HB c0 c1 c2 c3 hz hglt hob hobt ⊢
  have HOB : Hid _ := hob
  have HOT : Hid _ := hobt
  refine (wpIn_wide (n := 8)).1 ?_
  refine wpIn_rangeFunc_MB rfl (by omega) (gf := 40) (lb := #[.pointer (some ⟨t + 1, 0, none⟩), .pointer (some ⟨t + 1 + 1, 0, none⟩), .pointer (some ⟨t + 1 + 1 + 1, 0, none⟩)]) rfl trivial (enters_of Try.func40 (by kernel_rfl) rfl)
    (scan_seq (8 - 1) B g b cap s (t + 1) ⟨#[]⟩ ⟨#[]⟩ W2 hM2 c1 c2 c3 (by omega)) hob (Below.refl _ _) (fun _ => rfl)
    (fun M pre W => ColM t w t (W2.heap.size + 2) M (obS g b (t + 1)) pre W) (fun _ _ _ _ => False)
    (fun M => col_own (L := fun l => l) (by omega) (by omega)) (fun _ _ _ _ _ _ h _ _ => h)
    (fun W0 hb0 hM0 => ⟨⟨.slice none 0 0, (hb0.block _ (by omega)).trans c0, World.ownsRow_nil _ _ _ _, fun g h => by cases h⟩, by rw [← ht]; rw [← ht] at HB; exact below_on HB.out hb0, Nat.le_refl _⟩)
    (fun c : Cl => .cells #[.string c.key, .int .u64 ((c.seq : Nat) : Int), .string c.val, .bool c.gone] 33)
    (fun c A => { tmps := #[.pointer (some ⟨g, 0, none⟩), undef, .slice none 0 0, .pointer (some ⟨t, 0, none⟩), .pointer (some ⟨A, 0, none⟩), .pointer (some ⟨g, 0, none⟩), .func (.func 40) #[] #[.pointer (some ⟨t + 1, 0, none⟩), .pointer (some ⟨t + 1 + 1, 0, none⟩), .pointer (some ⟨t + 1 + 1 + 1, 0, none⟩)], clV c, undef, undef, undef, undef, undef], defers := [] }) ?assign ?body ?done ?stop
  case assign =>
    intro lp c W K hK
    simp only [clV]
    gi_wp2
    exact hK
  case body =>
    rintro lp M pre c A W hzM hMA hA hcol hlen'
    obtain ⟨⟨v, hv, hr, hm⟩, hbel, hsiz⟩ := hcol
    obtain ⟨va, vc, rfl⟩ := row_form4 hr
    obtain ⟨nL, hnL⟩ : ∃ nL, pre.length = nL := ⟨_, rfl⟩
    rw [hnL] at hr hlen' hv hm
    have c5 : W.cell? ⟨t, 0, none⟩ = some (.slice va nL vc) := hv.cell
    have k0 : W.cell? ⟨A, 0, none⟩ = some (.string c.key) := cell_of_block hA rfl
    have k1 : W.cell? ⟨A, 1, none⟩ = some (.int .u64 ((c.seq : Nat) : Int)) := cell_of_block hA rfl
    have k2 : W.cell? ⟨A, 2, none⟩ = some (.string c.val) := cell_of_block hA rfl
    have k3 : W.cell? ⟨A, 3, none⟩ = some (.bool c.gone) := cell_of_block hA rfl
    have HRX : Hid ((W.alloc (.cells #[.string c.key, .int .u64 ((c.seq : Nat) : Int), .string c.val, .bool c.gone] 33)).ownsRow t 33 4 (.slice va nL vc) nL (flC pre)) := World.ownsRow.alloc hr _
    have HNC : Hid (∀ j u, [Value.string c.key, .int .u64 ((c.seq : Nat) : Int), .string c.val, .bool c.gone][j]? = some u → (W.alloc (.cells #[.string c.key, .int .u64 ((c.seq : Nat) : Int), .string c.val, .bool c.gone] 33)).cell? ((⟨W.heap.size, 0, none⟩ : Addr).add j) = some u) := fun j u hj => by
      rw [addr_addC]
      exact cell_of_block (o := 0 + j) (block_alloc_at _ _) (by rw [Nat.zero_add]; simpa using hj)
    have HST : Hid (∀ w3 v2, w3.ownsRow t 33 4 v2 (nL + 1) (flC pre ++ [Value.string c.key, .int .u64 ((c.seq : Nat) : Int), .string c.val, .bool c.gone]) → (W.alloc (.cells #[.string c.key, .int .u64 ((c.seq : Nat) : Int), .string c.val, .bool c.gone] 33)).grownBy w3 (Value.slice va nL vc).ownBlock → (v2.ownBlock = (Value.slice va nL vc).ownBlock ∨ v2.ownBlock = some (W.alloc (.cells #[.string c.key, .int .u64 ((c.seq : Nat) : Int), .string c.val, .bool c.gone] 33)).heap.size) → _) := fun w3 v2 q1 q2 q3 =>
      colM_step (s := t) (c := c) (by omega) (Nat.le_refl _) (by omega) HOT.out (fun q hq => by have := HOB.out q hq; omega) hnL hzM hsiz hv hr hm hbel ((Below.refl _ W).alloc (Nat.le_refl _) _) q1 q2 q3
    have hsW : t ≤ (W.alloc (.cells #[.string c.key, .int .u64 ((c.seq : Nat) : Int), .string c.val, .bool c.gone] 33)).heap.size := by have := hbel.size; simp; omega
    have hb2 : (nL + 1) * 48 ≤ 140737488355328 := by omega
    have hb1 : nL + 1 ≤ maxLen := by unfold maxLen; omega
    clear hv hr hm hbel hA hMA hsiz hob hobt hM2 c0 c1 c2 c3 h hlen'
    gi_wp2_with (gi_at_builtin; refine wpListIn_append_own_at _ rfl _ _ 27 rfl t 33 i0 (.agg #[.string ByteArray.empty, .int .u64 0, .string ByteArray.empty, .bool false]) 4 48 Try.underlying27 hi hz0 hz1 hz2 rfl (by decide) _ _ _ rfl HRX.out ⟨W.heap.size, 0, none⟩ 1 1 [.string c.key, .int .u64 ((c.seq : Nat) : Int), .string c.val, .bool c.gone] rfl rfl HNC.out (by simp [Value.oneCell']) hb1 hb2 hsW ?_; intro v2 w3 hown2 hg2 _ hat2; obtain ⟨a2, c2', rfl, z5, f5, HE⟩ := HST.out w3 v2 hown2 hg2 hat2; clear hown2 hg2 hat2)
    exact ⟨HE.out.1.from _, HE.out.2.1, HE.out.2.2.1⟩
  case done =>
    rintro D M xs W hD hzM hxs ⟨⟨v, hv, hr, _⟩, hbel, _⟩ hK
    rw [hL] at hxs
    rw [hxs] at hr
    obtain ⟨va, vc, rfl⟩ := row_form4 hr
    have c5 : W.cell? ⟨t, 0, none⟩ = some (.slice va L.length vc) := hv.cell
    have HRW : Hid (W.ownsRow t 33 4 (.slice va L.length vc) L.length (flC L)) := hr
    have HBL : Hid (Below t w W) := hbel
    have HK : Hid (W.heap[D]? = some (.deferred (some []))) := hK
    have HD : Hid (t ≤ D) := by rw [Hid]; omega
    clear hv hr hbel hK hob hobt hM2 c0 c1 c2 c3 h
    go_wp2_with fail
    refine leaves_marks [D] _ (by simp) (fun D' hD' => by rw [List.mem_singleton.1 hD']; exact HK.out) (fun w' e0 e1 e2 => ?_)
    have hne : ∀ q, q < t → w'.heap[q]? = W.heap[q]? := fun q hq => e2 q (fun k => by have := HD.out; rw [List.mem_singleton.1 k] at hq; omega)
    have hrow : w'.ownsRow t 33 4 (.slice va L.length vc) L.length (flC L) := owns_same HRW.out (fun q hq => e2 q (fun k => by
      rcases HRW.out.2 with ⟨ev, _⟩ | ⟨g', cap', cur, ev, _, hh, _⟩
      · rw [ev] at hq; cases hq
      · rw [ev] at hq
        simp only [Value.ownBlock, Option.some.injEq] at hq
        rw [List.mem_singleton.1 k] at hq
        rw [hq, HK.out] at hh
        cases hh))
    refine ⟨.slice va L.length vc, ?_, _, rfl, ?_, ?_⟩
    · simp [results, Try.f19, go_sem]
    · rw [ht]; exact hrow
    · rw [ht]; exact HBL.out.trans ⟨e0.1, e0.2.1, e0.2.2, by omega, hne⟩
  case stop =>
    exact fun _ _ _ _ _ _ _ _ h => h.elim
end Go.Proofs.Ytdgmjmohfpjlnaa
