/-
  The contract of next: the next record of a log, or how the log ends.
-/
import Derived.Test.YtefigcnfcbdecaaFindAll
import Derived.Deep.LoopGhost
import Derived.Deep.CutRange
namespace Go.Proofs.Ytefigcnfcbdecaa
open Go.RowKit
/-- All that was there stands, but block x. -/
structure Kept (x : Nat) (w w' : World) : Prop where
  os : w'.os = w.os
  tape : w'.tape = w.tape
  output : w'.output = w.output
  size : w.heap.size ≤ w'.heap.size
  block : ∀ b, b < w.heap.size → b ≠ x → w'.heap[b]? = w.heap[b]?
section
variable {x : Nat} {w w' w'' : World}
theorem Kept.refl (x : Nat) (w : World) : Kept x w w := ⟨rfl, rfl, rfl, Nat.le_refl _, fun _ _ _ => rfl⟩
theorem Kept.trans (h : Kept x w w') (k : Kept x w' w'') : Kept x w w'' :=
  ⟨k.os.trans h.os, k.tape.trans h.tape, k.output.trans h.output, Nat.le_trans h.size k.size, fun b hb hx => (k.block b (Nat.lt_of_lt_of_le hb h.size) hx).trans (h.block b hb hx)⟩
theorem Kept.of_below {B : Nat} (hB : w.heap.size ≤ B) (h : Below B w w') : Kept x w w' := ⟨h.os, h.tape, h.output, h.size, fun b hb _ => h.block b (Nat.lt_of_lt_of_le hb hB)⟩
theorem Kept.below {B : Nat} (h : Kept x w w') (hB : B ≤ x) (hs : B ≤ w.heap.size) : Below B w w' := ⟨h.os, h.tape, h.output, h.size, fun b hb => h.block b (Nat.lt_of_lt_of_le hb hs) (by omega)⟩
theorem Kept.drew (h : Kept x w w') : Kept x w w'.drew := ⟨h.os, h.tape, h.output, h.size, h.block⟩
theorem Kept.setCell (h : Kept x w w') (o : Nat) (v : Value) : Kept x w (w'.setCell ⟨x, o, none⟩ v) :=
  ⟨h.os, h.tape, h.output, by simpa using h.size, fun b hb hx => (Below.heap_setCell _ _ _ _ hx).trans (h.block b hb hx)⟩
theorem BytesAt.kept {a : Option Addr} {l : List UInt8} (h : BytesAt w a l) (hx : l ≠ [] → ∀ ad, a = some ad → ad.block ≠ x) (k : Kept x w w') : BytesAt w' a l := by
  intro j c hj
  obtain ⟨b, off, ha, hb, h0⟩ := h j c hj
  refine ⟨b, off, ha, Nat.lt_of_lt_of_le hb k.size, ?_⟩
  have := k.block b hb (hx (fun e => by rw [e] at hj; simp at hj) _ ha)
  simp only [World.cell?] at h0 ⊢
  rw [this]
  exact h0
end
/-- The next record, or how the log ends; so many fragments at most. -/
def nextR (l : List UInt8) : Nat → Nat → Bool → List UInt8 → Nat ⊕ (List UInt8 × Nat)
  | 0, _, _, _ => .inl 0
  | g + 1, at_, begun, acc => match findL l at_ begun with
    | .inl e => .inl e
    | .inr (k, s, n) => if k = 1 ∨ k = 4 then .inr (acc ++ (l.drop s).take n, s + n) else nextR l g (s + n) true (acc ++ (l.drop s).take n)
theorem find_bounds {l : List UInt8} {at_ : Nat} {begun : Bool} {k : UInt8} {s n : Nat} (h : findL l at_ begun = .inr (k, s, n)) : at_ + 7 ≤ s ∧ s + n ≤ l.length := by
  unfold findL findG at h
  repeat' split at h
  all_goals first | (cases h; done) | skip
  simp only [Sum.inr.injEq, Prod.mk.injEq] at h
  obtain ⟨_, rfl, rfl⟩ := h
  rename_i h6 h7 _
  rw [List.length_drop] at h6
  omega
theorem find_err {l : List UInt8} {at_ : Nat} {begun : Bool} {e : Nat} (h : findL l at_ begun = .inl e) : 1 ≤ e ∧ e ≤ 3 := by
  unfold findL findG at h
  repeat' split at h
  all_goals first | (cases h; done) | (simp only [Sum.inl.injEq] at h; omega)
/-- What next tells, in memory. -/
def NTold (x : Nat) (sl : Value) (why : Int) (w' : World) (r : Ending) : Nat ⊕ (List UInt8 × Nat) → Prop
  | .inl e => r = .returned (.tuple #[.string ⟨#[]⟩, .bool false]) ∧ ∃ at' : Nat, w'.heap[x]? = some (.cells #[sl, .int .i64 at', .int .i64 (e : Nat)] 62 (0, 0))
  | .inr (rec, at') => r = .returned (.tuple #[.string ⟨rec.toArray⟩, .bool true]) ∧ w'.heap[x]? = some (.cells #[sl, .int .i64 (at' : Nat), .int .i64 why] 62 (0, 0))
theorem conv_row {W : World} {base : Nat} {bs : List UInt8} {a : Option Addr} {cap : Nat} (h : W.ownsRow base 5 1 (.slice a bs.length cap) bs.length (bl bs)) :
    (convert 33 9 (.slice a bs.length cap)).run Try.prog W = .ok (.string ⟨bs.toArray⟩) W := by
  rcases h.2 with ⟨hv, hn⟩ | ⟨g, cap', cur, hv, _⟩
  · have hb : bs = [] := List.eq_nil_of_length_eq_zero hn
    subst hb
    simp only [Value.slice.injEq] at hv
    obtain ⟨rfl, _, rfl⟩ := hv
    exact run_convert_bytes_nil W 33 5 Try.underlying33 Try.underlying5 0 0 9 Try.underlying9
  · simp only [Value.slice.injEq] at hv
    obtain ⟨rfl, _, rfl⟩ := hv
    refine run_convert_bytes_back W 33 9 5 _ _ bs Try.underlying33 Try.underlying5 Try.underlying9 (fun j hj => ?_)
    exact h.cells rfl j _ (by simp [bl, hj])
theorem form_of_row {w : World} {base : Nat} {v : Value} {n : Nat} {xs : List Value} (h : w.ownsRow base 5 1 v n xs) : ∃ a cap, v = .slice a n cap := by
  rcases h.2 with ⟨rfl, hn⟩ | ⟨g, cap, cur, rfl, _⟩
  · exact ⟨none, 0, by rw [hn]⟩
  · exact ⟨_, _, rfl⟩
theorem cells_of_block {w : World} {x : Nat} {c : Array Value} {t : TypeId} {f : Nat × Nat} (h : w.heap[x]? = some (.cells c t f)) (j : Nat) : w.cell? ⟨x, j, none⟩ = c[j]? := by simp [World.cell?, h]
theorem told_shift {a : Option Addr} {l : List UInt8} {w W w' : World} {r : Ending} {f : Nat ⊕ (UInt8 × Nat × Nat)} (k : Below w.heap.size w W) (h : Told a l W w' r f) : Told a l w w' r f ∧ Below W.heap.size W w' := by
  cases f with
  | inl e => exact ⟨⟨h.1, k.trans (h.2.mono k.size)⟩, h.2⟩
  | inr f =>
    obtain ⟨kk, s, n⟩ := f
    obtain ⟨pa, pc, e, hb, ha, B⟩ := h
    exact ⟨⟨pa, pc, e, hb, ha, k.trans (B.mono k.size)⟩, B⟩
theorem owns_same {W W' : World} {base : Nat} {e : TypeId} {size : Nat} {v : Value} {n : Nat} {xs : List Value} (h : W.ownsRow base e size v n xs) (k : ∀ g, v.ownBlock = some g → W'.heap[g]? = W.heap[g]?) : W'.ownsRow base e size v n xs := by
  refine ⟨h.1, ?_⟩
  rcases h.2 with h0 | ⟨g, cap, cur, hv, hB, hh, rest⟩
  · exact Or.inl h0
  · exact Or.inr ⟨g, cap, cur, hv, hB, (k g (by rw [hv]; rfl)).trans hh, rest⟩
theorem cell_of_heap {W W' : World} {b : Nat} (h : W'.heap[b]? = W.heap[b]?) (o : Nat) : W'.cell? ⟨b, o, none⟩ = W.cell? ⟨b, o, none⟩ := by simp only [World.cell?]; rw [h]
set_option maxRecDepth 100000 in
set_option maxHeartbeats 8000000 in
theorem next_any (x : Nat) (a : Option Addr) (cap : Nat) (l : List UInt8) (at0 : Nat) (why : Int) (w : World) (hx : w.heap[x]? = some (.cells #[.slice a l.length cap, .int .i64 at0, .int .i64 why] 62 (0, 0))) (h : BytesAt w a l) (hne : l ≠ [] → ∀ ad, a = some ad → ad.block ≠ x) (hat : at0 ≤ l.length) (hN : l.length ≤ 140737488355328) (hcap : l.length ≤ cap) (hc0 : a = none → cap = 0) (hsp : ∀ ad, a = some ad → ad.spot = none ∨ cap = 0) :
    Calls Try.prog 34 #[.pointer (some ⟨x, 0, none⟩)] w fun r w' => Kept x w w' ∧ NTold x (.slice a l.length cap) why w' r (nextR l (l.length + 1) at0 false []) := by
  obtain ⟨res, hres⟩ : ∃ res, nextR l (l.length + 1) at0 false [] = res := ⟨_, rfl⟩
  have HF : Hid (∀ (W : World) (t : Nat) (b : Bool), Kept x w W → t ≤ l.length → Calls Try.prog 38 #[.slice a l.length cap, .int .i64 t, .bool b] W fun r w' => Told a l W w' r (findL l t b)) := fun W t b k ht => find_any a cap l t b W (h.kept hne k) ht hN hcap hc0 hsp
  have HS0 : Hid (nextR l (l.length + 1) at0 false [] = res) := hres
  obtain ⟨i0, hi, hz0, hz1, hz2⟩ := info_parts info5
  rw [hres]
  clear hres
  have hxs : x < w.heap.size := (Array.getElem?_eq_some_iff.1 hx).1
  obtain ⟨N, hNd⟩ : ∃ N, l.length = N := ⟨_, rfl⟩
  have HN : Hid _ := hNd
  rw [hNd] at hx HF hat hN hcap HS0 ⊢
  clear hNd
  go_enter Try.func34, Try.ntmps34
  go_wp2_with fail
  go_loopg [4, 5] (N + 1) (fun g r4 r5 wr => ∃ (t : Nat) (bg : Bool) (acc : List UInt8), r5 = .bool bg ∧ t ≤ N ∧ N < t + g ∧ acc.length ≤ t ∧ wr.heap[x]? = some (.cells #[.slice a N cap, .int .i64 t, .int .i64 why] 62 (0, 0)) ∧ wr.ownsRow w.heap.size 5 1 r4 acc.length (bl acc) ∧ Kept x w wr ∧ Hid (nextR l g t bg acc = res))
  case atStart => exact ⟨at0, false, [], rfl, hat, by omega, Nat.zero_le _, hx, World.ownsRow_nil _ _ _ _, Kept.refl _ _, HS0⟩
  case round =>
    obtain ⟨t, bg, acc, rfl, ht, hg, hacc, hb, hown, hk, HR⟩ := hrel
    obtain ⟨g', rfl⟩ : ∃ g', gk = g' + 1 := ⟨gk - 1, by omega⟩
    have cx0 := cells_of_block hb 0
    have cx1 := cells_of_block hb 1
    simp only [List.getElem?_toArray, List.getElem?_cons_zero, List.getElem?_cons_succ] at cx0 cx1
    have HFr : Hid (∀ W : World, Below wr.heap.size wr W → Calls Try.prog 38 #[.slice a N cap, .int .i64 t, .bool bg] W fun r w' => Told a l W w' r (findL l t bg)) := fun W k => HF.out W t bg (hk.trans (Kept.of_below (Nat.le_refl _) k)) ht
    have hxr : x < wr.heap.size := Nat.lt_of_lt_of_le hxs hk.size
    have HFa : Hid (Calls Try.prog 38 #[.slice a N cap, .int .i64 t, .bool bg] ((wr.alloc (.cells #[.int .u8 0, .slice none 0 0, .int .i64 0] 82)).drew) fun r w6 => Told a l wr w6 r (findL l t bg) ∧ (w6.cell? ⟨wr.heap.size, 0, none⟩ = some (.int .u8 0) ∧ w6.cell? ⟨wr.heap.size, 1, none⟩ = some (.slice none 0 0) ∧ w6.cell? ⟨wr.heap.size, 2, none⟩ = some (.int .i64 0) ∧ ∀ j, w6.frozen? ⟨wr.heap.size, j, none⟩ = false)) := by
      have B0 : Below wr.heap.size wr ((wr.alloc (.cells #[.int .u8 0, .slice none 0 0, .int .i64 0] 82)).drew) := ((Below.refl _ _).alloc (Nat.le_refl _) _).drew
      refine (HFr.out _ B0).mono ?_
      intro r w6 hT
      obtain ⟨hT', b6⟩ := told_shift B0 hT
      have hlt : wr.heap.size < ((wr.alloc (.cells #[.int .u8 0, .slice none 0 0, .int .i64 0] 82)).drew).heap.size := by simp
      exact ⟨hT', (b6.cell (p := ⟨wr.heap.size, 0, none⟩) hlt).trans (by go_simp), (b6.cell (p := ⟨wr.heap.size, 1, none⟩) hlt).trans (by go_simp), (b6.cell (p := ⟨wr.heap.size, 2, none⟩) hlt).trans (by go_simp), fun j => (b6.frozen (p := ⟨wr.heap.size, j, none⟩) hlt).trans (by go_simp)⟩
    have HFb : Hid (Calls Try.prog 38 #[.slice a N cap, .int .i64 t, .bool bg] wr.drew fun r w6 => Told a l wr w6 r (findL l t bg)) := by
      refine (HFr.out _ (Below.refl _ _).drew).mono ?_
      intro r w6 hT
      exact (told_shift (Below.refl _ _).drew hT).1
    clear HFr
    have HRR : Hid (nextR l (g' + 1) t bg acc = res) := HR
    clear HR
    cases hf : findL l t bg with
    | inl e =>
      rw [hf] at HFa HFb
      have HE : Hid (res = .inl e) := by rw [Hid, ← HRR.out, nextR, hf]
      have he := find_err hf
      have he0 : ((e : Int) != 0) = true := by simp; omega
      clear hf
      go_upto_region 4 with fail
      go_cut [6, 7] from 8 to 45 (fun s6 s7 wc => s7 = .int .i64 (e : Nat) ∧ Below wr.heap.size wr wc)
      case first =>
        go_region_with (first | (go_at_call 38; refine Calls.mono HFb.out ?_; rintro r w6 ⟨rfl, b6⟩; simp only [errV]) | (go_at_call 38; refine Calls.mono HFa.out ?_; rintro r w6 ⟨⟨rfl, b6⟩, k0, k1, k2, kz⟩; simp only [errV]))
        all_goals go_wp2_with fail
        all_goals go_meet
        all_goals
          refine ⟨rfl, ?_⟩
          first
            | exact b6
            | exact b6.alloc (Nat.le_refl _) _
            | exact (b6.alloc b6.size _)
            | exact ((b6.setCell (p := ⟨wr.heap.size, 0, none⟩) (Nat.le_refl _) _).setCell (p := ⟨wr.heap.size, 1, none⟩) (Nat.le_refl _) _).setCell (p := ⟨wr.heap.size, 2, none⟩) (Nat.le_refl _) _
      case rest =>
        obtain ⟨rfl, B⟩ := hcut
        have hb' := (B.block x hxr).trans hb
        have cx2 := cells_of_block hb' 2
        simp only [List.getElem?_toArray, List.getElem?_cons_zero, List.getElem?_cons_succ] at cx2
        have fx : wc.frozen? ⟨x, 2, none⟩ = false := by simp [World.frozen?, hb']
        have HST : Hid ((wc.setCell ⟨x, 2, none⟩ (.int .i64 (e : Nat))).heap[x]? = some (.cells #[.slice a N cap, .int .i64 t, .int .i64 (e : Nat)] 62 (0, 0))) := by
          rw [Hid, block_set hb']
          rfl
        have HKK : Hid (Kept x w (wc.setCell ⟨x, 2, none⟩ (.int .i64 (e : Nat)))) := (hk.trans (Kept.of_below (Nat.le_refl _) B)).setCell _ _
        clear hb'
        go_wp2_with fail
        go_ret2
        refine ⟨HKK.out, ?_⟩
        rw [HE.out]
        exact ⟨rfl, t, HST.out⟩
    | inr f =>
      obtain ⟨k, s, n⟩ := f
      obtain ⟨hs1, hs2⟩ := find_bounds hf
      rw [HN.out] at hs2
      obtain ⟨part, hpart⟩ : ∃ part, (l.drop s).take n = part := ⟨_, rfl⟩
      have hpl : part.length = n := by rw [← hpart, List.length_take, List.length_drop, HN.out]; omega
      have HE : Hid (res = if k = 1 ∨ k = 4 then .inr (acc ++ part, s + n) else nextR l g' (s + n) true (acc ++ part)) := by rw [Hid, ← HRR.out, nextR, hf, ← hpart]
      rw [hf] at HFa HFb
      simp only [Told, hpart] at HFa HFb
      clear hf
      go_upto_region 4 with fail
      go_cut [6, 7] from 8 to 45 (fun s6 s7 wc => s7 = .int .i64 0 ∧ ∃ fb pa pc, s6 = .pointer (some ⟨fb, 0, none⟩) ∧ wr.heap.size ≤ fb ∧ wc.cell? ⟨fb, 0, none⟩ = some (.int .u8 (k.toNat : Nat)) ∧ wc.cell? ⟨fb, 1, none⟩ = some (.slice pa n pc) ∧ wc.cell? ⟨fb, 2, none⟩ = some (.int .i64 ((s : Int) + (n : Int))) ∧ (∀ W0, BytesAt W0 a l → BytesAt W0 pa part) ∧ (∃ ad, pa = some ad) ∧ Below wr.heap.size wr wc)
      case first =>
        go_region_with (first | (go_at_call 38; refine Calls.mono HFb.out ?_; rintro r w6 ⟨pa, pc, rfl, hsub, hpa, b6⟩) | (go_at_call 38; refine Calls.mono HFa.out ?_; rintro r w6 ⟨⟨pa, pc, rfl, hsub, hpa, b6⟩, k0, k1, k2, kz⟩))
        all_goals go_wp2_with fail
        all_goals go_meet
        all_goals
          refine ⟨rfl, _, pa, pc, rfl, ?_, ?_, ?_, ?_, hsub, hpa, ?_⟩
          · first
              | exact b6.size
              | exact Nat.le_refl _
          · go_simp
          · go_simp
          · go_simp
          · first
              | exact b6.alloc (Nat.le_refl _) _
              | exact (b6.alloc b6.size _)
              | exact ((b6.setCell (p := ⟨wr.heap.size, 0, none⟩) (Nat.le_refl _) _).setCell (p := ⟨wr.heap.size, 1, none⟩) (Nat.le_refl _) _).setCell (p := ⟨wr.heap.size, 2, none⟩) (Nat.le_refl _) _
      case rest =>
        obtain ⟨rfl, fb, pa, pc, rfl, hfb, d0, d1, d2, hsub, ⟨ad, rfl⟩, B⟩ := hcut
        have hkc : Kept x w wc := hk.trans (Kept.of_below (Nat.le_refl _) B)
        have hbc := (B.block x hxr).trans hb
        have hpb : BytesAt wc (some ad) part := hsub wc (h.kept hne hkc)
        have hownc : wc.ownsRow w.heap.size 5 1 u4 acc.length (bl acc) := owns_same hown (fun g hg => B.block g (hown.lt g hg).2)
        have hnews := cells_of_bytes hpb
        have hcl : (bl part).length = n * 1 := by rw [bl_len, hpl, Nat.mul_one]
        have hfbx : fb ≠ x := by omega
        have hfo : ∀ g, u4.ownBlock = some g → g ≠ fb ∧ g ≠ x := fun g hg => by have := hown.lt g hg; omega
        have HOC : Hid _ := hownc
        have HNW : Hid _ := hnews
        clear hpb hownc hnews hsub
        go_upto_region 9 with (at_builtin; refine wpList_append_own _ rfl (.tmp 27) (.tmp 29) 33 rfl w.heap.size 5 i0 (.int .u8 0) 1 1 Try.underlying33 hi hz0 hz1 hz2 rfl (by decide) _ _ _ rfl HOC.out ad n pc (bl part) rfl hcl HNW.out (bl_one _) (by unfold maxLen; omega) (by omega) (Nat.le_trans hk.size B.size) ?_; intro v2 w2 hown2 hg2 hnn)
        have hxc : x < wc.heap.size := Nat.lt_of_lt_of_le hxr B.size
        have hk2 : Kept x w w2 := ⟨hg2.os.trans hkc.os, hg2.tape.trans hkc.tape, hg2.output.trans hkc.output, Nat.le_trans hkc.size hg2.size, fun b hb hbx => (hg2.block b (Nat.lt_of_lt_of_le hb hkc.size) (fun e => by have := (hown.lt b e.symm).1; omega)).trans (hkc.block b hb hbx)⟩
        have hb2 := (hg2.block x hxc (fun e => (hfo x e.symm).2 rfl)).trans hbc
        have e0 : w2.cell? ⟨fb, 0, none⟩ = some (.int .u8 (k.toNat : Nat)) := hg2.cell d0 (fun e => (hfo fb e.symm).1 rfl)
        have e2 : w2.cell? ⟨fb, 2, none⟩ = some (.int .i64 ((s : Int) + (n : Int))) := hg2.cell d2 (fun e => (hfo fb e.symm).1 rfl)
        have hb2' := hb2
        have cx1' := cells_of_block hb2 1
        simp only [List.getElem?_toArray, List.getElem?_cons_zero, List.getElem?_cons_succ] at cx1'
        have fx : w2.frozen? ⟨x, 1, none⟩ = false := by simp [World.frozen?, hb2]
        have HST : Hid ((w2.setCell ⟨x, 1, none⟩ (.int .i64 ((s : Int) + (n : Int)))).heap[x]? = some (.cells #[.slice a N cap, .int .i64 ((s + n : Nat) : Int), .int .i64 why] 62 (0, 0))) := by
          rw [Hid, block_set hb2, show ((s + n : Nat) : Int) = (s : Int) + (n : Int) by omega]
          rfl
        have e0' : (w2.setCell ⟨x, 1, none⟩ (.int .i64 ((s : Int) + (n : Int)))).cell? ⟨fb, 0, none⟩ = some (.int .u8 (k.toNat : Nat)) := (cell_of_heap (Below.heap_setCell _ _ _ _ hfbx) 0).trans e0
        have HK3 : Hid (Kept x w (w2.setCell ⟨x, 1, none⟩ (.int .i64 ((s : Int) + (n : Int))))) := hk2.setCell _ _
        have hlen : (acc ++ part).length = acc.length + n := by rw [List.length_append, hpl]
        obtain ⟨a2, cap2, rfl⟩ := form_of_row hown2
        have hown3 : (w2.setCell ⟨x, 1, none⟩ (.int .i64 ((s : Int) + (n : Int)))).ownsRow w.heap.size 5 1 (.slice a2 (acc ++ part).length cap2) (acc ++ part).length (bl (acc ++ part)) := by
          rw [hlen, show bl (acc ++ part) = bl acc ++ bl part by simp [bl]]
          exact owns_same hown2 (fun g hg => Below.heap_setCell _ _ _ _ (show g ≠ x from fun e => by have := (hown2.lt g hg).1; omega))
        have hcv := conv_row hown3
        rw [hlen] at hcv
        have HO3 : Hid _ := hown3
        clear hb2 hb2' hown2 hown3 hg2 hnn hk2 HOC HNW hlen d0 d1 d2 hbc hkc hown hb cx0 cx1 hfo B
        have HDN : ∀ z, z = res → Hid (NTold x (.slice a N cap) why (w2.setCell ⟨x, 1, none⟩ (.int .i64 ((s : Int) + (n : Int)))) (.returned (.tuple #[.string ⟨(acc ++ part).toArray⟩, .bool true])) (.inr (acc ++ part, s + n))) := fun _ _ => ⟨rfl, HST.out⟩
        by_cases hk1 : k = 1
        · have t1 : ((k.toNat : Int) == 1) = true := by rw [hk1]; rfl
          have HRS : Hid (res = .inr (acc ++ part, s + n)) := by rw [Hid, HE.out, if_pos (Or.inl hk1)]
          clear hk1
          go_wp2_with fail
          go_ret2
          exact ⟨HK3.out, by rw [HRS.out]; exact (HDN _ rfl).out⟩
        · have t1 : ((k.toNat : Int) == 1) = false := by
            simp
            exact fun e => hk1 (UInt8.toNat_inj.1 (by show k.toNat = 1; omega))
          by_cases hk4 : k = 4
          · have t4 : ((k.toNat : Int) == 4) = true := by rw [hk4]; rfl
            have HRS : Hid (res = .inr (acc ++ part, s + n)) := by rw [Hid, HE.out, if_pos (Or.inr hk4)]
            clear hk1 hk4
            go_wp2_with fail
            go_ret2
            exact ⟨HK3.out, by rw [HRS.out]; exact (HDN _ rfl).out⟩
          · have t4 : ((k.toNat : Int) == 4) = false := by
              simp
              exact fun e => hk4 (UInt8.toNat_inj.1 (by show k.toNat = 4; omega))
            have HRS : Hid (nextR l g' (s + n) true (acc ++ part) = res) := by rw [Hid, HE.out, if_neg (fun e => e.elim hk1 hk4)]
            have HLN : Hid ((acc ++ part).length = acc.length + n) := by rw [Hid, List.length_append, hpl]
            clear hk1 hk4 hcv
            go_wp2_with fail
            go_roundg g'
            case measure => omega
            case rel =>
              refine ⟨s + n, true, acc ++ part, rfl, hs2, by omega, by rw [HLN.out]; omega, HST.out, ?_, HK3.out, HRS⟩
              have := HO3.out
              rw [HLN.out] at this ⊢
              exact this
end Go.Proofs.Ytefigcnfcbdecaa
