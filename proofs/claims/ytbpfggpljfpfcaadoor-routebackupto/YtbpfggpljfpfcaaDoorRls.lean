/-
  The contract of rules.
-/
import Derived.Test.YtbpfggpljfpfcaaDoorRul
namespace Go.Proofs.YtbpfggpljfpfcaaDoor
open Go.RowKit
def partF : Nat → Option Nat
  | 1 => some 49
  | 2 => some 50
  | _ => none
/-- A rule of the table whose path lies in block b. -/
def rmOf (x : Rule × Nat) : RM := ⟨bOf x.1.meth, x.2, x.1.path.length, x.1.kind, x.1.me, partF x.1.part, if x.1.kind = 8 then 54 else 52, if x.1.kind = 8 then 55 else 53⟩
def PathAt (W : World) (x : Rule × Nat) : Prop := TextsAt W (some ⟨x.2, 0, none⟩) (x.1.path.map bOf)
theorem PathAt.below {W W' : World} {x : Rule × Nat} (h : PathAt W x) (B : Below W.heap.size W W') : PathAt W' x := TextsAt.below h B
def flR (l : List (Rule × Nat)) : List Value := l.flatMap (fun x => ruL (rmOf x))
/-- The table, in block g. -/
def TabR (W : World) (g : Nat) (l : List (Rule × Nat)) : Prop := W.heap[g]? = some (.cells (flR l).toArray 50 (0, 0)) ∧ l.map Prod.fst = rulesT ∧ ∀ x ∈ l, PathAt W x
theorem path_new (W : World) (l : List ByteArray) : TextsAt (W.alloc (.cells (strV l).toArray 9)) (some ⟨W.heap.size, 0, none⟩) l := texts_all (block_alloc_at _ _)
theorem below_new (W : World) (o : Obj) : Below W.heap.size W (W.alloc o) := (Below.refl _ _).alloc (Nat.le_refl _) _
theorem below_call {W W' : World} {o : Obj} (b : Below (W.alloc o).heap.size (W.alloc o) W') : Below W.heap.size W W' := (below_new W o).trans (b.mono (by simp))
theorem below_on {a b c : World} (h1 : Below a.heap.size a b) (h2 : Below b.heap.size b c) : Below a.heap.size a c := h1.trans (h2.mono h1.size)
theorem rules_end {w w0 w1 w2 w3 w4 w5 w6 w7 w8 w9 : World} (p0 : TextsAt w0 (some ⟨w.heap.size, 0, none⟩) ((rul 0).path.map bOf)) (p1 : TextsAt w1 (some ⟨w0.heap.size, 0, none⟩) ((rul 1).path.map bOf)) (p2 : TextsAt w2 (some ⟨w1.heap.size, 0, none⟩) ((rul 2).path.map bOf)) (p3 : TextsAt w3 (some ⟨w2.heap.size, 0, none⟩) ((rul 3).path.map bOf)) (p4 : TextsAt w4 (some ⟨w3.heap.size, 0, none⟩) ((rul 4).path.map bOf)) (p5 : TextsAt w5 (some ⟨w4.heap.size, 0, none⟩) ((rul 5).path.map bOf)) (p6 : TextsAt w6 (some ⟨w5.heap.size, 0, none⟩) ((rul 6).path.map bOf)) (p7 : TextsAt w7 (some ⟨w6.heap.size, 0, none⟩) ((rul 7).path.map bOf)) (p8 : TextsAt w8 (some ⟨w7.heap.size, 0, none⟩) ((rul 8).path.map bOf)) (p9 : TextsAt w9 (some ⟨w8.heap.size, 0, none⟩) ((rul 9).path.map bOf)) (b0 : Below w.heap.size w w0) (b1 : Below w0.heap.size w0 w1) (b2 : Below w1.heap.size w1 w2) (b3 : Below w2.heap.size w2 w3) (b4 : Below w3.heap.size w3 w4) (b5 : Below w4.heap.size w4 w5) (b6 : Below w5.heap.size w5 w6) (b7 : Below w6.heap.size w6 w7) (b8 : Below w7.heap.size w7 w8) (b9 : Below w8.heap.size w8 w9) : TabR (w9.alloc (.cells (flR [(rul 0, w.heap.size), (rul 1, w0.heap.size), (rul 2, w1.heap.size), (rul 3, w2.heap.size), (rul 4, w3.heap.size), (rul 5, w4.heap.size), (rul 6, w5.heap.size), (rul 7, w6.heap.size), (rul 8, w7.heap.size), (rul 9, w8.heap.size)]).toArray 50)) w9.heap.size [(rul 0, w.heap.size), (rul 1, w0.heap.size), (rul 2, w1.heap.size), (rul 3, w2.heap.size), (rul 4, w3.heap.size), (rul 5, w4.heap.size), (rul 6, w5.heap.size), (rul 7, w6.heap.size), (rul 8, w7.heap.size), (rul 9, w8.heap.size)] ∧ Below w.heap.size w (w9.alloc (.cells (flR [(rul 0, w.heap.size), (rul 1, w0.heap.size), (rul 2, w1.heap.size), (rul 3, w2.heap.size), (rul 4, w3.heap.size), (rul 5, w4.heap.size), (rul 6, w5.heap.size), (rul 7, w6.heap.size), (rul 8, w7.heap.size), (rul 9, w8.heap.size)]).toArray 50)) := by
  have e10 := below_new w9 (.cells (flR [(rul 0, w.heap.size), (rul 1, w0.heap.size), (rul 2, w1.heap.size), (rul 3, w2.heap.size), (rul 4, w3.heap.size), (rul 5, w4.heap.size), (rul 6, w5.heap.size), (rul 7, w6.heap.size), (rul 8, w7.heap.size), (rul 9, w8.heap.size)]).toArray 50)
  have e9 := below_on b9 e10
  have e8 := below_on b8 e9
  have e7 := below_on b7 e8
  have e6 := below_on b6 e7
  have e5 := below_on b5 e6
  have e4 := below_on b4 e5
  have e3 := below_on b3 e4
  have e2 := below_on b2 e3
  have e1 := below_on b1 e2
  refine ⟨⟨block_alloc_at _ _, rfl, ?_⟩, below_on b0 e1⟩
  intro x hx
  simp only [List.mem_cons, List.not_mem_nil, or_false] at hx
  rcases hx with rfl | rfl | rfl | rfl | rfl | rfl | rfl | rfl | rfl | rfl
  · exact PathAt.below (W := w0) p0 e1
  · exact PathAt.below (W := w1) p1 e2
  · exact PathAt.below (W := w2) p2 e3
  · exact PathAt.below (W := w3) p3 e4
  · exact PathAt.below (W := w4) p4 e5
  · exact PathAt.below (W := w5) p5 e6
  · exact PathAt.below (W := w6) p6 e7
  · exact PathAt.below (W := w7) p7 e8
  · exact PathAt.below (W := w8) p8 e9
  · exact PathAt.below (W := w9) p9 e10
set_option maxRecDepth 40000 in
set_option maxHeartbeats 16000000 in
theorem rules_any (w : World) : Calls Tryd.prog 36 #[] w fun e w' => ∃ g l, e = .returned (.slice (some ⟨g, 0, none⟩) 10 10) ∧ TabR w' g l ∧ Below w.heap.size w w' := by
  go_enter Tryd.func36, Tryd.ntmps36
  go_wp2_with fail
  refine (bare_any ⟨⟨#[80, 79, 83, 84]⟩, w.heap.size, 1, 1, false, none, 52, 53⟩ rfl rfl _).mono ?_
  rintro e w0 ⟨rfl, b⟩
  have HP0 : Hid (TextsAt w0 (some ⟨w.heap.size, 0, none⟩) [⟨#[115, 101, 115, 115, 105, 111, 110, 115]⟩]) := (path_new w [⟨#[115, 101, 115, 115, 105, 111, 110, 115]⟩]).below b
  have HB0 : Hid (Below w.heap.size w w0) := below_call b
  clear b
  go_wp2_with fail
  refine (bare_any ⟨⟨#[71, 69, 84]⟩, w0.heap.size, 2, 2, false, (some 49), 52, 53⟩ rfl rfl _).mono ?_
  rintro e w1 ⟨rfl, b⟩
  have HP1 : Hid (TextsAt w1 (some ⟨w0.heap.size, 0, none⟩) [⟨#[115, 101, 115, 115, 105, 111, 110, 115]⟩, ⟨#[]⟩]) := (path_new w0 [⟨#[115, 101, 115, 115, 105, 111, 110, 115]⟩, ⟨#[]⟩]).below b
  have HB1 : Hid (Below w0.heap.size w0 w1) := below_call b
  clear b
  go_wp2_with fail
  refine (bare_any ⟨⟨#[80, 79, 83, 84]⟩, w1.heap.size, 3, 3, false, (some 49), 52, 53⟩ rfl rfl _).mono ?_
  rintro e w2 ⟨rfl, b⟩
  have HP2 : Hid (TextsAt w2 (some ⟨w1.heap.size, 0, none⟩) [⟨#[115, 101, 115, 115, 105, 111, 110, 115]⟩, ⟨#[]⟩, ⟨#[116, 111, 117, 99, 104]⟩]) := (path_new w1 [⟨#[115, 101, 115, 115, 105, 111, 110, 115]⟩, ⟨#[]⟩, ⟨#[116, 111, 117, 99, 104]⟩]).below b
  have HB2 : Hid (Below w1.heap.size w1 w2) := below_call b
  clear b
  go_wp2_with fail
  refine (bare_any ⟨⟨#[68, 69, 76, 69, 84, 69]⟩, w2.heap.size, 2, 4, false, (some 49), 52, 53⟩ rfl rfl _).mono ?_
  rintro e w3 ⟨rfl, b⟩
  have HP3 : Hid (TextsAt w3 (some ⟨w2.heap.size, 0, none⟩) [⟨#[115, 101, 115, 115, 105, 111, 110, 115]⟩, ⟨#[]⟩]) := (path_new w2 [⟨#[115, 101, 115, 115, 105, 111, 110, 115]⟩, ⟨#[]⟩]).below b
  have HB3 : Hid (Below w2.heap.size w2 w3) := below_call b
  clear b
  go_wp2_with fail
  refine (bare_any ⟨⟨#[68, 69, 76, 69, 84, 69]⟩, w3.heap.size, 3, 5, false, (some 50), 52, 53⟩ rfl rfl _).mono ?_
  rintro e w4 ⟨rfl, b⟩
  have HP4 : Hid (TextsAt w4 (some ⟨w3.heap.size, 0, none⟩) [⟨#[117, 115, 101, 114, 115]⟩, ⟨#[]⟩, ⟨#[115, 101, 115, 115, 105, 111, 110, 115]⟩]) := (path_new w3 [⟨#[117, 115, 101, 114, 115]⟩, ⟨#[]⟩, ⟨#[115, 101, 115, 115, 105, 111, 110, 115]⟩]).below b
  have HB4 : Hid (Below w3.heap.size w3 w4) := below_call b
  clear b
  go_wp2_with fail
  refine (bare_any ⟨⟨#[68, 69, 76, 69, 84, 69]⟩, w4.heap.size, 1, 6, false, none, 52, 53⟩ rfl rfl _).mono ?_
  rintro e w5 ⟨rfl, b⟩
  have HP5 : Hid (TextsAt w5 (some ⟨w4.heap.size, 0, none⟩) [⟨#[115, 101, 115, 115, 105, 111, 110, 115]⟩]) := (path_new w4 [⟨#[115, 101, 115, 115, 105, 111, 110, 115]⟩]).below b
  have HB5 : Hid (Below w4.heap.size w4 w5) := below_call b
  clear b
  go_wp2_with fail
  refine (bare_any ⟨⟨#[71, 69, 84]⟩, w5.heap.size, 3, 7, false, (some 50), 52, 53⟩ rfl rfl _).mono ?_
  rintro e w6 ⟨rfl, b⟩
  have HP6 : Hid (TextsAt w6 (some ⟨w5.heap.size, 0, none⟩) [⟨#[117, 115, 101, 114, 115]⟩, ⟨#[]⟩, ⟨#[115, 101, 115, 115, 105, 111, 110, 115]⟩]) := (path_new w5 [⟨#[117, 115, 101, 114, 115]⟩, ⟨#[]⟩, ⟨#[115, 101, 115, 115, 105, 111, 110, 115]⟩]).below b
  have HB6 : Hid (Below w5.heap.size w5 w6) := below_call b
  clear b
  obtain ⟨w7, hw7⟩ : ∃ w7, w6.alloc (.cells #[.string ⟨#[97, 117, 100, 105, 116]⟩] 9) = w7 := ⟨_, rfl⟩
  have HP7 : Hid (TextsAt w7 (some ⟨w6.heap.size, 0, none⟩) [⟨#[97, 117, 100, 105, 116]⟩]) := by rw [Hid, ← hw7]; exact path_new _ _
  have HB7 : Hid (Below w6.heap.size w6 w7) := by rw [Hid, ← hw7]; exact below_new _ _
  go_wp2_with fail
  clear hw7
  refine (bare_any ⟨⟨#[71, 69, 84]⟩, w7.heap.size, 1, 2, true, none, 52, 53⟩ rfl rfl _).mono ?_
  rintro e w8 ⟨rfl, b⟩
  have HP8 : Hid (TextsAt w8 (some ⟨w7.heap.size, 0, none⟩) [⟨#[109, 101]⟩]) := (path_new w7 [⟨#[109, 101]⟩]).below b
  have HB8 : Hid (Below w7.heap.size w7 w8) := below_call b
  clear b
  go_wp2_with fail
  refine (bare_any ⟨⟨#[71, 69, 84]⟩, w8.heap.size, 1, 9, false, none, 52, 53⟩ rfl rfl _).mono ?_
  rintro e w9 ⟨rfl, b⟩
  have HP9 : Hid (TextsAt w9 (some ⟨w8.heap.size, 0, none⟩) [⟨#[115, 116, 97, 116, 115]⟩]) := (path_new w8 [⟨#[115, 116, 97, 116, 115]⟩]).below b
  have HB9 : Hid (Below w8.heap.size w8 w9) := below_call b
  clear b
  simp only [ruV, ruL, pfV]
  go_wp2_with fail
  go_ret
  exact ⟨_, _, rfl, rules_end HP0.out HP1.out HP2.out HP3.out HP4.out HP5.out HP6.out HP7.out HP8.out HP9.out HB0.out HB1.out HB2.out HB3.out HB4.out HB5.out HB6.out HB7.out HB8.out HB9.out⟩
end Go.Proofs.YtbpfggpljfpfcaaDoor
