/-
  The contract of readHead.
-/
import Derived.Test.YthhhoppmbimeiaaDoorRgt
import Derived.Laws.ResultCell
namespace Go.Proofs.YthhhoppmbimeiaaDoor
open Go.RowKit
theorem free_of_block {w : World} {b : Nat} {c : Array Value} {t : TypeId} (h : w.heap[b]? = some (.cells c t (0, 0))) (o : Nat) : w.frozen? ⟨b, o, none⟩ = false := by simp [World.frozen?, h]
theorem set_block {W : World} {g : Nat} {c : Array Value} {t : TypeId} (h : W.heap[g]? = some (.cells c t (0, 0))) (i : Nat) (v : Value) : (W.setCell ⟨g, i, none⟩ v).heap[g]? = some (.cells (c.setIfInBounds i v) t (0, 0)) := by
  simp [World.setCell, Array.getElem?_modify, h]
/-- A request's five cells in a block of their own. -/
def RB (W : World) (g : Nat) (met tar : ByteArray) (v : Value) (body : ByteArray) (shut : Bool) : Prop := W.heap[g]? = some (.cells #[.string met, .string tar, v, .string body, .bool shut] 24 (0, 0))
theorem RB.box {W : World} {g : Nat} {met tar : ByteArray} {v : Value} {body : ByteArray} {shut : Bool} (h : RB W g met tar v body shut) : BoxR W g met tar v body shut := ⟨cell_of_block h rfl, cell_of_block h rfl, cell_of_block h rfl, cell_of_block h rfl, cell_of_block h rfl⟩
theorem RB.free {W : World} {g : Nat} {met tar : ByteArray} {v : Value} {body : ByteArray} {shut : Bool} (h : RB W g met tar v body shut) : W.frozen? ⟨g, 0, none⟩ = false ∧ W.frozen? ⟨g, 1, none⟩ = false ∧ W.frozen? ⟨g, 2, none⟩ = false ∧ W.frozen? ⟨g, 3, none⟩ = false ∧ W.frozen? ⟨g, 4, none⟩ = false :=
  ⟨free_of_block h _, free_of_block h _, free_of_block h _, free_of_block h _, free_of_block h _⟩
theorem RB.below {V V' : World} {g : Nat} {met tar : ByteArray} {v : Value} {body : ByteArray} {shut : Bool} (h : RB V g met tar v body shut) (b : Below V.heap.size V V') : RB V' g met tar v body shut :=
  (b.block g (Array.getElem?_eq_some_iff.1 h).1).trans h
theorem RB.lt {V : World} {g : Nat} {met tar : ByteArray} {v : Value} {body : ByteArray} {shut : Bool} (h : RB V g met tar v body shut) : g < V.heap.size := (Array.getElem?_eq_some_iff.1 h).1
def set5 (W : World) (g : Nat) (v0 v1 v2 v3 v4 : Value) : World := ((((W.setCell ⟨g, 0, none⟩ v0).setCell ⟨g, 1, none⟩ v1).setCell ⟨g, 2, none⟩ v2).setCell ⟨g, 3, none⟩ v3).setCell ⟨g, 4, none⟩ v4
theorem RB.set5 {W : World} {g : Nat} {met tar : ByteArray} {v : Value} {body : ByteArray} {shut : Bool} (h : RB W g met tar v body shut) (met' tar' : ByteArray) (v' : Value) (body' : ByteArray) (shut' : Bool) : RB (set5 W g (.string met') (.string tar') v' (.string body') (.bool shut')) g met' tar' v' body' shut' := by
  have := set_block (set_block (set_block (set_block (set_block h 0 (.string met')) 1 (.string tar')) 2 v') 3 (.string body')) 4 (.bool shut')
  simpa [RB, Go.Proofs.YthhhoppmbimeiaaDoor.set5] using this
theorem set5_below {B : Nat} {a W : World} (h : Below B a W) {g : Nat} (hg : B ≤ g) (v0 v1 v2 v3 v4 : Value) : Below B a (set5 W g v0 v1 v2 v3 v4) :=
  ((((h.setCell (p := ⟨g, 0, none⟩) hg _).setCell (p := ⟨g, 1, none⟩) hg _).setCell (p := ⟨g, 2, none⟩) hg _).setCell (p := ⟨g, 3, none⟩) hg _).setCell (p := ⟨g, 4, none⟩) hg _
theorem set5_size (W : World) (g : Nat) (v0 v1 v2 v3 v4 : Value) : (set5 W g v0 v1 v2 v3 v4).heap.size = W.heap.size := by simp [set5, World.setCell]
theorem set5_heap (W : World) (g : Nat) (v0 v1 v2 v3 v4 : Value) (k : Nat) (h : k ≠ g) : (set5 W g v0 v1 v2 v3 v4).heap[k]? = W.heap[k]? := by
  unfold set5
  rw [Below.heap_setCell _ _ _ _ h, Below.heap_setCell _ _ _ _ h, Below.heap_setCell _ _ _ _ h, Below.heap_setCell _ _ _ _ h, Below.heap_setCell _ _ _ _ h]
theorem owns_set5 {W : World} {B g n c : Nat} {a : Option Addr} {xs : List Value} (h : W.ownsRow B 53 2 (.slice a n c) n xs) (hg : g < B) (v0 v1 v2 v3 v4 : Value) : (set5 W g v0 v1 v2 v3 v4).ownsRow B 53 2 (.slice a n c) n xs := by
  refine ⟨h.1, ?_⟩
  rcases h.2 with q | ⟨k, cp, cur, hv, hk, hh, rr⟩
  · exact Or.inl q
  · exact Or.inr ⟨k, cp, cur, hv, hk, (set5_heap _ _ _ _ _ _ _ _ (by omega)).trans hh, rr⟩
theorem owns_down2 {w : World} {B B' e z n : Nat} {v : Value} {xs : List Value} (h : w.ownsRow B e z v n xs) (hB : B' ≤ B) : w.ownsRow B' e z v n xs := by
  refine ⟨h.1, ?_⟩
  rcases h.2 with q | ⟨g, cp, cur, hv, hg, rr⟩
  · exact Or.inl q
  · exact Or.inr ⟨g, cp, cur, hv, Nat.le_trans hB hg, rr⟩
theorem below_drew {B : Nat} {a w : World} (h : Below B a w) : Below B a w.drew := ⟨h.os, h.tape, h.output, h.size, h.block⟩
theorem RB.drew {V : World} {g : Nat} {met tar : ByteArray} {v : Value} {body : ByteArray} {shut : Bool} (h : RB V g met tar v body shut) : RB V.drew g met tar v body shut := h
theorem owns_drew {w : World} {B e z n : Nat} {v : Value} {xs : List Value} (h : w.ownsRow B e z v n xs) : w.drew.ownsRow B e z v n xs := h
theorem fa_drew {w : World} {B : Nat} {a : Option Addr} {l : List Fd} (h : FA B w a l) : FA B w.drew a l := h
/-- What readHead tells. -/
def rdH (h : ByteArray) : Option (ByteArray × ByteArray × List Fd × Bool) := match linesOf h with
  | [] => none
  | l :: ls => match firstR l with
    | none => none
    | some (m, t) => some (m, t, (takeF ls).1, (takeF ls).2)
theorem lines_cons (h : ByteArray) : ∃ l ls, linesOf h = l :: ls := by
  cases hq : linesOf h with
  | nil =>
    have := parts_len (sep := crlf) (by decide) h
    unfold linesOf at hq
    rw [hq] at this
    simp at this
  | cons l ls => exact ⟨l, ls, rfl⟩
theorem parts_size {sep : ByteArray} (h1 : 1 ≤ sep.size) : ∀ (n : Nat) (s : ByteArray), s.size ≤ n → (partsOf sep s).length ≤ n + 1 ∧ ∀ l ∈ partsOf sep s, l.size ≤ n
  | 0, s, hs => by
    rcases Lib.indexB_cases s sep with h | ⟨i, h, hr⟩
    · rw [parts_miss h]
      exact ⟨by simp, fun l hl => by simp at hl; subst hl; exact hs⟩
    · omega
  | n + 1, s, hs => by
    rcases Lib.indexB_cases s sep with h | ⟨i, h, hr⟩
    · rw [parts_miss h]
      exact ⟨by simp, fun l hl => by simp at hl; subst hl; exact hs⟩
    · rw [parts_hit h1 h]
      have ih := parts_size h1 n (s.extract (i + sep.size) s.size) (by rw [ByteArray.size_extract]; omega)
      refine ⟨by simp; omega, fun l hl => ?_⟩
      rcases List.mem_cons.1 hl with rfl | hl
      · rw [ByteArray.size_extract]; omega
      · have := ih.2 l hl; omega
theorem texts_new {W : World} {l : List ByteArray} {t : TypeId} : TextsAt (W.alloc (.cells (strV l).toArray t)) (some ⟨W.heap.size, 0, none⟩) l := by
  intro j z hj
  refine ⟨W.heap.size, 0, rfl, by simp, ?_⟩
  refine cell_of_block (block_alloc_at W _) ?_
  rw [List.getElem?_toArray, strV, List.getElem?_map, Nat.zero_add, hj]
  rfl
theorem texts_tail {W : World} {b o : Nat} {l : ByteArray} {ls : List ByteArray} (h : TextsAt W (some ⟨b, o, none⟩) (l :: ls)) : TextsAt W (some ⟨b, o + 1, none⟩) ls := by
  intro j z hj
  obtain ⟨b', off, e, hb, hc⟩ := h (j + 1) z (by rw [List.getElem?_cons_succ]; exact hj)
  cases e
  exact ⟨_, _, rfl, hb, by rw [show o + 1 + j = o + (j + 1) by omega]; exact hc⟩
def zeroRq : Value := .agg #[.string ⟨#[]⟩, .string ⟨#[]⟩, .slice none 0 0, .string ⟨#[]⟩, .bool false]
set_option maxRecDepth 20000 in
set_option maxHeartbeats 8000000 in
theorem readHead_none (h : ByteArray) (m : Int) (w : World) (hs : h.size ≤ 4096) (hm : w.cell? ⟨0, 0, none⟩ = some (.int .i64 m)) (hn : rdH h = none) :
    Calls Tryd.prog 22 #[.string h] w fun e w' => e = .returned (.tuple #[zeroRq, .bool false]) ∧ Below w.heap.size w w' := by
  have HM : Hid (∀ W, Below w.heap.size w W → W.cell? ⟨0, 0, none⟩ = some (.int .i64 m)) := fun W b => mx_below hm b
  obtain ⟨l, ls, hl⟩ := lines_cons h
  have hlz : l.size ≤ 4096 := (parts_size (sep := crlf) (by decide) 4096 h hs).2 l (by show l ∈ linesOf h; rw [hl]; exact List.mem_cons_self ..)
  have hfn : firstR l = none := by
    unfold rdH at hn
    rw [hl] at hn
    simp only at hn
    split at hn
    · assumption
    · cases hn
  have H1 : Hid (∀ W, Below w.heap.size w W → _) := fun W b => split_any crlf h (by decide) (by omega) m W (HM.out W b)
  have H2 : Hid (∀ W, Below w.heap.size w W → _) := fun W b => split_any blk l (by decide) (by omega) m W (HM.out W b)
  rw [show partsOf crlf h = l :: ls from hl, show crlf = (⟨#[13, 10]⟩ : ByteArray) from rfl] at H1
  rw [show partsOf blk l = wordsOf l from rfl, show blk = (⟨#[32]⟩ : ByteArray) from rfl] at H2
  obtain ⟨ws, hws⟩ : ∃ ws, wordsOf l = ws := ⟨_, rfl⟩
  rw [hws] at H2
  have HWN : Hid (∀ a b c, ws = [a, b, c] → c ≠ ver) := fun a b c e => first_no hfn (by rw [hws]; exact e)
  clear hws hfn hm hn hl
  obtain ⟨n, hn⟩ : ∃ n, ws.length = n := ⟨_, rfl⟩
  obtain ⟨L, hL⟩ : ∃ n, (l :: ls).length = n := ⟨_, rfl⟩
  have hL1 : 1 ≤ L := by rw [← hL]; simp
  rw [hn] at H2
  rw [hL] at H1
  have HN : Hid _ := hn
  clear hn hL
  obtain ⟨W0, hW0⟩ : ∃ W0, w.alloc (.cells #[.string ⟨#[]⟩, .string ⟨#[]⟩, .slice none 0 0, .string ⟨#[]⟩, .bool false] 24) = W0 := ⟨_, rfl⟩
  have HZ : Hid (W0.heap.size = w.heap.size + 1) := by rw [Hid, ← hW0]; simp
  have HB0 : Hid (Below w.heap.size w W0) := by rw [Hid, ← hW0]; exact (Below.refl _ _).alloc (Nat.le_refl _) _
  have HX0 : Hid (RB W0 w.heap.size ⟨#[]⟩ ⟨#[]⟩ (.slice none 0 0) ⟨#[]⟩ false) := by rw [Hid, ← hW0]; exact block_alloc_at _ _
  obtain ⟨W1, hW1⟩ : ∃ W1, W0.alloc (.cells (strV (l :: ls)).toArray 9) = W1 := ⟨_, rfl⟩
  have HB1 : Hid (Below W0.heap.size W0 W1) := by rw [Hid, ← hW1]; exact (Below.refl _ _).alloc (Nat.le_refl _) _
  have x1 : W1.cell? ⟨W0.heap.size, 0, none⟩ = some (.string l) := by rw [← hW1]; exact cell_of_block (block_alloc_at W0 _) rfl
  obtain ⟨W2, hW2⟩ : ∃ W2, W1.alloc (.cells (strV ws).toArray 9) = W2 := ⟨_, rfl⟩
  have HB2 : Hid (Below W1.heap.size W1 W2) := by rw [Hid, ← hW2]; exact (Below.refl _ _).alloc (Nat.le_refl _) _
  have HBW1 : Hid (Below w.heap.size w W1) := HB0.out.trans (HB1.out.mono HB0.out.size)
  have HBW2 : Hid (Below w.heap.size w W2) := HBW1.out.trans (HB2.out.mono HBW1.out.size)
  have HX2 : Hid (RB W2 w.heap.size ⟨#[]⟩ ⟨#[]⟩ (.slice none 0 0) ⟨#[]⟩ false) := (HX0.out.below HB1.out).below HB2.out
  obtain ⟨f0, f1, f2, f3, f4⟩ := HX2.out.free
  obtain ⟨k0, k1, k2, k3, k4⟩ := HX2.out.box
  have hlz : (0 : Int) < (L : Int) := by omega
  by_cases h3 : n = 3
  · obtain ⟨a, b, c, he⟩ : ∃ a b c, ws = [a, b, c] := by
      have := HN.out
      rw [h3] at this
      match ws, this with
      | [a, b, c], _ => exact ⟨a, b, c, rfl⟩
    have hc : (c.toList == [72, 84, 84, 80, 47, 49, 46, 49]) = false := by
      rw [beq_eq_false_iff_ne]
      intro e
      exact HWN.out a b c he (toList_inj (by rw [e, ByteArray.toList_eq]; rfl))
    have x2 : W2.cell? ⟨W1.heap.size, 2, none⟩ = some (.string c) := by rw [← hW2, he]; exact cell_of_block (block_alloc_at W1 _) rfl
    subst h3
    go_enter Tryd.func22, Tryd.ntmps22
    go_wp2_with fail
    try rw [hW0]
    refine (H1.out _ HB0.out).mono ?_
    rintro e w1 ⟨rfl, hw1⟩
    rw [hW1] at hw1
    rw [hw1]
    clear hw1 w1 hW0 hW1
    go_wp2_with fail
    refine (H2.out _ HBW1.out).mono ?_
    rintro e w1 ⟨rfl, hw1⟩
    rw [hW2] at hw1
    rw [hw1]
    clear hw1 w1 hW2
    go_wp2_with fail
    refine bodyPost_ret (v := .tuple #[zeroRq, .bool false]) ?_ rfl ⟨rfl, ?_⟩
    · rw [results_cell_tmp rfl]
      go_simp
      rfl
    · exact set5_below HBW2.out (Nat.le_refl _) _ _ _ _ _
  · have hc : ((n : Int) != 3) = true := by simp; omega
    go_enter Tryd.func22, Tryd.ntmps22
    go_wp2_with fail
    try rw [hW0]
    refine (H1.out _ HB0.out).mono ?_
    rintro e w1 ⟨rfl, hw1⟩
    rw [hW1] at hw1
    rw [hw1]
    clear hw1 w1 hW0 hW1
    go_wp2_with fail
    refine (H2.out _ HBW1.out).mono ?_
    rintro e w1 ⟨rfl, hw1⟩
    rw [hW2] at hw1
    rw [hw1]
    clear hw1 w1 hW2
    go_wp2_with fail
    refine bodyPost_ret (v := .tuple #[zeroRq, .bool false]) ?_ rfl ⟨rfl, ?_⟩
    · rw [results_cell_tmp rfl]
      go_simp
      rfl
    · exact set5_below HBW2.out (Nat.le_refl _) _ _ _ _ _
set_option maxRecDepth 20000 in
set_option maxHeartbeats 8000000 in
theorem readHead_some (h : ByteArray) (m : Int) (w : World) (hs : h.size ≤ 4096) (hm : w.cell? ⟨0, 0, none⟩ = some (.int .i64 m)) (mt tg : ByteArray) (fs : List Fd) (ok : Bool) (hn : rdH h = some (mt, tg, fs, ok)) :
    Calls Tryd.prog 22 #[.string h] w fun e w' => ∃ a c, e = .returned (.tuple #[rqV ⟨mt, tg, a, c, fs, ⟨#[]⟩, false⟩, .bool ok]) ∧ w'.ownsRow w.heap.size 53 2 (.slice a fs.length c) fs.length (flF fs) ∧ Below w.heap.size w w' := by
  have HM : Hid (∀ W, Below w.heap.size w W → W.cell? ⟨0, 0, none⟩ = some (.int .i64 m)) := fun W b => mx_below hm b
  obtain ⟨l, ls, hl⟩ := lines_cons h
  have hps := parts_size (sep := crlf) (by decide) 4096 h hs
  rw [show partsOf crlf h = l :: ls from hl] at hps
  have hlz : l.size ≤ 4096 := hps.2 l (List.mem_cons_self ..)
  have HLS : Hid (∀ x ∈ ls, x.size ≤ 1000000) := fun x hx => by have := hps.2 x (List.mem_cons_of_mem _ hx); omega
  have hll : ls.length ≤ 4096 := by have := hps.1; simp at this; omega
  have hf : firstR l = some (mt, tg) ∧ (takeF ls).1 = fs ∧ (takeF ls).2 = ok := by
    unfold rdH at hn
    rw [hl] at hn
    simp only at hn
    split at hn
    · cases hn
    · rename_i hq
      cases hn
      exact ⟨hq, rfl, rfl⟩
  have H1 : Hid (∀ W, Below w.heap.size w W → _) := fun W b => split_any crlf h (by decide) (by omega) m W (HM.out W b)
  have H2 : Hid (∀ W, Below w.heap.size w W → _) := fun W b => split_any blk l (by decide) (by omega) m W (HM.out W b)
  have H3 : Hid (∀ (W : World) (a : Option Addr) (c : Nat), TextsAt W a ls → Below w.heap.size w W → _) := fun W a c ht b => readFields_any ls a c m W ht (by omega) HLS.out (HM.out W b)
  rw [show partsOf crlf h = l :: ls from hl, show crlf = (⟨#[13, 10]⟩ : ByteArray) from rfl] at H1
  rw [show partsOf blk l = wordsOf l from rfl, first_words hf.1, show blk = (⟨#[32]⟩ : ByteArray) from rfl] at H2
  rw [hf.2.1, hf.2.2] at H3
  clear hf hm hn hl hps
  simp only [rqV]
  obtain ⟨F, hF⟩ : ∃ F, fs.length = F := ⟨_, rfl⟩
  have HF : Hid _ := hF
  rw [hF] at H3 ⊢
  clear hF
  obtain ⟨W0, hW0⟩ : ∃ W0, w.alloc (.cells #[.string ⟨#[]⟩, .string ⟨#[]⟩, .slice none 0 0, .string ⟨#[]⟩, .bool false] 24) = W0 := ⟨_, rfl⟩
  have HZ : Hid (W0.heap.size = w.heap.size + 1) := by rw [Hid, ← hW0]; simp
  have HB0 : Hid (Below w.heap.size w W0) := by rw [Hid, ← hW0]; exact (Below.refl _ _).alloc (Nat.le_refl _) _
  have HX0 : Hid (RB W0 w.heap.size ⟨#[]⟩ ⟨#[]⟩ (.slice none 0 0) ⟨#[]⟩ false) := by rw [Hid, ← hW0]; exact block_alloc_at _ _
  obtain ⟨W1, hW1⟩ : ∃ W1, W0.alloc (.cells (strV (l :: ls)).toArray 9) = W1 := ⟨_, rfl⟩
  have HB1 : Hid (Below W0.heap.size W0 W1) := by rw [Hid, ← hW1]; exact (Below.refl _ _).alloc (Nat.le_refl _) _
  have x1 : W1.cell? ⟨W0.heap.size, 0, none⟩ = some (.string l) := by rw [← hW1]; exact cell_of_block (block_alloc_at W0 _) rfl
  have HTX : Hid (TextsAt W1 (some ⟨W0.heap.size, 0, none⟩) (l :: ls)) := by rw [Hid, ← hW1]; exact texts_new
  obtain ⟨W2, hW2⟩ : ∃ W2, W1.alloc (.cells (strV [mt, tg, ver]).toArray 9) = W2 := ⟨_, rfl⟩
  have HB2 : Hid (Below W1.heap.size W1 W2) := by rw [Hid, ← hW2]; exact (Below.refl _ _).alloc (Nat.le_refl _) _
  have HZ2 : Hid (W2.heap.size = W1.heap.size + 1) := by rw [Hid, ← hW2]; simp
  have HBW1 : Hid (Below w.heap.size w W1) := HB0.out.trans (HB1.out.mono HB0.out.size)
  have HBW2 : Hid (Below w.heap.size w W2) := HBW1.out.trans (HB2.out.mono HBW1.out.size)
  have HX2 : Hid (RB W2 w.heap.size ⟨#[]⟩ ⟨#[]⟩ (.slice none 0 0) ⟨#[]⟩ false) := (HX0.out.below HB1.out).below HB2.out
  have y2 : W2.cell? ⟨W1.heap.size, 2, none⟩ = some (.string ver) := by rw [← hW2]; exact cell_of_block (block_alloc_at W1 _) rfl
  have HY0 : Hid (W2.cell? ⟨W1.heap.size, 0, none⟩ = some (.string mt)) := by rw [Hid, ← hW2]; exact cell_of_block (block_alloc_at W1 _) rfl
  have HY1 : Hid (W2.cell? ⟨W1.heap.size, 1, none⟩ = some (.string tg)) := by rw [Hid, ← hW2]; exact cell_of_block (block_alloc_at W1 _) rfl
  have hc : (ver.toList == [72, 84, 84, 80, 47, 49, 46, 49]) = true := by rw [ByteArray.toList_eq]; rfl
  have HT0 : Hid (TextsAt W2 (some ⟨W0.heap.size, 0, none⟩) (l :: ls)) := TextsAt.below HTX.out HB2.out
  have HT1 : Hid (TextsAt W2 (some ⟨W0.heap.size, 1, none⟩) ls) := texts_tail HT0.out
  have HTN : Hid (ls = [] → TextsAt W2 (some ⟨W0.heap.size, 0, none⟩) ls) := fun e => by rw [e]; exact fun j z hj => by simp at hj
  obtain ⟨L, hL⟩ : ∃ n, ls.length = n := ⟨_, rfl⟩
  have hL1 : (l :: ls).length = L + 1 := by rw [← hL]; simp
  have HL : Hid _ := hL
  rw [hL1] at H1
  rw [hL] at H3 hll
  clear hL hL1 HTX
  have hlz : (0 : Int) < ((L + 1 : Nat) : Int) := by omega
  rw [show [mt, tg, ver].length = 3 from rfl] at H2
  by_cases hL0 : L = 0
  · subst hL0
    have HTT : Hid (TextsAt W2 (some ⟨W0.heap.size, 0, none⟩) ls) := HTN.out (List.eq_nil_of_length_eq_zero HL.out)
    go_enter Tryd.func22, Tryd.ntmps22
    go_wp2_with fail
    try rw [hW0]
    refine (H1.out _ HB0.out).mono ?_
    rintro e w1 ⟨rfl, hw1⟩
    rw [hW1] at hw1
    rw [hw1]
    clear hw1 w1 hW0 hW1
    go_wp2_with fail
    refine (H2.out _ HBW1.out).mono ?_
    rintro e w1 ⟨rfl, hw1⟩
    rw [hW2] at hw1
    rw [hw1]
    clear hw1 w1 hW2
    go_wp2_with fail
    refine (H3.out _ _ _ HTT.out HBW2.out).mono ?_
    rintro e w4 ⟨fa, fc, rfl, HO, hb4⟩
    have HOW : Hid _ := HO
    have HB4 : Hid (Below w.heap.size w w4) := HBW2.out.trans (hb4.mono HBW2.out.size)
    have HX4 : Hid (RB w4 w.heap.size ⟨#[]⟩ ⟨#[]⟩ (.slice none 0 0) ⟨#[]⟩ false) := HX2.out.below hb4
    have y0 : w4.cell? ⟨W1.heap.size, 0, none⟩ = some (.string mt) := (World.cell?_of_block (hb4.block W1.heap.size (by have := HZ2.out; omega))).trans HY0.out
    have y1 : w4.cell? ⟨W1.heap.size, 1, none⟩ = some (.string tg) := (World.cell?_of_block (hb4.block W1.heap.size (by have := HZ2.out; omega))).trans HY1.out
    obtain ⟨f0, f1, f2, f3, f4⟩ := HX4.out.free
    obtain ⟨k0, k1, k2, k3, k4⟩ := HX4.out.box
    clear HO hb4 y2
    go_wp2_with fail
    go_region
    obtain ⟨W5, hW5⟩ : ∃ W5, (set5 w4 w.heap.size (.string mt) (.string tg) (.slice fa F fc) (.string ⟨#[]⟩) (.bool false)).drew = W5 := ⟨_, rfl⟩
    have HB5 : Hid (Below w.heap.size w W5) := by rw [Hid, ← hW5]; exact below_drew (set5_below HB4.out (Nat.le_refl _) _ _ _ _ _)
    have HX5 : RB W5 w.heap.size mt tg (.slice fa F fc) ⟨#[]⟩ false := by rw [← hW5]; exact RB.drew (HX4.out.set5 mt tg (.slice fa F fc) ⟨#[]⟩ false)
    have HFA : Hid (W5.ownsRow w.heap.size 53 2 (.slice fa F fc) F (flF fs)) := by
      have hq := owns_set5 HOW.out (g := w.heap.size) (by have := HBW1.out.size; have := HZ2.out; omega) (.string mt) (.string tg) (.slice fa F fc) (.string ⟨#[]⟩) (.bool false)
      rw [Hid, ← hW5]
      exact owns_drew (owns_down2 hq (by have := HBW1.out.size; have := HZ2.out; omega))
    unfold set5 at hW5
    rw [hW5]
    obtain ⟨k0, k1, k2, k3, k4⟩ := HX5.box
    clear hW5 HX5
    go_wp2_with fail
    refine bodyPost_ret (v := .tuple #[.agg #[.string mt, .string tg, .slice fa F fc, .string ⟨#[]⟩, .bool false], .bool ok]) ?_ rfl ⟨fa, fc, rfl, HFA.out, HB5.out⟩
    rw [results_cell_tmp rfl]
    go_simp
  · have hL2 : ¬ (L + 1 = 1) := by omega
    go_enter Tryd.func22, Tryd.ntmps22
    go_wp2_with fail
    try rw [hW0]
    refine (H1.out _ HB0.out).mono ?_
    rintro e w1 ⟨rfl, hw1⟩
    rw [hW1] at hw1
    rw [hw1]
    clear hw1 w1 hW0 hW1
    go_wp2_with fail
    refine (H2.out _ HBW1.out).mono ?_
    rintro e w1 ⟨rfl, hw1⟩
    rw [hW2] at hw1
    rw [hw1]
    clear hw1 w1 hW2
    go_wp2_with fail
    refine (H3.out _ _ _ HT1.out HBW2.out).mono ?_
    rintro e w4 ⟨fa, fc, rfl, HO, hb4⟩
    have HOW : Hid _ := HO
    have HB4 : Hid (Below w.heap.size w w4) := HBW2.out.trans (hb4.mono HBW2.out.size)
    have HX4 : Hid (RB w4 w.heap.size ⟨#[]⟩ ⟨#[]⟩ (.slice none 0 0) ⟨#[]⟩ false) := HX2.out.below hb4
    have y0 : w4.cell? ⟨W1.heap.size, 0, none⟩ = some (.string mt) := (World.cell?_of_block (hb4.block W1.heap.size (by have := HZ2.out; omega))).trans HY0.out
    have y1 : w4.cell? ⟨W1.heap.size, 1, none⟩ = some (.string tg) := (World.cell?_of_block (hb4.block W1.heap.size (by have := HZ2.out; omega))).trans HY1.out
    obtain ⟨f0, f1, f2, f3, f4⟩ := HX4.out.free
    obtain ⟨k0, k1, k2, k3, k4⟩ := HX4.out.box
    clear HO hb4 y2
    go_wp2_with fail
    go_region
    obtain ⟨W5, hW5⟩ : ∃ W5, (set5 w4 w.heap.size (.string mt) (.string tg) (.slice fa F fc) (.string ⟨#[]⟩) (.bool false)).drew = W5 := ⟨_, rfl⟩
    have HB5 : Hid (Below w.heap.size w W5) := by rw [Hid, ← hW5]; exact below_drew (set5_below HB4.out (Nat.le_refl _) _ _ _ _ _)
    have HX5 : RB W5 w.heap.size mt tg (.slice fa F fc) ⟨#[]⟩ false := by rw [← hW5]; exact RB.drew (HX4.out.set5 mt tg (.slice fa F fc) ⟨#[]⟩ false)
    have HFA : Hid (W5.ownsRow w.heap.size 53 2 (.slice fa F fc) F (flF fs)) := by
      have hq := owns_set5 HOW.out (g := w.heap.size) (by have := HBW1.out.size; have := HZ2.out; omega) (.string mt) (.string tg) (.slice fa F fc) (.string ⟨#[]⟩) (.bool false)
      rw [Hid, ← hW5]
      exact owns_drew (owns_down2 hq (by have := HBW1.out.size; have := HZ2.out; omega))
    unfold set5 at hW5
    rw [hW5]
    obtain ⟨k0, k1, k2, k3, k4⟩ := HX5.box
    clear hW5 HX5
    go_wp2_with fail
    refine bodyPost_ret (v := .tuple #[.agg #[.string mt, .string tg, .slice fa F fc, .string ⟨#[]⟩, .bool false], .bool ok]) ?_ rfl ⟨fa, fc, rfl, HFA.out, HB5.out⟩
    rw [results_cell_tmp rfl]
    go_simp
end Go.Proofs.YthhhoppmbimeiaaDoor
