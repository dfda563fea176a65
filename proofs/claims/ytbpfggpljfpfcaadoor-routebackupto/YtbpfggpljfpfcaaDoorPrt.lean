/-
  The contracts of noText, writeFrom and print.
-/
import Derived.Test.YtbpfggpljfpfcaaDoorTgp
import Derived.Test.YtbpfggpljfpfcaaDoorBldC
import Derived.Test.YtbpfggpljfpfcaaDoorShb
import Derived.Lib.AppendIntMem
namespace Go.Proofs.YtbpfggpljfpfcaaDoor
open Go.RowKit
def TabP (w : World) : Prop := Lib.TabIs Tryd.prog w "internal/strconv.uint64pow10" .u64 Lib.pow10Tab
theorem tab_below {w w' : World} (h : TabP w) (hb : Below w.heap.size w w') : TabP w' := by
  unfold TabP Lib.TabIs World.var? at h ⊢
  cases hgn : Tryd.prog.globalNamed "internal/strconv.uint64pow10" with
  | none => rw [hgn] at h; cases h
  | some g =>
  rw [hgn] at h
  simp only [Option.bind_some] at h ⊢
  have hlt : g < w.heap.size := by
    rcases Nat.lt_or_ge g w.heap.size with h' | h'
    · exact h'
    · rw [Array.getElem?_eq_none h'] at h; cases h
  rw [hb.block g hlt]
  exact h
theorem app_bOf (a b : List UInt8) : bOf a ++ bOf b = bOf (a ++ b) := str_app a b
theorem strC (s : ByteArray) : Lib.strCells s = Lib.byteCells s.data.toList := rfl
theorem byteC_app (a b : List UInt8) : Lib.byteCells (a ++ b) = Lib.byteCells a ++ Lib.byteCells b := by simp [Lib.byteCells]
theorem owns_on1 {w w' : World} {B e n : Nat} {v : Value} {xs : List Value} (h : w.ownsRow B e 1 v n xs) (b : Below w.heap.size w w') : w'.ownsRow B e 1 v n xs := owns_on h b
theorem bld_below {B b : Nat} {p : Value} {bs : List Value} {w w' : World} (h : Lib.BuilderAt 82 5 B b p bs w) (k : Below w.heap.size w w') : Lib.BuilderAt 82 5 B b p bs w' := by
  obtain ⟨h1, v, h2, h3, h4⟩ := h
  exact ⟨h1, v, (k.block b (Array.getElem?_eq_some_iff.1 h2).1).trans h2, owns_on1 h3 k, h4⟩
theorem isb_below {B b : Nat} {bs : List Value} {w w' : World} (h : Lib.IsBuilder 82 5 B b bs w) (k : Below w.heap.size w w') : Lib.IsBuilder 82 5 B b bs w' := h.imp (fun q => bld_below q k) (fun q => bld_below q k)
set_option maxRecDepth 20000 in
set_option maxHeartbeats 2000000 in
theorem noText_any (x : Rt) (w : World) : Calls Tryd.prog 53 #[rtV x] w fun e w' => e = .returned (.string (bOf [])) ∧ Below w.heap.size w w' := by
  obtain ⟨k, a, b, f, me⟩ := x
  simp only [rtV, rtA]
  go_enter Tryd.func53, Tryd.ntmps53
  go_wp2_with fail
  go_ret
  exact ⟨rfl, below_new _ _⟩
set_option maxRecDepth 20000 in
set_option maxHeartbeats 2000000 in
theorem writeFrom_any (x : Rt) (h0 : -9223372036854775808 ≤ x.frm) (h1 : x.frm ≤ 9223372036854775807) (w : World) (ht : TabP w) : Calls Tryd.prog 55 #[rtV x] w fun e w' => e = .returned (.string (bOf (fromQ ++ Lib.itoa x.frm))) ∧ Below w.heap.size w w' := by
  obtain ⟨k, a, b, f, me⟩ := x
  simp only at h0 h1
  have HL := itoa_len h0 h1
  have H1 : Hid (∀ W, Below w.heap.size w W → _) := fun W b => Tryd.strconv_Itoa f h0 h1 W (tab_below ht b)
  have HE : Hid ((⟨#[63, 102, 114, 111, 109, 61]⟩ : ByteArray) ++ bOf (Lib.itoa f) = bOf (fromQ ++ Lib.itoa f)) := by rw [Hid]; exact app_bOf fromQ _
  obtain ⟨T, hT⟩ : ∃ T, Lib.itoa f = T := ⟨_, rfl⟩
  rw [hT] at H1 HE HL ⊢
  rw [show (⟨T.toArray⟩ : ByteArray) = bOf T from rfl] at H1
  have hs1 : ¬ 9223372036854775807 < 6 + (bOf T).size := by rw [bOf_size]; omega
  clear hT ht HL
  simp only [rtV, rtA]
  go_enter Tryd.func55, Tryd.ntmps55
  go_wp2_with fail
  refine (H1.out _ (below_new _ _)).mono ?_
  rintro e w1 ⟨rfl, j, os, rfl⟩
  go_wp2_with fail
  go_ret
  exact ⟨by rw [← HE.out]; rfl, (below_new _ _).trans (Lib.below_grow _ _ (by simp) j os)⟩
/-- A word of a path, as it is printed. -/
def wordU (u w : List UInt8) : List UInt8 := 47 :: (if w = [] then escOf u else w)
theorem word_take {u : List UInt8} {P : List (List UInt8)} {k : Nat} {p : List UInt8} (h : P[k]? = some p) : (P.take (k + 1)).flatMap (wordU u) = (P.take k).flatMap (wordU u) ++ wordU u p := by
  rw [List.take_add_one, h, Option.toList, List.flatMap_append]
  simp
theorem word_le (u : List UInt8) (P : List (List UInt8)) (k : Nat) : ((P.take k).flatMap (wordU u)).length ≤ (P.flatMap (wordU u)).length := by
  conv => rhs; rw [← List.take_append_drop k P, List.flatMap_append, List.length_append]
  omega
theorem word_mem {u : List UInt8} {P : List (List UInt8)} {k : Nat} {p : List UInt8} (h : P[k]? = some p) : ((P.take k).flatMap (wordU u)).length + (wordU u p).length ≤ (P.flatMap (wordU u)).length := by
  have := word_le u P (k + 1)
  rw [word_take h, List.length_append] at this
  exact this
theorem word_full {p : List UInt8} (u : List UInt8) (h : p ≠ []) : (⟨#[47]⟩ : ByteArray) ++ bOf p = bOf (wordU u p) := by unfold wordU; rw [if_neg h]; exact app_bOf [47] p
theorem word_hole (u : List UInt8) : (⟨#[47]⟩ : ByteArray) ++ bOf (escOf u) = bOf (wordU u []) := by unfold wordU; rw [if_pos rfl]; exact app_bOf [47] _
theorem from_len {f : Int} (h0 : -9223372036854775808 ≤ f) (h1 : f ≤ 9223372036854775807) : (fromQ ++ Lib.itoa f).length ≤ 100 := by
  have := itoa_len h0 h1
  simp [fromQ]
  omega
set_option maxRecDepth 20000 in
set_option maxHeartbeats 16000000 in
theorem print_p0 (meth : List UInt8) (P : List (List UInt8)) (kind : Int) (me : Bool) (pb fr n : Nat) (xk : Int) (tok usr : List UInt8) (frm : Int) (xme : Bool) (Q : List UInt8) (w : World) (HPA : Hid (TextsAt w (some ⟨pb, 0, none⟩) (P.map bOf))) (HN : Hid (P.length = n)) (hpl : n ≤ 1000) (HZ : Hid ((P.flatMap (wordU [])).length ≤ 100000000)) (HH : Hid (∀ (k : Nat) p, P[k]? = some p → p ≠ [])) (HQL : Hid (Q.length ≤ 100))
    (HWR : Hid (∀ W, Below w.heap.size w W → Calls Tryd.prog 53 #[.agg #[.int .i64 xk, .string (bOf tok), .string (bOf usr), .int .i64 frm, .bool xme]] W fun e w' => e = .returned (.string (bOf Q)) ∧ Below W.heap.size W w')) :
    Calls Tryd.prog 37 #[.agg #[.string (bOf meth), .slice (some ⟨pb, 0, none⟩) n n, .int .i64 kind, .string ⟨#[]⟩, .string ⟨#[]⟩, .int .i64 0, .bool me, .nilFunc, .func (.func fr) #[] #[], .func (.func 53) #[] #[]], .agg #[.int .i64 xk, .string (bOf tok), .string (bOf usr), .int .i64 frm, .bool xme]] w fun e w' => e = .returned (.string (bOf (P.flatMap (wordU []) ++ Q))) ∧ Below w.heap.size w w' := by
  have HZK : Hid (∀ (k : Nat) p, P[k]? = some p → ((P.take k).flatMap (wordU [])).length + (wordU [] p).length ≤ 100000000) := fun k p h => Nat.le_trans (word_mem h) HZ.out
  have HTK : Hid (∀ (k : Nat) p, P[k]? = some p → (P.take (k + 1)).flatMap (wordU []) = (P.take k).flatMap (wordU []) ++ wordU [] p) := fun k p h => word_take h
  obtain ⟨W0, hW0⟩ : ∃ W0, w.alloc (.cells #[.string (bOf meth), .slice (some ⟨pb, 0, none⟩) n n, .int .i64 kind, .string ⟨#[]⟩, .string ⟨#[]⟩, .int .i64 0, .bool me, .nilFunc, .func (.func fr) #[] #[], .func (.func 53) #[] #[]] 50) = W0 := ⟨_, rfl⟩
  have HB0 : Hid (Below w.heap.size w W0) := by rw [Hid, ← hW0]; exact below_new _ _
  have HR0 : Hid (W0.heap[w.heap.size]? = some (.cells #[.string (bOf meth), .slice (some ⟨pb, 0, none⟩) n n, .int .i64 kind, .string ⟨#[]⟩, .string ⟨#[]⟩, .int .i64 0, .bool me, .nilFunc, .func (.func fr) #[] #[], .func (.func 53) #[] #[]] 50 (0, 0))) := by rw [Hid, ← hW0]; exact block_alloc_at _ _
  obtain ⟨W1, hW1⟩ : ∃ W1, W0.alloc (.cells #[.int .i64 xk, .string (bOf tok), .string (bOf usr), .int .i64 frm, .bool xme] 23) = W1 := ⟨_, rfl⟩
  have b01 : Below W0.heap.size W0 W1 := by rw [← hW1]; exact below_new _ _
  have HX1 : Hid (XB W1 W0.heap.size ⟨xk, tok, usr, frm, xme⟩) := by rw [Hid, ← hW1]; exact block_alloc_at _ _
  have HR1 : Hid (W1.heap[w.heap.size]? = some (.cells #[.string (bOf meth), .slice (some ⟨pb, 0, none⟩) n n, .int .i64 kind, .string ⟨#[]⟩, .string ⟨#[]⟩, .int .i64 0, .bool me, .nilFunc, .func (.func fr) #[] #[], .func (.func 53) #[] #[]] 50 (0, 0))) := (b01.block _ (Array.getElem?_eq_some_iff.1 HR0.out).1).trans HR0.out
  have HB1 : Hid (Below w.heap.size w W1) := below_on HB0.out b01
  obtain ⟨W2, hW2⟩ : ∃ W2, W1.alloc (.cells #[.pointer none, .slice none 0 0] 82) = W2 := ⟨_, rfl⟩
  have HB2 : Hid (Below W1.heap.size W1 W2) := by rw [Hid, ← hW2]; exact below_new _ _
  have HI2 : Hid (Lib.IsBuilder 82 5 W1.heap.size W1.heap.size (Lib.byteCells ((P.take 0).flatMap (wordU []))) W2) := by rw [Hid, ← hW2]; exact Lib.fresh_isBuilder 82 5 W1
  have HPC : Hid (∀ W (k : Nat) p, Below W1.heap.size W1 W → P[k]? = some p → W.cell? ⟨pb, k, none⟩ = some (.string (bOf p))) := fun W k p b hp => by
    obtain ⟨gb, off, hbo, _, c0⟩ := ((HPA.out.below HB1.out).below b) k (bOf p) (by rw [List.getElem?_map, hp]; rfl)
    obtain ⟨rfl, rfl⟩ : pb = gb ∧ 0 = off := by cases hbo; exact ⟨rfl, rfl⟩
    rw [Nat.zero_add] at c0
    exact c0
  have HRW : Hid (∀ W, Below W1.heap.size W1 W → W.heap[w.heap.size]? = some (.cells #[.string (bOf meth), .slice (some ⟨pb, 0, none⟩) n n, .int .i64 kind, .string ⟨#[]⟩, .string ⟨#[]⟩, .int .i64 0, .bool me, .nilFunc, .func (.func fr) #[] #[], .func (.func 53) #[] #[]] 50 (0, 0))) := fun W b => (b.block _ (Array.getElem?_eq_some_iff.1 HR1.out).1).trans HR1.out
  have HXW : Hid (∀ W, Below W1.heap.size W1 W → XB W W0.heap.size ⟨xk, tok, usr, frm, xme⟩) := fun W b => XB.below HX1.out b
  have HSW : Hid (∀ W, Below W1.heap.size W1 W → W1.heap.size ≤ W.heap.size) := fun W b => b.size
  have HW : Hid (∀ (bs : List Value) (s : ByteArray) (W : World), Lib.IsBuilder 82 5 W1.heap.size W1.heap.size bs W → bs.length + s.size ≤ 140737488355328 → W1.heap.size ≤ W.heap.size → _) := fun bs s W h1 h2 h3 => Tryd.Builder_WriteString W1.heap.size W1.heap.size bs s W h1 h2 h3
  have HS : Hid (∀ (l : List UInt8) (W : World), Lib.IsBuilder 82 5 W1.heap.size W1.heap.size (Lib.byteCells l) W → W1.heap.size ≤ W.heap.size → _) := fun l W h1 h2 => Tryd.Builder_String_any W1.heap.size W1.heap.size l W h1 h2
  have HBB : Hid (∀ W W', Below W1.heap.size W W' → Below W1.heap.size W W') := fun W W' b => b
  have r1 : W2.cell? ⟨w.heap.size, 1, none⟩ = some (.slice (some ⟨pb, 0, none⟩) n n) := cell_of_block (HRW.out _ HB2.out) rfl
  clear b01
  go_enter Tryd.func37, Tryd.ntmps37
  go_wp2_with fail
  try rw [hW0]
  try rw [hW1]
  try rw [hW2]
  clear hW0 hW1 hW2 r1
  go_loopw [7, 11] (fun _ i wr => ∃ k : Nat, k ≤ n ∧ i = .int .i64 (k : Nat) ∧ Hid (Lib.IsBuilder 82 5 W1.heap.size W1.heap.size (Lib.byteCells ((P.take k).flatMap (wordU []))) wr) ∧ Hid (Below W1.heap.size W1 wr)) (fun _ i _ => n - (intOf i).toNat)
  case atStart => exact ⟨0, by omega, rfl, HI2.out, HB2.out⟩
  case round =>
    obtain ⟨k, hk, rfl, HI, HBr⟩ := hrel
    by_cases hlt : k < n
    · have hlz : (k : Int) < (n : Int) := by omega
      obtain ⟨p, hp⟩ : ∃ p, P[k]? = some p := ⟨_, List.getElem?_eq_getElem (by rw [HN.out]; exact hlt)⟩
      have c0 := HPC.out wr k p HBr.out hp
      have HTP : Hid _ := HTK.out k p hp
      have HZP : Hid _ := HZK.out k p hp
      obtain ⟨A, hA⟩ : ∃ A, (P.take k).flatMap (wordU []) = A := ⟨_, rfl⟩
      rw [hA] at HI HTP HZP
      have hpn := HH.out k p hp
      have hpe : (bOf p).toList.isEmpty = false := nonempty_false hpn
      have HEQ : Hid _ := word_full [] hpn
      have hs1 : ¬ 9223372036854775807 < 1 + (bOf p).size := by
        have h1 := HZP.out
        unfold wordU at h1
        rw [if_neg hpn] at h1
        rw [bOf_size]
        simp only [List.length_cons] at h1
        omega
      clear hp hA hpn
      go_wp2_with fail
      have hbl : (Lib.byteCells A).length + ((⟨#[47]⟩ : ByteArray) ++ bOf p).size ≤ 140737488355328 := by rw [HEQ.out, bOf_size, Lib.byteCells_length]; have := HZP.out; omega
      have HQ := HW.out (Lib.byteCells A) (⟨#[47]⟩ ++ bOf p) wr HI.out hbl (HSW.out _ (HBr.out))
      refine HQ.mono ?_
      clear HQ hbl
      rintro e w3 ⟨rfl, hb3, b3⟩
      have HI3 : Hid (Lib.IsBuilder 82 5 W1.heap.size W1.heap.size (Lib.byteCells ((P.take (k + 1)).flatMap (wordU []))) w3) := by
        refine Or.inr ?_
        rw [HEQ.out, strC, show (bOf (wordU [] p)).data.toList = wordU [] p from rfl, ← byteC_app, ← HTP.out] at hb3
        exact hb3
      have HB4 : Hid (Below W1.heap.size W1 w3) := (HBr.out).trans (HBB.out _ _ b3)
      clear hb3 b3
      go_wp2_with fail
      go_roundw
      case rel => exact ⟨k + 1, by omega, by go_num, HI3.out, HB4.out⟩
      case measure => simp [intOf]; omega
    · have hlz : ¬ (k : Int) < (n : Int) := by omega
      obtain rfl : k = n := by omega
      have hHI := HI.out
      rw [List.take_of_length_le (by rw [HN.out]; exact Nat.le_refl _)] at hHI
      have HIE : Hid _ := hHI
      clear hHI HI
      obtain ⟨A, hA⟩ : ∃ A, P.flatMap (wordU []) = A := ⟨_, rfl⟩
      rw [hA] at HIE HZ
      have hsq : ¬ 9223372036854775807 < (bOf A).size + (bOf Q).size := by rw [bOf_size, bOf_size]; have := HZ.out; have := HQL.out; omega
      have HAQ : Hid (bOf A ++ bOf Q = bOf (P.flatMap (wordU []) ++ Q)) := by rw [Hid, hA]; exact app_bOf A Q
      have HS1 : Hid (∀ W, Below wr.heap.size wr W → _) := fun W b => HS.out A W (isb_below HIE.out b) (Nat.le_trans (HSW.out _ HBr.out) b.size)
      rw [show (⟨A.toArray⟩ : ByteArray) = bOf A from rfl] at HS1
      have HWW : Hid (∀ W, Below W1.heap.size W1 W → _) := fun W b => HWR.out W (below_on HB1.out b)
      have HSS : Hid (∀ W, Below W1.heap.size W1 W → W.cell? ⟨w.heap.size, 9, none⟩ = some (.func (.func 53) #[] #[]) ∧ W.cell? ⟨W0.heap.size, 0, none⟩ = some (.int .i64 xk) ∧ W.cell? ⟨W0.heap.size, 1, none⟩ = some (.string (bOf tok)) ∧ W.cell? ⟨W0.heap.size, 2, none⟩ = some (.string (bOf usr)) ∧ W.cell? ⟨W0.heap.size, 3, none⟩ = some (.int .i64 frm) ∧ W.cell? ⟨W0.heap.size, 4, none⟩ = some (.bool xme)) := fun W b => ⟨cell_of_block (HRW.out W b) rfl, XB.cells (HXW.out W b)⟩
      obtain ⟨r9, x0, x1, x2, x3, x4⟩ := HSS.out wr HBr.out
      have HBD : Hid (Below W1.heap.size W1 wr.drew) := HBr.out.drew
      clear hA
      go_wp2_with fail
      go_region_held (fun W => W.cell? ⟨w.heap.size, 9, none⟩ = some (.func (.func 53) #[] #[]) ∧ W.cell? ⟨W0.heap.size, 0, none⟩ = some (.int .i64 xk) ∧ W.cell? ⟨W0.heap.size, 1, none⟩ = some (.string (bOf tok)) ∧ W.cell? ⟨W0.heap.size, 2, none⟩ = some (.string (bOf usr)) ∧ W.cell? ⟨W0.heap.size, 3, none⟩ = some (.int .i64 frm) ∧ W.cell? ⟨W0.heap.size, 4, none⟩ = some (.bool xme)) (first | assumption | go_keep)
        (first
        | (go_at_call 58; refine (HS1.out _ ((Below.refl _ _).drew.trans b6)).mono ?_; rintro e w5 ⟨rfl, b5⟩; have q5 : Below W1.heap.size W1 w5 := q6.trans b5; have hS5 := HSS.out w5 q5)
        | (go_at_call 53; refine (HWW.out _ q5).mono ?_; rintro e w6 ⟨rfl, b6⟩; have q6 : Below W1.heap.size W1 w6 := q5.trans (b6.mono q5.size); have hS6 := HSS.out w6 q6)
        | (go_at_call 58; refine (HS1.out _ ((Below.refl _ _).drew)).mono ?_; rintro e w5 ⟨rfl, b5⟩; have q5 : Below W1.heap.size W1 w5 := HBD.out.trans b5; have hS5 := HSS.out w5 q5)
        | (go_at_call 53; refine (HWW.out _ HBD.out).mono ?_; rintro e w6 ⟨rfl, b6⟩; have q6 : Below W1.heap.size W1 w6 := HBD.out.trans (b6.mono HBD.out.size); have hS6 := HSS.out w6 q6))
      all_goals
        go_wp2_with fail
        go_ret
        exact ⟨by rw [← HAQ.out]; rfl, by first | exact HB1.out.trans (q6.mono HB1.out.size) | exact HB1.out.trans (q5.mono HB1.out.size)⟩
set_option maxRecDepth 20000 in
set_option maxHeartbeats 16000000 in
theorem print_p8 (meth : List UInt8) (P : List (List UInt8)) (kind : Int) (me : Bool) (pb fr n : Nat) (xk : Int) (tok usr : List UInt8) (frm : Int) (xme : Bool) (Q : List UInt8) (w : World) (HPA : Hid (TextsAt w (some ⟨pb, 0, none⟩) (P.map bOf))) (HN : Hid (P.length = n)) (hpl : n ≤ 1000) (HZ : Hid ((P.flatMap (wordU [])).length ≤ 100000000)) (HH : Hid (∀ (k : Nat) p, P[k]? = some p → p ≠ [])) (HQL : Hid (Q.length ≤ 100))
    (HWR : Hid (∀ W, Below w.heap.size w W → Calls Tryd.prog 55 #[.agg #[.int .i64 xk, .string (bOf tok), .string (bOf usr), .int .i64 frm, .bool xme]] W fun e w' => e = .returned (.string (bOf Q)) ∧ Below W.heap.size W w')) :
    Calls Tryd.prog 37 #[.agg #[.string (bOf meth), .slice (some ⟨pb, 0, none⟩) n n, .int .i64 kind, .string ⟨#[]⟩, .string ⟨#[]⟩, .int .i64 0, .bool me, .nilFunc, .func (.func fr) #[] #[], .func (.func 55) #[] #[]], .agg #[.int .i64 xk, .string (bOf tok), .string (bOf usr), .int .i64 frm, .bool xme]] w fun e w' => e = .returned (.string (bOf (P.flatMap (wordU []) ++ Q))) ∧ Below w.heap.size w w' := by
  have HZK : Hid (∀ (k : Nat) p, P[k]? = some p → ((P.take k).flatMap (wordU [])).length + (wordU [] p).length ≤ 100000000) := fun k p h => Nat.le_trans (word_mem h) HZ.out
  have HTK : Hid (∀ (k : Nat) p, P[k]? = some p → (P.take (k + 1)).flatMap (wordU []) = (P.take k).flatMap (wordU []) ++ wordU [] p) := fun k p h => word_take h
  obtain ⟨W0, hW0⟩ : ∃ W0, w.alloc (.cells #[.string (bOf meth), .slice (some ⟨pb, 0, none⟩) n n, .int .i64 kind, .string ⟨#[]⟩, .string ⟨#[]⟩, .int .i64 0, .bool me, .nilFunc, .func (.func fr) #[] #[], .func (.func 55) #[] #[]] 50) = W0 := ⟨_, rfl⟩
  have HB0 : Hid (Below w.heap.size w W0) := by rw [Hid, ← hW0]; exact below_new _ _
  have HR0 : Hid (W0.heap[w.heap.size]? = some (.cells #[.string (bOf meth), .slice (some ⟨pb, 0, none⟩) n n, .int .i64 kind, .string ⟨#[]⟩, .string ⟨#[]⟩, .int .i64 0, .bool me, .nilFunc, .func (.func fr) #[] #[], .func (.func 55) #[] #[]] 50 (0, 0))) := by rw [Hid, ← hW0]; exact block_alloc_at _ _
  obtain ⟨W1, hW1⟩ : ∃ W1, W0.alloc (.cells #[.int .i64 xk, .string (bOf tok), .string (bOf usr), .int .i64 frm, .bool xme] 23) = W1 := ⟨_, rfl⟩
  have b01 : Below W0.heap.size W0 W1 := by rw [← hW1]; exact below_new _ _
  have HX1 : Hid (XB W1 W0.heap.size ⟨xk, tok, usr, frm, xme⟩) := by rw [Hid, ← hW1]; exact block_alloc_at _ _
  have HR1 : Hid (W1.heap[w.heap.size]? = some (.cells #[.string (bOf meth), .slice (some ⟨pb, 0, none⟩) n n, .int .i64 kind, .string ⟨#[]⟩, .string ⟨#[]⟩, .int .i64 0, .bool me, .nilFunc, .func (.func fr) #[] #[], .func (.func 55) #[] #[]] 50 (0, 0))) := (b01.block _ (Array.getElem?_eq_some_iff.1 HR0.out).1).trans HR0.out
  have HB1 : Hid (Below w.heap.size w W1) := below_on HB0.out b01
  obtain ⟨W2, hW2⟩ : ∃ W2, W1.alloc (.cells #[.pointer none, .slice none 0 0] 82) = W2 := ⟨_, rfl⟩
  have HB2 : Hid (Below W1.heap.size W1 W2) := by rw [Hid, ← hW2]; exact below_new _ _
  have HI2 : Hid (Lib.IsBuilder 82 5 W1.heap.size W1.heap.size (Lib.byteCells ((P.take 0).flatMap (wordU []))) W2) := by rw [Hid, ← hW2]; exact Lib.fresh_isBuilder 82 5 W1
  have HPC : Hid (∀ W (k : Nat) p, Below W1.heap.size W1 W → P[k]? = some p → W.cell? ⟨pb, k, none⟩ = some (.string (bOf p))) := fun W k p b hp => by
    obtain ⟨gb, off, hbo, _, c0⟩ := ((HPA.out.below HB1.out).below b) k (bOf p) (by rw [List.getElem?_map, hp]; rfl)
    obtain ⟨rfl, rfl⟩ : pb = gb ∧ 0 = off := by cases hbo; exact ⟨rfl, rfl⟩
    rw [Nat.zero_add] at c0
    exact c0
  have HRW : Hid (∀ W, Below W1.heap.size W1 W → W.heap[w.heap.size]? = some (.cells #[.string (bOf meth), .slice (some ⟨pb, 0, none⟩) n n, .int .i64 kind, .string ⟨#[]⟩, .string ⟨#[]⟩, .int .i64 0, .bool me, .nilFunc, .func (.func fr) #[] #[], .func (.func 55) #[] #[]] 50 (0, 0))) := fun W b => (b.block _ (Array.getElem?_eq_some_iff.1 HR1.out).1).trans HR1.out
  have HXW : Hid (∀ W, Below W1.heap.size W1 W → XB W W0.heap.size ⟨xk, tok, usr, frm, xme⟩) := fun W b => XB.below HX1.out b
  have HSW : Hid (∀ W, Below W1.heap.size W1 W → W1.heap.size ≤ W.heap.size) := fun W b => b.size
  have HW : Hid (∀ (bs : List Value) (s : ByteArray) (W : World), Lib.IsBuilder 82 5 W1.heap.size W1.heap.size bs W → bs.length + s.size ≤ 140737488355328 → W1.heap.size ≤ W.heap.size → _) := fun bs s W h1 h2 h3 => Tryd.Builder_WriteString W1.heap.size W1.heap.size bs s W h1 h2 h3
  have HS : Hid (∀ (l : List UInt8) (W : World), Lib.IsBuilder 82 5 W1.heap.size W1.heap.size (Lib.byteCells l) W → W1.heap.size ≤ W.heap.size → _) := fun l W h1 h2 => Tryd.Builder_String_any W1.heap.size W1.heap.size l W h1 h2
  have HBB : Hid (∀ W W', Below W1.heap.size W W' → Below W1.heap.size W W') := fun W W' b => b
  have r1 : W2.cell? ⟨w.heap.size, 1, none⟩ = some (.slice (some ⟨pb, 0, none⟩) n n) := cell_of_block (HRW.out _ HB2.out) rfl
  clear b01
  go_enter Tryd.func37, Tryd.ntmps37
  go_wp2_with fail
  try rw [hW0]
  try rw [hW1]
  try rw [hW2]
  clear hW0 hW1 hW2 r1
  go_loopw [7, 11] (fun _ i wr => ∃ k : Nat, k ≤ n ∧ i = .int .i64 (k : Nat) ∧ Hid (Lib.IsBuilder 82 5 W1.heap.size W1.heap.size (Lib.byteCells ((P.take k).flatMap (wordU []))) wr) ∧ Hid (Below W1.heap.size W1 wr)) (fun _ i _ => n - (intOf i).toNat)
  case atStart => exact ⟨0, by omega, rfl, HI2.out, HB2.out⟩
  case round =>
    obtain ⟨k, hk, rfl, HI, HBr⟩ := hrel
    by_cases hlt : k < n
    · have hlz : (k : Int) < (n : Int) := by omega
      obtain ⟨p, hp⟩ : ∃ p, P[k]? = some p := ⟨_, List.getElem?_eq_getElem (by rw [HN.out]; exact hlt)⟩
      have c0 := HPC.out wr k p HBr.out hp
      have HTP : Hid _ := HTK.out k p hp
      have HZP : Hid _ := HZK.out k p hp
      obtain ⟨A, hA⟩ : ∃ A, (P.take k).flatMap (wordU []) = A := ⟨_, rfl⟩
      rw [hA] at HI HTP HZP
      have hpn := HH.out k p hp
      have hpe : (bOf p).toList.isEmpty = false := nonempty_false hpn
      have HEQ : Hid _ := word_full [] hpn
      have hs1 : ¬ 9223372036854775807 < 1 + (bOf p).size := by
        have h1 := HZP.out
        unfold wordU at h1
        rw [if_neg hpn] at h1
        rw [bOf_size]
        simp only [List.length_cons] at h1
        omega
      clear hp hA hpn
      go_wp2_with fail
      have hbl : (Lib.byteCells A).length + ((⟨#[47]⟩ : ByteArray) ++ bOf p).size ≤ 140737488355328 := by rw [HEQ.out, bOf_size, Lib.byteCells_length]; have := HZP.out; omega
      have HQ := HW.out (Lib.byteCells A) (⟨#[47]⟩ ++ bOf p) wr HI.out hbl (HSW.out _ (HBr.out))
      refine HQ.mono ?_
      clear HQ hbl
      rintro e w3 ⟨rfl, hb3, b3⟩
      have HI3 : Hid (Lib.IsBuilder 82 5 W1.heap.size W1.heap.size (Lib.byteCells ((P.take (k + 1)).flatMap (wordU []))) w3) := by
        refine Or.inr ?_
        rw [HEQ.out, strC, show (bOf (wordU [] p)).data.toList = wordU [] p from rfl, ← byteC_app, ← HTP.out] at hb3
        exact hb3
      have HB4 : Hid (Below W1.heap.size W1 w3) := (HBr.out).trans (HBB.out _ _ b3)
      clear hb3 b3
      go_wp2_with fail
      go_roundw
      case rel => exact ⟨k + 1, by omega, by go_num, HI3.out, HB4.out⟩
      case measure => simp [intOf]; omega
    · have hlz : ¬ (k : Int) < (n : Int) := by omega
      obtain rfl : k = n := by omega
      have hHI := HI.out
      rw [List.take_of_length_le (by rw [HN.out]; exact Nat.le_refl _)] at hHI
      have HIE : Hid _ := hHI
      clear hHI HI
      obtain ⟨A, hA⟩ : ∃ A, P.flatMap (wordU []) = A := ⟨_, rfl⟩
      rw [hA] at HIE HZ
      have hsq : ¬ 9223372036854775807 < (bOf A).size + (bOf Q).size := by rw [bOf_size, bOf_size]; have := HZ.out; have := HQL.out; omega
      have HAQ : Hid (bOf A ++ bOf Q = bOf (P.flatMap (wordU []) ++ Q)) := by rw [Hid, hA]; exact app_bOf A Q
      have HS1 : Hid (∀ W, Below wr.heap.size wr W → _) := fun W b => HS.out A W (isb_below HIE.out b) (Nat.le_trans (HSW.out _ HBr.out) b.size)
      rw [show (⟨A.toArray⟩ : ByteArray) = bOf A from rfl] at HS1
      have HWW : Hid (∀ W, Below W1.heap.size W1 W → _) := fun W b => HWR.out W (below_on HB1.out b)
      have HSS : Hid (∀ W, Below W1.heap.size W1 W → W.cell? ⟨w.heap.size, 9, none⟩ = some (.func (.func 55) #[] #[]) ∧ W.cell? ⟨W0.heap.size, 0, none⟩ = some (.int .i64 xk) ∧ W.cell? ⟨W0.heap.size, 1, none⟩ = some (.string (bOf tok)) ∧ W.cell? ⟨W0.heap.size, 2, none⟩ = some (.string (bOf usr)) ∧ W.cell? ⟨W0.heap.size, 3, none⟩ = some (.int .i64 frm) ∧ W.cell? ⟨W0.heap.size, 4, none⟩ = some (.bool xme)) := fun W b => ⟨cell_of_block (HRW.out W b) rfl, XB.cells (HXW.out W b)⟩
      obtain ⟨r9, x0, x1, x2, x3, x4⟩ := HSS.out wr HBr.out
      have HBD : Hid (Below W1.heap.size W1 wr.drew) := HBr.out.drew
      clear hA
      go_wp2_with fail
      go_region_held (fun W => W.cell? ⟨w.heap.size, 9, none⟩ = some (.func (.func 55) #[] #[]) ∧ W.cell? ⟨W0.heap.size, 0, none⟩ = some (.int .i64 xk) ∧ W.cell? ⟨W0.heap.size, 1, none⟩ = some (.string (bOf tok)) ∧ W.cell? ⟨W0.heap.size, 2, none⟩ = some (.string (bOf usr)) ∧ W.cell? ⟨W0.heap.size, 3, none⟩ = some (.int .i64 frm) ∧ W.cell? ⟨W0.heap.size, 4, none⟩ = some (.bool xme)) (first | assumption | go_keep)
        (first
        | (go_at_call 58; refine (HS1.out _ ((Below.refl _ _).drew.trans b6)).mono ?_; rintro e w5 ⟨rfl, b5⟩; have q5 : Below W1.heap.size W1 w5 := q6.trans b5; have hS5 := HSS.out w5 q5)
        | (go_at_call 55; refine (HWW.out _ q5).mono ?_; rintro e w6 ⟨rfl, b6⟩; have q6 : Below W1.heap.size W1 w6 := q5.trans (b6.mono q5.size); have hS6 := HSS.out w6 q6)
        | (go_at_call 58; refine (HS1.out _ ((Below.refl _ _).drew)).mono ?_; rintro e w5 ⟨rfl, b5⟩; have q5 : Below W1.heap.size W1 w5 := HBD.out.trans b5; have hS5 := HSS.out w5 q5)
        | (go_at_call 55; refine (HWW.out _ HBD.out).mono ?_; rintro e w6 ⟨rfl, b6⟩; have q6 : Below W1.heap.size W1 w6 := HBD.out.trans (b6.mono HBD.out.size); have hS6 := HSS.out w6 q6))
      all_goals
        go_wp2_with fail
        go_ret
        exact ⟨by rw [← HAQ.out]; rfl, by first | exact HB1.out.trans (q6.mono HB1.out.size) | exact HB1.out.trans (q5.mono HB1.out.size)⟩
set_option maxRecDepth 20000 in
set_option maxHeartbeats 16000000 in
theorem print_p1 (meth : List UInt8) (P : List (List UInt8)) (kind : Int) (me : Bool) (pb fr n : Nat) (xk : Int) (tok usr : List UInt8) (frm : Int) (xme : Bool) (Q : List UInt8) (w : World) (HPA : Hid (TextsAt w (some ⟨pb, 0, none⟩) (P.map bOf))) (HN : Hid (P.length = n)) (hpl : n ≤ 1000) (HZ : Hid ((P.flatMap (wordU tok)).length ≤ 100000000)) (hu : tok.length ≤ 10000000) (HQL : Hid (Q.length ≤ 100))
    (HWR : Hid (∀ W, Below w.heap.size w W → Calls Tryd.prog 53 #[.agg #[.int .i64 xk, .string (bOf tok), .string (bOf usr), .int .i64 frm, .bool xme]] W fun e w' => e = .returned (.string (bOf Q)) ∧ Below W.heap.size W w')) :
    Calls Tryd.prog 37 #[.agg #[.string (bOf meth), .slice (some ⟨pb, 0, none⟩) n n, .int .i64 kind, .string ⟨#[]⟩, .string ⟨#[]⟩, .int .i64 0, .bool me, .func (.func 49) #[] #[], .func (.func fr) #[] #[], .func (.func 53) #[] #[]], .agg #[.int .i64 xk, .string (bOf tok), .string (bOf usr), .int .i64 frm, .bool xme]] w fun e w' => e = .returned (.string (bOf (P.flatMap (wordU tok) ++ Q))) ∧ Below w.heap.size w w' := by
  have HZK : Hid (∀ (k : Nat) p, P[k]? = some p → ((P.take k).flatMap (wordU tok)).length + (wordU tok p).length ≤ 100000000) := fun k p h => Nat.le_trans (word_mem h) HZ.out
  have HTK : Hid (∀ (k : Nat) p, P[k]? = some p → (P.take (k + 1)).flatMap (wordU tok) = (P.take k).flatMap (wordU tok) ++ wordU tok p) := fun k p h => word_take h
  obtain ⟨W0, hW0⟩ : ∃ W0, w.alloc (.cells #[.string (bOf meth), .slice (some ⟨pb, 0, none⟩) n n, .int .i64 kind, .string ⟨#[]⟩, .string ⟨#[]⟩, .int .i64 0, .bool me, .func (.func 49) #[] #[], .func (.func fr) #[] #[], .func (.func 53) #[] #[]] 50) = W0 := ⟨_, rfl⟩
  have HB0 : Hid (Below w.heap.size w W0) := by rw [Hid, ← hW0]; exact below_new _ _
  have HR0 : Hid (W0.heap[w.heap.size]? = some (.cells #[.string (bOf meth), .slice (some ⟨pb, 0, none⟩) n n, .int .i64 kind, .string ⟨#[]⟩, .string ⟨#[]⟩, .int .i64 0, .bool me, .func (.func 49) #[] #[], .func (.func fr) #[] #[], .func (.func 53) #[] #[]] 50 (0, 0))) := by rw [Hid, ← hW0]; exact block_alloc_at _ _
  obtain ⟨W1, hW1⟩ : ∃ W1, W0.alloc (.cells #[.int .i64 xk, .string (bOf tok), .string (bOf usr), .int .i64 frm, .bool xme] 23) = W1 := ⟨_, rfl⟩
  have b01 : Below W0.heap.size W0 W1 := by rw [← hW1]; exact below_new _ _
  have HX1 : Hid (XB W1 W0.heap.size ⟨xk, tok, usr, frm, xme⟩) := by rw [Hid, ← hW1]; exact block_alloc_at _ _
  have HR1 : Hid (W1.heap[w.heap.size]? = some (.cells #[.string (bOf meth), .slice (some ⟨pb, 0, none⟩) n n, .int .i64 kind, .string ⟨#[]⟩, .string ⟨#[]⟩, .int .i64 0, .bool me, .func (.func 49) #[] #[], .func (.func fr) #[] #[], .func (.func 53) #[] #[]] 50 (0, 0))) := (b01.block _ (Array.getElem?_eq_some_iff.1 HR0.out).1).trans HR0.out
  have HB1 : Hid (Below w.heap.size w W1) := below_on HB0.out b01
  obtain ⟨W2, hW2⟩ : ∃ W2, W1.alloc (.cells #[.pointer none, .slice none 0 0] 82) = W2 := ⟨_, rfl⟩
  have HB2 : Hid (Below W1.heap.size W1 W2) := by rw [Hid, ← hW2]; exact below_new _ _
  have HI2 : Hid (Lib.IsBuilder 82 5 W1.heap.size W1.heap.size (Lib.byteCells ((P.take 0).flatMap (wordU tok))) W2) := by rw [Hid, ← hW2]; exact Lib.fresh_isBuilder 82 5 W1
  have HPC : Hid (∀ W (k : Nat) p, Below W1.heap.size W1 W → P[k]? = some p → W.cell? ⟨pb, k, none⟩ = some (.string (bOf p))) := fun W k p b hp => by
    obtain ⟨gb, off, hbo, _, c0⟩ := ((HPA.out.below HB1.out).below b) k (bOf p) (by rw [List.getElem?_map, hp]; rfl)
    obtain ⟨rfl, rfl⟩ : pb = gb ∧ 0 = off := by cases hbo; exact ⟨rfl, rfl⟩
    rw [Nat.zero_add] at c0
    exact c0
  have HRW : Hid (∀ W, Below W1.heap.size W1 W → W.heap[w.heap.size]? = some (.cells #[.string (bOf meth), .slice (some ⟨pb, 0, none⟩) n n, .int .i64 kind, .string ⟨#[]⟩, .string ⟨#[]⟩, .int .i64 0, .bool me, .func (.func 49) #[] #[], .func (.func fr) #[] #[], .func (.func 53) #[] #[]] 50 (0, 0))) := fun W b => (b.block _ (Array.getElem?_eq_some_iff.1 HR1.out).1).trans HR1.out
  have HXW : Hid (∀ W, Below W1.heap.size W1 W → XB W W0.heap.size ⟨xk, tok, usr, frm, xme⟩) := fun W b => XB.below HX1.out b
  have HSW : Hid (∀ W, Below W1.heap.size W1 W → W1.heap.size ≤ W.heap.size) := fun W b => b.size
  have HW : Hid (∀ (bs : List Value) (s : ByteArray) (W : World), Lib.IsBuilder 82 5 W1.heap.size W1.heap.size bs W → bs.length + s.size ≤ 140737488355328 → W1.heap.size ≤ W.heap.size → _) := fun bs s W h1 h2 h3 => Tryd.Builder_WriteString W1.heap.size W1.heap.size bs s W h1 h2 h3
  have HS : Hid (∀ (l : List UInt8) (W : World), Lib.IsBuilder 82 5 W1.heap.size W1.heap.size (Lib.byteCells l) W → W1.heap.size ≤ W.heap.size → _) := fun l W h1 h2 => Tryd.Builder_String_any W1.heap.size W1.heap.size l W h1 h2
  have HBB : Hid (∀ W W', Below W1.heap.size W W' → Below W1.heap.size W W') := fun W W' b => b
  have r1 : W2.cell? ⟨w.heap.size, 1, none⟩ = some (.slice (some ⟨pb, 0, none⟩) n n) := cell_of_block (HRW.out _ HB2.out) rfl
  clear b01
  go_enter Tryd.func37, Tryd.ntmps37
  go_wp2_with fail
  try rw [hW0]
  try rw [hW1]
  try rw [hW2]
  clear hW0 hW1 hW2 r1
  go_loopw [7, 11] (fun _ i wr => ∃ k : Nat, k ≤ n ∧ i = .int .i64 (k : Nat) ∧ Hid (Lib.IsBuilder 82 5 W1.heap.size W1.heap.size (Lib.byteCells ((P.take k).flatMap (wordU tok))) wr) ∧ Hid (Below W1.heap.size W1 wr)) (fun _ i _ => n - (intOf i).toNat)
  case atStart => exact ⟨0, by omega, rfl, HI2.out, HB2.out⟩
  case round =>
    obtain ⟨k, hk, rfl, HI, HBr⟩ := hrel
    by_cases hlt : k < n
    · have hlz : (k : Int) < (n : Int) := by omega
      obtain ⟨p, hp⟩ : ∃ p, P[k]? = some p := ⟨_, List.getElem?_eq_getElem (by rw [HN.out]; exact hlt)⟩
      have c0 := HPC.out wr k p HBr.out hp
      have HTP : Hid _ := HTK.out k p hp
      have HZP : Hid _ := HZK.out k p hp
      obtain ⟨A, hA⟩ : ∃ A, (P.take k).flatMap (wordU tok) = A := ⟨_, rfl⟩
      rw [hA] at HI HTP HZP
      by_cases hpn : p = []
      · subst hpn
        have hpe : (bOf []).toList.isEmpty = true := bOf_empty []
        have HEQ : Hid _ := word_hole tok
        have r7 : wr.cell? ⟨w.heap.size, 7, none⟩ = some (.func (.func 49) #[] #[]) := cell_of_block (HRW.out wr HBr.out) rfl
        obtain ⟨x0, x1, x2, x3, x4⟩ := XB.cells (HXW.out wr HBr.out)
        simp only at x0 x1 x2 x3 x4
        have H1 : Hid (∀ W : World, _) := fun W => part1_any W0.heap.size W
        have H2 : Hid (∀ W : World, _) := fun W => escape_any (bOf tok) W (by rw [bOf_size]; omega)
        rw [show (bOf tok).data.toList = tok from rfl, show (⟨(escOf tok).toArray⟩ : ByteArray) = bOf (escOf tok) from rfl] at H2
        have hs1 : ¬ 9223372036854775807 < 1 + (bOf (escOf tok)).size := by
          rw [bOf_size]
          have := escOf_len tok
          omega
        obtain ⟨E, hE⟩ : ∃ E, bOf (escOf tok) = E := ⟨_, rfl⟩
        rw [hE] at H2 HEQ hs1
        clear hp hA hE
        go_wp2_with fail
        refine (H1.out _).mono ?_
        rintro e w4 ⟨rfl, hw4⟩
        rw [hw4]
        clear hw4 w4
        go_wp2_with fail
        refine (H2.out _).mono ?_
        rintro e w5 ⟨rfl, b5⟩
        have HI5 : Hid (Lib.IsBuilder 82 5 W1.heap.size W1.heap.size (Lib.byteCells A) w5) := isb_below HI.out b5
        have HB5 : Hid (Below W1.heap.size W1 w5) := HBr.out.trans (b5.mono HBr.out.size)
        clear b5 x0 x1 x2 x3 x4 r7
        go_wp2_with fail
        have hbl : (Lib.byteCells A).length + ((⟨#[47]⟩ : ByteArray) ++ E).size ≤ 140737488355328 := by rw [HEQ.out, bOf_size, Lib.byteCells_length]; have := HZP.out; omega
        have HQ := HW.out (Lib.byteCells A) (⟨#[47]⟩ ++ E) w5 HI5.out hbl (HSW.out _ (HB5.out))
        refine HQ.mono ?_
        clear HQ hbl
        rintro e w3 ⟨rfl, hb3, b3⟩
        have HI3 : Hid (Lib.IsBuilder 82 5 W1.heap.size W1.heap.size (Lib.byteCells ((P.take (k + 1)).flatMap (wordU tok))) w3) := by
          refine Or.inr ?_
          rw [HEQ.out, strC, show (bOf (wordU tok [])).data.toList = wordU tok [] from rfl, ← byteC_app, ← HTP.out] at hb3
          exact hb3
        have HB4 : Hid (Below W1.heap.size W1 w3) := (HB5.out).trans (HBB.out _ _ b3)
        clear hb3 b3
        go_wp2_with fail
        go_roundw
        case rel => exact ⟨k + 1, by omega, by go_num, HI3.out, HB4.out⟩
        case measure => simp [intOf]; omega
      · have hpe : (bOf p).toList.isEmpty = false := nonempty_false hpn
        have HEQ : Hid _ := word_full tok hpn
        have hs1 : ¬ 9223372036854775807 < 1 + (bOf p).size := by
          have h1 := HZP.out
          unfold wordU at h1
          rw [if_neg hpn] at h1
          rw [bOf_size]
          simp only [List.length_cons] at h1
          omega
        clear hp hA hpn
        go_wp2_with fail
        have hbl : (Lib.byteCells A).length + ((⟨#[47]⟩ : ByteArray) ++ bOf p).size ≤ 140737488355328 := by rw [HEQ.out, bOf_size, Lib.byteCells_length]; have := HZP.out; omega
        have HQ := HW.out (Lib.byteCells A) (⟨#[47]⟩ ++ bOf p) wr HI.out hbl (HSW.out _ (HBr.out))
        refine HQ.mono ?_
        clear HQ hbl
        rintro e w3 ⟨rfl, hb3, b3⟩
        have HI3 : Hid (Lib.IsBuilder 82 5 W1.heap.size W1.heap.size (Lib.byteCells ((P.take (k + 1)).flatMap (wordU tok))) w3) := by
          refine Or.inr ?_
          rw [HEQ.out, strC, show (bOf (wordU tok p)).data.toList = wordU tok p from rfl, ← byteC_app, ← HTP.out] at hb3
          exact hb3
        have HB4 : Hid (Below W1.heap.size W1 w3) := (HBr.out).trans (HBB.out _ _ b3)
        clear hb3 b3
        go_wp2_with fail
        go_roundw
        case rel => exact ⟨k + 1, by omega, by go_num, HI3.out, HB4.out⟩
        case measure => simp [intOf]; omega
    · have hlz : ¬ (k : Int) < (n : Int) := by omega
      obtain rfl : k = n := by omega
      have hHI := HI.out
      rw [List.take_of_length_le (by rw [HN.out]; exact Nat.le_refl _)] at hHI
      have HIE : Hid _ := hHI
      clear hHI HI
      obtain ⟨A, hA⟩ : ∃ A, P.flatMap (wordU tok) = A := ⟨_, rfl⟩
      rw [hA] at HIE HZ
      have hsq : ¬ 9223372036854775807 < (bOf A).size + (bOf Q).size := by rw [bOf_size, bOf_size]; have := HZ.out; have := HQL.out; omega
      have HAQ : Hid (bOf A ++ bOf Q = bOf (P.flatMap (wordU tok) ++ Q)) := by rw [Hid, hA]; exact app_bOf A Q
      have HS1 : Hid (∀ W, Below wr.heap.size wr W → _) := fun W b => HS.out A W (isb_below HIE.out b) (Nat.le_trans (HSW.out _ HBr.out) b.size)
      rw [show (⟨A.toArray⟩ : ByteArray) = bOf A from rfl] at HS1
      have HWW : Hid (∀ W, Below W1.heap.size W1 W → _) := fun W b => HWR.out W (below_on HB1.out b)
      have HSS : Hid (∀ W, Below W1.heap.size W1 W → W.cell? ⟨w.heap.size, 9, none⟩ = some (.func (.func 53) #[] #[]) ∧ W.cell? ⟨W0.heap.size, 0, none⟩ = some (.int .i64 xk) ∧ W.cell? ⟨W0.heap.size, 1, none⟩ = some (.string (bOf tok)) ∧ W.cell? ⟨W0.heap.size, 2, none⟩ = some (.string (bOf usr)) ∧ W.cell? ⟨W0.heap.size, 3, none⟩ = some (.int .i64 frm) ∧ W.cell? ⟨W0.heap.size, 4, none⟩ = some (.bool xme)) := fun W b => ⟨cell_of_block (HRW.out W b) rfl, XB.cells (HXW.out W b)⟩
      obtain ⟨r9, x0, x1, x2, x3, x4⟩ := HSS.out wr HBr.out
      have HBD : Hid (Below W1.heap.size W1 wr.drew) := HBr.out.drew
      clear hA
      go_wp2_with fail
      go_region_held (fun W => W.cell? ⟨w.heap.size, 9, none⟩ = some (.func (.func 53) #[] #[]) ∧ W.cell? ⟨W0.heap.size, 0, none⟩ = some (.int .i64 xk) ∧ W.cell? ⟨W0.heap.size, 1, none⟩ = some (.string (bOf tok)) ∧ W.cell? ⟨W0.heap.size, 2, none⟩ = some (.string (bOf usr)) ∧ W.cell? ⟨W0.heap.size, 3, none⟩ = some (.int .i64 frm) ∧ W.cell? ⟨W0.heap.size, 4, none⟩ = some (.bool xme)) (first | assumption | go_keep)
        (first
        | (go_at_call 58; refine (HS1.out _ ((Below.refl _ _).drew.trans b6)).mono ?_; rintro e w5 ⟨rfl, b5⟩; have q5 : Below W1.heap.size W1 w5 := q6.trans b5; have hS5 := HSS.out w5 q5)
        | (go_at_call 53; refine (HWW.out _ q5).mono ?_; rintro e w6 ⟨rfl, b6⟩; have q6 : Below W1.heap.size W1 w6 := q5.trans (b6.mono q5.size); have hS6 := HSS.out w6 q6)
        | (go_at_call 58; refine (HS1.out _ ((Below.refl _ _).drew)).mono ?_; rintro e w5 ⟨rfl, b5⟩; have q5 : Below W1.heap.size W1 w5 := HBD.out.trans b5; have hS5 := HSS.out w5 q5)
        | (go_at_call 53; refine (HWW.out _ HBD.out).mono ?_; rintro e w6 ⟨rfl, b6⟩; have q6 : Below W1.heap.size W1 w6 := HBD.out.trans (b6.mono HBD.out.size); have hS6 := HSS.out w6 q6))
      all_goals
        go_wp2_with fail
        go_ret
        exact ⟨by rw [← HAQ.out]; rfl, by first | exact HB1.out.trans (q6.mono HB1.out.size) | exact HB1.out.trans (q5.mono HB1.out.size)⟩
set_option maxRecDepth 20000 in
set_option maxHeartbeats 16000000 in
theorem print_p2 (meth : List UInt8) (P : List (List UInt8)) (kind : Int) (me : Bool) (pb fr n : Nat) (xk : Int) (tok usr : List UInt8) (frm : Int) (xme : Bool) (Q : List UInt8) (w : World) (HPA : Hid (TextsAt w (some ⟨pb, 0, none⟩) (P.map bOf))) (HN : Hid (P.length = n)) (hpl : n ≤ 1000) (HZ : Hid ((P.flatMap (wordU usr)).length ≤ 100000000)) (hu : usr.length ≤ 10000000) (HQL : Hid (Q.length ≤ 100))
    (HWR : Hid (∀ W, Below w.heap.size w W → Calls Tryd.prog 53 #[.agg #[.int .i64 xk, .string (bOf tok), .string (bOf usr), .int .i64 frm, .bool xme]] W fun e w' => e = .returned (.string (bOf Q)) ∧ Below W.heap.size W w')) :
    Calls Tryd.prog 37 #[.agg #[.string (bOf meth), .slice (some ⟨pb, 0, none⟩) n n, .int .i64 kind, .string ⟨#[]⟩, .string ⟨#[]⟩, .int .i64 0, .bool me, .func (.func 50) #[] #[], .func (.func fr) #[] #[], .func (.func 53) #[] #[]], .agg #[.int .i64 xk, .string (bOf tok), .string (bOf usr), .int .i64 frm, .bool xme]] w fun e w' => e = .returned (.string (bOf (P.flatMap (wordU usr) ++ Q))) ∧ Below w.heap.size w w' := by
  have HZK : Hid (∀ (k : Nat) p, P[k]? = some p → ((P.take k).flatMap (wordU usr)).length + (wordU usr p).length ≤ 100000000) := fun k p h => Nat.le_trans (word_mem h) HZ.out
  have HTK : Hid (∀ (k : Nat) p, P[k]? = some p → (P.take (k + 1)).flatMap (wordU usr) = (P.take k).flatMap (wordU usr) ++ wordU usr p) := fun k p h => word_take h
  obtain ⟨W0, hW0⟩ : ∃ W0, w.alloc (.cells #[.string (bOf meth), .slice (some ⟨pb, 0, none⟩) n n, .int .i64 kind, .string ⟨#[]⟩, .string ⟨#[]⟩, .int .i64 0, .bool me, .func (.func 50) #[] #[], .func (.func fr) #[] #[], .func (.func 53) #[] #[]] 50) = W0 := ⟨_, rfl⟩
  have HB0 : Hid (Below w.heap.size w W0) := by rw [Hid, ← hW0]; exact below_new _ _
  have HR0 : Hid (W0.heap[w.heap.size]? = some (.cells #[.string (bOf meth), .slice (some ⟨pb, 0, none⟩) n n, .int .i64 kind, .string ⟨#[]⟩, .string ⟨#[]⟩, .int .i64 0, .bool me, .func (.func 50) #[] #[], .func (.func fr) #[] #[], .func (.func 53) #[] #[]] 50 (0, 0))) := by rw [Hid, ← hW0]; exact block_alloc_at _ _
  obtain ⟨W1, hW1⟩ : ∃ W1, W0.alloc (.cells #[.int .i64 xk, .string (bOf tok), .string (bOf usr), .int .i64 frm, .bool xme] 23) = W1 := ⟨_, rfl⟩
  have b01 : Below W0.heap.size W0 W1 := by rw [← hW1]; exact below_new _ _
  have HX1 : Hid (XB W1 W0.heap.size ⟨xk, tok, usr, frm, xme⟩) := by rw [Hid, ← hW1]; exact block_alloc_at _ _
  have HR1 : Hid (W1.heap[w.heap.size]? = some (.cells #[.string (bOf meth), .slice (some ⟨pb, 0, none⟩) n n, .int .i64 kind, .string ⟨#[]⟩, .string ⟨#[]⟩, .int .i64 0, .bool me, .func (.func 50) #[] #[], .func (.func fr) #[] #[], .func (.func 53) #[] #[]] 50 (0, 0))) := (b01.block _ (Array.getElem?_eq_some_iff.1 HR0.out).1).trans HR0.out
  have HB1 : Hid (Below w.heap.size w W1) := below_on HB0.out b01
  obtain ⟨W2, hW2⟩ : ∃ W2, W1.alloc (.cells #[.pointer none, .slice none 0 0] 82) = W2 := ⟨_, rfl⟩
  have HB2 : Hid (Below W1.heap.size W1 W2) := by rw [Hid, ← hW2]; exact below_new _ _
  have HI2 : Hid (Lib.IsBuilder 82 5 W1.heap.size W1.heap.size (Lib.byteCells ((P.take 0).flatMap (wordU usr))) W2) := by rw [Hid, ← hW2]; exact Lib.fresh_isBuilder 82 5 W1
  have HPC : Hid (∀ W (k : Nat) p, Below W1.heap.size W1 W → P[k]? = some p → W.cell? ⟨pb, k, none⟩ = some (.string (bOf p))) := fun W k p b hp => by
    obtain ⟨gb, off, hbo, _, c0⟩ := ((HPA.out.below HB1.out).below b) k (bOf p) (by rw [List.getElem?_map, hp]; rfl)
    obtain ⟨rfl, rfl⟩ : pb = gb ∧ 0 = off := by cases hbo; exact ⟨rfl, rfl⟩
    rw [Nat.zero_add] at c0
    exact c0
  have HRW : Hid (∀ W, Below W1.heap.size W1 W → W.heap[w.heap.size]? = some (.cells #[.string (bOf meth), .slice (some ⟨pb, 0, none⟩) n n, .int .i64 kind, .string ⟨#[]⟩, .string ⟨#[]⟩, .int .i64 0, .bool me, .func (.func 50) #[] #[], .func (.func fr) #[] #[], .func (.func 53) #[] #[]] 50 (0, 0))) := fun W b => (b.block _ (Array.getElem?_eq_some_iff.1 HR1.out).1).trans HR1.out
  have HXW : Hid (∀ W, Below W1.heap.size W1 W → XB W W0.heap.size ⟨xk, tok, usr, frm, xme⟩) := fun W b => XB.below HX1.out b
  have HSW : Hid (∀ W, Below W1.heap.size W1 W → W1.heap.size ≤ W.heap.size) := fun W b => b.size
  have HW : Hid (∀ (bs : List Value) (s : ByteArray) (W : World), Lib.IsBuilder 82 5 W1.heap.size W1.heap.size bs W → bs.length + s.size ≤ 140737488355328 → W1.heap.size ≤ W.heap.size → _) := fun bs s W h1 h2 h3 => Tryd.Builder_WriteString W1.heap.size W1.heap.size bs s W h1 h2 h3
  have HS : Hid (∀ (l : List UInt8) (W : World), Lib.IsBuilder 82 5 W1.heap.size W1.heap.size (Lib.byteCells l) W → W1.heap.size ≤ W.heap.size → _) := fun l W h1 h2 => Tryd.Builder_String_any W1.heap.size W1.heap.size l W h1 h2
  have HBB : Hid (∀ W W', Below W1.heap.size W W' → Below W1.heap.size W W') := fun W W' b => b
  have r1 : W2.cell? ⟨w.heap.size, 1, none⟩ = some (.slice (some ⟨pb, 0, none⟩) n n) := cell_of_block (HRW.out _ HB2.out) rfl
  clear b01
  go_enter Tryd.func37, Tryd.ntmps37
  go_wp2_with fail
  try rw [hW0]
  try rw [hW1]
  try rw [hW2]
  clear hW0 hW1 hW2 r1
  go_loopw [7, 11] (fun _ i wr => ∃ k : Nat, k ≤ n ∧ i = .int .i64 (k : Nat) ∧ Hid (Lib.IsBuilder 82 5 W1.heap.size W1.heap.size (Lib.byteCells ((P.take k).flatMap (wordU usr))) wr) ∧ Hid (Below W1.heap.size W1 wr)) (fun _ i _ => n - (intOf i).toNat)
  case atStart => exact ⟨0, by omega, rfl, HI2.out, HB2.out⟩
  case round =>
    obtain ⟨k, hk, rfl, HI, HBr⟩ := hrel
    by_cases hlt : k < n
    · have hlz : (k : Int) < (n : Int) := by omega
      obtain ⟨p, hp⟩ : ∃ p, P[k]? = some p := ⟨_, List.getElem?_eq_getElem (by rw [HN.out]; exact hlt)⟩
      have c0 := HPC.out wr k p HBr.out hp
      have HTP : Hid _ := HTK.out k p hp
      have HZP : Hid _ := HZK.out k p hp
      obtain ⟨A, hA⟩ : ∃ A, (P.take k).flatMap (wordU usr) = A := ⟨_, rfl⟩
      rw [hA] at HI HTP HZP
      by_cases hpn : p = []
      · subst hpn
        have hpe : (bOf []).toList.isEmpty = true := bOf_empty []
        have HEQ : Hid _ := word_hole usr
        have r7 : wr.cell? ⟨w.heap.size, 7, none⟩ = some (.func (.func 50) #[] #[]) := cell_of_block (HRW.out wr HBr.out) rfl
        obtain ⟨x0, x1, x2, x3, x4⟩ := XB.cells (HXW.out wr HBr.out)
        simp only at x0 x1 x2 x3 x4
        have H1 : Hid (∀ W : World, _) := fun W => part2_any W0.heap.size W
        have H2 : Hid (∀ W : World, _) := fun W => escape_any (bOf usr) W (by rw [bOf_size]; omega)
        rw [show (bOf usr).data.toList = usr from rfl, show (⟨(escOf usr).toArray⟩ : ByteArray) = bOf (escOf usr) from rfl] at H2
        have hs1 : ¬ 9223372036854775807 < 1 + (bOf (escOf usr)).size := by
          rw [bOf_size]
          have := escOf_len usr
          omega
        obtain ⟨E, hE⟩ : ∃ E, bOf (escOf usr) = E := ⟨_, rfl⟩
        rw [hE] at H2 HEQ hs1
        clear hp hA hE
        go_wp2_with fail
        refine (H1.out _).mono ?_
        rintro e w4 ⟨rfl, hw4⟩
        rw [hw4]
        clear hw4 w4
        go_wp2_with fail
        refine (H2.out _).mono ?_
        rintro e w5 ⟨rfl, b5⟩
        have HI5 : Hid (Lib.IsBuilder 82 5 W1.heap.size W1.heap.size (Lib.byteCells A) w5) := isb_below HI.out b5
        have HB5 : Hid (Below W1.heap.size W1 w5) := HBr.out.trans (b5.mono HBr.out.size)
        clear b5 x0 x1 x2 x3 x4 r7
        go_wp2_with fail
        have hbl : (Lib.byteCells A).length + ((⟨#[47]⟩ : ByteArray) ++ E).size ≤ 140737488355328 := by rw [HEQ.out, bOf_size, Lib.byteCells_length]; have := HZP.out; omega
        have HQ := HW.out (Lib.byteCells A) (⟨#[47]⟩ ++ E) w5 HI5.out hbl (HSW.out _ (HB5.out))
        refine HQ.mono ?_
        clear HQ hbl
        rintro e w3 ⟨rfl, hb3, b3⟩
        have HI3 : Hid (Lib.IsBuilder 82 5 W1.heap.size W1.heap.size (Lib.byteCells ((P.take (k + 1)).flatMap (wordU usr))) w3) := by
          refine Or.inr ?_
          rw [HEQ.out, strC, show (bOf (wordU usr [])).data.toList = wordU usr [] from rfl, ← byteC_app, ← HTP.out] at hb3
          exact hb3
        have HB4 : Hid (Below W1.heap.size W1 w3) := (HB5.out).trans (HBB.out _ _ b3)
        clear hb3 b3
        go_wp2_with fail
        go_roundw
        case rel => exact ⟨k + 1, by omega, by go_num, HI3.out, HB4.out⟩
        case measure => simp [intOf]; omega
      · have hpe : (bOf p).toList.isEmpty = false := nonempty_false hpn
        have HEQ : Hid _ := word_full usr hpn
        have hs1 : ¬ 9223372036854775807 < 1 + (bOf p).size := by
          have h1 := HZP.out
          unfold wordU at h1
          rw [if_neg hpn] at h1
          rw [bOf_size]
          simp only [List.length_cons] at h1
          omega
        clear hp hA hpn
        go_wp2_with fail
        have hbl : (Lib.byteCells A).length + ((⟨#[47]⟩ : ByteArray) ++ bOf p).size ≤ 140737488355328 := by rw [HEQ.out, bOf_size, Lib.byteCells_length]; have := HZP.out; omega
        have HQ := HW.out (Lib.byteCells A) (⟨#[47]⟩ ++ bOf p) wr HI.out hbl (HSW.out _ (HBr.out))
        refine HQ.mono ?_
        clear HQ hbl
        rintro e w3 ⟨rfl, hb3, b3⟩
        have HI3 : Hid (Lib.IsBuilder 82 5 W1.heap.size W1.heap.size (Lib.byteCells ((P.take (k + 1)).flatMap (wordU usr))) w3) := by
          refine Or.inr ?_
          rw [HEQ.out, strC, show (bOf (wordU usr p)).data.toList = wordU usr p from rfl, ← byteC_app, ← HTP.out] at hb3
          exact hb3
        have HB4 : Hid (Below W1.heap.size W1 w3) := (HBr.out).trans (HBB.out _ _ b3)
        clear hb3 b3
        go_wp2_with fail
        go_roundw
        case rel => exact ⟨k + 1, by omega, by go_num, HI3.out, HB4.out⟩
        case measure => simp [intOf]; omega
    · have hlz : ¬ (k : Int) < (n : Int) := by omega
      obtain rfl : k = n := by omega
      have hHI := HI.out
      rw [List.take_of_length_le (by rw [HN.out]; exact Nat.le_refl _)] at hHI
      have HIE : Hid _ := hHI
      clear hHI HI
      obtain ⟨A, hA⟩ : ∃ A, P.flatMap (wordU usr) = A := ⟨_, rfl⟩
      rw [hA] at HIE HZ
      have hsq : ¬ 9223372036854775807 < (bOf A).size + (bOf Q).size := by rw [bOf_size, bOf_size]; have := HZ.out; have := HQL.out; omega
      have HAQ : Hid (bOf A ++ bOf Q = bOf (P.flatMap (wordU usr) ++ Q)) := by rw [Hid, hA]; exact app_bOf A Q
      have HS1 : Hid (∀ W, Below wr.heap.size wr W → _) := fun W b => HS.out A W (isb_below HIE.out b) (Nat.le_trans (HSW.out _ HBr.out) b.size)
      rw [show (⟨A.toArray⟩ : ByteArray) = bOf A from rfl] at HS1
      have HWW : Hid (∀ W, Below W1.heap.size W1 W → _) := fun W b => HWR.out W (below_on HB1.out b)
      have HSS : Hid (∀ W, Below W1.heap.size W1 W → W.cell? ⟨w.heap.size, 9, none⟩ = some (.func (.func 53) #[] #[]) ∧ W.cell? ⟨W0.heap.size, 0, none⟩ = some (.int .i64 xk) ∧ W.cell? ⟨W0.heap.size, 1, none⟩ = some (.string (bOf tok)) ∧ W.cell? ⟨W0.heap.size, 2, none⟩ = some (.string (bOf usr)) ∧ W.cell? ⟨W0.heap.size, 3, none⟩ = some (.int .i64 frm) ∧ W.cell? ⟨W0.heap.size, 4, none⟩ = some (.bool xme)) := fun W b => ⟨cell_of_block (HRW.out W b) rfl, XB.cells (HXW.out W b)⟩
      obtain ⟨r9, x0, x1, x2, x3, x4⟩ := HSS.out wr HBr.out
      have HBD : Hid (Below W1.heap.size W1 wr.drew) := HBr.out.drew
      clear hA
      go_wp2_with fail
      go_region_held (fun W => W.cell? ⟨w.heap.size, 9, none⟩ = some (.func (.func 53) #[] #[]) ∧ W.cell? ⟨W0.heap.size, 0, none⟩ = some (.int .i64 xk) ∧ W.cell? ⟨W0.heap.size, 1, none⟩ = some (.string (bOf tok)) ∧ W.cell? ⟨W0.heap.size, 2, none⟩ = some (.string (bOf usr)) ∧ W.cell? ⟨W0.heap.size, 3, none⟩ = some (.int .i64 frm) ∧ W.cell? ⟨W0.heap.size, 4, none⟩ = some (.bool xme)) (first | assumption | go_keep)
        (first
        | (go_at_call 58; refine (HS1.out _ ((Below.refl _ _).drew.trans b6)).mono ?_; rintro e w5 ⟨rfl, b5⟩; have q5 : Below W1.heap.size W1 w5 := q6.trans b5; have hS5 := HSS.out w5 q5)
        | (go_at_call 53; refine (HWW.out _ q5).mono ?_; rintro e w6 ⟨rfl, b6⟩; have q6 : Below W1.heap.size W1 w6 := q5.trans (b6.mono q5.size); have hS6 := HSS.out w6 q6)
        | (go_at_call 58; refine (HS1.out _ ((Below.refl _ _).drew)).mono ?_; rintro e w5 ⟨rfl, b5⟩; have q5 : Below W1.heap.size W1 w5 := HBD.out.trans b5; have hS5 := HSS.out w5 q5)
        | (go_at_call 53; refine (HWW.out _ HBD.out).mono ?_; rintro e w6 ⟨rfl, b6⟩; have q6 : Below W1.heap.size W1 w6 := HBD.out.trans (b6.mono HBD.out.size); have hS6 := HSS.out w6 q6))
      all_goals
        go_wp2_with fail
        go_ret
        exact ⟨by rw [← HAQ.out]; rfl, by first | exact HB1.out.trans (q6.mono HB1.out.size) | exact HB1.out.trans (q5.mono HB1.out.size)⟩
end Go.Proofs.YtbpfggpljfpfcaaDoor
