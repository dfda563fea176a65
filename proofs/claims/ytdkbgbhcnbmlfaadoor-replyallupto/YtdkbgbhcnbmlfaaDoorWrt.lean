/-
  The contract of Write.
-/
import Derived.Test.YtdkbgbhcnbmlfaaDoorChk
import Derived.Deep.RegionHeld
namespace Go.Proofs.YtdkbgbhcnbmlfaaDoor
open Go.RowKit
theorem nDig_le : ∀ (k u : Nat), u < 10 ^ (k + 1) → Lib.nDigits u ≤ k + 1
  | 0, u, h => by rw [Lib.nDigits_small (by simpa using h)]; exact Nat.le_refl _
  | k + 1, u, h => by
    by_cases h0 : u < 10
    · rw [Lib.nDigits_small h0]; omega
    · have := nDig_le k (u / 10) (by rw [Nat.pow_succ] at h; omega)
      rw [Lib.nDigits_big h0]
      omega
theorem itB_list {n : Int} (h0 : 0 ≤ n) : (itB n).data.toList = Lib.decDigits n.toNat := by
  unfold itB Lib.itoa
  rw [if_neg (by omega)]
theorem itB_ten {n : Int} (h0 : 0 ≤ n) (h1 : n ≤ 2147483647) : (itB n).size ≤ 10 := by
  have e : (itB n).size = (itB n).data.toList.length := by simp
  rw [e, itB_list h0, Lib.decDigits_length]
  exact nDig_le 9 _ (by omega)
def bSt (r : Rp) : ByteArray := lnS r.status (wordsR r.status)
def bLn (r : Rp) : ByteArray := ⟨#[67, 111, 110, 116, 101, 110, 116, 45, 76, 101, 110, 103, 116, 104, 58, 32]⟩ ++ itB (r.body.length : Nat) ++ ⟨#[13, 10]⟩
def bCk (r : Rp) : ByteArray := ⟨#[83, 101, 116, 45, 67, 111, 111, 107, 105, 101, 58, 32]⟩ ++ mkB r.cookie ++ ⟨#[13, 10]⟩
/-- A reply's bytes. -/
def wrL (r : Rp) : List UInt8 := (bSt r).data.toList ++ (if r.body.isEmpty = true then [] else (opn 0).data.toList) ++ (if r.status = 204 then [] else (bLn r).data.toList) ++ (if r.cookie.isEmpty = true then [] else (bCk r).data.toList) ++ (if r.close = true then (opn 3).data.toList else []) ++ (crlf.data.toList ++ r.body)
def wrR (r : Rp) : List UInt8 × Int := if okR r = true then (wrL r, 0) else ([], 180)
/-- A Builder that holds bytes, beside a reply. -/
structure BSt (B g : Nat) (r : Rp) (w1 : World) (l : List UInt8) (W : World) : Prop where
  bld : Lib.IsBuilder 51 5 B B (Lib.byteCells l) W
  rep : RpB W g r
  bel : Below B w1 W
theorem owns_on1 {w w' : World} {B e n : Nat} {v : Value} {xs : List Value} (h : w.ownsRow B e 1 v n xs) (b : Below w.heap.size w w') : w'.ownsRow B e 1 v n xs := owns_on h b
theorem bld_below {B b : Nat} {p : Value} {bs : List Value} {w w' : World} (h : Lib.BuilderAt 51 5 B b p bs w) (k : Below w.heap.size w w') : Lib.BuilderAt 51 5 B b p bs w' := by
  obtain ⟨h1, v, h2, h3, h4⟩ := h
  exact ⟨h1, v, (k.block b (Array.getElem?_eq_some_iff.1 h2).1).trans h2, owns_on h3 k, h4⟩
theorem isb_below {B b : Nat} {bs : List Value} {w w' : World} (h : Lib.IsBuilder 51 5 B b bs w) (k : Below w.heap.size w w') : Lib.IsBuilder 51 5 B b bs w' := h.imp (fun q => bld_below q k) (fun q => bld_below q k)
theorem BSt.below {B g : Nat} {r : Rp} {w1 : World} {l : List UInt8} {W W' : World} (h : BSt B g r w1 l W) (k : Below W.heap.size W W') (hB : B ≤ W.heap.size) : BSt B g r w1 l W' := ⟨isb_below h.bld k, h.rep.below k, h.bel.trans (k.mono hB)⟩
theorem write_step {B g : Nat} {r : Rp} {w1 : World} {l : List UInt8} {W : World} (h : BSt B g r w1 l W) (hg : g < B) (h1 : B ≤ w1.heap.size) (s : ByteArray) (hl : l.length + s.size ≤ 140737488355328) :
    Calls Tryd.prog 24 #[.pointer (some ⟨B, 0, none⟩), .string s] W fun e w' => e = .returned (.tuple #[.int .i64 s.size, .nilIface]) ∧ BSt B g r w1 (l ++ s.data.toList) w' := by
  refine (Tryd.Builder_WriteString B B (Lib.byteCells l) s W h.bld (by simpa [Lib.byteCells] using hl) (Nat.le_trans h1 h.bel.size)).mono ?_
  rintro e w' ⟨rfl, q1, q2⟩
  refine ⟨rfl, Or.inr ?_, (q2.block g hg).trans h.rep, h.bel.trans q2⟩
  have e : Lib.byteCells (l ++ s.data.toList) = Lib.byteCells l ++ Lib.strCells s := by simp [Lib.byteCells, Lib.strCells]
  rw [e]
  exact q1
theorem write_step2 {B g : Nat} {r : Rp} {w1 : World} {l : List UInt8} {W : World} (h : BSt B g r w1 l W) (hg : g < B) (h1 : B ≤ w1.heap.size) (s : ByteArray) (p : List UInt8) (hp : s.data.toList = p) (hl : l.length + s.size ≤ 140737488355328) :
    Calls Tryd.prog 24 #[.pointer (some ⟨B, 0, none⟩), .string s] W fun e w' => e = .returned (.tuple #[.int .i64 s.size, .nilIface]) ∧ BSt B g r w1 (l ++ p) w' := by
  subst hp
  exact write_step h hg h1 s hl
theorem ok_parts {r : Rp} (h : okR r = true) : (phF phL r.status).isSome = true ∧ r.body.length ≤ 65536 ∧ (r.status = 204 → r.body.isEmpty = true) ∧ r.cookie.length ≤ 256 ∧ inC r.cookie = r.cookie.length := by
  unfold okR at h
  simp only [Bool.and_eq_true, decide_eq_true_eq, Bool.not_eq_true'] at h
  refine ⟨h.1.1.1.1, h.1.1.1.2, fun q => ?_, h.1.2, h.2⟩
  have := h.1.1.2
  rw [q] at this
  simpa using this
theorem ph_mem {z : Int} : ∀ l : List (Int × ByteArray), (phF l z).isSome = true → z ∈ l.map Prod.fst
  | [], h => by cases h
  | (k, s) :: r, h => by
    rw [phF] at h
    by_cases e : z = k
    · rw [e]; exact List.mem_cons_self ..
    · rw [if_neg e] at h; exact List.mem_cons_of_mem _ (ph_mem r h)
theorem ok_sts {z : Int} (h : (phF phL z).isSome = true) : z ∈ sts := by
  have := ph_mem phL h
  simp only [phL, List.map_cons, List.map_nil] at this
  simp only [sts, List.mem_cons, List.not_mem_nil, or_false] at this ⊢
  omega
theorem bSt_size {r : Rp} (h : r.status ∈ sts) : (bSt r).size ≤ 1000200 := by
  have h1 := sts_it _ h
  have h2 := sts_wd _ h
  unfold bSt lnS
  simp only [ByteArray.size_append]
  show 9 + _ + 1 + _ + 2 ≤ _
  omega
theorem opL0 : (⟨#[67, 111, 110, 116, 101, 110, 116, 45, 84, 121, 112, 101, 58, 32, 97, 112, 112, 108, 105, 99, 97, 116, 105, 111, 110, 47, 106, 115, 111, 110, 13, 10]⟩ : ByteArray).data.toList.length = 32 := rfl
theorem opL3 : (⟨#[67, 111, 110, 110, 101, 99, 116, 105, 111, 110, 58, 32, 99, 108, 111, 115, 101, 13, 10]⟩ : ByteArray).data.toList.length = 19 := rfl
theorem isE_ne {l : List UInt8} {b : Bool} (h : l.isEmpty = b) : ((mkB l).toList.isEmpty) = b := by rw [mkB_empty]; exact h
set_option maxRecDepth 20000 in
set_option maxHeartbeats 16000000 in
theorem write_any (r : Rp) (hz : rpZ r) (w : World) (ht : TabP w) : Calls Tryd.prog 12 #[rpV r] w fun e w' => e = .returned (.tuple #[.string (mkB (wrR r).1), .int .i64 (wrR r).2]) ∧ Below w.heap.size w w' := by
  have H1 : Hid (∀ W : World, _) := fun W => check_any r hz W
  have HC : Hid (chkR r = if okR r = true then 0 else 180) := rfl
  have HWR : Hid (wrR r = if okR r = true then (wrL r, 0) else ([], 180)) := rfl
  obtain ⟨W0, hW0⟩ : ∃ W0, w.alloc (.cells (rpA r) 23) = W0 := ⟨_, rfl⟩
  have HB0 : Hid (Below w.heap.size w W0) := by rw [Hid, ← hW0]; exact (Below.refl _ _).alloc (Nat.le_refl _) _
  have HX0 : Hid (RpB W0 w.heap.size r) := by rw [Hid, ← hW0]; exact block_alloc_at _ _
  have HTB : Hid (TabP w) := ht
  clear ht
  cases hok : okR r with
  | false =>
    rw [hok, if_neg (by decide)] at HC HWR
    rw [HC.out] at H1
    obtain ⟨c0, c1, c2, c3⟩ := HX0.out.cells
    unfold rpA at hW0
    unfold rpV at H1 ⊢
    obtain ⟨T, hT⟩ : ∃ T, wrR r = T := ⟨_, rfl⟩
    rw [hT] at HWR ⊢
    clear hT HC hok
    go_enter Tryd.func12, Tryd.ntmps12
    go_wp2_with fail
    try rw [hW0]
    refine (H1.out _).mono ?_
    rintro e w1 ⟨rfl, b1⟩
    go_wp2_with fail
    go_ret2
    exact ⟨by rw [HWR.out]; rfl, HB0.out.trans (b1.mono HB0.out.size)⟩
  | true =>
    rw [hok, if_pos rfl] at HC HWR
    rw [HC.out] at H1
    obtain ⟨o1, o2, o3, o4, o5⟩ := ok_parts hok
    have hsm := ok_sts o1
    have hss := sts_mem hsm
    have HB204 : Hid (r.status = 204 → r.body.isEmpty = true) := o3
    have H2 : Hid (∀ W : World, _) := fun W => words_any r.status (by omega) (by omega) W
    have H3 : Hid (∀ W : World, TabP W → _) := fun W q => statusLine_any r.status (by omega) (by omega) (sts_it _ hsm) (wordsR r.status) (sts_wd _ hsm) W q
    rw [show lnS r.status (wordsR r.status) = bSt r from rfl] at H3
    have hz1 := bSt_size hsm
    have H4 : Hid (∀ W : World, TabP W → _) := fun W q => Tryd.strconv_Itoa (r.body.length : Nat) (by omega) (by omega) W q
    rw [show (⟨(Lib.itoa (r.body.length : Nat)).toArray⟩ : ByteArray) = itB (r.body.length : Nat) from rfl] at H4
    have hz2 := itB_ten (n := (r.body.length : Nat)) (by omega) (by omega)
    have HLE : Hid (bLn r = ⟨#[67, 111, 110, 116, 101, 110, 116, 45, 76, 101, 110, 103, 116, 104, 58, 32]⟩ ++ itB (r.body.length : Nat) ++ ⟨#[13, 10]⟩) := rfl
    have HCE : Hid (bCk r = ⟨#[83, 101, 116, 45, 67, 111, 111, 107, 105, 101, 58, 32]⟩ ++ mkB r.cookie ++ ⟨#[13, 10]⟩) := rfl
    have HWL : Hid (wrL r = (bSt r).data.toList ++ (if r.body.isEmpty = true then [] else (opn 0).data.toList) ++ (if r.status = 204 then [] else (bLn r).data.toList) ++ (if r.cookie.isEmpty = true then [] else (bCk r).data.toList) ++ (if r.close = true then (opn 3).data.toList else []) ++ (crlf.data.toList ++ r.body)) := rfl
    have hbs := mkB_size r.body
    have hcs := mkB_size r.cookie
    have HBL : Hid ((mkB r.body).data.toList = r.body) := mkB_list _
    have HLS : Hid ((mkB r.cookie).size ≤ 256) := by rw [Hid, hcs]; exact o4
    have HBS : Hid ((mkB r.body).size ≤ 65536) := by rw [Hid, hbs]; exact o2
    have HEB : Hid ((mkB r.body).toList.isEmpty = r.body.isEmpty) := mkB_empty _
    have HEC : Hid ((mkB r.cookie).toList.isEmpty = r.cookie.isEmpty) := mkB_empty _
    rw [← hbs] at H4 HLE hz2
    have HCLS : Hid (∀ W, RpB W w.heap.size r → _) := fun W q => RpB.cells q
    unfold rpA at hW0
    unfold rpV at H1 ⊢
    obtain ⟨T, hT⟩ : ∃ T, wrR r = T := ⟨_, rfl⟩
    rw [hT] at HWR ⊢
    obtain ⟨xl, hxl⟩ : ∃ xl, itB ((mkB r.body).size : Nat) = xl := ⟨_, rfl⟩
    rw [hxl] at H4 HLE hz2
    obtain ⟨b1, hb1⟩ : ∃ b1, bSt r = b1 := ⟨_, rfl⟩
    rw [hb1] at H3 HWL hz1
    obtain ⟨wd, hwd⟩ : ∃ wd, wordsR r.status = wd := ⟨_, rfl⟩
    rw [hwd] at H2 H3
    obtain ⟨bL, hbL⟩ : ∃ bL, bLn r = bL := ⟨_, rfl⟩
    rw [hbL] at HLE HWL
    obtain ⟨bC, hbC⟩ : ∃ bC, bCk r = bC := ⟨_, rfl⟩
    rw [hbC] at HCE HWL
    rw [HWL.out] at HWR
    clear hT hxl hb1 hwd hbL hbC HC hok o1 o2 o3 o4 o5 hbs hcs hsm hss hz HWL
    obtain ⟨st, bd0, ck0, cl⟩ := r
    simp only at H1 H2 H3 H4 HLE HCE HBL HLS HBS HEB HEC HWR hW0 HCLS HB204 ⊢
    obtain ⟨bd, hbd⟩ : ∃ bd, mkB bd0 = bd := ⟨_, rfl⟩
    obtain ⟨ck, hck⟩ : ∃ ck, mkB ck0 = ck := ⟨_, rfl⟩
    rw [hbd] at H1 H4 HBL HBS HEB hW0 HCLS ⊢
    rw [hck] at H1 HCE HLS HEC hW0 HCLS ⊢
    obtain ⟨eb, heb⟩ : ∃ eb, bd0.isEmpty = eb := ⟨_, rfl⟩
    rw [heb] at HEB HWR HB204
    obtain ⟨ec, hec⟩ : ∃ ec, ck0.isEmpty = ec := ⟨_, rfl⟩
    rw [hec] at HEC HWR
    clear hbd hck heb hec
    have hls := HLS.out
    have hbs := HBS.out
    have s1 : ¬ 9223372036854775807 < 16 + xl.size := by omega
    have s2 : ¬ 9223372036854775807 < 16 + xl.size + 2 := by omega
    have s3 : ¬ 9223372036854775807 < 12 + ck.size := by omega
    have s4 : ¬ 9223372036854775807 < 12 + ck.size + 2 := by omega
    have s5 : ¬ 9223372036854775807 < 2 + bd.size := by omega
    have HLZ : Hid (bL.size ≤ 100) := by rw [Hid, HLE.out, ByteArray.size_append, ByteArray.size_append]; show 16 + _ + 2 ≤ _; omega
    have HCZ : Hid (bC.size ≤ 300) := by rw [Hid, HCE.out, ByteArray.size_append, ByteArray.size_append]; show 12 + _ + 2 ≤ _; omega
    have HZ1 : Hid (b1.size ≤ 1000200) := hz1
    have HN1 := size_list b1
    have HNL := size_list bL
    have HNC := size_list bC
    have EE : (⟨#[13, 10]⟩ ++ bd : ByteArray).data.toList = crlf.data.toList ++ bd0 := by rw [← HBL.out]; simp [crlf]
    have E0 : (⟨#[67, 111, 110, 116, 101, 110, 116, 45, 84, 121, 112, 101, 58, 32, 97, 112, 112, 108, 105, 99, 97, 116, 105, 111, 110, 47, 106, 115, 111, 110, 13, 10]⟩ : ByteArray).data.toList = (opn 0).data.toList := rfl
    have E3 : (⟨#[67, 111, 110, 110, 101, 99, 116, 105, 111, 110, 58, 32, 99, 108, 111, 115, 101, 13, 10]⟩ : ByteArray).data.toList = (opn 3).data.toList := rfl
    have N0 : (opn 0).data.toList.length = 32 := rfl
    have N3 : (opn 3).data.toList.length = 19 := rfl
    obtain ⟨L1, h1⟩ : ∃ L1, b1.data.toList = L1 := ⟨_, rfl⟩
    obtain ⟨LL, hL⟩ : ∃ LL, bL.data.toList = LL := ⟨_, rfl⟩
    obtain ⟨LC, hC⟩ : ∃ LC, bC.data.toList = LC := ⟨_, rfl⟩
    obtain ⟨L0, h0⟩ : ∃ L0, (opn 0).data.toList = L0 := ⟨_, rfl⟩
    obtain ⟨L3, h3⟩ : ∃ L3, (opn 3).data.toList = L3 := ⟨_, rfl⟩
    obtain ⟨LE, hE⟩ : ∃ LE, crlf.data.toList ++ bd0 = LE := ⟨_, rfl⟩
    rw [h0] at HWR E0 N0
    rw [h3] at HWR E3 N3
    rw [hE] at HWR EE
    rw [h1] at HWR HN1
    rw [hL] at HWR HNL
    rw [hC] at HWR HNC
    have HE1 : Hid _ := h1
    have HEL : Hid _ := hL
    have HEC2 : Hid _ := hC
    have HE0 : Hid _ := E0
    have HE3 : Hid _ := E3
    have HEE : Hid _ := EE
    have HSZ : Hid (L1.length ≤ 1000200 ∧ L0.length = 32 ∧ L3.length = 19 ∧ LL.length ≤ 100 ∧ LC.length ≤ 300) := ⟨by have := HZ1.out; omega, N0, N3, by have := HLZ.out; omega, by have := HCZ.out; omega⟩
    clear HN1 HNL HNC EE E0 E3 N0 N3 h1 hL hC h0 h3 hE
    obtain ⟨c0, c1, c2, c3⟩ := HCLS.out _ HX0.out
    go_enter Tryd.func12, Tryd.ntmps12
    go_wp2_with fail
    try rw [hW0]
    refine (H1.out _).mono ?_
    rintro e w1 ⟨rfl, q1⟩
    have HB1 : Hid (Below w.heap.size w w1) := HB0.out.trans (q1.mono HB0.out.size)
    have HX1 : Hid (RpB w1 w.heap.size ⟨st, bd0, ck0, cl⟩) := HX0.out.below q1
    clear q1 c0 c1 c2 c3 hW0
    obtain ⟨W2, hW2⟩ : ∃ W2, w1.alloc (.cells #[.pointer none, .slice none 0 0] 51) = W2 := ⟨_, rfl⟩
    have HW2 : Hid (BSt w1.heap.size w.heap.size ⟨st, bd0, ck0, cl⟩ w1 [] W2) := by
      rw [Hid, ← hW2]
      exact ⟨Lib.fresh_isBuilder 51 5 w1, HX1.out.below ((Below.refl _ _).alloc (Nat.le_refl _) _), (Below.refl _ _).alloc (Nat.le_refl _) _⟩
    have HGB : Hid (w.heap.size < w1.heap.size) := HX1.out.lt
    have HWS : Hid (∀ (l : List UInt8) (s : ByteArray) (p : List UInt8) (W : World), s.data.toList = p → BSt w1.heap.size w.heap.size ⟨st, bd0, ck0, cl⟩ w1 l W → l.length + s.size ≤ 140737488355328 → _) := fun l s p W q0 q1 q2 => write_step2 q1 HGB.out (Nat.le_refl _) s p q0 q2
    have HTW : Hid (∀ l W, BSt w1.heap.size w.heap.size ⟨st, bd0, ck0, cl⟩ w1 l W → TabP W) := fun l W q => tab_below (tab_below HTB.out HB1.out) q.bel
    have HBW : Hid (∀ l W, BSt w1.heap.size w.heap.size ⟨st, bd0, ck0, cl⟩ w1 l W → Below w.heap.size w W) := fun l W q => HB1.out.trans (q.bel.mono HB1.out.size)
    have HSG : Hid (∀ (l : List UInt8) (W : World), BSt w1.heap.size w.heap.size ⟨st, bd0, ck0, cl⟩ w1 l W → _) := fun l W q => Tryd.Builder_String_any w1.heap.size w1.heap.size l W q.bld q.bel.size
    go_wp2_with fail
    try rw [hW2]
    clear hW2
    refine wp_region_held_drew (S := fun W => ∃ l, BSt w1.heap.size w.heap.size ⟨st, bd0, ck0, cl⟩ w1 l W) (by kernel_rfl) ⟨[], ⟨HW2.out.bld, HW2.out.rep, below_drewN HW2.out.bel 1⟩⟩ (fun hHeld => ?_)
    refine wpAnyH_take (i := 0) (oi := ({ dst := some 11, op := Op.fieldAddr 23 (Operand.tmp 1) 0, type := 0, pos := "reply.go:83", after := #[], guard := none } : Oper)) (v := ?_) rfl (by kernel_rfl) (by kernel_rfl) (by kernel_rfl) (fun _ _ _ h => h) (Or.inl ⟨by rfl, ?_⟩) (by assumption) ?_
    rotate_left
    · (intro w hSw; go_simp; try with_reducible rfl)
    try simp only [Act.put, List.setIfInBounds_toArray, List.set_cons_zero, List.set_cons_succ]
    refine wpAnyH_take (i := 1) (oi := ({ dst := some 12, op := Op.load 3 (Operand.tmp 11), type := 3, pos := "reply.go:83", after := #[{ on := 0, ground := Ground.data }], guard := none } : Oper)) (v := ?_) rfl (by kernel_rfl) (by kernel_rfl) (by kernel_rfl) (fun _ _ _ h => h) (Or.inl ⟨by rfl, ?_⟩) (by assumption) ?_
    rotate_left
    · (intro w hSw; obtain ⟨l, hSl⟩ := hSw; obtain ⟨c0, c1, c2, c3⟩ := HCLS.out _ (BSt.rep hSl); go_simp; try with_reducible rfl)
    try simp only [Act.put, List.setIfInBounds_toArray, List.set_cons_zero, List.set_cons_succ]
    refine wpAnyH_take (i := 2) (oi := ({ dst := some 13, op := Op.fieldAddr 23 (Operand.tmp 1) 0, type := 0, pos := "reply.go:83", after := #[], guard := none } : Oper)) (v := ?_) rfl (by kernel_rfl) (by kernel_rfl) (by kernel_rfl) (fun _ _ _ h => h) (Or.inl ⟨by rfl, ?_⟩) (by assumption) ?_
    rotate_left
    · (intro w hSw; go_simp; try with_reducible rfl)
    try simp only [Act.put, List.setIfInBounds_toArray, List.set_cons_zero, List.set_cons_succ]
    refine wpAnyH_take (i := 3) (oi := ({ dst := some 14, op := Op.load 3 (Operand.tmp 13), type := 3, pos := "reply.go:83", after := #[{ on := 2, ground := Ground.data }], guard := none } : Oper)) (v := ?_) rfl (by kernel_rfl) (by kernel_rfl) (by kernel_rfl) (fun _ _ _ h => h) (Or.inl ⟨by rfl, ?_⟩) (by assumption) ?_
    rotate_left
    · (intro w hSw; obtain ⟨l, hSl⟩ := hSw; obtain ⟨c0, c1, c2, c3⟩ := HCLS.out _ (BSt.rep hSl); go_simp; try with_reducible rfl)
    try simp only [Act.put, List.setIfInBounds_toArray, List.set_cons_zero, List.set_cons_succ]
    refine wpAnyH_ready (rs := [4]) (by kernel_rfl) (by simp) ?_
    refine AllReadyH.cons rfl (fun K hK => ?_) AllReadyH.nil
    go_simp
    go_wp2_with (go_at_call 20; refine (H2.out _).mono ?_; rintro e w3 ⟨rfl, b3⟩)
    have HS3 : Hid (BSt w1.heap.size w.heap.size ⟨st, bd0, ck0, cl⟩ w1 [] w3) := BSt.below (show BSt w1.heap.size w.heap.size ⟨st, bd0, ck0, cl⟩ w1 [] (W2.drewN 1) from ⟨HW2.out.bld, HW2.out.rep, below_drewN HW2.out.bel 1⟩) b3 HW2.out.bel.size
    refine hK.out _ _ ⟨_, HS3.out⟩ (fun hHeld => ?_)
    clear b3
    clear hK K
    refine wpAnyH_ready (rs := [5]) (by kernel_rfl) (by simp) ?_
    refine AllReadyH.cons rfl (fun K hK => ?_) AllReadyH.nil
    go_simp
    go_wp2_with (go_at_call 25; refine (H3.out _ (HTW.out _ _ HS3.out)).mono ?_; rintro e w4 ⟨rfl, b4⟩)
    have HS4 : Hid (BSt w1.heap.size w.heap.size ⟨st, bd0, ck0, cl⟩ w1 [] w4) := BSt.below HS3.out b4 HS3.out.bel.size
    refine hK.out _ _ ⟨_, HS4.out⟩ (fun hHeld => ?_)
    clear b4
    clear hK K
    refine wpAnyH_ready (rs := [6]) (by kernel_rfl) (by simp) ?_
    refine AllReadyH.cons rfl (fun K hK => ?_) AllReadyH.nil
    go_simp
    go_wp2_with (go_at_call 24; refine (HWS.out [] b1 L1 _ HE1.out HS4.out (by have := HZ1.out; simp only [List.length_nil]; omega)).mono ?_; rintro e w5 ⟨rfl, q5⟩)
    have HS5 : Hid (BSt w1.heap.size w.heap.size ⟨st, bd0, ck0, cl⟩ w1 L1 w5) := q5
    refine hK.out _ _ ⟨_, HS5.out⟩ (fun hHeld => ?_)
    clear q5
    clear hK K
    refine wpAnyH_done (by kernel_rfl) ?_ _
    try simp only [Act.put, List.setIfInBounds_toArray, List.set_cons_zero, List.set_cons_succ]
    clear hHeld
    by_cases g2 : st = 204
    · obtain rfl : eb = true := HB204.out g2
      subst g2
      have e1 := HEB.out
      have e2 := HEC.out
      cases ec with
      | true =>
        cases cl with
        | true =>
          obtain ⟨c0, c1, c2, c3⟩ := HCLS.out _ HS5.out.rep
          go_wp2_with fail
          have hbn : (L1).length + (⟨#[67, 111, 110, 110, 101, 99, 116, 105, 111, 110, 58, 32, 99, 108, 111, 115, 101, 13, 10]⟩ : ByteArray).size ≤ 140737488355328 := by obtain ⟨z1, z2, z3, z4, z5⟩ := HSZ.out; have hzl := HLZ.out; have hzc := HCZ.out; have hbs := HBS.out; (try simp only [List.length_append]); show _ + 19 ≤ _; omega
          have HQ := HWS.out (L1) ⟨#[67, 111, 110, 110, 101, 99, 116, 105, 111, 110, 58, 32, 99, 108, 111, 115, 101, 13, 10]⟩ L3 w5 HE3.out HS5.out hbn
          refine HQ.mono ?_
          clear HQ hbn
          rintro e w6 ⟨rfl, q6⟩
          have HS6 : Hid (BSt w1.heap.size w.heap.size _ w1 (L1 ++ L3) w6) := q6
          clear q6 c0 c1 c2 c3
          obtain ⟨c0, c1, c2, c3⟩ := HCLS.out _ HS6.out.rep
          go_wp2_with fail
          have hbn : (L1 ++ L3).length + ((⟨#[13, 10]⟩ ++ bd) : ByteArray).size ≤ 140737488355328 := by obtain ⟨z1, z2, z3, z4, z5⟩ := HSZ.out; have hzl := HLZ.out; have hzc := HCZ.out; have hbs := HBS.out; (try simp only [List.length_append]); rw [ByteArray.size_append]; show _ + (2 + _) ≤ _; omega
          have HQ := HWS.out (L1 ++ L3) (⟨#[13, 10]⟩ ++ bd) LE w6 HEE.out HS6.out hbn
          refine HQ.mono ?_
          clear HQ hbn
          rintro e w7 ⟨rfl, q7⟩
          have HS7 : Hid (BSt w1.heap.size w.heap.size _ w1 (L1 ++ L3 ++ LE) w7) := q7
          clear q7 c0 c1 c2 c3
          go_wp2_with fail
          refine (HSG.out (L1 ++ L3 ++ LE) _ HS7.out).mono ?_
          rintro e w8 ⟨rfl, b8⟩
          have HBE : Hid (Below w.heap.size w w8) := (HBW.out _ _ HS7.out).trans (b8.mono (Nat.le_trans (Nat.le_of_lt HGB.out) (Nat.le_refl _)))
          clear b8
          go_wp2_with fail
          go_ret2
          refine ⟨?_, HBE.out⟩
          rw [HWR.out]
          show _ = Ending.returned (.tuple #[.string (mkB _), .int .i64 0])
          congr 4
          simp [mkB]
        | false =>
          obtain ⟨c0, c1, c2, c3⟩ := HCLS.out _ HS5.out.rep
          go_wp2_with fail
          have hbn : (L1).length + ((⟨#[13, 10]⟩ ++ bd) : ByteArray).size ≤ 140737488355328 := by obtain ⟨z1, z2, z3, z4, z5⟩ := HSZ.out; have hzl := HLZ.out; have hzc := HCZ.out; have hbs := HBS.out; (try simp only [List.length_append]); rw [ByteArray.size_append]; show _ + (2 + _) ≤ _; omega
          have HQ := HWS.out (L1) (⟨#[13, 10]⟩ ++ bd) LE w5 HEE.out HS5.out hbn
          refine HQ.mono ?_
          clear HQ hbn
          rintro e w6 ⟨rfl, q6⟩
          have HS6 : Hid (BSt w1.heap.size w.heap.size _ w1 (L1 ++ LE) w6) := q6
          clear q6 c0 c1 c2 c3
          go_wp2_with fail
          refine (HSG.out (L1 ++ LE) _ HS6.out).mono ?_
          rintro e w7 ⟨rfl, b7⟩
          have HBE : Hid (Below w.heap.size w w7) := (HBW.out _ _ HS6.out).trans (b7.mono (Nat.le_trans (Nat.le_of_lt HGB.out) (Nat.le_refl _)))
          clear b7
          go_wp2_with fail
          go_ret2
          refine ⟨?_, HBE.out⟩
          rw [HWR.out]
          show _ = Ending.returned (.tuple #[.string (mkB _), .int .i64 0])
          congr 4
          simp [mkB]
      | false =>
        cases cl with
        | true =>
          obtain ⟨c0, c1, c2, c3⟩ := HCLS.out _ HS5.out.rep
          go_wp2_with fail
          rw [← HCE.out]
          have hbn : (L1).length + (bC : ByteArray).size ≤ 140737488355328 := by obtain ⟨z1, z2, z3, z4, z5⟩ := HSZ.out; have hzl := HLZ.out; have hzc := HCZ.out; have hbs := HBS.out; (try simp only [List.length_append]); omega
          have HQ := HWS.out (L1) bC LC w5 HEC2.out HS5.out hbn
          refine HQ.mono ?_
          clear HQ hbn
          rintro e w6 ⟨rfl, q6⟩
          have HS6 : Hid (BSt w1.heap.size w.heap.size _ w1 (L1 ++ LC) w6) := q6
          clear q6 c0 c1 c2 c3
          obtain ⟨c0, c1, c2, c3⟩ := HCLS.out _ HS6.out.rep
          go_wp2_with fail
          have hbn : (L1 ++ LC).length + (⟨#[67, 111, 110, 110, 101, 99, 116, 105, 111, 110, 58, 32, 99, 108, 111, 115, 101, 13, 10]⟩ : ByteArray).size ≤ 140737488355328 := by obtain ⟨z1, z2, z3, z4, z5⟩ := HSZ.out; have hzl := HLZ.out; have hzc := HCZ.out; have hbs := HBS.out; (try simp only [List.length_append]); show _ + 19 ≤ _; omega
          have HQ := HWS.out (L1 ++ LC) ⟨#[67, 111, 110, 110, 101, 99, 116, 105, 111, 110, 58, 32, 99, 108, 111, 115, 101, 13, 10]⟩ L3 w6 HE3.out HS6.out hbn
          refine HQ.mono ?_
          clear HQ hbn
          rintro e w7 ⟨rfl, q7⟩
          have HS7 : Hid (BSt w1.heap.size w.heap.size _ w1 (L1 ++ LC ++ L3) w7) := q7
          clear q7 c0 c1 c2 c3
          obtain ⟨c0, c1, c2, c3⟩ := HCLS.out _ HS7.out.rep
          go_wp2_with fail
          have hbn : (L1 ++ LC ++ L3).length + ((⟨#[13, 10]⟩ ++ bd) : ByteArray).size ≤ 140737488355328 := by obtain ⟨z1, z2, z3, z4, z5⟩ := HSZ.out; have hzl := HLZ.out; have hzc := HCZ.out; have hbs := HBS.out; (try simp only [List.length_append]); rw [ByteArray.size_append]; show _ + (2 + _) ≤ _; omega
          have HQ := HWS.out (L1 ++ LC ++ L3) (⟨#[13, 10]⟩ ++ bd) LE w7 HEE.out HS7.out hbn
          refine HQ.mono ?_
          clear HQ hbn
          rintro e w8 ⟨rfl, q8⟩
          have HS8 : Hid (BSt w1.heap.size w.heap.size _ w1 (L1 ++ LC ++ L3 ++ LE) w8) := q8
          clear q8 c0 c1 c2 c3
          go_wp2_with fail
          refine (HSG.out (L1 ++ LC ++ L3 ++ LE) _ HS8.out).mono ?_
          rintro e w9 ⟨rfl, b9⟩
          have HBE : Hid (Below w.heap.size w w9) := (HBW.out _ _ HS8.out).trans (b9.mono (Nat.le_trans (Nat.le_of_lt HGB.out) (Nat.le_refl _)))
          clear b9
          go_wp2_with fail
          go_ret2
          refine ⟨?_, HBE.out⟩
          rw [HWR.out]
          show _ = Ending.returned (.tuple #[.string (mkB _), .int .i64 0])
          congr 4
          simp [mkB]
        | false =>
          obtain ⟨c0, c1, c2, c3⟩ := HCLS.out _ HS5.out.rep
          go_wp2_with fail
          rw [← HCE.out]
          have hbn : (L1).length + (bC : ByteArray).size ≤ 140737488355328 := by obtain ⟨z1, z2, z3, z4, z5⟩ := HSZ.out; have hzl := HLZ.out; have hzc := HCZ.out; have hbs := HBS.out; (try simp only [List.length_append]); omega
          have HQ := HWS.out (L1) bC LC w5 HEC2.out HS5.out hbn
          refine HQ.mono ?_
          clear HQ hbn
          rintro e w6 ⟨rfl, q6⟩
          have HS6 : Hid (BSt w1.heap.size w.heap.size _ w1 (L1 ++ LC) w6) := q6
          clear q6 c0 c1 c2 c3
          obtain ⟨c0, c1, c2, c3⟩ := HCLS.out _ HS6.out.rep
          go_wp2_with fail
          have hbn : (L1 ++ LC).length + ((⟨#[13, 10]⟩ ++ bd) : ByteArray).size ≤ 140737488355328 := by obtain ⟨z1, z2, z3, z4, z5⟩ := HSZ.out; have hzl := HLZ.out; have hzc := HCZ.out; have hbs := HBS.out; (try simp only [List.length_append]); rw [ByteArray.size_append]; show _ + (2 + _) ≤ _; omega
          have HQ := HWS.out (L1 ++ LC) (⟨#[13, 10]⟩ ++ bd) LE w6 HEE.out HS6.out hbn
          refine HQ.mono ?_
          clear HQ hbn
          rintro e w7 ⟨rfl, q7⟩
          have HS7 : Hid (BSt w1.heap.size w.heap.size _ w1 (L1 ++ LC ++ LE) w7) := q7
          clear q7 c0 c1 c2 c3
          go_wp2_with fail
          refine (HSG.out (L1 ++ LC ++ LE) _ HS7.out).mono ?_
          rintro e w8 ⟨rfl, b8⟩
          have HBE : Hid (Below w.heap.size w w8) := (HBW.out _ _ HS7.out).trans (b8.mono (Nat.le_trans (Nat.le_of_lt HGB.out) (Nat.le_refl _)))
          clear b8
          go_wp2_with fail
          go_ret2
          refine ⟨?_, HBE.out⟩
          rw [HWR.out]
          show _ = Ending.returned (.tuple #[.string (mkB _), .int .i64 0])
          congr 4
          simp [mkB]
    · have g2z : (st != 204) = true := by simp [g2]
      have e1 := HEB.out
      have e2 := HEC.out
      cases eb with
      | true =>
        cases ec with
        | true =>
          cases cl with
          | true =>
            obtain ⟨c0, c1, c2, c3⟩ := HCLS.out _ HS5.out.rep
            have HTk := HTW.out _ _ HS5.out
            have HTK : Hid _ := HTk
            clear HTk
            go_wp2_with fail
            refine (H4.out _ HTK.out).mono ?_
            rintro e w6 ⟨rfl, kk, os, rfl⟩
            have HS6 : Hid (BSt w1.heap.size w.heap.size _ w1 (L1) (Go.Sort.grow (w5.drewN kk) os)) := HS5.out.below (Lib.below_grow _ _ (by simp) kk os) HS5.out.bel.size
            obtain ⟨w6, hw6⟩ : ∃ w6, Go.Sort.grow (w5.drewN kk) os = w6 := ⟨_, rfl⟩
            rw [hw6] at HS6
            try rw [hw6]
            clear hw6 c0 c1 c2 c3 HTK
            obtain ⟨c0, c1, c2, c3⟩ := HCLS.out _ HS6.out.rep
            go_wp2_with fail
            rw [← HLE.out]
            have hbn : (L1).length + (bL : ByteArray).size ≤ 140737488355328 := by obtain ⟨z1, z2, z3, z4, z5⟩ := HSZ.out; have hzl := HLZ.out; have hzc := HCZ.out; have hbs := HBS.out; (try simp only [List.length_append]); omega
            have HQ := HWS.out (L1) bL LL w6 HEL.out HS6.out hbn
            refine HQ.mono ?_
            clear HQ hbn
            rintro e w7 ⟨rfl, q7⟩
            have HS7 : Hid (BSt w1.heap.size w.heap.size _ w1 (L1 ++ LL) w7) := q7
            clear q7 c0 c1 c2 c3
            obtain ⟨c0, c1, c2, c3⟩ := HCLS.out _ HS7.out.rep
            go_wp2_with fail
            have hbn : (L1 ++ LL).length + (⟨#[67, 111, 110, 110, 101, 99, 116, 105, 111, 110, 58, 32, 99, 108, 111, 115, 101, 13, 10]⟩ : ByteArray).size ≤ 140737488355328 := by obtain ⟨z1, z2, z3, z4, z5⟩ := HSZ.out; have hzl := HLZ.out; have hzc := HCZ.out; have hbs := HBS.out; (try simp only [List.length_append]); show _ + 19 ≤ _; omega
            have HQ := HWS.out (L1 ++ LL) ⟨#[67, 111, 110, 110, 101, 99, 116, 105, 111, 110, 58, 32, 99, 108, 111, 115, 101, 13, 10]⟩ L3 w7 HE3.out HS7.out hbn
            refine HQ.mono ?_
            clear HQ hbn
            rintro e w8 ⟨rfl, q8⟩
            have HS8 : Hid (BSt w1.heap.size w.heap.size _ w1 (L1 ++ LL ++ L3) w8) := q8
            clear q8 c0 c1 c2 c3
            obtain ⟨c0, c1, c2, c3⟩ := HCLS.out _ HS8.out.rep
            go_wp2_with fail
            have hbn : (L1 ++ LL ++ L3).length + ((⟨#[13, 10]⟩ ++ bd) : ByteArray).size ≤ 140737488355328 := by obtain ⟨z1, z2, z3, z4, z5⟩ := HSZ.out; have hzl := HLZ.out; have hzc := HCZ.out; have hbs := HBS.out; (try simp only [List.length_append]); rw [ByteArray.size_append]; show _ + (2 + _) ≤ _; omega
            have HQ := HWS.out (L1 ++ LL ++ L3) (⟨#[13, 10]⟩ ++ bd) LE w8 HEE.out HS8.out hbn
            refine HQ.mono ?_
            clear HQ hbn
            rintro e w9 ⟨rfl, q9⟩
            have HS9 : Hid (BSt w1.heap.size w.heap.size _ w1 (L1 ++ LL ++ L3 ++ LE) w9) := q9
            clear q9 c0 c1 c2 c3
            go_wp2_with fail
            refine (HSG.out (L1 ++ LL ++ L3 ++ LE) _ HS9.out).mono ?_
            rintro e w10 ⟨rfl, b10⟩
            have HBE : Hid (Below w.heap.size w w10) := (HBW.out _ _ HS9.out).trans (b10.mono (Nat.le_trans (Nat.le_of_lt HGB.out) (Nat.le_refl _)))
            clear b10
            go_wp2_with fail
            go_ret2
            refine ⟨?_, HBE.out⟩
            rw [HWR.out]
            show _ = Ending.returned (.tuple #[.string (mkB _), .int .i64 0])
            congr 4
            simp [mkB, g2]
          | false =>
            obtain ⟨c0, c1, c2, c3⟩ := HCLS.out _ HS5.out.rep
            have HTk := HTW.out _ _ HS5.out
            have HTK : Hid _ := HTk
            clear HTk
            go_wp2_with fail
            refine (H4.out _ HTK.out).mono ?_
            rintro e w6 ⟨rfl, kk, os, rfl⟩
            have HS6 : Hid (BSt w1.heap.size w.heap.size _ w1 (L1) (Go.Sort.grow (w5.drewN kk) os)) := HS5.out.below (Lib.below_grow _ _ (by simp) kk os) HS5.out.bel.size
            obtain ⟨w6, hw6⟩ : ∃ w6, Go.Sort.grow (w5.drewN kk) os = w6 := ⟨_, rfl⟩
            rw [hw6] at HS6
            try rw [hw6]
            clear hw6 c0 c1 c2 c3 HTK
            obtain ⟨c0, c1, c2, c3⟩ := HCLS.out _ HS6.out.rep
            go_wp2_with fail
            rw [← HLE.out]
            have hbn : (L1).length + (bL : ByteArray).size ≤ 140737488355328 := by obtain ⟨z1, z2, z3, z4, z5⟩ := HSZ.out; have hzl := HLZ.out; have hzc := HCZ.out; have hbs := HBS.out; (try simp only [List.length_append]); omega
            have HQ := HWS.out (L1) bL LL w6 HEL.out HS6.out hbn
            refine HQ.mono ?_
            clear HQ hbn
            rintro e w7 ⟨rfl, q7⟩
            have HS7 : Hid (BSt w1.heap.size w.heap.size _ w1 (L1 ++ LL) w7) := q7
            clear q7 c0 c1 c2 c3
            obtain ⟨c0, c1, c2, c3⟩ := HCLS.out _ HS7.out.rep
            go_wp2_with fail
            have hbn : (L1 ++ LL).length + ((⟨#[13, 10]⟩ ++ bd) : ByteArray).size ≤ 140737488355328 := by obtain ⟨z1, z2, z3, z4, z5⟩ := HSZ.out; have hzl := HLZ.out; have hzc := HCZ.out; have hbs := HBS.out; (try simp only [List.length_append]); rw [ByteArray.size_append]; show _ + (2 + _) ≤ _; omega
            have HQ := HWS.out (L1 ++ LL) (⟨#[13, 10]⟩ ++ bd) LE w7 HEE.out HS7.out hbn
            refine HQ.mono ?_
            clear HQ hbn
            rintro e w8 ⟨rfl, q8⟩
            have HS8 : Hid (BSt w1.heap.size w.heap.size _ w1 (L1 ++ LL ++ LE) w8) := q8
            clear q8 c0 c1 c2 c3
            go_wp2_with fail
            refine (HSG.out (L1 ++ LL ++ LE) _ HS8.out).mono ?_
            rintro e w9 ⟨rfl, b9⟩
            have HBE : Hid (Below w.heap.size w w9) := (HBW.out _ _ HS8.out).trans (b9.mono (Nat.le_trans (Nat.le_of_lt HGB.out) (Nat.le_refl _)))
            clear b9
            go_wp2_with fail
            go_ret2
            refine ⟨?_, HBE.out⟩
            rw [HWR.out]
            show _ = Ending.returned (.tuple #[.string (mkB _), .int .i64 0])
            congr 4
            simp [mkB, g2]
        | false =>
          cases cl with
          | true =>
            obtain ⟨c0, c1, c2, c3⟩ := HCLS.out _ HS5.out.rep
            have HTk := HTW.out _ _ HS5.out
            have HTK : Hid _ := HTk
            clear HTk
            go_wp2_with fail
            refine (H4.out _ HTK.out).mono ?_
            rintro e w6 ⟨rfl, kk, os, rfl⟩
            have HS6 : Hid (BSt w1.heap.size w.heap.size _ w1 (L1) (Go.Sort.grow (w5.drewN kk) os)) := HS5.out.below (Lib.below_grow _ _ (by simp) kk os) HS5.out.bel.size
            obtain ⟨w6, hw6⟩ : ∃ w6, Go.Sort.grow (w5.drewN kk) os = w6 := ⟨_, rfl⟩
            rw [hw6] at HS6
            try rw [hw6]
            clear hw6 c0 c1 c2 c3 HTK
            obtain ⟨c0, c1, c2, c3⟩ := HCLS.out _ HS6.out.rep
            go_wp2_with fail
            rw [← HLE.out]
            have hbn : (L1).length + (bL : ByteArray).size ≤ 140737488355328 := by obtain ⟨z1, z2, z3, z4, z5⟩ := HSZ.out; have hzl := HLZ.out; have hzc := HCZ.out; have hbs := HBS.out; (try simp only [List.length_append]); omega
            have HQ := HWS.out (L1) bL LL w6 HEL.out HS6.out hbn
            refine HQ.mono ?_
            clear HQ hbn
            rintro e w7 ⟨rfl, q7⟩
            have HS7 : Hid (BSt w1.heap.size w.heap.size _ w1 (L1 ++ LL) w7) := q7
            clear q7 c0 c1 c2 c3
            obtain ⟨c0, c1, c2, c3⟩ := HCLS.out _ HS7.out.rep
            go_wp2_with fail
            rw [← HCE.out]
            have hbn : (L1 ++ LL).length + (bC : ByteArray).size ≤ 140737488355328 := by obtain ⟨z1, z2, z3, z4, z5⟩ := HSZ.out; have hzl := HLZ.out; have hzc := HCZ.out; have hbs := HBS.out; (try simp only [List.length_append]); omega
            have HQ := HWS.out (L1 ++ LL) bC LC w7 HEC2.out HS7.out hbn
            refine HQ.mono ?_
            clear HQ hbn
            rintro e w8 ⟨rfl, q8⟩
            have HS8 : Hid (BSt w1.heap.size w.heap.size _ w1 (L1 ++ LL ++ LC) w8) := q8
            clear q8 c0 c1 c2 c3
            obtain ⟨c0, c1, c2, c3⟩ := HCLS.out _ HS8.out.rep
            go_wp2_with fail
            have hbn : (L1 ++ LL ++ LC).length + (⟨#[67, 111, 110, 110, 101, 99, 116, 105, 111, 110, 58, 32, 99, 108, 111, 115, 101, 13, 10]⟩ : ByteArray).size ≤ 140737488355328 := by obtain ⟨z1, z2, z3, z4, z5⟩ := HSZ.out; have hzl := HLZ.out; have hzc := HCZ.out; have hbs := HBS.out; (try simp only [List.length_append]); show _ + 19 ≤ _; omega
            have HQ := HWS.out (L1 ++ LL ++ LC) ⟨#[67, 111, 110, 110, 101, 99, 116, 105, 111, 110, 58, 32, 99, 108, 111, 115, 101, 13, 10]⟩ L3 w8 HE3.out HS8.out hbn
            refine HQ.mono ?_
            clear HQ hbn
            rintro e w9 ⟨rfl, q9⟩
            have HS9 : Hid (BSt w1.heap.size w.heap.size _ w1 (L1 ++ LL ++ LC ++ L3) w9) := q9
            clear q9 c0 c1 c2 c3
            obtain ⟨c0, c1, c2, c3⟩ := HCLS.out _ HS9.out.rep
            go_wp2_with fail
            have hbn : (L1 ++ LL ++ LC ++ L3).length + ((⟨#[13, 10]⟩ ++ bd) : ByteArray).size ≤ 140737488355328 := by obtain ⟨z1, z2, z3, z4, z5⟩ := HSZ.out; have hzl := HLZ.out; have hzc := HCZ.out; have hbs := HBS.out; (try simp only [List.length_append]); rw [ByteArray.size_append]; show _ + (2 + _) ≤ _; omega
            have HQ := HWS.out (L1 ++ LL ++ LC ++ L3) (⟨#[13, 10]⟩ ++ bd) LE w9 HEE.out HS9.out hbn
            refine HQ.mono ?_
            clear HQ hbn
            rintro e w10 ⟨rfl, q10⟩
            have HS10 : Hid (BSt w1.heap.size w.heap.size _ w1 (L1 ++ LL ++ LC ++ L3 ++ LE) w10) := q10
            clear q10 c0 c1 c2 c3
            go_wp2_with fail
            refine (HSG.out (L1 ++ LL ++ LC ++ L3 ++ LE) _ HS10.out).mono ?_
            rintro e w11 ⟨rfl, b11⟩
            have HBE : Hid (Below w.heap.size w w11) := (HBW.out _ _ HS10.out).trans (b11.mono (Nat.le_trans (Nat.le_of_lt HGB.out) (Nat.le_refl _)))
            clear b11
            go_wp2_with fail
            go_ret2
            refine ⟨?_, HBE.out⟩
            rw [HWR.out]
            show _ = Ending.returned (.tuple #[.string (mkB _), .int .i64 0])
            congr 4
            simp [mkB, g2]
          | false =>
            obtain ⟨c0, c1, c2, c3⟩ := HCLS.out _ HS5.out.rep
            have HTk := HTW.out _ _ HS5.out
            have HTK : Hid _ := HTk
            clear HTk
            go_wp2_with fail
            refine (H4.out _ HTK.out).mono ?_
            rintro e w6 ⟨rfl, kk, os, rfl⟩
            have HS6 : Hid (BSt w1.heap.size w.heap.size _ w1 (L1) (Go.Sort.grow (w5.drewN kk) os)) := HS5.out.below (Lib.below_grow _ _ (by simp) kk os) HS5.out.bel.size
            obtain ⟨w6, hw6⟩ : ∃ w6, Go.Sort.grow (w5.drewN kk) os = w6 := ⟨_, rfl⟩
            rw [hw6] at HS6
            try rw [hw6]
            clear hw6 c0 c1 c2 c3 HTK
            obtain ⟨c0, c1, c2, c3⟩ := HCLS.out _ HS6.out.rep
            go_wp2_with fail
            rw [← HLE.out]
            have hbn : (L1).length + (bL : ByteArray).size ≤ 140737488355328 := by obtain ⟨z1, z2, z3, z4, z5⟩ := HSZ.out; have hzl := HLZ.out; have hzc := HCZ.out; have hbs := HBS.out; (try simp only [List.length_append]); omega
            have HQ := HWS.out (L1) bL LL w6 HEL.out HS6.out hbn
            refine HQ.mono ?_
            clear HQ hbn
            rintro e w7 ⟨rfl, q7⟩
            have HS7 : Hid (BSt w1.heap.size w.heap.size _ w1 (L1 ++ LL) w7) := q7
            clear q7 c0 c1 c2 c3
            obtain ⟨c0, c1, c2, c3⟩ := HCLS.out _ HS7.out.rep
            go_wp2_with fail
            rw [← HCE.out]
            have hbn : (L1 ++ LL).length + (bC : ByteArray).size ≤ 140737488355328 := by obtain ⟨z1, z2, z3, z4, z5⟩ := HSZ.out; have hzl := HLZ.out; have hzc := HCZ.out; have hbs := HBS.out; (try simp only [List.length_append]); omega
            have HQ := HWS.out (L1 ++ LL) bC LC w7 HEC2.out HS7.out hbn
            refine HQ.mono ?_
            clear HQ hbn
            rintro e w8 ⟨rfl, q8⟩
            have HS8 : Hid (BSt w1.heap.size w.heap.size _ w1 (L1 ++ LL ++ LC) w8) := q8
            clear q8 c0 c1 c2 c3
            obtain ⟨c0, c1, c2, c3⟩ := HCLS.out _ HS8.out.rep
            go_wp2_with fail
            have hbn : (L1 ++ LL ++ LC).length + ((⟨#[13, 10]⟩ ++ bd) : ByteArray).size ≤ 140737488355328 := by obtain ⟨z1, z2, z3, z4, z5⟩ := HSZ.out; have hzl := HLZ.out; have hzc := HCZ.out; have hbs := HBS.out; (try simp only [List.length_append]); rw [ByteArray.size_append]; show _ + (2 + _) ≤ _; omega
            have HQ := HWS.out (L1 ++ LL ++ LC) (⟨#[13, 10]⟩ ++ bd) LE w8 HEE.out HS8.out hbn
            refine HQ.mono ?_
            clear HQ hbn
            rintro e w9 ⟨rfl, q9⟩
            have HS9 : Hid (BSt w1.heap.size w.heap.size _ w1 (L1 ++ LL ++ LC ++ LE) w9) := q9
            clear q9 c0 c1 c2 c3
            go_wp2_with fail
            refine (HSG.out (L1 ++ LL ++ LC ++ LE) _ HS9.out).mono ?_
            rintro e w10 ⟨rfl, b10⟩
            have HBE : Hid (Below w.heap.size w w10) := (HBW.out _ _ HS9.out).trans (b10.mono (Nat.le_trans (Nat.le_of_lt HGB.out) (Nat.le_refl _)))
            clear b10
            go_wp2_with fail
            go_ret2
            refine ⟨?_, HBE.out⟩
            rw [HWR.out]
            show _ = Ending.returned (.tuple #[.string (mkB _), .int .i64 0])
            congr 4
            simp [mkB, g2]
      | false =>
        cases ec with
        | true =>
          cases cl with
          | true =>
            obtain ⟨c0, c1, c2, c3⟩ := HCLS.out _ HS5.out.rep
            go_wp2_with fail
            have hbn : (L1).length + (⟨#[67, 111, 110, 116, 101, 110, 116, 45, 84, 121, 112, 101, 58, 32, 97, 112, 112, 108, 105, 99, 97, 116, 105, 111, 110, 47, 106, 115, 111, 110, 13, 10]⟩ : ByteArray).size ≤ 140737488355328 := by obtain ⟨z1, z2, z3, z4, z5⟩ := HSZ.out; have hzl := HLZ.out; have hzc := HCZ.out; have hbs := HBS.out; (try simp only [List.length_append]); show _ + 32 ≤ _; omega
            have HQ := HWS.out (L1) ⟨#[67, 111, 110, 116, 101, 110, 116, 45, 84, 121, 112, 101, 58, 32, 97, 112, 112, 108, 105, 99, 97, 116, 105, 111, 110, 47, 106, 115, 111, 110, 13, 10]⟩ L0 w5 HE0.out HS5.out hbn
            refine HQ.mono ?_
            clear HQ hbn
            rintro e w6 ⟨rfl, q6⟩
            have HS6 : Hid (BSt w1.heap.size w.heap.size _ w1 (L1 ++ L0) w6) := q6
            clear q6 c0 c1 c2 c3
            obtain ⟨c0, c1, c2, c3⟩ := HCLS.out _ HS6.out.rep
            have HTk := HTW.out _ _ HS6.out
            have HTK : Hid _ := HTk
            clear HTk
            go_wp2_with fail
            refine (H4.out _ HTK.out).mono ?_
            rintro e w7 ⟨rfl, kk, os, rfl⟩
            have HS7 : Hid (BSt w1.heap.size w.heap.size _ w1 (L1 ++ L0) (Go.Sort.grow (w6.drewN kk) os)) := HS6.out.below (Lib.below_grow _ _ (by simp) kk os) HS6.out.bel.size
            obtain ⟨w7, hw7⟩ : ∃ w7, Go.Sort.grow (w6.drewN kk) os = w7 := ⟨_, rfl⟩
            rw [hw7] at HS7
            try rw [hw7]
            clear hw7 c0 c1 c2 c3 HTK
            obtain ⟨c0, c1, c2, c3⟩ := HCLS.out _ HS7.out.rep
            go_wp2_with fail
            rw [← HLE.out]
            have hbn : (L1 ++ L0).length + (bL : ByteArray).size ≤ 140737488355328 := by obtain ⟨z1, z2, z3, z4, z5⟩ := HSZ.out; have hzl := HLZ.out; have hzc := HCZ.out; have hbs := HBS.out; (try simp only [List.length_append]); omega
            have HQ := HWS.out (L1 ++ L0) bL LL w7 HEL.out HS7.out hbn
            refine HQ.mono ?_
            clear HQ hbn
            rintro e w8 ⟨rfl, q8⟩
            have HS8 : Hid (BSt w1.heap.size w.heap.size _ w1 (L1 ++ L0 ++ LL) w8) := q8
            clear q8 c0 c1 c2 c3
            obtain ⟨c0, c1, c2, c3⟩ := HCLS.out _ HS8.out.rep
            go_wp2_with fail
            have hbn : (L1 ++ L0 ++ LL).length + (⟨#[67, 111, 110, 110, 101, 99, 116, 105, 111, 110, 58, 32, 99, 108, 111, 115, 101, 13, 10]⟩ : ByteArray).size ≤ 140737488355328 := by obtain ⟨z1, z2, z3, z4, z5⟩ := HSZ.out; have hzl := HLZ.out; have hzc := HCZ.out; have hbs := HBS.out; (try simp only [List.length_append]); show _ + 19 ≤ _; omega
            have HQ := HWS.out (L1 ++ L0 ++ LL) ⟨#[67, 111, 110, 110, 101, 99, 116, 105, 111, 110, 58, 32, 99, 108, 111, 115, 101, 13, 10]⟩ L3 w8 HE3.out HS8.out hbn
            refine HQ.mono ?_
            clear HQ hbn
            rintro e w9 ⟨rfl, q9⟩
            have HS9 : Hid (BSt w1.heap.size w.heap.size _ w1 (L1 ++ L0 ++ LL ++ L3) w9) := q9
            clear q9 c0 c1 c2 c3
            obtain ⟨c0, c1, c2, c3⟩ := HCLS.out _ HS9.out.rep
            go_wp2_with fail
            have hbn : (L1 ++ L0 ++ LL ++ L3).length + ((⟨#[13, 10]⟩ ++ bd) : ByteArray).size ≤ 140737488355328 := by obtain ⟨z1, z2, z3, z4, z5⟩ := HSZ.out; have hzl := HLZ.out; have hzc := HCZ.out; have hbs := HBS.out; (try simp only [List.length_append]); rw [ByteArray.size_append]; show _ + (2 + _) ≤ _; omega
            have HQ := HWS.out (L1 ++ L0 ++ LL ++ L3) (⟨#[13, 10]⟩ ++ bd) LE w9 HEE.out HS9.out hbn
            refine HQ.mono ?_
            clear HQ hbn
            rintro e w10 ⟨rfl, q10⟩
            have HS10 : Hid (BSt w1.heap.size w.heap.size _ w1 (L1 ++ L0 ++ LL ++ L3 ++ LE) w10) := q10
            clear q10 c0 c1 c2 c3
            go_wp2_with fail
            refine (HSG.out (L1 ++ L0 ++ LL ++ L3 ++ LE) _ HS10.out).mono ?_
            rintro e w11 ⟨rfl, b11⟩
            have HBE : Hid (Below w.heap.size w w11) := (HBW.out _ _ HS10.out).trans (b11.mono (Nat.le_trans (Nat.le_of_lt HGB.out) (Nat.le_refl _)))
            clear b11
            go_wp2_with fail
            go_ret2
            refine ⟨?_, HBE.out⟩
            rw [HWR.out]
            show _ = Ending.returned (.tuple #[.string (mkB _), .int .i64 0])
            congr 4
            simp [mkB, g2]
          | false =>
            obtain ⟨c0, c1, c2, c3⟩ := HCLS.out _ HS5.out.rep
            go_wp2_with fail
            have hbn : (L1).length + (⟨#[67, 111, 110, 116, 101, 110, 116, 45, 84, 121, 112, 101, 58, 32, 97, 112, 112, 108, 105, 99, 97, 116, 105, 111, 110, 47, 106, 115, 111, 110, 13, 10]⟩ : ByteArray).size ≤ 140737488355328 := by obtain ⟨z1, z2, z3, z4, z5⟩ := HSZ.out; have hzl := HLZ.out; have hzc := HCZ.out; have hbs := HBS.out; (try simp only [List.length_append]); show _ + 32 ≤ _; omega
            have HQ := HWS.out (L1) ⟨#[67, 111, 110, 116, 101, 110, 116, 45, 84, 121, 112, 101, 58, 32, 97, 112, 112, 108, 105, 99, 97, 116, 105, 111, 110, 47, 106, 115, 111, 110, 13, 10]⟩ L0 w5 HE0.out HS5.out hbn
            refine HQ.mono ?_
            clear HQ hbn
            rintro e w6 ⟨rfl, q6⟩
            have HS6 : Hid (BSt w1.heap.size w.heap.size _ w1 (L1 ++ L0) w6) := q6
            clear q6 c0 c1 c2 c3
            obtain ⟨c0, c1, c2, c3⟩ := HCLS.out _ HS6.out.rep
            have HTk := HTW.out _ _ HS6.out
            have HTK : Hid _ := HTk
            clear HTk
            go_wp2_with fail
            refine (H4.out _ HTK.out).mono ?_
            rintro e w7 ⟨rfl, kk, os, rfl⟩
            have HS7 : Hid (BSt w1.heap.size w.heap.size _ w1 (L1 ++ L0) (Go.Sort.grow (w6.drewN kk) os)) := HS6.out.below (Lib.below_grow _ _ (by simp) kk os) HS6.out.bel.size
            obtain ⟨w7, hw7⟩ : ∃ w7, Go.Sort.grow (w6.drewN kk) os = w7 := ⟨_, rfl⟩
            rw [hw7] at HS7
            try rw [hw7]
            clear hw7 c0 c1 c2 c3 HTK
            obtain ⟨c0, c1, c2, c3⟩ := HCLS.out _ HS7.out.rep
            go_wp2_with fail
            rw [← HLE.out]
            have hbn : (L1 ++ L0).length + (bL : ByteArray).size ≤ 140737488355328 := by obtain ⟨z1, z2, z3, z4, z5⟩ := HSZ.out; have hzl := HLZ.out; have hzc := HCZ.out; have hbs := HBS.out; (try simp only [List.length_append]); omega
            have HQ := HWS.out (L1 ++ L0) bL LL w7 HEL.out HS7.out hbn
            refine HQ.mono ?_
            clear HQ hbn
            rintro e w8 ⟨rfl, q8⟩
            have HS8 : Hid (BSt w1.heap.size w.heap.size _ w1 (L1 ++ L0 ++ LL) w8) := q8
            clear q8 c0 c1 c2 c3
            obtain ⟨c0, c1, c2, c3⟩ := HCLS.out _ HS8.out.rep
            go_wp2_with fail
            have hbn : (L1 ++ L0 ++ LL).length + ((⟨#[13, 10]⟩ ++ bd) : ByteArray).size ≤ 140737488355328 := by obtain ⟨z1, z2, z3, z4, z5⟩ := HSZ.out; have hzl := HLZ.out; have hzc := HCZ.out; have hbs := HBS.out; (try simp only [List.length_append]); rw [ByteArray.size_append]; show _ + (2 + _) ≤ _; omega
            have HQ := HWS.out (L1 ++ L0 ++ LL) (⟨#[13, 10]⟩ ++ bd) LE w8 HEE.out HS8.out hbn
            refine HQ.mono ?_
            clear HQ hbn
            rintro e w9 ⟨rfl, q9⟩
            have HS9 : Hid (BSt w1.heap.size w.heap.size _ w1 (L1 ++ L0 ++ LL ++ LE) w9) := q9
            clear q9 c0 c1 c2 c3
            go_wp2_with fail
            refine (HSG.out (L1 ++ L0 ++ LL ++ LE) _ HS9.out).mono ?_
            rintro e w10 ⟨rfl, b10⟩
            have HBE : Hid (Below w.heap.size w w10) := (HBW.out _ _ HS9.out).trans (b10.mono (Nat.le_trans (Nat.le_of_lt HGB.out) (Nat.le_refl _)))
            clear b10
            go_wp2_with fail
            go_ret2
            refine ⟨?_, HBE.out⟩
            rw [HWR.out]
            show _ = Ending.returned (.tuple #[.string (mkB _), .int .i64 0])
            congr 4
            simp [mkB, g2]
        | false =>
          cases cl with
          | true =>
            obtain ⟨c0, c1, c2, c3⟩ := HCLS.out _ HS5.out.rep
            go_wp2_with fail
            have hbn : (L1).length + (⟨#[67, 111, 110, 116, 101, 110, 116, 45, 84, 121, 112, 101, 58, 32, 97, 112, 112, 108, 105, 99, 97, 116, 105, 111, 110, 47, 106, 115, 111, 110, 13, 10]⟩ : ByteArray).size ≤ 140737488355328 := by obtain ⟨z1, z2, z3, z4, z5⟩ := HSZ.out; have hzl := HLZ.out; have hzc := HCZ.out; have hbs := HBS.out; (try simp only [List.length_append]); show _ + 32 ≤ _; omega
            have HQ := HWS.out (L1) ⟨#[67, 111, 110, 116, 101, 110, 116, 45, 84, 121, 112, 101, 58, 32, 97, 112, 112, 108, 105, 99, 97, 116, 105, 111, 110, 47, 106, 115, 111, 110, 13, 10]⟩ L0 w5 HE0.out HS5.out hbn
            refine HQ.mono ?_
            clear HQ hbn
            rintro e w6 ⟨rfl, q6⟩
            have HS6 : Hid (BSt w1.heap.size w.heap.size _ w1 (L1 ++ L0) w6) := q6
            clear q6 c0 c1 c2 c3
            obtain ⟨c0, c1, c2, c3⟩ := HCLS.out _ HS6.out.rep
            have HTk := HTW.out _ _ HS6.out
            have HTK : Hid _ := HTk
            clear HTk
            go_wp2_with fail
            refine (H4.out _ HTK.out).mono ?_
            rintro e w7 ⟨rfl, kk, os, rfl⟩
            have HS7 : Hid (BSt w1.heap.size w.heap.size _ w1 (L1 ++ L0) (Go.Sort.grow (w6.drewN kk) os)) := HS6.out.below (Lib.below_grow _ _ (by simp) kk os) HS6.out.bel.size
            obtain ⟨w7, hw7⟩ : ∃ w7, Go.Sort.grow (w6.drewN kk) os = w7 := ⟨_, rfl⟩
            rw [hw7] at HS7
            try rw [hw7]
            clear hw7 c0 c1 c2 c3 HTK
            obtain ⟨c0, c1, c2, c3⟩ := HCLS.out _ HS7.out.rep
            go_wp2_with fail
            rw [← HLE.out]
            have hbn : (L1 ++ L0).length + (bL : ByteArray).size ≤ 140737488355328 := by obtain ⟨z1, z2, z3, z4, z5⟩ := HSZ.out; have hzl := HLZ.out; have hzc := HCZ.out; have hbs := HBS.out; (try simp only [List.length_append]); omega
            have HQ := HWS.out (L1 ++ L0) bL LL w7 HEL.out HS7.out hbn
            refine HQ.mono ?_
            clear HQ hbn
            rintro e w8 ⟨rfl, q8⟩
            have HS8 : Hid (BSt w1.heap.size w.heap.size _ w1 (L1 ++ L0 ++ LL) w8) := q8
            clear q8 c0 c1 c2 c3
            obtain ⟨c0, c1, c2, c3⟩ := HCLS.out _ HS8.out.rep
            go_wp2_with fail
            rw [← HCE.out]
            have hbn : (L1 ++ L0 ++ LL).length + (bC : ByteArray).size ≤ 140737488355328 := by obtain ⟨z1, z2, z3, z4, z5⟩ := HSZ.out; have hzl := HLZ.out; have hzc := HCZ.out; have hbs := HBS.out; (try simp only [List.length_append]); omega
            have HQ := HWS.out (L1 ++ L0 ++ LL) bC LC w8 HEC2.out HS8.out hbn
            refine HQ.mono ?_
            clear HQ hbn
            rintro e w9 ⟨rfl, q9⟩
            have HS9 : Hid (BSt w1.heap.size w.heap.size _ w1 (L1 ++ L0 ++ LL ++ LC) w9) := q9
            clear q9 c0 c1 c2 c3
            obtain ⟨c0, c1, c2, c3⟩ := HCLS.out _ HS9.out.rep
            go_wp2_with fail
            have hbn : (L1 ++ L0 ++ LL ++ LC).length + (⟨#[67, 111, 110, 110, 101, 99, 116, 105, 111, 110, 58, 32, 99, 108, 111, 115, 101, 13, 10]⟩ : ByteArray).size ≤ 140737488355328 := by obtain ⟨z1, z2, z3, z4, z5⟩ := HSZ.out; have hzl := HLZ.out; have hzc := HCZ.out; have hbs := HBS.out; (try simp only [List.length_append]); show _ + 19 ≤ _; omega
            have HQ := HWS.out (L1 ++ L0 ++ LL ++ LC) ⟨#[67, 111, 110, 110, 101, 99, 116, 105, 111, 110, 58, 32, 99, 108, 111, 115, 101, 13, 10]⟩ L3 w9 HE3.out HS9.out hbn
            refine HQ.mono ?_
            clear HQ hbn
            rintro e w10 ⟨rfl, q10⟩
            have HS10 : Hid (BSt w1.heap.size w.heap.size _ w1 (L1 ++ L0 ++ LL ++ LC ++ L3) w10) := q10
            clear q10 c0 c1 c2 c3
            obtain ⟨c0, c1, c2, c3⟩ := HCLS.out _ HS10.out.rep
            go_wp2_with fail
            have hbn : (L1 ++ L0 ++ LL ++ LC ++ L3).length + ((⟨#[13, 10]⟩ ++ bd) : ByteArray).size ≤ 140737488355328 := by obtain ⟨z1, z2, z3, z4, z5⟩ := HSZ.out; have hzl := HLZ.out; have hzc := HCZ.out; have hbs := HBS.out; (try simp only [List.length_append]); rw [ByteArray.size_append]; show _ + (2 + _) ≤ _; omega
            have HQ := HWS.out (L1 ++ L0 ++ LL ++ LC ++ L3) (⟨#[13, 10]⟩ ++ bd) LE w10 HEE.out HS10.out hbn
            refine HQ.mono ?_
            clear HQ hbn
            rintro e w11 ⟨rfl, q11⟩
            have HS11 : Hid (BSt w1.heap.size w.heap.size _ w1 (L1 ++ L0 ++ LL ++ LC ++ L3 ++ LE) w11) := q11
            clear q11 c0 c1 c2 c3
            go_wp2_with fail
            refine (HSG.out (L1 ++ L0 ++ LL ++ LC ++ L3 ++ LE) _ HS11.out).mono ?_
            rintro e w12 ⟨rfl, b12⟩
            have HBE : Hid (Below w.heap.size w w12) := (HBW.out _ _ HS11.out).trans (b12.mono (Nat.le_trans (Nat.le_of_lt HGB.out) (Nat.le_refl _)))
            clear b12
            go_wp2_with fail
            go_ret2
            refine ⟨?_, HBE.out⟩
            rw [HWR.out]
            show _ = Ending.returned (.tuple #[.string (mkB _), .int .i64 0])
            congr 4
            simp [mkB, g2]
          | false =>
            obtain ⟨c0, c1, c2, c3⟩ := HCLS.out _ HS5.out.rep
            go_wp2_with fail
            have hbn : (L1).length + (⟨#[67, 111, 110, 116, 101, 110, 116, 45, 84, 121, 112, 101, 58, 32, 97, 112, 112, 108, 105, 99, 97, 116, 105, 111, 110, 47, 106, 115, 111, 110, 13, 10]⟩ : ByteArray).size ≤ 140737488355328 := by obtain ⟨z1, z2, z3, z4, z5⟩ := HSZ.out; have hzl := HLZ.out; have hzc := HCZ.out; have hbs := HBS.out; (try simp only [List.length_append]); show _ + 32 ≤ _; omega
            have HQ := HWS.out (L1) ⟨#[67, 111, 110, 116, 101, 110, 116, 45, 84, 121, 112, 101, 58, 32, 97, 112, 112, 108, 105, 99, 97, 116, 105, 111, 110, 47, 106, 115, 111, 110, 13, 10]⟩ L0 w5 HE0.out HS5.out hbn
            refine HQ.mono ?_
            clear HQ hbn
            rintro e w6 ⟨rfl, q6⟩
            have HS6 : Hid (BSt w1.heap.size w.heap.size _ w1 (L1 ++ L0) w6) := q6
            clear q6 c0 c1 c2 c3
            obtain ⟨c0, c1, c2, c3⟩ := HCLS.out _ HS6.out.rep
            have HTk := HTW.out _ _ HS6.out
            have HTK : Hid _ := HTk
            clear HTk
            go_wp2_with fail
            refine (H4.out _ HTK.out).mono ?_
            rintro e w7 ⟨rfl, kk, os, rfl⟩
            have HS7 : Hid (BSt w1.heap.size w.heap.size _ w1 (L1 ++ L0) (Go.Sort.grow (w6.drewN kk) os)) := HS6.out.below (Lib.below_grow _ _ (by simp) kk os) HS6.out.bel.size
            obtain ⟨w7, hw7⟩ : ∃ w7, Go.Sort.grow (w6.drewN kk) os = w7 := ⟨_, rfl⟩
            rw [hw7] at HS7
            try rw [hw7]
            clear hw7 c0 c1 c2 c3 HTK
            obtain ⟨c0, c1, c2, c3⟩ := HCLS.out _ HS7.out.rep
            go_wp2_with fail
            rw [← HLE.out]
            have hbn : (L1 ++ L0).length + (bL : ByteArray).size ≤ 140737488355328 := by obtain ⟨z1, z2, z3, z4, z5⟩ := HSZ.out; have hzl := HLZ.out; have hzc := HCZ.out; have hbs := HBS.out; (try simp only [List.length_append]); omega
            have HQ := HWS.out (L1 ++ L0) bL LL w7 HEL.out HS7.out hbn
            refine HQ.mono ?_
            clear HQ hbn
            rintro e w8 ⟨rfl, q8⟩
            have HS8 : Hid (BSt w1.heap.size w.heap.size _ w1 (L1 ++ L0 ++ LL) w8) := q8
            clear q8 c0 c1 c2 c3
            obtain ⟨c0, c1, c2, c3⟩ := HCLS.out _ HS8.out.rep
            go_wp2_with fail
            rw [← HCE.out]
            have hbn : (L1 ++ L0 ++ LL).length + (bC : ByteArray).size ≤ 140737488355328 := by obtain ⟨z1, z2, z3, z4, z5⟩ := HSZ.out; have hzl := HLZ.out; have hzc := HCZ.out; have hbs := HBS.out; (try simp only [List.length_append]); omega
            have HQ := HWS.out (L1 ++ L0 ++ LL) bC LC w8 HEC2.out HS8.out hbn
            refine HQ.mono ?_
            clear HQ hbn
            rintro e w9 ⟨rfl, q9⟩
            have HS9 : Hid (BSt w1.heap.size w.heap.size _ w1 (L1 ++ L0 ++ LL ++ LC) w9) := q9
            clear q9 c0 c1 c2 c3
            obtain ⟨c0, c1, c2, c3⟩ := HCLS.out _ HS9.out.rep
            go_wp2_with fail
            have hbn : (L1 ++ L0 ++ LL ++ LC).length + ((⟨#[13, 10]⟩ ++ bd) : ByteArray).size ≤ 140737488355328 := by obtain ⟨z1, z2, z3, z4, z5⟩ := HSZ.out; have hzl := HLZ.out; have hzc := HCZ.out; have hbs := HBS.out; (try simp only [List.length_append]); rw [ByteArray.size_append]; show _ + (2 + _) ≤ _; omega
            have HQ := HWS.out (L1 ++ L0 ++ LL ++ LC) (⟨#[13, 10]⟩ ++ bd) LE w9 HEE.out HS9.out hbn
            refine HQ.mono ?_
            clear HQ hbn
            rintro e w10 ⟨rfl, q10⟩
            have HS10 : Hid (BSt w1.heap.size w.heap.size _ w1 (L1 ++ L0 ++ LL ++ LC ++ LE) w10) := q10
            clear q10 c0 c1 c2 c3
            go_wp2_with fail
            refine (HSG.out (L1 ++ L0 ++ LL ++ LC ++ LE) _ HS10.out).mono ?_
            rintro e w11 ⟨rfl, b11⟩
            have HBE : Hid (Below w.heap.size w w11) := (HBW.out _ _ HS10.out).trans (b11.mono (Nat.le_trans (Nat.le_of_lt HGB.out) (Nat.le_refl _)))
            clear b11
            go_wp2_with fail
            go_ret2
            refine ⟨?_, HBE.out⟩
            rw [HWR.out]
            show _ = Ending.returned (.tuple #[.string (mkB _), .int .i64 0])
            congr 4
            simp [mkB, g2]
end Go.Proofs.YtdkbgbhcnbmlfaaDoor
