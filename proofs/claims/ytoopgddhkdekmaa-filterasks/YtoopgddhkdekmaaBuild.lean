/-
  The contract of Build: the filter of any keys, or why there is none.
-/
import Derived.Test.YtoopgddhkdekmaaSmall
import Derived.LoopTactic
import Derived.Deep.Cut
namespace Go.Proofs.Ytoopgddhkdekmaa
open Go.RowKit Go.Shelf
attribute [local go_sem] Oper.semAt_some
theorem bitN_lt2 (p : Nat) : bitN p < 256 := by
  have h : p % 8 < 8 := Nat.mod_lt _ (by decide)
  have : 2 ^ (p % 8) < 2 ^ 8 := Nat.pow_lt_pow_right (by decide) h
  exact this
/-- Texts in memory, from a slice's address on. -/
def StrsAt (w : World) (a : Option Addr) (ks : List ByteArray) : Prop :=
  ∀ j s, ks[j]? = some s → ∃ b off, a = some ⟨b, off, none⟩ ∧ b < w.heap.size ∧ w.cell? ⟨b, off + j, none⟩ = some (.string s)
theorem StrsAt.below {w w' : World} {a : Option Addr} {bs : List ByteArray} {B : Nat} (h : StrsAt w a bs) (hB : w.heap.size ≤ B) (k : Below B w w') : StrsAt w' a bs := by
  intro j c hj
  obtain ⟨b, off, ha, hb, h0⟩ := h j c hj
  exact ⟨b, off, ha, Nat.lt_of_lt_of_le hb k.size, (k.cell (p := ⟨b, off + j, none⟩) (by show b < B; omega)).trans h0⟩
/-- A bit is made 1. -/
def setBit (bs : List UInt8) (p : Nat) : List UInt8 := bs.set (p / 8) (UInt8.ofNat ((bs.getD (p / 8) 0).toNat ||| bitN p))
theorem setBit_len (bs : List UInt8) (p : Nat) : (setBit bs p).length = bs.length := by simp [setBit]
/-- A key's places are made 1. -/
def addKey (m k : Nat) (bs : List UInt8) (key : ByteArray) : List UInt8 := (List.range k).foldl (fun b i => setBit b (placeN key m i)) bs
theorem addKey_len (m k : Nat) (bs : List UInt8) (key : ByteArray) : (addKey m k bs key).length = bs.length := by
  unfold addKey
  induction k with
  | zero => rfl
  | succ k ih => rw [List.range_succ, List.foldl_append]; simp [setBit_len, ih]
theorem addKey_last {S : Nat} (hS : 0 < S) (bs : List UInt8) (key : ByteArray) (k : Nat) : (addKey (S * 8) k bs key).getD S 0 = bs.getD S 0 := by
  unfold addKey
  induction k with
  | zero => rfl
  | succ k ih =>
    rw [List.range_succ, List.foldl_append]
    simp only [List.foldl_cons, List.foldl_nil]
    have hp : placeN key (S * 8) k / 8 < S := by
      have := Nat.mod_lt (atN (hashN key) (stepN key) k) (show 0 < S * 8 by omega)
      unfold placeN
      omega
    rw [← ih]
    simp only [setBit, List.getD_eq_getElem?_getD]
    rw [List.getElem?_set_ne (by omega)]
/-- So many bytes, ahead of the last one. -/
def sizeOfF (n bits : Nat) : Nat := (max (n * bits) 64 + 7) / 8
/-- So many places has a key. -/
def kOf (bits : Nat) : Nat := min (max (bits * 69 / 100) 1) 30
/-- The filter without keys. -/
def zeroF (size k : Nat) : List UInt8 := List.replicate size 0 ++ [UInt8.ofNat k]
/-- The filter of keys. -/
def buildF (ks : List ByteArray) (bits : Nat) : List UInt8 := ks.foldl (addKey (sizeOfF ks.length bits * 8) (kOf bits)) (zeroF (sizeOfF ks.length bits) (kOf bits))
def bcells (l : List UInt8) : Array Value := (l.map fun c => Value.int .u8 (c.toNat : Nat)).toArray
/-- Marks of loops over functions: each is there, and none is there twice. -/
def Marks (B : Nat) (W : World) (ds : List Deferred) : Prop :=
  ∃ rs : List Nat, ds = rs.map (fun r => { target := .collected r, args := #[] }) ∧ rs.Nodup ∧ ∀ r ∈ rs, B ≤ r ∧ W.heap[r]? = some (.deferred (some []))
/-- What the loop holds: the filter's bytes in block g, its variable in block v. -/
structure BS (w W : World) (g v n : Nat) (bs : List UInt8) : Prop where
  row : W.heap[g]? = some (.cells (bcells bs) 5 (0, 0))
  var : W.heap[v]? = some (.cells #[.slice (some ⟨g, 0, none⟩) n n] 24 (0, 0))
  len : bs.length = n
  bel : Below w.heap.size w W
theorem BS.cell {w W : World} {g v n : Nat} {bs : List UInt8} (h : BS w W g v n bs) {j : Nat} (hj : j < n) : W.cell? ⟨g, j, none⟩ = some (.int .u8 ((bs.getD j 0).toNat : Nat)) := by
  have hl := h.len
  have hb : (bcells bs)[j]? = some (.int .u8 ((bs.getD j 0).toNat : Nat)) := by
    simp only [bcells, List.getElem?_toArray, List.getElem?_map]
    rw [getD_at (by omega)]
    rfl
  simp [World.cell?, h.row, hb]
theorem info5 : (Try.prog.info? 5).map (fun i => (i.zero, i.size, i.bytes)) = some (some (.int .u8 0), 1, 1) := by kernel_rfl
theorem BS.free {w W : World} {g v n : Nat} {bs : List UInt8} (h : BS w W g v n bs) (j : Nat) : W.frozen? ⟨g, j, none⟩ = false := by simp [World.frozen?, h.row]
theorem BS.vcell {w W : World} {g v n : Nat} {bs : List UInt8} (h : BS w W g v n bs) : W.cell? ⟨v, 0, none⟩ = some (.slice (some ⟨g, 0, none⟩) n n) := by simp [World.cell?, h.var]
theorem BS.drew {w W : World} {g v n : Nat} {bs : List UInt8} (h : BS w W g v n bs) : BS w W.drew g v n bs := ⟨h.row, h.var, h.len, h.bel.drew⟩
theorem block_set {w : World} {b : Nat} {c : Array Value} {t : TypeId} {f : Nat × Nat} (h : w.heap[b]? = some (.cells c t f)) (o : Nat) (u : Value) :
    (w.setCell ⟨b, o, none⟩ u).heap[b]? = some (.cells (c.setIfInBounds o u) t f) := by
  have hlt := (Array.getElem?_eq_some_iff.1 h).1
  have h' : w.heap[b] = .cells c t f := by simpa [Array.getElem?_eq_getElem hlt] using h
  show (w.heap.modify b _)[b]? = _
  rw [Array.getElem?_eq_getElem (by simpa using hlt), Array.getElem_modify_self, h']
  rfl
theorem BS.set {w W : World} {g v n : Nat} {bs : List UInt8} (h : BS w W g v n bs) (hgv : g ≠ v) (hg : w.heap.size ≤ g) (j : Nat) (c : UInt8) : BS w (W.setCell ⟨g, j, none⟩ (.int .u8 (c.toNat : Nat))) g v n (bs.set j c) := by
  refine ⟨?_, (Below.heap_setCell _ _ _ _ (fun e => hgv e.symm)).trans h.var, by rw [List.length_set, h.len], h.bel.setCell (p := ⟨g, j, none⟩) hg _⟩
  rw [block_set h.row]
  simp [bcells, List.map_set]
theorem made_block {w : World} {B g n : Nat} {xs : List Value} (h : w.ownsRow B 5 1 (.slice (some ⟨g, 0, none⟩) n n) n xs) : w.heap[g]? = some (.cells xs.toArray 5 (0, 0)) := by
  rcases h.2 with ⟨hv, _⟩ | ⟨g', cap, cur, hv, _, hh, _, _, hs, ht⟩
  · simp at hv
  · simp only [Value.slice.injEq, Option.some.injEq, Addr.mk.injEq, and_true, true_and] at hv
    obtain ⟨rfl, rfl⟩ := hv
    rw [hh, ← ht, List.take_of_length_le (by rw [Array.length_toList, hs]; exact Nat.le_refl _)]
theorem made_zero (n : Nat) : (madeCells (Value.int .u8 0).cells (n * 1)).toList = (List.replicate n (0 : UInt8)).map (fun c => Value.int .u8 (c.toNat : Nat)) := by
  have hz : (Value.int .u8 0).cells = #[Value.int .u8 0] := rfl
  rw [hz]
  simp only [madeCells, Nat.mul_one]
  apply List.ext_getElem
  · simp
  · intro i h1 h2
    simp [Nat.mod_one]
theorem bs_own {α : Type} {w : World} {g v n B : Nat} (f : List α → List UInt8) (hB : w.heap.size ≤ B) : OwnFrom B (fun (pre : List α) W => BS w W g v n (f pre)) := fun s A A' row h hg hr => by
  have hne : ∀ (q : Nat) (c : Array Value) (t : TypeId) (fz : Nat × Nat), A.heap[q]? = some (Obj.cells c t fz) → A'.heap[q]? = some (Obj.cells c t fz) := fun q c t fz hq =>
    (hg.block q (Array.getElem?_eq_some_iff.1 hq).1 (fun e => by
      obtain ⟨_, o, ho, hc⟩ := hr q e.symm
      rw [hq] at ho
      cases ho
      cases hc)).trans hq
  exact ⟨hne _ _ _ _ h.row, hne _ _ _ _ h.var, h.len, h.bel.grown hg h.bel.size (fun k e => by have := (hr k e).1; omega)⟩
theorem marks_own {α : Type} {rs : List Nat} {B : Nat} (hrs : ∀ r ∈ rs, r < B) : OwnFrom B (fun (_ : List α) W => ∀ r ∈ rs, W.heap[r]? = some (.deferred (some []))) := fun s A A' row h hg hr r hm =>
  (hg.block r (Array.getElem?_eq_some_iff.1 (h r hm)).1 (fun e => by have h1 := (hr r e.symm).1; have h2 := hrs r hm; omega)).trans (h r hm)
theorem BS.alloc {w W : World} {g v n : Nat} {bs : List UInt8} (h : BS w W g v n bs) (o : Obj) : BS w (W.alloc o) g v n bs :=
  ⟨(Below.heap_alloc _ _ _ (Array.getElem?_eq_some_iff.1 h.row).1).trans h.row, (Below.heap_alloc _ _ _ (Array.getElem?_eq_some_iff.1 h.var).1).trans h.var, h.len, h.bel.alloc h.bel.size o⟩
theorem BS.put {w W : World} {g v n : Nat} {bs : List UInt8} (h : BS w W g v n bs) {r : Nat} (hr : w.heap.size ≤ r) (hd : W.heap[r]? = some (.deferred (some []))) : BS w (W.putObj r (.deferred none)) g v n bs := by
  have hg : g ≠ r := fun e => by subst e; rw [h.row] at hd; cases hd
  have hv : v ≠ r := fun e => by subst e; rw [h.var] at hd; cases hd
  exact ⟨(World.putObj_heap_other hg).trans h.row, (World.putObj_heap_other hv).trans h.var, h.len, h.bel.trans (belowK_b (w := w) (Nat.le_refl _) W r _ _ hr hd rfl rfl)⟩
theorem leaves_marks {P : Program} {fn : Func} {tmps : Array Value} {R : Ending → World → Prop} {v : Value} {B : Nat} {Pr : World → Prop}
    (hres : ∀ W, (results fn tmps).run P W = .ok v W) (hP : ∀ W r, Pr W → B ≤ r → W.heap[r]? = some (.deferred (some [])) → Pr (W.putObj r (.deferred none))) (hR : ∀ W, Pr W → R (.returned v) W) :
    ∀ (rs : List Nat) (W : World), rs.Nodup → (∀ r ∈ rs, B ≤ r ∧ W.heap[r]? = some (.deferred (some []))) → Pr W →
      LeavesInM Fence.wide 8 P fn tmps R (rs.map (fun r => ({ target := .collected r, args := #[] } : Deferred))) .returning W
  | [], W, _, _, h => ⟨v, hres W, hR W h⟩
  | r :: rs, W, hn, hm, h => by
    obtain ⟨hB, hr⟩ := hm r (by simp)
    refine ⟨by simp, .inl ⟨r, _, rfl, run_takeDeferred hr, ?_⟩⟩
    refine leaves_marks hres hP hR rs _ (List.nodup_cons.1 hn).2 (fun q hq => ?_) (hP W r h hB hr)
    obtain ⟨h1, h2⟩ := hm q (by simp [hq])
    refine ⟨h1, ?_⟩
    have hne : q ≠ r := fun e => (List.nodup_cons.1 hn).1 (by rw [← e]; exact hq)
    exact (World.putObj_heap_other hne).trans h2
set_option maxRecDepth 100000 in
set_option maxHeartbeats 8000000 in
theorem build_any (a : Option Addr) (ca : Nat) (ks : List ByteArray) (bt : Nat) (w : World) (hks : StrsAt w a ks) (hss : ∀ s ∈ ks, s.size ≤ 140737488355328) (h1 : 1 ≤ bt) (h32 : bt ≤ 32) (hn : ks.length ≤ 65536) :
    Calls Try.prog 10 #[.slice a ks.length ca, .int .i64 bt] w fun r w' => ∃ g, r = .returned (.tuple #[.slice (some ⟨g, 0, none⟩) (sizeOfF ks.length bt + 1) (sizeOfF ks.length bt + 1), .int .i64 0]) ∧ w.heap.size ≤ g ∧ w'.heap[g]? = some (.cells (bcells (buildF ks bt)) 5 (0, 0)) ∧ Below w.heap.size w w' := by
  obtain ⟨i0, hi, hz0, hz1, hz2⟩ := info_parts info5
  obtain ⟨n, hnd⟩ : ∃ n, ks.length = n := ⟨_, rfl⟩
  obtain ⟨P, hP⟩ : ∃ P, n * bt = P := ⟨_, rfl⟩
  have hPl : P ≤ 2097152 := by rw [← hP]; exact Nat.mul_le_mul (by omega : n ≤ 65536) h32
  obtain ⟨Mx, hMx⟩ : ∃ Mx, max P 64 = Mx := ⟨_, rfl⟩
  obtain ⟨S, hS⟩ : ∃ S, (Mx + 7) / 8 = S := ⟨_, rfl⟩
  obtain ⟨k0, hk0⟩ : ∃ k0, bt * 69 / 100 = k0 := ⟨_, rfl⟩
  obtain ⟨k1, hk1⟩ : ∃ k1, max k0 1 = k1 := ⟨_, rfl⟩
  obtain ⟨k, hk⟩ : ∃ k, min k1 30 = k := ⟨_, rfl⟩
  have HSZ : Hid (sizeOfF ks.length bt = S) := by rw [Hid, sizeOfF, hnd, hP, hMx, hS]
  have HKO : Hid (kOf bt = k) := by rw [Hid, kOf, hk0, hk1, hk]
  have hmul : (n : Int) * (bt : Int) = (P : Int) := by rw [← hP]; push_cast; rfl
  have hmax : (if (P : Int) < 64 then (64 : Int) else (P : Int)) = (Mx : Int) := by split <;> omega
  have hquo : ((Mx : Int) + 7) / 8 = (S : Int) := by omega
  have hquo2 : (bt : Int) * 69 / 100 = (k0 : Int) := by omega
  have hmax2 : (if (k0 : Int) < 1 then (1 : Int) else (k0 : Int)) = (k1 : Int) := by split <;> omega
  have hmin2 : (if (30 : Int) < (k1 : Int) then (30 : Int) else (k1 : Int)) = (k : Int) := by split <;> omega
  have hkw : IntKind.u8.wrap (k : Int) = (k : Int) := by rw [IntKind.wrap_u8]; omega
  have hS8 : 8 ≤ S := by omega
  have hSl : S ≤ 262145 := by omega
  have hkb : 1 ≤ k ∧ k ≤ 30 := by omega
  have hkk : k1 = k := by omega
  have HMxl : Mx ≤ 2097152 := by omega
  have hk0l : k0 ≤ 22 := by omega
  have hk1l : k1 ≤ 22 := by omega
  have HN : Hid _ := hnd
  have HKS : Hid _ := hks
  have HSS : Hid _ := hss
  have hn' : n ≤ 65536 := by omega
  rw [HSZ.out, hnd]
  clear hP hMx hS hk0 hk1 hk hnd hks hss hn hmin2
  subst hkk
  refine callsIn_wide.1 (callsIn_of_wp_marks (F := Fence.wide) (n := 8) Try.func10 rfl trivial ?_ rfl)
  refine wpIn_wide.2 ?_
  simp only [Try.ntmps10, List.size_toArray, List.length_cons, List.length_nil, Nat.reduceAdd, Nat.reduceSub, Array.replicate_succ, Array.replicate_zero, List.push_toArray, List.append_toArray, List.nil_append, List.cons_append]
  go_upto_region 7 with (refine wpList_make_full _ rfl _ _ 24 rfl w.heap.size 5 i0 (.int .u8 0) 1 Try.underlying24 hi hz0 hz1 .i64 .i64 _ _ (S + 1) rfl rfl (by push_cast; rfl) (by push_cast; rfl) (by rw [hz2]; omega) (by unfold maxLen; omega) (Nat.le_refl _) ?_; intro w1 hown1 hg1)
  have hb1 := made_block hown1
  rw [made_zero] at hb1
  have B1 : Below w.heap.size w w1 := (Below.refl _ w).grown hg1 (Nat.le_refl _) (fun k e => by cases e)
  have hlt1 : w.heap.size < w1.heap.size := (Array.getElem?_eq_some_iff.1 hb1).1
  have S0 : BS w (w1.alloc (.cells #[.slice (some ⟨w.heap.size, 0, none⟩) (S + 1) (S + 1)] 24)) w.heap.size w1.heap.size (S + 1) (List.replicate (S + 1) 0) :=
    ⟨(Below.heap_alloc _ _ _ hlt1).trans hb1, World.alloc_heap_new _ _, by simp, B1.alloc B1.size _⟩
  obtain ⟨g, hg⟩ : ∃ g, w.heap.size = g := ⟨_, rfl⟩
  obtain ⟨v, hv⟩ : ∃ v, w1.heap.size = v := ⟨_, rfl⟩
  rw [hg, hv] at S0 hlt1
  rw [hg, hv]
  generalize w1.alloc (.cells #[.slice (some ⟨g, 0, none⟩) (S + 1) (S + 1)] 24) = W1 at *
  have hgv : g ≠ v := by omega
  have hgw : w.heap.size ≤ g := by omega
  have c1 := S0.vcell
  have c2 := S0.cell (j := S) (by omega)
  have f2 := S0.free S
  have S1 := S0.set hgv hgw S (UInt8.ofNat k1)
  have hkt : ((UInt8.ofNat k1).toNat : Int) = (k1 : Int) := by
    have : (UInt8.ofNat k1).toNat = k1 := by simp; omega
    omega
  rw [hkt] at S1
  have HZ : Hid ((List.replicate (S + 1) (0 : UInt8)).set S (UInt8.ofNat k1) = zeroF S k1) := by
    rw [Hid, zeroF, List.replicate_succ', List.set_append_right _ _ (by simp)]
    simp
  rw [HZ.out] at S1
  clear hown1 hg1 hb1 B1 hkt
  go_wp2_with fail
  generalize W1.setCell ⟨g, S, none⟩ (.int .u8 (k1 : Int)) = W2 at *
  clear c1 c2 f2 S0
  have hm : 0 < S * 8 := by omega
  have HS0 : Hid ((zeroF S k1).getD S 0 = UInt8.ofNat k1) := by simp [Hid, zeroF, List.getD_eq_getElem?_getD]
  refine wp_loop (fun a' W => ∃ (j : Nat) (rs : List Nat) (bs : List UInt8) (x0 x1 x2 x3 x4 x5 x6 x8 x9 x10 x11 x12 x13 x14 x15 x16 x17 x18 x19 x20 x21 x22 x23 x24 x25 x26 x27 x28 x29 x30 x31 x32 x33 x34 x35 x36 x37 x38 x42 x43 x44 x45 x46 x47 x48 x49 x50 x51 x52 x53 x54 x55 x56 x57 x58 x59 : Value), j ≤ n ∧ BS w W g v (S + 1) bs ∧ Hid (bs = (ks.take j).foldl (addKey (S * 8) k1) (zeroF S k1)) ∧ bs.getD S 0 = UInt8.ofNat k1 ∧ rs.Nodup ∧ (∀ r ∈ rs, w.heap.size ≤ r ∧ W.heap[r]? = some (.deferred (some []))) ∧
      a' = { tmps := #[x0, x1, x2, x3, x4, x5, x6, .pointer (some ⟨v, 0, none⟩), x8, x9, x10, x11, x12, x13, x14, x15, x16, x17, x18, x19, x20, x21, x22, x23, x24, x25, x26, x27, x28, x29, x30, x31, x32, x33, x34, x35, x36, x37, x38, .slice a n ca, .int .i64 (n : Nat), .int .i64 (j : Nat), x42, x43, x44, x45, x46, x47, x48, x49, x50, x51, x52, x53, x54, x55, x56, x57, x58, x59], defers := rs.map (fun r => ({ target := .collected r, args := #[] } : Deferred)) })
    (fun a' _ => n - (intOf (a'.tmps.getD 41 undef)).toNat) ?start ?round
  case start =>
    refine ⟨0, [], zeroF S k1, _, _, _, _, _, _, _, _, _, _, _, _, _, _, _, _, _, _, _, _, _, _, _, _, _, _, _, _, _, _, _, _, _, _, _, _, _, _, _, _, _, _, _, _, _, _, _, _, _, _, _, _, _, _, _, _, by omega, S1, rfl, HS0.out, List.nodup_nil, (by simp), rfl⟩
  case round =>
    rintro a' W ⟨j, rs, bs, x0, x1, x2, x3, x4, x5, x6, x8, x9, x10, x11, x12, x13, x14, x15, x16, x17, x18, x19, x20, x21, x22, x23, x24, x25, x26, x27, x28, x29, x30, x31, x32, x33, x34, x35, x36, x37, x38, x42, x43, x44, x45, x46, x47, x48, x49, x50, x51, x52, x53, x54, x55, x56, x57, x58, x59, hj, hBS, HF, hlast, hnd, hmk, rfl⟩
    clear S1
    dsimp only
    by_cases hlt : j < n
    · obtain ⟨key, hkey⟩ : ∃ key, ks[j]? = some key := ⟨ks[j]'(by rw [HN.out]; exact hlt), List.getElem?_eq_getElem _⟩
      obtain ⟨b, off, rfl, hb, hc⟩ := HKS.out j key hkey
      have hkz := HSS.out key (List.mem_of_getElem? hkey)
      replace hc := (hBS.bel.cell (p := ⟨b, off + j, none⟩) hb).trans hc
      have hvc := hBS.vcell
      go_wp2_with fail
      refine (places_any _ _ _ key _ (by omega) (by omega)).mono ?_
      rintro e w' ⟨rfl, rfl⟩
      go_wp2_with fail
      obtain ⟨s, hs⟩ : ∃ s, W.heap.size = s := ⟨_, rfl⟩
      obtain ⟨W0, hW0⟩ : ∃ W0, (((W.alloc (.cells #[.slice (some ⟨g, 0, none⟩) (S + 1) (S + 1)] 24)).alloc (.cells #[.string key] 9)).alloc (.cells #[.int .i64 (S : Nat)] 3)) = W0 := ⟨_, rfl⟩
      have q2 : W0.cell? ⟨s, 0, none⟩ = some (.slice (some ⟨g, 0, none⟩) (S + 1) (S + 1)) := by subst hW0; subst hs; go_simp
      have q3 : W0.cell? ⟨s + 1, 0, none⟩ = some (.string key) := by subst hW0; subst hs; go_simp
      have q4 : W0.cell? ⟨s + 1 + 1, 0, none⟩ = some (.int .i64 (S : Nat)) := by subst hW0; subst hs; go_simp
      have hB0 : BS w W0 g v (S + 1) bs := by rw [← hW0]; exact ((hBS.alloc _).alloc _).alloc _
      have hsz : W0.heap.size = s + 3 := by rw [← hW0, ← hs]; simp
      have hm0 : ∀ r ∈ rs, W0.heap[r]? = some (.deferred (some [])) := fun r hr => by
        have h0 := (hmk r hr).2
        have hl := (Array.getElem?_eq_some_iff.1 h0).1
        rw [← hW0, Below.heap_alloc _ _ _ (by simp; omega), Below.heap_alloc _ _ _ (by simp; omega), Below.heap_alloc _ _ _ hl]
        exact h0
      have hmlt : ∀ r ∈ rs, r < W0.heap.size := fun r hr => (Array.getElem?_eq_some_iff.1 (hm0 r hr)).1
      have hmw : ∀ r ∈ rs, w.heap.size ≤ r := fun r hr => (hmk r hr).1
      have q5 : W0.cell? ⟨g, 0 + S, none⟩ = some (.int .u8 (k1 : Nat)) := by
        rw [Nat.zero_add, hB0.cell (by omega), hlast]
        have : (UInt8.ofNat k1).toNat = k1 := by simp; omega
        rw [this]
      have HAK : Hid ((plcs key hm k1).foldl (fun b x => setBit b x.1) bs = addKey (S * 8) k1 bs key) := by
        rw [Hid, addKey, plcs, List.foldl_map]; rfl
      have HTK : Hid ((ks.take (j + 1)).foldl (addKey (S * 8) k1) (zeroF S k1) = addKey (S * 8) k1 bs key) := by
        rw [Hid, List.take_add_one, hkey, Option.toList_some, List.foldl_append, ← HF.out]; rfl
      have hwW : w.heap.size ≤ W0.heap.size := hB0.bel.size
      rw [hW0, hs]
      clear hW0 hvc hc hBS hmk
      refine (wpIn_wide (n := 8)).1 ?_
      refine wpIn_rangeFunc_ownF rfl (by omega) (gf := 67) (lb := #[.pointer (some ⟨s + 1 + 1, 0, none⟩), .pointer (some ⟨s + 1, 0, none⟩), .pointer (some ⟨s, 0, none⟩)]) rfl trivial (enters_of Try.func67 (by kernel_rfl) rfl)
        (places_stops 7 (by omega) key S k1 (s + 1 + 1) (s + 1) s g 0 (S + 1) hm W0 hkz (by omega) (by omega) q4 q3 q2 q5) walksK_t walksK_b (Below.refl _ _) (fun _ => rfl)
        (fun pre W => BS w W g v (S + 1) (pre.foldl (fun b x => setBit b x.1) bs) ∧ ∀ r ∈ rs, W.heap[r]? = some (.deferred (some [])))
        (fun _ _ _ => False)
        (OwnFrom.and (bs_own _ hwW) (marks_own hmlt))
        (fun _ _ _ _ _ hs _ _ => hs)
        ⟨hB0, hm0⟩
        (fun x => { tmps := #[x0, x1, x2, x3, x4, x5, x6, .pointer (some ⟨v, 0, none⟩), x8, .string key, .int .u64 (x.1 : Nat), x11, x12, x13, x14, x15, x16, x17, x18, x19, x20, x21, x22, x23, x24, x25, x26, x27, x28, x29, x30, x31, x32, x33, x34, x35, x36, x37, x38, .slice (some ⟨b, off, none⟩) n ca, .int .i64 (n : Nat), .int .i64 (j : Nat), .bool true, .pointer (some ⟨b, off + j, none⟩), .string key, .slice (some ⟨g, 0, none⟩) (S + 1) (S + 1), .string key, .func (.func 67) #[] #[.pointer (some ⟨s + 1 + 1, 0, none⟩), .pointer (some ⟨s + 1, 0, none⟩), .pointer (some ⟨s, 0, none⟩)], .int .u64 (x.1 : Nat), x49, x50, x51, x52, x53, x54, x55, x56, x57, x58, x59], defers := [] }) ?assign ?body ?done ?stop
      case assign =>
        intro l x W K hK
        gi_wp2
        exact hK
      case body =>
        rintro l pre x W ⟨hBS, hmk⟩ _
        obtain ⟨x, hx⟩ := x
        have HFD : Hid ((pre ++ [(⟨x, hx⟩ : Pl (S * 8))]).foldl (fun b x => setBit b x.1) bs = setBit (pre.foldl (fun b x => setBit b x.1) bs) x) := by rw [Hid, List.foldl_append]; rfl
        obtain ⟨cur, hcur⟩ : ∃ cur, pre.foldl (fun b (x : Pl (S * 8)) => setBit b x.1) bs = cur := ⟨_, rfl⟩
        rw [hcur] at hBS HFD
        have HSB : Hid (setBit cur x = cur.set (x / 8) (UInt8.ofNat ((cur.getD (x / 8) 0).toNat ||| bitN x))) := rfl
        have hcl : (cur.getD (x / 8) 0).toNat < 256 := UInt8.toNat_lt _
        have hbl := bitN_lt2 x
        have hx64 : x < 18446744073709551616 := by omega
        have hx8 : x / 8 < S + 1 := by omega
        have hor := u8_or_nat (cur.getD (x / 8) 0).toNat (bitN x) hcl hbl
        have hol : (cur.getD (x / 8) 0).toNat ||| bitN x < 256 := Nat.or_lt_two_pow (n := 8) hcl hbl
        have hcb := hBS.vcell
        have hbx := hBS.cell hx8
        have hfx := hBS.free (x / 8)
        have HBT : Hid (∀ W' : World, Calls Try.prog 41 #[.int .u64 (x : Nat)] W' fun r w' => r = .returned (.int .u8 (bitN x : Nat)) ∧ w' = W') := fun W' => bit_any x W' hx64
        obtain ⟨c, hcd⟩ : ∃ c, (cur.getD (x / 8) 0).toNat = c := ⟨_, rfl⟩
        obtain ⟨t, htd⟩ : ∃ t, bitN x = t := ⟨_, rfl⟩
        rw [hcd] at hbx hor HSB hcl hol
        rw [htd] at hor HSB HBT hbl hol
        obtain ⟨z, hz⟩ : ∃ z, c ||| t = z := ⟨_, rfl⟩
        rw [hz] at hor HSB hol
        obtain ⟨y, hy⟩ : ∃ y, x / 8 = y := ⟨_, rfl⟩
        have hyi : (x : Int) / 8 = (y : Int) := by omega
        rw [hy] at hbx hx8 hfx HSB
        have hy2 : (y : Int) < (S : Int) + 1 := by omega
        have hwy : IntKind.u64.wrap (y : Int) = (y : Int) := by rw [IntKind.wrap_u64]; omega
        have HOUT : Hid (BS w (W.setCell ⟨g, y, none⟩ (.int .u8 (z : Int))).drew g v (S + 1) ((pre ++ [(⟨x, hx⟩ : Pl (S * 8))]).foldl (fun b x => setBit b x.1) bs)) := by
          rw [Hid, HFD.out, HSB.out]
          have e := (hBS.set hgv hgw y (UInt8.ofNat z)).drew
          rw [show ((UInt8.ofNat z).toNat : Int) = (z : Int) from by have : (UInt8.ofNat z).toNat = z := (by simp; omega); omega] at e
          exact e
        clear hcd htd hz hy hcur hBS
        have hd : 1 ≤ 8 - 1 - 1 := by omega
        have hmx : Try.prog.follows .mixedOrders = true := by kernel_rfl
        gi_wp2
        gi_region_with_o (refine ⟨trivial, ?_⟩; gi_at_call 41; refine (CallsIn.inRound l (callsIn_wide.2 (HBT.out _))).mono ?_; rintro e w' ⟨rfl, rfl⟩)
        all_goals gi_wp2
        all_goals exact ⟨(KeepsOthers.setCell _ _ _).trans (KeepsOthers.drew _), ((KeepsOthers.setCell _ _ _).trans (KeepsOthers.drew _)).walks, HOUT.out, fun r hr => ((KeepsOthers.setCell W ⟨g, y, none⟩ (.int .u8 (z : Int))).trans (KeepsOthers.drew _)).same r _ (hmk r hr) rfl⟩
      case done =>
        rintro D ys W hD rfl ⟨hBS, hmk⟩ hK
        rw [HAK.out] at hBS
        go_wp2_with fail
        refine ⟨⟨j + 1, D :: rs, addKey (S * 8) k1 bs key, _, _, _, _, _, _, _, _, _, _, _, _, _, _, _, _, _, _, _, _, _, _, _, _, _, _, _, _, _, _, _, _, _, _, _, _, _, _, _, _, _, _, _, _, _, _, _, _, _, _, _, _, _, _, _, _, by omega, hBS, HTK.out.symm, (addKey_last (by omega) bs key k1).trans hlast, List.nodup_cons.2 ⟨fun h => by have := hmlt D h; omega, hnd⟩, ?_, rfl⟩, ?_⟩
        · intro r hr
          rcases List.mem_cons.1 hr with rfl | hr
          · exact ⟨by omega, hK⟩
          · exact ⟨hmw r hr, hmk r hr⟩
        · show n - (intOf (Value.int .i64 ((j : Int) + 1))).toNat < n - (intOf (Value.int .i64 (j : Int))).toNat
          simp [intOf]
          omega
      case stop =>
        rintro D c pre W _ _ h _
        exact h.elim
    · obtain rfl : j = n := by omega
      have hvc := hBS.vcell
      have HE : Hid (buildF ks bt = bs) := by
        rw [Hid, HF.out, List.take_of_length_le (by rw [HN.out]; exact Nat.le_refl _), buildF, HSZ.out, HKO.out]
      go_wp2_with fail
      exact leaves_marks (B := w.heap.size) (Pr := fun W => BS w W g v (S + 1) bs) (fun W => results_tmp2 rfl _ _ _) (fun W r h hr hd => h.put hr hd) (fun W h => ⟨g, rfl, hgw, by rw [HE.out]; exact h.row, h.bel⟩) rs W hnd hmk hBS
end Go.Proofs.Ytoopgddhkdekmaa
