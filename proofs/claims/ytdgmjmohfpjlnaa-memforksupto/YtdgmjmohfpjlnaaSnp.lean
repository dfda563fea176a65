/-
  The walk of MemSnapshots, given awake.
-/
import Derived.Test.YtdgmjmohfpjlnaaNew
namespace Go.Proofs.Ytdgmjmohfpjlnaa
open Go.RowKit
/-- Cells from a slice's address on, in blocks below B. -/
def CA (B : Nat) (w : World) (a : Option Addr) (l : List Cl) : Prop :=
  ∀ j c, l[j]? = some c → ∃ b off, a = some ⟨b, off, none⟩ ∧ b < B ∧ w.cell? ⟨b, off + j * 4, none⟩ = some (.string c.key) ∧ w.cell? ⟨b, off + j * 4 + 1, none⟩ = some (.int .u64 (c.seq : Nat)) ∧ w.cell? ⟨b, off + j * 4 + 2, none⟩ = some (.string c.val) ∧ w.cell? ⟨b, off + j * 4 + 3, none⟩ = some (.bool c.gone)
theorem CA.below {B : Nat} {w w' : World} {a : Option Addr} {l : List Cl} (h : CA B w a l) (k : ∀ b, b < B → w'.heap[b]? = w.heap[b]?) : CA B w' a l := by
  intro j c hj
  obtain ⟨b, off, ha, hb, h0, h1, h2, h3⟩ := h j c hj
  refine ⟨b, off, ha, hb, ?_, ?_, ?_, ?_⟩ <;> (simp only [World.cell?] at h0 h1 h2 h3 ⊢; rw [k b hb]; assumption)
theorem put_n (c : Cl) (hgt : Int) (s : St) : (putS c hgt s).n ≤ s.n + 1 ∧ s.n ≤ (putS c hgt s).n := by
  unfold putS
  split
  · exact ⟨Nat.le_refl _, Nat.le_succ _⟩
  · exact ⟨Nat.le_succ _, Nat.le_refl _⟩
theorem put_size {c : Cl} {hgt : Int} {s : St} (h : s.size ≤ 1200 * s.n) : (putS c hgt s).size ≤ 1200 * (putS c hgt s).n := by
  by_cases hr : putR c hgt s = 0
  · have hck : chkR c = 0 := by
      unfold putR at hr
      by_cases q : chkR c ≠ 0
      · rw [if_pos q] at hr; cases hr
      · exact Classical.byContradiction q
    obtain ⟨h1, h2⟩ := chk_sizes hck
    unfold putS
    rw [if_pos hr]
    show s.size + (c.key.size + c.val.size + 16) ≤ 1200 * (s.n + 1)
    omega
  · unfold putS
    rw [if_neg hr]
    exact h
theorem put_get {c : Cl} {hgt : Int} {s : St} (r : Rep s.n s.cell s.nx s.E) {key : ByteArray} {seq : Nat} (hs : seq < c.seq) : getE key seq (putS c hgt s).E = getE key seq s.E := by
  by_cases hr : putR c hgt s = 0
  · have hha : hasE c s.E = false := by
      unfold putR at hr
      cases hb : hasE c s.E with
      | false => rfl
      | true =>
        rw [hb] at hr
        split at hr
        · cases hr
        · split at hr
          · cases hr
          · rw [if_pos rfl] at hr; cases hr
    unfold putS
    rw [if_pos hr]
    exact get_later r hs (has_none r hha)
  · unfold putS
    rw [if_neg hr]
/-- A table that a law made: where it lies, and that it is not too great. -/
structure TM (z B g : Nat) (w wr : World) (k : Nat) (s : St) (b cap : Nat) : Prop where
  ma : MA B wr g b cap s
  nk : s.n ≤ k + 1
  sz : s.size ≤ 1200 * s.n
  bel : Below z w wr
  zB : z ≤ B
theorem TM.put {z B g : Nat} {w wr w' : World} {k : Nat} {s : St} {b cap : Nat} (h : TM z B g w wr k s b cap) (c : Cl) (hgt : Int) {b' cap' : Nat} (hm : MA B w' g b' cap' (putS c hgt s)) (hk : KM g b wr w') (hw : z ≤ wr.heap.size) : TM z B g w w' (k + 1) (putS c hgt s) b' cap' := by
  have hb := (World.ownsRow.lt h.ma.row b rfl).1
  have hg := h.ma.gB
  have hzB := h.zB
  exact ⟨hm, by have := (put_n c hgt s).1; have := h.nk; omega, put_size h.sz, h.bel.trans (hk.below (by omega) (by omega) hw), hzB⟩
theorem TM.on {z B g : Nat} {w wr w' : World} {k : Nat} {s : St} {b cap : Nat} (h : TM z B g w wr k s b cap) (hb : Below wr.heap.size wr w') (hw : z ≤ wr.heap.size) : TM z B g w w' k s b cap := ⟨h.ma.below hb, h.nk, h.sz, h.bel.trans (hb.mono hw), h.zB⟩
theorem TM.up {z B g : Nat} {w wr : World} {k j : Nat} {s : St} {b cap : Nat} (h : TM z B g w wr k s b cap) (hj : k ≤ j) : TM z B g w wr j s b cap := ⟨h.ma, by have := h.nk; omega, h.sz, h.bel, h.zB⟩
set_option maxRecDepth 20000 in
set_option maxHeartbeats 32000000 in
theorem snap_walk (ca la : Option Addr) (cc lc : Nat) (cs ls : List Cl) (at' : Cl) (w : World) (h1 : CA w.heap.size w ca cs) (h2 : CA w.heap.size w la ls) (hl1 : cs.length ≤ 2000000) (hl2 : ls.length ≤ 2000000) (HAW : Hid (∀ W : World, Calls Try.prog 10 #[] W fun e w' => e = .returned (.bool true) ∧ Below W.heap.size W w')) :
    Calls Try.prog 6 #[.slice ca cs.length cc, .slice la ls.length lc, clV at'] w fun e w' => e = .returned (.bool true) ∧ Below w.heap.size w w' := by
  have HCA : Hid (CA w.heap.size w ca cs) := h1
  have HLA : Hid (CA w.heap.size w la ls) := h2
  obtain ⟨key, seq, vl, gn⟩ := at'
  obtain ⟨n1, hn1⟩ : ∃ n, cs.length = n := ⟨_, rfl⟩
  obtain ⟨n2, hn2⟩ : ∃ n, ls.length = n := ⟨_, rfl⟩
  have HN1 : Hid _ := hn1
  have HN2 : Hid _ := hn2
  rw [hn1] at hl1 ⊢
  rw [hn2] at hl2 ⊢
  clear h1 h2 hn1 hn2
  simp only [clV]
  obtain ⟨W0, hW0⟩ : ∃ W0, w.alloc (.cells #[.string key, .int .u64 (seq : Nat), .string vl, .bool gn] 33) = W0 := ⟨_, rfl⟩
  have HB0 : Hid (Below w.heap.size w W0) := by rw [Hid, ← hW0]; exact below_new _ _
  have HX0 : Hid (CB W0 w.heap.size ⟨key, seq, vl, gn⟩) := by rw [Hid, ← hW0]; exact block_alloc_at _ _
  obtain ⟨x0, x1, x2, x3⟩ := CB.cells HX0.out
  simp only at x0 x1 x2 x3
  go_enter Try.func6, Try.ntmps6
  go_wp2_with fail
  try rw [hW0]
  clear hW0
  go_quiet (fail)
  obtain ⟨W1, hW1⟩ : ∃ W1, W0.drewN nq = W1 := ⟨_, rfl⟩
  have HB1 : Hid (Below w.heap.size w W1) := by rw [Hid, ← hW1]; exact ⟨HB0.out.os, HB0.out.tape, HB0.out.output, HB0.out.size, HB0.out.block⟩
  rw [hW1]
  clear hW1 x0 x1 x2 x3 HX0 HB0
  go_wp2_with fail
  refine (new_any W1).mono ?_
  rintro e w2 ⟨rfl, hma, b2⟩
  obtain ⟨B, hB⟩ : ∃ B, W1.heap.size = B := ⟨_, rfl⟩
  rw [hB] at hma ⊢
  obtain ⟨g, hg⟩ : ∃ g, B + 1 = g := ⟨_, rfl⟩
  rw [hg] at hma ⊢
  have hzB : w.heap.size ≤ B := by rw [← hB]; exact HB1.out.size
  have HT2 : Hid (TM w.heap.size B g w w2 0 st0 B 1) := ⟨hma, by show 1 ≤ 0 + 1; omega, by show 0 ≤ _; omega, below_on HB1.out b2, hzB⟩
  clear hma b2 hB hg
  go_wp2_with fail
  refine (HAW.out w2).mono ?_
  rintro e w3 ⟨rfl, b3⟩
  have HT3 : Hid (TM w.heap.size B g w w3 0 st0 B 1) := HT2.out.on b3 HT2.out.bel.size
  clear b3 HT2 HAW
  go_wp2_with fail
  go_loopw [31] (fun i wr => ∃ (k : Nat) (s : St) (b cap : Nat), k ≤ n1 ∧ i = .int .i64 (k : Nat) ∧ Hid (TM w.heap.size B g w wr k s b cap)) (fun i _ => n1 - (intOf i).toNat)
  case atStart => exact ⟨0, _, _, _, by omega, rfl, HT3.out⟩
  case round =>
    obtain ⟨k, s, b, cap, hk, rfl, HT⟩ := hrel
    by_cases hlt : k < n1
    · have hlz : (k : Int) < (n1 : Int) := by omega
      obtain ⟨c, hc⟩ : ∃ c, cs[k]? = some c := ⟨_, List.getElem?_eq_getElem (by rw [HN1.out]; exact hlt)⟩
      obtain ⟨cb, off, rfl, hcb, c0, c1, c2, c3⟩ := (HCA.out.below (fun x hx => HT.out.bel.block x hx)) k c hc
      obtain ⟨V, hV⟩ : ∃ V, wr.alloc (.cells #[.string c.key, .int .u64 (c.seq : Nat), .string c.val, .bool c.gone] 33) = V := ⟨_, rfl⟩
      have HTV : Hid (TM w.heap.size B g w V k s b cap) := by rw [Hid, ← hV]; exact HT.out.on (below_new _ _) HT.out.bel.size
      have HPU : Hid (∀ _ : Unit, _) := fun _ => put_any B g b cap s c 2 V HTV.out.ma (by have := HTV.out.nk; omega) HTV.out.sz
      simp only [clV] at HPU
      have HV : Hid _ := hV
      clear hc hcb hV
      go_wp2_with fail
      rw [HV.out]
      clear HV c0 c1 c2 c3
      refine (HPU.out ()).mono ?_
      rintro e w6 ⟨rfl, b', cap', hma, hkm, _⟩
      have HT6 : Hid (TM w.heap.size B g w w6 (k + 1) (putS c 2 s) b' cap') := HTV.out.put c 2 hma hkm HTV.out.bel.size
      clear hma hkm HPU
      go_wp2_with fail
      go_roundw
      case rel => exact ⟨k + 1, _, b', cap', by omega, by go_num, HT6.out⟩
      case measure => simp [intOf]; omega
    · obtain rfl : k = n1 := by omega
      have hlz : ¬ (k : Int) < (k : Int) := by omega
      have HGE : Hid (∀ _ : Unit, _) := fun _ => get_any B g b cap s key seq wr HT.out.ma
      obtain ⟨G, hG⟩ : ∃ G, getE key seq s.E = G := ⟨_, rfl⟩
      have HG : Hid _ := hG
      rw [hG] at HGE
      obtain ⟨rc, d, hrc⟩ : ∃ rc d, getV G = .tuple #[clV rc, .bool d] := by
        cases G with
        | none => exact ⟨cl0, false, rfl⟩
        | some c => exact ⟨c, true, rfl⟩
      have HRC : Hid _ := hrc
      rw [hrc] at HGE
      simp only [clV] at HGE
      clear hG hrc
      go_wp2_with fail
      refine (HGE.out ()).mono ?_
      rintro e w5 ⟨rfl, b5⟩
      have HT5 : Hid (TM w.heap.size B g w w5 k s b cap) := HT.out.on b5 HT.out.bel.size
      clear b5 HGE HT
      obtain ⟨x, hx⟩ : ∃ x, w5.heap.size = x := ⟨_, rfl⟩
      obtain ⟨V, hV⟩ : ∃ V, w5.alloc (.cells #[.string rc.key, .int .u64 (rc.seq : Nat), .string rc.val, .bool rc.gone] 33) = V := ⟨_, rfl⟩
      have HTV : Hid (TM w.heap.size B g w V k s b cap) := by rw [Hid, ← hV]; exact HT5.out.on (below_new _ _) HT5.out.bel.size
      have HCV : Hid (CB V x rc) := by rw [Hid, ← hV, ← hx]; exact block_alloc_at _ _
      have HBX : Hid (b ≠ x ∧ g ≠ x) := by rw [Hid, ← hx]; have := HT5.out.ma.lt; omega
      have HV : Hid _ := hV
      have HXX : Hid _ := hx
      clear hV hx HT5
      go_wp2_with fail
      rw [HV.out, HXX.out]
      clear HV HXX
      obtain ⟨m, hm⟩ : ∃ m, k = m := ⟨_, rfl⟩
      rw [hm] at HTV
      have hm2 : m ≤ 2000000 := by omega
      clear hm hlt hlz hk hl1
      go_loopw [48] (fun i wr => ∃ (k : Nat) (s : St) (b cap : Nat), k ≤ n2 ∧ i = .int .i64 (k : Nat) ∧ Hid (TM w.heap.size B g w wr (m + k) s b cap) ∧ Hid (getE key seq s.E = G) ∧ Hid (CB wr x rc) ∧ Hid (b ≠ x ∧ g ≠ x)) (fun i _ => n2 - (intOf i).toNat)
      case atStart => exact ⟨0, s, b, cap, by omega, rfl, HTV.out, HG.out, HCV.out, HBX.out⟩
      case round =>
        obtain ⟨k, s, b, cap, hk, rfl, HT, HG, HC, HBX⟩ := hrel
        by_cases hlt : k < n2
        · have hlz : (k : Int) < (n2 : Int) := by omega
          obtain ⟨c, hc⟩ : ∃ c, ls[k]? = some c := ⟨_, List.getElem?_eq_getElem (by rw [HN2.out]; exact hlt)⟩
          obtain ⟨cb, off, rfl, hcb, c0, c1, c2, c3⟩ := (HLA.out.below (fun x hx => HT.out.bel.block x hx)) k c hc
          obtain ⟨V, hV⟩ : ∃ V, wr.alloc (.cells #[.string c.key, .int .u64 (c.seq : Nat), .string c.val, .bool c.gone] 33) = V := ⟨_, rfl⟩
          have HTV : Hid (TM w.heap.size B g w V (m + k) s b cap) := by rw [Hid, ← hV]; exact HT.out.on (below_new _ _) HT.out.bel.size
          have HCV : Hid (CB V x rc) := by rw [Hid, ← hV]; exact HC.out.below (below_new _ _)
          have HV : Hid _ := hV
          clear hc hcb hV
          by_cases hs : seq < c.seq
          · have hsz : (seq : Int) < (c.seq : Int) := by omega
            have HPU : Hid (∀ _ : Unit, _) := fun _ => put_any B g b cap s c 1 V HTV.out.ma (by have := HTV.out.nk; omega) HTV.out.sz
            have HG2 : Hid (getE key seq (putS c 1 s).E = G) := (put_get HTV.out.ma.rep hs).trans HG.out
            simp only [clV] at HPU
            clear hs
            go_wp2_with fail
            rw [HV.out]
            clear HV c0 c1 c2 c3
            refine (HPU.out ()).mono ?_
            rintro e w6 ⟨rfl, b', cap', hma, hkm, hbb⟩
            have HT6 : Hid (TM w.heap.size B g w w6 (m + (k + 1)) (putS c 1 s) b' cap') := HTV.out.put c 1 hma hkm HTV.out.bel.size
            have HC6 : Hid (CB w6 x rc) := (hkm.block x HCV.out.lt (Ne.symm HBX.out.2) (Ne.symm HBX.out.1)).trans HCV.out
            have HB6 : Hid (b' ≠ x ∧ g ≠ x) := ⟨by rcases hbb with q | q; rw [q]; exact HBX.out.1; have := HCV.out.lt; omega, HBX.out.2⟩
            clear hma hkm hbb HPU
            go_wp2_with fail
            go_roundw
            case rel => exact ⟨k + 1, _, b', cap', by omega, by go_num, HT6.out, HG2.out, HC6.out, HB6.out⟩
            case measure => simp [intOf]; omega
          · have hsz : ¬ (seq : Int) < (c.seq : Int) := by omega
            clear hs
            go_wp2_with fail
            rw [HV.out]
            clear HV c0 c1 c2 c3
            go_roundw
            case rel => exact ⟨k + 1, s, b, cap, by omega, by go_num, TM.up HTV.out (by omega), HG.out, HCV.out, HBX.out⟩
            case measure => simp [intOf]; omega
        · obtain rfl : k = n2 := by omega
          have hlz : ¬ (k : Int) < (k : Int) := by omega
          have HGE : Hid (∀ _ : Unit, _) := fun _ => get_any B g b cap s key seq wr HT.out.ma
          rw [HG.out, HRC.out] at HGE
          simp only [clV] at HGE
          go_wp2_with fail
          refine (HGE.out ()).mono ?_
          rintro e w7 ⟨rfl, b7⟩
          have HC7 : Hid (CB w7 x rc) := HC.out.below b7
          have HB7 : Hid (Below w.heap.size w w7) := HT.out.bel.trans (b7.mono HT.out.bel.size)
          obtain ⟨y0, y1, y2, y3⟩ := CB.cells HC7.out
          have hxl : x < w7.heap.size := HC7.out.lt
          clear b7 HGE
          go_wp2_with fail
          go_ret
          exact ⟨by first | rfl | simp, HB7.out.alloc HB7.out.size _⟩
end Go.Proofs.Ytdgmjmohfpjlnaa
