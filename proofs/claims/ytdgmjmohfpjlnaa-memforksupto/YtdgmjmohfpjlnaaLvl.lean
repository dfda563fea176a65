/-
  The contract of the walk along a level: an iterator (level's closure).
-/
import Derived.Test.YtdgmjmohfpjlnaaNew
import Derived.RangeFuncKeeps
import Derived.RangeFuncLeaves
import Derived.Shelf.Abstract
import Derived.OwnWalkIn
import Derived.TacticsInMore
import Derived.LoopNIn
import Derived.LoopIn
namespace Go.Proofs.Ytdgmjmohfpjlnaa
open Go.RowKit Go.Shelf
attribute [local go_sem] Oper.semAt_some
/-- The places that stand on a level. -/
def lvl (k : Nat) (E : List En) : List Nat := (E.filter (fun e => decide (k < e.h))).map En.p
theorem lvl_none {k : Nat} {E : List En} (h : ∀ e ∈ E, ¬ k < e.h) : lvl k E = [] := by
  unfold lvl
  rw [List.filter_eq_nil_iff.2 (fun e he => by simpa using h e he)]
  rfl
theorem lvl_app (k : Nat) (A R : List En) : lvl k (A ++ R) = lvl k A ++ lvl k R := by simp [lvl]
theorem lvl_hit {k : Nat} {e : En} (h : k < e.h) (R : List En) : lvl k (e :: R) = e.p :: lvl k R := by simp [lvl, h]
/-- All blocks but one kept, up to a bound. -/
def Kc (c N : Nat) (A B : World) : Prop := ∀ q, q ≠ c → q < N → B.heap[q]? = A.heap[q]?
theorem Kc.refl (c N : Nat) (A : World) : Kc c N A A := fun _ _ _ => rfl
theorem Kc.trans {c N : Nat} {A B C : World} (h : Kc c N A B) (k : Kc c N B C) : Kc c N A C := fun q h1 h2 => (k q h1 h2).trans (h q h1 h2)
theorem Kc.cell {c N : Nat} {A B : World} (h : Kc c N A B) {q o : Nat} {v : Value} (h1 : q ≠ c) (h2 : q < N) (hv : A.cell? ⟨q, o, none⟩ = some v) : B.cell? ⟨q, o, none⟩ = some v := by
  rw [← hv]
  simp only [World.cell?, h q h1 h2]
theorem owns_kc {c N : Nat} {w w' : World} {B e z n b cap : Nat} {xs : List Value} (h : w.ownsRow B e z (.slice (some ⟨b, 0, none⟩) n cap) n xs) (k : Kc c N w w') (h1 : b ≠ c) (h2 : b < N) : w'.ownsRow B e z (.slice (some ⟨b, 0, none⟩) n cap) n xs := by
  refine ⟨h.1, ?_⟩
  rcases h.2 with q | ⟨g, cp, cur, hv, hg, hh, rr⟩
  · exact Or.inl q
  · have hb : b = g := by
      injection hv with h1 h2 h3
      injection h1 with h1
      injection h1
    subst hb
    exact Or.inr ⟨b, cp, cur, hv, hg, (k b h1 h2).trans hh, rr⟩
/-- The world of a level's walk. -/
structure LF (c N B : Nat) (W : World) (g b cap : Nat) (s : St) (k : Nat) : Prop where
  ma : MA B W g b cap s
  gc : g ≠ c
  bc : b ≠ c
  gN : g < N
  bN : b < N
  cN : c + 3 < N
  b1 : W.cell? ⟨c + 1, 0, none⟩ = some (.pointer (some ⟨g, 0, none⟩))
  b2 : W.cell? ⟨c + 2, 0, none⟩ = some (.int .i64 (k : Nat))
  b3 : W.cell? ⟨c + 3, 0, none⟩ = some (.int .i64 (fsL k s.E : Nat))
theorem MA.kc {c N B : Nat} {W W' : World} {g b cap : Nat} {s : St} (h : MA B W g b cap s) (k : Kc c N W W') (h1 : g ≠ c) (h2 : g < N) (h3 : b ≠ c) (h4 : b < N) : MA B W' g b cap s :=
  ⟨(k g h1 h2).trans h.blk, owns_kc h.row k h3 h4, h.rep, h.apart, h.gB, h.small⟩
theorem LF.kc {c N B : Nat} {W W' : World} {g b cap : Nat} {s : St} {k : Nat} (h : LF c N B W g b cap s k) (q : Kc c N W W') : LF c N B W' g b cap s k := by
  have := h.cN
  exact ⟨h.ma.kc q h.gc h.gN h.bc h.bN, h.gc, h.bc, h.gN, h.bN, h.cN, q.cell (by omega) (by omega) h.b1, q.cell (by omega) (by omega) h.b2, q.cell (by omega) (by omega) h.b3⟩
/-- How far from the end. -/
def fe (E : List En) (a : Nat) : Nat := if a = 0 then 0 else E.length - (E.map En.p).idxOf a
theorem fe_at {n : Nat} {cell : Nat → Cl} {nx : Nat → Nat → Nat} {E A R : List En} {e : En} (r : Rep n cell nx E) (h : E = A ++ e :: R) : fe E e.p = R.length + 1 := by
  unfold fe
  have he := (r.each e (by rw [h]; simp)).1
  rw [if_neg (by omega)]
  have hn := r.apart
  rw [h, List.map_append, List.map_cons] at hn
  have hna : e.p ∉ A.map En.p := fun q => (List.nodup_append.1 hn).2.2 _ q _ (List.mem_cons_self ..) rfl
  rw [h, List.map_append, List.map_cons, idx_at hna]
  simp
theorem fe_fs {n : Nat} {cell : Nat → Cl} {nx : Nat → Nat → Nat} {E A R : List En} (k : Nat) (r : Rep n cell nx E) (h : E = A ++ R) : fe E (fsL k R) ≤ R.length := by
  rcases fsL_cases k R with ⟨h1, _⟩ | ⟨C, e, R', h1, _, _, h4⟩
  · rw [h1]; unfold fe; simp
  · rw [h4, fe_at (A := A ++ C) (R := R') r (by rw [h, h1]; simp), h1]
    simp
set_option maxRecDepth 100000 in
set_option maxHeartbeats 4000000 in
theorem lv_in (F : Fence) (n : Nat) (h42 : F.fn 42) (hro : F.round = none) (hn : 1 ≤ n) (l c N B g b cap : Nat) (s : St) (k : Nat) (hk : k < 12) (J Jx : List Nat → World → Prop)
    (hY : ∀ pre x W, J pre W → pre.length < (lvl k s.E).length → YieldAt F (n - 1) Try.prog l #[.int .i64 ((x : Nat) : Int)] W fun e W' =>
      (e = .returned (.bool true) ∧ J (pre ++ [x]) W' ∧ Kc c N W W') ∨ (e = .returned (.bool false) ∧ Jx (pre ++ [x]) W'))
    (hJd : ∀ pre W, J pre W → J pre W.drew) (W : World) (hL : LF c N B W g b cap s k) (h0 : J [] W) :
    CallsIn F n Try.prog 42 #[.func (.yield l) #[] #[], .pointer (some ⟨c + 3, 0, none⟩), .pointer (some ⟨c + 1, 0, none⟩), .pointer (some ⟨c + 2, 0, none⟩)] W fun e W' => (∃ v, e = .returned v) ∧
      ((∃ ys, ys = lvl k s.E ∧ J ys W') ∨ (∃ pre, pre <+: lvl k s.E ∧ Jx pre W')) := by
  obtain ⟨f1, f2, f3, f4⟩ := F
  obtain rfl : f4 = none := hro
  have HLF : Hid (LF c N B W g b cap s k) := hL
  have HRP : Hid (Rep s.n s.cell s.nx s.E) := hL.ma.rep
  have hsm := hL.ma.small
  have hb3 := hL.b3
  have hkz : (k : Int) < 12 := by omega
  have hk0 : (0 : Int) ≤ (k : Int) := by omega
  clear hL
  refine callsIn_of_wp Try.func42 rfl h42 ?_ rfl
  simp only [Try.ntmps42, List.size_toArray, List.length_cons, List.length_nil, Nat.reduceAdd, Nat.reduceSub, Array.replicate_succ, Array.replicate_zero, List.push_toArray, List.append_toArray, List.nil_append, List.cons_append]
  gi_wp2
  gi_loopw [5] (fun p wr => ∃ (A R : List En), p = .int .i64 ((fsL k R : Nat) : Int) ∧ Hid (s.E = A ++ R) ∧ Hid (LF c N B wr g b cap s k) ∧ Hid (J (lvl k A) wr))
    (fun p _ => fe s.E (intOf p).toNat)
  case atStart =>
    exact ⟨[], s.E, rfl, rfl, HLF.out, h0⟩
  case round =>
    obtain ⟨A, R, rfl, HX, HLW, HJ⟩ := hrel
    rcases fsL_cases k R with ⟨e1, e2⟩ | ⟨C, e, R', e1, e2, e3, e4⟩
    · rw [e1]
      have HE : Hid (lvl k A = lvl k s.E) := by rw [Hid, HX.out, lvl_app, lvl_none e2, List.append_nil]
      clear hb3
      gi_wp2
      go_end0
      exact ⟨⟨_, rfl⟩, .inl ⟨_, HE.out, HJ.out⟩⟩
    · rw [e4]
      have HS : Hid (s.E = (A ++ C) ++ e :: R') := by rw [Hid, HX.out, e1]; simp
      have he := HRP.out.each e (by rw [HS.out]; simp)
      have hpz : ((e.p : Int) != 0) = true := by simp; omega
      have hpn : (e.p : Int) < (s.n : Int) := by omega
      have HLV : Hid (lvl k s.E = (lvl k A ++ [e.p]) ++ lvl k R') := by rw [Hid, HS.out, lvl_app, lvl_app, lvl_none e2, lvl_hit e3]; simp
      have HLN : Hid (lvl k ((A ++ C) ++ [e]) = lvl k A ++ [e.p]) := by rw [Hid, lvl_app, lvl_app, lvl_none e2, lvl_hit e3]; simp [lvl]
      have HNX : Hid (s.nx e.p k = fsL k R') := HRP.out.links _ _ _ HS.out k e3
      have HM : Hid (fe s.E (fsL k R') < fe s.E e.p) := by
        rw [Hid, fe_at HRP.out HS.out]
        have := fe_fs (A := (A ++ C) ++ [e]) k HRP.out (R := R') (by rw [HS.out]; simp)
        omega
      have hpe : e.p < s.n := he.2.1
      clear hb3
      obtain ⟨fn, tmps, assign, body, hy, hR⟩ := hY (lvl k A) e.p wr HJ.out (by rw [HLV.out]; simp)
      gi_wp2
      refine hR.mono ?_
      rintro e' W3 (⟨rfl, hJ3, hk3⟩ | ⟨rfl, hJx3⟩)
      · have HL3 : Hid (LF c N B W3 g b cap s k) := HLW.out.kc hk3
        have HJ3 : Hid (J (lvl k ((A ++ C) ++ [e])) W3) := by rw [Hid, HLN.out]; exact hJ3
        obtain ⟨m0, m1, m2⟩ := HL3.out.ma.hd
        have q1 := HL3.out.b1
        have q2 := HL3.out.b2
        have hlk := HL3.out.ma.link hpe hk
        rw [HNX.out] at hlk
        clear hJ3 hk3 hY hR hy e1 e2 e3 e4 he
        gi_wp2
        gi_big_region
        go_roundw
        case rel =>
          exact ⟨_, _, _, _, _, _, _, _, _, _, _, _, _, _, _, _, _, ⟨(A ++ C) ++ [e], R', rfl, by rw [Hid, HS.out]; simp, HL3.out.kc (fun _ _ _ => rfl), hJd _ _ HJ3.out⟩, rfl⟩
        case measure => simp only [intOf]; exact HM.out
      · have HP : Hid ((lvl k A ++ [e.p]) <+: lvl k s.E) := by rw [Hid, HLV.out]; exact ⟨_, rfl⟩
        clear hY hR hy e1 e2 e3 e4 he
        gi_wp2
        refine bodyPost_ret (results_none rfl _ _ _) rfl ?_
        exact ⟨⟨_, rfl⟩, .inr ⟨_, HP.out, hJx3⟩⟩
end Go.Proofs.Ytdgmjmohfpjlnaa
