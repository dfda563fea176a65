/-
  The walk along a level from a place on, whatever else the one who walks changes: it keeps the table and its own boxes alone.
-/
import Derived.Test.YtdgmjmohfpjlnaaLvs
import Derived.Test.YtdgmjmohfpjlnaaRgm
namespace Go.Proofs.Ytdgmjmohfpjlnaa
open Go.RowKit Go.Shelf
attribute [local go_sem] Oper.semAt_some
def lvE (k : Nat) (E : List En) : List En := E.filter (fun e => decide (k < e.h))
theorem lvE_app (k : Nat) (A R : List En) : lvE k (A ++ R) = lvE k A ++ lvE k R := by simp [lvE]
theorem lvE_none {k : Nat} {E : List En} (h : ∀ e ∈ E, ¬ k < e.h) : lvE k E = [] := List.filter_eq_nil_iff.2 (fun e he => by simpa using h e he)
theorem lvE_hit {k : Nat} {e : En} (h : k < e.h) (R : List En) : lvE k (e :: R) = e :: lvE k R := by simp [lvE, h]
theorem lvE_zero {E : List En} (h : ∀ e ∈ E, 1 ≤ e.h) : lvE 0 E = E := List.filter_eq_self.2 (fun e he => by have := h e he; simp; omega)
/-- The blocks of a table and of a walk along a level. -/
def Kl (g b x : Nat) (A B : World) : Prop := ∀ q, (q = g ∨ q = b ∨ q = x ∨ q = x + 1 ∨ q = x + 2) → B.heap[q]? = A.heap[q]?
theorem Kl.refl (g b x : Nat) (A : World) : Kl g b x A A := fun _ _ => rfl
theorem Kl.trans {g b x : Nat} {A B C : World} (h : Kl g b x A B) (k : Kl g b x B C) : Kl g b x A C := fun q h1 => (k q h1).trans (h q h1)
theorem owns_eq {w w' : World} {B e z n b cap : Nat} {xs : List Value} (h : w.ownsRow B e z (.slice (some ⟨b, 0, none⟩) n cap) n xs) (k : w'.heap[b]? = w.heap[b]?) : w'.ownsRow B e z (.slice (some ⟨b, 0, none⟩) n cap) n xs := by
  refine ⟨h.1, ?_⟩
  rcases h.2 with q | ⟨g, cp, cur, hv, hg, hh, rr⟩
  · exact Or.inl q
  · have hb : b = g := by
      injection hv with h1 h2 h3
      injection h1 with h1
      injection h1
    subst hb
    exact Or.inr ⟨b, cp, cur, hv, hg, k.trans hh, rr⟩
theorem MA.eq {B : Nat} {W W' : World} {g b cap : Nat} {s : St} (h : MA B W g b cap s) (k1 : W'.heap[g]? = W.heap[g]?) (k2 : W'.heap[b]? = W.heap[b]?) : MA B W' g b cap s :=
  ⟨k1.trans h.blk, owns_eq h.row k2, h.rep, h.apart, h.gB, h.small⟩
theorem cell_eq {W W' : World} {q o : Nat} {v : Value} (k : W'.heap[q]? = W.heap[q]?) (h : W.cell? ⟨q, o, none⟩ = some v) : W'.cell? ⟨q, o, none⟩ = some v := by
  rw [← h]
  simp only [World.cell?, k]
/-- The world of a level's walk, from a place on. -/
structure LG (B : Nat) (W : World) (g b cap : Nat) (s : St) (k x : Nat) (R0 : List En) : Prop where
  ma : MA B W g b cap s
  b1 : W.cell? ⟨x, 0, none⟩ = some (.pointer (some ⟨g, 0, none⟩))
  b2 : W.cell? ⟨x + 1, 0, none⟩ = some (.int .i64 (k : Nat))
  b3 : W.cell? ⟨x + 2, 0, none⟩ = some (.int .i64 (fsL k R0 : Nat))
theorem LG.kl {B : Nat} {W W' : World} {g b cap : Nat} {s : St} {k x : Nat} {R0 : List En} (h : LG B W g b cap s k x R0) (q : Kl g b x W W') : LG B W' g b cap s k x R0 :=
  ⟨h.ma.eq (q _ (.inl rfl)) (q _ (.inr (.inl rfl))), cell_eq (q _ (.inr (.inr (.inl rfl)))) h.b1, cell_eq (q _ (.inr (.inr (.inr (.inl rfl))))) h.b2, cell_eq (q _ (.inr (.inr (.inr (.inr rfl))))) h.b3⟩
set_option maxRecDepth 100000 in
set_option maxHeartbeats 4000000 in
theorem lvg_in (F : Fence) (n : Nat) (h42 : F.fn 42) (hro : F.round = none) (hn : 1 ≤ n) (l x B g b cap : Nat) (s : St) (k : Nat) (hk : k < 12) (A0 R0 : List En) (hE0 : s.E = A0 ++ R0) (J Jx : List {e : En // e ∈ s.E} → World → Prop)
    (hY : ∀ pre (e : {e : En // e ∈ s.E}) W, J pre W → pre.length < R0.length → YieldAt F (n - 1) Try.prog l #[.int .i64 ((e.1.p : Nat) : Int)] W fun r W' =>
      (r = .returned (.bool true) ∧ J (pre ++ [e]) W' ∧ Kl g b x W W') ∨ (r = .returned (.bool false) ∧ Jx (pre ++ [e]) W'))
    (hJd : ∀ pre W, J pre W → J pre W.drew) (W : World) (hL : LG B W g b cap s k x R0) (h0 : J [] W) :
    CallsIn F n Try.prog 42 #[.func (.yield l) #[] #[], .pointer (some ⟨x + 2, 0, none⟩), .pointer (some ⟨x, 0, none⟩), .pointer (some ⟨x + 1, 0, none⟩)] W fun e W' => (∃ v, e = .returned v) ∧
      ((∃ ys, ys.map (·.1) = lvE k R0 ∧ J ys W') ∨ (∃ pre, pre.map (·.1) <+: lvE k R0 ∧ Jx pre W')) := by
  obtain ⟨f1, f2, f3, f4⟩ := F
  obtain rfl : f4 = none := hro
  have HLF : Hid (LG B W g b cap s k x R0) := hL
  have HRP : Hid (Rep s.n s.cell s.nx s.E) := hL.ma.rep
  have HE0 : Hid (s.E = A0 ++ R0) := hE0
  have hsm := hL.ma.small
  have hb3 := hL.b3
  have hkz : (k : Int) < 12 := by omega
  have hk0 : (0 : Int) ≤ (k : Int) := by omega
  have HFL : Hid (∀ E : List En, (lvE k E).length ≤ E.length) := fun E => List.length_filter_le _ _
  clear hL hE0
  refine callsIn_of_wp Try.func42 rfl h42 ?_ rfl
  simp only [Try.ntmps42, List.size_toArray, List.length_cons, List.length_nil, Nat.reduceAdd, Nat.reduceSub, Array.replicate_succ, Array.replicate_zero, List.push_toArray, List.append_toArray, List.nil_append, List.cons_append]
  gi_wp2
  gi_loopw [5] (fun p wr => ∃ (A R : List En) (ys : List {e : En // e ∈ s.E}), p = .int .i64 ((fsL k R : Nat) : Int) ∧ Hid (R0 = A ++ R) ∧ Hid (LG B wr g b cap s k x R0) ∧ Hid (ys.map (·.1) = lvE k A) ∧ Hid (J ys wr))
    (fun p _ => fe s.E (intOf p).toNat)
  case atStart =>
    exact ⟨[], R0, [], rfl, rfl, HLF.out, rfl, h0⟩
  case round =>
    obtain ⟨A, R, ys, rfl, HX, HLW, HYS, HJ⟩ := hrel
    rcases fsL_cases k R with ⟨e1, e2⟩ | ⟨C, e, R', e1, e2, e3, e4⟩
    · rw [e1]
      have HE : Hid (ys.map (·.1) = lvE k R0) := by rw [Hid, HX.out, lvE_app, lvE_none e2, List.append_nil]; exact HYS.out
      clear hb3
      gi_wp2
      go_end0
      exact ⟨⟨_, rfl⟩, .inl ⟨_, HE.out, HJ.out⟩⟩
    · rw [e4]
      have HS0 : Hid (R0 = (A ++ C) ++ e :: R') := by rw [Hid, HX.out, e1]; simp
      have HS : Hid (s.E = (A0 ++ A ++ C) ++ e :: R') := by rw [Hid, HE0.out, HS0.out]; simp
      have hmem : e ∈ s.E := by rw [HS.out]; simp
      have he := HRP.out.each e hmem
      have hpz : ((e.p : Int) != 0) = true := by simp; omega
      have hpn : (e.p : Int) < (s.n : Int) := by omega
      have HLV : Hid (lvE k R0 = (lvE k A ++ [e]) ++ lvE k R') := by rw [Hid, HS0.out, lvE_app, lvE_app, lvE_none e2, lvE_hit e3]; simp
      have HLN : Hid (lvE k ((A ++ C) ++ [e]) = lvE k A ++ [e]) := by rw [Hid, lvE_app, lvE_app, lvE_none e2, lvE_hit e3]; simp [lvE]
      have HNX : Hid (s.nx e.p k = fsL k R') := HRP.out.links _ _ _ HS.out k e3
      have HM : Hid (fe s.E (fsL k R') < fe s.E e.p) := by
        rw [Hid, fe_at HRP.out HS.out]
        have := fe_fs (A := (A0 ++ A ++ C) ++ [e]) k HRP.out (R := R') (by rw [HS.out]; simp)
        omega
      have hpe : e.p < s.n := he.2.1
      clear hb3
      obtain ⟨fn, tmps, assign, body, hy, hR⟩ := hY ys ⟨e, hmem⟩ wr HJ.out (by
        have h1 := congrArg List.length HYS.out
        have h2 := congrArg List.length HLV.out
        have h3 := HFL.out R0
        simp at h1 h2
        omega)
      simp only at hy
      gi_wp2
      refine hR.mono ?_
      rintro e' W3 (⟨rfl, hJ3, hk3⟩ | ⟨rfl, hJx3⟩)
      · have HL3 : Hid (LG B W3 g b cap s k x R0) := HLW.out.kl hk3
        have HJ3 : Hid (J (ys ++ [⟨e, hmem⟩]) W3) := hJ3
        obtain ⟨m0, m1, m2⟩ := HL3.out.ma.hd
        have q1 := HL3.out.b1
        have q2 := HL3.out.b2
        have hlk := HL3.out.ma.link hpe hk
        rw [HNX.out] at hlk
        clear hJ3 hk3 hY hR hy e1 e2 e3 e4 he
        gi_wp2
        gi_big_region
        go_roundw
        case rel =>
          exact ⟨_, _, _, _, _, _, _, _, _, _, _, _, _, _, _, _, _, ⟨(A ++ C) ++ [e], R', _, rfl, by rw [Hid, HS0.out]; simp, HL3.out.kl (fun _ _ => rfl), by rw [Hid, HLN.out, List.map_append, HYS.out]; rfl, hJd _ _ HJ3.out⟩, rfl⟩
        case measure => simp only [intOf]; exact HM.out
      · have HP : Hid ((ys ++ [(⟨e, hmem⟩ : {e : En // e ∈ s.E})]).map (fun e => e.1) <+: lvE k R0) := by rw [Hid, HLV.out, List.map_append, HYS.out]; exact ⟨_, rfl⟩
        clear hY hR hy e1 e2 e3 e4 he
        gi_wp2
        refine bodyPost_ret (results_none rfl _ _ _) rfl ?_
        exact ⟨⟨_, rfl⟩, .inr ⟨_, HP.out, hJx3⟩⟩
theorem lvg_stops (F : Fence) (n : Nat) (h42 : F.fn 42) (hro : F.round = none) (hn : 1 ≤ n) (x B g b cap : Nat) (s : St) (k : Nat) (hk : k < 12) (A0 R0 : List En) (hE0 : s.E = A0 ++ R0) (w : World) (hL : LG B w g b cap s k x R0) (hlt : x + 2 < w.heap.size) :
    SeqStopsK F n Try.prog 42 #[.pointer (some ⟨x + 2, 0, none⟩), .pointer (some ⟨x, 0, none⟩), .pointer (some ⟨x + 1, 0, none⟩)] (fun e : {e : En // e ∈ s.E} => #[Value.int .i64 ((e.1.p : Nat) : Int)]) (Kl g b x) (fun ys : List {e : En // e ∈ s.E} => ys.map (fun e => e.1) = lvE k R0) (fun pre : List {e : En // e ∈ s.E} => pre.map (fun e => e.1) <+: lvE k R0) R0.length w :=
  fun l J Jx W hW hJ _ hY h0 => lvg_in F n h42 hro hn l x B g b cap s k hk A0 R0 hE0 J Jx hY (fun pre W q => drew_of hJ pre W q) W (hL.kl (fun q hq => hW.block q (by
    have h1 := hL.ma.lt
    rcases hq with rfl | rfl | rfl | rfl | rfl <;> omega))) h0
end Go.Proofs.Ytdgmjmohfpjlnaa
