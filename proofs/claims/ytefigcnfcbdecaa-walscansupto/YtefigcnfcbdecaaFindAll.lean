/-
  find, whole: of any log, behind any number of its bytes.
-/
import Derived.Test.YtefigcnfcbdecaaFindA
import Derived.Test.YtefigcnfcbdecaaFindB
import Derived.Test.YtefigcnfcbdecaaFindC
import Derived.Test.YtefigcnfcbdecaaFindE
namespace Go.Proofs.Ytefigcnfcbdecaa
open Go.RowKit
/-- A part's length, as a head says it. -/
def lenF (rest : List UInt8) : Nat := (rest.getD 4 0).toNat * 256 + (rest.getD 5 0).toNat
/-- What find tells: why there is no fragment, or its kind, where its part begins, and how long it is. -/
def findG (sk rm at_ : Nat) (begun : Bool) (passed rest : List UInt8) : Nat ⊕ (UInt8 × Nat × Nat) :=
  if zeroB passed = false then .inl 3 else
  if rest.length = 0 ∧ begun = false ∧ (passed.length = 0 ∨ passed.length = sk) then .inl 1 else
  if rest.length < 7 then .inl 2 else
  if rm < lenF rest then .inl 3 else
  if followsN (rest.getD 6 0).toNat begun = false then .inl 3 else
  if rest.length < 7 + lenF rest then .inl 2 else
  if rest.take 7 = headL (rest.getD 6 0) ((rest.drop 7).take (lenF rest)) then .inr (rest.getD 6 0, at_ + passed.length + 7, lenF rest) else .inl 3
def passedL (l : List UInt8) (at_ : Nat) : List UInt8 := (l.drop at_).take (skipN at_)
def findL (l : List UInt8) (at_ : Nat) (begun : Bool) : Nat ⊕ (UInt8 × Nat × Nat) :=
  findG (skipN at_) (roomN at_) at_ begun (passedL l at_) (l.drop (at_ + (passedL l at_).length))
/-- What is told of it in memory. -/
def Told (a : Option Addr) (l : List UInt8) (w w' : World) (r : Ending) : Nat ⊕ (UInt8 × Nat × Nat) → Prop
  | .inl e => r = .returned (errV e) ∧ Below w.heap.size w w'
  | .inr (k, s, n) => ∃ pa pc, r = .returned (.tuple #[.agg #[.int .u8 (k.toNat : Nat), .slice pa n pc, .int .i64 ((s + n : Nat) : Int)], .int .i64 0]) ∧ (∀ W0, BytesAt W0 a l → BytesAt W0 pa ((l.drop s).take n)) ∧ (∃ ad, pa = some ad) ∧ Below w.heap.size w w'
theorem skip_le (n : Nat) : skipN n ≤ 6 := by unfold skipN; split <;> omega
theorem room_le (n : Nat) : roomN n ≤ 1017 := by unfold roomN leftN; split <;> omega
theorem take7 {l : List UInt8} (h : 7 ≤ l.length) : l.take 7 = [l.getD 0 0, l.getD 1 0, l.getD 2 0, l.getD 3 0, l.getD 4 0, l.getD 5 0, l.getD 6 0] := by
  match l, h with
  | a :: b :: c :: d :: e :: f :: g :: r, _ => rfl
theorem BytesAt.part {w : World} {b off : Nat} {l : List UInt8} (h : BytesAt w (some ⟨b, off, none⟩) l) (s n : Nat) : BytesAt w (some ⟨b, off + s, none⟩) ((l.drop s).take n) := by
  intro j c hj
  have hj' : l[s + j]? = some c := by
    rw [List.getElem?_take] at hj
    split at hj
    · rw [List.getElem?_drop] at hj; exact hj
    · cases hj
  obtain ⟨b', off', e, hb, hc⟩ := h (s + j) c hj'
  cases e
  exact ⟨b, off + s, rfl, hb, by rw [Nat.add_assoc]; exact hc⟩
theorem conv_at {w : World} {b off n c : Nat} {l : List UInt8} (hn : l.length = n) (h : BytesAt w (some ⟨b, off, none⟩) l) (W : World) (k : Below w.heap.size w W) :
    (convert 33 9 (.slice (some ⟨b, off, none⟩) n c)).run Try.prog W = .ok (.string ⟨l.toArray⟩) W := by
  subst hn
  refine run_convert_bytes_back W 33 9 5 ⟨b, off, none⟩ c l Try.underlying33 Try.underlying5 Try.underlying9 (fun j hj => ?_)
  obtain ⟨b', off', e, hb, hc⟩ := (h.below (Nat.le_refl _) k) j l[j] (List.getElem?_eq_getElem hj)
  cases e
  rw [addr_add]
  exact hc
set_option maxHeartbeats 2000000 in
theorem find_any (a : Option Addr) (cap : Nat) (l : List UInt8) (at_ : Nat) (begun : Bool) (w : World) (h : BytesAt w a l) (hat : at_ ≤ l.length) (hN : l.length ≤ 140737488355328) (hcap : l.length ≤ cap) (hc0 : a = none → cap = 0) (hsp : ∀ ad, a = some ad → ad.spot = none ∨ cap = 0) :
    Calls Try.prog 38 #[.slice a l.length cap, .int .i64 at_, .bool begun] w fun r w' => Told a l w w' r (findL l at_ begun) := by
  have HZ0 : Hid (∀ (p : Option Addr) (c : Nat) (W : World), Calls Try.prog 39 #[.slice p 0 c] W fun r w' => r = .returned (.bool true) ∧ w' = W) := fun p c W => by
    have := allZero_any p c [] W (fun j c h => by simp at h) (by simp)
    exact this
  have HP : Hid (∀ W : World, Calls Try.prog 31 #[.int .i64 at_] W fun r w' => r = .returned (.tuple #[.int .i64 (skipN at_ : Nat), .int .i64 (roomN at_ : Nat)]) ∧ w' = W) := fun W => place_any at_ W (by omega)
  have hsk := skip_le at_
  have hrm := room_le at_
  cases ha : a with
  | none =>
    have hl : l = [] := by
      cases l with
      | nil => rfl
      | cons u us =>
        obtain ⟨_, _, e, _⟩ := h 0 u rfl
        rw [ha] at e
        cases e
    subst hl
    have h0 : at_ = 0 := by simpa using hat
    subst h0
    rw [hc0 ha]
    cases begun
    · exact find_ne2 w HP HZ0
    · exact find_ne1 w HP HZ0
  | some ad =>
    subst ha
    obtain ⟨b, off, spot⟩ := ad
    by_cases hac : at_ < cap
    · have hs : spot = none := by
        rcases hsp _ rfl with e | e
        · exact e
        · omega
      subst hs
      obtain ⟨N, hNd⟩ : ∃ N, l.length = N := ⟨_, rfl⟩
      obtain ⟨P, hP⟩ : ∃ P, (passedL l at_).length = P := ⟨_, rfl⟩
      have hPm : P = min (skipN at_) (N - at_) := by rw [← hP, passedL, List.length_take, List.length_drop, hNd]
      obtain ⟨R, hR⟩ : ∃ R, (l.drop (at_ + P)).length = R := ⟨_, rfl⟩
      have hRm : R = N - (at_ + P) := by rw [← hR, List.length_drop, hNd]
      have hF : findL l at_ begun = findG (skipN at_) (roomN at_) at_ begun (passedL l at_) (l.drop (at_ + P)) := by rw [findL, hP]
      have hbp : BytesAt w (some ⟨b, off + at_, none⟩) (passedL l at_) := h.part at_ _
      have HZ : ∀ z, zeroB (passedL l at_) = z → Hid (∀ (c : Nat) (W : World), Below w.heap.size w W → Calls Try.prog 39 #[.slice (some ⟨b, off + at_, none⟩) P c] W fun r w' => r = .returned (.bool z) ∧ w' = W) := fun z hz c W k => by
        have := allZero_any (some ⟨b, off + at_, none⟩) c (passedL l at_) W (hbp.below (Nat.le_refl _) k) (by omega)
        rw [hz, hP] at this
        exact this
      rw [hF, hNd]
      rw [hNd] at hat hN hcap
      have hmin : (if (N : Int) < (at_ : Int) + (skipN at_ : Int) then (N : Int) else (at_ : Int) + (skipN at_ : Int)) = ((at_ + P : Nat) : Int) := by split <;> omega
      have hm : at_ ≤ at_ + P := by omega
      have hm2 : at_ + P ≤ N := by omega
      have hmP : at_ + P - at_ = P := by omega
      have ha2 : (at_ : Int) + (P : Int) = ((at_ + P : Nat) : Int) := by omega
      have hR' : N - (at_ + P) = R := hRm.symm
      obtain ⟨rest, hrest⟩ : ∃ rest, l.drop (at_ + P) = rest := ⟨_, rfl⟩
      rw [hrest] at hR ⊢
      cases hz : zeroB (passedL l at_) with
      | false =>
        have e : findG (skipN at_) (roomN at_) at_ begun (passedL l at_) rest = .inl 3 := by rw [findG, if_pos hz]
        rw [e]
        exact find_nz b off cap N at_ begun w _ _ _ P hat hN hcap hac HP hsk hrm hmin hm hm2 hmP (HZ _ hz)
      | true =>
        have HZT := HZ _ hz
        have e0 : findG (skipN at_) (roomN at_) at_ begun (passedL l at_) rest = if rest.length = 0 ∧ begun = false ∧ ((passedL l at_).length = 0 ∨ (passedL l at_).length = skipN at_) then .inl 1 else if rest.length < 7 then .inl 2 else if roomN at_ < lenF rest then .inl 3 else if followsN (rest.getD 6 0).toNat begun = false then .inl 3 else if rest.length < 7 + lenF rest then .inl 2 else if rest.take 7 = headL (rest.getD 6 0) ((rest.drop 7).take (lenF rest)) then .inr (rest.getD 6 0, at_ + (passedL l at_).length + 7, lenF rest) else .inl 3 := by
          rw [findG, if_neg (by rw [hz]; decide)]
        rw [e0, hP, hR]
        by_cases hR0 : R = 0
        · by_cases hac2 : at_ + P < cap
          · cases begun with
            | true =>
              rw [if_neg (fun e => by cases e.2.1), if_pos (by omega)]
              exact find_b1 b off cap N at_ true w _ _ _ P _ R hat hN hcap hac HP hsk hrm hmin hm hm2 hmP HZT ha2 hm2 hR' hR0 rfl hac2
            | false =>
              by_cases hp0 : P = 0
              · rw [if_pos ⟨hR0, rfl, Or.inl hp0⟩]
                exact find_b2 b off cap N at_ false w _ _ _ P _ R hat hN hcap hac HP hsk hrm hmin hm hm2 hmP HZT ha2 hm2 hR' hR0 rfl hp0 hac2
              · have hp0' : ((P : Int) == 0) = false := by simp; omega
                by_cases hps : P = skipN at_
                · rw [if_pos ⟨hR0, rfl, Or.inr hps⟩]
                  exact find_b3 b off cap N at_ false w _ _ _ P _ R hat hN hcap hac HP hsk hrm hmin hm hm2 hmP HZT ha2 hm2 hR' hR0 rfl hp0' (by simp; omega) hac2
                · rw [if_neg (fun e => by rcases e.2.2 with e | e; exact hp0 e; exact hps e), if_pos (by omega)]
                  exact find_b4 b off cap N at_ false w _ _ _ P _ R hat hN hcap hac HP hsk hrm hmin hm hm2 hmP HZT ha2 hm2 hR' hR0 rfl hp0' (by simp; omega) hac2
          · have hac3 : at_ + P = cap := by omega
            have hp0 : ¬ P = 0 := by omega
            have hp0' : ((P : Int) == 0) = false := by simp; omega
            cases begun with
            | true =>
              rw [if_neg (fun e => by cases e.2.1), if_pos (by omega)]
              exact find_b1c b off cap N at_ true w _ _ _ P _ R hat hN hcap hac HP hsk hrm hmin hm hm2 hmP HZT ha2 hm2 hR' hR0 rfl hac3
            | false =>
              by_cases hps : P = skipN at_
              · rw [if_pos ⟨hR0, rfl, Or.inr hps⟩]
                exact find_b3c b off cap N at_ false w _ _ _ P _ R hat hN hcap hac HP hsk hrm hmin hm hm2 hmP HZT ha2 hm2 hR' hR0 rfl hp0' (by simp; omega) hac3
              · rw [if_neg (fun e => by rcases e.2.2 with e | e; exact hp0 e; exact hps e), if_pos (by omega)]
                exact find_b4c b off cap N at_ false w _ _ _ P _ R hat hN hcap hac HP hsk hrm hmin hm hm2 hmP HZT ha2 hm2 hR' hR0 rfl hp0' (by simp; omega) hac3
        · have hR0' : ((R : Int) == 0) = false := by simp; omega
          have hac2 : at_ + P < cap := by omega
          rw [if_neg (fun e => hR0 e.1)]
          by_cases hR7 : R < 7
          · rw [if_pos hR7]
            exact find_c b off cap N at_ begun w _ _ _ P _ R hat hN hcap hac HP hsk hrm hmin hm hm2 hmP HZT ha2 hm2 hR' hR0' hR7 hac2
          · rw [if_neg hR7]
            have h7 : Hid (7 ≤ R) := show 7 ≤ R by omega
            have hRC : Hid (R ≤ cap - (at_ + P)) := show _ ≤ _ by omega
            have hrb : BytesAt w (some ⟨b, off + (at_ + P), none⟩) rest := by
              have := h.part (at_ + P) l.length
              rw [hrest, List.take_of_length_le (by rw [← hrest, List.length_drop]; omega)] at this
              exact this
            have hX : ∀ j v, [u8v (rest.getD 0 0), u8v (rest.getD 1 0), u8v (rest.getD 2 0), u8v (rest.getD 3 0), u8v (rest.getD 4 0), u8v (rest.getD 5 0), u8v (rest.getD 6 0)][j]? = some v → ∀ W : World, Below w.heap.size w W → W.cell? ⟨b, off + (at_ + P) + j, none⟩ = some v := by
              intro j v hj W k
              have hj7 : j < 7 := by have := (List.getElem?_eq_some_iff.1 hj).1; simpa using this
              have hv : v = u8v (rest.getD j 0) := by
                match j, hj7, hj with
                | 0, _, hj => simpa using hj.symm
                | 1, _, hj => simpa using hj.symm
                | 2, _, hj => simpa using hj.symm
                | 3, _, hj => simpa using hj.symm
                | 4, _, hj => simpa using hj.symm
                | 5, _, hj => simpa using hj.symm
                | 6, _, hj => simpa using hj.symm
              obtain ⟨b', off', e, _, hc⟩ := (hrb.below (Nat.le_refl _) k) j _ (getD_at (by rw [hR]; omega))
              cases e
              rw [hc, hv]
              rfl
            have HNN : Hid ((rest.getD 4 0).toNat * 256 + (rest.getD 5 0).toNat = lenF rest) := rfl
            by_cases hnr : roomN at_ < lenF rest
            · rw [if_pos hnr]
              exact find_d1 b off cap N at_ begun w _ _ _ P _ R hat hN hcap hac HP hsk hrm hmin hm hm2 hmP HZT ha2 hm2 hR' hR0' h7 hRC hac2 _ _ _ _ _ _ _ hX _ HNN hnr
            · have hnr' : lenF rest ≤ roomN at_ := by omega
              rw [if_neg hnr]
              have HFo : ∀ z, followsN (rest.getD 6 0).toNat begun = z → Hid (∀ W : World, Calls Try.prog 40 #[.int .u8 ((rest.getD 6 0).toNat : Nat), .bool begun] W fun r w' => r = .returned (.bool z) ∧ w' = W) := fun z hz W => by rw [← hz]; exact follows_any _ _ W
              cases hfo : followsN (rest.getD 6 0).toNat begun with
              | false =>
                rw [if_pos rfl]
                exact find_d2 b off cap N at_ begun w _ _ _ P _ R hat hN hcap hac HP hsk hrm hmin hm hm2 hmP HZT ha2 hm2 hR' hR0' h7 hRC hac2 _ _ _ _ _ _ _ hX _ HNN hnr' (HFo _ hfo)
              | true =>
                rw [if_neg (by decide)]
                by_cases h7n : R < 7 + lenF rest
                · rw [if_pos h7n]
                  exact find_d3 b off cap N at_ begun w _ _ _ P _ R hat hN hcap hac HP hsk hrm hmin hm hm2 hmP HZT ha2 hm2 hR' hR0' h7 hRC hac2 _ _ _ _ _ _ _ hX _ HNN hnr' (HFo _ hfo) h7n
                · rw [if_neg h7n]
                  obtain ⟨part, hpart⟩ : ∃ part, (rest.drop 7).take (lenF rest) = part := ⟨_, rfl⟩
                  have hpl : part.length = lenF rest := by rw [← hpart, List.length_take, List.length_drop, hR]; omega
                  have HHd : Hid (∀ W : World, Calls Try.prog 32 #[.int .u8 ((rest.getD 6 0).toNat : Nat), .string ⟨part.toArray⟩] W fun r w' => r = .returned (.agg ((headL (rest.getD 6 0) part).map u8v).toArray) ∧ Below W.heap.size W w') := fun W => by
                    have := headOf_any (rest.getD 6 0) ⟨part.toArray⟩ W (by show part.toArray.size ≤ _; rw [List.size_toArray]; omega)
                    exact this
                  have hps : (l.drop (at_ + P + 7)).take (lenF rest) = part := by rw [← hpart, ← hrest, List.drop_drop]
                  have hpb : ∀ W0, BytesAt W0 (some ⟨b, off, none⟩) l → BytesAt W0 (some ⟨b, off + (at_ + P) + 7, none⟩) part := fun W0 h0 => by
                    have := h0.part (at_ + P + 7) (lenF rest)
                    rw [hps] at this
                    rw [Nat.add_assoc]
                    exact this
                  rw [hpart, take7 (by omega)]
                  have HR7n : Hid (7 + lenF rest ≤ R) := show _ ≤ _ by omega
                  by_cases hn0 : lenF rest = 0
                  · have hpe : part = [] := List.eq_nil_of_length_eq_zero (by rw [hpl, hn0])
                    subst hpe
                    have HCV : Hid (∀ W : World, Below w.heap.size w W → (convert 33 9 (.slice (some ⟨b, off + (at_ + P), none⟩) 0 0)).run Try.prog W = .ok (.string ⟨([] : List UInt8).toArray⟩) W) := fun W k => conv_at (l := []) rfl (fun j c hj => by simp at hj) W k
                    by_cases hh : [rest.getD 0 0, rest.getD 1 0, rest.getD 2 0, rest.getD 3 0, rest.getD 4 0, rest.getD 5 0, rest.getD 6 0] = headL (rest.getD 6 0) []
                    · rw [if_pos hh]
                      refine (find_d5z b off cap N at_ begun w _ _ _ P _ R hat hN hcap hac HP hsk hrm hmin hm hm2 hmP HZT ha2 hm2 hR' hR0' h7 hRC hac2 _ _ _ _ _ _ _ hX (by rw [← hn0]; exact HNN) (HFo _ hfo) h7 _ HCV _ _ _ _ _ _ _ HHd (by rw [beq_iff_eq]; exact hh)).mono ?_
                      rintro r w' ⟨rfl, B⟩
                      refine ⟨some ⟨b, off + (at_ + P), none⟩, 0, ?_, ?_, ⟨_, rfl⟩, B⟩
                      · rw [hn0, show ((at_ + P + 7 + 0 : Nat) : Int) = ((at_ + P : Nat) : Int) + 7 by omega]
                      · rw [hps]
                        exact fun W0 _ j c hj => by simp at hj
                    · rw [if_neg hh]
                      exact find_d4z b off cap N at_ begun w _ _ _ P _ R hat hN hcap hac HP hsk hrm hmin hm hm2 hmP HZT ha2 hm2 hR' hR0' h7 hRC hac2 _ _ _ _ _ _ _ hX (by rw [← hn0]; exact HNN) (HFo _ hfo) h7 _ HCV _ _ _ _ _ _ _ HHd (by rw [beq_eq_false_iff_ne]; exact hh)
                  · have HCV : Hid (∀ W : World, Below w.heap.size w W → (convert 33 9 (.slice (some ⟨b, off + (at_ + P) + 7, none⟩) (lenF rest) (lenF rest))).run Try.prog W = .ok (.string ⟨part.toArray⟩) W) := fun W k => conv_at hpl (hpb w h) W k
                    have hn0' : 0 < lenF rest := by omega
                    by_cases hh : [rest.getD 0 0, rest.getD 1 0, rest.getD 2 0, rest.getD 3 0, rest.getD 4 0, rest.getD 5 0, rest.getD 6 0] = headL (rest.getD 6 0) part
                    · rw [if_pos hh]
                      refine (find_d5 b off cap N at_ begun w _ _ _ P _ R hat hN hcap hac HP hsk hrm hmin hm hm2 hmP HZT ha2 hm2 hR' hR0' h7 hRC hac2 _ _ _ _ _ _ _ hX _ HNN hnr' (HFo _ hfo) HR7n hn0' _ HCV _ _ _ _ _ _ _ HHd (by rw [beq_iff_eq]; exact hh)).mono ?_
                      rintro r w' ⟨rfl, B⟩
                      refine ⟨some ⟨b, off + (at_ + P) + 7, none⟩, lenF rest, ?_, by rw [hps]; exact hpb, ⟨_, rfl⟩, B⟩
                      rw [show ((at_ + P + 7 + lenF rest : Nat) : Int) = ((at_ + P : Nat) : Int) + (7 + (lenF rest : Int)) by omega]
                    · rw [if_neg hh]
                      exact find_d4 b off cap N at_ begun w _ _ _ P _ R hat hN hcap hac HP hsk hrm hmin hm hm2 hmP HZT ha2 hm2 hR' hR0' h7 hRC hac2 _ _ _ _ _ _ _ hX _ HNN hnr' (HFo _ hfo) HR7n hn0' _ HCV _ _ _ _ _ _ _ HHd (by rw [beq_eq_false_iff_ne]; exact hh)
    · have e1 : at_ = cap := by omega
      have e2 : l.length = cap := by omega
      subst e1
      rw [e2]
      have hp : passedL l at_ = [] := by rw [passedL, List.drop_eq_nil_of_le (by omega), List.take_nil]
      have hF : findL l at_ begun = if begun then .inl 2 else .inl 1 := by
        rw [findL, hp, findG, if_neg (by decide)]
        rw [show l.drop (at_ + ([] : List UInt8).length) = [] from List.drop_eq_nil_of_le (by simp; omega)]
        cases begun <;> rfl
      rw [hF]
      cases begun
      · exact find_e2 at_ w _ _ _ (by omega) HP hsk HZ0
      · exact find_e1 at_ w _ _ _ (by omega) HP hsk HZ0
end Go.Proofs.Ytefigcnfcbdecaa
