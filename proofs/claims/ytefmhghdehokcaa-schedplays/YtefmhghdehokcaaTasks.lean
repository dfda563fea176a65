/-
  A step of a task that goes on, waits, or wakes.
-/
import Derived.Test.YtefmhghdehokcaaActs
namespace Go.Proofs.Ytefmhghdehokcaa
open Go.RowKit
theorem took_same {p q B k : Nat} {vt va : Value} {w w' : World} {cs : Array Value} {told : List Int} (hb : Below w.heap.size w w') (hp : w.heap[p]? = some (.cells cs 83 (0, 0))) (hq : w.heap[q]? = some (.cells #[va, vt] 91 (0, 0))) (hk : told.length = k) (ht : w.ownsRow B 45 1 vt k (told.map nV)) : Took p q B vt w w' cs va vt told where
  hp := (hb.block p (Array.getElem?_eq_some_iff.1 hp).1).trans hp
  hq := (hb.block q (Array.getElem?_eq_some_iff.1 hq).1).trans hq
  told := by rw [hk]; exact owns_same ht (fun g e => hb.block g (ht.lt g e).2)
  lies := Or.inl rfl
  kb := Kb.of_below hb
/-- A step of a task whose next act lets it go on. -/
theorem task_go (p : Nat) (t : Tk) (k x : Int) (l : List (Int × Int)) (cs : Array Value) (w : World) (ht : TkAt (p + 1) w t) (hl : t.acts = (k, x) :: l) (hll : l.length < 1000000) (h2 : k ≠ 2) (h3 : k ≠ 3) (h4 : k ≠ 4) (h5 : k ≠ 5)
    (hp : w.heap[p]? = some (.cells cs 83 (0, 0))) :
    Calls Try.prog 24 #[.pointer (some ⟨t.q, 0, none⟩), .pointer (some ⟨p, 5, none⟩)] w fun r w' => r = .returned (.agg #[.bool (decide (l.length = 0)), .int .i64 0, .slice none 0 0]) ∧ ∃ t', t'.q = t.q ∧ t'.acts = l ∧ t'.told = t.told ∧ Stepped p t t' w w' cs := by
  obtain ⟨b, off, haa, _, h0, h1⟩ := ht.acts 0 (k, x) (by rw [hl]; rfl)
  obtain ⟨aa', ca', ha'⟩ : ∃ aa' ca', if t.ca = 1 then aa' = some (⟨b, off, none⟩ : Addr) ∧ ca' = 0 else aa' = some ⟨b, off + 2, none⟩ ∧ ca' = t.ca - 1 := by
    by_cases hc : t.ca = 1
    · exact ⟨_, _, by rw [if_pos hc]; exact ⟨rfl, rfl⟩⟩
    · exact ⟨_, _, by rw [if_neg hc]; exact ⟨rfl, rfl⟩⟩
  have hq := ht.hq
  have hpq : p ≠ t.q := by have := ht.ge; omega
  have hps := (Array.getElem?_eq_some_iff.1 hp).1
  have hqs := (Array.getElem?_eq_some_iff.1 hq).1
  have htb : ∀ g, t.vt.ownBlock = some g → p + 1 ≤ g ∧ g < w.heap.size ∧ g ≠ t.q := fun g e => by
    obtain ⟨h1, h2⟩ := ht.told.lt g e
    refine ⟨h1, h2, fun e2 => ?_⟩
    rcases ht.told.2 with ⟨ev, _⟩ | ⟨g', cap', cur, ev, _, hh, _⟩
    · rw [ev] at e; cases e
    · rw [ev] at e
      simp only [Value.ownBlock, Option.some.injEq] at e
      rw [e, e2, hq] at hh
      simp at hh
  rw [haa, hl, List.length_cons] at hq
  have := actStep_cons t.q l.length b off t.ca k x t.vt (.pointer (some ⟨p, 5, none⟩)) w hq (by have := ht.len; rw [hl] at this; simpa using this) hll (by simpa using h0) (by simpa using h1) aa' ca' ha' 0
    (fun W1 w2 vk => vk = .slice none 0 0 ∧ W1.heap.size = w.heap.size + 2 ∧ ∃ vt', Took p t.q (p + 1) t.vt W1 w2 cs (.slice aa' l.length ca') vt' (t.told))
    (fun W1 hs1 k1 hq1 => by
      have hp1 := (k1.block p hps hpq).trans hp
      have ht1 : W1.ownsRow (p + 1) 45 1 t.vt t.told.length (t.told.map nV) := owns_same ht.told (fun g e => k1.block g (htb g e).2.1 (htb g e).2.2)
      refine (do_go _ _ k x W1 h2 h3 h4 h5).mono ?_
      rintro r w2 ⟨rfl, hb⟩
      exact ⟨none, 0, 0, rfl, rfl, hs1, t.vt, took_same hb hp1 hq1 rfl ht1⟩)
    (fun W1 w2 vk ⟨_, hs1, vt', hT⟩ => ⟨⟨vt', hT.hq⟩, hT.kb.block _ (by omega) (by
      rintro (e | e | e)
      · omega
      · omega
      · have := (htb _ e).2.1; omega), hT.kb.size⟩)
  refine this.mono ?_
  rintro r w' ⟨W1, w2, vk, rfl, hs1, k1, ⟨rfl, _, vt', hT⟩, k2⟩
  exact ⟨by simp, { q := t.q, acts := l, aa := aa', ca := ca', vt := vt', told := t.told }, rfl, rfl, rfl, stepped_of ht hl haa ha' hp hs1 k1 hT k2⟩
/-- A step of a task whose next act waits. -/
theorem task_wait (p : Nat) (t : Tk) (x : Int) (l : List (Int × Int)) (cs : Array Value) (w : World) (ht : TkAt (p + 1) w t) (hl : t.acts = (2, x) :: l) (hll : l.length < 1000000)
    (hp : w.heap[p]? = some (.cells cs 83 (0, 0))) :
    Calls Try.prog 24 #[.pointer (some ⟨t.q, 0, none⟩), .pointer (some ⟨p, 5, none⟩)] w fun r w' => r = .returned (.agg #[.bool (decide (l.length = 0)), .int .i64 (if l.length = 0 then 0 else x), .slice none 0 0]) ∧ ∃ t', t'.q = t.q ∧ t'.acts = l ∧ t'.told = t.told ∧ Stepped p t t' w w' cs := by
  obtain ⟨b, off, haa, _, h0, h1⟩ := ht.acts 0 (2, x) (by rw [hl]; rfl)
  obtain ⟨aa', ca', ha'⟩ : ∃ aa' ca', if t.ca = 1 then aa' = some (⟨b, off, none⟩ : Addr) ∧ ca' = 0 else aa' = some ⟨b, off + 2, none⟩ ∧ ca' = t.ca - 1 := by
    by_cases hc : t.ca = 1
    · exact ⟨_, _, by rw [if_pos hc]; exact ⟨rfl, rfl⟩⟩
    · exact ⟨_, _, by rw [if_neg hc]; exact ⟨rfl, rfl⟩⟩
  have hq := ht.hq
  have hpq : p ≠ t.q := by have := ht.ge; omega
  have hps := (Array.getElem?_eq_some_iff.1 hp).1
  have hqs := (Array.getElem?_eq_some_iff.1 hq).1
  have htb : ∀ g, t.vt.ownBlock = some g → p + 1 ≤ g ∧ g < w.heap.size ∧ g ≠ t.q := fun g e => by
    obtain ⟨h1, h2⟩ := ht.told.lt g e
    refine ⟨h1, h2, fun e2 => ?_⟩
    rcases ht.told.2 with ⟨ev, _⟩ | ⟨g', cap', cur, ev, _, hh, _⟩
    · rw [ev] at e; cases e
    · rw [ev] at e
      simp only [Value.ownBlock, Option.some.injEq] at e
      rw [e, e2, hq] at hh
      simp at hh
  rw [haa, hl, List.length_cons] at hq
  have := actStep_cons t.q l.length b off t.ca 2 x t.vt (.pointer (some ⟨p, 5, none⟩)) w hq (by have := ht.len; rw [hl] at this; simpa using this) hll (by simpa using h0) (by simpa using h1) aa' ca' ha' x
    (fun W1 w2 vk => vk = .slice none 0 0 ∧ W1.heap.size = w.heap.size + 2 ∧ ∃ vt', Took p t.q (p + 1) t.vt W1 w2 cs (.slice aa' l.length ca') vt' (t.told))
    (fun W1 hs1 k1 hq1 => by
      have hp1 := (k1.block p hps hpq).trans hp
      have ht1 : W1.ownsRow (p + 1) 45 1 t.vt t.told.length (t.told.map nV) := owns_same ht.told (fun g e => k1.block g (htb g e).2.1 (htb g e).2.2)
      refine (do_wait _ _ x W1).mono ?_
      rintro r w2 ⟨rfl, hb⟩
      exact ⟨none, 0, 0, rfl, rfl, hs1, t.vt, took_same hb hp1 hq1 rfl ht1⟩)
    (fun W1 w2 vk ⟨_, hs1, vt', hT⟩ => ⟨⟨vt', hT.hq⟩, hT.kb.block _ (by omega) (by
      rintro (e | e | e)
      · omega
      · omega
      · have := (htb _ e).2.1; omega), hT.kb.size⟩)
  refine this.mono ?_
  rintro r w' ⟨W1, w2, vk, rfl, hs1, k1, ⟨rfl, _, vt', hT⟩, k2⟩
  exact ⟨rfl, { q := t.q, acts := l, aa := aa', ca := ca', vt := vt', told := t.told }, rfl, rfl, rfl, stepped_of ht hl haa ha' hp hs1 k1 hT k2⟩
/-- A step of a task whose next act wakes. -/
theorem task_wake (p : Nat) (t : Tk) (x : Int) (l : List (Int × Int)) (cs : Array Value) (w : World) (ht : TkAt (p + 1) w t) (hl : t.acts = (3, x) :: l) (hll : l.length < 1000000)
    (hp : w.heap[p]? = some (.cells cs 83 (0, 0))) :
    Calls Try.prog 24 #[.pointer (some ⟨t.q, 0, none⟩), .pointer (some ⟨p, 5, none⟩)] w fun r w' => ∃ g, r = .returned (.agg #[.bool (decide (l.length = 0)), .int .i64 0, .slice (some ⟨g, 0, none⟩) 1 1]) ∧ w.heap.size ≤ g ∧ w'.cell? ⟨g, 0, none⟩ = some (.int .i64 x) ∧ ∃ t', t'.q = t.q ∧ t'.acts = l ∧ t'.told = t.told ∧ Stepped p t t' w w' cs := by
  obtain ⟨b, off, haa, _, h0, h1⟩ := ht.acts 0 (3, x) (by rw [hl]; rfl)
  obtain ⟨aa', ca', ha'⟩ : ∃ aa' ca', if t.ca = 1 then aa' = some (⟨b, off, none⟩ : Addr) ∧ ca' = 0 else aa' = some ⟨b, off + 2, none⟩ ∧ ca' = t.ca - 1 := by
    by_cases hc : t.ca = 1
    · exact ⟨_, _, by rw [if_pos hc]; exact ⟨rfl, rfl⟩⟩
    · exact ⟨_, _, by rw [if_neg hc]; exact ⟨rfl, rfl⟩⟩
  have hq := ht.hq
  have hpq : p ≠ t.q := by have := ht.ge; omega
  have hps := (Array.getElem?_eq_some_iff.1 hp).1
  have hqs := (Array.getElem?_eq_some_iff.1 hq).1
  have htb : ∀ g, t.vt.ownBlock = some g → p + 1 ≤ g ∧ g < w.heap.size ∧ g ≠ t.q := fun g e => by
    obtain ⟨h1, h2⟩ := ht.told.lt g e
    refine ⟨h1, h2, fun e2 => ?_⟩
    rcases ht.told.2 with ⟨ev, _⟩ | ⟨g', cap', cur, ev, _, hh, _⟩
    · rw [ev] at e; cases e
    · rw [ev] at e
      simp only [Value.ownBlock, Option.some.injEq] at e
      rw [e, e2, hq] at hh
      simp at hh
  rw [haa, hl, List.length_cons] at hq
  have := actStep_cons t.q l.length b off t.ca 3 x t.vt (.pointer (some ⟨p, 5, none⟩)) w hq (by have := ht.len; rw [hl] at this; simpa using this) hll (by simpa using h0) (by simpa using h1) aa' ca' ha' 0
    (fun W1 w2 vk => (∃ g, vk = .slice (some ⟨g, 0, none⟩) 1 1 ∧ w.heap.size + 2 ≤ g ∧ w2.cell? ⟨g, 0, none⟩ = some (.int .i64 x)) ∧ W1.heap.size = w.heap.size + 2 ∧ ∃ vt', Took p t.q (p + 1) t.vt W1 w2 cs (.slice aa' l.length ca') vt' (t.told))
    (fun W1 hs1 k1 hq1 => by
      have hp1 := (k1.block p hps hpq).trans hp
      have ht1 : W1.ownsRow (p + 1) 45 1 t.vt t.told.length (t.told.map nV) := owns_same ht.told (fun g e => k1.block g (htb g e).2.1 (htb g e).2.2)
      refine (do_wake _ _ x W1).mono ?_
      rintro r w2 ⟨g, rfl, hg, hc, hb⟩
      exact ⟨some ⟨g, 0, none⟩, 1, 1, rfl, ⟨g, rfl, by omega, hc⟩, hs1, t.vt, took_same hb hp1 hq1 rfl ht1⟩)
    (fun W1 w2 vk ⟨_, hs1, vt', hT⟩ => ⟨⟨vt', hT.hq⟩, hT.kb.block _ (by omega) (by
      rintro (e | e | e)
      · omega
      · omega
      · have := (htb _ e).2.1; omega), hT.kb.size⟩)
  refine this.mono ?_
  rintro r w' ⟨W1, w2, vk, rfl, hs1, k1, ⟨⟨g, rfl, hg, hc⟩, _, vt', hT⟩, k2⟩
  have hc' : w'.cell? ⟨g, 0, none⟩ = some (.int .i64 x) := by
    have hb := k2.block g (World.block_lt_of_cell? w2 _ hc) (by show ¬ g = w.heap.size; omega)
    simp only [World.cell?] at hc ⊢
    rw [hb]
    exact hc
  exact ⟨g, by simp, by omega, hc', { q := t.q, acts := l, aa := aa', ca := ca', vt := vt', told := t.told }, rfl, rfl, rfl, stepped_of ht hl haa ha' hp hs1 k1 hT k2⟩
end Go.Proofs.Ytefmhghdehokcaa
