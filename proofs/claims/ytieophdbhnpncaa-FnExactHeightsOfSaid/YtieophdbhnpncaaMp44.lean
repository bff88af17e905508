/- WgP, Iss in one text. -/
import Derived.Test.YtieophdbhnpncaaMp00
import Derived.Test.YtieophdbhnpncaaMp21

/- Ways in a graph, pure: how far one node is from another, the search that goes on from node to node, the parts: no program here. -/
namespace Go.Proofs.Ytieophdbhnpncaa.Wg
set_option linter.unusedVariables false
set_option linter.unusedSimpArgs false

/-- a way of n steps. -/
inductive Pth (E : Nat → Nat → Prop) : Nat → Nat → Nat → Prop
  | zero (i : Nat) : Pth E 0 i i
  | step {n i j k : Nat} (h : Pth E n i j) (e : E j k) : Pth E (n + 1) i k
section
variable {E : Nat → Nat → Prop} {n m i j k : Nat}
theorem pth_trans (h : Pth E n i j) (h2 : Pth E m j k) : Pth E (n + m) i k := by
  induction h2 with
  | zero j => exact h
  | step h2 e ih => exact .step (ih h) e
theorem pth_one (e : E i j) : Pth E 1 i j := .step (.zero i) e
theorem pth_front (e : E i j) (h : Pth E n j k) : Pth E (n + 1) i k := by
  rw [Nat.add_comm]; exact pth_trans (pth_one e) h
theorem pth_rev (hs : ∀ i j, E i j → E j i) (h : Pth E n i j) : Pth E n j i := by
  induction h with
  | zero i => exact .zero i
  | step h e ih => exact pth_front (hs _ _ e) ih
theorem pth_zero (h : Pth E 0 i j) : i = j := by cases h; rfl
theorem pth_last (h : Pth E (n + 1) i k) : ∃ j, Pth E n i j ∧ E j k := by cases h with | step h e => exact ⟨_, h, e⟩
theorem pth_first : ∀ {n i k}, Pth E (n + 1) i k → ∃ j, E i j ∧ Pth E n j k := by
  intro n
  induction n with
  | zero => intro i k h; obtain ⟨j, h, e⟩ := pth_last h; have := pth_zero h; subst this; exact ⟨k, e, .zero k⟩
  | succ n ih => intro i k h; obtain ⟨j, h, e⟩ := pth_last h; obtain ⟨a, ea, ha⟩ := ih h; exact ⟨a, ea, .step ha e⟩
/-- how far: the least number of steps, or -1. -/
def IsD (E : Nat → Nat → Prop) (i j : Nat) (d : Int) : Prop := (∃ n : Nat, d = n ∧ Pth E n i j ∧ ∀ m, Pth E m i j → n ≤ m) ∨ (d = -1 ∧ ∀ m, ¬ Pth E m i j)
theorem isD_uniq {d e : Int} (h : IsD E i j d) (h2 : IsD E i j e) : d = e := by
  rcases h with ⟨n, rfl, p, l⟩ | ⟨rfl, l⟩ <;> rcases h2 with ⟨n2, rfl, p2, l2⟩ | ⟨rfl, l2⟩
  · have := l _ p2; have := l2 _ p; omega
  · exact absurd p (l2 _)
  · exact absurd p2 (l _)
  · rfl
theorem isD_rev {d : Int} (hs : ∀ i j, E i j → E j i) (h : IsD E i j d) : IsD E j i d := by
  rcases h with ⟨n, rfl, p, l⟩ | ⟨rfl, l⟩
  · exact .inl ⟨n, rfl, pth_rev hs p, fun m q => l m (pth_rev hs q)⟩
  · exact .inr ⟨rfl, fun m q => l m (pth_rev hs q)⟩
theorem isD_self : IsD E i i 0 := .inl ⟨0, rfl, .zero i, fun m _ => Nat.zero_le m⟩
theorem isD_zero (h : IsD E i j 0) : i = j := by
  rcases h with ⟨n, e, p, _⟩ | ⟨e, _⟩
  · obtain rfl : n = 0 := by omega
    exact pth_zero p
  · omega
theorem isD_ge {d : Int} (h : IsD E i j d) : -1 ≤ d := by rcases h with ⟨n, rfl, _⟩ | ⟨rfl, _⟩ <;> omega
theorem isD_one (h : IsD E i j 1) : E i j := by
  rcases h with ⟨n, e, p, _⟩ | ⟨e, _⟩
  · obtain rfl : n = 1 := by omega
    obtain ⟨a, pa, ea⟩ := pth_last p
    have := pth_zero pa; subst this; exact ea
  · omega
/-- a step on a shortest way to j. -/
theorem isD_step {d : Nat} (h : IsD E i j ((d + 1 : Nat) : Int)) : ∃ a, E i a ∧ IsD E a j (d : Int) := by
  rcases h with ⟨n, e, p, l⟩ | ⟨e, _⟩
  · obtain rfl : n = d + 1 := by omega
    obtain ⟨a, ea, pa⟩ := pth_first p
    exact ⟨a, ea, .inl ⟨d, rfl, pa, fun m q => by have := l _ (pth_front ea q); omega⟩⟩
  · omega
end

/-- a list that is changed at one place. -/
def upd (d : Nat → Int) (v : Nat) (x : Int) : Nat → Int := fun u => if u = v then x else d u
theorem upd_same (d : Nat → Int) (v : Nat) (x : Int) : upd d v x v = x := by unfold upd; rw [if_pos rfl]
theorem upd_other {d : Nat → Int} {v u : Nat} {x : Int} (h : u ≠ v) : upd d v x u = d u := by unfold upd; rw [if_neg h]
/-- neighbors by lists. -/
def Ed (ls : Nat → List Nat) (u v : Nat) : Prop := v ∈ ls u
/-- the search: q are the nodes that were found, in order; the k-th is worked at, i of its neighbors are done. -/
structure Bs (ls : Nat → List Nat) (m st : Nat) (d : Nat → Int) (q : List Nat) (k i : Nat) : Prop where
  lt : ∀ v ∈ q, v < m
  nd : q.Nodup
  mem : ∀ v, v ∈ q → ∃ n : Nat, d v = n ∧ Pth (Ed ls) n st v
  non : ∀ v, v ∉ q → d v = -1
  src : st ∈ q ∧ d st = 0
  don : ∀ a (ha : a < q.length), a < k → ∀ v ∈ ls q[a], v ∈ q ∧ d v ≤ d q[a] + 1
  cur : ∀ (h : k < q.length) b (hb : b < (ls q[k]).length), b < i → (ls q[k])[b] ∈ q ∧ d (ls q[k])[b] ≤ d q[k] + 1
  ord : ∀ a b (ha : a < q.length) (hb : b < q.length), a ≤ b → d q[a] ≤ d q[b]
  top : ∀ (h : k < q.length) a (ha : a < q.length), d q[a] ≤ d q[k] + 1
  bnd : ∀ a (ha : a < q.length), d q[a] ≤ (a : Int)
section
variable {ls : Nat → List Nat} {m st : Nat} {d : Nat → Int} {q : List Nat} {k i : Nat}
theorem Bs.start (ls : Nat → List Nat) (h : st < m) : Bs ls m st (upd (fun _ => -1) st 0) [st] 0 0 := by
  refine ⟨fun v hv => by rw [List.mem_singleton.1 hv]; exact h, by simp, fun v hv => ?_, fun v hv => ?_, ⟨by simp, upd_same _ _ _⟩, fun a ha h => by omega, fun h b hb hi => by omega, fun a b ha hb hab => ?_, fun h a ha => ?_, fun a ha => ?_⟩
  · rw [List.mem_singleton.1 hv, upd_same]; exact ⟨0, rfl, .zero st⟩
  · exact upd_other (fun e => hv (by rw [e]; simp))
  · obtain rfl : a = 0 := by simp at ha; omega
    obtain rfl : b = 0 := by simp at hb; omega
    exact Int.le_refl _
  · obtain rfl : a = 0 := by simp at ha; omega
    show _ ≤ upd (fun _ => -1) st 0 st + 1
    have e : [st][0] = st := rfl
    rw [e, upd_same]; omega
  · obtain rfl : a = 0 := by simp at ha; omega
    have e : [st][0] = st := rfl
    rw [e, upd_same]; exact Int.le_refl _
theorem Bs.length (s : Bs ls m st d q k i) : q.length ≤ m := by
  have h1 := List.Nodup.length_le_of_subset s.nd (l₂ := List.range m) (fun x hx => List.mem_range.2 (s.lt x hx))
  rw [List.length_range] at h1; exact h1
theorem Bs.found (s : Bs ls m st d q k i) {v : Nat} (h : 0 ≤ d v) : v ∈ q := by
  by_cases hv : v ∈ q
  · exact hv
  · have := s.non v hv; omega
theorem Bs.ge (s : Bs ls m st d q k i) (v : Nat) : -1 ≤ d v := by
  by_cases hv : v ∈ q
  · obtain ⟨n, e, _⟩ := s.mem v hv; omega
  · have := s.non v hv; omega
theorem Bs.skip (s : Bs ls m st d q k i) (hk : k < q.length) (hi : i < (ls q[k]).length) (h : 0 ≤ d (ls q[k])[i]) : Bs ls m st d q k (i + 1) := by
  refine ⟨s.lt, s.nd, s.mem, s.non, s.src, s.don, fun h1 b hb hbi => ?_, s.ord, s.top, s.bnd⟩
  by_cases e : b = i
  · subst e
    have hm := s.found h
    refine ⟨hm, ?_⟩
    obtain ⟨a, ha, e⟩ := List.getElem_of_mem hm
    rw [← e]
    exact s.top hk a ha
  · exact s.cur h1 b hb (by omega)
theorem Bs.add (hm : ∀ u v, v ∈ ls u → v < m) (s : Bs ls m st d q k i) (hk : k < q.length) (hi : i < (ls q[k]).length) (h : d (ls q[k])[i] < 0) : Bs ls m st (upd d (ls q[k])[i] (d q[k] + 1)) (q ++ [(ls q[k])[i]]) k (i + 1) := by
  obtain ⟨v, hv⟩ : ∃ v, v = (ls q[k])[i] := ⟨_, rfl⟩
  rw [← hv] at h ⊢
  have hvl : v ∈ ls q[k] := by rw [hv]; exact List.getElem_mem hi
  have hnq : v ∉ q := fun hq => by obtain ⟨n, e, _⟩ := s.mem v hq; omega
  have hne : ∀ u, u ∈ q → u ≠ v := fun u hu e => hnq (e ▸ hu)
  have keep : ∀ u, u ∈ q → upd d v (d q[k] + 1) u = d u := fun u hu => upd_other (hne u hu)
  have hqk : q[k] ∈ q := List.getElem_mem hk
  obtain ⟨nk, ek, pk⟩ := s.mem _ hqk
  have at_l : ∀ a (ha : a < (q ++ [v]).length) (h1 : a < q.length), (q ++ [v])[a] = q[a] := fun a ha h1 => List.getElem_append_left h1
  have at_r : ∀ a (ha : a < (q ++ [v]).length), ¬ a < q.length → (q ++ [v])[a] = v := fun a ha h1 => by
    rw [List.getElem_append_right (by omega)]; simp
  have hk2 : (q ++ [v])[k]'(by simp; omega) = q[k] := at_l k _ hk
  refine ⟨fun u hu => ?_, ?_, fun u hu => ?_, fun u hu => ?_, ⟨by simp [s.src.1], by rw [keep _ s.src.1]; exact s.src.2⟩, fun a ha hak u hu => ?_, fun h1 b hb hbi => ?_, fun a b ha hb hab => ?_, fun h1 a ha => ?_, fun a ha => ?_⟩
  · rcases List.mem_append.1 hu with h1 | h1
    · exact s.lt u h1
    · rw [List.mem_singleton.1 h1]; exact hm _ _ hvl
  · rw [List.nodup_append]
    exact ⟨s.nd, by simp, fun a ha b hb => by rw [List.mem_singleton.1 hb]; exact hne a ha⟩
  · rcases List.mem_append.1 hu with h1 | h1
    · rw [keep u h1]; exact s.mem u h1
    · rw [List.mem_singleton.1 h1, upd_same]
      exact ⟨nk + 1, by rw [ek]; omega, .step pk hvl⟩
  · rw [upd_other (fun e => hu (by rw [e]; simp))]
    exact s.non u (fun h1 => hu (List.mem_append_left _ h1))
  · have haq : a < q.length := by omega
    rw [at_l a ha haq] at hu ⊢
    obtain ⟨h1, h2⟩ := s.don a haq hak u hu
    rw [keep u h1, keep _ (List.getElem_mem haq)]
    exact ⟨List.mem_append_left _ h1, h2⟩
  · simp only [hk2] at hb ⊢
    rw [keep _ hqk]
    by_cases e : b = i
    · subst e
      rw [← hv, upd_same]
      exact ⟨by simp, Int.le_refl _⟩
    · obtain ⟨h2, h3⟩ := s.cur hk b hb (by omega)
      rw [keep _ h2]
      exact ⟨List.mem_append_left _ h2, h3⟩
  · by_cases h1 : b < q.length
    · rw [at_l a ha (by omega), at_l b hb h1, keep _ (List.getElem_mem _), keep _ (List.getElem_mem _)]
      exact s.ord a b (by omega) h1 hab
    · rw [at_r b hb h1, upd_same]
      by_cases h2 : a < q.length
      · rw [at_l a ha h2, keep _ (List.getElem_mem _)]
        exact s.top hk a h2
      · rw [at_r a ha h2, upd_same]; exact Int.le_refl _
  · rw [hk2, keep _ hqk]
    by_cases h2 : a < q.length
    · rw [at_l a ha h2, keep _ (List.getElem_mem _)]
      exact s.top hk a h2
    · rw [at_r a ha h2, upd_same]; exact Int.le_refl _
  · by_cases h2 : a < q.length
    · rw [at_l a ha h2, keep _ (List.getElem_mem _)]
      exact s.bnd a h2
    · rw [at_r a ha h2, upd_same]
      have := s.bnd k hk
      omega
theorem Bs.next (s : Bs ls m st d q k i) (hk : k < q.length) (hi : (ls q[k]).length ≤ i) : Bs ls m st d q (k + 1) 0 := by
  refine ⟨s.lt, s.nd, s.mem, s.non, s.src, fun a ha hak v hv => ?_, fun h b hb hi => by omega, s.ord, fun h a ha => ?_, s.bnd⟩
  · by_cases e : a = k
    · subst e
      obtain ⟨b, hb, rfl⟩ := List.getElem_of_mem hv
      exact s.cur hk b hb (by omega)
    · exact s.don a ha (by omega) v hv
  · have h1 := s.top hk a ha
    have h2 := s.ord k (k + 1) hk h (by omega)
    omega
theorem Bs.all (s : Bs ls m st d q k i) (hk : q.length ≤ k) : ∀ n v, Pth (Ed ls) n st v → v ∈ q ∧ d v ≤ n := by
  intro n
  induction n with
  | zero => intro v p; have := pth_zero p; subst this; exact ⟨s.src.1, by rw [s.src.2]; exact Int.le_refl _⟩
  | succ n ih =>
    intro v p
    obtain ⟨u, pu, e⟩ := pth_last p
    obtain ⟨h1, h2⟩ := ih u pu
    obtain ⟨a, ha, rfl⟩ := List.getElem_of_mem h1
    obtain ⟨h3, h4⟩ := s.don a ha (by omega) v e
    exact ⟨h3, by omega⟩
/-- at the end: how far every node is. -/
theorem Bs.fin (s : Bs ls m st d q k i) (hk : q.length ≤ k) (v : Nat) : IsD (Ed ls) st v (d v) := by
  by_cases hv : v ∈ q
  · obtain ⟨n, e, p⟩ := s.mem v hv
    exact .inl ⟨n, e, p, fun m' p' => by have := (s.all hk m' v p').2; omega⟩
  · exact .inr ⟨s.non v hv, fun m' p' => hv (s.all hk m' v p').1⟩
end

/-! The parts. -/
def Rch (E : Nat → Nat → Prop) (i j : Nat) : Prop := ∃ n, Pth E n i j
theorem Rch.refl (E : Nat → Nat → Prop) (i : Nat) : Rch E i i := ⟨0, .zero i⟩
theorem Rch.trans {E : Nat → Nat → Prop} {i j k : Nat} (h : Rch E i j) (h2 : Rch E j k) : Rch E i k := by
  obtain ⟨n, h⟩ := h; obtain ⟨m, h2⟩ := h2; exact ⟨_, pth_trans h h2⟩
theorem isD_rch {E : Nat → Nat → Prop} {i j : Nat} {d : Int} (h : IsD E i j d) : 0 ≤ d ↔ Rch E i j := by
  rcases h with ⟨n, rfl, p, _⟩ | ⟨rfl, l⟩
  · exact ⟨fun _ => ⟨n, p⟩, fun _ => by omega⟩
  · exact ⟨fun h => by omega, fun ⟨n, p⟩ => absurd p (l n)⟩
/-- the first of its part? -/
def Fst (E : Nat → Nat → Prop) (k : Nat) : Prop := ∀ j, j < k → ¬ Rch E j k
/-- so many parts. -/
def IsP (E : Nat → Nat → Prop) (m : Nat) (n : Nat) : Prop := ∃ r : Nat → Bool, (∀ k, k < m → (r k = true ↔ Fst E k)) ∧ n = ((List.range m).filter r).length
theorem isP_uniq {E : Nat → Nat → Prop} {m n n' : Nat} (h : IsP E m n) (h2 : IsP E m n') : n = n' := by
  obtain ⟨r, hr, rfl⟩ := h
  obtain ⟨r', hr', rfl⟩ := h2
  congr 1
  refine List.filter_congr fun k hk => ?_
  rw [List.mem_range] at hk
  rw [Bool.eq_iff_iff, hr k hk, hr' k hk]
theorem isP_le {E : Nat → Nat → Prop} {m n : Nat} (h : IsP E m n) : n ≤ m := by
  obtain ⟨r, hr, rfl⟩ := h
  have := List.length_filter_le r (List.range m)
  rw [List.length_range] at this; exact this
theorem isP_zero (E : Nat → Nat → Prop) : IsP E 0 0 := ⟨fun _ => false, fun k hk => by omega, rfl⟩
theorem isP_yes {E : Nat → Nat → Prop} {m n : Nat} (h : IsP E m n) (hf : Fst E m) : IsP E (m + 1) (n + 1) := by
  obtain ⟨r, hr, rfl⟩ := h
  refine ⟨fun k => if k = m then true else r k, fun k hk => ?_, ?_⟩
  · by_cases e : k = m
    · subst e; simp only [if_true]; exact ⟨fun _ => hf, fun _ => trivial⟩
    · simp only [if_neg e]; exact hr k (by omega)
  · rw [List.range_succ, List.filter_append, List.length_append]
    congr 1
    · congr 1
      refine List.filter_congr fun k hk => ?_
      rw [List.mem_range] at hk
      rw [if_neg (by omega)]
    · simp
theorem isP_no {E : Nat → Nat → Prop} {m n : Nat} (h : IsP E m n) (hf : ¬ Fst E m) : IsP E (m + 1) n := by
  obtain ⟨r, hr, rfl⟩ := h
  refine ⟨fun k => if k = m then false else r k, fun k hk => ?_, ?_⟩
  · by_cases e : k = m
    · subst e; simp only [if_true]; exact ⟨(fun h => by cases h), (fun h => absurd h hf)⟩
    · simp only [if_neg e]; exact hr k (by omega)
  · rw [List.range_succ, List.filter_append, List.length_append]
    have h0 : ((List.filter (fun k => if k = m then false else r k) [m]).length) = 0 := by simp
    rw [h0, Nat.add_zero]
    congr 1
    refine List.filter_congr fun k hk => ?_
    rw [List.mem_range] at hk
    rw [if_neg (by omega)]
theorem fst_zero (E : Nat → Nat → Prop) : Fst E 0 := fun j h => by omega
theorem isP_pos {E : Nat → Nat → Prop} {m n : Nat} (h : IsP E m n) (hm : 0 < m) : 0 < n := by
  obtain ⟨r, hr, rfl⟩ := h
  refine List.length_pos_of_mem (a := 0) (List.mem_filter.2 ⟨List.mem_range.2 hm, (hr 0 hm).2 (fst_zero E)⟩)
/-- one part: all are reached from the first one. -/
theorem isP_one {E : Nat → Nat → Prop} {m : Nat} (h : IsP E m 1) : ∀ k, k < m → Rch E 0 k := by
  obtain ⟨r, hr, hl⟩ := h
  intro k
  induction k using Nat.strongRecOn with
  | ind k ih =>
    intro hk
    by_cases h0 : k = 0
    · subst h0; exact Rch.refl E 0
    · have hrk : r k = false := by
        apply Bool.eq_false_iff.2
        intro hrk
        have h1 : [0, k].length ≤ ((List.range m).filter r).length := List.Nodup.length_le_of_subset (by simp; omega) (fun x hx => by
          simp only [List.mem_cons, List.not_mem_nil, or_false] at hx
          rcases hx with rfl | rfl
          · exact List.mem_filter.2 ⟨List.mem_range.2 (by omega), (hr 0 (by omega)).2 (fst_zero E)⟩
          · exact List.mem_filter.2 ⟨List.mem_range.2 hk, hrk⟩)
        rw [← hl] at h1
        simp at h1
      have hnf : ¬ Fst E k := fun h => by rw [(hr k hk).2 h] at hrk; cases hrk
      unfold Fst at hnf
      by_cases hex : ∃ j, j < k ∧ Rch E j k
      · obtain ⟨j, hj, hjk⟩ := hex
        exact (ih j hj (by omega)).trans hjk
      · exact absurd (fun j hj hjk => hex ⟨j, hj, hjk⟩) hnf
theorem one_isP {E : Nat → Nat → Prop} {m n : Nat} (hm : 0 < m) (h : ∀ k, k < m → Rch E 0 k) (hp : IsP E m n) : n = 1 := by
  refine isP_uniq hp ⟨fun k => decide (k = 0), fun k hk => ?_, ?_⟩
  · rw [decide_eq_true_eq]
    constructor
    · rintro rfl; exact fst_zero E
    · intro hf
      by_cases h0 : k = 0
      · exact h0
      · exact absurd (h k hk) (hf 0 (by omega))
  · obtain ⟨j, rfl⟩ : ∃ j, m = j + 1 := ⟨m - 1, by omega⟩
    rw [List.range_succ_eq_map, List.filter_cons, if_pos (by simp)]
    rw [List.length_cons, List.filter_eq_nil_iff.2 (fun x hx => by
      obtain ⟨y, _, rfl⟩ := List.mem_map.1 hx
      simp)]
    rfl
end Go.Proofs.Ytieophdbhnpncaa.Wg

/- Numbers in rows, and rows of rows of numbers: what lies there and what can be read. -/
namespace Go.Proofs.Ytieophdbhnpncaa.Wg
set_option linter.unusedVariables false
set_option linter.unusedSimpArgs false
open Go.RowKit Go.Proofs.Ytieophdbhnpncaa.Base Go.Joins
open Go.Proofs.Ytieophdbhnpncaa.Reg (own_below own_base)

/-- places as values. -/
def natV (l : List Nat) : List Value := l.map fun n : Nat => Value.int .i64 (n : Int)
theorem natV_length (l : List Nat) : (natV l).length = l.length := by unfold natV; simp
theorem natV_snoc (l : List Nat) (n : Nat) : natV (l ++ [n]) = natV l ++ [.int .i64 (n : Int)] := by unfold natV; simp
theorem natV_at {l : List Nat} {i v : Nat} (h : l[i]? = some v) : (natV l)[i]? = some (.int .i64 (v : Int)) := by unfold natV; rw [List.getElem?_map, h]; rfl
/-- n numbers in a row of one's own, by a function. -/
def rowF (n : Nat) (a : Nat → Int) : List Value := (List.range n).map fun i => Value.int .i64 (a i)
theorem rowF_length (n : Nat) (a : Nat → Int) : (rowF n a).length = n := by unfold rowF; simp
theorem rowF_at {n : Nat} {a : Nat → Int} {i : Nat} (h : i < n) : (rowF n a)[i]? = some (.int .i64 (a i)) := by unfold rowF; rw [List.getElem?_map, List.getElem?_range h]; rfl
theorem rowF_set {n : Nat} (a : Nat → Int) {i : Nat} (h : i < n) (x : Int) : (rowF n a).set i (.int .i64 x) = rowF n (upd a i x) := by
  apply List.ext_getElem?
  intro j
  by_cases hj : j < n
  · rw [List.getElem?_set, rowF_at (a := upd a i x) hj, rowF_at (a := a) hj]
    by_cases e : i = j
    · subst e; rw [if_pos rfl, if_pos (by rw [rowF_length]; exact h), upd_same]
    · rw [if_neg e, upd_other (fun q => e q.symm)]
  · rw [List.getElem?_eq_none (by rw [List.length_set, rowF_length]; omega), List.getElem?_eq_none (by rw [rowF_length]; omega)]
theorem rowF_same {n : Nat} {a b : Nat → Int} (h : ∀ i, i < n → a i = b i) : rowF n a = rowF n b := by
  unfold rowF
  refine List.map_congr_left fun i hi => ?_
  rw [h i (List.mem_range.1 hi)]
def NumR (W : World) (base b n : Nat) (a : Nat → Int) : Prop := W.ownsRow base 3 1 (.slice (some ⟨b, 0, none⟩) n n) n (rowF n a)
section
variable {W W' : World} {base b n : Nat} {a : Nat → Int}
theorem NumR.lt (h : NumR W base b n a) : base ≤ b ∧ b < W.heap.size := World.ownsRow.lt h b rfl
theorem NumR.cell (h : NumR W base b n a) {i : Nat} (hi : i < n) : W.cell? ⟨b, i, none⟩ = some (.int .i64 (a i)) := (World.ownsRow.cellAt h i (by omega)).trans (rowF_at hi)
theorem NumR.froz (h : NumR W base b n a) (i : Nat) : W.frozen? ⟨b, i, none⟩ = false := World.ownsRow.frozenAt h i
theorem NumR.set (h : NumR W base b n a) {i : Nat} (hi : i < n) (x : Int) : NumR (W.setCell ⟨b, i, none⟩ (.int .i64 x)) base b n (upd a i x) := by
  have := (World.ownsRow.stored h i (.int .i64 x)).1
  rwa [rowF_set a hi] at this
theorem NumR.same {a' : Nat → Int} (h : NumR W base b n a) (e : ∀ i, i < n → a i = a' i) : NumR W base b n a' := by unfold NumR; rw [← rowF_same e]; exact h
theorem NumR.on (h : NumR W base b n a) (hb : Below W.heap.size W W') : NumR W' base b n a := own_below h hb (Nat.le_refl _)
theorem NumR.kept {row : Option Nat} (h : NumR W base b n a) (hg : W.grownBy W' row) (hne : ∀ g, row = some g → g ≠ b) : NumR W' base b n a :=
  World.ownsRow.kept h hg (.inr (fun q => hne b q.symm rfl))
theorem NumR.made (h : W.ownsRow base 3 1 (.slice (some ⟨b, 0, none⟩) n n) n (madeCells (Value.int .i64 0).cells (n * 1)).toList) : NumR W base b n (fun _ => 0) := by
  rw [show (Value.int .i64 0).cells = #[.int .i64 0] from rfl, Nat.mul_one, toList_madeCells_one] at h
  unfold NumR rowF
  rwa [show (List.range n).map (fun i => Value.int .i64 ((fun _ => (0 : Int)) i)) = List.replicate n (.int .i64 0) by
    rw [List.map_const', List.length_range]]
end
/-- a row of places can be read. -/
def RdN (w : World) (B : Nat) (A : Option Addr) (l : List Nat) : Prop := ∃ b, (0 < l.length → A = some ⟨b, 0, none⟩ ∧ b < B) ∧ ∀ (i : Nat) (hi : i < l.length), w.cell? ⟨b, i, none⟩ = some (.int .i64 ((l[i] : Nat) : Int))
theorem RdN.below {w w' : World} {B B' : Nat} {A : Option Addr} {l : List Nat} (h : RdN w B A l) (hb : Below B' w w') (hB : B ≤ B') : RdN w' B A l := by
  obtain ⟨b, h1, h2⟩ := h
  exact ⟨b, h1, fun i hi => (hb.cell (p := ⟨b, i, none⟩) (by show b < _; have := (h1 (by omega)).2; omega)).trans (h2 i hi)⟩
theorem RdN.mono {w : World} {B B' : Nat} {A : Option Addr} {l : List Nat} (h : RdN w B A l) (hB : B ≤ B') : RdN w B' A l := by
  obtain ⟨b, h1, h2⟩ := h
  exact ⟨b, fun h0 => ⟨(h1 h0).1, by have := (h1 h0).2; omega⟩, h2⟩
theorem rdN_own {w : World} {base n cap : Nat} {A : Option Addr} {l : List Nat} (h : w.ownsRow base 3 1 (.slice A n cap) n (natV l)) : RdN w w.heap.size A l := by
  have hl : l.length = n := by have := h.1; rw [natV_length] at this; omega
  rcases h.2 with ⟨q, h0⟩ | ⟨g, cap', cur, q, hb, hg, _⟩
  · have h00 : n = 0 := h0
    exact ⟨0, fun h1 => by omega, fun i hi => by omega⟩
  · injection q with q1 _ q3
    subst q1; subst q3
    refine ⟨g, fun _ => ⟨rfl, (World.ownsRow.lt h g rfl).2⟩, fun i hi => ?_⟩
    exact (World.ownsRow.cellAt h i (by omega)).trans (natV_at (List.getElem?_eq_getElem hi))
/-- a row of rows of places can be read. -/
def RdL (w : World) (B : Nat) (A : Option Addr) (m : Nat) (ls : Nat → List Nat) : Prop :=
  ∃ b, (0 < m → A = some ⟨b, 0, none⟩ ∧ b < B) ∧ ∀ k, k < m → ∃ s c, w.cell? ⟨b, k, none⟩ = some (.slice s (ls k).length c) ∧ RdN w B s (ls k)
theorem RdL.below {w w' : World} {B B' : Nat} {A : Option Addr} {m : Nat} {ls : Nat → List Nat} (h : RdL w B A m ls) (hb : Below B' w w') (hB : B ≤ B') : RdL w' B A m ls := by
  obtain ⟨b, h1, h2⟩ := h
  refine ⟨b, h1, fun k hk => ?_⟩
  obtain ⟨s, c, e, r⟩ := h2 k hk
  exact ⟨s, c, (hb.cell (p := ⟨b, k, none⟩) (by show b < _; have := (h1 (by omega)).2; omega)).trans e, r.below hb hB⟩
theorem RdL.mono {w : World} {B B' : Nat} {A : Option Addr} {m : Nat} {ls : Nat → List Nat} (h : RdL w B A m ls) (hB : B ≤ B') : RdL w B' A m ls := by
  obtain ⟨b, h1, h2⟩ := h
  refine ⟨b, fun h0 => ⟨(h1 h0).1, by have := (h1 h0).2; omega⟩, fun k hk => ?_⟩
  obtain ⟨s, c, e, r⟩ := h2 k hk
  exact ⟨s, c, e, r.mono hB⟩
end Go.Proofs.Ytieophdbhnpncaa.Wg
