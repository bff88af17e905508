/- The same count, cell by cell, as a program adds it up. -/
import Derived.Test.YtocjnplbjdpieaaEulerC
namespace Go.Proofs.Ytocjnplbjdpieaa.Euler
set_option linter.unusedVariables false

theorem cnt_add (p : Nat → Bool) (n : Nat) : ∀ m, cnt (n + m) p = cnt n p + cnt m (fun v => p (n + v))
  | 0 => rfl
  | m + 1 => by rw [← Nat.add_assoc]; simp only [cnt]; rw [cnt_add p n m]; omega
theorem cnt_two (p q : Nat → Bool) (n m : Nat) : cnt (n + m) (fun w => if w < n then p w else q (w - n)) = cnt n p + cnt m q := by
  rw [cnt_add]
  have a : cnt n (fun w => if w < n then p w else q (w - n)) = cnt n p := cnt_same n (fun v hv => by simp only [hv, if_true])
  have b : cnt m (fun v => if n + v < n then p (n + v) else q (n + v - n)) = cnt m q := cnt_same m (fun v hv => by
    rw [if_neg (by omega), show n + v - n = v by omega])
  rw [a]
  exact congrArg (cnt n p + ·) b
theorem filter_cnt (p : Nat → Bool) : ∀ n, ((List.range n).filter p).length = cnt n p
  | 0 => rfl
  | n + 1 => by
    rw [List.range_succ, List.filter_append, List.length_append, filter_cnt p n]
    simp only [cnt, List.filter_cons, List.filter_nil]
    cases p n <;> rfl
/-- to the right, below, the square. -/
def toRight (c : Nat → Bool) (v : Nat) : Bool := c v && c (v + 1)
def toDown (c : Nat → Bool) (v : Nat) : Bool := c v && c (v + 10)
def toBoth (c : Nat → Bool) (v : Nat) : Bool := c v && (c (v + 1) && c (v + 10) && c (v + 11))
theorem no_ring {c : Nat → Bool} (hr : ∀ v, v < 100 → ring v = true → c v = false) {v : Nat} (hv : v < 100) (h : c v = true) : v % 10 ≠ 0 ∧ v % 10 ≠ 9 ∧ v / 10 ≠ 0 ∧ v / 10 ≠ 9 := by
  have : ring v = false := by
    cases k : ring v
    · rfl
    · rw [hr v hv k] at h; cases h
  unfold ring at this
  simp only [Bool.or_eq_false_iff, beq_eq_false_iff_ne, ne_eq] at this
  omega
theorem eR_count {c : Nat → Bool} (hr : ∀ v, v < 100 → ring v = true → c v = false) : (eR c).length = cnt 100 (toRight c) + cnt 100 (toDown c) := by
  have e := cnt_two (toRight c) (toDown c) 100 100
  unfold eR
  rw [filter_cnt, ← e]
  refine Nat.le_antisymm (cnt_inj _ _ _ _ (fun k => if k < 90 then (gE k).1 else 100 + (gE k).1) ?_ ?_) (cnt_inj _ _ _ _ (fun w => if w < 100 then 9 * (w / 10) + w % 10 else 90 + (w - 100)) ?_ ?_)
  · intro k hk h
    have l := gE_lt k hk
    by_cases a : k < 90
    · rw [if_pos a]
      refine ⟨by omega, ?_⟩
      rw [if_pos l.1]
      unfold inR gE at h
      rw [if_pos a] at h
      unfold toRight gE
      rw [if_pos a]
      exact h
    · rw [if_neg a]
      refine ⟨by omega, ?_⟩
      rw [if_neg (by omega), show 100 + (gE k).1 - 100 = (gE k).1 by omega]
      unfold inR gE at h
      rw [if_neg a] at h
      unfold toDown gE
      rw [if_neg a]
      exact h
  · intro k k' hk hk' _ _ e
    have l := gE_lt k hk
    have l' := gE_lt k' hk'
    by_cases a : k < 90 <;> by_cases b : k' < 90
    · rw [if_pos a, if_pos b] at e
      unfold gE at e; rw [if_pos a, if_pos b] at e; simp only at e; omega
    · rw [if_pos a, if_neg b] at e; omega
    · rw [if_neg a, if_pos b] at e; omega
    · rw [if_neg a, if_neg b] at e
      unfold gE at e; rw [if_neg a, if_neg b] at e; simp only at e; omega
  · intro w hw h
    by_cases a : w < 100
    · rw [if_pos a] at h ⊢
      unfold toRight at h
      simp only [Bool.and_eq_true] at h
      have q := no_ring hr a h.1
      refine ⟨by omega, ?_⟩
      unfold inR gE
      rw [if_pos (by omega), show 10 * ((9 * (w / 10) + w % 10) / 9) + (9 * (w / 10) + w % 10) % 9 = w by omega, h.1, h.2]; rfl
    · rw [if_neg a] at h ⊢
      unfold toDown at h
      simp only [Bool.and_eq_true] at h
      have q := no_ring hr (by omega) h.1
      refine ⟨by omega, ?_⟩
      unfold inR gE
      rw [if_neg (by omega), show 10 * ((90 + (w - 100) - 90) / 10) + (90 + (w - 100) - 90) % 10 = w - 100 by omega, h.1, h.2]; rfl
  · intro w w' hw hw' h h' e
    by_cases a : w < 100 <;> by_cases b : w' < 100
    · rw [if_pos a] at h; rw [if_pos b] at h'; rw [if_pos a, if_pos b] at e
      unfold toRight at h h'
      simp only [Bool.and_eq_true] at h h'
      have q := no_ring hr a h.1
      have q' := no_ring hr b h'.1
      omega
    · rw [if_pos a] at h; rw [if_pos a, if_neg b] at e
      unfold toRight at h
      simp only [Bool.and_eq_true] at h
      have q := no_ring hr a h.1
      omega
    · rw [if_pos b] at h'; rw [if_neg a, if_pos b] at e
      unfold toRight at h'
      simp only [Bool.and_eq_true] at h'
      have q := no_ring hr b h'.1
      omega
    · rw [if_neg a, if_neg b] at e; omega
theorem full_count {c : Nat → Bool} (hr : ∀ v, v < 100 → ring v = true → c v = false) : cnt 82 (full c) = cnt 100 (toBoth c) := by
  refine Nat.le_antisymm (cnt_inj _ _ _ _ cor ?_ ?_) (cnt_inj _ _ _ _ (fun v => 9 * (v / 10) + v % 10) ?_ ?_)
  · intro s hs h
    unfold full at h
    simp only [Bool.and_eq_true, Bool.not_eq_true', beq_eq_false_iff_ne, ne_eq] at h
    have l := t_cor s (by omega)
    refine ⟨by omega, ?_⟩
    unfold toBoth
    rw [h.2.1.1.1, h.2.1.1.2, h.2.1.2, h.2.2]; rfl
  · intro s t hs ht h h' e
    unfold full at h h'
    simp only [Bool.and_eq_true, Bool.not_eq_true', beq_eq_false_iff_ne, ne_eq] at h h'
    have l := t_cor s (by omega)
    have l' := t_cor t (by omega)
    unfold cor at e
    omega
  · intro v hv h
    unfold toBoth at h
    simp only [Bool.and_eq_true] at h
    have q := no_ring hr hv h.1
    have e : cor (9 * (v / 10) + v % 10) = v := by unfold cor; omega
    refine ⟨by omega, ?_⟩
    unfold full
    rw [e, h.1, h.2.1.1, h.2.1.2, h.2.2, beq_eq_false_iff_ne.2 (by omega)]; rfl
  · intro v v' hv hv' h h' e
    unfold toBoth at h h'
    simp only [Bool.and_eq_true] at h h'
    have q := no_ring hr hv h.1
    have q' := no_ring hr hv' h'.1
    omega
/-- cells, pairs, squares, pieces, holes. -/
theorem euler_cells {c : Nat → Bool} (hr : ∀ v, v < 100 → ring v = true → c v = false) :
    cnt 100 c + cnt 100 (toBoth c) + cnt 100 (fun v => !c v && least (h8 c) v) = cnt 100 (toRight c) + cnt 100 (toDown c) + cnt 100 (fun v => c v && least ((eR c).map gE) v) + 1 := by
  have := euler hr
  rw [eR_count hr, full_count hr] at this
  exact this
end Go.Proofs.Ytocjnplbjdpieaa.Euler
