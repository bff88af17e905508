/- EulerG in one text. -/
import Derived.Test.YtieophdbhnpncaaMp14

/- The plane graph of a square of ten by ten cells: cells, the edges between neighbors, the squares of four cells with the world outside; what a set of cells makes of it. -/
namespace Go.Proofs.Ytieophdbhnpncaa.Euler
set_option linter.unusedVariables false

/-- in whichever order the edges are laid: what joins in the one graph and what joins in the other one. -/
theorem order_le {np nd m : Nat} {E D : Nat → Nat × Nat} (hE : ∀ k, k < m → (E k).1 < np ∧ (E k).2 < np) (hD : ∀ k, k < m → (D k).1 < nd ∧ (D k).2 < nd)
    (hL : ∀ v, v < np → ∀ f, f < nd → odd m (fun k => inc (E k) v && inc (D k) f) = false) (R2 : List Nat) (h2 : ∀ k, k ∈ R2 → k < m) :
    ∀ (R1 X : List Nat), (∀ k, k ∈ R1 → k < m) → (∀ k, k ∈ X → k < m) → (∀ k, k < m → k ∈ R1 ∨ k ∈ R2 ∨ k ∈ X) →
    live (R2.map E) np + live (X.map D) nd ≤ live ((R1 ++ R2).map E) np + live ((R1.reverse ++ X).map D) nd + R1.length
  | [], X, _, _, _ => by simp
  | e :: R1, X, h1, hX, hall => by
    have he : e < m := h1 e (by simp)
    have ih := order_le hE hD hL R2 h2 R1 (e :: X) (fun k hk => h1 k (by simp [hk])) (fun k hk => by rcases List.mem_cons.1 hk with rfl | q; exact he; exact hX k q)
      (fun k hk => by
        rcases hall k hk with q | q | q
        · rcases List.mem_cons.1 q with rfl | q
          · exact .inr (.inr (by simp))
          · exact .inl q
        · exact .inr (.inl q)
        · exact .inr (.inr (by simp [q])))
    have a := live_cons ((R1 ++ R2).map E) (E e) np (fun d hd => by
      obtain ⟨k, hk, rfl⟩ := List.mem_map.1 hd
      rcases List.mem_append.1 hk with q | q
      · exact hE k (h1 k (by simp [q]))
      · exact hE k (h2 k q)) (hE e he).2
    have b := live_cons (X.map D) (D e) nd (fun d hd => by
      obtain ⟨k, hk, rfl⟩ := List.mem_map.1 hd
      exact hD k (hX k hk)) (hD e he).2
    have c : lab (X.map D) (D e).1 ≠ lab (X.map D) (D e).2 → lab ((R1 ++ R2).map E) (E e).1 = lab ((R1 ++ R2).map E) (E e).2 :=
      across hE hD hL he (fun k hk => by
        rcases hall k hk with q | q | q
        · rcases List.mem_cons.1 q with rfl | q
          · exact .inl rfl
          · exact .inr (.inl (by simp [q]))
        · exact .inr (.inl (by simp [q]))
        · exact .inr (.inr q))
    rw [List.map_cons] at ih
    rw [List.reverse_cons, List.append_assoc, List.singleton_append, List.cons_append, List.map_cons, List.length_cons]
    by_cases q : lab (X.map D) (D e).1 = lab (X.map D) (D e).2
    · rw [if_pos q] at b
      split at a <;> omega
    · rw [if_neg q] at b
      rw [if_pos (c q)] at a
      omega
/-- the count of what lives on both sides. -/
theorem plane {np nd m : Nat} {E D : Nat → Nat × Nat} (hE : ∀ k, k < m → (E k).1 < np ∧ (E k).2 < np) (hD : ∀ k, k < m → (D k).1 < nd ∧ (D k).2 < nd)
    (hL : ∀ v, v < np → ∀ f, f < nd → odd m (fun k => inc (E k) v && inc (D k) f) = false) (hm : np + nd = m + 2)
    (hP1 : ∀ L : List Nat, (∀ k, k ∈ L → k < m) → (∀ k, k < m → k ∈ L) → live (L.map E) np = 1) (hD1 : ∀ L : List Nat, (∀ k, k ∈ L → k < m) → (∀ k, k < m → k ∈ L) → live (L.map D) nd = 1)
    (R O : List Nat) (hR : ∀ k, k ∈ R → k < m) (hO : ∀ k, k ∈ O → k < m) (hall : ∀ k, k < m → k ∈ R ∨ k ∈ O) (hlen : R.length + O.length = m) :
    live (O.reverse.map D) nd + np = live (R.map E) np + R.length + 1 := by
  have a := order_le hE hD hL [] (by simp) R O.reverse hR (by simpa using hO) (fun k hk => by rcases hall k hk with q | q; exact .inl q; exact .inr (.inr (by simpa using q)))
  have b := order_le hE hD hL R hR O [] hO (by simp) (fun k hk => by rcases hall k hk with q | q; exact .inr (.inl q); exact .inl q)
  rw [List.map_nil, live_nil, List.append_nil, hD1 (R.reverse ++ O.reverse) (fun k hk => by
    rcases List.mem_append.1 hk with q | q
    · exact hR k (by simpa using q)
    · exact hO k (by simpa using q)) (fun k hk => by rcases hall k hk with q | q <;> simp [q])] at a
  rw [List.map_nil, live_nil, List.append_nil, hP1 (O ++ R) (fun k hk => by
    rcases List.mem_append.1 hk with q | q
    · exact hO k q
    · exact hR k q) (fun k hk => by rcases hall k hk with q | q <;> simp [q])] at b
  omega

/-- the edges between neighbors in a square of ten by ten. -/
def gE (k : Nat) : Nat × Nat := if k < 90 then (10 * (k / 9) + k % 9, 10 * (k / 9) + k % 9 + 1) else (10 * ((k - 90) / 10) + (k - 90) % 10, 10 * ((k - 90) / 10) + (k - 90) % 10 + 10)
/-- the squares of four on both sides of an edge; 81 is the world outside. -/
def gD (k : Nat) : Nat × Nat :=
  if k < 90 then (if k / 9 = 0 then 81 else 9 * (k / 9 - 1) + k % 9, if k / 9 = 9 then 81 else 9 * (k / 9) + k % 9)
  else (if (k - 90) % 10 = 0 then 81 else 9 * ((k - 90) / 10) + (k - 90) % 10 - 1, if (k - 90) % 10 = 9 then 81 else 9 * ((k - 90) / 10) + (k - 90) % 10)
/-- the edges of a cell, of a square, as bits. -/
def mV (v : Nat) : Nat := (if v % 10 = 0 then 0 else 2 ^ (9 * (v / 10) + v % 10 - 1)) + (if v % 10 = 9 then 0 else 2 ^ (9 * (v / 10) + v % 10)) + (if v / 10 = 0 then 0 else 2 ^ (90 + v - 10)) + (if v / 10 = 9 then 0 else 2 ^ (90 + v))
def mF (f : Nat) : Nat := if f = 81 then 768494831343304970027206281091871523954081699498820095 else 2 ^ f + 2 ^ (f + 9) + 2 ^ (90 + 10 * (f / 9) + f % 9) + 2 ^ (90 + 10 * (f / 9) + f % 9 + 1)
theorem gE_lt : ∀ k, k < 180 → (gE k).1 < 100 ∧ (gE k).2 < 100 := by decide +kernel
theorem gD_lt : ∀ k, k < 180 → (gD k).1 < 82 ∧ (gD k).2 < 82 := by decide +kernel
theorem mV_bits : ∀ v, v < 100 → ∀ k, k < 180 → inc (gE k) v = (mV v).testBit k := by decide +kernel
theorem mF_bits : ∀ f, f < 82 → ∀ k, k < 180 → inc (gD k) f = (mF f).testBit k := by decide +kernel
theorem m_even : ∀ v, v < 100 → ∀ f, f < 82 → mV v &&& mF f = 0 ∨ odd 180 (fun k => (mV v &&& mF f).testBit k) = false := by decide +kernel
theorem g_even (v : Nat) (hv : v < 100) (f : Nat) (hf : f < 82) : odd 180 (fun k => inc (gE k) v && inc (gD k) f) = false := by
  rw [odd_same 180 (g := fun k => (mV v &&& mF f).testBit k) (fun k hk => by rw [mV_bits v hv k hk, mF_bits f hf k hk, Nat.testBit_and])]
  rcases m_even v hv f hf with h | h
  · rw [h, odd_same 180 (g := fun _ => false) (fun k _ => Nat.zero_testBit k), odd_false]
  · exact h
theorem gE_back : ∀ v, v < 100 → v = 0 ∨ ∃ k, k < 180 ∧ (gE k).2 = v ∧ (gE k).1 < v := by
  intro v hv
  by_cases h0 : v = 0
  · exact .inl h0
  · right
    by_cases hx : v % 10 = 0
    · refine ⟨90 + v - 10, by omega, ?_, ?_⟩ <;> (unfold gE; rw [if_neg (by omega)]; show _; simp only []; omega)
    · refine ⟨9 * (v / 10) + v % 10 - 1, by omega, ?_, ?_⟩ <;> (unfold gE; rw [if_pos (by omega)]; simp only []; omega)
theorem gE_all (f : Nat → Nat) (h : ∀ k, k < 180 → f (gE k).1 = f (gE k).2) : ∀ v, v < 100 → f v = f 0 := by
  intro v
  induction v using Nat.strongRecOn with
  | ind v ih =>
    intro hv
    rcases gE_back v hv with rfl | ⟨k, hk, h2, h1⟩
    · rfl
    · rw [← h2, ← h k hk]; exact ih _ h1 (by omega)
theorem gD_back : ∀ s, s < 81 → ∃ k, k < 180 ∧ (gD k).2 = s ∧ ((gD k).1 = 81 ∨ (gD k).1 < s) := by decide +kernel
theorem gD_all (f : Nat → Nat) (h : ∀ k, k < 180 → f (gD k).1 = f (gD k).2) : ∀ s, s < 82 → f s = f 81 := by
  intro s
  induction s using Nat.strongRecOn with
  | ind s ih =>
    intro hs
    by_cases e : s = 81
    · rw [e]
    · obtain ⟨k, hk, h2, h1⟩ := gD_back s (by omega)
      rw [← h2, ← h k hk]
      rcases h1 with h1 | h1
      · rw [h1]
      · exact ih _ h1 (by omega)
theorem gE_one (L : List Nat) (hl : ∀ k, k ∈ L → k < 180) (h : ∀ k, k < 180 → k ∈ L) : live (L.map gE) 100 = 1 :=
  live_one (by omega) (fun d hd => by obtain ⟨k, hk, rfl⟩ := List.mem_map.1 hd; exact gE_lt k (hl k hk)) (gE_all _ (fun k hk => lab_edge _ _ (List.mem_map_of_mem (h k hk))))
theorem gD_one (L : List Nat) (hl : ∀ k, k ∈ L → k < 180) (h : ∀ k, k < 180 → k ∈ L) : live (L.map gD) 82 = 1 := by
  have q := gD_all _ (fun k hk => lab_edge (L.map gD) _ (List.mem_map_of_mem (h k hk)))
  exact live_one (by omega) (fun d hd => by obtain ⟨k, hk, rfl⟩ := List.mem_map.1 hd; exact gD_lt k (hl k hk)) (fun v hv => (q v hv).trans (q 0 (by omega)).symm)
/-- the edges inside a set of cells, and the others. -/
def inR (c : Nat → Bool) (k : Nat) : Bool := c (gE k).1 && c (gE k).2
def eR (c : Nat → Bool) : List Nat := (List.range 180).filter (inR c)
def eO (c : Nat → Bool) : List Nat := (List.range 180).filter (fun k => !inR c k)
theorem filter_len (p : Nat → Bool) : ∀ l : List Nat, (l.filter p).length + (l.filter (fun k => !p k)).length = l.length
  | [] => rfl
  | a :: l => by
    have ih := filter_len p l
    simp only [List.filter_cons]
    cases p a <;> simp <;> omega
/-- for every set of cells in the square. -/
theorem grid (c : Nat → Bool) : live ((eO c).reverse.map gD) 82 + 100 = live ((eR c).map gE) 100 + (eR c).length + 1 := by
  refine plane gE_lt gD_lt g_even rfl gE_one gD_one (eR c) (eO c) ?_ ?_ ?_ ?_
  · intro k hk; exact List.mem_range.1 (List.mem_filter.1 hk).1
  · intro k hk; exact List.mem_range.1 (List.mem_filter.1 hk).1
  · intro k hk
    cases h : inR c k
    · exact .inr (List.mem_filter.2 ⟨List.mem_range.2 hk, by simp [h]⟩)
    · exact .inl (List.mem_filter.2 ⟨List.mem_range.2 hk, h⟩)
  · have := filter_len (inR c) (List.range 180)
    rw [List.length_range] at this
    exact this
end Go.Proofs.Ytieophdbhnpncaa.Euler
