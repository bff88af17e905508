/- EulerC, EulerN in one text. -/
import Derived.Test.YtieophdbhnpncaaMp15

/- Cells minus pairs of neighbors plus squares of four is pieces minus holes, for every set of cells in a square of eight by eight with a ring around it. -/
namespace Go.Proofs.Ytieophdbhnpncaa.Euler
set_option linter.unusedVariables false

/-- how many of n hold. -/
def cnt : Nat → (Nat → Bool) → Nat
  | 0, _ => 0
  | n + 1, p => cnt n p + (p n).toNat
theorem cnt_same : ∀ (n : Nat) {p q : Nat → Bool}, (∀ v, v < n → p v = q v) → cnt n p = cnt n q
  | 0, _, _, _ => rfl
  | n + 1, p, q, h => by simp only [cnt]; rw [cnt_same n (fun v hv => h v (by omega)), h n (by omega)]
theorem cnt_split (c : Nat → Bool) : ∀ (n : Nat) (p : Nat → Bool), cnt n p = cnt n (fun v => c v && p v) + cnt n (fun v => !c v && p v)
  | 0, _ => rfl
  | n + 1, p => by
    have e : (p n).toNat = (c n && p n).toNat + (!c n && p n).toNat := by cases c n <;> cases p n <;> rfl
    simp only [cnt]; rw [cnt_split c n p, e]; omega
theorem cnt_not (c : Nat → Bool) : ∀ n, cnt n c + cnt n (fun v => !c v) = n
  | 0 => rfl
  | n + 1 => by
    have e : (c n).toNat + (!c n).toNat = 1 := by cases c n <;> rfl
    have := cnt_not c n
    simp only [cnt]; omega
theorem cnt_less (q : Nat → Bool) (a : Nat) (hq : q a = true) : ∀ m, a < m → cnt m q = cnt m (fun w => q w && !(w == a)) + 1
  | 0, h => absurd h (by omega)
  | m + 1, h => by
    simp only [cnt]
    by_cases e : m = a
    · subst e
      rw [cnt_same m (p := q) (q := fun w => q w && !(w == m)) (fun v hv => by
        have : (v == m) = false := by simp; omega
        rw [this]; simp)]
      rw [hq, beq_self_eq_true]; rfl
    · have e0 : (q m && !(m == a)).toNat = (q m).toNat := by
        have : (m == a) = false := by simpa using e
        rw [this]; simp
      rw [cnt_less q a hq m (by omega)]
      omega
theorem cnt_inj : ∀ (n : Nat) (p : Nat → Bool) (m : Nat) (q : Nat → Bool) (f : Nat → Nat), (∀ v, v < n → p v = true → f v < m ∧ q (f v) = true) → (∀ u v, u < n → v < n → p u = true → p v = true → f u = f v → u = v) → cnt n p ≤ cnt m q
  | 0, _, _, _, _, _, _ => Nat.zero_le _
  | n + 1, p, m, q, f, h1, h2 => by
    simp only [cnt]
    cases hp : p n
    · exact cnt_inj n p m q f (fun v hv => h1 v (by omega)) (fun u v hu hv => h2 u v (by omega) (by omega))
    · rw [cnt_less q (f n) (h1 n (by omega) hp).2 m (h1 n (by omega) hp).1]
      refine Nat.succ_le_succ (cnt_inj n p m _ f (fun v hv hpv => ⟨(h1 v (by omega) hpv).1, ?_⟩) (fun u v hu hv => h2 u v (by omega) (by omega)))
      have : f v ≠ f n := fun e => by have := h2 v n (by omega) (by omega) hpv hp e; omega
      simp [(h1 v (by omega) hpv).2, this]
theorem live_cnt (es : List (Nat × Nat)) : ∀ n, live es n = cnt n (fun v => lab es v == v)
  | 0 => rfl
  | n + 1 => by
    simp only [live, cnt, live_cnt es n]
    by_cases h : lab es n = n
    · rw [if_pos h, beq_iff_eq.2 h]; rfl
    · have : (lab es n == n) = false := by simpa using h
      rw [if_neg h, this]; rfl
theorem lab_alone {es : List (Nat × Nat)} {v : Nat} (h : ∀ e, e ∈ es → e.1 ≠ v ∧ e.2 ≠ v) : lab es v = v := by
  have q := lab_keeps (fun u => u == v) es (fun e he => by
    show (e.1 == v) = (e.2 == v)
    rw [beq_eq_false_iff_ne.2 (h e he).1, beq_eq_false_iff_ne.2 (h e he).2]) v
  have q2 : (lab es v == v) = (v == v) := q
  rw [beq_self_eq_true] at q2
  exact beq_iff_eq.1 q2

/-- the ring around the square; the squares that a cell lies in (81: the world outside); the other way round. -/
def ring (v : Nat) : Bool := v % 10 == 0 || v % 10 == 9 || v / 10 == 0 || v / 10 == 9
def cor (s : Nat) : Nat := 10 * (s / 9) + s % 9
def touch (v s : Nat) : Bool := if s = 81 then ring v else v == cor s || v == cor s + 1 || v == cor s + 10 || v == cor s + 11
def phi (v : Nat) : Nat := 9 * min (v / 10) 8 + min (v % 10) 8
def full (c : Nat → Bool) (s : Nat) : Bool := !(s == 81) && (c (cor s) && c (cor s + 1) && c (cor s + 10) && c (cor s + 11))
def psi (c : Nat → Bool) (s : Nat) : Nat := if s = 81 then 0 else if c (cor s) = false then cor s else if c (cor s + 1) = false then cor s + 1 else if c (cor s + 10) = false then cor s + 10 else cor s + 11
/-- pairs of cells that touch in a side or a corner. -/
def n8 (k : Nat) : Nat × Nat := (k / 4, k / 4 + (if k % 4 = 0 then 1 else if k % 4 = 1 then 10 else if k % 4 = 2 then 11 else 9))
def ok8 (k : Nat) : Bool := if k % 4 = 0 then !(k / 4 % 10 == 9) else if k % 4 = 1 then decide (k / 4 < 90) else if k % 4 = 2 then decide (k / 4 < 90) && !(k / 4 % 10 == 9) else decide (k / 4 < 90) && !(k / 4 % 10 == 0)
def out8 (c : Nat → Bool) (k : Nat) : Bool := ok8 k && (!c (n8 k).1 && !c (n8 k).2)
def h8 (c : Nat → Bool) : List (Nat × Nat) := ((List.range 400).filter (out8 c)).map n8
def atV (v : Nat) : List (Nat × Nat) := ((List.range 180).filter (fun k => inc (gE k) v)).map gD
theorem t_around : ∀ v, v < 100 → ∀ s, s < 82 → touch v s = true → lab (atV v) s = lab (atV v) (phi v) := by decide +kernel
theorem t_sides : ∀ k, k < 180 → (touch (gE k).1 (gD k).1 && touch (gE k).1 (gD k).2 && touch (gE k).2 (gD k).1 && touch (gE k).2 (gD k).2) = true := by decide +kernel
theorem t_phi : ∀ v, v < 100 → phi v < 81 ∧ touch v (phi v) = true := by decide +kernel
theorem t_8 : ∀ k, k < 400 → ok8 k = true → ∃ s, s < 81 ∧ (touch (n8 k).1 s && touch (n8 k).2 s) = true := by decide +kernel
theorem n8_lt : ∀ k, k < 400 → ok8 k = true → (n8 k).1 < 100 ∧ (n8 k).2 < 100 := by decide +kernel
theorem t_ring : ∀ p, p < 100 → ring p = true → p = 0 ∨ ∃ k, k < 400 ∧ (ok8 k && ring (n8 k).1 && ring (n8 k).2) = true ∧ (n8 k).2 = p ∧ (n8 k).1 < p := by decide +kernel
theorem t_cor : ∀ s, s < 81 → cor s + 11 < 100 ∧ cor s % 10 ≠ 9 := by decide +kernel
theorem h8_same {c : Nat → Bool} {k : Nat} (hk : k < 400) (ho : ok8 k = true) (h1 : c (n8 k).1 = false) (h2 : c (n8 k).2 = false) : lab (h8 c) (n8 k).1 = lab (h8 c) (n8 k).2 :=
  lab_edge _ _ (List.mem_map_of_mem (List.mem_filter.2 ⟨List.mem_range.2 hk, by simp [out8, ho, h1, h2]⟩))
theorem h8_ends {c : Nat → Bool} {e : Nat × Nat} (h : e ∈ h8 c) : ∃ k, k < 400 ∧ ok8 k = true ∧ n8 k = e ∧ c e.1 = false ∧ c e.2 = false := by
  obtain ⟨k, hk, rfl⟩ := List.mem_map.1 h
  obtain ⟨h1, h2⟩ := List.mem_filter.1 hk
  simp only [out8, Bool.and_eq_true, Bool.not_eq_true'] at h2
  exact ⟨k, List.mem_range.1 h1, h2.1, rfl, h2.2.1, h2.2.2⟩
theorem side {c : Nat → Bool} {v : Nat} (hv : v < 100) (h9 : v % 10 ≠ 9) (h1 : c v = false) (h2 : c (v + 1) = false) : lab (h8 c) v = lab (h8 c) (v + 1) := by
  have e : n8 (4 * v) = (v, v + 1) := by unfold n8; rw [if_pos (by omega), show 4 * v / 4 = v by omega]
  have := h8_same (c := c) (k := 4 * v) (by omega) (by unfold ok8; rw [if_pos (by omega), show 4 * v / 4 = v by omega]; simpa using h9) (by rw [e]; exact h1) (by rw [e]; exact h2)
  rwa [e] at this
theorem below8 {c : Nat → Bool} {v : Nat} (hv : v < 90) (h1 : c v = false) (h2 : c (v + 10) = false) : lab (h8 c) v = lab (h8 c) (v + 10) := by
  have e : n8 (4 * v + 1) = (v, v + 10) := by unfold n8; rw [if_neg (by omega), if_pos (by omega), show (4 * v + 1) / 4 = v by omega]
  have := h8_same (c := c) (k := 4 * v + 1) (by omega) (by unfold ok8; rw [if_neg (by omega), if_pos (by omega), show (4 * v + 1) / 4 = v by omega]; simpa using hv) (by rw [e]; exact h1) (by rw [e]; exact h2)
  rwa [e] at this
theorem down8 {c : Nat → Bool} {v : Nat} (hv : v < 90) (h9 : v % 10 ≠ 9) (h1 : c v = false) (h2 : c (v + 11) = false) : lab (h8 c) v = lab (h8 c) (v + 11) := by
  have e : n8 (4 * v + 2) = (v, v + 11) := by unfold n8; rw [if_neg (by omega), if_neg (by omega), if_pos (by omega), show (4 * v + 2) / 4 = v by omega]
  have := h8_same (c := c) (k := 4 * v + 2) (by omega) (by unfold ok8; rw [if_neg (by omega), if_neg (by omega), if_pos (by omega), show (4 * v + 2) / 4 = v by omega]; simp [hv, h9]) (by rw [e]; exact h1) (by rw [e]; exact h2)
  rwa [e] at this
theorem back8 {c : Nat → Bool} {v : Nat} (hv : v < 90) (h9 : v % 10 ≠ 0) (h1 : c v = false) (h2 : c (v + 9) = false) : lab (h8 c) v = lab (h8 c) (v + 9) := by
  have e : n8 (4 * v + 3) = (v, v + 9) := by unfold n8; rw [if_neg (by omega), if_neg (by omega), if_neg (by omega), show (4 * v + 3) / 4 = v by omega]
  have := h8_same (c := c) (k := 4 * v + 3) (by omega) (by unfold ok8; rw [if_neg (by omega), if_neg (by omega), if_neg (by omega), show (4 * v + 3) / 4 = v by omega]; simp [hv, h9]) (by rw [e]; exact h1) (by rw [e]; exact h2)
  rwa [e] at this
theorem ring_same {c : Nat → Bool} (hr : ∀ v, v < 100 → ring v = true → c v = false) : ∀ p, p < 100 → ring p = true → lab (h8 c) p = lab (h8 c) 0 := by
  intro p
  induction p using Nat.strongRecOn with
  | ind p ih =>
    intro hp hpr
    rcases t_ring p hp hpr with rfl | ⟨k, hk, h, h2, h1⟩
    · rfl
    · simp only [Bool.and_eq_true] at h
      have l := n8_lt k hk h.1.1
      rw [← h2, ← h8_same hk h.1.1 (hr _ l.1 h.1.2) (hr _ l.2 h.2)]
      exact ih _ h1 l.1 h.1.2
theorem four {v s : Nat} (hs : s < 81) (h : touch v s = true) : v = cor s ∨ v = cor s + 1 ∨ v = cor s + 10 ∨ v = cor s + 11 := by
  unfold touch at h
  rw [if_neg (by omega)] at h
  simpa [or_assoc] using h
theorem corners {c : Nat → Bool} {s p q : Nat} (hs : s < 81) (hp : touch p s = true) (hq : touch q s = true) (h1 : c p = false) (h2 : c q = false) : lab (h8 c) p = lab (h8 c) q := by
  obtain ⟨l1, l2⟩ := t_cor s hs
  generalize hd : cor s = d at l1 l2
  have a := four hs hp
  have b := four hs hq
  rw [hd] at a b
  have e1 : ∀ h1 h2, lab (h8 c) d = lab (h8 c) (d + 1) := fun h1 h2 => side (c := c) (v := d) (by omega) l2 h1 h2
  have e2 : ∀ h1 h2, lab (h8 c) d = lab (h8 c) (d + 10) := fun h1 h2 => below8 (c := c) (v := d) (by omega) h1 h2
  have e3 : ∀ h1 h2, lab (h8 c) d = lab (h8 c) (d + 11) := fun h1 h2 => down8 (c := c) (v := d) (by omega) l2 h1 h2
  have e4 : ∀ h1 h2, lab (h8 c) (d + 1) = lab (h8 c) (d + 10) := fun h1 h2 => back8 (c := c) (v := d + 1) (by omega) (by omega) h1 h2
  have e5 : ∀ h1 h2, lab (h8 c) (d + 1) = lab (h8 c) (d + 11) := fun h1 h2 => below8 (c := c) (v := d + 1) (by omega) h1 h2
  have e6 : ∀ h1 h2, lab (h8 c) (d + 10) = lab (h8 c) (d + 11) := fun h1 h2 => side (c := c) (v := d + 10) (by omega) (by omega) h1 h2
  rcases a with rfl | rfl | rfl | rfl <;> rcases b with rfl | rfl | rfl | rfl <;>
    first | rfl | exact e1 h1 h2 | exact e2 h1 h2 | exact e3 h1 h2 | exact e4 h1 h2 | exact e5 h1 h2 | exact e6 h1 h2 | exact (e1 h2 h1).symm | exact (e2 h2 h1).symm | exact (e3 h2 h1).symm | exact (e4 h2 h1).symm | exact (e5 h2 h1).symm | exact (e6 h2 h1).symm
theorem psi_is {c : Nat → Bool} (h0 : c 0 = false) {s : Nat} (hs : s < 82) (hf : full c s = false) : psi c s < 100 ∧ touch (psi c s) s = true ∧ c (psi c s) = false := by
  unfold psi
  by_cases e : s = 81
  · subst e; rw [if_pos rfl]; exact ⟨by omega, rfl, h0⟩
  · rw [if_neg e]
    have hs' : s < 81 := by omega
    obtain ⟨l1, _⟩ := t_cor s hs'
    unfold full at hf
    have e0 : (s == 81) = false := by simpa using e
    rw [e0] at hf
    unfold touch
    rw [if_neg e]
    by_cases a : c (cor s) = false
    · rw [if_pos a]; exact ⟨by omega, by simp, a⟩
    · rw [if_neg a]
      by_cases b : c (cor s + 1) = false
      · rw [if_pos b]; exact ⟨by omega, by simp, b⟩
      · rw [if_neg b]
        by_cases d : c (cor s + 10) = false
        · rw [if_pos d]; exact ⟨by omega, by simp, d⟩
        · rw [if_neg d]
          simp only [Bool.not_eq_false] at a b d
          rw [a, b, d] at hf
          exact ⟨by omega, by simp, by simpa using hf⟩
theorem not_full {c : Nat → Bool} {v s : Nat} (hs : s < 82) (h : touch v s = true) (hv : c v = false) : full c s = false := by
  unfold full
  by_cases e : s = 81
  · subst e; rfl
  · rcases four (by omega) h with q | q | q | q <;> (rw [q] at hv; simp [hv])
/-- a cell that does not belong is joined with the squares that it lies in. -/
theorem around {c : Nat → Bool} {v s : Nat} (hv : v < 100) (hs : s < 82) (h : touch v s = true) (hc : c v = false) : lab ((eO c).reverse.map gD) s = lab ((eO c).reverse.map gD) (phi v) := by
  have k := lab_keeps (lab ((eO c).reverse.map gD)) (atV v) (fun e he => by
    obtain ⟨k, hk, rfl⟩ := List.mem_map.1 he
    obtain ⟨h1, h2⟩ := List.mem_filter.1 hk
    refine lab_edge _ _ (List.mem_map_of_mem (List.mem_reverse.2 (List.mem_filter.2 ⟨h1, ?_⟩)))
    unfold inR
    unfold inc at h2
    by_cases a : v = (gE k).1
    · rw [← a, hc]; rfl
    · have a' : (v == (gE k).1) = false := by simpa using a
      rw [a'] at h2
      have b : v = (gE k).2 := by simpa using h2
      rw [← b, hc]; simp)
  rw [← k s, ← k (phi v), t_around v hv s hs h]
theorem eO_ends {c : Nat → Bool} {e : Nat × Nat} (h : e ∈ (eO c).reverse.map gD) : ∃ k p, k < 180 ∧ gD k = e ∧ p < 100 ∧ c p = false ∧ touch p e.1 = true ∧ touch p e.2 = true := by
  obtain ⟨k, hk, rfl⟩ := List.mem_map.1 h
  obtain ⟨h1, h2⟩ := List.mem_filter.1 (List.mem_reverse.1 hk)
  have hk := List.mem_range.1 h1
  have t := t_sides k hk
  simp only [Bool.and_eq_true] at t
  unfold inR at h2
  cases a : c (gE k).1
  · exact ⟨k, _, hk, rfl, (gE_lt k hk).1, a, t.1.1.1, t.1.1.2⟩
  · rw [a] at h2
    exact ⟨k, _, hk, rfl, (gE_lt k hk).2, by simpa using h2, t.1.2, t.2⟩
theorem psi_same {c : Nat → Bool} (hr : ∀ v, v < 100 → ring v = true → c v = false) {p s : Nat} (hp : p < 100) (hs : s < 82) (h : touch p s = true) (hc : c p = false) : lab (h8 c) (psi c s) = lab (h8 c) p := by
  obtain ⟨l, t, k⟩ := psi_is (hr 0 (by omega) rfl) hs (not_full hs h hc)
  by_cases e : s = 81
  · subst e
    exact (show lab (h8 c) (psi c 81) = lab (h8 c) 0 from rfl).trans (ring_same hr p hp h).symm
  · exact corners (by omega) t h k hc
/-- squares that are not full, and cells that do not belong: as many labels live. -/
theorem holes_same {c : Nat → Bool} (hr : ∀ v, v < 100 → ring v = true → c v = false) : cnt 82 (fun s => !full c s && (lab ((eO c).reverse.map gD) s == s)) = cnt 100 (fun v => !c v && (lab (h8 c) v == v)) := by
  have hD : ∀ d, d ∈ (eO c).reverse.map gD → d.1 < 82 ∧ d.2 < 82 := fun d hd => by obtain ⟨k, _, hk, rfl, _⟩ := eO_ends hd; exact gD_lt k hk
  have h8l : ∀ d, d ∈ h8 c → d.1 < 100 ∧ d.2 < 100 := fun d hd => by obtain ⟨k, hk, ho, rfl, _⟩ := h8_ends hd; exact n8_lt k hk ho
  have gpsi : ∀ s, lab (h8 c) (psi c (lab ((eO c).reverse.map gD) s)) = lab (h8 c) (psi c s) := lab_keeps (fun s => lab (h8 c) (psi c s)) _ (fun e he => by
    obtain ⟨k, p, hk, rfl, hp, hc, t1, t2⟩ := eO_ends he
    exact (psi_same hr hp (gD_lt k hk).1 t1 hc).trans (psi_same hr hp (gD_lt k hk).2 t2 hc).symm)
  have gphi : ∀ v, lab ((eO c).reverse.map gD) (phi (lab (h8 c) v)) = lab ((eO c).reverse.map gD) (phi v) := lab_keeps (fun v => lab ((eO c).reverse.map gD) (phi v)) _ (fun e he => by
    obtain ⟨k, hk, ho, rfl, c1, c2⟩ := h8_ends he
    obtain ⟨s, hs, t⟩ := t_8 k hk ho
    simp only [Bool.and_eq_true] at t
    have l := n8_lt k hk ho
    exact (around l.1 (by omega) t.1 c1).symm.trans (around l.2 (by omega) t.2 c2))
  have kc : ∀ v, c (lab (h8 c) v) = c v := lab_keeps c _ (fun e he => by obtain ⟨_, _, _, _, c1, c2⟩ := h8_ends he; rw [c1, c2])
  have kf : ∀ s, full c (lab ((eO c).reverse.map gD) s) = full c s := lab_keeps (full c) _ (fun e he => by
    obtain ⟨k, p, hk, rfl, hp, hc, t1, t2⟩ := eO_ends he
    rw [not_full (gD_lt k hk).1 t1 hc, not_full (gD_lt k hk).2 t2 hc])
  have h0 := hr 0 (by omega) rfl
  refine Nat.le_antisymm (cnt_inj _ _ _ _ (fun s => lab (h8 c) (psi c s)) ?_ ?_) (cnt_inj _ _ _ _ (fun v => lab ((eO c).reverse.map gD) (phi v)) ?_ ?_)
  · intro s hs h
    simp only [Bool.and_eq_true, Bool.not_eq_true'] at h
    obtain ⟨l, t, k⟩ := psi_is h0 hs h.1
    exact ⟨lab_lt _ 100 h8l _ l, by rw [kc, k, lab_lab, beq_self_eq_true]; rfl⟩
  · intro s t hs ht h1 h2 e
    simp only [Bool.and_eq_true, Bool.not_eq_true', beq_iff_eq] at h1 h2 e
    obtain ⟨l, t1, k⟩ := psi_is h0 hs h1.1
    obtain ⟨l', t2, k'⟩ := psi_is h0 ht h2.1
    have a := around l hs t1 k
    have b := around l' ht t2 k'
    rw [← gphi, e, gphi, ← b, h1.2, h2.2] at a
    exact a
  · intro v hv h
    simp only [Bool.and_eq_true, Bool.not_eq_true'] at h
    obtain ⟨l, t⟩ := t_phi v hv
    exact ⟨lab_lt _ 82 hD _ (by omega), by rw [kf, lab_lab, not_full (by omega) t h.1, beq_self_eq_true]; rfl⟩
  · intro u v hu hv h1 h2 e
    simp only [Bool.and_eq_true, Bool.not_eq_true', beq_iff_eq] at h1 h2 e
    obtain ⟨l, t1⟩ := t_phi u hu
    obtain ⟨l', t2⟩ := t_phi v hv
    have a := psi_same hr hu (by omega) t1 h1.1
    have b := psi_same hr hv (by omega) t2 h2.1
    rw [← gpsi, e, gpsi, b, h1.2, h2.2] at a
    exact a.symm
/-- cells minus pairs of neighbors plus squares of four is pieces minus holes (the piece with the ring is one of the pieces outside). -/
theorem pieces_holes {c : Nat → Bool} (hr : ∀ v, v < 100 → ring v = true → c v = false) :
    cnt 100 c + cnt 82 (full c) + cnt 100 (fun v => !c v && (lab (h8 c) v == v)) = (eR c).length + cnt 100 (fun v => c v && (lab ((eR c).map gE) v == v)) + 1 := by
  have g := grid c
  rw [live_cnt, live_cnt, cnt_split (full c) 82, cnt_split c 100] at g
  rw [holes_same hr] at g
  rw [cnt_same 82 (p := fun s => full c s && (lab ((eO c).reverse.map gD) s == s)) (q := full c) (fun s hs => by
    cases h : full c s
    · rfl
    · have := lab_alone (es := (eO c).reverse.map gD) (v := s) (fun e he => by
        obtain ⟨k, p, hk, rfl, hp, hc, t1, t2⟩ := eO_ends he
        refine ⟨fun q => ?_, fun q => ?_⟩
        · rw [q] at t1; rw [not_full hs t1 hc] at h; cases h
        · rw [q] at t2; rw [not_full hs t2 hc] at h; cases h)
      rw [this, beq_self_eq_true]; rfl)] at g
  rw [cnt_same 100 (p := fun v => !c v && (lab ((eR c).map gE) v == v)) (q := fun v => !c v) (fun v hv => by
    cases h : c v
    · have := lab_alone (es := (eR c).map gE) (v := v) (fun e he => by
        obtain ⟨k, hk, rfl⟩ := List.mem_map.1 he
        have h2 := (List.mem_filter.1 hk).2
        simp only [inR, Bool.and_eq_true] at h2
        refine ⟨fun q => ?_, fun q => ?_⟩
        · rw [q, h] at h2; exact absurd h2.1 (by simp)
        · rw [q, h] at h2; exact absurd h2.2 (by simp))
      rw [this, beq_self_eq_true]; rfl
    · rfl)] at g
  have := cnt_not c 100
  omega
/-- the least of its piece. -/
def least (es : List (Nat × Nat)) (v : Nat) : Bool := (List.range v).all (fun u => !(lab es u == lab es v))
theorem least_iff {es : List (Nat × Nat)} {v : Nat} : least es v = true ↔ ∀ u, u < v → lab es u ≠ lab es v := by
  unfold least
  rw [List.all_eq_true]
  constructor
  · intro h u hu
    have := h u (List.mem_range.2 hu)
    simpa using this
  · intro h u hu
    have := h u (List.mem_range.1 hu)
    simpa using this
theorem least_ex (es : List (Nat × Nat)) (v : Nat) : ∃ u, u ≤ v ∧ lab es u = lab es v ∧ least es u = true := by
  induction v using Nat.strongRecOn with
  | ind v ih =>
    cases h : least es v
    · have : ∃ u, u < v ∧ lab es u = lab es v := by
        refine Classical.byContradiction (fun k => ?_)
        rw [least_iff.2 (fun u hu e => k ⟨u, hu, e⟩)] at h
        cases h
      obtain ⟨u, hu, e⟩ := this
      obtain ⟨z, hz, e2, e3⟩ := ih u hu
      exact ⟨z, by omega, e2.trans e, e3⟩
    · exact ⟨v, Nat.le_refl _, rfl, h⟩
/-- as many least ones as labels. -/
theorem cnt_least {es : List (Nat × Nat)} {n : Nat} {c : Nat → Bool} (hes : ∀ d, d ∈ es → d.1 < n ∧ d.2 < n) (hc : ∀ d, d ∈ es → c d.1 = c d.2) :
    cnt n (fun v => c v && least es v) = cnt n (fun v => c v && (lab es v == v)) := by
  have kc : ∀ v, c (lab es v) = c v := lab_keeps c es hc
  have H : ∀ v, ∃ u, u ≤ v ∧ lab es u = lab es v ∧ least es u = true := least_ex es
  refine Nat.le_antisymm (cnt_inj _ _ _ _ (lab es) ?_ ?_) (cnt_inj _ _ _ _ (fun v => Classical.choose (H v)) ?_ ?_)
  · intro v hv h
    simp only [Bool.and_eq_true] at h
    exact ⟨lab_lt es n hes v hv, by rw [kc, h.1, lab_lab, beq_self_eq_true]; rfl⟩
  · intro u v hu hv h1 h2 e
    simp only [Bool.and_eq_true] at h1 h2
    rcases Nat.lt_trichotomy u v with q | q | q
    · exact absurd e (least_iff.1 h2.2 u q)
    · exact q
    · exact absurd e.symm (least_iff.1 h1.2 v q)
  · intro v hv h
    obtain ⟨a, b, d⟩ := Classical.choose_spec (H v)
    simp only [Bool.and_eq_true] at h
    refine ⟨Nat.lt_of_le_of_lt a hv, ?_⟩
    have k := kc (Classical.choose (H v))
    rw [b, kc] at k
    rw [← k, h.1, d]; rfl
  · intro u v hu hv h1 h2 e
    simp only [Bool.and_eq_true, beq_iff_eq] at h1 h2 e
    obtain ⟨_, b, _⟩ := Classical.choose_spec (H u)
    obtain ⟨_, b', _⟩ := Classical.choose_spec (H v)
    rw [e, b', h1.2, h2.2] at b
    exact b.symm
/-- the count in the words of a program: pieces and holes by their least cells. -/
theorem euler {c : Nat → Bool} (hr : ∀ v, v < 100 → ring v = true → c v = false) :
    cnt 100 c + cnt 82 (full c) + cnt 100 (fun v => !c v && least (h8 c) v) = (eR c).length + cnt 100 (fun v => c v && least ((eR c).map gE) v) + 1 := by
  have h1 := cnt_least (es := h8 c) (n := 100) (c := fun v => !c v) (fun d hd => by obtain ⟨k, hk, ho, rfl, _⟩ := h8_ends hd; exact n8_lt k hk ho) (fun d hd => by obtain ⟨_, _, _, _, c1, c2⟩ := h8_ends hd; simp only [c1, c2])
  have h2 := cnt_least (es := (eR c).map gE) (n := 100) (c := c) (fun d hd => by obtain ⟨k, hk, rfl⟩ := List.mem_map.1 hd; exact gE_lt k (List.mem_range.1 (List.mem_filter.1 hk).1)) (fun d hd => by
    obtain ⟨k, hk, rfl⟩ := List.mem_map.1 hd
    have q := (List.mem_filter.1 hk).2
    simp only [inR, Bool.and_eq_true] at q
    rw [q.1, q.2])
  rw [h1, h2]
  exact pieces_holes hr
/-- a flood that has come to rest covers its piece. -/
theorem flood {es : List (Nat × Nat)} {seen : Nat → Bool} {a : Nat} (ha : seen a = true) (hin : ∀ v, seen v = true → lab es v = lab es a) (hrest : ∀ e, e ∈ es → seen e.1 = seen e.2) (v : Nat) : seen v = (lab es v == lab es a) := by
  have k := lab_keeps seen es hrest
  cases h : seen v
  · symm
    rw [beq_eq_false_iff_ne]
    intro q
    have := k v
    rw [q, k a, ha, h] at this
    cases this
  · rw [hin v h, beq_self_eq_true]
/-- one step of a flood stays in the piece. -/
theorem flood_step {es : List (Nat × Nat)} {a u v : Nat} (hu : lab es u = lab es a) (h : (u, v) ∈ es ∨ (v, u) ∈ es) : lab es v = lab es a := by
  rcases h with h | h
  · exact (lab_edge es _ h).symm.trans hu
  · exact (lab_edge es _ h).trans hu
/-- a cell of the square of eight by eight among the ten by ten, and back. -/
def io (i : Nat) : Nat := 10 * (i / 8 + 1) + (i % 8 + 1)
def oi (v : Nat) : Nat := 8 * (v / 10 - 1) + (v % 10 - 1)
theorem oi_io (i : Nat) : oi (io i) = i := by unfold oi io; omega
theorem io_oi {v : Nat} (h : ring v = false) : io (oi v) = v := by
  unfold ring at h
  simp only [Bool.or_eq_false_iff, beq_eq_false_iff_ne, ne_eq] at h
  unfold oi io; omega
theorem io_lt {i : Nat} (h : i < 64) : io i < 100 ∧ ring (io i) = false := by
  refine ⟨by unfold io; omega, ?_⟩
  unfold ring io
  simp only [Bool.or_eq_false_iff, beq_eq_false_iff_ne, ne_eq]
  omega
theorem io_mono {i j : Nat} : i < j → io i < io j := by unfold io; omega
theorem oi_lt {v : Nat} (hv : v < 100) (h : ring v = false) : oi v < 64 := by
  unfold ring at h
  simp only [Bool.or_eq_false_iff, beq_eq_false_iff_ne, ne_eq] at h
  unfold oi; omega
end Go.Proofs.Ytieophdbhnpncaa.Euler

/- The same count, cell by cell, as a program adds it up. -/
namespace Go.Proofs.Ytieophdbhnpncaa.Euler
set_option linter.unusedVariables false

theorem cnt_add (p : Nat → Bool) (n : Nat) : ∀ m, cnt (n + m) p = cnt n p + cnt m (fun v => p (n + v))
  | 0 => rfl
  | m + 1 => by rw [← Nat.add_assoc]; simp only [cnt]; rw [cnt_add p n m]; omega
theorem cnt_two (p q : Nat → Bool) (n m : Nat) : cnt (n + m) (fun w => if w < n then p w else q (w - n)) = cnt n p + cnt m q := by
  rw [cnt_add]
  have a : cnt n (fun w => if w < n then p w else q (w - n)) = cnt n p := cnt_same n (fun v hv => by simp only [hv, if_true])
  have b : cnt m (fun v => if n + v < n then p (n + v) else q (n + v - n)) = cnt m q := cnt_same m (fun v hv => by
    rw [if_neg (by omega), show n + v - n = v by omega])
  rw [a]
  exact congrArg (cnt n p + ·) b
theorem filter_cnt (p : Nat → Bool) : ∀ n, ((List.range n).filter p).length = cnt n p
  | 0 => rfl
  | n + 1 => by
    rw [List.range_succ, List.filter_append, List.length_append, filter_cnt p n]
    simp only [cnt, List.filter_cons, List.filter_nil]
    cases p n <;> rfl
/-- to the right, below, the square. -/
def toRight (c : Nat → Bool) (v : Nat) : Bool := c v && c (v + 1)
def toDown (c : Nat → Bool) (v : Nat) : Bool := c v && c (v + 10)
def toBoth (c : Nat → Bool) (v : Nat) : Bool := c v && (c (v + 1) && c (v + 10) && c (v + 11))
theorem no_ring {c : Nat → Bool} (hr : ∀ v, v < 100 → ring v = true → c v = false) {v : Nat} (hv : v < 100) (h : c v = true) : v % 10 ≠ 0 ∧ v % 10 ≠ 9 ∧ v / 10 ≠ 0 ∧ v / 10 ≠ 9 := by
  have : ring v = false := by
    cases k : ring v
    · rfl
    · rw [hr v hv k] at h; cases h
  unfold ring at this
  simp only [Bool.or_eq_false_iff, beq_eq_false_iff_ne, ne_eq] at this
  omega
theorem eR_count {c : Nat → Bool} (hr : ∀ v, v < 100 → ring v = true → c v = false) : (eR c).length = cnt 100 (toRight c) + cnt 100 (toDown c) := by
  have e := cnt_two (toRight c) (toDown c) 100 100
  unfold eR
  rw [filter_cnt, ← e]
  refine Nat.le_antisymm (cnt_inj _ _ _ _ (fun k => if k < 90 then (gE k).1 else 100 + (gE k).1) ?_ ?_) (cnt_inj _ _ _ _ (fun w => if w < 100 then 9 * (w / 10) + w % 10 else 90 + (w - 100)) ?_ ?_)
  · intro k hk h
    have l := gE_lt k hk
    by_cases a : k < 90
    · rw [if_pos a]
      refine ⟨by omega, ?_⟩
      rw [if_pos l.1]
      unfold inR gE at h
      rw [if_pos a] at h
      unfold toRight gE
      rw [if_pos a]
      exact h
    · rw [if_neg a]
      refine ⟨by omega, ?_⟩
      rw [if_neg (by omega), show 100 + (gE k).1 - 100 = (gE k).1 by omega]
      unfold inR gE at h
      rw [if_neg a] at h
      unfold toDown gE
      rw [if_neg a]
      exact h
  · intro k k' hk hk' _ _ e
    have l := gE_lt k hk
    have l' := gE_lt k' hk'
    by_cases a : k < 90 <;> by_cases b : k' < 90
    · rw [if_pos a, if_pos b] at e
      unfold gE at e; rw [if_pos a, if_pos b] at e; simp only at e; omega
    · rw [if_pos a, if_neg b] at e; omega
    · rw [if_neg a, if_pos b] at e; omega
    · rw [if_neg a, if_neg b] at e
      unfold gE at e; rw [if_neg a, if_neg b] at e; simp only at e; omega
  · intro w hw h
    by_cases a : w < 100
    · rw [if_pos a] at h ⊢
      unfold toRight at h
      simp only [Bool.and_eq_true] at h
      have q := no_ring hr a h.1
      refine ⟨by omega, ?_⟩
      unfold inR gE
      rw [if_pos (by omega), show 10 * ((9 * (w / 10) + w % 10) / 9) + (9 * (w / 10) + w % 10) % 9 = w by omega, h.1, h.2]; rfl
    · rw [if_neg a] at h ⊢
      unfold toDown at h
      simp only [Bool.and_eq_true] at h
      have q := no_ring hr (by omega) h.1
      refine ⟨by omega, ?_⟩
      unfold inR gE
      rw [if_neg (by omega), show 10 * ((90 + (w - 100) - 90) / 10) + (90 + (w - 100) - 90) % 10 = w - 100 by omega, h.1, h.2]; rfl
  · intro w w' hw hw' h h' e
    by_cases a : w < 100 <;> by_cases b : w' < 100
    · rw [if_pos a] at h; rw [if_pos b] at h'; rw [if_pos a, if_pos b] at e
      unfold toRight at h h'
      simp only [Bool.and_eq_true] at h h'
      have q := no_ring hr a h.1
      have q' := no_ring hr b h'.1
      omega
    · rw [if_pos a] at h; rw [if_pos a, if_neg b] at e
      unfold toRight at h
      simp only [Bool.and_eq_true] at h
      have q := no_ring hr a h.1
      omega
    · rw [if_pos b] at h'; rw [if_neg a, if_pos b] at e
      unfold toRight at h'
      simp only [Bool.and_eq_true] at h'
      have q := no_ring hr b h'.1
      omega
    · rw [if_neg a, if_neg b] at e; omega
theorem full_count {c : Nat → Bool} (hr : ∀ v, v < 100 → ring v = true → c v = false) : cnt 82 (full c) = cnt 100 (toBoth c) := by
  refine Nat.le_antisymm (cnt_inj _ _ _ _ cor ?_ ?_) (cnt_inj _ _ _ _ (fun v => 9 * (v / 10) + v % 10) ?_ ?_)
  · intro s hs h
    unfold full at h
    simp only [Bool.and_eq_true, Bool.not_eq_true', beq_eq_false_iff_ne, ne_eq] at h
    have l := t_cor s (by omega)
    refine ⟨by omega, ?_⟩
    unfold toBoth
    rw [h.2.1.1.1, h.2.1.1.2, h.2.1.2, h.2.2]; rfl
  · intro s t hs ht h h' e
    unfold full at h h'
    simp only [Bool.and_eq_true, Bool.not_eq_true', beq_eq_false_iff_ne, ne_eq] at h h'
    have l := t_cor s (by omega)
    have l' := t_cor t (by omega)
    unfold cor at e
    omega
  · intro v hv h
    unfold toBoth at h
    simp only [Bool.and_eq_true] at h
    have q := no_ring hr hv h.1
    have e : cor (9 * (v / 10) + v % 10) = v := by unfold cor; omega
    refine ⟨by omega, ?_⟩
    unfold full
    rw [e, h.1, h.2.1.1, h.2.1.2, h.2.2, beq_eq_false_iff_ne.2 (by omega)]; rfl
  · intro v v' hv hv' h h' e
    unfold toBoth at h h'
    simp only [Bool.and_eq_true] at h h'
    have q := no_ring hr hv h.1
    have q' := no_ring hr hv' h'.1
    omega
/-- cells, pairs, squares, pieces, holes. -/
theorem euler_cells {c : Nat → Bool} (hr : ∀ v, v < 100 → ring v = true → c v = false) :
    cnt 100 c + cnt 100 (toBoth c) + cnt 100 (fun v => !c v && least (h8 c) v) = cnt 100 (toRight c) + cnt 100 (toDown c) + cnt 100 (fun v => c v && least ((eR c).map gE) v) + 1 := by
  have := euler hr
  rw [eR_count hr, full_count hr] at this
  exact this
end Go.Proofs.Ytieophdbhnpncaa.Euler
