/- Plane graphs, without a program: labels of joined vertices, how many of them are alive, and that of an edge and the edge across it at most one joins. -/
namespace Go.Proofs.Ytocjnplbjdpieaa.Euler

/-- the label of a vertex behind the edges (the list's end is laid first). -/
def lab : List (Nat × Nat) → Nat → Nat
  | [], v => v
  | e :: es, v => if lab es v = lab es e.2 then lab es e.1 else lab es v
theorem lab_edge : ∀ (es : List (Nat × Nat)) (e : Nat × Nat), e ∈ es → lab es e.1 = lab es e.2
  | d :: es, e, h => by
    simp only [lab]
    rcases List.mem_cons.1 h with rfl | h
    · simp
    · rw [lab_edge es e h]
/-- what is the same along each edge is the same at the label. -/
theorem lab_keeps {α : Type} (f : Nat → α) : ∀ (es : List (Nat × Nat)), (∀ e, e ∈ es → f e.1 = f e.2) → ∀ v, f (lab es v) = f v
  | [], _, _ => rfl
  | d :: es, h, v => by
    have ih := lab_keeps f es (fun e he => h e (List.mem_cons_of_mem _ he))
    simp only [lab]
    split
    · rename_i e
      rw [ih, h d (by simp), ← ih d.2, ← e, ih]
    · exact ih v
theorem lab_lt : ∀ (es : List (Nat × Nat)) (n : Nat), (∀ e, e ∈ es → e.1 < n ∧ e.2 < n) → ∀ v, v < n → lab es v < n
  | [], _, _, _, hv => hv
  | d :: es, n, h, v, hv => by
    have ih := lab_lt es n (fun e he => h e (List.mem_cons_of_mem _ he))
    simp only [lab]
    split
    · exact ih _ (h d (by simp)).1
    · exact ih _ hv
theorem lab_lab (es : List (Nat × Nat)) (v : Nat) : lab es (lab es v) = lab es v := lab_keeps (lab es) es (lab_edge es) v
/-- how many labels are alive. -/
def live (es : List (Nat × Nat)) : Nat → Nat
  | 0 => 0
  | n + 1 => live es n + if lab es n = n then 1 else 0
theorem live_same {es es' : List (Nat × Nat)} : ∀ (n : Nat), (∀ v, v < n → (lab es v = v ↔ lab es' v = v)) → live es n = live es' n
  | 0, _ => rfl
  | n + 1, h => by
    have ih := live_same n (fun v hv => h v (by omega))
    have h1 := h n (by omega)
    simp only [live, ih]
    by_cases h2 : lab es n = n
    · rw [if_pos h2, if_pos (h1.1 h2)]
    · rw [if_neg h2, if_neg (fun k => h2 (h1.2 k))]
theorem live_nil : ∀ n, live [] n = n
  | 0 => rfl
  | n + 1 => by simp only [live, lab, live_nil n]; simp
theorem live_joined (es : List (Nat × Nat)) (e : Nat × Nat) (n : Nat) (h : lab es e.1 = lab es e.2) : live (e :: es) n = live es n := by
  refine live_same n (fun v _ => ?_)
  simp only [lab]
  split
  · rename_i k; rw [h, ← k]
  · exact Iff.rfl
/-- one label dies. -/
theorem live_less {es es' : List (Nat × Nat)} {d : Nat} (hd : lab es d = d) (h : ∀ v, (lab es' v = v ↔ lab es v = v ∧ v ≠ d)) : ∀ n, d < n → live es' n + 1 = live es n
  | 0, hn => absurd hn (by omega)
  | n + 1, hn => by
    simp only [live]
    by_cases e : d = n
    · subst e
      have h1 : live es' d = live es d := live_same d (fun v hv => ⟨fun k => ((h v).1 k).1, fun k => (h v).2 ⟨k, by omega⟩⟩)
      rw [if_pos hd, if_neg (fun k => ((h d).1 k).2 rfl), h1]
    · have ih := live_less hd h n (by omega)
      have h1 := h n
      by_cases k : lab es n = n
      · rw [if_pos k, if_pos (h1.2 ⟨k, fun q => e q.symm⟩)]; omega
      · rw [if_neg k, if_neg (fun q => k (h1.1 q).1)]; omega
theorem live_join (es : List (Nat × Nat)) (e : Nat × Nat) (n : Nat) (hes : ∀ d, d ∈ es → d.1 < n ∧ d.2 < n) (he : e.2 < n) (h : lab es e.1 ≠ lab es e.2) : live (e :: es) n + 1 = live es n := by
  refine live_less (d := lab es e.2) (lab_lab es e.2) (fun v => ?_) n (lab_lt es n hes _ he)
  simp only [lab]
  constructor
  · intro k
    split at k
    · rename_i q
      -- v is the label of e.1, and lies with e.2: no
      have h1 : lab es v = lab es e.1 := by rw [← k]; exact (lab_lab es e.1).trans rfl |>.trans (by rw [k])
      exact absurd (h1.symm.trans q) h
    · rename_i q
      refine ⟨k, fun z => q ?_⟩
      rw [z]; exact lab_lab es e.2
  · rintro ⟨k, z⟩
    split
    · rename_i q; exact absurd (k.symm.trans q) z
    · exact k
theorem live_cons (es : List (Nat × Nat)) (e : Nat × Nat) (n : Nat) (hes : ∀ d, d ∈ es → d.1 < n ∧ d.2 < n) (he : e.2 < n) : live es n = live (e :: es) n + (if lab es e.1 = lab es e.2 then 0 else 1) := by
  split
  · rename_i h; rw [live_joined es e n h]; rfl
  · rename_i h; exact (live_join es e n hes he h).symm
/-- all joined: one label lives. -/
theorem live_one {es : List (Nat × Nat)} {n : Nat} (hn : 0 < n) (hes : ∀ d, d ∈ es → d.1 < n ∧ d.2 < n) (h : ∀ v, v < n → lab es v = lab es 0) : live es n = 1 := by
  have h1 : ∀ m, m ≤ n → live es m = if lab es 0 < m then 1 else 0 := by
    intro m
    induction m with
    | zero => intro _; simp [live]
    | succ m ih =>
      intro hm
      simp only [live]
      rw [ih (by omega), h m (by omega)]
      by_cases a : lab es 0 < m
      · rw [if_pos a, if_neg (by omega), if_pos (by omega)]
      · by_cases b : lab es 0 = m
        · rw [if_neg a, if_pos b, if_pos (by omega)]
        · rw [if_neg a, if_neg b, if_neg (by omega)]
  rw [h1 n (Nat.le_refl _), if_pos (lab_lt es n hes 0 hn)]

/-- whether odd many of n hold. -/
def odd : Nat → (Nat → Bool) → Bool
  | 0, _ => false
  | n + 1, f => odd n f ^^ f n
theorem odd_same : ∀ (n : Nat) {f g : Nat → Bool}, (∀ v, v < n → f v = g v) → odd n f = odd n g
  | 0, _, _, _ => rfl
  | n + 1, f, g, h => by simp only [odd]; rw [odd_same n (fun v hv => h v (by omega)), h n (by omega)]
theorem odd_false : ∀ n, odd n (fun _ => false) = false
  | 0 => rfl
  | n + 1 => by simp only [odd, odd_false n]; rfl
theorem odd_xor : ∀ (n : Nat) (f g : Nat → Bool), odd n (fun v => f v ^^ g v) = (odd n f ^^ odd n g)
  | 0, _, _ => rfl
  | n + 1, f, g => by
    simp only [odd, odd_xor n f g]
    cases odd n f <;> cases odd n g <;> cases f n <;> cases g n <;> rfl
theorem odd_and : ∀ (n : Nat) (c : Bool) (f : Nat → Bool), odd n (fun v => c && f v) = (c && odd n f)
  | 0, c, _ => by cases c <;> rfl
  | n + 1, c, f => by simp only [odd, odd_and n c f]; cases c <;> cases odd n f <;> cases f n <;> rfl
theorem odd_one : ∀ (n : Nat) (c : Nat → Bool) (a : Nat), odd n (fun v => c v && (v == a)) = (decide (a < n) && c a)
  | 0, _, _ => by simp [odd]
  | n + 1, c, a => by
    simp only [odd, odd_one n c a]
    by_cases h : n = a
    · subst h; simp
    · have e : (n == a) = false := by simpa using h
      rw [e]
      by_cases k : a < n
      · have : a < n + 1 := by omega
        simp [k, this]
      · have : ¬ a < n + 1 := by omega
        simp [k, this]
theorem odd_swap : ∀ (n m : Nat) (h : Nat → Nat → Bool), odd n (fun v => odd m (fun k => h v k)) = odd m (fun k => odd n (fun v => h v k))
  | 0, m, h => by simp only [odd]; exact (odd_false m).symm
  | n + 1, m, h => by simp only [odd]; rw [odd_swap n m h, ← odd_xor]
/-- whether v is one of an edge's two ends, and not both. -/
def inc (e : Nat × Nat) (v : Nat) : Bool := (v == e.1) ^^ (v == e.2)
theorem odd_inc {n : Nat} (c : Nat → Bool) {e : Nat × Nat} (h1 : e.1 < n) (h2 : e.2 < n) : odd n (fun v => c v && inc e v) = (c e.1 ^^ c e.2) := by
  rw [odd_same n (g := fun v => (c v && (v == e.1)) ^^ (c v && (v == e.2))) (fun v _ => by unfold inc; cases c v <;> simp), odd_xor, odd_one, odd_one]
  simp [h1, h2]
/-- of an edge and the one across it at most one joins. -/
theorem across {np nd m : Nat} {E D : Nat → Nat × Nat} (hE : ∀ k, k < m → (E k).1 < np ∧ (E k).2 < np) (hD : ∀ k, k < m → (D k).1 < nd ∧ (D k).2 < nd)
    (hL : ∀ v, v < np → ∀ f, f < nd → odd m (fun k => inc (E k) v && inc (D k) f) = false)
    {P X : List Nat} {i : Nat} (hi : i < m) (hall : ∀ k, k < m → k = i ∨ k ∈ P ∨ k ∈ X) (hd : lab (X.map D) (D i).1 ≠ lab (X.map D) (D i).2) :
    lab (P.map E) (E i).1 = lab (P.map E) (E i).2 := by
  let cd : Nat → Bool := fun f => lab (X.map D) f == lab (X.map D) (D i).1
  let cp : Nat → Bool := fun v => lab (P.map E) v == lab (P.map E) (E i).1
  have z0 : odd m (fun k => (cd (D k).1 ^^ cd (D k).2) && (cp (E k).1 ^^ cp (E k).2)) = false := by
    rw [odd_same m (g := fun k => odd nd (fun f => odd np (fun v => cd f && (cp v && (inc (E k) v && inc (D k) f))))) (fun k hk => ?_)]
    · rw [odd_swap m nd (fun k f => odd np (fun v => cd f && (cp v && (inc (E k) v && inc (D k) f))))]
      rw [odd_same nd (g := fun _ => false) (fun f hf => ?_), odd_false]
      rw [odd_swap m np (fun k v => cd f && (cp v && (inc (E k) v && inc (D k) f)))]
      rw [odd_same np (g := fun _ => false) (fun v hv => ?_), odd_false]
      rw [odd_and, odd_and, hL v hv f hf]
      simp
    · rw [← odd_inc cd (hD k hk).1 (hD k hk).2, ← odd_inc cp (hE k hk).1 (hE k hk).2, Bool.and_comm, ← odd_and]
      refine odd_same nd (fun f _ => ?_)
      rw [Bool.and_comm, ← odd_and]
      refine odd_same np (fun v _ => ?_)
      cases cd f <;> cases cp v <;> cases inc (E k) v <;> cases inc (D k) f <;> rfl
  have z1 : odd m (fun k => (cd (D k).1 ^^ cd (D k).2) && (cp (E k).1 ^^ cp (E k).2)) = odd m (fun k => (!cp (E i).2) && (k == i)) := by
    refine odd_same m (fun k hk => ?_)
    by_cases e : k = i
    · subst e
      have e1 : cd (D k).1 = true := by simp [cd]
      have e2 : cd (D k).2 = false := by simp [cd]; exact fun q => hd q.symm
      have e3 : cp (E k).1 = true := by simp [cp]
      rw [e1, e2, e3]; simp
    · have e0 : (k == i) = false := by simpa using e
      rw [e0]
      rcases (hall k hk).resolve_left e with h | h
      · have := lab_edge (P.map E) (E k) (List.mem_map_of_mem h)
        have q : cp (E k).1 = cp (E k).2 := by simp only [cp, this]
        rw [q]; cases cp (E k).2 <;> simp
      · have := lab_edge (X.map D) (D k) (List.mem_map_of_mem h)
        have q : cd (D k).1 = cd (D k).2 := by simp only [cd, this]
        rw [q]; cases cd (D k).2 <;> simp
  rw [z0, odd_one] at z1
  simp [hi] at z1
  have : cp (E i).2 = true := by simpa using z1
  simp only [cp, beq_iff_eq] at this
  exact this.symm
end Go.Proofs.Ytocjnplbjdpieaa.Euler
