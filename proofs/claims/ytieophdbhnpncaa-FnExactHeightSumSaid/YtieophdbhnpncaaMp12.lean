/- HgtP, HgtT in one text. -/
import Derived.Test.YtieophdbhnpncaaMp03

/- Steps along the sides of the cells of a square of ten by ten: where they add up to nothing around each cell, they are the differences of one number a corner; steps around the cells of a set can be carried on over the rest if the rest is one piece, pure: no program here. -/
namespace Go.Proofs.Ytieophdbhnpncaa.Hgt
set_option linter.unusedVariables false
set_option linter.unusedSimpArgs false

/-- a number for each side: H i j to the right from the corner i, j; V i j down from it. -/
abbrev Fm := Nat → Nat → Int
def sumTo (f : Nat → Int) : Nat → Int
  | 0 => 0
  | n + 1 => sumTo f n + f n
/-- around the cell i, j. -/
def kap (H V : Fm) (i j : Nat) : Int := H i j + V (i + 1) j - H i (j + 1) - V i j
/-- one number a corner. -/
def pot (H V : Fm) (i j : Nat) : Int := sumTo (fun a => H a 0) i + sumTo (fun b => V i b) j
theorem pot_V (H V : Fm) (i j : Nat) : pot H V i (j + 1) = pot H V i j + V i j := by
  unfold pot
  show _ + (sumTo (fun b => V i b) j + V i j) = _
  omega
theorem pot_H {H V : Fm} (h : ∀ i j, i < 10 → j < 10 → kap H V i j = 0) {i : Nat} (hi : i < 10) : ∀ j, j ≤ 10 → pot H V (i + 1) j = pot H V i j + H i j
  | 0, _ => by
    unfold pot
    show sumTo (fun a => H a 0) i + H i 0 + 0 = sumTo (fun a => H a 0) i + 0 + H i 0
    omega
  | j + 1, hj => by
    have ih := pot_H h hi j (by omega)
    have hk := h i j hi (by omega)
    rw [pot_V, pot_V, ih]
    unfold kap at hk
    omega
/-- two cells side by side. -/
def nb (c d : Nat × Nat) : Prop := (c.2 = d.2 ∧ (d.1 = c.1 + 1 ∨ c.1 = d.1 + 1)) ∨ (c.1 = d.1 ∧ (d.2 = c.2 + 1 ∨ c.2 = d.2 + 1))
/-- the same but for sides between two cells of the rest. -/
def Ag (R : Nat → Nat → Bool) (H V H' V' : Fm) : Prop :=
  (∀ i j, ¬ (R i j = true ∧ R (i + 1) j = true) → V' (i + 1) j = V (i + 1) j) ∧ ∀ i j, ¬ (R i j = true ∧ R i (j + 1) = true) → H' i (j + 1) = H i (j + 1)
theorem Ag.refl (R : Nat → Nat → Bool) (H V : Fm) : Ag R H V H V := ⟨fun _ _ _ => rfl, fun _ _ _ => rfl⟩
theorem Ag.trans {R : Nat → Nat → Bool} {H V H1 V1 H2 V2 : Fm} (h : Ag R H V H1 V1) (k : Ag R H1 V1 H2 V2) : Ag R H V H2 V2 :=
  ⟨fun i j q => (k.1 i j q).trans (h.1 i j q), fun i j q => (k.2 i j q).trans (h.2 i j q)⟩
/-- one side changed. -/
def setF (F : Fm) (a b : Nat) (x : Int) : Fm := fun i j => if i = a ∧ j = b then x else F i j
theorem setF_at (F : Fm) (a b : Nat) (x : Int) : setF F a b x a b = x := if_pos ⟨rfl, rfl⟩
theorem setF_ne {F : Fm} {a b i j : Nat} {x : Int} (h : ¬ (i = a ∧ j = b)) : setF F a b x i j = F i j := if_neg h
/-- what is left at a cell is carried over to a neighbor. -/
theorem carry {R : Nat → Nat → Bool} (H V : Fm) {c d : Nat × Nat} (hn : nb c d) (hc : R c.1 c.2 = true) (hd : R d.1 d.2 = true) :
    ∃ H' V', Ag R H V H' V' ∧ kap H' V' c.1 c.2 = 0 ∧ ∀ i j, (i, j) ≠ c → (i, j) ≠ d → kap H' V' i j = kap H V i j := by
  obtain ⟨a, b⟩ := c
  obtain ⟨a', b'⟩ := d
  unfold nb at hn
  simp only at hn hc hd
  rcases hn with ⟨rfl, rfl | rfl⟩ | ⟨rfl, rfl | rfl⟩
  · -- to the right
    refine ⟨H, setF V (a + 1) b (V (a + 1) b - kap H V a b), ⟨fun i j q => setF_ne (fun e => ?_), fun _ _ _ => rfl⟩, ?_, fun i j h1 h2 => ?_⟩
    · obtain ⟨e1, rfl⟩ := e
      have : i = a := by omega
      subst this
      exact q ⟨hc, hd⟩
    · show H a b + setF V (a + 1) b _ (a + 1) b - H a (b + 1) - setF V (a + 1) b _ a b = 0
      rw [setF_at, setF_ne (by omega)]
      unfold kap
      omega
    · unfold kap
      rw [setF_ne (fun e => h1 (by rw [show i = a by omega, e.2])), setF_ne (fun e => h2 (by rw [e.1, e.2]))]
  · -- to the left
    refine ⟨H, setF V (a' + 1) b (V (a' + 1) b + kap H V (a' + 1) b), ⟨fun i j q => setF_ne (fun e => ?_), fun _ _ _ => rfl⟩, ?_, fun i j h1 h2 => ?_⟩
    · obtain ⟨e1, rfl⟩ := e
      have : i = a' := by omega
      subst this
      exact q ⟨hd, hc⟩
    · show H (a' + 1) b + setF V (a' + 1) b _ (a' + 1 + 1) b - H (a' + 1) (b + 1) - setF V (a' + 1) b _ (a' + 1) b = 0
      rw [setF_at, setF_ne (by omega)]
      unfold kap
      omega
    · unfold kap
      rw [setF_ne (fun e => h2 (by rw [show i = a' by omega, e.2])), setF_ne (fun e => h1 (by rw [e.1, e.2]))]
  · -- down
    refine ⟨setF H a (b + 1) (H a (b + 1) + kap H V a b), V, ⟨fun _ _ _ => rfl, fun i j q => setF_ne (fun e => ?_)⟩, ?_, fun i j h1 h2 => ?_⟩
    · obtain ⟨rfl, e2⟩ := e
      have : j = b := by omega
      subst this
      exact q ⟨hc, hd⟩
    · show setF H a (b + 1) _ a b + V (a + 1) b - setF H a (b + 1) _ a (b + 1) - V a b = 0
      rw [setF_at, setF_ne (by omega)]
      unfold kap
      omega
    · unfold kap
      rw [setF_ne (fun e => h2 (by rw [e.1, e.2])), setF_ne (fun e => h1 (by rw [e.1, show j = b by omega]))]
  · -- up
    refine ⟨setF H a (b' + 1) (H a (b' + 1) - kap H V a (b' + 1)), V, ⟨fun _ _ _ => rfl, fun i j q => setF_ne (fun e => ?_)⟩, ?_, fun i j h1 h2 => ?_⟩
    · obtain ⟨rfl, e2⟩ := e
      have : j = b' := by omega
      subst this
      exact q ⟨hd, hc⟩
    · show setF H a (b' + 1) _ a (b' + 1) + V (a + 1) (b' + 1) - setF H a (b' + 1) _ a (b' + 1 + 1) - V a (b' + 1) = 0
      rw [setF_at, setF_ne (by omega)]
      unfold kap
      omega
    · unfold kap
      rw [setF_ne (fun e => h1 (by rw [e.1, e.2])), setF_ne (fun e => h2 (by rw [e.1, show j = b' by omega]))]
/-- cells, each beside one behind it in the list or the first one. -/
inductive Chain (R : Nat → Nat → Bool) (p : Nat × Nat) : List (Nat × Nat) → Prop
  | nil : Chain R p []
  | cons {c : Nat × Nat} {L : List (Nat × Nat)} {d : Nat × Nat} (hL : Chain R p L) (hc : R c.1 c.2 = true) (hd : d ∈ p :: L) (hn : nb c d) (hne : c ∉ p :: L) : Chain R p (c :: L)
theorem Chain.rest {R : Nat → Nat → Bool} {p : Nat × Nat} (hp : R p.1 p.2 = true) {L : List (Nat × Nat)} (h : Chain R p L) : ∀ c ∈ p :: L, R c.1 c.2 = true := by
  induction h with
  | nil => intro c hc; rw [List.mem_singleton.1 hc]; exact hp
  | cons hL hc hd hn hne ih =>
    intro e he
    rcases List.mem_cons.1 he with rfl | he
    · exact hp
    · rcases List.mem_cons.1 he with rfl | he
      · exact hc
      · exact ih e (List.mem_cons_of_mem _ he)
/-- all of it is carried to the first one. -/
theorem Chain.clean {R : Nat → Nat → Bool} {p : Nat × Nat} (hp : R p.1 p.2 = true) {L : List (Nat × Nat)} (h : Chain R p L) : ∀ (H V : Fm), (∀ i j, i < 10 → j < 10 → (i, j) ∉ p :: L → kap H V i j = 0) →
    ∃ H' V', Ag R H V H' V' ∧ ∀ i j, i < 10 → j < 10 → (i, j) ≠ p → kap H' V' i j = 0 := by
  induction h with
  | nil => exact fun H V hk => ⟨H, V, Ag.refl R H V, fun i j hi hj hne => hk i j hi hj (fun q => hne (List.mem_singleton.1 q))⟩
  | @cons c L d hL hc hd hn hne ih =>
    intro H V hk
    obtain ⟨H1, V1, a1, a2, a3⟩ := carry H V hn hc (hL.rest hp d hd)
    obtain ⟨H2, V2, b1, b2⟩ := ih H1 V1 (fun i j hi hj hni => by
      by_cases e : (i, j) = c
      · have e1 : i = c.1 := by rw [← e]
        have e2 : j = c.2 := by rw [← e]
        rw [e1, e2]; exact a2
      · rw [a3 i j e (fun q => hni (q ▸ hd))]
        refine hk i j hi hj (fun q => ?_)
        rcases List.mem_cons.1 q with q | q
        · exact hni (q ▸ List.mem_cons_self)
        · rcases List.mem_cons.1 q with q | q
          · exact e q
          · exact hni (List.mem_cons_of_mem _ q))
    exact ⟨H2, V2, a1.trans b1, b2⟩
/-- steps that add up to nothing around each cell that is not of the rest are carried on over the rest, if it is one piece with the first cell. -/
theorem carried {R : Nat → Nat → Bool} (hp : R 0 0 = true) {L : List (Nat × Nat)} (h : Chain R (0, 0) L) (hall : ∀ i j, i < 10 → j < 10 → R i j = true → (i, j) ∈ (0, 0) :: L) (H V : Fm) (hk : ∀ i j, i < 10 → j < 10 → R i j = false → kap H V i j = 0) :
    ∃ H' V', Ag R H V H' V' ∧ ∀ i j, i < 10 → j < 10 → kap H' V' i j = 0 := by
  obtain ⟨H1, V1, a1, a2⟩ := h.clean hp H V (fun i j hi hj hn => hk i j hi hj (by
    cases q : R i j with
    | false => rfl
    | true => exact absurd (hall i j hi hj q) hn))
  refine ⟨setF H1 0 0 (H1 0 0 - kap H1 V1 0 0), V1, ⟨a1.1, fun i j q => ?_⟩, fun i j hi hj => ?_⟩
  · rw [setF_ne (by omega)]; exact a1.2 i j q
  · by_cases e : i = 0 ∧ j = 0
    · obtain ⟨rfl, rfl⟩ := e
      show setF H1 0 0 _ 0 0 + V1 (0 + 1) 0 - setF H1 0 0 _ 0 (0 + 1) - V1 0 0 = 0
      rw [setF_at, setF_ne (by omega)]
      unfold kap
      omega
    · have := a2 i j hi hj (fun q => e (by injection q with q1 q2; exact ⟨q1, q2⟩))
      unfold kap at this ⊢
      rw [setF_ne e, setF_ne (by omega)]
      exact this
/-- a list without doubles in the square. -/
theorem short (L : List (Nat × Nat)) (hn : L.Nodup) (hl : ∀ c ∈ L, c.1 < 10 ∧ c.2 < 10) : L.length ≤ 100 := by
  have h1 : (L.map fun c => 10 * c.2 + c.1).Nodup := by
    unfold List.Nodup at hn ⊢
    rw [List.pairwise_map]
    exact hn.imp_of_mem (fun {a b} ha hb hab e => hab (by
      have := hl a ha
      have := hl b hb
      exact Prod.ext (by omega) (by omega)))
  have h2 := List.Nodup.length_le_of_subset h1 (l₂ := List.range 100) (fun x hx => by
    obtain ⟨c, hc, rfl⟩ := List.mem_map.1 hx
    have := hl c hc
    exact List.mem_range.2 (by omega))
  rw [List.length_map, List.length_range] at h2
  exact h2
/-- a rest that is one piece is a list of such cells. -/
theorem chain_all {R : Nat → Nat → Bool} (hin : ∀ i j, R i j = true → i < 10 ∧ j < 10) (hp : R 0 0 = true)
    (hone : ∀ Z : Nat × Nat → Prop, Z (0, 0) → (∀ c d, Z c → R d.1 d.2 = true → nb d c → Z d) → ∀ d, R d.1 d.2 = true → Z d) :
    ∃ L, Chain R (0, 0) L ∧ ∀ i j, i < 10 → j < 10 → R i j = true → (i, j) ∈ (0, 0) :: L := by
  have key : ∀ n (L : List (Nat × Nat)), Chain R (0, 0) L → ((0, 0) :: L).Nodup → 101 ≤ n + ((0, 0) :: L).length → ∃ L, Chain R (0, 0) L ∧ ∀ i j, i < 10 → j < 10 → R i j = true → (i, j) ∈ (0, 0) :: L := by
    intro n
    induction n with
    | zero =>
      intro L hL hn hl
      have := short _ hn (fun c hc => hin _ _ (hL.rest hp c hc))
      omega
    | succ n ih =>
      intro L hL hn hl
      by_cases hcl : ∀ c d, c ∈ (0, 0) :: L → R d.1 d.2 = true → nb d c → d ∈ (0, 0) :: L
      · exact ⟨L, hL, fun i j _ _ hR => hone (fun c => c ∈ (0, 0) :: L) List.mem_cons_self hcl (i, j) hR⟩
      · have : ∃ c d, c ∈ (0, 0) :: L ∧ R d.1 d.2 = true ∧ nb d c ∧ d ∉ (0, 0) :: L := by
          refine Classical.byContradiction fun q => hcl (fun c d h1 h2 h3 => Classical.byContradiction fun h4 => q ⟨c, d, h1, h2, h3, h4⟩)
        obtain ⟨c, d, h1, h2, h3, h4⟩ := this
        refine ih (d :: L) (Chain.cons hL h2 h1 h3 h4) ?_ (by simp at hl ⊢; omega)
        obtain ⟨n1, n2⟩ := List.nodup_cons.1 hn
        refine List.nodup_cons.2 ⟨fun q => ?_, List.nodup_cons.2 ⟨fun q => h4 (List.mem_cons_of_mem _ q), n2⟩⟩
        rcases List.mem_cons.1 q with q | q
        · exact h4 (q ▸ List.mem_cons_self)
        · exact n1 q
  exact key 101 [] Chain.nil (List.nodup_cons.2 ⟨by simp, List.nodup_nil⟩) (by simp)
end Go.Proofs.Ytieophdbhnpncaa.Hgt

/- Heights, pure: two coverings of cells by dominoes whose rest is one piece: where they differ, one of them has a flip that brings it nearer to the other: no program here. -/
namespace Go.Proofs.Ytieophdbhnpncaa.Hgt
set_option linter.unusedVariables false
set_option linter.unusedSimpArgs false

/-- 1 or -1, as on a board. -/
def sg (i j : Nat) : Int := if (i + j) % 2 = 0 then 1 else -1
theorem sg_r (i j : Nat) : sg (i + 1) j = - sg i j := by unfold sg; split <;> split <;> omega
theorem sg_d (i j : Nat) : sg i (j + 1) = - sg i j := by unfold sg; split <;> split <;> omega
theorem sg_one (i j : Nat) : sg i j = 1 ∨ sg i j = -1 := by unfold sg; split <;> simp
def bi (b : Bool) : Int := if b then 1 else 0
theorem bi_or (b : Bool) : bi b = 0 ∨ bi b = 1 := by cases b <;> simp [bi]
theorem bi_1 {b : Bool} : bi b = 1 ↔ b = true := by cases b <;> simp [bi]
theorem bi_0 {b : Bool} : bi b = 0 ↔ b = false := by cases b <;> simp [bi]
/-- which sides lie under a domino. -/
abbrev Cx := Nat → Nat → Bool
/-- the cells of G are covered, each once; no domino reaches out. -/
structure Tl (G : Nat → Nat → Bool) (X Y : Cx) : Prop where
  top : ∀ i, X i 0 = false
  lft : ∀ j, Y 0 j = false
  dn : ∀ i j, X i (j + 1) = true → G i j = true ∧ G i (j + 1) = true
  rt : ∀ i j, Y (i + 1) j = true → G i j = true ∧ G (i + 1) j = true
  one : ∀ i j, G i j = true → bi (X i j) + bi (Y (i + 1) j) + bi (X i (j + 1)) + bi (Y i j) = 1
  out : ∀ i j, G i j = true → 1 ≤ i ∧ i ≤ 8 ∧ 1 ≤ j ∧ j ≤ 8
section
variable {G : Nat → Nat → Bool} {X Y X' Y' : Cx}
/-- no side of a cell that is not covered lies under a domino. -/
theorem Tl.none (h : Tl G X Y) {i j : Nat} (hg : G i j = false) : X i j = false ∧ Y (i + 1) j = false ∧ X i (j + 1) = false ∧ Y i j = false := by
  refine ⟨?_, ?_, ?_, ?_⟩
  · cases j with
    | zero => exact h.top i
    | succ j =>
      cases q : X i (j + 1) with
      | false => rfl
      | true => have := (h.dn i j q).2; rw [hg] at this; cases this
  · cases q : Y (i + 1) j with
    | false => rfl
    | true => have := (h.rt i j q).1; rw [hg] at this; cases this
  · cases q : X i (j + 1) with
    | false => rfl
    | true => have := (h.dn i j q).1; rw [hg] at this; cases this
  · cases i with
    | zero => exact h.lft j
    | succ i =>
      cases q : Y (i + 1) j with
      | false => rfl
      | true => have := (h.rt i j q).2; rw [hg] at this; cases this
/-- the steps of a covering. -/
def wH (X : Cx) : Fm := fun i j => - sg i j * (1 - 4 * bi (X i j))
def wV (Y : Cx) : Fm := fun i j => sg i j * (1 - 4 * bi (Y i j))
theorem mul_sg {s : Int} (h : s = 1 ∨ s = -1) (a : Int) : (s = 1 → s * a = a) ∧ (s = -1 → s * a = - a) := ⟨fun e => by rw [e]; omega, fun e => by rw [e]; omega⟩
theorem Tl.kap (h : Tl G X Y) {i j : Nat} (hg : G i j = true) : kap (wH X) (wV Y) i j = 0 := by
  have h1 := h.one i j hg
  unfold Hgt.kap wH wV
  rw [sg_r, sg_d]
  rcases sg_one i j with e | e <;> rw [e] <;> omega
/-- heights: the corners' numbers. -/
structure Hts (G : Nat → Nat → Bool) (X Y : Cx) (h : Fm) : Prop where
  hor : ∀ i j, i < 10 → j < 10 → (G i j = true ∨ G i (j + 1) = true) → h (i + 1) (j + 1) = h i (j + 1) + wH X i (j + 1)
  ver : ∀ i j, i < 10 → j < 10 → (G i j = true ∨ G (i + 1) j = true) → h (i + 1) (j + 1) = h (i + 1) j + wV Y (i + 1) j
theorem heights (h : Tl G X Y) {L : List (Nat × Nat)} (hc : Chain (fun i j => decide (i < 10) && decide (j < 10) && !G i j) (0, 0) L)
    (hall : ∀ i j, i < 10 → j < 10 → (decide (i < 10) && decide (j < 10) && !G i j) = true → (i, j) ∈ (0, 0) :: L) : ∃ f, Hts G X Y f := by
  have h00 : G 0 0 = false := by
    cases q : G 0 0 with
    | false => rfl
    | true => have := h.out 0 0 q; omega
  obtain ⟨H, V, a, k⟩ := carried (by simp [h00]) hc hall (wH X) (wV Y) (fun i j hi hj hr => h.kap (by
    cases q : G i j with
    | true => rfl
    | false => simp [hi, hj, q] at hr))
  refine ⟨pot H V, fun i j hi hj hg => ?_, fun i j hi hj hg => ?_⟩
  · rw [pot_H k hi (j + 1) (by omega), a.2 i j (fun q => ?_)]
    simp only [Bool.and_eq_true, Bool.not_eq_true'] at q
    rcases hg with e | e
    · rw [q.1.2] at e; cases e
    · rw [q.2.2] at e; cases e
  · rw [pot_V, a.1 i j (fun q => ?_)]
    simp only [Bool.and_eq_true, Bool.not_eq_true'] at q
    rcases hg with e | e
    · rw [q.1.2] at e; cases e
    · rw [q.2.2] at e; cases e
/-- the difference of two coverings, a number a corner. -/
def eH (X X' : Cx) : Fm := fun i j => sg i j * (bi (X i j) - bi (X' i j))
def eV (Y Y' : Cx) : Fm := fun i j => - sg i j * (bi (Y i j) - bi (Y' i j))
theorem dif_kap (h : Tl G X Y) (h' : Tl G X' Y') (i j : Nat) : kap (eH X X') (eV Y Y') i j = 0 := by
  unfold Hgt.kap eH eV
  rw [sg_r, sg_d]
  cases hg : G i j with
  | true =>
    have h1 := h.one i j hg
    have h2 := h'.one i j hg
    rcases sg_one i j with e | e <;> rw [e] <;> omega
  | false =>
    obtain ⟨a, b, c, d⟩ := h.none hg
    obtain ⟨a', b', c', d'⟩ := h'.none hg
    rw [a, b, c, d, a', b', c', d']
    omega
def dif (X Y X' Y' : Cx) : Fm := pot (eH X X') (eV Y Y')
theorem dif_H (h : Tl G X Y) (h' : Tl G X' Y') {i j : Nat} (hi : i < 10) (hj : j ≤ 10) : dif X Y X' Y' (i + 1) j = dif X Y X' Y' i j + sg i j * (bi (X i j) - bi (X' i j)) :=
  pot_H (fun i j _ _ => dif_kap h h' i j) hi j hj
theorem dif_V (X Y X' Y' : Cx) (i j : Nat) : dif X Y X' Y' i (j + 1) = dif X Y X' Y' i j + - sg i j * (bi (Y i j) - bi (Y' i j)) := pot_V _ _ i j
/-- at the corners of the rest there is no difference. -/
theorem dif_rest (h : Tl G X Y) (h' : Tl G X' Y')
    (hone : ∀ Z : Nat × Nat → Prop, Z (0, 0) → (∀ c d, Z c → (decide (d.1 < 10) && decide (d.2 < 10) && !G d.1 d.2) = true → nb d c → Z d) → ∀ d : Nat × Nat, (decide (d.1 < 10) && decide (d.2 < 10) && !G d.1 d.2) = true → Z d)
    {i j : Nat} (hi : i < 10) (hj : j < 10) (hg : G i j = false) :
    dif X Y X' Y' i j = 0 ∧ dif X Y X' Y' (i + 1) j = 0 ∧ dif X Y X' Y' i (j + 1) = 0 ∧ dif X Y X' Y' (i + 1) (j + 1) = 0 := by
  -- the four corners of such a cell are alike
  have same : ∀ a b, a < 10 → b < 10 → G a b = false → dif X Y X' Y' (a + 1) b = dif X Y X' Y' a b ∧ dif X Y X' Y' a (b + 1) = dif X Y X' Y' a b ∧ dif X Y X' Y' (a + 1) (b + 1) = dif X Y X' Y' a b := fun a b ha hb hr => by
    obtain ⟨p, q, r, s⟩ := h.none hr
    obtain ⟨p', q', r', s'⟩ := h'.none hr
    have e1 := dif_H h h' (i := a) (j := b) ha (by omega)
    have e2 := dif_V X Y X' Y' a b
    have e3 := dif_H h h' (i := a) (j := b + 1) ha (by omega)
    rw [p, p', Int.sub_self, Int.mul_zero] at e1
    rw [s, s', Int.sub_self, Int.mul_zero] at e2
    rw [r, r', Int.sub_self, Int.mul_zero] at e3
    omega
  have h00 : G 0 0 = false := by
    cases q : G 0 0 with
    | false => rfl
    | true => have := h.out 0 0 q; omega
  have key := hone (fun c => (c.1 < 10 ∧ c.2 < 10 ∧ G c.1 c.2 = false) ∧ dif X Y X' Y' c.1 c.2 = 0) ⟨⟨by omega, by omega, h00⟩, rfl⟩ (fun c d hc hd hn => by
    simp only [Bool.and_eq_true, decide_eq_true_eq, Bool.not_eq_true'] at hd
    obtain ⟨⟨d1, d2⟩, d3⟩ := hd
    obtain ⟨⟨c1, c2, c3⟩, c4⟩ := hc
    refine ⟨⟨d1, d2, d3⟩, ?_⟩
    obtain ⟨p1, p2, p3⟩ := same c.1 c.2 c1 c2 c3
    obtain ⟨q1, q2, q3⟩ := same d.1 d.2 d1 d2 d3
    obtain ⟨ci, cj⟩ := c
    obtain ⟨di, dj⟩ := d
    unfold nb at hn
    simp only at hn p1 p2 p3 q1 q2 q3 c4 ⊢
    rcases hn with ⟨rfl, rfl | rfl⟩ | ⟨rfl, rfl | rfl⟩
    · omega
    · omega
    · omega
    · omega) (i, j) (by simp [hi, hj, hg])
  have key := key.2
  obtain ⟨a, b, c⟩ := same i j hi hj hg
  simp only at key
  omega
end
end Go.Proofs.Ytieophdbhnpncaa.Hgt
