/- FlpQ, HgtP, HgtT, HgtF, HgtL, Euler, EulerG in one text. -/
import Derived.Test.YtmajllgfmclcoaaGreatMc03
import Derived.Test.YtmajllgfmclcoaaGreatMc02

namespace Go.Proofs.YtmajllgfmclcoaaGreat.Flp
set_option linter.unusedVariables false
set_option linter.unusedSimpArgs false
open Go.RowKit Go.Proofs.YtmajllgfmclcoaaGreat.Cell Go.Proofs.YtmajllgfmclcoaaGreat.Dom Go.Proofs.YtmajllgfmclcoaaGreat.Dms Go.Proofs.YtmajllgfmclcoaaGreat.Til Go.Joins

theorem wrap_in {x : Int} (h0 : 0 ≤ x) (h1 : x ≤ 7) : wrap64 (x + 1) = x + 1 := by unfold wrap64; omega
theorem ok_of {x y : Int} {b : Bool} (h0 : 0 ≤ x) (h1 : x ≤ 7) (h2 : 0 ≤ y) (h3 : y ≤ 7) (h4 : b = false → x ≤ 6) (h5 : b = true → y ≤ 6) : okM (x, y, b) = true := by
 unfold okM domB
 rw [Bool.and_eq_true, okB_iff, okB_iff]
 refine ⟨⟨h0, h1, h2, h3⟩, ?_⟩
 show 0 ≤ sx x b ∧ sx x b ≤ 7 ∧ 0 ≤ sy y b ∧ sy y b ≤ 7
 unfold sx sy
 cases b with
 | false =>
  have := h4 rfl
  rw [if_neg (by simp), if_neg (by simp), wrap_in h0 h1]; omega
 | true =>
  have := h5 rfl
  rw [if_pos rfl, if_pos rfl, wrap_in h2 h3]; omega
section
variable {x y : Int}
theorem ok1 (h : 0 ≤ x ∧ x ≤ 6 ∧ 0 ≤ y ∧ y ≤ 6) (b : Bool) : okM (pr1 x y b) = true := by
 obtain ⟨a, b', c, d⟩ := h
 unfold pr1
 exact ok_of a (by omega) c (by omega) (fun _ => b') (fun _ => d)
theorem ok2 (h : 0 ≤ x ∧ x ≤ 6 ∧ 0 ≤ y ∧ y ≤ 6) (b : Bool) : okM (pr2 x y b) = true := by
 obtain ⟨a, b', c, d⟩ := h
 unfold pr2
 cases b with
 | false => exact ok_of a (by omega) (by omega) (by omega) (fun _ => b') (fun e => by cases e)
 | true => exact ok_of (by omega) (by omega) c (by omega) (fun e => by cases e) (fun _ => d)
theorem cov_pair (h : 0 ≤ x ∧ x ≤ 6 ∧ 0 ≤ y ∧ y ≤ 6) (b : Bool) (u v : Int) : (covM (pr1 x y b) u v = true ∨ covM (pr2 x y b) u v = true) ↔ (u = x ∨ u = x + 1) ∧ (v = y ∨ v = y + 1) := by
 have o1 := ok1 h b
 have o2 := ok2 h b
 unfold covM covP
 rw [o1, o2]
 simp only [Bool.true_and, Bool.or_eq_true, eqB_iff]
 unfold pr1 pr2 sx sy
 cases b with
 | false =>
  simp only [Bool.false_eq_true, if_false]
  rw [wrap_in (x := x) (by omega) (by omega)]
  omega
 | true =>
  simp only [if_true]
  rw [wrap_in (x := y) (by omega) (by omega)]
  omega
end
section
variable {xs : List Int} {L : List Dm} {x y : Int} {b : Bool}
theorem four (hp : partB xs L = true) (h6 : 0 ≤ x ∧ x ≤ 6 ∧ 0 ≤ y ∧ y ≤ 6) (hb : has2 L x y b = true) {d : Dm} (hd : d ∈ L) {u v : Int} (hc : covM d u v = true) (h4 : (u = x ∨ u = x + 1) ∧ (v = y ∨ v = y + 1)) : d = pr1 x y b ∨ d = pr2 x y b := by
 obtain ⟨m1, m2⟩ := has2_iff.1 hb
 rcases (cov_pair h6 b u v).2 h4 with q | q
 ·exact .inl (part_dj hp d hd _ m1 u v hc q)
 ·exact .inr (part_dj hp d hd _ m2 u v hc q)
end
end Go.Proofs.YtmajllgfmclcoaaGreat.Flp

namespace Go.Proofs.YtmajllgfmclcoaaGreat.Hgt
set_option linter.unusedVariables false
set_option linter.unusedSimpArgs false

abbrev Fm := Nat → Nat → Int
def sumTo (f : Nat → Int) : Nat → Int
 | 0 => 0
 | n + 1 => sumTo f n + f n
def kap (H V : Fm) (i j : Nat) : Int := H i j + V (i + 1) j - H i (j + 1) - V i j
def pot (H V : Fm) (i j : Nat) : Int := sumTo (fun a => H a 0) i + sumTo (fun b => V i b) j
theorem pot_V (H V : Fm) (i j : Nat) : pot H V i (j + 1) = pot H V i j + V i j := by
 unfold pot
 show _ + (sumTo (fun b => V i b) j + V i j) = _
 omega
theorem pot_H {H V : Fm} (h : ∀ i j, i < 10 → j < 10 → kap H V i j = 0) {i : Nat} (hi : i < 10) : ∀ j, j ≤ 10 → pot H V (i + 1) j = pot H V i j + H i j
 | 0, _ => by
  unfold pot
  show sumTo (fun a => H a 0) i + H i 0 + 0 = sumTo (fun a => H a 0) i + 0 + H i 0
  omega
 | j + 1, hj => by
  have ih := pot_H h hi j (by omega)
  have hk := h i j hi (by omega)
  rw [pot_V, pot_V, ih]
  unfold kap at hk
  omega
def nb (c d : Nat × Nat) : Prop := (c.2 = d.2 ∧ (d.1 = c.1 + 1 ∨ c.1 = d.1 + 1)) ∨ (c.1 = d.1 ∧ (d.2 = c.2 + 1 ∨ c.2 = d.2 + 1))
def Ag (R : Nat → Nat → Bool) (H V H' V' : Fm) : Prop :=
 (∀ i j, ¬ (R i j = true ∧ R (i + 1) j = true) → V' (i + 1) j = V (i + 1) j) ∧ ∀ i j, ¬ (R i j = true ∧ R i (j + 1) = true) → H' i (j + 1) = H i (j + 1)
theorem Ag.refl (R : Nat → Nat → Bool) (H V : Fm) : Ag R H V H V := ⟨fun _ _ _ => rfl, fun _ _ _ => rfl⟩
theorem Ag.trans {R : Nat → Nat → Bool} {H V H1 V1 H2 V2 : Fm} (h : Ag R H V H1 V1) (k : Ag R H1 V1 H2 V2) : Ag R H V H2 V2 :=
 ⟨fun i j q => (k.1 i j q).trans (h.1 i j q), fun i j q => (k.2 i j q).trans (h.2 i j q)⟩
def setF (F : Fm) (a b : Nat) (x : Int) : Fm := fun i j => if i = a ∧ j = b then x else F i j
theorem setF_at (F : Fm) (a b : Nat) (x : Int) : setF F a b x a b = x := if_pos ⟨rfl, rfl⟩
theorem setF_ne {F : Fm} {a b i j : Nat} {x : Int} (h : ¬ (i = a ∧ j = b)) : setF F a b x i j = F i j := if_neg h
theorem carry {R : Nat → Nat → Bool} (H V : Fm) {c d : Nat × Nat} (hn : nb c d) (hc : R c.1 c.2 = true) (hd : R d.1 d.2 = true) :
  ∃ H' V', Ag R H V H' V' ∧ kap H' V' c.1 c.2 = 0 ∧ ∀ i j, (i, j) ≠ c → (i, j) ≠ d → kap H' V' i j = kap H V i j := by
 obtain ⟨a, b⟩ := c
 obtain ⟨a', b'⟩ := d
 unfold nb at hn
 simp only at hn hc hd
 rcases hn with ⟨rfl, rfl | rfl⟩ | ⟨rfl, rfl | rfl⟩
 ·-- to the right
  refine ⟨H, setF V (a + 1) b (V (a + 1) b - kap H V a b), ⟨fun i j q => setF_ne (fun e => ?_), fun _ _ _ => rfl⟩, ?_, fun i j h1 h2 => ?_⟩
  ·obtain ⟨e1, rfl⟩ := e
   have : i = a := by omega
   subst this
   exact q ⟨hc, hd⟩
  ·show H a b + setF V (a + 1) b _ (a + 1) b - H a (b + 1) - setF V (a + 1) b _ a b = 0
   rw [setF_at, setF_ne (by omega)]
   unfold kap
   omega
  ·unfold kap
   rw [setF_ne (fun e => h1 (by rw [show i = a by omega, e.2])), setF_ne (fun e => h2 (by rw [e.1, e.2]))]
 ·-- to the left
  refine ⟨H, setF V (a' + 1) b (V (a' + 1) b + kap H V (a' + 1) b), ⟨fun i j q => setF_ne (fun e => ?_), fun _ _ _ => rfl⟩, ?_, fun i j h1 h2 => ?_⟩
  ·obtain ⟨e1, rfl⟩ := e
   have : i = a' := by omega
   subst this
   exact q ⟨hd, hc⟩
  ·show H (a' + 1) b + setF V (a' + 1) b _ (a' + 1 + 1) b - H (a' + 1) (b + 1) - setF V (a' + 1) b _ (a' + 1) b = 0
   rw [setF_at, setF_ne (by omega)]
   unfold kap
   omega
  ·unfold kap
   rw [setF_ne (fun e => h2 (by rw [show i = a' by omega, e.2])), setF_ne (fun e => h1 (by rw [e.1, e.2]))]
 ·-- down
  refine ⟨setF H a (b + 1) (H a (b + 1) + kap H V a b), V, ⟨fun _ _ _ => rfl, fun i j q => setF_ne (fun e => ?_)⟩, ?_, fun i j h1 h2 => ?_⟩
  ·obtain ⟨rfl, e2⟩ := e
   have : j = b := by omega
   subst this
   exact q ⟨hc, hd⟩
  ·show setF H a (b + 1) _ a b + V (a + 1) b - setF H a (b + 1) _ a (b + 1) - V a b = 0
   rw [setF_at, setF_ne (by omega)]
   unfold kap
   omega
  ·unfold kap
   rw [setF_ne (fun e => h2 (by rw [e.1, e.2])), setF_ne (fun e => h1 (by rw [e.1, show j = b by omega]))]
 ·-- up
  refine ⟨setF H a (b' + 1) (H a (b' + 1) - kap H V a (b' + 1)), V, ⟨fun _ _ _ => rfl, fun i j q => setF_ne (fun e => ?_)⟩, ?_, fun i j h1 h2 => ?_⟩
  ·obtain ⟨rfl, e2⟩ := e
   have : j = b' := by omega
   subst this
   exact q ⟨hd, hc⟩
  ·show setF H a (b' + 1) _ a (b' + 1) + V (a + 1) (b' + 1) - setF H a (b' + 1) _ a (b' + 1 + 1) - V a (b' + 1) = 0
   rw [setF_at, setF_ne (by omega)]
   unfold kap
   omega
  ·unfold kap
   rw [setF_ne (fun e => h1 (by rw [e.1, e.2])), setF_ne (fun e => h2 (by rw [e.1, show j = b' by omega]))]
inductive Chain (R : Nat → Nat → Bool) (p : Nat × Nat) : List (Nat × Nat) → Prop
 | nil : Chain R p []
 | cons {c : Nat × Nat} {L : List (Nat × Nat)} {d : Nat × Nat} (hL : Chain R p L) (hc : R c.1 c.2 = true) (hd : d ∈ p :: L) (hn : nb c d) (hne : c ∉ p :: L) : Chain R p (c :: L)
theorem Chain.rest {R : Nat → Nat → Bool} {p : Nat × Nat} (hp : R p.1 p.2 = true) {L : List (Nat × Nat)} (h : Chain R p L) : ∀ c ∈ p :: L, R c.1 c.2 = true := by
 induction h with
 | nil => intro c hc; rw [List.mem_singleton.1 hc]; exact hp
 | cons hL hc hd hn hne ih =>
  intro e he
  rcases List.mem_cons.1 he with rfl | he
  ·exact hp
  ·rcases List.mem_cons.1 he with rfl | he
   ·exact hc
   ·exact ih e (List.mem_cons_of_mem _ he)
theorem Chain.clean {R : Nat → Nat → Bool} {p : Nat × Nat} (hp : R p.1 p.2 = true) {L : List (Nat × Nat)} (h : Chain R p L) : ∀ (H V : Fm), (∀ i j, i < 10 → j < 10 → (i, j) ∉ p :: L → kap H V i j = 0) →
  ∃ H' V', Ag R H V H' V' ∧ ∀ i j, i < 10 → j < 10 → (i, j) ≠ p → kap H' V' i j = 0 := by
 induction h with
 | nil => exact fun H V hk => ⟨H, V, Ag.refl R H V, fun i j hi hj hne => hk i j hi hj (fun q => hne (List.mem_singleton.1 q))⟩
 | @cons c L d hL hc hd hn hne ih =>
  intro H V hk
  obtain ⟨H1, V1, a1, a2, a3⟩ := carry H V hn hc (hL.rest hp d hd)
  obtain ⟨H2, V2, b1, b2⟩ := ih H1 V1 (fun i j hi hj hni => by
   by_cases e : (i, j) = c
   ·have e1 : i = c.1 := by rw [← e]
    have e2 : j = c.2 := by rw [← e]
    rw [e1, e2]; exact a2
   ·rw [a3 i j e (fun q => hni (q ▸ hd))]
    refine hk i j hi hj (fun q => ?_)
    rcases List.mem_cons.1 q with q | q
    ·exact hni (q ▸ List.mem_cons_self)
    ·rcases List.mem_cons.1 q with q | q
     ·exact e q
     ·exact hni (List.mem_cons_of_mem _ q))
  exact ⟨H2, V2, a1.trans b1, b2⟩
theorem carried {R : Nat → Nat → Bool} (hp : R 0 0 = true) {L : List (Nat × Nat)} (h : Chain R (0, 0) L) (hall : ∀ i j, i < 10 → j < 10 → R i j = true → (i, j) ∈ (0, 0) :: L) (H V : Fm) (hk : ∀ i j, i < 10 → j < 10 → R i j = false → kap H V i j = 0) :
  ∃ H' V', Ag R H V H' V' ∧ ∀ i j, i < 10 → j < 10 → kap H' V' i j = 0 := by
 obtain ⟨H1, V1, a1, a2⟩ := h.clean hp H V (fun i j hi hj hn => hk i j hi hj (by
  cases q : R i j with
  | false => rfl
  | true => exact absurd (hall i j hi hj q) hn))
 refine ⟨setF H1 0 0 (H1 0 0 - kap H1 V1 0 0), V1, ⟨a1.1, fun i j q => ?_⟩, fun i j hi hj => ?_⟩
 ·rw [setF_ne (by omega)]; exact a1.2 i j q
 ·by_cases e : i = 0 ∧ j = 0
  ·obtain ⟨rfl, rfl⟩ := e
   show setF H1 0 0 _ 0 0 + V1 (0 + 1) 0 - setF H1 0 0 _ 0 (0 + 1) - V1 0 0 = 0
   rw [setF_at, setF_ne (by omega)]
   unfold kap
   omega
  ·have := a2 i j hi hj (fun q => e (by injection q with q1 q2; exact ⟨q1, q2⟩))
   unfold kap at this ⊢
   rw [setF_ne e, setF_ne (by omega)]
   exact this
theorem short (L : List (Nat × Nat)) (hn : L.Nodup) (hl : ∀ c ∈ L, c.1 < 10 ∧ c.2 < 10) : L.length ≤ 100 := by
 have h1 : (L.map fun c => 10 * c.2 + c.1).Nodup := by
  unfold List.Nodup at hn ⊢
  rw [List.pairwise_map]
  exact hn.imp_of_mem (fun {a b} ha hb hab e => hab (by
   have := hl a ha
   have := hl b hb
   exact Prod.ext (by omega) (by omega)))
 have h2 := List.Nodup.length_le_of_subset h1 (l₂ := List.range 100) (fun x hx => by
  obtain ⟨c, hc, rfl⟩ := List.mem_map.1 hx
  have := hl c hc
  exact List.mem_range.2 (by omega))
 rw [List.length_map, List.length_range] at h2
 exact h2
theorem chain_all {R : Nat → Nat → Bool} (hin : ∀ i j, R i j = true → i < 10 ∧ j < 10) (hp : R 0 0 = true)
  (hone : ∀ Z : Nat × Nat → Prop, Z (0, 0) → (∀ c d, Z c → R d.1 d.2 = true → nb d c → Z d) → ∀ d, R d.1 d.2 = true → Z d) :
  ∃ L, Chain R (0, 0) L ∧ ∀ i j, i < 10 → j < 10 → R i j = true → (i, j) ∈ (0, 0) :: L := by
 have key : ∀ n (L : List (Nat × Nat)), Chain R (0, 0) L → ((0, 0) :: L).Nodup → 101 ≤ n + ((0, 0) :: L).length → ∃ L, Chain R (0, 0) L ∧ ∀ i j, i < 10 → j < 10 → R i j = true → (i, j) ∈ (0, 0) :: L := by
  intro n
  induction n with
  | zero =>
   intro L hL hn hl
   have := short _ hn (fun c hc => hin _ _ (hL.rest hp c hc))
   omega
  | succ n ih =>
   intro L hL hn hl
   by_cases hcl : ∀ c d, c ∈ (0, 0) :: L → R d.1 d.2 = true → nb d c → d ∈ (0, 0) :: L
   ·exact ⟨L, hL, fun i j _ _ hR => hone (fun c => c ∈ (0, 0) :: L) List.mem_cons_self hcl (i, j) hR⟩
   ·have : ∃ c d, c ∈ (0, 0) :: L ∧ R d.1 d.2 = true ∧ nb d c ∧ d ∉ (0, 0) :: L := by
     refine Classical.byContradiction fun q => hcl (fun c d h1 h2 h3 => Classical.byContradiction fun h4 => q ⟨c, d, h1, h2, h3, h4⟩)
    obtain ⟨c, d, h1, h2, h3, h4⟩ := this
    refine ih (d :: L) (Chain.cons hL h2 h1 h3 h4) ?_ (by simp at hl ⊢; omega)
    obtain ⟨n1, n2⟩ := List.nodup_cons.1 hn
    refine List.nodup_cons.2 ⟨fun q => ?_, List.nodup_cons.2 ⟨fun q => h4 (List.mem_cons_of_mem _ q), n2⟩⟩
    rcases List.mem_cons.1 q with q | q
    ·exact h4 (q ▸ List.mem_cons_self)
    ·exact n1 q
 exact key 101 [] Chain.nil (List.nodup_cons.2 ⟨by simp, List.nodup_nil⟩) (by simp)
end Go.Proofs.YtmajllgfmclcoaaGreat.Hgt

namespace Go.Proofs.YtmajllgfmclcoaaGreat.Hgt
set_option linter.unusedVariables false
set_option linter.unusedSimpArgs false

def sg (i j : Nat) : Int := if (i + j) % 2 = 0 then 1 else -1
theorem sg_r (i j : Nat) : sg (i + 1) j = - sg i j := by unfold sg; split <;> split <;> omega
theorem sg_d (i j : Nat) : sg i (j + 1) = - sg i j := by unfold sg; split <;> split <;> omega
theorem sg_one (i j : Nat) : sg i j = 1 ∨ sg i j = -1 := by unfold sg; split <;> simp
def bi (b : Bool) : Int := if b then 1 else 0
theorem bi_or (b : Bool) : bi b = 0 ∨ bi b = 1 := by cases b <;> simp [bi]
theorem bi_0 {b : Bool} : bi b = 0 ↔ b = false := by cases b <;> simp [bi]
abbrev Cx := Nat → Nat → Bool
structure Tl (G : Nat → Nat → Bool) (X Y : Cx) : Prop where
 top : ∀ i, X i 0 = false
 lft : ∀ j, Y 0 j = false
 dn : ∀ i j, X i (j + 1) = true → G i j = true ∧ G i (j + 1) = true
 rt : ∀ i j, Y (i + 1) j = true → G i j = true ∧ G (i + 1) j = true
 one : ∀ i j, G i j = true → bi (X i j) + bi (Y (i + 1) j) + bi (X i (j + 1)) + bi (Y i j) = 1
 out : ∀ i j, G i j = true → 1 ≤ i ∧ i ≤ 8 ∧ 1 ≤ j ∧ j ≤ 8
section
variable {G : Nat → Nat → Bool} {X Y X' Y' : Cx}
def wH (X : Cx) : Fm := fun i j => - sg i j * (1 - 4 * bi (X i j))
def wV (Y : Cx) : Fm := fun i j => sg i j * (1 - 4 * bi (Y i j))
theorem Tl.kap (h : Tl G X Y) {i j : Nat} (hg : G i j = true) : kap (wH X) (wV Y) i j = 0 := by
 have h1 := h.one i j hg
 unfold Hgt.kap wH wV
 rw [sg_r, sg_d]
 rcases sg_one i j with e | e <;> rw [e] <;> omega
structure Hts (G : Nat → Nat → Bool) (X Y : Cx) (h : Fm) : Prop where
 hor : ∀ i j, i < 10 → j < 10 → (G i j = true ∨ G i (j + 1) = true) → h (i + 1) (j + 1) = h i (j + 1) + wH X i (j + 1)
 ver : ∀ i j, i < 10 → j < 10 → (G i j = true ∨ G (i + 1) j = true) → h (i + 1) (j + 1) = h (i + 1) j + wV Y (i + 1) j
theorem heights (h : Tl G X Y) {L : List (Nat × Nat)} (hc : Chain (fun i j => decide (i < 10) && decide (j < 10) && !G i j) (0, 0) L)
  (hall : ∀ i j, i < 10 → j < 10 → (decide (i < 10) && decide (j < 10) && !G i j) = true → (i, j) ∈ (0, 0) :: L) : ∃ f, Hts G X Y f := by
 have h00 : G 0 0 = false := by
  cases q : G 0 0 with
  | false => rfl
  | true => have := h.out 0 0 q; omega
 obtain ⟨H, V, a, k⟩ := carried (by simp [h00]) hc hall (wH X) (wV Y) (fun i j hi hj hr => h.kap (by
  cases q : G i j with
  | true => rfl
  | false => simp [hi, hj, q] at hr))
 refine ⟨pot H V, fun i j hi hj hg => ?_, fun i j hi hj hg => ?_⟩
 ·rw [pot_H k hi (j + 1) (by omega), a.2 i j (fun q => ?_)]
  simp only [Bool.and_eq_true, Bool.not_eq_true'] at q
  rcases hg with e | e
  ·rw [q.1.2] at e; cases e
  ·rw [q.2.2] at e; cases e
 ·rw [pot_V, a.1 i j (fun q => ?_)]
  simp only [Bool.and_eq_true, Bool.not_eq_true'] at q
  rcases hg with e | e
  ·rw [q.1.2] at e; cases e
  ·rw [q.2.2] at e; cases e
end
end Go.Proofs.YtmajllgfmclcoaaGreat.Hgt

namespace Go.Proofs.YtmajllgfmclcoaaGreat.Hgt
set_option linter.unusedVariables false
set_option linter.unusedSimpArgs false

section
variable {G : Nat → Nat → Bool} {X Y X' Y' : Cx}
def far (E : Fm) : Nat := ((List.range 121).map fun k => (E (k % 11) (k / 11)).natAbs).sum
def crn : List (Nat × Nat) := (List.range 121).map fun k => (k % 11, k / 11)
def One (G : Nat → Nat → Bool) : Prop := ∀ Z : Nat × Nat → Prop, Z (0, 0) → (∀ c d, Z c → (decide (d.1 < 10) && decide (d.2 < 10) && !G d.1 d.2) = true → nb d c → Z d) → ∀ d : Nat × Nat, (decide (d.1 < 10) && decide (d.2 < 10) && !G d.1 d.2) = true → Z d
theorem Tl.heights (h : Tl G X Y) (hone : One G) : ∃ f, Hts G X Y f := by
 have h00 : G 0 0 = false := by
  cases q : G 0 0 with
  | false => rfl
  | true => have := h.out 0 0 q; omega
 obtain ⟨L, hL, hall⟩ := chain_all (R := fun i j => decide (i < 10) && decide (j < 10) && !G i j) (fun i j hr => by
  simp only [Bool.and_eq_true, decide_eq_true_eq] at hr
  exact hr.1) (by simp [h00]) hone
 exact Hgt.heights h hL hall
end
end Go.Proofs.YtmajllgfmclcoaaGreat.Hgt

namespace Go.Proofs.YtmajllgfmclcoaaGreat.Hgt
set_option linter.unusedVariables false
set_option linter.unusedSimpArgs false
open Go.RowKit Go.Proofs.YtmajllgfmclcoaaGreat.Pure Go.Proofs.YtmajllgfmclcoaaGreat.Cell Go.Proofs.YtmajllgfmclcoaaGreat.Dom Go.Proofs.YtmajllgfmclcoaaGreat.Dms Go.Proofs.YtmajllgfmclcoaaGreat.Til Go.Proofs.YtmajllgfmclcoaaGreat.Grd Go.Proofs.YtmajllgfmclcoaaGreat.Flp Go.Joins

def xL (L : List Dm) : Cx := fun i j => decide ((((i : Int) - 1, (j : Int) - 2, true) : Dm) ∈ L)
def yL (L : List Dm) : Cx := fun i j => decide ((((i : Int) - 2, (j : Int) - 1, false) : Dm) ∈ L)
def gX (xs : List Int) (i j : Nat) : Bool := hasB xs ((i : Int) - 1) ((j : Int) - 1)
theorem xL_iff {L : List Dm} {i j : Nat} : xL L i j = true ↔ (((i : Int) - 1, (j : Int) - 2, true) : Dm) ∈ L := by unfold xL; rw [decide_eq_true_eq]
theorem yL_iff {L : List Dm} {i j : Nat} : yL L i j = true ↔ (((i : Int) - 2, (j : Int) - 1, false) : Dm) ∈ L := by unfold yL; rw [decide_eq_true_eq]
theorem ok_dn {x y : Int} (h : okM (x, y, true) = true) : 0 ≤ x ∧ x ≤ 7 ∧ 0 ≤ y ∧ y ≤ 6 := by
 unfold okM domB at h
 rw [Bool.and_eq_true, okB_iff, okB_iff] at h
 obtain ⟨h1, h2⟩ := h
 unfold Ok at h1 h2
 simp only at h1 h2
 unfold sx sy at h2
 rw [if_pos rfl, if_pos rfl, wrap_in (by omega) (by omega)] at h2
 omega
theorem ok_rt {x y : Int} (h : okM (x, y, false) = true) : 0 ≤ x ∧ x ≤ 6 ∧ 0 ≤ y ∧ y ≤ 7 := by
 unfold okM domB at h
 rw [Bool.and_eq_true, okB_iff, okB_iff] at h
 obtain ⟨h1, h2⟩ := h
 unfold Ok at h1 h2
 simp only at h1 h2
 unfold sx sy at h2
 rw [if_neg (by simp), if_neg (by simp), wrap_in (by omega) (by omega)] at h2
 omega
theorem cov_dn {x y : Int} (h : okM (x, y, true) = true) : covM (x, y, true) x y = true ∧ covM (x, y, true) x (y + 1) = true := by
 have := ok_dn h
 refine ⟨cov_of h (.inl ⟨rfl, rfl⟩), cov_of h (.inr ⟨?_, ?_⟩)⟩
 ·unfold sx; rw [if_pos rfl]
 ·unfold sy; rw [if_pos rfl]; exact (wrap_in (by omega) (by omega)).symm
theorem cov_rt {x y : Int} (h : okM (x, y, false) = true) : covM (x, y, false) x y = true ∧ covM (x, y, false) (x + 1) y = true := by
 have := ok_rt h
 refine ⟨cov_of h (.inl ⟨rfl, rfl⟩), cov_of h (.inr ⟨?_, ?_⟩)⟩
 ·unfold sx; rw [if_neg (by simp)]; exact (wrap_in (by omega) (by omega)).symm
 ·unfold sy; rw [if_neg (by simp)]
theorem cov_who {d : Dm} {x y : Int} (h : covM d x y = true) : d = (x, y, true) ∨ d = (x, y, false) ∨ d = (x, y - 1, true) ∨ d = (x - 1, y, false) := by
 obtain ⟨ho, h⟩ := cov_two h
 obtain ⟨a, b, c⟩ := d
 simp only at h
 cases c with
 | true =>
  have := ok_dn ho
  unfold sx sy at h
  rw [if_pos rfl, if_pos rfl, wrap_in (by omega) (by omega)] at h
  rcases h with ⟨rfl, rfl⟩ | ⟨rfl, rfl⟩
  ·exact .inl rfl
  ·right; right; left
   rw [show b + 1 - 1 = b by omega]
 | false =>
  have := ok_rt ho
  unfold sx sy at h
  rw [if_neg (by simp), if_neg (by simp), wrap_in (by omega) (by omega)] at h
  rcases h with ⟨rfl, rfl⟩ | ⟨rfl, rfl⟩
  ·exact .inr (.inl rfl)
  ·right; right; right
   rw [show a + 1 - 1 = a by omega]
theorem one_of {p q r s : Bool} (h : p = true ∨ q = true ∨ r = true ∨ s = true) (h1 : p = true → q = true → False) (h2 : p = true → r = true → False) (h3 : p = true → s = true → False) (h4 : q = true → r = true → False) (h5 : q = true → s = true → False) (h6 : r = true → s = true → False) : bi p + bi q + bi r + bi s = 1 := by
 cases p <;> cases q <;> cases r <;> cases s <;> simp_all [bi]
theorem tl_of {xs : List Int} {L : List Dm} (ht : tilB xs L = true) : Tl (gX xs) (xL L) (yL L) := by
 have hp : partB xs L = true := by unfold tilB at ht; rw [Bool.and_eq_true] at ht; exact ht.1
 have hv := part_valid hp
 have hdj := part_dj hp
 have hall : ∀ x y, hasB xs x y = true → anyM L x y = true := fun x y hxy => by
  rw [tilB_part hp, decide_eq_true_eq] at ht
  have hn : unc L (cellsR xs) = [] := List.eq_nil_of_length_eq_zero ht
  cases q : anyM L x y with
  | true => rfl
  | false =>
   have : (x, y) ∈ unc L (cellsR xs) := by
    unfold unc
    exact List.mem_filter.2 ⟨mem_cells.2 hxy, by simp [q]⟩
   rw [hn] at this; cases this
 refine ⟨fun i => ?_, fun j => ?_, fun i j h => ?_, fun i j h => ?_, fun i j h => ?_, fun i j h => ?_⟩
 ·cases q : xL L i 0 with
  | false => rfl
  | true => have := ok_dn (hv _ (xL_iff.1 q)); omega
 ·cases q : yL L 0 j with
  | false => rfl
  | true => have := ok_rt (hv _ (yL_iff.1 q)); omega
 ·have hm := xL_iff.1 h
  obtain ⟨c1, c2⟩ := cov_dn (hv _ hm)
  have k1 := part_in hp hm c1
  have k2 := part_in hp hm c2
  refine ⟨?_, ?_⟩
  ·show hasB xs ((i : Int) - 1) ((j : Int) - 1) = true
   rw [← k1]; congr 1; omega
  ·show hasB xs ((i : Int) - 1) (((j + 1 : Nat) : Int) - 1) = true
   rw [← k2]; congr 1; omega
 ·have hm := yL_iff.1 h
  obtain ⟨c1, c2⟩ := cov_rt (hv _ hm)
  have k1 := part_in hp hm c1
  have k2 := part_in hp hm c2
  refine ⟨?_, ?_⟩
  ·show hasB xs ((i : Int) - 1) ((j : Int) - 1) = true
   rw [← k1]; congr 1; omega
  ·show hasB xs (((i + 1 : Nat) : Int) - 1) ((j : Int) - 1) = true
   rw [← k2]; congr 1; omega
 ·-- each cell once
  have hc := hall _ _ h
  unfold anyM at hc
  rw [List.any_eq_true] at hc
  obtain ⟨d, hd, hc⟩ := hc
  obtain ⟨x, hx⟩ : ∃ x : Int, x = (i : Int) - 1 := ⟨_, rfl⟩
  obtain ⟨y, hy⟩ : ∃ y : Int, y = (j : Int) - 1 := ⟨_, rfl⟩
  rw [← hx, ← hy] at hc
  have e1 : xL L i j = decide (((x, y - 1, true) : Dm) ∈ L) := by unfold xL; rw [hx, hy, show (j : Int) - 1 - 1 = (j : Int) - 2 by omega]
  have e2 : yL L (i + 1) j = decide (((x, y, false) : Dm) ∈ L) := by unfold yL; rw [hx, hy, show ((i + 1 : Nat) : Int) - 2 = (i : Int) - 1 by omega]
  have e3 : xL L i (j + 1) = decide (((x, y, true) : Dm) ∈ L) := by unfold xL; rw [hx, hy, show ((j + 1 : Nat) : Int) - 2 = (j : Int) - 1 by omega]
  have e4 : yL L i j = decide (((x - 1, y, false) : Dm) ∈ L) := by unfold yL; rw [hx, hy, show (i : Int) - 1 - 1 = (i : Int) - 2 by omega]
  rw [e1, e2, e3, e4]
  have k1 : ((x, y - 1, true) : Dm) ∈ L → covM (x, y - 1, true) x y = true := fun m => by have := (cov_dn (hv _ m)).2; rwa [show y - 1 + 1 = y by omega] at this
  have k2 : ((x, y, false) : Dm) ∈ L → covM (x, y, false) x y = true := fun m => (cov_rt (hv _ m)).1
  have k3 : ((x, y, true) : Dm) ∈ L → covM (x, y, true) x y = true := fun m => (cov_dn (hv _ m)).1
  have k4 : ((x - 1, y, false) : Dm) ∈ L → covM (x - 1, y, false) x y = true := fun m => by have := (cov_rt (hv _ m)).2; rwa [show x - 1 + 1 = x by omega] at this
  have two : ∀ {d e : Dm}, d ∈ L → e ∈ L → covM d x y = true → covM e x y = true → d = e := fun h1 h2 h3 h4 => hdj _ h1 _ h2 x y h3 h4
  refine one_of ?_ (fun p q => ?_) (fun p q => ?_) (fun p q => ?_) (fun p q => ?_) (fun p q => ?_) (fun p q => ?_)
  ·rcases cov_who hc with rfl | rfl | rfl | rfl
   ·exact .inr (.inr (.inl (decide_eq_true hd)))
   ·exact .inr (.inl (decide_eq_true hd))
   ·exact .inl (decide_eq_true hd)
   ·exact .inr (.inr (.inr (decide_eq_true hd)))
  all_goals
   have p := of_decide_eq_true p
   have q := of_decide_eq_true q
  ·have := two p q (k1 p) (k2 q); simp at this
  ·have := two p q (k1 p) (k3 q); simp at this; omega
  ·have := two p q (k1 p) (k4 q); simp at this
  ·have := two p q (k2 p) (k3 q); simp at this
  ·have := two p q (k2 p) (k4 q); simp at this; omega
  ·have := two p q (k3 p) (k4 q); simp at this
 ·have := hasB_iff.1 h
  omega
theorem til_part {xs : List Int} {L : List Dm} (h : tilB xs L = true) : partB xs L = true := by unfold tilB at h; rw [Bool.and_eq_true] at h; exact h.1
end Go.Proofs.YtmajllgfmclcoaaGreat.Hgt

namespace Go.Proofs.YtmajllgfmclcoaaGreat.Euler

def lab : List (Nat × Nat) → Nat → Nat
 | [], v => v
 | e :: es, v => if lab es v = lab es e.2 then lab es e.1 else lab es v
theorem lab_edge : ∀ (es : List (Nat × Nat)) (e : Nat × Nat), e ∈ es → lab es e.1 = lab es e.2
 | d :: es, e, h => by
  simp only [lab]
  rcases List.mem_cons.1 h with rfl | h
  ·simp
  ·rw [lab_edge es e h]
theorem lab_keeps {α : Type} (f : Nat → α) : ∀ (es : List (Nat × Nat)), (∀ e, e ∈ es → f e.1 = f e.2) → ∀ v, f (lab es v) = f v
 | [], _, _ => rfl
 | d :: es, h, v => by
  have ih := lab_keeps f es (fun e he => h e (List.mem_cons_of_mem _ he))
  simp only [lab]
  split
  ·rename_i e
   rw [ih, h d (by simp), ← ih d.2, ← e, ih]
  ·exact ih v
def inc (e : Nat × Nat) (v : Nat) : Bool := (v == e.1) ^^ (v == e.2)
end Go.Proofs.YtmajllgfmclcoaaGreat.Euler

namespace Go.Proofs.YtmajllgfmclcoaaGreat.Euler
set_option linter.unusedVariables false

def gE (k : Nat) : Nat × Nat := if k < 90 then (10 * (k / 9) + k % 9, 10 * (k / 9) + k % 9 + 1) else (10 * ((k - 90) / 10) + (k - 90) % 10, 10 * ((k - 90) / 10) + (k - 90) % 10 + 10)
def gD (k : Nat) : Nat × Nat :=
 if k < 90 then (if k / 9 = 0 then 81 else 9 * (k / 9 - 1) + k % 9, if k / 9 = 9 then 81 else 9 * (k / 9) + k % 9)
 else (if (k - 90) % 10 = 0 then 81 else 9 * ((k - 90) / 10) + (k - 90) % 10 - 1, if (k - 90) % 10 = 9 then 81 else 9 * ((k - 90) / 10) + (k - 90) % 10)
theorem gE_lt : ∀ k, k < 180 → (gE k).1 < 100 ∧ (gE k).2 < 100 := by decide +kernel
def inR (c : Nat → Bool) (k : Nat) : Bool := c (gE k).1 && c (gE k).2
def eR (c : Nat → Bool) : List Nat := (List.range 180).filter (inR c)
def eO (c : Nat → Bool) : List Nat := (List.range 180).filter (fun k => !inR c k)
end Go.Proofs.YtmajllgfmclcoaaGreat.Euler
