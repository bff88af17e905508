/- FlpQ, HgtP, HgtT in one text. -/
import Derived.Test.YtmajllgfmclcoaaGreatDoorMd04
import Derived.Test.YtmajllgfmclcoaaGreatDoorMd02
set_option linter.unusedVariables false
set_option linter.unusedSimpArgs false
namespace Go.Proofs.YtmajllgfmclcoaaGreatDoor.Flp
open Go.RowKit Go.Proofs.YtmajllgfmclcoaaGreatDoor.Pure Go.Proofs.YtmajllgfmclcoaaGreatDoor.Cell Dom Dms Til Grd Go.Joins
open KuL (inc_nodup)
theorem wrap_in {x : Int} (h0 : 0 ≤ x) (h1 : x ≤ 7) : wrap64 (x + 1) = x + 1 := by unfold wrap64; omega
theorem ok_of {x y : Int} {b : Bool} (h0 : 0 ≤ x) (h1 : x ≤ 7) (h2 : 0 ≤ y) (h3 : y ≤ 7) (h4 : b = false → x ≤ 6) (h5 : b = true → y ≤ 6) : okM (x, y, b) = true := by
 unfold okM domB
 rw [Bool.and_eq_true, okB_iff, okB_iff]
 refine ⟨⟨h0, h1, h2, h3⟩, ?_⟩
 show 0 ≤ sx x b ∧ sx x b ≤ 7 ∧ 0 ≤ sy y b ∧ sy y b ≤ 7
 unfold sx sy
 cases b with
 | false =>
  have := h4 rfl
  rw [if_neg (by simp), if_neg (by simp), wrap_in h0 h1]; omega
 | true =>
  have := h5 rfl
  rw [if_pos rfl, if_pos rfl, wrap_in h2 h3]; omega
section
variable {x y : Int}
theorem ok1 (h : 0 ≤ x ∧ x ≤ 6 ∧ 0 ≤ y ∧ y ≤ 6) (b : Bool) : okM (pr1 x y b) = true := by
 obtain ⟨a, b', c, d⟩ := h
 unfold pr1
 exact ok_of a (by omega) c (by omega) (fun _ => b') (fun _ => d)
theorem ok2 (h : 0 ≤ x ∧ x ≤ 6 ∧ 0 ≤ y ∧ y ≤ 6) (b : Bool) : okM (pr2 x y b) = true := by
 obtain ⟨a, b', c, d⟩ := h
 unfold pr2
 cases b with
 | false => exact ok_of a (by omega) (by omega) (by omega) (fun _ => b') (fun e => by cases e)
 | true => exact ok_of (by omega) (by omega) c (by omega) (fun e => by cases e) (fun _ => d)
theorem cov_pair (h : 0 ≤ x ∧ x ≤ 6 ∧ 0 ≤ y ∧ y ≤ 6) (b : Bool) (u v : Int) : (covM (pr1 x y b) u v = true ∨ covM (pr2 x y b) u v = true) ↔ (u = x ∨ u = x + 1) ∧ (v = y ∨ v = y + 1) := by
 have o1 := ok1 h b
 have o2 := ok2 h b
 unfold covM covP
 rw [o1, o2]
 simp only [Bool.true_and, Bool.or_eq_true, eqB_iff]
 unfold pr1 pr2 sx sy
 cases b with
 | false =>
  simp only [Bool.false_eq_true, if_false]
  rw [wrap_in (x := x) (by omega) (by omega)]
  omega
 | true =>
  simp only [if_true]
  rw [wrap_in (x := y) (by omega) (by omega)]
  omega
theorem pair_apart (b : Bool) {u v : Int} (h1 : covM (pr1 x y b) u v = true) (h2 : covM (pr2 x y b) u v = true) : False := by
 have q1 := (cov_two h1).2
 have q2 := (cov_two h2).2
 unfold pr1 at q1
 unfold pr2 at q2
 unfold sx sy at q1 q2
 cases b with
 | false =>
  simp only [Bool.false_eq_true, if_false] at q1 q2
  omega
 | true =>
  simp only [if_true] at q1 q2
  omega
theorem pair_ne (b : Bool) : pr1 x y b ≠ pr2 x y b := by
 unfold pr1 pr2
 cases b with
 | false => intro e; simp at e; omega
 | true => intro e; simp at e; omega
theorem cross (b : Bool) : pr1 x y (!b) ≠ pr1 x y b ∧ pr1 x y (!b) ≠ pr2 x y b ∧ pr2 x y (!b) ≠ pr1 x y b ∧ pr2 x y (!b) ≠ pr2 x y b := by
 unfold pr1 pr2
 cases b <;> simp
end
theorem mem_turn {L : List Dm} {x y : Int} {b : Bool} (h : 0 ≤ x ∧ x ≤ 6 ∧ 0 ≤ y ∧ y ≤ 6) (hv : ∀ d ∈ L, okM d = true) {e : Dm} : e ∈ turn L x y b ↔ e = pr1 x y (!b) ∨ e = pr2 x y (!b) ∨ e ∈ oth L x y b := by
 unfold turn
 rw [(sortM_good _).2, List.mem_cons, List.mem_cons]
 constructor
 ·exact fun q => q.1
 ·intro q
  refine ⟨q, ?_⟩
  rcases q with rfl | rfl | q
  ·exact ok1 h _
  ·exact ok2 h _
  ·exact hv e (mem_oth.1 q).1
section
variable {xs : List Int} {L : List Dm} {x y : Int} {b : Bool}
theorem four (hp : partB xs L = true) (h6 : 0 ≤ x ∧ x ≤ 6 ∧ 0 ≤ y ∧ y ≤ 6) (hb : has2 L x y b = true) {d : Dm} (hd : d ∈ L) {u v : Int} (hc : covM d u v = true) (h4 : (u = x ∨ u = x + 1) ∧ (v = y ∨ v = y + 1)) : d = pr1 x y b ∨ d = pr2 x y b := by
 obtain ⟨m1, m2⟩ := has2_iff.1 hb
 rcases (cov_pair h6 b u v).2 h4 with q | q
 ·exact .inl (part_dj hp d hd _ m1 u v hc q)
 ·exact .inr (part_dj hp d hd _ m2 u v hc q)
theorem oth_four (hp : partB xs L = true) (h6 : 0 ≤ x ∧ x ≤ 6 ∧ 0 ≤ y ∧ y ≤ 6) (hb : has2 L x y b = true) {d : Dm} (hd : d ∈ oth L x y b) {u v : Int} (hc : covM d u v = true) : ¬ ((u = x ∨ u = x + 1) ∧ (v = y ∨ v = y + 1)) := fun h4 => by
 obtain ⟨m, n1, n2⟩ := mem_oth.1 hd
 rcases four hp h6 hb m hc h4 with e | e
 ·exact n1 e
 ·exact n2 e
theorem not_other (hp : partB xs L = true) (h6 : 0 ≤ x ∧ x ≤ 6 ∧ 0 ≤ y ∧ y ≤ 6) (hb : has2 L x y b = true) : pr1 x y (!b) ∉ L ∧ pr2 x y (!b) ∉ L := by
 obtain ⟨c1, c2, c3, c4⟩ := cross b
 have k1 : covM (pr1 x y (!b)) (pr1 x y (!b)).1 (pr1 x y (!b)).2.1 = true := cov_of (ok1 h6 _) (.inl ⟨rfl, rfl⟩)
 have k2 : covM (pr2 x y (!b)) (pr2 x y (!b)).1 (pr2 x y (!b)).2.1 = true := cov_of (ok2 h6 _) (.inl ⟨rfl, rfl⟩)
 constructor
 ·intro hm
  rcases four hp h6 hb hm k1 ((cov_pair h6 (!b) _ _).1 (.inl k1)) with e | e
  ·exact c1 e
  ·exact c2 e
 ·intro hm
  rcases four hp h6 hb hm k2 ((cov_pair h6 (!b) _ _).1 (.inr k2)) with e | e
  ·exact c3 e
  ·exact c4 e
theorem turn_dj (hp : partB xs L = true) (h6 : 0 ≤ x ∧ x ≤ 6 ∧ 0 ≤ y ∧ y ≤ 6) (hb : has2 L x y b = true) : Dj (turn L x y b) := by
 have hv := part_valid hp
 have key : ∀ d ∈ oth L x y b, ∀ e, (e = pr1 x y (!b) ∨ e = pr2 x y (!b)) → ∀ u v, covM d u v = true → covM e u v = true → False := fun d hd e he u v h1 h2 => by
  refine oth_four hp h6 hb hd h1 ((cov_pair h6 (!b) u v).1 ?_)
  rcases he with rfl | rfl
  ·exact .inl h2
  ·exact .inr h2
 intro d hd e he u v h1 h2
 rw [mem_turn h6 hv] at hd he
 rcases hd with rfl | rfl | hd
 ·rcases he with rfl | rfl | he
  ·rfl
  ·exact (pair_apart _ h1 h2).elim
  ·exact (key e he _ (.inl rfl) u v h2 h1).elim
 ·rcases he with rfl | rfl | he
  ·exact (pair_apart _ h2 h1).elim
  ·rfl
  ·exact (key e he _ (.inr rfl) u v h2 h1).elim
 ·rcases he with rfl | rfl | he
  ·exact (key d hd _ (.inl rfl) u v h1 h2).elim
  ·exact (key d hd _ (.inr rfl) u v h1 h2).elim
  ·exact part_dj hp d (mem_oth.1 hd).1 e (mem_oth.1 he).1 u v h1 h2
theorem turn_any (hp : partB xs L = true) (h6 : 0 ≤ x ∧ x ≤ 6 ∧ 0 ≤ y ∧ y ≤ 6) (hb : has2 L x y b = true) (u v : Int) : anyM (turn L x y b) u v = anyM L u v := by
 have hv := part_valid hp
 obtain ⟨m1, m2⟩ := has2_iff.1 hb
 rw [Bool.eq_iff_iff]
 unfold anyM
 rw [List.any_eq_true, List.any_eq_true]
 constructor
 ·rintro ⟨d, hd, hc⟩
  rw [mem_turn h6 hv] at hd
  have pair : (covM (pr1 x y (!b)) u v = true ∨ covM (pr2 x y (!b)) u v = true) → ∃ d, d ∈ L ∧ covM d u v = true := fun q => by
   rcases (cov_pair h6 b u v).2 ((cov_pair h6 (!b) u v).1 q) with r | r
   ·exact ⟨_, m1, r⟩
   ·exact ⟨_, m2, r⟩
  rcases hd with rfl | rfl | hd
  ·exact pair (.inl hc)
  ·exact pair (.inr hc)
  ·exact ⟨d, (mem_oth.1 hd).1, hc⟩
 ·rintro ⟨d, hd, hc⟩
  by_cases e : d = pr1 x y b ∨ d = pr2 x y b
  ·have h4 := (cov_pair h6 b u v).1 (by rcases e with rfl | rfl; exact .inl hc; exact .inr hc)
   rcases (cov_pair h6 (!b) u v).2 h4 with r | r
   ·exact ⟨_, (mem_turn h6 hv).2 (.inl rfl), r⟩
   ·exact ⟨_, (mem_turn h6 hv).2 (.inr (.inl rfl)), r⟩
  ·exact ⟨d, (mem_turn h6 hv).2 (.inr (.inr (mem_oth.2 ⟨hd, fun q => e (.inl q), fun q => e (.inr q)⟩))), hc⟩
theorem turn_part (hp : partB xs L = true) (h6 : 0 ≤ x ∧ x ≤ 6 ∧ 0 ≤ y ∧ y ≤ 6) (hb : has2 L x y b = true) : partB xs (turn L x y b) = true := by
 have hv := part_valid hp
 refine part_of (part_iff.1 hp).1 (sortM_good _).1 (fun d hd => ((sortM_good _).2 d).1 hd |>.2) (fun d hd u v hc => ?_) (turn_dj hp h6 hb)
 have := turn_any hp h6 hb u v
 have h1 : anyM (turn L x y b) u v = true := by unfold anyM; rw [List.any_eq_true]; exact ⟨d, hd, hc⟩
 rw [h1] at this
 have this := this.symm
 unfold anyM at this
 rw [List.any_eq_true] at this
 obtain ⟨e, he, hec⟩ := this
 exact part_in hp he hec
theorem turn_til (hp : partB xs L = true) (h6 : 0 ≤ x ∧ x ≤ 6 ∧ 0 ≤ y ∧ y ≤ 6) (hb : has2 L x y b = true) (ht : tilB xs L = true) : tilB xs (turn L x y b) = true := by
 have e : unc (turn L x y b) (cellsR xs) = unc L (cellsR xs) := by
  unfold unc
  refine List.filter_congr (fun c _ => ?_)
  rw [turn_any hp h6 hb]
 rw [tilB_part (turn_part hp h6 hb), e, ← tilB_part hp]
 exact ht
theorem turn_kind (hp : partB xs L = true) (h6 : 0 ≤ x ∧ x ≤ 6 ∧ 0 ≤ y ∧ y ≤ 6) (hb : has2 L x y b = true) : kindN (turn L x y b) x y = if b then 1 else 2 := by
 have hv := part_valid hp
 have h1 : has2 (turn L x y b) x y (!b) = true := has2_iff.2 ⟨(mem_turn h6 hv).2 (.inl rfl), (mem_turn h6 hv).2 (.inr (.inl rfl))⟩
 have h2 : has2 (turn L x y b) x y b = false := by
  apply Bool.eq_false_iff.2
  intro q
  obtain ⟨m, _⟩ := has2_iff.1 q
  obtain ⟨c1, c2, _, _⟩ := cross b
  rw [mem_turn h6 hv] at m
  rcases m with e | e | m
  ·exact c1 e.symm
  ·obtain ⟨_, _, c3, _⟩ := cross b
   exact c3 e.symm
  ·exact (mem_oth.1 m).2.1 rfl
 unfold kindN
 rw [if_pos (in6_iff.2 h6)]
 cases b with
 | false => rw [h2]; rw [show has2 (turn L x y false) x y true = true from h1]; rfl
 | true => rw [show has2 (turn L x y true) x y false = true from h1]; rfl
theorem turn_back (hp : partB xs L = true) (h6 : 0 ≤ x ∧ x ≤ 6 ∧ 0 ≤ y ∧ y ≤ 6) (hb : has2 L x y b = true) : turn (turn L x y b) x y (!b) = L := by
 have hv := part_valid hp
 have hv2 : ∀ d ∈ turn L x y b, okM d = true := fun d hd => ((sortM_good _).2 d).1 hd |>.2
 obtain ⟨m1, m2⟩ := has2_iff.1 hb
 obtain ⟨n1, n2⟩ := not_other hp h6 hb
 refine uniq (sortM_good _).1 (part_inc hp) (fun d => ?_)
 show d ∈ turn (turn L x y b) x y (!b) ↔ d ∈ L
 rw [mem_turn h6 hv2, Bool.not_not, mem_oth, mem_turn h6 hv]
 constructor
 ·rintro (rfl | rfl | ⟨rfl | rfl | h, a, c⟩)
  ·exact m1
  ·exact m2
  ·exact (a rfl).elim
  ·exact (c rfl).elim
  ·exact (mem_oth.1 h).1
 ·intro hd
  by_cases e1 : d = pr1 x y b
  ·exact .inl e1
  ·by_cases e2 : d = pr2 x y b
   ·exact .inr (.inl e2)
   ·exact .inr (.inr ⟨.inr (.inr (mem_oth.2 ⟨hd, e1, e2⟩)), fun q => n1 (q ▸ hd), fun q => n2 (q ▸ hd)⟩)
theorem turn_ne (hp : partB xs L = true) (h6 : 0 ≤ x ∧ x ≤ 6 ∧ 0 ≤ y ∧ y ≤ 6) (hb : has2 L x y b = true) : turn L x y b ≠ L := fun e => by
 have hv := part_valid hp
 obtain ⟨n1, _⟩ := not_other hp h6 hb
 exact n1 (e ▸ (mem_turn h6 hv).2 (.inl rfl))
theorem turn_down (hp : partB xs L = true) (h6 : 0 ≤ x ∧ x ≤ 6 ∧ 0 ≤ y ∧ y ≤ 6) (hb : has2 L x y b = true) : (downR (turn L x y b) : Int) - (downR L : Int) = if b then -2 else 2 := by
 have hv := part_valid hp
 obtain ⟨m1, m2⟩ := has2_iff.1 hb
 have hnL := inc_nodup (part_inc hp)
 have hnO : (oth L x y b).Nodup := List.Pairwise.filter _ hnL
 obtain ⟨n1, n2⟩ := not_other hp h6 hb
 have p1 : (turn L x y b).Perm (pr1 x y (!b) :: pr2 x y (!b) :: oth L x y b) := by
  refine (List.perm_ext_iff_of_nodup (inc_nodup (sortM_good _).1) ?_).2 (fun d => ?_)
  ·refine List.nodup_cons.2 ⟨?_, List.nodup_cons.2 ⟨?_, hnO⟩⟩
   ·rw [List.mem_cons]
    rintro (q | q)
    ·exact pair_ne _ q
    ·exact n1 (mem_oth.1 q).1
   ·exact fun q => n2 (mem_oth.1 q).1
  ·rw [List.mem_cons, List.mem_cons]; exact mem_turn h6 hv
 have p2 : L.Perm (pr1 x y b :: pr2 x y b :: oth L x y b) := by
  refine (List.perm_ext_iff_of_nodup hnL ?_).2 (fun d => ?_)
  ·refine List.nodup_cons.2 ⟨?_, List.nodup_cons.2 ⟨?_, hnO⟩⟩
   ·rw [List.mem_cons]
    rintro (q | q)
    ·exact pair_ne _ q
    ·exact (mem_oth.1 q).2.1 rfl
   ·exact fun q => (mem_oth.1 q).2.2 rfl
  ·rw [List.mem_cons, List.mem_cons, mem_oth]
   constructor
   ·intro hd
    by_cases e1 : d = pr1 x y b
    ·exact .inl e1
    ·by_cases e2 : d = pr2 x y b
     ·exact .inr (.inl e2)
     ·exact .inr (.inr ⟨hd, e1, e2⟩)
   ·rintro (rfl | rfl | q)
    ·exact m1
    ·exact m2
    ·exact q.1
 have e1 := (p1.filter fun d => okM d && d.2.2).length_eq
 have e2 := (p2.filter fun d => okM d && d.2.2).length_eq
 unfold downR
 rw [e1, e2]
 have o : ∀ c, okM (pr1 x y c) = true ∧ okM (pr2 x y c) = true := fun c => ⟨ok1 h6 c, ok2 h6 c⟩
 have s1 : ∀ c, (pr1 x y c).2.2 = c := fun c => rfl
 have s2 : ∀ c, (pr2 x y c).2.2 = c := fun c => by unfold pr2; cases c <;> rfl
 cases b <;> simp [List.filter_cons, (o true).1, (o true).2, (o false).1, (o false).2, s1, s2] <;> omega
end
end Go.Proofs.YtmajllgfmclcoaaGreatDoor.Flp
namespace Go.Proofs.YtmajllgfmclcoaaGreatDoor.Hgt
abbrev Fm := Nat → Nat → Int
def sumTo (f : Nat → Int) : Nat → Int
 | 0 => 0
 | n + 1 => sumTo f n + f n
def kap (H V : Fm) (i j : Nat) : Int := H i j + V (i + 1) j - H i (j + 1) - V i j
def pot (H V : Fm) (i j : Nat) : Int := sumTo (fun a => H a 0) i + sumTo (fun b => V i b) j
theorem pot_V (H V : Fm) (i j : Nat) : pot H V i (j + 1) = pot H V i j + V i j := by
 unfold pot
 show _ + (sumTo (fun b => V i b) j + V i j) = _
 omega
theorem pot_H {H V : Fm} (h : ∀ i j, i < 10 → j < 10 → kap H V i j = 0) {i : Nat} (hi : i < 10) : ∀ j, j ≤ 10 → pot H V (i + 1) j = pot H V i j + H i j
 | 0, _ => by
  unfold pot
  show sumTo (fun a => H a 0) i + H i 0 + 0 = sumTo (fun a => H a 0) i + 0 + H i 0
  omega
 | j + 1, hj => by
  have ih := pot_H h hi j (by omega)
  have hk := h i j hi (by omega)
  rw [pot_V, pot_V, ih]
  unfold kap at hk
  omega
def nb (c d : Nat × Nat) : Prop := (c.2 = d.2 ∧ (d.1 = c.1 + 1 ∨ c.1 = d.1 + 1)) ∨ (c.1 = d.1 ∧ (d.2 = c.2 + 1 ∨ c.2 = d.2 + 1))
def Ag (R : Nat → Nat → Bool) (H V H' V' : Fm) : Prop :=
 (∀ i j, ¬ (R i j = true ∧ R (i + 1) j = true) → V' (i + 1) j = V (i + 1) j) ∧ ∀ i j, ¬ (R i j = true ∧ R i (j + 1) = true) → H' i (j + 1) = H i (j + 1)
theorem Ag.refl (R : Nat → Nat → Bool) (H V : Fm) : Ag R H V H V := ⟨fun _ _ _ => rfl, fun _ _ _ => rfl⟩
theorem Ag.trans {R : Nat → Nat → Bool} {H V H1 V1 H2 V2 : Fm} (h : Ag R H V H1 V1) (k : Ag R H1 V1 H2 V2) : Ag R H V H2 V2 :=
 ⟨fun i j q => (k.1 i j q).trans (h.1 i j q), fun i j q => (k.2 i j q).trans (h.2 i j q)⟩
def setF (F : Fm) (a b : Nat) (x : Int) : Fm := fun i j => if i = a ∧ j = b then x else F i j
theorem setF_at (F : Fm) (a b : Nat) (x : Int) : setF F a b x a b = x := if_pos ⟨rfl, rfl⟩
theorem setF_ne {F : Fm} {a b i j : Nat} {x : Int} (h : ¬ (i = a ∧ j = b)) : setF F a b x i j = F i j := if_neg h
theorem carry {R : Nat → Nat → Bool} (H V : Fm) {c d : Nat × Nat} (hn : nb c d) (hc : R c.1 c.2 = true) (hd : R d.1 d.2 = true) :
  ∃ H' V', Ag R H V H' V' ∧ kap H' V' c.1 c.2 = 0 ∧ ∀ i j, (i, j) ≠ c → (i, j) ≠ d → kap H' V' i j = kap H V i j := by
 obtain ⟨a, b⟩ := c
 obtain ⟨a', b'⟩ := d
 unfold nb at hn
 simp only at hn hc hd
 rcases hn with ⟨rfl, rfl | rfl⟩ | ⟨rfl, rfl | rfl⟩
 ·-- to the right
  refine ⟨H, setF V (a + 1) b (V (a + 1) b - kap H V a b), ⟨fun i j q => setF_ne (fun e => ?_), fun _ _ _ => rfl⟩, ?_, fun i j h1 h2 => ?_⟩
  ·obtain ⟨e1, rfl⟩ := e
   have : i = a := by omega
   subst this
   exact q ⟨hc, hd⟩
  ·show H a b + setF V (a + 1) b _ (a + 1) b - H a (b + 1) - setF V (a + 1) b _ a b = 0
   rw [setF_at, setF_ne (by omega)]
   unfold kap
   omega
  ·unfold kap
   rw [setF_ne (fun e => h1 (by rw [show i = a by omega, e.2])), setF_ne (fun e => h2 (by rw [e.1, e.2]))]
 ·-- to the left
  refine ⟨H, setF V (a' + 1) b (V (a' + 1) b + kap H V (a' + 1) b), ⟨fun i j q => setF_ne (fun e => ?_), fun _ _ _ => rfl⟩, ?_, fun i j h1 h2 => ?_⟩
  ·obtain ⟨e1, rfl⟩ := e
   have : i = a' := by omega
   subst this
   exact q ⟨hd, hc⟩
  ·show H (a' + 1) b + setF V (a' + 1) b _ (a' + 1 + 1) b - H (a' + 1) (b + 1) - setF V (a' + 1) b _ (a' + 1) b = 0
   rw [setF_at, setF_ne (by omega)]
   unfold kap
   omega
  ·unfold kap
   rw [setF_ne (fun e => h2 (by rw [show i = a' by omega, e.2])), setF_ne (fun e => h1 (by rw [e.1, e.2]))]
 ·-- down
  refine ⟨setF H a (b + 1) (H a (b + 1) + kap H V a b), V, ⟨fun _ _ _ => rfl, fun i j q => setF_ne (fun e => ?_)⟩, ?_, fun i j h1 h2 => ?_⟩
  ·obtain ⟨rfl, e2⟩ := e
   have : j = b := by omega
   subst this
   exact q ⟨hc, hd⟩
  ·show setF H a (b + 1) _ a b + V (a + 1) b - setF H a (b + 1) _ a (b + 1) - V a b = 0
   rw [setF_at, setF_ne (by omega)]
   unfold kap
   omega
  ·unfold kap
   rw [setF_ne (fun e => h2 (by rw [e.1, e.2])), setF_ne (fun e => h1 (by rw [e.1, show j = b by omega]))]
 ·-- up
  refine ⟨setF H a (b' + 1) (H a (b' + 1) - kap H V a (b' + 1)), V, ⟨fun _ _ _ => rfl, fun i j q => setF_ne (fun e => ?_)⟩, ?_, fun i j h1 h2 => ?_⟩
  ·obtain ⟨rfl, e2⟩ := e
   have : j = b' := by omega
   subst this
   exact q ⟨hd, hc⟩
  ·show setF H a (b' + 1) _ a (b' + 1) + V (a + 1) (b' + 1) - setF H a (b' + 1) _ a (b' + 1 + 1) - V a (b' + 1) = 0
   rw [setF_at, setF_ne (by omega)]
   unfold kap
   omega
  ·unfold kap
   rw [setF_ne (fun e => h1 (by rw [e.1, e.2])), setF_ne (fun e => h2 (by rw [e.1, show j = b' by omega]))]
inductive Chain (R : Nat → Nat → Bool) (p : Nat × Nat) : List (Nat × Nat) → Prop
 | nil : Chain R p []
 | cons {c : Nat × Nat} {L : List (Nat × Nat)} {d : Nat × Nat} (hL : Chain R p L) (hc : R c.1 c.2 = true) (hd : d ∈ p :: L) (hn : nb c d) (hne : c ∉ p :: L) : Chain R p (c :: L)
theorem Chain.rest {R : Nat → Nat → Bool} {p : Nat × Nat} (hp : R p.1 p.2 = true) {L : List (Nat × Nat)} (h : Chain R p L) : ∀ c ∈ p :: L, R c.1 c.2 = true := by
 induction h with
 | nil => intro c hc; rw [List.mem_singleton.1 hc]; exact hp
 | cons hL hc hd hn hne ih =>
  intro e he
  rcases List.mem_cons.1 he with rfl | he
  ·exact hp
  ·rcases List.mem_cons.1 he with rfl | he
   ·exact hc
   ·exact ih e (List.mem_cons_of_mem _ he)
theorem Chain.clean {R : Nat → Nat → Bool} {p : Nat × Nat} (hp : R p.1 p.2 = true) {L : List (Nat × Nat)} (h : Chain R p L) : ∀ (H V : Fm), (∀ i j, i < 10 → j < 10 → (i, j) ∉ p :: L → kap H V i j = 0) →
  ∃ H' V', Ag R H V H' V' ∧ ∀ i j, i < 10 → j < 10 → (i, j) ≠ p → kap H' V' i j = 0 := by
 induction h with
 | nil => exact fun H V hk => ⟨H, V, Ag.refl R H V, fun i j hi hj hne => hk i j hi hj (fun q => hne (List.mem_singleton.1 q))⟩
 | @cons c L d hL hc hd hn hne ih =>
  intro H V hk
  obtain ⟨H1, V1, a1, a2, a3⟩ := carry H V hn hc (hL.rest hp d hd)
  obtain ⟨H2, V2, b1, b2⟩ := ih H1 V1 (fun i j hi hj hni => by
   by_cases e : (i, j) = c
   ·have e1 : i = c.1 := by rw [← e]
    have e2 : j = c.2 := by rw [← e]
    rw [e1, e2]; exact a2
   ·rw [a3 i j e (fun q => hni (q ▸ hd))]
    refine hk i j hi hj (fun q => ?_)
    rcases List.mem_cons.1 q with q | q
    ·exact hni (q ▸ List.mem_cons_self)
    ·rcases List.mem_cons.1 q with q | q
     ·exact e q
     ·exact hni (List.mem_cons_of_mem _ q))
  exact ⟨H2, V2, a1.trans b1, b2⟩
theorem carried {R : Nat → Nat → Bool} (hp : R 0 0 = true) {L : List (Nat × Nat)} (h : Chain R (0, 0) L) (hall : ∀ i j, i < 10 → j < 10 → R i j = true → (i, j) ∈ (0, 0) :: L) (H V : Fm) (hk : ∀ i j, i < 10 → j < 10 → R i j = false → kap H V i j = 0) :
  ∃ H' V', Ag R H V H' V' ∧ ∀ i j, i < 10 → j < 10 → kap H' V' i j = 0 := by
 obtain ⟨H1, V1, a1, a2⟩ := h.clean hp H V (fun i j hi hj hn => hk i j hi hj (by
  cases q : R i j with
  | false => rfl
  | true => exact absurd (hall i j hi hj q) hn))
 refine ⟨setF H1 0 0 (H1 0 0 - kap H1 V1 0 0), V1, ⟨a1.1, fun i j q => ?_⟩, fun i j hi hj => ?_⟩
 ·rw [setF_ne (by omega)]; exact a1.2 i j q
 ·by_cases e : i = 0 ∧ j = 0
  ·obtain ⟨rfl, rfl⟩ := e
   show setF H1 0 0 _ 0 0 + V1 (0 + 1) 0 - setF H1 0 0 _ 0 (0 + 1) - V1 0 0 = 0
   rw [setF_at, setF_ne (by omega)]
   unfold kap
   omega
  ·have := a2 i j hi hj (fun q => e (by injection q with q1 q2; exact ⟨q1, q2⟩))
   unfold kap at this ⊢
   rw [setF_ne e, setF_ne (by omega)]
   exact this
theorem short (L : List (Nat × Nat)) (hn : L.Nodup) (hl : ∀ c ∈ L, c.1 < 10 ∧ c.2 < 10) : L.length ≤ 100 := by
 have h1 : (L.map fun c => 10 * c.2 + c.1).Nodup := by
  unfold List.Nodup at hn ⊢
  rw [List.pairwise_map]
  exact hn.imp_of_mem (fun {a b} ha hb hab e => hab (by
   have := hl a ha
   have := hl b hb
   exact Prod.ext (by omega) (by omega)))
 have h2 := List.Nodup.length_le_of_subset h1 (l₂ := List.range 100) (fun x hx => by
  obtain ⟨c, hc, rfl⟩ := List.mem_map.1 hx
  have := hl c hc
  exact List.mem_range.2 (by omega))
 rw [List.length_map, List.length_range] at h2
 exact h2
theorem chain_all {R : Nat → Nat → Bool} (hin : ∀ i j, R i j = true → i < 10 ∧ j < 10) (hp : R 0 0 = true)
  (hone : ∀ Z : Nat × Nat → Prop, Z (0, 0) → (∀ c d, Z c → R d.1 d.2 = true → nb d c → Z d) → ∀ d, R d.1 d.2 = true → Z d) :
  ∃ L, Chain R (0, 0) L ∧ ∀ i j, i < 10 → j < 10 → R i j = true → (i, j) ∈ (0, 0) :: L := by
 have key : ∀ n (L : List (Nat × Nat)), Chain R (0, 0) L → ((0, 0) :: L).Nodup → 101 ≤ n + ((0, 0) :: L).length → ∃ L, Chain R (0, 0) L ∧ ∀ i j, i < 10 → j < 10 → R i j = true → (i, j) ∈ (0, 0) :: L := by
  intro n
  induction n with
  | zero =>
   intro L hL hn hl
   have := short _ hn (fun c hc => hin _ _ (hL.rest hp c hc))
   omega
  | succ n ih =>
   intro L hL hn hl
   by_cases hcl : ∀ c d, c ∈ (0, 0) :: L → R d.1 d.2 = true → nb d c → d ∈ (0, 0) :: L
   ·exact ⟨L, hL, fun i j _ _ hR => hone (fun c => c ∈ (0, 0) :: L) List.mem_cons_self hcl (i, j) hR⟩
   ·have : ∃ c d, c ∈ (0, 0) :: L ∧ R d.1 d.2 = true ∧ nb d c ∧ d ∉ (0, 0) :: L := by
     refine Classical.byContradiction fun q => hcl (fun c d h1 h2 h3 => Classical.byContradiction fun h4 => q ⟨c, d, h1, h2, h3, h4⟩)
    obtain ⟨c, d, h1, h2, h3, h4⟩ := this
    refine ih (d :: L) (Chain.cons hL h2 h1 h3 h4) ?_ (by simp at hl ⊢; omega)
    obtain ⟨n1, n2⟩ := List.nodup_cons.1 hn
    refine List.nodup_cons.2 ⟨fun q => ?_, List.nodup_cons.2 ⟨fun q => h4 (List.mem_cons_of_mem _ q), n2⟩⟩
    rcases List.mem_cons.1 q with q | q
    ·exact h4 (q ▸ List.mem_cons_self)
    ·exact n1 q
 exact key 101 [] Chain.nil (List.nodup_cons.2 ⟨by simp, List.nodup_nil⟩) (by simp)
end Go.Proofs.YtmajllgfmclcoaaGreatDoor.Hgt
namespace Go.Proofs.YtmajllgfmclcoaaGreatDoor.Hgt
def sg (i j : Nat) : Int := if (i + j) % 2 = 0 then 1 else -1
theorem sg_r (i j : Nat) : sg (i + 1) j = - sg i j := by unfold sg; split <;> split <;> omega
theorem sg_d (i j : Nat) : sg i (j + 1) = - sg i j := by unfold sg; split <;> split <;> omega
theorem sg_one (i j : Nat) : sg i j = 1 ∨ sg i j = -1 := by unfold sg; split <;> simp
def bi (b : Bool) : Int := if b then 1 else 0
theorem bi_or (b : Bool) : bi b = 0 ∨ bi b = 1 := by cases b <;> simp [bi]
theorem bi_1 {b : Bool} : bi b = 1 ↔ b = true := by cases b <;> simp [bi]
theorem bi_0 {b : Bool} : bi b = 0 ↔ b = false := by cases b <;> simp [bi]
abbrev Cx := Nat → Nat → Bool
structure Tl (G : Nat → Nat → Bool) (X Y : Cx) : Prop where
 top : ∀ i, X i 0 = false
 lft : ∀ j, Y 0 j = false
 dn : ∀ i j, X i (j + 1) = true → G i j = true ∧ G i (j + 1) = true
 rt : ∀ i j, Y (i + 1) j = true → G i j = true ∧ G (i + 1) j = true
 one : ∀ i j, G i j = true → bi (X i j) + bi (Y (i + 1) j) + bi (X i (j + 1)) + bi (Y i j) = 1
 out : ∀ i j, G i j = true → 1 ≤ i ∧ i ≤ 8 ∧ 1 ≤ j ∧ j ≤ 8
section
variable {G : Nat → Nat → Bool} {X Y X' Y' : Cx}
theorem Tl.none (h : Tl G X Y) {i j : Nat} (hg : G i j = false) : X i j = false ∧ Y (i + 1) j = false ∧ X i (j + 1) = false ∧ Y i j = false := by
 refine ⟨?_, ?_, ?_, ?_⟩
 ·cases j with
  | zero => exact h.top i
  | succ j =>
   cases q : X i (j + 1) with
   | false => rfl
   | true => have := (h.dn i j q).2; rw [hg] at this; cases this
 ·cases q : Y (i + 1) j with
  | false => rfl
  | true => have := (h.rt i j q).1; rw [hg] at this; cases this
 ·cases q : X i (j + 1) with
  | false => rfl
  | true => have := (h.dn i j q).1; rw [hg] at this; cases this
 ·cases i with
  | zero => exact h.lft j
  | succ i =>
   cases q : Y (i + 1) j with
   | false => rfl
   | true => have := (h.rt i j q).2; rw [hg] at this; cases this
def wH (X : Cx) : Fm := fun i j => - sg i j * (1 - 4 * bi (X i j))
def wV (Y : Cx) : Fm := fun i j => sg i j * (1 - 4 * bi (Y i j))
theorem Tl.kap (h : Tl G X Y) {i j : Nat} (hg : G i j = true) : kap (wH X) (wV Y) i j = 0 := by
 have h1 := h.one i j hg
 unfold Hgt.kap wH wV
 rw [sg_r, sg_d]
 rcases sg_one i j with e | e <;> rw [e] <;> omega
structure Hts (G : Nat → Nat → Bool) (X Y : Cx) (h : Fm) : Prop where
 hor : ∀ i j, i < 10 → j < 10 → (G i j = true ∨ G i (j + 1) = true) → h (i + 1) (j + 1) = h i (j + 1) + wH X i (j + 1)
 ver : ∀ i j, i < 10 → j < 10 → (G i j = true ∨ G (i + 1) j = true) → h (i + 1) (j + 1) = h (i + 1) j + wV Y (i + 1) j
theorem heights (h : Tl G X Y) {L : List (Nat × Nat)} (hc : Chain (fun i j => decide (i < 10) && decide (j < 10) && !G i j) (0, 0) L)
  (hall : ∀ i j, i < 10 → j < 10 → (decide (i < 10) && decide (j < 10) && !G i j) = true → (i, j) ∈ (0, 0) :: L) : ∃ f, Hts G X Y f := by
 have h00 : G 0 0 = false := by
  cases q : G 0 0 with
  | false => rfl
  | true => have := h.out 0 0 q; omega
 obtain ⟨H, V, a, k⟩ := carried (by simp [h00]) hc hall (wH X) (wV Y) (fun i j hi hj hr => h.kap (by
  cases q : G i j with
  | true => rfl
  | false => simp [hi, hj, q] at hr))
 refine ⟨pot H V, fun i j hi hj hg => ?_, fun i j hi hj hg => ?_⟩
 ·rw [pot_H k hi (j + 1) (by omega), a.2 i j (fun q => ?_)]
  simp only [Bool.and_eq_true, Bool.not_eq_true'] at q
  rcases hg with e | e
  ·rw [q.1.2] at e; cases e
  ·rw [q.2.2] at e; cases e
 ·rw [pot_V, a.1 i j (fun q => ?_)]
  simp only [Bool.and_eq_true, Bool.not_eq_true'] at q
  rcases hg with e | e
  ·rw [q.1.2] at e; cases e
  ·rw [q.2.2] at e; cases e
def eH (X X' : Cx) : Fm := fun i j => sg i j * (bi (X i j) - bi (X' i j))
def eV (Y Y' : Cx) : Fm := fun i j => - sg i j * (bi (Y i j) - bi (Y' i j))
theorem dif_kap (h : Tl G X Y) (h' : Tl G X' Y') (i j : Nat) : kap (eH X X') (eV Y Y') i j = 0 := by
 unfold Hgt.kap eH eV
 rw [sg_r, sg_d]
 cases hg : G i j with
 | true =>
  have h1 := h.one i j hg
  have h2 := h'.one i j hg
  rcases sg_one i j with e | e <;> rw [e] <;> omega
 | false =>
  obtain ⟨a, b, c, d⟩ := h.none hg
  obtain ⟨a', b', c', d'⟩ := h'.none hg
  rw [a, b, c, d, a', b', c', d']
  omega
def dif (X Y X' Y' : Cx) : Fm := pot (eH X X') (eV Y Y')
theorem dif_H (h : Tl G X Y) (h' : Tl G X' Y') {i j : Nat} (hi : i < 10) (hj : j ≤ 10) : dif X Y X' Y' (i + 1) j = dif X Y X' Y' i j + sg i j * (bi (X i j) - bi (X' i j)) :=
 pot_H (fun i j _ _ => dif_kap h h' i j) hi j hj
theorem dif_V (X Y X' Y' : Cx) (i j : Nat) : dif X Y X' Y' i (j + 1) = dif X Y X' Y' i j + - sg i j * (bi (Y i j) - bi (Y' i j)) := pot_V _ _ i j
theorem dif_rest (h : Tl G X Y) (h' : Tl G X' Y')
  (hone : ∀ Z : Nat × Nat → Prop, Z (0, 0) → (∀ c d, Z c → (decide (d.1 < 10) && decide (d.2 < 10) && !G d.1 d.2) = true → nb d c → Z d) → ∀ d : Nat × Nat, (decide (d.1 < 10) && decide (d.2 < 10) && !G d.1 d.2) = true → Z d)
  {i j : Nat} (hi : i < 10) (hj : j < 10) (hg : G i j = false) :
  dif X Y X' Y' i j = 0 ∧ dif X Y X' Y' (i + 1) j = 0 ∧ dif X Y X' Y' i (j + 1) = 0 ∧ dif X Y X' Y' (i + 1) (j + 1) = 0 := by
 -- the four corners of such a cell are alike
 have same : ∀ a b, a < 10 → b < 10 → G a b = false → dif X Y X' Y' (a + 1) b = dif X Y X' Y' a b ∧ dif X Y X' Y' a (b + 1) = dif X Y X' Y' a b ∧ dif X Y X' Y' (a + 1) (b + 1) = dif X Y X' Y' a b := fun a b ha hb hr => by
  obtain ⟨p, q, r, s⟩ := h.none hr
  obtain ⟨p', q', r', s'⟩ := h'.none hr
  have e1 := dif_H h h' (i := a) (j := b) ha (by omega)
  have e2 := dif_V X Y X' Y' a b
  have e3 := dif_H h h' (i := a) (j := b + 1) ha (by omega)
  rw [p, p', Int.sub_self, Int.mul_zero] at e1
  rw [s, s', Int.sub_self, Int.mul_zero] at e2
  rw [r, r', Int.sub_self, Int.mul_zero] at e3
  omega
 have h00 : G 0 0 = false := by
  cases q : G 0 0 with
  | false => rfl
  | true => have := h.out 0 0 q; omega
 have key := hone (fun c => (c.1 < 10 ∧ c.2 < 10 ∧ G c.1 c.2 = false) ∧ dif X Y X' Y' c.1 c.2 = 0) ⟨⟨by omega, by omega, h00⟩, rfl⟩ (fun c d hc hd hn => by
  simp only [Bool.and_eq_true, decide_eq_true_eq, Bool.not_eq_true'] at hd
  obtain ⟨⟨d1, d2⟩, d3⟩ := hd
  obtain ⟨⟨c1, c2, c3⟩, c4⟩ := hc
  refine ⟨⟨d1, d2, d3⟩, ?_⟩
  obtain ⟨p1, p2, p3⟩ := same c.1 c.2 c1 c2 c3
  obtain ⟨q1, q2, q3⟩ := same d.1 d.2 d1 d2 d3
  obtain ⟨ci, cj⟩ := c
  obtain ⟨di, dj⟩ := d
  unfold nb at hn
  simp only at hn p1 p2 p3 q1 q2 q3 c4 ⊢
  rcases hn with ⟨rfl, rfl | rfl⟩ | ⟨rfl, rfl | rfl⟩
  ·omega
  ·omega
  ·omega
  ·omega) (i, j) (by simp [hi, hj, hg])
 have key := key.2
 obtain ⟨a, b, c⟩ := same i j hi hj hg
 simp only at key
 omega
end
end Go.Proofs.YtmajllgfmclcoaaGreatDoor.Hgt
