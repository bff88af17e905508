/- FlpQ, FlpL, WgT in one text. -/
import Derived.Test.YtmenmepdmojnfaaGreatDoorMw17

namespace Go.Proofs.YtmenmepdmojnfaaGreatDoor.Flp
set_option linter.unusedVariables false
set_option linter.unusedSimpArgs false
open Go.RowKit Go.Proofs.YtmenmepdmojnfaaGreatDoor.Pure Go.Proofs.YtmenmepdmojnfaaGreatDoor.Cell Go.Proofs.YtmenmepdmojnfaaGreatDoor.Dom Go.Proofs.YtmenmepdmojnfaaGreatDoor.Dms Go.Proofs.YtmenmepdmojnfaaGreatDoor.Til Go.Proofs.YtmenmepdmojnfaaGreatDoor.Grd Go.Joins
open Go.Proofs.YtmenmepdmojnfaaGreatDoor.KuL (inc_nodup)

theorem wrap_in {x : Int} (h0 : 0 ≤ x) (h1 : x ≤ 7) : wrap64 (x + 1) = x + 1 := by unfold wrap64; omega
theorem ok_of {x y : Int} {b : Bool} (h0 : 0 ≤ x) (h1 : x ≤ 7) (h2 : 0 ≤ y) (h3 : y ≤ 7) (h4 : b = false → x ≤ 6) (h5 : b = true → y ≤ 6) : okM (x, y, b) = true := by
 unfold okM domB
 rw [Bool.and_eq_true, okB_iff, okB_iff]
 refine ⟨⟨h0, h1, h2, h3⟩, ?_⟩
 show 0 ≤ sx x b ∧ sx x b ≤ 7 ∧ 0 ≤ sy y b ∧ sy y b ≤ 7
 unfold sx sy
 cases b with
 | false =>
  have := h4 rfl
  rw [if_neg (by simp), if_neg (by simp), wrap_in h0 h1]; omega
 | true =>
  have := h5 rfl
  rw [if_pos rfl, if_pos rfl, wrap_in h2 h3]; omega
section
variable {x y : Int}
theorem ok1 (h : 0 ≤ x ∧ x ≤ 6 ∧ 0 ≤ y ∧ y ≤ 6) (b : Bool) : okM (pr1 x y b) = true := by
 obtain ⟨a, b', c, d⟩ := h
 unfold pr1
 exact ok_of a (by omega) c (by omega) (fun _ => b') (fun _ => d)
theorem ok2 (h : 0 ≤ x ∧ x ≤ 6 ∧ 0 ≤ y ∧ y ≤ 6) (b : Bool) : okM (pr2 x y b) = true := by
 obtain ⟨a, b', c, d⟩ := h
 unfold pr2
 cases b with
 | false => exact ok_of a (by omega) (by omega) (by omega) (fun _ => b') (fun e => by cases e)
 | true => exact ok_of (by omega) (by omega) c (by omega) (fun e => by cases e) (fun _ => d)
theorem cov_pair (h : 0 ≤ x ∧ x ≤ 6 ∧ 0 ≤ y ∧ y ≤ 6) (b : Bool) (u v : Int) : (covM (pr1 x y b) u v = true ∨ covM (pr2 x y b) u v = true) ↔ (u = x ∨ u = x + 1) ∧ (v = y ∨ v = y + 1) := by
 have o1 := ok1 h b
 have o2 := ok2 h b
 unfold covM covP
 rw [o1, o2]
 simp only [Bool.true_and, Bool.or_eq_true, eqB_iff]
 unfold pr1 pr2 sx sy
 cases b with
 | false =>
  simp only [Bool.false_eq_true, if_false]
  rw [wrap_in (x := x) (by omega) (by omega)]
  omega
 | true =>
  simp only [if_true]
  rw [wrap_in (x := y) (by omega) (by omega)]
  omega
theorem pair_apart (b : Bool) {u v : Int} (h1 : covM (pr1 x y b) u v = true) (h2 : covM (pr2 x y b) u v = true) : False := by
 have q1 := (cov_two h1).2
 have q2 := (cov_two h2).2
 unfold pr1 at q1
 unfold pr2 at q2
 unfold sx sy at q1 q2
 cases b with
 | false =>
  simp only [Bool.false_eq_true, if_false] at q1 q2
  omega
 | true =>
  simp only [if_true] at q1 q2
  omega
theorem pair_ne (b : Bool) : pr1 x y b ≠ pr2 x y b := by
 unfold pr1 pr2
 cases b with
 | false => intro e; simp at e; omega
 | true => intro e; simp at e; omega
theorem cross (b : Bool) : pr1 x y (!b) ≠ pr1 x y b ∧ pr1 x y (!b) ≠ pr2 x y b ∧ pr2 x y (!b) ≠ pr1 x y b ∧ pr2 x y (!b) ≠ pr2 x y b := by
 unfold pr1 pr2
 cases b <;> simp
end
theorem mem_turn {L : List Dm} {x y : Int} {b : Bool} (h : 0 ≤ x ∧ x ≤ 6 ∧ 0 ≤ y ∧ y ≤ 6) (hv : ∀ d ∈ L, okM d = true) {e : Dm} : e ∈ turn L x y b ↔ e = pr1 x y (!b) ∨ e = pr2 x y (!b) ∨ e ∈ oth L x y b := by
 unfold turn
 rw [(sortM_good _).2, List.mem_cons, List.mem_cons]
 constructor
 ·exact fun q => q.1
 ·intro q
  refine ⟨q, ?_⟩
  rcases q with rfl | rfl | q
  ·exact ok1 h _
  ·exact ok2 h _
  ·exact hv e (mem_oth.1 q).1
section
variable {xs : List Int} {L : List Dm} {x y : Int} {b : Bool}
theorem four (hp : partB xs L = true) (h6 : 0 ≤ x ∧ x ≤ 6 ∧ 0 ≤ y ∧ y ≤ 6) (hb : has2 L x y b = true) {d : Dm} (hd : d ∈ L) {u v : Int} (hc : covM d u v = true) (h4 : (u = x ∨ u = x + 1) ∧ (v = y ∨ v = y + 1)) : d = pr1 x y b ∨ d = pr2 x y b := by
 obtain ⟨m1, m2⟩ := has2_iff.1 hb
 rcases (cov_pair h6 b u v).2 h4 with q | q
 ·exact .inl (part_dj hp d hd _ m1 u v hc q)
 ·exact .inr (part_dj hp d hd _ m2 u v hc q)
theorem oth_four (hp : partB xs L = true) (h6 : 0 ≤ x ∧ x ≤ 6 ∧ 0 ≤ y ∧ y ≤ 6) (hb : has2 L x y b = true) {d : Dm} (hd : d ∈ oth L x y b) {u v : Int} (hc : covM d u v = true) : ¬ ((u = x ∨ u = x + 1) ∧ (v = y ∨ v = y + 1)) := fun h4 => by
 obtain ⟨m, n1, n2⟩ := mem_oth.1 hd
 rcases four hp h6 hb m hc h4 with e | e
 ·exact n1 e
 ·exact n2 e
theorem not_other (hp : partB xs L = true) (h6 : 0 ≤ x ∧ x ≤ 6 ∧ 0 ≤ y ∧ y ≤ 6) (hb : has2 L x y b = true) : pr1 x y (!b) ∉ L ∧ pr2 x y (!b) ∉ L := by
 obtain ⟨c1, c2, c3, c4⟩ := cross b
 have k1 : covM (pr1 x y (!b)) (pr1 x y (!b)).1 (pr1 x y (!b)).2.1 = true := cov_of (ok1 h6 _) (.inl ⟨rfl, rfl⟩)
 have k2 : covM (pr2 x y (!b)) (pr2 x y (!b)).1 (pr2 x y (!b)).2.1 = true := cov_of (ok2 h6 _) (.inl ⟨rfl, rfl⟩)
 constructor
 ·intro hm
  rcases four hp h6 hb hm k1 ((cov_pair h6 (!b) _ _).1 (.inl k1)) with e | e
  ·exact c1 e
  ·exact c2 e
 ·intro hm
  rcases four hp h6 hb hm k2 ((cov_pair h6 (!b) _ _).1 (.inr k2)) with e | e
  ·exact c3 e
  ·exact c4 e
theorem turn_dj (hp : partB xs L = true) (h6 : 0 ≤ x ∧ x ≤ 6 ∧ 0 ≤ y ∧ y ≤ 6) (hb : has2 L x y b = true) : Dj (turn L x y b) := by
 have hv := part_valid hp
 have key : ∀ d ∈ oth L x y b, ∀ e, (e = pr1 x y (!b) ∨ e = pr2 x y (!b)) → ∀ u v, covM d u v = true → covM e u v = true → False := fun d hd e he u v h1 h2 => by
  refine oth_four hp h6 hb hd h1 ((cov_pair h6 (!b) u v).1 ?_)
  rcases he with rfl | rfl
  ·exact .inl h2
  ·exact .inr h2
 intro d hd e he u v h1 h2
 rw [mem_turn h6 hv] at hd he
 rcases hd with rfl | rfl | hd
 ·rcases he with rfl | rfl | he
  ·rfl
  ·exact (pair_apart _ h1 h2).elim
  ·exact (key e he _ (.inl rfl) u v h2 h1).elim
 ·rcases he with rfl | rfl | he
  ·exact (pair_apart _ h2 h1).elim
  ·rfl
  ·exact (key e he _ (.inr rfl) u v h2 h1).elim
 ·rcases he with rfl | rfl | he
  ·exact (key d hd _ (.inl rfl) u v h1 h2).elim
  ·exact (key d hd _ (.inr rfl) u v h1 h2).elim
  ·exact part_dj hp d (mem_oth.1 hd).1 e (mem_oth.1 he).1 u v h1 h2
theorem turn_any (hp : partB xs L = true) (h6 : 0 ≤ x ∧ x ≤ 6 ∧ 0 ≤ y ∧ y ≤ 6) (hb : has2 L x y b = true) (u v : Int) : anyM (turn L x y b) u v = anyM L u v := by
 have hv := part_valid hp
 obtain ⟨m1, m2⟩ := has2_iff.1 hb
 rw [Bool.eq_iff_iff]
 unfold anyM
 rw [List.any_eq_true, List.any_eq_true]
 constructor
 ·rintro ⟨d, hd, hc⟩
  rw [mem_turn h6 hv] at hd
  have pair : (covM (pr1 x y (!b)) u v = true ∨ covM (pr2 x y (!b)) u v = true) → ∃ d, d ∈ L ∧ covM d u v = true := fun q => by
   rcases (cov_pair h6 b u v).2 ((cov_pair h6 (!b) u v).1 q) with r | r
   ·exact ⟨_, m1, r⟩
   ·exact ⟨_, m2, r⟩
  rcases hd with rfl | rfl | hd
  ·exact pair (.inl hc)
  ·exact pair (.inr hc)
  ·exact ⟨d, (mem_oth.1 hd).1, hc⟩
 ·rintro ⟨d, hd, hc⟩
  by_cases e : d = pr1 x y b ∨ d = pr2 x y b
  ·have h4 := (cov_pair h6 b u v).1 (by rcases e with rfl | rfl; exact .inl hc; exact .inr hc)
   rcases (cov_pair h6 (!b) u v).2 h4 with r | r
   ·exact ⟨_, (mem_turn h6 hv).2 (.inl rfl), r⟩
   ·exact ⟨_, (mem_turn h6 hv).2 (.inr (.inl rfl)), r⟩
  ·exact ⟨d, (mem_turn h6 hv).2 (.inr (.inr (mem_oth.2 ⟨hd, fun q => e (.inl q), fun q => e (.inr q)⟩))), hc⟩
theorem turn_part (hp : partB xs L = true) (h6 : 0 ≤ x ∧ x ≤ 6 ∧ 0 ≤ y ∧ y ≤ 6) (hb : has2 L x y b = true) : partB xs (turn L x y b) = true := by
 have hv := part_valid hp
 refine part_of (part_iff.1 hp).1 (sortM_good _).1 (fun d hd => ((sortM_good _).2 d).1 hd |>.2) (fun d hd u v hc => ?_) (turn_dj hp h6 hb)
 have := turn_any hp h6 hb u v
 have h1 : anyM (turn L x y b) u v = true := by unfold anyM; rw [List.any_eq_true]; exact ⟨d, hd, hc⟩
 rw [h1] at this
 have this := this.symm
 unfold anyM at this
 rw [List.any_eq_true] at this
 obtain ⟨e, he, hec⟩ := this
 exact part_in hp he hec
theorem turn_til (hp : partB xs L = true) (h6 : 0 ≤ x ∧ x ≤ 6 ∧ 0 ≤ y ∧ y ≤ 6) (hb : has2 L x y b = true) (ht : tilB xs L = true) : tilB xs (turn L x y b) = true := by
 have e : unc (turn L x y b) (cellsR xs) = unc L (cellsR xs) := by
  unfold unc
  refine List.filter_congr (fun c _ => ?_)
  rw [turn_any hp h6 hb]
 rw [tilB_part (turn_part hp h6 hb), e, ← tilB_part hp]
 exact ht
theorem turn_kind (hp : partB xs L = true) (h6 : 0 ≤ x ∧ x ≤ 6 ∧ 0 ≤ y ∧ y ≤ 6) (hb : has2 L x y b = true) : kindN (turn L x y b) x y = if b then 1 else 2 := by
 have hv := part_valid hp
 have h1 : has2 (turn L x y b) x y (!b) = true := has2_iff.2 ⟨(mem_turn h6 hv).2 (.inl rfl), (mem_turn h6 hv).2 (.inr (.inl rfl))⟩
 have h2 : has2 (turn L x y b) x y b = false := by
  apply Bool.eq_false_iff.2
  intro q
  obtain ⟨m, _⟩ := has2_iff.1 q
  obtain ⟨c1, c2, _, _⟩ := cross b
  rw [mem_turn h6 hv] at m
  rcases m with e | e | m
  ·exact c1 e.symm
  ·obtain ⟨_, _, c3, _⟩ := cross b
   exact c3 e.symm
  ·exact (mem_oth.1 m).2.1 rfl
 unfold kindN
 rw [if_pos (in6_iff.2 h6)]
 cases b with
 | false => rw [h2]; rw [show has2 (turn L x y false) x y true = true from h1]; rfl
 | true => rw [show has2 (turn L x y true) x y false = true from h1]; rfl
theorem turn_back (hp : partB xs L = true) (h6 : 0 ≤ x ∧ x ≤ 6 ∧ 0 ≤ y ∧ y ≤ 6) (hb : has2 L x y b = true) : turn (turn L x y b) x y (!b) = L := by
 have hv := part_valid hp
 have hv2 : ∀ d ∈ turn L x y b, okM d = true := fun d hd => ((sortM_good _).2 d).1 hd |>.2
 obtain ⟨m1, m2⟩ := has2_iff.1 hb
 obtain ⟨n1, n2⟩ := not_other hp h6 hb
 refine uniq (sortM_good _).1 (part_inc hp) (fun d => ?_)
 show d ∈ turn (turn L x y b) x y (!b) ↔ d ∈ L
 rw [mem_turn h6 hv2, Bool.not_not, mem_oth, mem_turn h6 hv]
 constructor
 ·rintro (rfl | rfl | ⟨rfl | rfl | h, a, c⟩)
  ·exact m1
  ·exact m2
  ·exact (a rfl).elim
  ·exact (c rfl).elim
  ·exact (mem_oth.1 h).1
 ·intro hd
  by_cases e1 : d = pr1 x y b
  ·exact .inl e1
  ·by_cases e2 : d = pr2 x y b
   ·exact .inr (.inl e2)
   ·exact .inr (.inr ⟨.inr (.inr (mem_oth.2 ⟨hd, e1, e2⟩)), fun q => n1 (q ▸ hd), fun q => n2 (q ▸ hd)⟩)
theorem turn_ne (hp : partB xs L = true) (h6 : 0 ≤ x ∧ x ≤ 6 ∧ 0 ≤ y ∧ y ≤ 6) (hb : has2 L x y b = true) : turn L x y b ≠ L := fun e => by
 have hv := part_valid hp
 obtain ⟨n1, _⟩ := not_other hp h6 hb
 exact n1 (e ▸ (mem_turn h6 hv).2 (.inl rfl))
theorem turn_down (hp : partB xs L = true) (h6 : 0 ≤ x ∧ x ≤ 6 ∧ 0 ≤ y ∧ y ≤ 6) (hb : has2 L x y b = true) : (downR (turn L x y b) : Int) - (downR L : Int) = if b then -2 else 2 := by
 have hv := part_valid hp
 obtain ⟨m1, m2⟩ := has2_iff.1 hb
 have hnL := inc_nodup (part_inc hp)
 have hnO : (oth L x y b).Nodup := List.Pairwise.filter _ hnL
 obtain ⟨n1, n2⟩ := not_other hp h6 hb
 have p1 : (turn L x y b).Perm (pr1 x y (!b) :: pr2 x y (!b) :: oth L x y b) := by
  refine (List.perm_ext_iff_of_nodup (inc_nodup (sortM_good _).1) ?_).2 (fun d => ?_)
  ·refine List.nodup_cons.2 ⟨?_, List.nodup_cons.2 ⟨?_, hnO⟩⟩
   ·rw [List.mem_cons]
    rintro (q | q)
    ·exact pair_ne _ q
    ·exact n1 (mem_oth.1 q).1
   ·exact fun q => n2 (mem_oth.1 q).1
  ·rw [List.mem_cons, List.mem_cons]; exact mem_turn h6 hv
 have p2 : L.Perm (pr1 x y b :: pr2 x y b :: oth L x y b) := by
  refine (List.perm_ext_iff_of_nodup hnL ?_).2 (fun d => ?_)
  ·refine List.nodup_cons.2 ⟨?_, List.nodup_cons.2 ⟨?_, hnO⟩⟩
   ·rw [List.mem_cons]
    rintro (q | q)
    ·exact pair_ne _ q
    ·exact (mem_oth.1 q).2.1 rfl
   ·exact fun q => (mem_oth.1 q).2.2 rfl
  ·rw [List.mem_cons, List.mem_cons, mem_oth]
   constructor
   ·intro hd
    by_cases e1 : d = pr1 x y b
    ·exact .inl e1
    ·by_cases e2 : d = pr2 x y b
     ·exact .inr (.inl e2)
     ·exact .inr (.inr ⟨hd, e1, e2⟩)
   ·rintro (rfl | rfl | q)
    ·exact m1
    ·exact m2
    ·exact q.1
 have e1 := (p1.filter fun d => okM d && d.2.2).length_eq
 have e2 := (p2.filter fun d => okM d && d.2.2).length_eq
 unfold downR
 rw [e1, e2]
 have o : ∀ c, okM (pr1 x y c) = true ∧ okM (pr2 x y c) = true := fun c => ⟨ok1 h6 c, ok2 h6 c⟩
 have s1 : ∀ c, (pr1 x y c).2.2 = c := fun c => rfl
 have s2 : ∀ c, (pr2 x y c).2.2 = c := fun c => by unfold pr2; cases c <;> rfl
 cases b <;> simp [List.filter_cons, (o true).1, (o true).2, (o false).1, (o false).2, s1, s2] <;> omega
end
end Go.Proofs.YtmenmepdmojnfaaGreatDoor.Flp

namespace Go.Proofs.YtmenmepdmojnfaaGreatDoor.Flp
set_option linter.unusedVariables false
set_option linter.unusedSimpArgs false
open Go.RowKit Go.Proofs.YtmenmepdmojnfaaGreatDoor.Dms Go.Proofs.YtmenmepdmojnfaaGreatDoor.Til Go.Joins

theorem flips_can {L : List Dm} {c : Int × Int} (h : c ∈ flipsR L) : canB L c.1 c.2 = true := by
 unfold flipsR at h
 obtain ⟨k, hk, rfl⟩ := List.mem_map.1 h
 exact (List.mem_filter.1 hk).2
theorem can_flips {L : List Dm} {x y : Int} (h : canB L x y = true) : (x, y) ∈ flipsR L := by
 have h0 : kindN L x y ≠ 0 := by have := of_decide_eq_true h; omega
 obtain ⟨h6, _⟩ := kind_is h0
 obtain ⟨a0, a1, b0, b1⟩ := in6_iff.1 h6
 unfold flipsR
 have e1 : (((8 * y.toNat + x.toNat) % 8 : Nat) : Int) = x := by omega
 have e2 : (((8 * y.toNat + x.toNat) / 8 : Nat) : Int) = y := by omega
 refine List.mem_map.2 ⟨8 * y.toNat + x.toNat, List.mem_filter.2 ⟨List.mem_range.2 (by omega), ?_⟩, Prod.ext e1 e2⟩
 rw [e1, e2]; exact h
theorem flips_all {xs : List Int} {L : List Dm} {x y : Int} (hL : tilB xs L = true) (hc : canB L x y = true) :
  tilB xs (flipL L x y) = true ∧ canB (flipL L x y) x y = true ∧ flipL (flipL L x y) x y = L ∧ flipL L x y ≠ L ∧ ((downR (flipL L x y) : Int) - (downR L : Int) = 2 ∨ (downR (flipL L x y) : Int) - (downR L : Int) = -2) ∧ flipAllR L [(x, y), (x, y)] = some L := by
 have hp : partB xs L = true := by unfold tilB at hL; rw [Bool.and_eq_true] at hL; exact hL.1
 have h0 : kindN L x y ≠ 0 := by have := of_decide_eq_true hc; omega
 obtain ⟨h6', hb⟩ := kind_is h0
 have h6 := in6_iff.1 h6'
 have e := flip_yes h0
 generalize hbb : decide (kindN L x y = 2) = b at hb e
 have hk := turn_kind hp h6 hb
 have hk2 : kindN (turn L x y b) x y ≠ 0 := by rw [hk]; cases b <;> simp
 have e2 : flipL (turn L x y b) x y = L := by
  rw [flip_yes hk2, hk]
  have := turn_back hp h6 hb
  cases b
  ·exact this
  ·exact this
 have hc2 : canB (turn L x y b) x y = true := decide_eq_true (by omega)
 rw [e]
 refine ⟨turn_til hp h6 hb hL, hc2, e2, turn_ne hp h6 hb, ?_, ?_⟩
 ·have := turn_down hp h6 hb
  cases b
  ·exact .inl this
  ·exact .inr this
 ·have s1 : flipAllR L [(x, y), (x, y)] = if canB L x y then (if canB (flipL L x y) x y then some (flipL (flipL L x y) x y) else none) else none := rfl
  rw [s1, if_pos hc, e, if_pos hc2, e2]
end Go.Proofs.YtmenmepdmojnfaaGreatDoor.Flp

namespace Go.Proofs.YtmenmepdmojnfaaGreatDoor.Wg
set_option linter.unusedVariables false
set_option linter.unusedSimpArgs false
open Go.RowKit Go.Proofs.YtmenmepdmojnfaaGreatDoor.Pure Go.Proofs.YtmenmepdmojnfaaGreatDoor.Dms Go.Proofs.YtmenmepdmojnfaaGreatDoor.Til Go.Proofs.YtmenmepdmojnfaaGreatDoor.Flp Go.Joins
open Go.Proofs.YtmenmepdmojnfaaGreatDoor.Lis (allT all_til all_order Bfr Bfr.ne)

def nxt (all : List (List Dm)) (X : List Dm) : List Nat := (List.range all.length).filter fun j => decide (all[j]? = some X)
def lnk (all : List (List Dm)) (k : Nat) : List Nat := (flipsR (all.getD k [])).flatMap fun c => nxt all (flipL (all.getD k []) c.1 c.2)
def idx (all : List (List Dm)) (X : List Dm) : Nat := (nxt all X).headD 0
theorem getD_at {all : List (List Dm)} {k : Nat} (hk : k < all.length) : all.getD k [] = all[k] := by simp [List.getD, List.getElem?_eq_getElem hk]
theorem filter_one (j : Nat) : ∀ m, j < m → (List.range m).filter (fun i => decide (i = j)) = [j] := by
 intro m
 induction m with
 | zero => intro h; omega
 | succ m ih =>
  intro h
  rw [List.range_succ, List.filter_append]
  by_cases e : j = m
  ·subst e
   rw [List.filter_eq_nil_iff.2 (fun x hx => by have := List.mem_range.1 hx; rw [decide_eq_true_eq]; omega)]
   simp
  ·rw [ih (by omega)]
   have : [m].filter (fun i => decide (i = j)) = [] := by rw [List.filter_eq_nil_iff]; intro x hx; rw [List.mem_singleton.1 hx, decide_eq_true_eq]; omega
   rw [this, List.append_nil]
theorem nxt_mem {all : List (List Dm)} {X : List Dm} {j : Nat} : j ∈ nxt all X ↔ all[j]? = some X := by
 unfold nxt
 rw [List.mem_filter, List.mem_range, decide_eq_true_eq]
 exact ⟨fun h => h.2, fun h => ⟨(List.getElem?_eq_some_iff.1 h).1, h⟩⟩
theorem nxt_one {all : List (List Dm)} (hn : all.Nodup) {j : Nat} (hj : j < all.length) : nxt all all[j] = [j] := by
 unfold nxt
 rw [← filter_one j _ hj]
 refine List.filter_congr fun i hi => ?_
 rw [List.mem_range] at hi
 rw [Bool.eq_iff_iff, decide_eq_true_eq, decide_eq_true_eq, List.getElem?_eq_getElem hi]
 constructor
 ·intro h
  injection h with h
  exact (List.getElem_inj hn).1 h
 ·rintro rfl; rfl
theorem idx_one {all : List (List Dm)} (hn : all.Nodup) {j : Nat} (hj : j < all.length) : idx all all[j] = j := by unfold idx; rw [nxt_one hn hj]; rfl
theorem lnk_mem {all : List (List Dm)} {k j : Nat} (hk : k < all.length) : j ∈ lnk all k ↔ ∃ c, c ∈ flipsR all[k] ∧ all[j]? = some (flipL all[k] c.1 c.2) := by
 unfold lnk
 rw [List.mem_flatMap, getD_at hk]
 constructor
 ·rintro ⟨c, hc, h⟩; exact ⟨c, hc, nxt_mem.1 h⟩
 ·rintro ⟨c, hc, h⟩; exact ⟨c, hc, nxt_mem.2 h⟩
theorem flips_nil : flipsR [] = [] := by
 unfold flipsR
 rw [List.map_eq_nil_iff, List.filter_eq_nil_iff]
 intro k _ h
 unfold canB kindN has2 at h
 simp at h
theorem lnk_lt {all : List (List Dm)} {k j : Nat} (h : j ∈ lnk all k) : j < all.length := by
 unfold lnk at h
 obtain ⟨c, _, h⟩ := List.mem_flatMap.1 h
 exact (List.getElem?_eq_some_iff.1 (nxt_mem.1 h)).1
theorem lnk_out {all : List (List Dm)} {k : Nat} (h : all.length ≤ k) : lnk all k = [] := by
 unfold lnk
 rw [show all.getD k [] = [] by simp [List.getD, List.getElem?_eq_none h], flips_nil]; rfl

section
variable {xs : List Int}
theorem allT_nodup (xs : List Int) : (allT xs).Nodup := (all_order xs).imp Bfr.ne
theorem at_til (ho : okR xs) {k : Nat} (hk : k < (allT xs).length) : tilB xs (allT xs)[k] = true := all_til ho _ (List.getElem_mem hk)
theorem til_at (ho : okR xs) {L : List Dm} (h : tilB xs L = true) : ∃ j, ∃ hj : j < (allT xs).length, (allT xs)[j] = L := List.getElem_of_mem (KuL.til_all ho h)
theorem flip_at (ho : okR xs) {k : Nat} (hk : k < (allT xs).length) {c : Int × Int} (hc : c ∈ flipsR (allT xs)[k]) :
  ∃ hj : idx (allT xs) (flipL (allT xs)[k] c.1 c.2) < (allT xs).length, (allT xs)[idx (allT xs) (flipL (allT xs)[k] c.1 c.2)] = flipL (allT xs)[k] c.1 c.2 ∧ nxt (allT xs) (flipL (allT xs)[k] c.1 c.2) = [idx (allT xs) (flipL (allT xs)[k] c.1 c.2)] := by
 obtain ⟨j, hj, e⟩ := til_at ho (flips_all (at_til ho hk) (flips_can hc)).1
 rw [← e, idx_one (allT_nodup xs) hj]
 exact ⟨hj, rfl, nxt_one (allT_nodup xs) hj⟩
theorem lnk_map (ho : okR xs) {k : Nat} (hk : k < (allT xs).length) : lnk (allT xs) k = (flipsR (allT xs)[k]).map fun c => idx (allT xs) (flipL (allT xs)[k] c.1 c.2) := by
 unfold lnk
 rw [getD_at hk]
 have key : ∀ l : List (Int × Int), (∀ c ∈ l, c ∈ flipsR (allT xs)[k]) → (l.flatMap fun c => nxt (allT xs) (flipL (allT xs)[k] c.1 c.2)) = l.map fun c => idx (allT xs) (flipL (allT xs)[k] c.1 c.2) := by
  intro l
  induction l with
  | nil => intro _; rfl
  | cons c l ih =>
   intro h
   obtain ⟨hj, _, e⟩ := flip_at ho hk (h c List.mem_cons_self)
   rw [List.flatMap_cons, e, ih (fun d hd => h d (List.mem_cons_of_mem _ hd))]
   rfl
 exact key _ (fun c h => h)
theorem ed_iff (ho : okR xs) {i j : Nat} : Ed (lnk (allT xs)) i j ↔ ∃ (hi : i < (allT xs).length) (hj : j < (allT xs).length) (c : Int × Int), c ∈ flipsR (allT xs)[i] ∧ flipL (allT xs)[i] c.1 c.2 = (allT xs)[j] := by
 unfold Ed
 constructor
 ·intro h
  have hi : i < (allT xs).length := by
   rcases Nat.lt_or_ge i (allT xs).length with q | q
   ·exact q
   ·rw [lnk_out q] at h; cases h
  have hj := lnk_lt h
  obtain ⟨c, hc, e⟩ := (lnk_mem hi).1 h
  rw [List.getElem?_eq_getElem hj] at e
  injection e with e
  exact ⟨hi, hj, c, hc, e.symm⟩
 ·rintro ⟨hi, hj, c, hc, e⟩
  exact (lnk_mem hi).2 ⟨c, hc, by rw [List.getElem?_eq_getElem hj, e]⟩
theorem ed_symm (ho : okR xs) (i j : Nat) (h : Ed (lnk (allT xs)) i j) : Ed (lnk (allT xs)) j i := by
 obtain ⟨hi, hj, c, hc, e⟩ := (ed_iff ho).1 h
 obtain ⟨_, h2, h3, _⟩ := flips_all (at_til ho hi) (flips_can hc)
 rw [e] at h2 h3
 exact (ed_iff ho).2 ⟨hj, hi, c, can_flips h2, h3⟩
theorem ed_ne (ho : okR xs) {i j : Nat} (h : Ed (lnk (allT xs)) i j) : i ≠ j := by
 obtain ⟨hi, hj, c, hc, e⟩ := (ed_iff ho).1 h
 rintro rfl
 exact (flips_all (at_til ho hi) (flips_can hc)).2.2.2.1 e
theorem isD_near (ho : okR xs) {i j : Nat} {d : Int} (h : IsD (Ed (lnk (allT xs))) i j d) : Ed (lnk (allT xs)) i j ↔ d = 1 := by
 constructor
 ·intro e
  rcases h with ⟨n, rfl, p, l⟩ | ⟨rfl, l⟩
  ·have h1 := l 1 (pth_one e)
   rcases Nat.eq_zero_or_pos n with h0 | h0
   ·subst h0; exact absurd (pth_zero p) (ed_ne ho e)
   ·omega
  ·exact absurd (pth_one e) (l 1)
 ·rintro rfl; exact isD_one h
theorem flips_way (ho : okR xs) : ∀ (w : List (Int × Int)) (i j : Nat) (hi : i < (allT xs).length) (hj : j < (allT xs).length), allF (allT xs)[i] w = some (allT xs)[j] → Pth (Ed (lnk (allT xs))) w.length i j := by
 intro w
 induction w with
 | nil =>
  intro i j hi hj h
  have h' : some (allT xs)[i] = some (allT xs)[j] := h
  injection h' with h'
  have := (List.getElem_inj (allT_nodup xs)).1 h'
  subst this; exact .zero i
 | cons c w ih =>
  intro i j hi hj h
  have h' : (if canB (allT xs)[i] c.1 c.2 then allF (flipL (allT xs)[i] c.1 c.2) w else none) = some (allT xs)[j] := h
  by_cases hc : canB (allT xs)[i] c.1 c.2 = true
  ·rw [if_pos hc] at h'
   obtain ⟨a, ha, ea⟩ := til_at ho (flips_all (at_til ho hi) hc).1
   rw [← ea] at h'
   exact pth_front ((ed_iff ho).2 ⟨hi, ha, c, can_flips hc, ea.symm⟩) (ih a j ha hj h')
  ·rw [if_neg hc] at h'; cases h'
end
def wayG (all : List (List Dm)) (d : Nat → Int) : Nat → Nat → List (Int × Int)
 | 0, _ => []
 | n + 1, i => match (flipsR (all.getD i [])).find? fun c => decide (d (idx all (flipL (all.getD i []) c.1 c.2)) = (n : Int)) with
  | some c => c :: wayG all d n (idx all (flipL (all.getD i []) c.1 c.2))
  | none => []
theorem wayG_ok {xs : List Int} (ho : okR xs) {d : Nat → Int} {j : Nat} (hj : j < (allT xs).length) (hd : ∀ v, v < (allT xs).length → IsD (Ed (lnk (allT xs))) v j (d v)) :
  ∀ (n i : Nat) (hi : i < (allT xs).length), d i = n → (wayG (allT xs) d n i).length = n ∧ allF (allT xs)[i] (wayG (allT xs) d n i) = some (allT xs)[j] := by
 intro n
 induction n with
 | zero =>
  intro i hi h
  have h1 := hd i hi
  rw [h] at h1
  have := isD_zero h1
  subst this
  exact ⟨rfl, rfl⟩
 | succ n ih =>
  intro i hi h
  have h1 := hd i hi
  rw [h] at h1
  obtain ⟨a, e, h2⟩ := isD_step h1
  obtain ⟨_, ha, c, hc, ef⟩ := (ed_iff ho).1 e
  have hda : d a = n := isD_uniq (hd a ha) h2
  unfold wayG
  rw [getD_at hi]
  cases hf : (flipsR (allT xs)[i]).find? fun c => decide (d (idx (allT xs) (flipL (allT xs)[i] c.1 c.2)) = (n : Int)) with
  | none =>
   have := List.find?_eq_none.1 hf c hc
   rw [ef, idx_one (allT_nodup xs) ha, hda] at this
   simp at this
  | some b =>
   have hb := List.mem_of_find?_eq_some hf
   have hp0 := List.find?_some hf
   have hp := of_decide_eq_true hp0
   obtain ⟨hx, ex, _⟩ := flip_at ho hi hb
   obtain ⟨k1, k2⟩ := ih _ hx hp
   refine ⟨by show (b :: _).length = _; rw [List.length_cons, k1], ?_⟩
   show (if canB (allT xs)[i] b.1 b.2 then allF (flipL (allT xs)[i] b.1 b.2) _ else none) = _
   rw [if_pos (flips_can hb), ← ex, ex]
   rw [ex] at k2
   exact k2
end Go.Proofs.YtmenmepdmojnfaaGreatDoor.Wg
