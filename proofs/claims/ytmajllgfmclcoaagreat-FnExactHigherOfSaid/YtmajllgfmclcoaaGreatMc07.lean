/- Edg, Sid, HgrW in one text. -/
import Derived.Test.YtmajllgfmclcoaaGreatMc00
import Derived.Test.YtmajllgfmclcoaaGreatMc01
import Derived.Test.YtmajllgfmclcoaaGreatMc06

namespace Go.Proofs.YtmajllgfmclcoaaGreat.Hgt
set_option linter.unusedVariables false
set_option linter.unusedSimpArgs false
open Go.RowKit Go.Proofs.YtmajllgfmclcoaaGreat.Cell Go.Joins

def sgnE (s : Int) : Int := if s % 2 = 0 then 1 else -1
def stepE (ax ay bx by' : Int) : Int :=
  if 0 ≤ ax ∧ ax ≤ 8 ∧ 0 ≤ ay ∧ ay ≤ 8 ∧ 0 ≤ bx ∧ bx ≤ 8 ∧ 0 ≤ by' ∧ by' ≤ 8 then
    if bx = ax + 1 ∧ by' = ay then sgnE (ax + (ay - 1))
    else if ax = bx + 1 ∧ by' = ay then sgnE (bx + by')
    else if bx = ax ∧ by' = ay + 1 then sgnE (ax + ay)
    else if bx = ax ∧ ay = by' + 1 then sgnE (ax - 1 + by')
    else 0
  else 0
def NumE (n : Int) (w : World) (e : Ending) (w' : World) : Prop := e = .returned (.int .i64 n) ∧ w' = w
set_option maxHeartbeats 400000 in
theorem sBlack (x y : Int) (hx : -1 ≤ x ∧ x ≤ 9) (hy : -1 ≤ y ∧ y ≤ 9) (w : World) :
    Calls Tryz.prog 56 #[.int .i64 x, .int .i64 y] w (BolE (decide ((x + y) % 2 = 0)) w) := by
  have H : ∀ v : Bool, (v = true ↔ (x + y) % 2 = 0) → BolE (decide ((x + y) % 2 = 0)) w (.returned (.bool v)) w := fun v h => by
    have : v = decide ((x + y) % 2 = 0) := by rw [Bool.eq_iff_iff]; simpa using h
    rw [this]; exact ⟨rfl, rfl⟩
  have HH := Lib.hid H
  clear H
  have e1 : wrap64 (x + y) = x + y := by unfold wrap64; omega
  have HT := Lib.hid (show (x + y).tmod 2 = 0 ↔ (x + y) % 2 = 0 by
    by_cases h : 0 ≤ x + y
    · rw [Int.tmod_eq_emod_of_nonneg h]
    · have : x + y = -1 ∨ x + y = -2 := by omega
      rcases this with e | e <;> rw [e] <;> decide)
  go_enter Tryz.func56, Tryz.ntmps56
  go_wp2
  all_goals
    go_ret
    refine HH.out _ ?_
    first
    | (simp only [e1, beq_iff_eq]; exact HT.out)
    | (simp [e1]; trace_state; sorry)
theorem step_out {ax ay bx by' : Int} (h : ¬ (0 ≤ ax ∧ ax ≤ 8 ∧ 0 ≤ ay ∧ ay ≤ 8 ∧ 0 ≤ bx ∧ bx ≤ 8 ∧ 0 ≤ by' ∧ by' ≤ 8)) : stepE ax ay bx by' = 0 := by unfold stepE; rw [if_neg h]
set_option maxHeartbeats 1000000 in
theorem sEdge (ax ay bx by' : Int) (w : World) :
    Calls Tryz.prog 37 #[.int .i64 ax, .int .i64 ay, .int .i64 bx, .int .i64 by'] w (NumE (stepE ax ay bx by') w) := by
  have H : ∀ v : Int, v = stepE ax ay bx by' → NumE (stepE ax ay bx by') w (.returned (.int .i64 v)) w := fun v h => by rw [h]; exact ⟨rfl, rfl⟩
  have HH := Lib.hid H
  clear H
  go_enter Tryz.func37, Tryz.ntmps37
  go_wp2_with fail
  refine (l01In ax 0 8 _).mono ?_
  rintro e w1 ⟨rfl, rfl⟩
  by_cases h1 : 0 ≤ ax ∧ ax ≤ 8
  rotate_left
  · rw [inB_not h1]
    have z := Lib.hid (step_out (ax := ax) (ay := ay) (bx := bx) (by' := by') (by omega))
    go_wp2
    go_ret
    exact HH.out _ z.out.symm
  rw [inB_of h1]
  go_wp2_with fail
  refine (l01In ay 0 8 _).mono ?_
  rintro e w1 ⟨rfl, rfl⟩
  by_cases h2 : 0 ≤ ay ∧ ay ≤ 8
  rotate_left
  · rw [inB_not h2]
    have z := Lib.hid (step_out (ax := ax) (ay := ay) (bx := bx) (by' := by') (by omega))
    go_wp2
    go_ret
    exact HH.out _ z.out.symm
  rw [inB_of h2]
  go_wp2_with fail
  refine (l01In bx 0 8 _).mono ?_
  rintro e w1 ⟨rfl, rfl⟩
  by_cases h3 : 0 ≤ bx ∧ bx ≤ 8
  rotate_left
  · rw [inB_not h3]
    have z := Lib.hid (step_out (ax := ax) (ay := ay) (bx := bx) (by' := by') (by omega))
    go_wp2
    go_ret
    exact HH.out _ z.out.symm
  rw [inB_of h3]
  go_wp2_with fail
  refine (l01In by' 0 8 _).mono ?_
  rintro e w1 ⟨rfl, rfl⟩
  by_cases h4 : 0 ≤ by' ∧ by' ≤ 8
  rotate_left
  · rw [inB_not h4]
    have z := Lib.hid (step_out (ax := ax) (ay := ay) (bx := bx) (by' := by') (by omega))
    go_wp2
    go_ret
    exact HH.out _ z.out.symm
  rw [inB_of h4]
  have e1 : wrap64 (bx - ax) = bx - ax := by unfold wrap64; omega
  have e2 : wrap64 (by' - ay) = by' - ay := by unfold wrap64; omega
  have e3 : wrap64 (ay - 1) = ay - 1 := by unfold wrap64; omega
  have e4 : wrap64 (ax - 1) = ax - 1 := by unfold wrap64; omega
  have hin : 0 ≤ ax ∧ ax ≤ 8 ∧ 0 ≤ ay ∧ ay ≤ 8 ∧ 0 ≤ bx ∧ bx ≤ 8 ∧ 0 ≤ by' ∧ by' ≤ 8 := by omega
  go_wp2_with fail
  all_goals first
    | (refine (sBlack _ _ (by omega) (by omega) _).mono ?_
       rintro e w1 ⟨rfl, rfl⟩
       go_wp2
       all_goals
         go_ret
         refine HH.out _ ?_
         simp only [beq_iff_eq, decide_eq_true_eq, bne_iff_ne, ne_eq, decide_eq_false_iff_not, Bool.not_eq_true] at *
         unfold stepE sgnE
         rw [if_pos hin]
         repeat' split
         all_goals first | rfl | omega)
    | (go_ret
       refine HH.out _ ?_
       try simp only [beq_iff_eq, beq_eq_false_iff_ne, ne_eq] at *
       unfold stepE sgnE
       rw [if_pos hin]
       repeat' split
       all_goals first | rfl | omega)
end Go.Proofs.YtmajllgfmclcoaaGreat.Hgt

namespace Go.Proofs.YtmajllgfmclcoaaGreat.Hgt
set_option linter.unusedVariables false
set_option linter.unusedSimpArgs false
open Go.RowKit Go.Proofs.YtmajllgfmclcoaaGreat.Dom Go.Joins

def loE (a b : Int) : Int := if b < a then b else a
section
variable {w W W' : World} {m n u v : Int}
end
set_option maxHeartbeats 1000000 in
theorem sSides (ax ay bx by' : Int) (h1 : 0 ≤ ax ∧ ax ≤ 8) (h2 : 0 ≤ ay ∧ ay ≤ 8) (h3 : 0 ≤ bx ∧ bx ≤ 8) (h4 : 0 ≤ by' ∧ by' ≤ 8) (w : World) :
  Calls Tryz.prog 38 #[.int .i64 ax, .int .i64 ay, .int .i64 bx, .int .i64 by'] w
   (if ay = by' then Cel2 (loE ax bx) (loE ay by' - 1) (loE ax bx) (loE ay by') w else Cel2 (loE ax bx - 1) (loE ay by') (loE ax bx) (loE ay by') w) := by
 have e1 : wrap64 (loE ax bx - 1) = loE ax bx - 1 := by unfold wrap64 loE; split <;> omega
 have e3 : wrap64 (by' - 1) = by' - 1 := by unfold wrap64; omega
 have k1 : (if bx < ax then bx else ax) = loE ax bx := rfl
 have k2 : (if by' < ay then by' else ay) = loE ay by' := rfl
 have k3 : ay = by' → loE ay by' = by' := fun e => by unfold loE; rw [e]; simp
 generalize loE ax bx = X at k1 e1 ⊢
 generalize loE ay by' = Y at k2 k3 ⊢
 by_cases q : ay = by'
 ·rw [if_pos q, k3 q]
  obtain ⟨k1', k2', k3'⟩ := at2_two w X (by' - 1) X by'
  have r0 := k1'.c0
  have r1 := k1'.c1
  have r2 := k2'.c0
  have r3 := k2'.c1
  have q' := k3 q
  subst q'
  clear k3
  go_enter Tryz.func38, Tryz.ntmps38
  go_wp2
  refine bodyPost_ret (v := .tuple #[.agg #[.int .i64 X, .int .i64 (Y - 1)], .agg #[.int .i64 X, .int .i64 Y]]) ?_ rfl (mkCel2 rfl rfl rfl rfl k3')
  simp [results, Tryz.results38, go_sem, r0, r1, r2, r3]
 ·rw [if_neg q]
  obtain ⟨k1', k2', k3'⟩ := at2_two w (X - 1) Y X Y
  have r0 := k1'.c0
  have r1 := k1'.c1
  have r2 := k2'.c0
  have r3 := k2'.c1
  clear k3
  go_enter Tryz.func38, Tryz.ntmps38
  go_wp2
  refine bodyPost_ret (v := .tuple #[.agg #[.int .i64 (X - 1), .int .i64 Y], .agg #[.int .i64 X, .int .i64 Y]]) ?_ rfl (mkCel2 rfl rfl rfl rfl k3')
  simp [results, Tryz.results38, go_sem, r0, r1, r2, r3]
end Go.Proofs.YtmajllgfmclcoaaGreat.Hgt

namespace Go.Proofs.YtmajllgfmclcoaaGreat.Hgt
set_option linter.unusedVariables false
set_option linter.unusedSimpArgs false
open Go.RowKit Go.Proofs.YtmajllgfmclcoaaGreat.Pure Go.Proofs.YtmajllgfmclcoaaGreat.Dms Go.Joins

def dX (d : Nat) : Int := if d = 0 then 1 else if d = 2 then -1 else 0
def dY (d : Nat) : Int := if d = 1 then 1 else if d = 3 then -1 else 0
def sdX (ax ay bx by' : Int) : Int := if ay = by' then loE ax bx else loE ax bx - 1
def sdY (ax ay bx by' : Int) : Int := if ay = by' then loE ay by' - 1 else loE ay by'
def sdM (ax ay bx by' : Int) : Dm := (sdX ax ay bx by', sdY ax ay bx by', decide (ay = by'))
theorem way_link {xs : List Int} {L : List Dm} {d v : Nat} (hv : v < 81) (hd : d < 4) {ax ay bx by' : Int} (e1 : ax = ((v % 9 : Nat) : Int)) (e2 : ay = ((v / 9 : Nat) : Int)) (e3 : bx = ax + dX d) (e4 : by' = ay + dY d) :
  (stepE ax ay bx by' = 0 ∧ ∀ w, ¬ Lk xs (xL L) (yL L) d v w) ∨
  (stepE ax ay bx by' = es d v ∧ (0 ≤ bx ∧ bx ≤ 8 ∧ 0 ≤ by' ∧ by' ≤ 8) ∧ ∃ w : Nat, w < 81 ∧ (w : Int) = by' * 9 + bx ∧ (∀ w', Lk xs (xL L) (yL L) d v w' → w' = w) ∧
   (Lk xs (xL L) (yL L) d v w ↔ (hasB xs (sdX ax ay bx by') (sdY ax ay bx by') = true ∨ hasB xs (loE ax bx) (loE ay by') = true) ∧ sdM ax ay bx by' ∉ L)) := by
 have fh : ∀ u : Nat, frH xs (xL L) u = true ↔ (hasB xs ((u % 9 : Nat) : Int) (((u / 9 : Nat) : Int) - 1) = true ∨ hasB xs ((u % 9 : Nat) : Int) ((u / 9 : Nat) : Int) = true) ∧ ((((u % 9 : Nat) : Int), ((u / 9 : Nat) : Int) - 1, true) : Dm) ∉ L := fun u => by
  unfold frH xL gX
  simp only [Bool.and_eq_true, Bool.or_eq_true, Bool.not_eq_true', decide_eq_false_iff_not]
  rw [show ((u % 9 + 1 : Nat) : Int) - 1 = ((u % 9 : Nat) : Int) by omega, show ((u / 9 + 1 : Nat) : Int) - 1 = ((u / 9 : Nat) : Int) by omega, show ((u / 9 + 1 : Nat) : Int) - 2 = ((u / 9 : Nat) : Int) - 1 by omega]
 have fv : ∀ u : Nat, frV xs (yL L) u = true ↔ (hasB xs (((u % 9 : Nat) : Int) - 1) ((u / 9 : Nat) : Int) = true ∨ hasB xs ((u % 9 : Nat) : Int) ((u / 9 : Nat) : Int) = true) ∧ ((((u % 9 : Nat) : Int) - 1, ((u / 9 : Nat) : Int), false) : Dm) ∉ L := fun u => by
  unfold frV yL gX
  simp only [Bool.and_eq_true, Bool.or_eq_true, Bool.not_eq_true', decide_eq_false_iff_not]
  rw [show ((u % 9 + 1 : Nat) : Int) - 1 = ((u % 9 : Nat) : Int) by omega, show ((u / 9 + 1 : Nat) : Int) - 1 = ((u / 9 : Nat) : Int) by omega, show ((u % 9 + 1 : Nat) : Int) - 2 = ((u % 9 : Nat) : Int) - 1 by omega]
 have h4 : d = 0 ∨ d = 1 ∨ d = 2 ∨ d = 3 := by omega
 unfold sdM sdX sdY
 rcases h4 with rfl | rfl | rfl | rfl
 ·have d1 : bx = ax + 1 := e3
  have d2 : by' = ay := by rw [e4]; show ay + 0 = ay; omega
  subst d2
  by_cases q : v % 9 < 8
  ·right
   refine ⟨?_, by omega, v + 1, by omega, by omega, fun w' h => by unfold Lk at h; omega, ?_⟩
   ·unfold stepE es sgnE
    rw [if_pos (by omega), if_pos (by omega)]
    split <;> split <;> omega
   ·unfold Lk
    rw [if_pos rfl, if_pos rfl]
    have l1 : loE ax bx = ax := by unfold loE; rw [if_neg (by omega)]
    have l2 : loE by' by' = by' := by unfold loE; simp
    rw [l1, l2, decide_eq_true (rfl : by' = by'), e1, e2, ← fh v]
    constructor
    ·rintro (⟨_, _, _, h⟩ | h | h | h)
     ·exact h
     all_goals omega
    ·exact fun h => .inl ⟨rfl, q, rfl, h⟩
  ·left
   refine ⟨?_, fun w h => by unfold Lk at h; omega⟩
   unfold stepE
   rw [if_neg (by omega)]
 ·have d1 : bx = ax := by rw [e3]; show ax + 0 = ax; omega
  have d2 : by' = ay + 1 := e4
  subst d1
  by_cases q : v / 9 < 8
  ·right
   refine ⟨?_, by omega, v + 9, by omega, by omega, fun w' h => by unfold Lk at h; omega, ?_⟩
   ·unfold stepE es sgnE
    rw [if_pos (by omega), if_neg (by omega), if_neg (by omega), if_pos (by omega)]
    split <;> split <;> omega
   ·unfold Lk
    rw [if_neg (by omega), if_neg (by omega)]
    have l1 : loE bx bx = bx := by unfold loE; simp
    have l2 : loE ay by' = ay := by unfold loE; rw [if_neg (by omega)]
    rw [l1, l2, decide_eq_false (by omega : ¬ ay = by'), e1, e2, ← fv v]
    constructor
    ·rintro (h | ⟨_, _, _, h⟩ | h | h)
     ·omega
     ·exact h
     all_goals omega
    ·exact fun h => .inr (.inl ⟨rfl, q, rfl, h⟩)
  ·left
   refine ⟨?_, fun w h => by unfold Lk at h; omega⟩
   unfold stepE
   rw [if_neg (by omega)]
 ·have d1 : bx = ax - 1 := by rw [e3]; show ax + -1 = ax - 1; omega
  have d2 : by' = ay := by rw [e4]; show ay + 0 = ay; omega
  subst d2
  by_cases q : 1 ≤ v % 9
  ·right
   refine ⟨?_, by omega, v - 1, by omega, by omega, fun w' h => by unfold Lk at h; omega, ?_⟩
   ·unfold stepE es sgnE
    rw [if_pos (by omega), if_neg (by omega), if_pos (by omega)]
    split <;> split <;> omega
   ·unfold Lk
    rw [if_pos rfl, if_pos rfl]
    have l1 : loE ax bx = (((v - 1) % 9 : Nat) : Int) := by unfold loE; rw [if_pos (by omega)]; omega
    have l2 : loE by' by' = (((v - 1) / 9 : Nat) : Int) := by unfold loE; simp; omega
    rw [l1, l2, decide_eq_true (rfl : by' = by'), ← fh (v - 1)]
    constructor
    ·rintro (h | h | ⟨_, _, _, h⟩ | h)
     ·omega
     ·omega
     ·exact h
     ·omega
    ·exact fun h => .inr (.inr (.inl ⟨rfl, by omega, by omega, h⟩))
  ·left
   refine ⟨?_, fun w h => by unfold Lk at h; omega⟩
   unfold stepE
   rw [if_neg (by omega)]
 ·have d1 : bx = ax := by rw [e3]; show ax + 0 = ax; omega
  have d2 : by' = ay - 1 := by rw [e4]; show ay + -1 = ay - 1; omega
  subst d1
  by_cases q : 1 ≤ v / 9
  ·right
   refine ⟨?_, by omega, v - 9, by omega, by omega, fun w' h => by unfold Lk at h; omega, ?_⟩
   ·unfold stepE es sgnE
    rw [if_pos (by omega), if_neg (by omega), if_neg (by omega), if_neg (by omega), if_pos (by omega)]
    split <;> split <;> omega
   ·unfold Lk
    rw [if_neg (by omega), if_neg (by omega)]
    have l1 : loE bx bx = (((v - 9) % 9 : Nat) : Int) := by unfold loE; simp; omega
    have l2 : loE ay by' = (((v - 9) / 9 : Nat) : Int) := by unfold loE; rw [if_pos (by omega)]; omega
    rw [l1, l2, decide_eq_false (by omega : ¬ ay = by'), ← fv (v - 9)]
    constructor
    ·rintro (h | h | h | ⟨_, _, h⟩)
     ·omega
     ·omega
     ·omega
     ·exact h
    ·exact fun h => .inr (.inr (.inr ⟨rfl, by omega, h⟩))
  ·left
   refine ⟨?_, fun w h => by unfold Lk at h; omega⟩
   unfold stepE
   rw [if_neg (by omega)]
end Go.Proofs.YtmajllgfmclcoaaGreat.Hgt
