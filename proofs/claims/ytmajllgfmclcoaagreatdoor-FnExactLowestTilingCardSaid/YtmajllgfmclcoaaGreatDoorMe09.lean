/- HgrT, HgrF, Edg, Sid, HgrW in one text. -/
import Derived.Test.YtmajllgfmclcoaaGreatDoorMe08
import Derived.Test.YtmajllgfmclcoaaGreatDoorMe00
import Derived.Test.YtmajllgfmclcoaaGreatDoorMe01

namespace Go.Proofs.YtmajllgfmclcoaaGreatDoor.Hgt
set_option linter.unusedVariables false
set_option linter.unusedSimpArgs false
open Go.RowKit Go.Proofs.YtmajllgfmclcoaaGreatDoor.Pure Go.Proofs.YtmajllgfmclcoaaGreatDoor.Dms Go.Proofs.YtmajllgfmclcoaaGreatDoor.Til Go.Joins
open Go.Proofs.YtmajllgfmclcoaaGreatDoor.Bal (piecesN outsN)

structure Row9 (xs : List Int) (L : List Dm) (hs : List Int) : Prop where
 ok : okR xs
 one : piecesN xs = 1
 til : tilB xs L = true
 lcl : lc xs < 81
 lcc : crnB xs (lc xs) = true
 f : ∃ f, Hts (gX xs) (xL L) (yL L) f ∧ hs = hgL xs f ∧ ∀ v, v < 81 → crnB xs v = true → -80 ≤ hv xs f v ∧ hv xs f v ≤ 80
theorem Sw.row {xs : List Int} {L : List Dm} {f : Fm} {h : List Int} {q : List Nat} (ho : okR xs) (h1 : piecesN xs = 1) (ht : tilB xs L = true) (hf : Hts (gX xs) (xL L) (yL L) f) (s : Sw xs (xL L) (yL L) (hv xs f) h q q.length 0) (hc : lc xs < 81) (hcr : crnB xs (lc xs) = true) : Row9 xs L h := by
 have e := s.fin ho h1 (tl_of ht) hc hcr
 refine ⟨ho, h1, ht, hc, hcr, f, hf, e, fun v hv hb => ?_⟩
 have hm := (s.all ho h1 (tl_of ht) hcr v hv).2 hb
 obtain ⟨i, hi⟩ := List.getElem?_of_mem hm
 have l := s.len
 have il := (List.getElem?_eq_some_iff.1 hi).1
 have := s.val i v hi
 omega
theorem row_at (xs : List Int) (f : Fm) {v : Nat} (hv : v < 81) : (hgL xs f)[v]? = some (if crnB xs v then Hgt.hv xs f v else -1000) := by
 unfold hgL
 rw [List.getElem?_map, List.getElem?_range hv]
 rfl
theorem row_len (xs : List Int) (f : Fm) : (hgL xs f).length = 81 := by unfold hgL; simp
theorem row_uniq {xs : List Int} {L : List Dm} {h h' : List Int} (r : Row9 xs L h) (r' : Row9 xs L h') : h = h' := by
 obtain ⟨f, hf, e, _⟩ := r.f
 obtain ⟨g, hg, e', _⟩ := r'.f
 rw [e, e']
 unfold hgL
 refine List.map_congr_left (fun v hv => ?_)
 cases hb : crnB xs v with
 | false => rfl
 | true =>
  show Hgt.hv xs f v = Hgt.hv xs g v
  exact hts_uniq r.ok r.one (tl_of r.til) hf hg (crn_iff.1 r.lcc) (crn_iff.1 hb)
def gapA (d : Dm) : Nat := if d.2.2 then 9 * (d.2.1 + 1).toNat + d.1.toNat else 9 * d.2.1.toNat + (d.1 + 1).toNat
def gapB (d : Dm) : Nat := if d.2.2 then 9 * (d.2.1 + 1).toNat + d.1.toNat + 1 else 9 * (d.2.1.toNat + 1) + (d.1 + 1).toNat
theorem gap_dn {xs : List Int} {L : List Dm} {h : List Int} (r : Row9 xs L h) {x y : Int} (h1 : hasB xs x y = true) (h2 : hasB xs x (y + 1) = true) :
  ∃ u v : Int, h[9 * (y + 1).toNat + x.toNat]? = some u ∧ h[9 * (y + 1).toNat + x.toNat + 1]? = some v ∧ (-80 ≤ u ∧ u ≤ 80) ∧ (-80 ≤ v ∧ v ≤ 80) ∧ ((u - v = 3 ∨ v - u = 3) ↔ ((x, y, true) : Dm) ∈ L) := by
 obtain ⟨f, hf, rfl, bd⟩ := r.f
 obtain ⟨a, b, ea, eb, g1⟩ := gX_has h1
 obtain ⟨a', b', ea', eb', g2⟩ := gX_has h2
 obtain rfl : a' = a := by omega
 obtain rfl : b' = b + 1 := by omega
 have l1 := gX_lt g1
 have l2 := gX_lt g2
 have i1 : 9 * (y + 1).toNat + x.toNat = 9 * b + (a' - 1) := by omega
 have c1 : crnB xs (9 * b + (a' - 1)) = true := crn_iff.2 ⟨_, _, g2, .inl (by omega), .inl (by omega)⟩
 have c2 : crnB xs (9 * b + a') = true := crn_iff.2 ⟨_, _, g2, .inr (by omega), .inl (by omega)⟩
 rw [i1, show 9 * b + (a' - 1) + 1 = 9 * b + a' by omega, row_at xs f (by omega), row_at xs f (by omega), c1, c2]
 refine ⟨_, _, rfl, rfl, bd _ (by omega) c1, bd _ (by omega) c2, ?_⟩
 have e := hf.hor a' b (by omega) (by omega) (.inl g1)
 have x1 : at9 f (9 * b + a') = f (a' + 1) (b + 1) := by
  unfold at9
  rw [show (9 * b + a') % 9 = a' by omega, show (9 * b + a') / 9 = b by omega]
 have x2 : at9 f (9 * b + (a' - 1)) = f a' (b + 1) := by
  unfold at9
  rw [show (9 * b + (a' - 1)) % 9 + 1 = a' by omega, show (9 * b + (a' - 1)) / 9 = b by omega]
 have m : xL L a' (b + 1) = true ↔ ((x, y, true) : Dm) ∈ L := by
  rw [xL_iff, show (a' : Int) - 1 = x by omega, show ((b + 1 : Nat) : Int) - 2 = y by omega]
 rw [← m]
 show (hv xs f _ - hv xs f _ = 3 ∨ hv xs f _ - hv xs f _ = 3) ↔ _
 unfold hv
 rw [x1, x2, e]
 unfold wH
 rcases sg_one a' (b + 1) with q | q <;> rw [q] <;> cases xL L a' (b + 1) <;> simp only [bi, if_pos, if_neg] <;> constructor <;> intro z <;> simp_all <;> omega
theorem gap_rt {xs : List Int} {L : List Dm} {h : List Int} (r : Row9 xs L h) {x y : Int} (h1 : hasB xs x y = true) (h2 : hasB xs (x + 1) y = true) :
  ∃ u v : Int, h[9 * y.toNat + (x + 1).toNat]? = some u ∧ h[9 * (y + 1).toNat + (x + 1).toNat]? = some v ∧ (-80 ≤ u ∧ u ≤ 80) ∧ (-80 ≤ v ∧ v ≤ 80) ∧ ((u - v = 3 ∨ v - u = 3) ↔ ((x, y, false) : Dm) ∈ L) := by
 obtain ⟨f, hf, rfl, bd⟩ := r.f
 obtain ⟨a, b, ea, eb, g1⟩ := gX_has h1
 obtain ⟨a', b', ea', eb', g2⟩ := gX_has h2
 obtain rfl : a' = a + 1 := by omega
 obtain rfl : b' = b := by omega
 have l1 := gX_lt g1
 have l2 := gX_lt g2
 have i1 : 9 * y.toNat + (x + 1).toNat = 9 * (b' - 1) + a := by omega
 have i2 : 9 * (y + 1).toNat + (x + 1).toNat = 9 * b' + a := by omega
 have c1 : crnB xs (9 * (b' - 1) + a) = true := crn_iff.2 ⟨_, _, g2, .inl (by omega), .inl (by omega)⟩
 have c2 : crnB xs (9 * b' + a) = true := crn_iff.2 ⟨_, _, g2, .inl (by omega), .inr (by omega)⟩
 rw [i1, i2, row_at xs f (by omega), row_at xs f (by omega), c1, c2]
 refine ⟨_, _, rfl, rfl, bd _ (by omega) c1, bd _ (by omega) c2, ?_⟩
 have e := hf.ver a b' (by omega) (by omega) (.inl g1)
 have x1 : at9 f (9 * b' + a) = f (a + 1) (b' + 1) := by
  unfold at9
  rw [show (9 * b' + a) % 9 = a by omega, show (9 * b' + a) / 9 = b' by omega]
 have x2 : at9 f (9 * (b' - 1) + a) = f (a + 1) b' := by
  unfold at9
  rw [show (9 * (b' - 1) + a) % 9 = a by omega, show (9 * (b' - 1) + a) / 9 + 1 = b' by omega]
 have m : yL L (a + 1) b' = true ↔ ((x, y, false) : Dm) ∈ L := by
  rw [yL_iff, show ((a + 1 : Nat) : Int) - 2 = x by omega, show (b' : Int) - 1 = y by omega]
 rw [← m]
 show (hv xs f _ - hv xs f _ = 3 ∨ hv xs f _ - hv xs f _ = 3) ↔ _
 unfold hv
 rw [x1, x2, e]
 unfold wV
 rcases sg_one (a + 1) b' with q | q <;> rw [q] <;> cases yL L (a + 1) b' <;> simp only [bi, if_pos, if_neg] <;> constructor <;> intro z <;> simp_all <;> omega
end Go.Proofs.YtmajllgfmclcoaaGreatDoor.Hgt

namespace Go.Proofs.YtmajllgfmclcoaaGreatDoor.Hgt
set_option linter.unusedVariables false
set_option linter.unusedSimpArgs false
open Go.RowKit Go.Proofs.YtmajllgfmclcoaaGreatDoor.Pure Go.Proofs.YtmajllgfmclcoaaGreatDoor.Dom Go.Proofs.YtmajllgfmclcoaaGreatDoor.Dms Go.Proofs.YtmajllgfmclcoaaGreatDoor.Til Go.Proofs.YtmajllgfmclcoaaGreatDoor.Grd Go.Proofs.YtmajllgfmclcoaaGreatDoor.Flp Go.Joins
open Go.Proofs.YtmajllgfmclcoaaGreatDoor.Bal (piecesN outsN)

theorem wrap_small {x : Int} (h : -1000000 ≤ x ∧ x ≤ 1000000) : wrap64 x = x := by unfold wrap64; omega
def gap (hs : List Int) (d : Dm) : Prop := ∃ u v : Int, hs[gapA d]? = some u ∧ hs[gapB d]? = some v ∧ (wrap64 (u - v) = 3 ∨ wrap64 (v - u) = 3)
theorem tf_of {xs : List Int} {M : List Dm} {hs : List Int} (r : Row9 xs M hs) {C : List Dm}
  (hC : ∀ e : Dm, okM e = true → (e ∈ C ↔ hasB xs e.1 e.2.1 = true ∧ hasB xs (sx e.1 e.2.2) (sy e.2.1 e.2.2) = true ∧ gap hs e)) : sortM C = M := by
 have hp := til_part r.til
 have hv := part_valid hp
 refine sortM_of (part_inc hp) (fun e => ?_)
 have main : okM e = true → hasB xs e.1 e.2.1 = true → hasB xs (sx e.1 e.2.2) (sy e.2.1 e.2.2) = true → (gap hs e ↔ e ∈ M) := fun ho h1 h2 => by
  obtain ⟨x, y, b⟩ := e
  cases b with
  | true =>
   have o := ok_dn ho
   have e2 : sy y true = y + 1 := by unfold sy; rw [if_pos rfl]; exact wrap_in (by omega) (by omega)
   have e1 : sx x true = x := by unfold sx; rw [if_pos rfl]
   simp only at h1 h2
   rw [e1, e2] at h2
   obtain ⟨u, v, a1, a2, b1, b2, key⟩ := gap_dn r h1 h2
   rw [← key]
   unfold gap gapA gapB
   simp only [if_pos]
   constructor
   ·rintro ⟨u', v', c1, c2, c3⟩
    rw [a1] at c1
    rw [a2] at c2
    injection c1 with c1
    injection c2 with c2
    subst c1
    subst c2
    rwa [wrap_small (by omega), wrap_small (by omega)] at c3
   ·intro h
    refine ⟨u, v, a1, a2, ?_⟩
    rwa [wrap_small (by omega), wrap_small (by omega)]
  | false =>
   have o := ok_rt ho
   have e1 : sx x false = x + 1 := by unfold sx; rw [if_neg (by simp)]; exact wrap_in (by omega) (by omega)
   have e2 : sy y false = y := by unfold sy; rw [if_neg (by simp)]
   simp only at h1 h2
   rw [e1, e2] at h2
   obtain ⟨u, v, a1, a2, b1, b2, key⟩ := gap_rt r h1 h2
   rw [← key]
   unfold gap gapA gapB
   simp only [Bool.false_eq_true, if_false]
   rw [show 9 * (y.toNat + 1) + (x + 1).toNat = 9 * (y + 1).toNat + (x + 1).toNat by omega]
   constructor
   ·rintro ⟨u', v', c1, c2, c3⟩
    rw [a1] at c1
    rw [a2] at c2
    injection c1 with c1
    injection c2 with c2
    subst c1
    subst c2
    rwa [wrap_small (by omega), wrap_small (by omega)] at c3
   ·intro h
    refine ⟨u, v, a1, a2, ?_⟩
    rwa [wrap_small (by omega), wrap_small (by omega)]
 constructor
 ·intro hm
  have ho := hv e hm
  have h1 : hasB xs e.1 e.2.1 = true := part_in hp hm (cov_of ho (.inl ⟨rfl, rfl⟩))
  have h2 : hasB xs (sx e.1 e.2.2) (sy e.2.1 e.2.2) = true := part_in hp hm (cov_of ho (.inr ⟨rfl, rfl⟩))
  exact ⟨(hC e ho).2 ⟨h1, h2, (main ho h1 h2).2 hm⟩, ho⟩
 ·rintro ⟨hm, ho⟩
  obtain ⟨h1, h2, h3⟩ := (hC e ho).1 hm
  exact (main ho h1 h2).1 h3
def sumH (hs : List Int) (k : Nat) : Int := (hs.take k).foldl (fun s h => if h = -1000 then s else wrap64 (s + h)) 0
theorem sumH_step {hs : List Int} {k : Nat} (hk : k < hs.length) : sumH hs (k + 1) = if hs[k] = -1000 then sumH hs k else wrap64 (sumH hs k + hs[k]) := by
 unfold sumH
 rw [List.take_succ_eq_append_getElem hk, List.foldl_append]
 rfl
def sumI : List Int → Int
 | [] => 0
 | h :: t => (if h = -1000 then 0 else h) + sumI t
theorem sumI_app (a b : List Int) : sumI (a ++ b) = sumI a + sumI b := by
 induction a with
 | nil => simp [sumI]
 | cons x t ih => simp only [List.cons_append, sumI, ih]; omega
theorem sumI_bd {a : List Int} (h : ∀ x ∈ a, x = -1000 ∨ (-80 ≤ x ∧ x ≤ 80)) : -80 * (a.length : Int) ≤ sumI a ∧ sumI a ≤ 80 * (a.length : Int) := by
 induction a with
 | nil => simp [sumI]
 | cons x t ih =>
  have := ih (fun y hy => h y (List.mem_cons_of_mem _ hy))
  have hx := h x (List.mem_cons_self ..)
  simp only [sumI, List.length_cons]
  split <;> omega
theorem sumH_I {hs : List Int} (hl : hs.length ≤ 1000) (h : ∀ x ∈ hs, x = -1000 ∨ (-80 ≤ x ∧ x ≤ 80)) : ∀ k, k ≤ hs.length → sumH hs k = sumI (hs.take k)
 | 0, _ => by simp [sumH, sumI]
 | k + 1, hk => by
  have hk' : k < hs.length := hk
  rw [sumH_step hk', sumH_I hl h k (by omega), List.take_succ_eq_append_getElem hk', sumI_app]
  have b := sumI_bd (a := hs.take k) (fun x hx => h x (List.mem_of_mem_take hx))
  rw [List.length_take, Nat.min_eq_left (by omega)] at b
  have hx := h hs[k] (List.getElem_mem hk')
  simp only [sumI]
  split
  ·omega
  ·rw [wrap_small (by omega)]; omega
theorem Row9.bd {xs : List Int} {L : List Dm} {h : List Int} (r : Row9 xs L h) : ∀ x ∈ h, x = -1000 ∨ (-80 ≤ x ∧ x ≤ 80) := by
 obtain ⟨f, _, rfl, b⟩ := r.f
 intro x hx
 unfold hgL at hx
 obtain ⟨v, hv, rfl⟩ := List.mem_map.1 hx
 have hv := List.mem_range.1 hv
 cases q : crnB xs v with
 | false => exact .inl rfl
 | true => exact .inr (b v hv q)
theorem Row9.len {xs : List Int} {L : List Dm} {h : List Int} (r : Row9 xs L h) : h.length = 81 := by
 obtain ⟨f, _, rfl, _⟩ := r.f
 exact row_len xs f
end Go.Proofs.YtmajllgfmclcoaaGreatDoor.Hgt

namespace Go.Proofs.YtmajllgfmclcoaaGreatDoor.Hgt
set_option linter.unusedVariables false
set_option linter.unusedSimpArgs false
open Go.RowKit Go.Proofs.YtmajllgfmclcoaaGreatDoor.Cell Go.Joins

def sgnE (s : Int) : Int := if s % 2 = 0 then 1 else -1
def stepE (ax ay bx by' : Int) : Int :=
  if 0 ≤ ax ∧ ax ≤ 8 ∧ 0 ≤ ay ∧ ay ≤ 8 ∧ 0 ≤ bx ∧ bx ≤ 8 ∧ 0 ≤ by' ∧ by' ≤ 8 then
    if bx = ax + 1 ∧ by' = ay then sgnE (ax + (ay - 1))
    else if ax = bx + 1 ∧ by' = ay then sgnE (bx + by')
    else if bx = ax ∧ by' = ay + 1 then sgnE (ax + ay)
    else if bx = ax ∧ ay = by' + 1 then sgnE (ax - 1 + by')
    else 0
  else 0
def NumE (n : Int) (w : World) (e : Ending) (w' : World) : Prop := e = .returned (.int .i64 n) ∧ w' = w
set_option maxHeartbeats 400000 in
theorem sBlack (x y : Int) (hx : -1 ≤ x ∧ x ≤ 9) (hy : -1 ≤ y ∧ y ≤ 9) (w : World) :
    Calls Tryz.prog 122 #[.int .i64 x, .int .i64 y] w (BolE (decide ((x + y) % 2 = 0)) w) := by
  have H : ∀ v : Bool, (v = true ↔ (x + y) % 2 = 0) → BolE (decide ((x + y) % 2 = 0)) w (.returned (.bool v)) w := fun v h => by
    have : v = decide ((x + y) % 2 = 0) := by rw [Bool.eq_iff_iff]; simpa using h
    rw [this]; exact ⟨rfl, rfl⟩
  have HH := Lib.hid H
  clear H
  have e1 : wrap64 (x + y) = x + y := by unfold wrap64; omega
  have HT := Lib.hid (show (x + y).tmod 2 = 0 ↔ (x + y) % 2 = 0 by
    by_cases h : 0 ≤ x + y
    · rw [Int.tmod_eq_emod_of_nonneg h]
    · have : x + y = -1 ∨ x + y = -2 := by omega
      rcases this with e | e <;> rw [e] <;> decide)
  go_enter Tryz.func122, Tryz.ntmps122
  go_wp2
  all_goals
    go_ret
    refine HH.out _ ?_
    first
    | (simp only [e1, beq_iff_eq]; exact HT.out)
    | (simp [e1]; trace_state; sorry)
theorem step_out {ax ay bx by' : Int} (h : ¬ (0 ≤ ax ∧ ax ≤ 8 ∧ 0 ≤ ay ∧ ay ≤ 8 ∧ 0 ≤ bx ∧ bx ≤ 8 ∧ 0 ≤ by' ∧ by' ≤ 8)) : stepE ax ay bx by' = 0 := by unfold stepE; rw [if_neg h]
set_option maxHeartbeats 1000000 in
theorem sEdge (ax ay bx by' : Int) (w : World) :
    Calls Tryz.prog 97 #[.int .i64 ax, .int .i64 ay, .int .i64 bx, .int .i64 by'] w (NumE (stepE ax ay bx by') w) := by
  have H : ∀ v : Int, v = stepE ax ay bx by' → NumE (stepE ax ay bx by') w (.returned (.int .i64 v)) w := fun v h => by rw [h]; exact ⟨rfl, rfl⟩
  have HH := Lib.hid H
  clear H
  go_enter Tryz.func97, Tryz.ntmps97
  go_wp2_with fail
  refine (l01In ax 0 8 _).mono ?_
  rintro e w1 ⟨rfl, rfl⟩
  by_cases h1 : 0 ≤ ax ∧ ax ≤ 8
  rotate_left
  · rw [inB_not h1]
    have z := Lib.hid (step_out (ax := ax) (ay := ay) (bx := bx) (by' := by') (by omega))
    go_wp2
    go_ret
    exact HH.out _ z.out.symm
  rw [inB_of h1]
  go_wp2_with fail
  refine (l01In ay 0 8 _).mono ?_
  rintro e w1 ⟨rfl, rfl⟩
  by_cases h2 : 0 ≤ ay ∧ ay ≤ 8
  rotate_left
  · rw [inB_not h2]
    have z := Lib.hid (step_out (ax := ax) (ay := ay) (bx := bx) (by' := by') (by omega))
    go_wp2
    go_ret
    exact HH.out _ z.out.symm
  rw [inB_of h2]
  go_wp2_with fail
  refine (l01In bx 0 8 _).mono ?_
  rintro e w1 ⟨rfl, rfl⟩
  by_cases h3 : 0 ≤ bx ∧ bx ≤ 8
  rotate_left
  · rw [inB_not h3]
    have z := Lib.hid (step_out (ax := ax) (ay := ay) (bx := bx) (by' := by') (by omega))
    go_wp2
    go_ret
    exact HH.out _ z.out.symm
  rw [inB_of h3]
  go_wp2_with fail
  refine (l01In by' 0 8 _).mono ?_
  rintro e w1 ⟨rfl, rfl⟩
  by_cases h4 : 0 ≤ by' ∧ by' ≤ 8
  rotate_left
  · rw [inB_not h4]
    have z := Lib.hid (step_out (ax := ax) (ay := ay) (bx := bx) (by' := by') (by omega))
    go_wp2
    go_ret
    exact HH.out _ z.out.symm
  rw [inB_of h4]
  have e1 : wrap64 (bx - ax) = bx - ax := by unfold wrap64; omega
  have e2 : wrap64 (by' - ay) = by' - ay := by unfold wrap64; omega
  have e3 : wrap64 (ay - 1) = ay - 1 := by unfold wrap64; omega
  have e4 : wrap64 (ax - 1) = ax - 1 := by unfold wrap64; omega
  have hin : 0 ≤ ax ∧ ax ≤ 8 ∧ 0 ≤ ay ∧ ay ≤ 8 ∧ 0 ≤ bx ∧ bx ≤ 8 ∧ 0 ≤ by' ∧ by' ≤ 8 := by omega
  go_wp2_with fail
  all_goals first
    | (refine (sBlack _ _ (by omega) (by omega) _).mono ?_
       rintro e w1 ⟨rfl, rfl⟩
       go_wp2
       all_goals
         go_ret
         refine HH.out _ ?_
         simp only [beq_iff_eq, decide_eq_true_eq, bne_iff_ne, ne_eq, decide_eq_false_iff_not, Bool.not_eq_true] at *
         unfold stepE sgnE
         rw [if_pos hin]
         repeat' split
         all_goals first | rfl | omega)
    | (go_ret
       refine HH.out _ ?_
       try simp only [beq_iff_eq, beq_eq_false_iff_ne, ne_eq] at *
       unfold stepE sgnE
       rw [if_pos hin]
       repeat' split
       all_goals first | rfl | omega)
end Go.Proofs.YtmajllgfmclcoaaGreatDoor.Hgt

namespace Go.Proofs.YtmajllgfmclcoaaGreatDoor.Hgt
set_option linter.unusedVariables false
set_option linter.unusedSimpArgs false
open Go.RowKit Go.Proofs.YtmajllgfmclcoaaGreatDoor.Dom Go.Joins

def loE (a b : Int) : Int := if b < a then b else a
section
variable {w W W' : World} {m n u v : Int}
end
set_option maxHeartbeats 1000000 in
theorem sSides (ax ay bx by' : Int) (h1 : 0 ≤ ax ∧ ax ≤ 8) (h2 : 0 ≤ ay ∧ ay ≤ 8) (h3 : 0 ≤ bx ∧ bx ≤ 8) (h4 : 0 ≤ by' ∧ by' ≤ 8) (w : World) :
  Calls Tryz.prog 98 #[.int .i64 ax, .int .i64 ay, .int .i64 bx, .int .i64 by'] w
   (if ay = by' then Cel2 (loE ax bx) (loE ay by' - 1) (loE ax bx) (loE ay by') w else Cel2 (loE ax bx - 1) (loE ay by') (loE ax bx) (loE ay by') w) := by
 have e1 : wrap64 (loE ax bx - 1) = loE ax bx - 1 := by unfold wrap64 loE; split <;> omega
 have e3 : wrap64 (by' - 1) = by' - 1 := by unfold wrap64; omega
 have k1 : (if bx < ax then bx else ax) = loE ax bx := rfl
 have k2 : (if by' < ay then by' else ay) = loE ay by' := rfl
 have k3 : ay = by' → loE ay by' = by' := fun e => by unfold loE; rw [e]; simp
 generalize loE ax bx = X at k1 e1 ⊢
 generalize loE ay by' = Y at k2 k3 ⊢
 by_cases q : ay = by'
 ·rw [if_pos q, k3 q]
  obtain ⟨k1', k2', k3'⟩ := at2_two w X (by' - 1) X by'
  have r0 := k1'.c0
  have r1 := k1'.c1
  have r2 := k2'.c0
  have r3 := k2'.c1
  have q' := k3 q
  subst q'
  clear k3
  go_enter Tryz.func98, Tryz.ntmps98
  go_wp2
  refine bodyPost_ret (v := .tuple #[.agg #[.int .i64 X, .int .i64 (Y - 1)], .agg #[.int .i64 X, .int .i64 Y]]) ?_ rfl (mkCel2 rfl rfl rfl rfl k3')
  simp [results, Tryz.results98, go_sem, r0, r1, r2, r3]
 ·rw [if_neg q]
  obtain ⟨k1', k2', k3'⟩ := at2_two w (X - 1) Y X Y
  have r0 := k1'.c0
  have r1 := k1'.c1
  have r2 := k2'.c0
  have r3 := k2'.c1
  clear k3
  go_enter Tryz.func98, Tryz.ntmps98
  go_wp2
  refine bodyPost_ret (v := .tuple #[.agg #[.int .i64 (X - 1), .int .i64 Y], .agg #[.int .i64 X, .int .i64 Y]]) ?_ rfl (mkCel2 rfl rfl rfl rfl k3')
  simp [results, Tryz.results98, go_sem, r0, r1, r2, r3]
end Go.Proofs.YtmajllgfmclcoaaGreatDoor.Hgt

namespace Go.Proofs.YtmajllgfmclcoaaGreatDoor.Hgt
set_option linter.unusedVariables false
set_option linter.unusedSimpArgs false
open Go.RowKit Go.Proofs.YtmajllgfmclcoaaGreatDoor.Pure Go.Proofs.YtmajllgfmclcoaaGreatDoor.Dms Go.Joins

def dX (d : Nat) : Int := if d = 0 then 1 else if d = 2 then -1 else 0
def dY (d : Nat) : Int := if d = 1 then 1 else if d = 3 then -1 else 0
def sdX (ax ay bx by' : Int) : Int := if ay = by' then loE ax bx else loE ax bx - 1
def sdY (ax ay bx by' : Int) : Int := if ay = by' then loE ay by' - 1 else loE ay by'
def sdM (ax ay bx by' : Int) : Dm := (sdX ax ay bx by', sdY ax ay bx by', decide (ay = by'))
theorem way_link {xs : List Int} {L : List Dm} {d v : Nat} (hv : v < 81) (hd : d < 4) {ax ay bx by' : Int} (e1 : ax = ((v % 9 : Nat) : Int)) (e2 : ay = ((v / 9 : Nat) : Int)) (e3 : bx = ax + dX d) (e4 : by' = ay + dY d) :
  (stepE ax ay bx by' = 0 ∧ ∀ w, ¬ Lk xs (xL L) (yL L) d v w) ∨
  (stepE ax ay bx by' = es d v ∧ (0 ≤ bx ∧ bx ≤ 8 ∧ 0 ≤ by' ∧ by' ≤ 8) ∧ ∃ w : Nat, w < 81 ∧ (w : Int) = by' * 9 + bx ∧ (∀ w', Lk xs (xL L) (yL L) d v w' → w' = w) ∧
   (Lk xs (xL L) (yL L) d v w ↔ (hasB xs (sdX ax ay bx by') (sdY ax ay bx by') = true ∨ hasB xs (loE ax bx) (loE ay by') = true) ∧ sdM ax ay bx by' ∉ L)) := by
 have fh : ∀ u : Nat, frH xs (xL L) u = true ↔ (hasB xs ((u % 9 : Nat) : Int) (((u / 9 : Nat) : Int) - 1) = true ∨ hasB xs ((u % 9 : Nat) : Int) ((u / 9 : Nat) : Int) = true) ∧ ((((u % 9 : Nat) : Int), ((u / 9 : Nat) : Int) - 1, true) : Dm) ∉ L := fun u => by
  unfold frH xL gX
  simp only [Bool.and_eq_true, Bool.or_eq_true, Bool.not_eq_true', decide_eq_false_iff_not]
  rw [show ((u % 9 + 1 : Nat) : Int) - 1 = ((u % 9 : Nat) : Int) by omega, show ((u / 9 + 1 : Nat) : Int) - 1 = ((u / 9 : Nat) : Int) by omega, show ((u / 9 + 1 : Nat) : Int) - 2 = ((u / 9 : Nat) : Int) - 1 by omega]
 have fv : ∀ u : Nat, frV xs (yL L) u = true ↔ (hasB xs (((u % 9 : Nat) : Int) - 1) ((u / 9 : Nat) : Int) = true ∨ hasB xs ((u % 9 : Nat) : Int) ((u / 9 : Nat) : Int) = true) ∧ ((((u % 9 : Nat) : Int) - 1, ((u / 9 : Nat) : Int), false) : Dm) ∉ L := fun u => by
  unfold frV yL gX
  simp only [Bool.and_eq_true, Bool.or_eq_true, Bool.not_eq_true', decide_eq_false_iff_not]
  rw [show ((u % 9 + 1 : Nat) : Int) - 1 = ((u % 9 : Nat) : Int) by omega, show ((u / 9 + 1 : Nat) : Int) - 1 = ((u / 9 : Nat) : Int) by omega, show ((u % 9 + 1 : Nat) : Int) - 2 = ((u % 9 : Nat) : Int) - 1 by omega]
 have h4 : d = 0 ∨ d = 1 ∨ d = 2 ∨ d = 3 := by omega
 unfold sdM sdX sdY
 rcases h4 with rfl | rfl | rfl | rfl
 ·have d1 : bx = ax + 1 := e3
  have d2 : by' = ay := by rw [e4]; show ay + 0 = ay; omega
  subst d2
  by_cases q : v % 9 < 8
  ·right
   refine ⟨?_, by omega, v + 1, by omega, by omega, fun w' h => by unfold Lk at h; omega, ?_⟩
   ·unfold stepE es sgnE
    rw [if_pos (by omega), if_pos (by omega)]
    split <;> split <;> omega
   ·unfold Lk
    rw [if_pos rfl, if_pos rfl]
    have l1 : loE ax bx = ax := by unfold loE; rw [if_neg (by omega)]
    have l2 : loE by' by' = by' := by unfold loE; simp
    rw [l1, l2, decide_eq_true (rfl : by' = by'), e1, e2, ← fh v]
    constructor
    ·rintro (⟨_, _, _, h⟩ | h | h | h)
     ·exact h
     all_goals omega
    ·exact fun h => .inl ⟨rfl, q, rfl, h⟩
  ·left
   refine ⟨?_, fun w h => by unfold Lk at h; omega⟩
   unfold stepE
   rw [if_neg (by omega)]
 ·have d1 : bx = ax := by rw [e3]; show ax + 0 = ax; omega
  have d2 : by' = ay + 1 := e4
  subst d1
  by_cases q : v / 9 < 8
  ·right
   refine ⟨?_, by omega, v + 9, by omega, by omega, fun w' h => by unfold Lk at h; omega, ?_⟩
   ·unfold stepE es sgnE
    rw [if_pos (by omega), if_neg (by omega), if_neg (by omega), if_pos (by omega)]
    split <;> split <;> omega
   ·unfold Lk
    rw [if_neg (by omega), if_neg (by omega)]
    have l1 : loE bx bx = bx := by unfold loE; simp
    have l2 : loE ay by' = ay := by unfold loE; rw [if_neg (by omega)]
    rw [l1, l2, decide_eq_false (by omega : ¬ ay = by'), e1, e2, ← fv v]
    constructor
    ·rintro (h | ⟨_, _, _, h⟩ | h | h)
     ·omega
     ·exact h
     all_goals omega
    ·exact fun h => .inr (.inl ⟨rfl, q, rfl, h⟩)
  ·left
   refine ⟨?_, fun w h => by unfold Lk at h; omega⟩
   unfold stepE
   rw [if_neg (by omega)]
 ·have d1 : bx = ax - 1 := by rw [e3]; show ax + -1 = ax - 1; omega
  have d2 : by' = ay := by rw [e4]; show ay + 0 = ay; omega
  subst d2
  by_cases q : 1 ≤ v % 9
  ·right
   refine ⟨?_, by omega, v - 1, by omega, by omega, fun w' h => by unfold Lk at h; omega, ?_⟩
   ·unfold stepE es sgnE
    rw [if_pos (by omega), if_neg (by omega), if_pos (by omega)]
    split <;> split <;> omega
   ·unfold Lk
    rw [if_pos rfl, if_pos rfl]
    have l1 : loE ax bx = (((v - 1) % 9 : Nat) : Int) := by unfold loE; rw [if_pos (by omega)]; omega
    have l2 : loE by' by' = (((v - 1) / 9 : Nat) : Int) := by unfold loE; simp; omega
    rw [l1, l2, decide_eq_true (rfl : by' = by'), ← fh (v - 1)]
    constructor
    ·rintro (h | h | ⟨_, _, _, h⟩ | h)
     ·omega
     ·omega
     ·exact h
     ·omega
    ·exact fun h => .inr (.inr (.inl ⟨rfl, by omega, by omega, h⟩))
  ·left
   refine ⟨?_, fun w h => by unfold Lk at h; omega⟩
   unfold stepE
   rw [if_neg (by omega)]
 ·have d1 : bx = ax := by rw [e3]; show ax + 0 = ax; omega
  have d2 : by' = ay - 1 := by rw [e4]; show ay + -1 = ay - 1; omega
  subst d1
  by_cases q : 1 ≤ v / 9
  ·right
   refine ⟨?_, by omega, v - 9, by omega, by omega, fun w' h => by unfold Lk at h; omega, ?_⟩
   ·unfold stepE es sgnE
    rw [if_pos (by omega), if_neg (by omega), if_neg (by omega), if_neg (by omega), if_pos (by omega)]
    split <;> split <;> omega
   ·unfold Lk
    rw [if_neg (by omega), if_neg (by omega)]
    have l1 : loE bx bx = (((v - 9) % 9 : Nat) : Int) := by unfold loE; simp; omega
    have l2 : loE ay by' = (((v - 9) / 9 : Nat) : Int) := by unfold loE; rw [if_pos (by omega)]; omega
    rw [l1, l2, decide_eq_false (by omega : ¬ ay = by'), ← fv (v - 9)]
    constructor
    ·rintro (h | h | h | ⟨_, _, h⟩)
     ·omega
     ·omega
     ·omega
     ·exact h
    ·exact fun h => .inr (.inr (.inr ⟨rfl, by omega, h⟩))
  ·left
   refine ⟨?_, fun w h => by unfold Lk at h; omega⟩
   unfold stepE
   rw [if_neg (by omega)]
end Go.Proofs.YtmajllgfmclcoaaGreatDoor.Hgt
