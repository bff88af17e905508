/- HgR, TfP, JnB, JnD, JnF, JoP, Iss in one text. -/
import Derived.Test.YtmajllgfmclcoaaGreatMc19
import Derived.Test.YtmajllgfmclcoaaGreatMc21
import Derived.Test.YtmajllgfmclcoaaGreatMc06
import Derived.Test.YtmajllgfmclcoaaGreatMc08
import Derived.Test.YtmajllgfmclcoaaGreatMc00

namespace Go.Proofs.YtmajllgfmclcoaaGreat.Hgt
set_option linter.unusedVariables false
set_option linter.unusedSimpArgs false
open Go.RowKit Go.Proofs.YtmajllgfmclcoaaGreat.Pure Go.Proofs.YtmajllgfmclcoaaGreat.Dms Go.Proofs.YtmajllgfmclcoaaGreat.Til Go.Joins
open Go.Proofs.YtmajllgfmclcoaaGreat.Reg (ints)
open Go.Proofs.YtmajllgfmclcoaaGreat.Flo (simB)

def hgtR (xs : List Int) (L : List Dm) (h : List Int) : Prop := (simB xs = true ∧ Row9 xs L h) ∨ (¬ (simB xs = true ∧ tilB xs L = true) ∧ h = [])
theorem hgtR_uniq {xs : List Int} {L : List Dm} {h h' : List Int} (k : hgtR xs L h) (k' : hgtR xs L h') : h = h' := by
 rcases k with ⟨a, b⟩ | ⟨a, b⟩ <;> rcases k' with ⟨c, d⟩ | ⟨c, d⟩
 ·exact row_uniq b d
 ·exact absurd ⟨a, b.til⟩ c
 ·exact absurd ⟨c, d.til⟩ a
 ·rw [b, d]
theorem hgtR_len {xs : List Int} {L : List Dm} {h : List Int} (k : hgtR xs L h) : h.length ≤ 81 := by
 rcases k with ⟨_, b⟩ | ⟨_, rfl⟩
 ·rw [b.len]; omega
 ·simp
def HgtP (xs : List Int) (L : List Dm) (w : World) (e : Ending) (w' : World) : Prop :=
 ∃ (h : List Int) (A : Option Addr) (n cap : Nat), hgtR xs L h ∧ h.length = n ∧ e = .returned (.slice A n cap) ∧ w'.ownsRow w.heap.size 3 1 (.slice A n cap) n (ints h) ∧ Below w.heap.size w w'
theorem first_lc {xs : List Int} (ok : okR xs) {x y : Int} {t : List (Int × Int)} (h : cellsR xs = (x, y) :: t) : (0 ≤ x ∧ x ≤ 7 ∧ 0 ≤ y ∧ y ≤ 7) ∧ ((lc xs : Nat) : Int) = y * 9 + x := by
 have hb : hasB xs x y = true := mem_cells.1 (h ▸ List.mem_cons_self ..)
 obtain ⟨_, x0, x7, y0, y7, _⟩ := hasB_iff.1 hb
 have hl : ∀ x' y', hasB xs x' y' = true → y * 8 + x ≤ y' * 8 + x' := fun x' y' hc => by
  have hm := mem_cells.2 hc
  have hi := cells_inc xs
  rw [h] at hm hi
  rcases List.mem_cons.1 hm with e | e
  ·injection e with e1 e2; omega
  ·have := (List.pairwise_cons.1 hi).1 _ e
   simp only at this
   omega
 refine ⟨⟨x0, x7, y0, y7⟩, ?_⟩
 obtain ⟨a, ha⟩ : ∃ a : Nat, (a : Int) = x := ⟨x.toNat, by omega⟩
 obtain ⟨b, hb'⟩ : ∃ b : Nat, (b : Int) = y := ⟨y.toNat, by omega⟩
 have e : lc xs = 9 * b + a := by
  refine lc_of (by omega) (crn_any.2 ⟨0, by omega, ?_⟩) (fun v hv => ?_)
  ·rw [show (((9 * b + a) % 9 : Nat) : Int) - ((0 % 2 : Nat) : Int) = x by omega, show (((9 * b + a) / 9 : Nat) : Int) - ((0 / 2 : Nat) : Int) = y by omega]
   exact hb
  ·cases q : crnB xs v with
   | false => rfl
   | true =>
    obtain ⟨i, hi, hc⟩ := crn_any.1 q
    obtain ⟨_, c0, c7, d0, d7, _⟩ := hasB_iff.1 hc
    have := hl _ _ hc
    omega
 rw [e]; omega
end Go.Proofs.YtmajllgfmclcoaaGreat.Hgt

namespace Go.Proofs.YtmajllgfmclcoaaGreat.Hgt
set_option linter.unusedVariables false
set_option linter.unusedSimpArgs false
open Go.RowKit Go.Proofs.YtmajllgfmclcoaaGreat.Pure Go.Proofs.YtmajllgfmclcoaaGreat.Cell Go.Proofs.YtmajllgfmclcoaaGreat.Dom Go.Proofs.YtmajllgfmclcoaaGreat.Dms Go.Proofs.YtmajllgfmclcoaaGreat.Til Go.Proofs.YtmajllgfmclcoaaGreat.Flp Go.Joins
open Go.Proofs.YtmajllgfmclcoaaGreat.Flo (simB)

def tellG (xs hs : List Int) (e : Dm) : Prop := hasB xs e.1 e.2.1 = true ∧ hasB xs (sx e.1 e.2.2) (sy e.2.1 e.2.2) = true ∧ gap hs e
theorem row_gap {xs : List Int} {M : List Dm} {hs : List Int} (r : Row9 xs M hs) (e : Dm) (ho : okM e = true) : e ∈ M ↔ tellG xs hs e := by
 have hp := til_part r.til
 unfold tellG
 have main : hasB xs e.1 e.2.1 = true → hasB xs (sx e.1 e.2.2) (sy e.2.1 e.2.2) = true → (gap hs e ↔ e ∈ M) := fun h1 h2 => by
  obtain ⟨x, y, b⟩ := e
  cases b with
  | true =>
   have o := ok_dn ho
   have e2 : sy y true = y + 1 := by unfold sy; rw [if_pos rfl]; exact wrap_in (by omega) (by omega)
   have e1 : sx x true = x := by unfold sx; rw [if_pos rfl]
   simp only at h1 h2
   rw [e1, e2] at h2
   obtain ⟨u, v, a1, a2, b1, b2, key⟩ := gap_dn r h1 h2
   rw [← key]
   unfold gap gapA gapB
   simp only [if_pos]
   constructor
   ·rintro ⟨u', v', c1, c2, c3⟩
    rw [a1] at c1
    rw [a2] at c2
    injection c1 with c1
    injection c2 with c2
    subst c1
    subst c2
    rwa [wrap_small (by omega), wrap_small (by omega)] at c3
   ·intro h
    refine ⟨u, v, a1, a2, ?_⟩
    rwa [wrap_small (by omega), wrap_small (by omega)]
  | false =>
   have o := ok_rt ho
   have e1 : sx x false = x + 1 := by unfold sx; rw [if_neg (by simp)]; exact wrap_in (by omega) (by omega)
   have e2 : sy y false = y := by unfold sy; rw [if_neg (by simp)]
   simp only at h1 h2
   rw [e1, e2] at h2
   obtain ⟨u, v, a1, a2, b1, b2, key⟩ := gap_rt r h1 h2
   rw [← key]
   unfold gap gapA gapB
   simp only [Bool.false_eq_true, if_false]
   rw [show 9 * (y.toNat + 1) + (x + 1).toNat = 9 * (y + 1).toNat + (x + 1).toNat by omega]
   constructor
   ·rintro ⟨u', v', c1, c2, c3⟩
    rw [a1] at c1
    rw [a2] at c2
    injection c1 with c1
    injection c2 with c2
    subst c1
    subst c2
    rwa [wrap_small (by omega), wrap_small (by omega)] at c3
   ·intro h
    refine ⟨u, v, a1, a2, ?_⟩
    rwa [wrap_small (by omega), wrap_small (by omega)]
 constructor
 ·intro hm
  have h1 : hasB xs e.1 e.2.1 = true := part_in hp hm (cov_of ho (.inl ⟨rfl, rfl⟩))
  have h2 : hasB xs (sx e.1 e.2.2) (sy e.2.1 e.2.2) = true := part_in hp hm (cov_of ho (.inr ⟨rfl, rfl⟩))
  exact ⟨h1, h2, (main h1 h2).2 hm⟩
 ·rintro ⟨h1, h2, h3⟩
  exact (main h1 h2).1 h3
def tfR (xs hs : List Int) (M : List Dm) (ok : Bool) : Prop :=
 (ok = true ∧ simB xs = true ∧ Row9 xs M hs) ∨ (ok = false ∧ M = [] ∧ ¬ (simB xs = true ∧ ∃ M', Row9 xs M' hs))
theorem tfR_uniq {xs hs : List Int} {M M' : List Dm} {ok ok' : Bool} (h : tfR xs hs M ok) (h' : tfR xs hs M' ok') : M = M' ∧ ok = ok' := by
 rcases h with ⟨rfl, a, b⟩ | ⟨rfl, rfl, c⟩ <;> rcases h' with ⟨rfl, a', b'⟩ | ⟨rfl, rfl, c'⟩
 ·refine ⟨?_, rfl⟩
  have e1 := tf_of b (C := M) (fun e ho => row_gap b e ho)
  have e2 := tf_of b' (C := M) (fun e ho => row_gap b e ho)
  rw [← e1]; exact e2
 ·exact absurd ⟨a, M, b⟩ c'
 ·exact absurd ⟨a', M', b'⟩ c
 ·exact ⟨rfl, rfl⟩
theorem tfR_len {xs hs : List Int} {M : List Dm} {ok : Bool} (h : tfR xs hs M ok) : M.length ≤ 32 := by
 rcases h with ⟨_, _, b⟩ | ⟨_, rfl, _⟩
 ·have := part_length (til_part b.til); omega
 ·simp
theorem tf_yes {xs hs : List Int} {M : List Dm} (h81 : hs.length = 81) {h : List Int} (hr : hgtR xs M h) (e : h = hs) : tfR xs hs M true := by
 subst e
 rcases hr with ⟨a, b⟩ | ⟨_, rfl⟩
 ·exact .inl ⟨rfl, a, b⟩
 ·simp at h81
theorem tf_no {xs hs : List Int} {C : List Dm} (hC : ∀ e, okM e = true → (e ∈ C ↔ tellG xs hs e)) {h : List Int} (hr : hgtR xs (sortM C) h) (e : h ≠ hs) : tfR xs hs [] false := by
 refine .inr ⟨rfl, rfl, ?_⟩
 rintro ⟨a, M', r⟩
 have e1 := tf_of r hC
 rw [e1] at hr
 rcases hr with ⟨_, b⟩ | ⟨c, _⟩
 ·exact e (row_uniq b r)
 ·exact c ⟨a, r.til⟩
theorem tf_short {xs hs : List Int} (h : hs.length ≠ 81) : tfR xs hs [] false := .inr ⟨rfl, rfl, fun ⟨_, M', r⟩ => h r.len⟩
theorem tf_bad {xs hs : List Int} (h : ¬ okR xs) : tfR xs hs [] false := .inr ⟨rfl, rfl, fun ⟨_, M', r⟩ => h r.ok⟩
def upG (xs hs : List Int) (x y qx qy : Int) : Prop := hasB xs (sdX x y qx qy) (sdY x y qx qy) = true ∧ hasB xs (loE x qx) (loE y qy) = true ∧ ∃ u v : Int, hs[pl9 (x, y)]? = some u ∧ hs[pl9 (qx, qy)]? = some v ∧ wrap64 (v - u) = 3
def walkG (xs hs : List Int) (v k : Nat) (e : Dm) : Prop :=
 ∃ u c, (u < v ∨ (u = v ∧ ∃ i, i < k ∧ (endsP ((u % 9 : Nat) : Int) ((u / 9 : Nat) : Int))[i]? = some c)) ∧ c ∈ endsP ((u % 9 : Nat) : Int) ((u / 9 : Nat) : Int) ∧ upG xs hs ((u % 9 : Nat) : Int) ((u / 9 : Nat) : Int) c.1 c.2 ∧ e = sdM ((u % 9 : Nat) : Int) ((u / 9 : Nat) : Int) c.1 c.2
theorem up_back {x y qx qy : Int} : sdX qx qy x y = sdX x y qx qy ∧ sdY qx qy x y = sdY x y qx qy ∧ loE qx x = loE x qx ∧ loE qy y = loE y qy ∧ sdM qx qy x y = sdM x y qx qy := by
 have l : ∀ a b : Int, loE a b = loE b a := fun a b => by unfold loE; split <;> split <;> omega
 have e : decide (qy = y) = decide (y = qy) := by rw [decide_eq_decide]; exact eq_comm
 have h1 : sdX qx qy x y = sdX x y qx qy := by
  unfold sdX; rw [l qx x]
  by_cases q : qy = y
  ·rw [if_pos q, if_pos q.symm]
  ·rw [if_neg q, if_neg (fun z => q z.symm)]
 have h2 : sdY qx qy x y = sdY x y qx qy := by
  unfold sdY; rw [l qy y]
  by_cases q : qy = y
  ·rw [if_pos q, if_pos q.symm]
  ·rw [if_neg q, if_neg (fun z => q z.symm)]
 exact ⟨h1, h2, l _ _, l _ _, by unfold sdM; rw [h1, h2, e]⟩
theorem dom_way {e : Dm} (ho : okM e = true) : ∃ x y qx qy : Int, (0 ≤ x ∧ x ≤ 8 ∧ 0 ≤ y ∧ y ≤ 8) ∧ (0 ≤ qx ∧ qx ≤ 8 ∧ 0 ≤ qy ∧ qy ≤ 8) ∧ (qx, qy) ∈ endsP x y ∧ (x, y) ∈ endsP qx qy ∧ sdM x y qx qy = e ∧
  sdX x y qx qy = e.1 ∧ sdY x y qx qy = e.2.1 ∧ loE x qx = sx e.1 e.2.2 ∧ loE y qy = sy e.2.1 e.2.2 ∧ pl9 (x, y) = gapA e ∧ pl9 (qx, qy) = gapB e := by
 obtain ⟨a, c, b⟩ := e
 have mem : ∀ {x y qx qy : Int}, (0 ≤ qx ∧ qx ≤ 8 ∧ 0 ≤ qy ∧ qy ≤ 8) → ((qx = x ∧ qy = y - 1) ∨ (qx = x - 1 ∧ qy = y) ∨ (qx = x + 1 ∧ qy = y) ∨ (qx = x ∧ qy = y + 1)) → (qx, qy) ∈ endsP x y := fun h1 h2 => by
  unfold endsP
  refine List.mem_filter.2 ⟨?_, inC_iff.2 (by simp only; omega)⟩
  unfold ends4
  simp only [List.mem_cons, List.not_mem_nil, or_false, Prod.mk.injEq]
  exact h2
 cases b with
 | true =>
  have o := ok_dn ho
  have w1 : sx a true = a := by unfold sx; rw [if_pos rfl]
  have w2 : sy c true = c + 1 := by unfold sy; rw [if_pos rfl]; exact wrap_in (by omega) (by omega)
  have s1 : sdX a (c + 1) (a + 1) (c + 1) = a := by unfold sdX loE; rw [if_pos rfl, if_neg (by omega)]
  have s2 : sdY a (c + 1) (a + 1) (c + 1) = c := by unfold sdY loE; rw [if_pos rfl, if_neg (by omega)]; omega
  refine ⟨a, c + 1, a + 1, c + 1, by omega, by omega, mem (by omega) (by omega), mem (by omega) (by omega), ?_, s1, s2, ?_, ?_, ?_, ?_⟩
  ·unfold sdM; rw [s1, s2, decide_eq_true (rfl : c + 1 = c + 1)]
  ·show loE a (a + 1) = sx a true; rw [w1]; unfold loE; rw [if_neg (by omega)]
  ·show loE (c + 1) (c + 1) = sy c true; rw [w2]; unfold loE; rw [if_neg (by omega)]
  ·unfold pl9 gapA; simp
  ·unfold pl9 gapB; simp; omega
 | false =>
  have o := ok_rt ho
  have w1 : sx a false = a + 1 := by unfold sx; rw [if_neg (by simp)]; exact wrap_in (by omega) (by omega)
  have w2 : sy c false = c := by unfold sy; rw [if_neg (by simp)]
  have s1 : sdX (a + 1) c (a + 1) (c + 1) = a := by unfold sdX loE; rw [if_neg (by omega), if_neg (by omega)]; omega
  have s2 : sdY (a + 1) c (a + 1) (c + 1) = c := by unfold sdY loE; rw [if_neg (by omega), if_neg (by omega)]
  refine ⟨a + 1, c, a + 1, c + 1, by omega, by omega, mem (by omega) (by omega), mem (by omega) (by omega), ?_, s1, s2, ?_, ?_, ?_, ?_⟩
  ·unfold sdM; rw [s1, s2, decide_eq_false (by omega : ¬ c = c + 1)]
  ·show loE (a + 1) (a + 1) = sx a false; rw [w1]; unfold loE; rw [if_neg (by omega)]
  ·show loE c (c + 1) = sy c false; rw [w2]; unfold loE; rw [if_neg (by omega)]
  ·unfold pl9 gapA; simp
  ·unfold pl9 gapB; simp; omega
theorem mk_dn {a b : Int} (h : 0 ≤ a ∧ a ≤ 7 ∧ 0 ≤ b ∧ b ≤ 6) : okM (a, b, true) = true := by
 show domB a b true = true
 have e : wrap64 (b + 1) = b + 1 := wrap_in (by omega) (by omega)
 unfold domB sx sy
 rw [if_pos rfl, if_pos rfl, e, Bool.and_eq_true, okB_iff, okB_iff]
 unfold Ok
 omega
theorem mk_rt {a b : Int} (h : 0 ≤ a ∧ a ≤ 6 ∧ 0 ≤ b ∧ b ≤ 7) : okM (a, b, false) = true := by
 show domB a b false = true
 have e : wrap64 (a + 1) = a + 1 := wrap_in (by omega) (by omega)
 unfold domB sx sy
 rw [if_neg (by simp), if_neg (by simp), e, Bool.and_eq_true, okB_iff, okB_iff]
 unfold Ok
 omega
theorem up_dom {xs : List Int} {x y : Int} {c : Int × Int} (h1 : hasB xs (sdX x y c.1 c.2) (sdY x y c.1 c.2) = true) (h2 : hasB xs (loE x c.1) (loE y c.2) = true) :
  okM (sdM x y c.1 c.2) = true ∧ loE x c.1 = sx (sdX x y c.1 c.2) (decide (y = c.2)) ∧ loE y c.2 = sy (sdY x y c.1 c.2) (decide (y = c.2)) ∧ nbB (sdX x y c.1 c.2) (sdY x y c.1 c.2) (loE x c.1) (loE y c.2) = true := by
 obtain ⟨_, x0, x7, y0, y7, _⟩ := hasB_iff.1 h1
 obtain ⟨_, u0, u7, v0, v7, _⟩ := hasB_iff.1 h2
 unfold sdM
 by_cases q : y = c.2
 ·have eX : sdX x y c.1 c.2 = loE x c.1 := by unfold sdX; rw [if_pos q]
  have eY : sdY x y c.1 c.2 = loE y c.2 - 1 := by unfold sdY; rw [if_pos q]
  rw [eX] at x0 x7
  rw [eY] at y0 y7
  rw [eX, eY, decide_eq_true q]
  clear h1 h2 eX eY
  generalize loE x c.1 = a at *
  generalize loE y c.2 = b at *
  refine ⟨mk_dn (by omega), ?_, ?_, ?_⟩
  ·unfold sx; rw [if_pos rfl]
  ·unfold sy; rw [if_pos rfl, wrap_in (by omega) (by omega)]; omega
  ·rw [nbB_iff]; unfold Ok; omega
 ·have eX : sdX x y c.1 c.2 = loE x c.1 - 1 := by unfold sdX; rw [if_neg q]
  have eY : sdY x y c.1 c.2 = loE y c.2 := by unfold sdY; rw [if_neg q]
  rw [eX] at x0 x7
  rw [eY] at y0 y7
  rw [eX, eY, decide_eq_false q]
  clear h1 h2 eX eY
  generalize loE x c.1 = a at *
  generalize loE y c.2 = b at *
  refine ⟨mk_rt (by omega), ?_, ?_, ?_⟩
  ·unfold sx; rw [if_neg (by simp), wrap_in (by omega) (by omega)]; omega
  ·unfold sy; rw [if_neg (by simp)]
  ·rw [nbB_iff]; unfold Ok; omega
theorem up_gap {hs : List Int} {x y : Int} {c : Int × Int} (hx : 0 ≤ x ∧ x ≤ 8 ∧ 0 ≤ y ∧ y ≤ 8) (hc : c ∈ endsP x y) (ho : okM (sdM x y c.1 c.2) = true) :
  (pl9 (x, y) = gapA (sdM x y c.1 c.2) ∧ pl9 c = gapB (sdM x y c.1 c.2)) ∨ (pl9 (x, y) = gapB (sdM x y c.1 c.2) ∧ pl9 c = gapA (sdM x y c.1 c.2)) := by
 obtain ⟨hin, d, hd, e3, e4⟩ := ends_dir hc
 have h4 : d = 0 ∨ d = 1 ∨ d = 2 ∨ d = 3 := by omega
 unfold sdM sdX sdY at ho ⊢
 rcases h4 with rfl | rfl | rfl | rfl
 ·have a : c.1 = x + 1 := e3
  have b : c.2 = y := by rw [e4]; show y + 0 = y; omega
  have l1 : loE x c.1 = x := by unfold loE; rw [if_neg (by omega)]
  have l2 : loE y c.2 = y := by unfold loE; rw [if_neg (by omega)]
  rw [if_pos b.symm, if_pos b.symm, decide_eq_true b.symm, l1, l2] at *
  have := ok_dn ho
  left
  unfold pl9 gapA gapB
  simp only [if_pos]
  omega
 ·have a : c.1 = x := by rw [e3]; show x + 0 = x; omega
  have b : c.2 = y + 1 := e4
  have nb : ¬ y = c.2 := by omega
  have l1 : loE x c.1 = x := by unfold loE; rw [if_neg (by omega)]
  have l2 : loE y c.2 = y := by unfold loE; rw [if_neg (by omega)]
  rw [if_neg nb, if_neg nb, decide_eq_false nb, l1, l2] at *
  have := ok_rt ho
  left
  unfold pl9 gapA gapB
  simp only [Bool.false_eq_true, if_false]
  omega
 ·have a : c.1 = x - 1 := e3
  have b : c.2 = y := by rw [e4]; show y + 0 = y; omega
  have l1 : loE x c.1 = c.1 := by unfold loE; rw [if_pos (by omega)]
  have l2 : loE y c.2 = y := by unfold loE; rw [if_neg (by omega)]
  rw [if_pos b.symm, if_pos b.symm, decide_eq_true b.symm, l1, l2] at *
  have := ok_dn ho
  right
  unfold pl9 gapA gapB
  simp only [if_pos]
  omega
 ·have a : c.1 = x := by rw [e3]; show x + 0 = x; omega
  have b : c.2 = y - 1 := e4
  have nb : ¬ y = c.2 := by omega
  have l1 : loE x c.1 = x := by unfold loE; rw [if_neg (by omega)]
  have l2 : loE y c.2 = c.2 := by unfold loE; rw [if_pos (by omega)]
  rw [if_neg nb, if_neg nb, decide_eq_false nb, l1, l2] at *
  have := ok_rt ho
  right
  unfold pl9 gapA gapB
  simp only [Bool.false_eq_true, if_false]
  omega
theorem walk_tell {xs hs : List Int} {C : List Dm} (hC : ∀ e, e ∈ C ↔ walkG xs hs 81 0 e) : ∀ e, okM e = true → (e ∈ C ↔ tellG xs hs e) := by
 intro e ho
 rw [hC]
 constructor
 ·rintro ⟨u, c, hu, hc, ⟨h1, h2, a, b, ha, hb, h3⟩, rfl⟩
  have hu' : u < 81 := by
   rcases hu with h | ⟨_, i, hi, _⟩
   ·exact h
   ·omega
  obtain ⟨k1, k2, k3, k4⟩ := up_dom h1 h2
  refine ⟨h1, ?_, ?_⟩
  ·unfold sdM
   simp only
   rw [← k2, ← k3]; exact h2
  ·rcases up_gap (hs := hs) (by omega) hc k1 with ⟨g1, g2⟩ | ⟨g1, g2⟩
   ·exact ⟨a, b, by rw [← g1]; exact ha, by rw [← g2]; exact hb, .inr h3⟩
   ·exact ⟨b, a, by rw [← g2]; exact hb, by rw [← g1]; exact ha, .inl h3⟩
 ·rintro ⟨h1, h2, a, b, ha, hb, h3⟩
  obtain ⟨x, y, qx, qy, r1, r2, m1, m2, e1, e2, e3, e4, e5, e6, e7⟩ := dom_way ho
  have num : ∀ {x y : Int}, (0 ≤ x ∧ x ≤ 8 ∧ 0 ≤ y ∧ y ≤ 8) → pl9 (x, y) < 81 ∧ ((pl9 (x, y) % 9 : Nat) : Int) = x ∧ ((pl9 (x, y) / 9 : Nat) : Int) = y := fun h => by unfold pl9; simp only; omega
  obtain ⟨n1, n2, n3⟩ := num r1
  obtain ⟨n4, n5, n6⟩ := num r2
  rcases h3 with h3 | h3
  ·refine ⟨pl9 (qx, qy), (x, y), .inl n4, by rw [n5, n6]; exact m2, ?_, ?_⟩
   ·rw [n5, n6]
    obtain ⟨b1, b2, b3, b4, b5⟩ := @up_back x y qx qy
    unfold upG
    simp only
    rw [b1, b2, b3, b4, e2, e3, e4, e5]
    exact ⟨h1, h2, b, a, by rw [e7]; exact hb, by rw [e6]; exact ha, h3⟩
   ·rw [n5, n6]
    simp only
    rw [(@up_back x y qx qy).2.2.2.2]; exact e1.symm
  ·refine ⟨pl9 (x, y), (qx, qy), .inl n1, by rw [n2, n3]; exact m1, ?_, ?_⟩
   ·rw [n2, n3]
    unfold upG
    simp only
    rw [e2, e3, e4, e5]
    exact ⟨h1, h2, a, b, by rw [e6]; exact ha, by rw [e7]; exact hb, h3⟩
   ·rw [n2, n3]; exact e1.symm
theorem walk_step {xs hs : List Int} {C : List Dm} {v k : Nat} {c : Int × Int} (hk : (endsP ((v % 9 : Nat) : Int) ((v / 9 : Nat) : Int))[k]? = some c) (hC : ∀ e, e ∈ C ↔ walkG xs hs v k e) :
  (upG xs hs ((v % 9 : Nat) : Int) ((v / 9 : Nat) : Int) c.1 c.2 → ∀ e, e ∈ C ++ [sdM ((v % 9 : Nat) : Int) ((v / 9 : Nat) : Int) c.1 c.2] ↔ walkG xs hs v (k + 1) e) ∧
  (¬ upG xs hs ((v % 9 : Nat) : Int) ((v / 9 : Nat) : Int) c.1 c.2 → ∀ e, e ∈ C ↔ walkG xs hs v (k + 1) e) := by
 have hm : c ∈ endsP ((v % 9 : Nat) : Int) ((v / 9 : Nat) : Int) := List.mem_of_getElem? hk
 have key : ∀ e, walkG xs hs v (k + 1) e ↔ walkG xs hs v k e ∨ (upG xs hs ((v % 9 : Nat) : Int) ((v / 9 : Nat) : Int) c.1 c.2 ∧ e = sdM ((v % 9 : Nat) : Int) ((v / 9 : Nat) : Int) c.1 c.2) := fun e => by
  constructor
  ·rintro ⟨u, c', hu, hc, h1, h2⟩
   rcases hu with h | ⟨rfl, i, hi, hci⟩
   ·exact .inl ⟨u, c', .inl h, hc, h1, h2⟩
   ·by_cases q : i = k
    ·subst q
     rw [hk] at hci
     injection hci with hci
     subst hci
     exact .inr ⟨h1, h2⟩
    ·exact .inl ⟨u, c', .inr ⟨rfl, i, by omega, hci⟩, hc, h1, h2⟩
  ·rintro (⟨u, c', hu, hc, h1, h2⟩ | ⟨h1, h2⟩)
   ·refine ⟨u, c', ?_, hc, h1, h2⟩
    rcases hu with h | ⟨e, i, hi, hci⟩
    ·exact .inl h
    ·exact .inr ⟨e, i, by omega, hci⟩
   ·exact ⟨v, c, .inr ⟨rfl, k, by omega, hk⟩, hm, h1, h2⟩
 refine ⟨fun hup e => ?_, fun hup e => ?_⟩
 ·rw [key, List.mem_append, hC, List.mem_singleton]
  exact ⟨fun h => h.imp id (fun q => ⟨hup, q⟩), fun h => h.imp id (fun q => q.2)⟩
 ·rw [key, hC]
  exact ⟨.inl, fun h => h.resolve_right (fun q => hup q.1)⟩
theorem walk_next {xs hs : List Int} {C : List Dm} {v : Nat} (hC : ∀ e, e ∈ C ↔ walkG xs hs v (endsP ((v % 9 : Nat) : Int) ((v / 9 : Nat) : Int)).length e) : ∀ e, e ∈ C ↔ walkG xs hs (v + 1) 0 e := by
 intro e
 rw [hC]
 constructor
 ·rintro ⟨u, c, hu, hc, h⟩
  refine ⟨u, c, ?_, hc, h⟩
  rcases hu with q | ⟨rfl, _⟩
  ·exact .inl (by omega)
  ·exact .inl (by omega)
 ·rintro ⟨u, c, hu, hc, h⟩
  refine ⟨u, c, ?_, hc, h⟩
  rcases hu with q | ⟨_, i, hi, _⟩
  ·by_cases q2 : u = v
   ·subst q2
    obtain ⟨i, hi, e2⟩ := List.getElem_of_mem hc
    exact .inr ⟨rfl, i, hi, by rw [List.getElem?_eq_getElem hi, e2]⟩
   ·exact .inl (by omega)
  ·omega
theorem walk_zero (xs hs : List Int) : ∀ e, e ∈ ([] : List Dm) ↔ walkG xs hs 0 0 e := fun e =>
 ⟨fun h => by simp at h, fun ⟨u, c, hu, _⟩ => by
  rcases hu with q | ⟨_, i, hi, _⟩ <;> omega⟩
end Go.Proofs.YtmajllgfmclcoaaGreat.Hgt

namespace Go.Proofs.YtmajllgfmclcoaaGreat.Hgt
set_option linter.unusedVariables false
set_option linter.unusedSimpArgs false
open Go.RowKit Go.Joins
open Go.Proofs.YtmajllgfmclcoaaGreat.Flo (simB)

def ht (hs : List Int) (k : Nat) : Int := hs[k]?.getD 0
end Go.Proofs.YtmajllgfmclcoaaGreat.Hgt

namespace Go.Proofs.YtmajllgfmclcoaaGreat.Hgt
set_option linter.unusedVariables false
set_option linter.unusedSimpArgs false
open Go.RowKit Go.Proofs.YtmajllgfmclcoaaGreat.Dms Go.Joins
open Go.Proofs.YtmajllgfmclcoaaGreat.Flo (simB)

theorem hgtR_row {xs : List Int} {L : List Dm} {hs : List Int} (r : hgtR xs L hs) : (hs = [] ∧ hs.length = 0) ∨ (hs.length = 81 ∧ hs ≠ [] ∧ simB xs = true ∧ Row9 xs L hs) := by
 rcases r with ⟨a, b⟩ | ⟨_, rfl⟩
 ·have l := b.len
  exact .inr ⟨l, fun e => by rw [e] at l; simp at l, a, b⟩
 ·exact .inl ⟨rfl, rfl⟩
def joinR (m : Int → Int → Int) (xs : List Int) (L M N : List Dm) (ok : Bool) : Prop :=
 ∃ hs gs, hgtR xs L hs ∧ hgtR xs M gs ∧ (((hs = [] ∨ gs = []) ∧ N = [] ∧ ok = false) ∨ ((hs ≠ [] ∧ gs ≠ []) ∧ tfR xs (List.zipWith m hs gs) N ok))
theorem joinR_uniq {m : Int → Int → Int} {xs : List Int} {L M N N' : List Dm} {ok ok' : Bool} (h : joinR m xs L M N ok) (h' : joinR m xs L M N' ok') : N = N' ∧ ok = ok' := by
 obtain ⟨hs, gs, a, c, d⟩ := h
 obtain ⟨hs', gs', a', c', d'⟩ := h'
 obtain rfl := hgtR_uniq a a'
 obtain rfl := hgtR_uniq c c'
 rcases d with ⟨n, rfl, rfl⟩ | ⟨n, t⟩ <;> rcases d' with ⟨n', rfl, rfl⟩ | ⟨n', t'⟩
 ·exact ⟨rfl, rfl⟩
 ·rcases n with n | n
  ·exact absurd n n'.1
  ·exact absurd n n'.2
 ·rcases n' with q | q
  ·exact absurd q n.1
  ·exact absurd q n.2
 ·exact tfR_uniq t t'
end Go.Proofs.YtmajllgfmclcoaaGreat.Hgt

namespace Go.Proofs.YtmajllgfmclcoaaGreat.Hgt
set_option linter.unusedVariables false
set_option linter.unusedSimpArgs false
open Go.RowKit Go.Joins
open Go.Proofs.YtmajllgfmclcoaaGreat.Flo (simB)

theorem ht_at {hs : List Int} {k : Nat} (hk : k < hs.length) : ht hs k = hs[k] := by
 unfold ht
 rw [List.getElem?_eq_getElem hk]; rfl
end Go.Proofs.YtmajllgfmclcoaaGreat.Hgt

namespace Go.Proofs.YtmajllgfmclcoaaGreat.Jn
set_option linter.unusedVariables false
set_option linter.unusedSimpArgs false
set_option maxRecDepth 100000
open Go.RowKit Go.Proofs.YtmajllgfmclcoaaGreat.Dms Go.Proofs.YtmajllgfmclcoaaGreat.Hgt Go.Joins
open Go.Proofs.YtmajllgfmclcoaaGreat.Flo (simB)
open Go.Proofs.YtmajllgfmclcoaaGreat.Reg (ints)

def JoiP (m : Int → Int → Int) (xs : List Int) (L M : List Dm) (w : World) (e : Ending) (w' : World) : Prop :=
 ∃ (N : List Dm) (ok : Bool) (A : Option Addr) (c : Nat), e = .returned (.tuple #[.slice A N.length c, .bool ok]) ∧ w'.ownsRow w.heap.size 43 3 (.slice A N.length c) N.length (rowM N) ∧ joinR m xs L M N ok ∧ N.length ≤ c ∧ Below w.heap.size w w'
theorem joinR_len {m : Int → Int → Int} {xs : List Int} {L M N : List Dm} {ok : Bool} (h : joinR m xs L M N ok) : N.length ≤ 32 := by
 obtain ⟨hs, gs, _, _, ⟨_, rfl, _⟩ | ⟨_, t⟩⟩ := h
 ·simp
 ·exact tfR_len t
structure Two (xs : List Int) (L M : List Dm) (hs gs : List Int) : Prop where
 lh : hs.length = 81
 lg : gs.length = 81
 nh : hs ≠ []
 ng : gs ≠ []
 rh : Row9 xs L hs
 rg : Row9 xs M gs
theorem rows_two {xs : List Int} {L M : List Dm} {hs gs : List Int} (a : hgtR xs L hs) (b : hgtR xs M gs) : (hs = [] ∨ gs = []) ∨ Two xs L M hs gs := by
 rcases hgtR_row a with ⟨e, _⟩ | ⟨l1, n1, _, r1⟩
 ·exact .inl (.inl e)
 ·rcases hgtR_row b with ⟨e, _⟩ | ⟨l2, n2, _, r2⟩
  ·exact .inl (.inr e)
  ·exact .inr ⟨l1, l2, n1, n2, r1, r2⟩
section
variable {xs : List Int} {L M : List Dm} {hs gs : List Int}
theorem join_no {m : Int → Int → Int} (a : hgtR xs L hs) (b : hgtR xs M gs) (h : hs = [] ∨ gs = []) : joinR m xs L M [] false := ⟨hs, gs, a, b, .inl ⟨h, rfl, rfl⟩⟩
theorem join_of {m : Int → Int → Int} (a : hgtR xs L hs) (b : hgtR xs M gs) (t : Two xs L M hs gs) {N : List Dm} {ok : Bool} (h : tfR xs (List.zipWith m hs gs) N ok) : joinR m xs L M N ok := ⟨hs, gs, a, b, .inr ⟨⟨t.nh, t.ng⟩, h⟩⟩
theorem zw_len (m : Int → Int → Int) (l1 : hs.length = 81) (l2 : gs.length = 81) : (List.zipWith m hs gs).length = 81 := by rw [List.length_zipWith]; omega
theorem zw_take (m : Int → Int → Int) {k : Nat} (l1 : hs.length = 81) (l2 : gs.length = 81) (hk : k < 81) : (List.zipWith m hs gs).take (k + 1) = (List.zipWith m hs gs).take k ++ [m (hs[k]'(by omega)) (gs[k]'(by omega))] := by
 rw [List.take_succ_eq_append_getElem (by rw [zw_len m l1 l2]; exact hk), List.getElem_zipWith]
theorem zw_all (m : Int → Int → Int) (l1 : hs.length = 81) (l2 : gs.length = 81) : (List.zipWith m hs gs).take 81 = List.zipWith m hs gs := List.take_of_length_le (by rw [zw_len m l1 l2]; exact Nat.le_refl _)
end
end Go.Proofs.YtmajllgfmclcoaaGreat.Jn

namespace Go.Proofs.YtmajllgfmclcoaaGreat.Wg
set_option linter.unusedVariables false
set_option linter.unusedSimpArgs false
open Go.RowKit Go.Joins
open Go.Proofs.YtmajllgfmclcoaaGreat.Reg (own_below own_base)

def natV (l : List Nat) : List Value := l.map fun n : Nat => Value.int .i64 (n : Int)
theorem natV_length (l : List Nat) : (natV l).length = l.length := by unfold natV; simp
theorem natV_snoc (l : List Nat) (n : Nat) : natV (l ++ [n]) = natV l ++ [.int .i64 (n : Int)] := by unfold natV; simp
theorem natV_at {l : List Nat} {i v : Nat} (h : l[i]? = some v) : (natV l)[i]? = some (.int .i64 (v : Int)) := by unfold natV; rw [List.getElem?_map, h]; rfl
def rowF (n : Nat) (a : Nat → Int) : List Value := (List.range n).map fun i => Value.int .i64 (a i)
theorem rowF_at {n : Nat} {a : Nat → Int} {i : Nat} (h : i < n) : (rowF n a)[i]? = some (.int .i64 (a i)) := by unfold rowF; rw [List.getElem?_map, List.getElem?_range h]; rfl
def NumR (W : World) (base b n : Nat) (a : Nat → Int) : Prop := W.ownsRow base 3 1 (.slice (some ⟨b, 0, none⟩) n n) n (rowF n a)
section
variable {W W' : World} {base b n : Nat} {a : Nat → Int}
theorem NumR.lt (h : NumR W base b n a) : base ≤ b ∧ b < W.heap.size := World.ownsRow.lt h b rfl
theorem NumR.cell (h : NumR W base b n a) {i : Nat} (hi : i < n) : W.cell? ⟨b, i, none⟩ = some (.int .i64 (a i)) := (World.ownsRow.cellAt h i (by omega)).trans (rowF_at hi)
end
def RdN (w : World) (B : Nat) (A : Option Addr) (l : List Nat) : Prop := ∃ b, (0 < l.length → A = some ⟨b, 0, none⟩ ∧ b < B) ∧ ∀ (i : Nat) (hi : i < l.length), w.cell? ⟨b, i, none⟩ = some (.int .i64 ((l[i] : Nat) : Int))
theorem rdN_own {w : World} {base n cap : Nat} {A : Option Addr} {l : List Nat} (h : w.ownsRow base 3 1 (.slice A n cap) n (natV l)) : RdN w w.heap.size A l := by
 have hl : l.length = n := by have := h.1; rw [natV_length] at this; omega
 rcases h.2 with ⟨q, h0⟩ | ⟨g, cap', cur, q, hb, hg, _⟩
 ·have h00 : n = 0 := h0
  exact ⟨0, fun h1 => by omega, fun i hi => by omega⟩
 ·injection q with q1 _ q3
  subst q1; subst q3
  refine ⟨g, fun _ => ⟨rfl, (World.ownsRow.lt h g rfl).2⟩, fun i hi => ?_⟩
  exact (World.ownsRow.cellAt h i (by omega)).trans (natV_at (List.getElem?_eq_getElem hi))
end Go.Proofs.YtmajllgfmclcoaaGreat.Wg
