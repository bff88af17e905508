/- FrA, HgtP, HgtT, HgtF, HgtL, FrB in one text. -/
import Derived.Test.YtjfagpmklifjlaaMf05
import Derived.Test.YtjfagpmklifjlaaMf02

namespace Go.Proofs.Ytjfagpmklifjlaa.Fr
set_option linter.unusedVariables false
set_option linter.unusedSimpArgs false
open Go.RowKit Go.Proofs.Ytjfagpmklifjlaa.Pure Go.Proofs.Ytjfagpmklifjlaa.Cell Go.Proofs.Ytjfagpmklifjlaa.Dms Go.Proofs.Ytjfagpmklifjlaa.Til Go.Proofs.Ytjfagpmklifjlaa.Grd Go.Proofs.Ytjfagpmklifjlaa.Flp Go.Joins
open Go.Proofs.Ytjfagpmklifjlaa.Lis (allT all_til)

theorem any_iff {L : List Dm} {x y : Int} : anyM L x y = true ↔ ∃ d ∈ L, covM d x y = true := by unfold anyM; rw [List.any_eq_true]
theorem til_iff {xs : List Int} {L : List Dm} : tilB xs L = true ↔ partB xs L = true ∧ ∀ x y, hasB xs x y = true → anyM L x y = true := by
 constructor
 ·intro h
  have hp : partB xs L = true := by unfold tilB at h; rw [Bool.and_eq_true] at h; exact h.1
  refine ⟨hp, fun x y hc => ?_⟩
  rw [tilB_part hp, decide_eq_true_eq] at h
  cases q : anyM L x y with
  | true => rfl
  | false =>
   have hm : (x, y) ∈ unc L (cellsR xs) := List.mem_filter.2 ⟨mem_cells.2 hc, by simp [q]⟩
   rw [List.eq_nil_of_length_eq_zero h] at hm
   cases hm
 ·rintro ⟨hp, hc⟩
  rw [tilB_part hp, decide_eq_true_eq]
  unfold unc
  rw [List.filter_eq_nil_iff.2 (fun c hm => by rw [hc c.1 c.2 (mem_cells.1 hm)]; simp)]
  rfl
def Less (xs xs' : List Int) (S : List Dm) : Prop := ∀ x y, hasB xs' x y = (hasB xs x y && !anyM S x y)
def out (S L : List Dm) : List Dm := L.filter fun d => decide (d ∉ S)
theorem mem_out {S L : List Dm} {d : Dm} : d ∈ out S L ↔ d ∈ L ∧ d ∉ S := by unfold out; rw [List.mem_filter, decide_eq_true_eq]
theorem sub_til {xs xs' : List Int} {S L : List Dm} (ok' : okR xs') (hh : Less xs xs' S) (hL : tilB xs L = true) (hS : ∀ d ∈ S, d ∈ L) : tilB xs' (out S L) = true := by
 obtain ⟨hp, hc⟩ := til_iff.1 hL
 have hv := part_valid hp
 have dj := part_dj hp
 have apart : ∀ d ∈ L, d ∉ S → ∀ x y, covM d x y = true → anyM S x y = false := fun d hd hn x y hx => by
  cases q : anyM S x y with
  | false => rfl
  | true =>
   obtain ⟨e, he, hx'⟩ := any_iff.1 q
   exact absurd (dj d hd e (hS e he) x y hx hx' ▸ he) hn
 refine til_iff.2 ⟨part_of (okRB_of ok') ((part_inc hp).filter _) (fun d hd => hv d (mem_out.1 hd).1) (fun d hd x y hx => ?_) (fun d hd e he => dj d (mem_out.1 hd).1 e (mem_out.1 he).1), fun x y hx => ?_⟩
 ·obtain ⟨h1, h2⟩ := mem_out.1 hd
  rw [hh, part_in hp h1 hx, apart d h1 h2 x y hx]; rfl
 ·rw [hh, Bool.and_eq_true, Bool.not_eq_true'] at hx
  obtain ⟨d, hd, hx'⟩ := any_iff.1 (hc x y hx.1)
  refine any_iff.2 ⟨d, mem_out.2 ⟨hd, fun hs => ?_⟩, hx'⟩
  have := any_iff.2 ⟨d, hs, hx'⟩
  rw [hx.2] at this; cases this
theorem add_til {xs xs' : List Int} {S M : List Dm} (ok : okR xs) (hh : Less xs xs' S) (hv : ∀ d ∈ S, okM d = true) (hin : ∀ d ∈ S, ∀ x y, covM d x y = true → hasB xs x y = true) (hd : Dj S) (hM : tilB xs' M = true) :
  tilB xs (sortM (S ++ M)) = true ∧ (∀ d ∈ S, d ∈ sortM (S ++ M)) ∧ out S (sortM (S ++ M)) = M := by
 obtain ⟨hp, hc⟩ := til_iff.1 hM
 have hvM := part_valid hp
 have mem : ∀ d, d ∈ sortM (S ++ M) ↔ d ∈ S ∨ d ∈ M := fun d => by
  rw [(sortM_good _).2, List.mem_append]
  exact ⟨fun h => h.1, fun h => ⟨h, h.elim (hv d) (hvM d)⟩⟩
 have hM' : ∀ d ∈ M, ∀ x y, covM d x y = true → hasB xs x y = true ∧ anyM S x y = false := fun d hd x y hx => by
  have := part_in hp hd hx
  rw [hh, Bool.and_eq_true, Bool.not_eq_true'] at this
  exact this
 have apart : ∀ d ∈ M, ∀ e ∈ S, ∀ x y, covM d x y = true → covM e x y = true → False := fun d hd e he x y h1 h2 => by
  have := (hM' d hd x y h1).2
  rw [any_iff.2 ⟨e, he, h2⟩] at this; cases this
 refine ⟨til_iff.2 ⟨part_of (okRB_of ok) (sortM_good _).1 (fun d h => ((sortM_good _).2 d).1 h |>.2) (fun d h x y hx => ?_) (fun d h e h' x y hx hx' => ?_), fun x y hx => ?_⟩, fun d h => (mem d).2 (.inl h), ?_⟩
 ·rcases (mem d).1 h with h | h
  ·exact hin d h x y hx
  ·exact (hM' d h x y hx).1
 ·rcases (mem d).1 h with h | h <;> rcases (mem e).1 h' with h' | h'
  ·exact hd d h e h' x y hx hx'
  ·exact (apart e h' d h x y hx' hx).elim
  ·exact (apart d h e h' x y hx hx').elim
  ·exact part_dj hp d h e h' x y hx hx'
 ·cases q : anyM S x y with
  | true =>
   obtain ⟨d, h, hx'⟩ := any_iff.1 q
   exact any_iff.2 ⟨d, (mem d).2 (.inl h), hx'⟩
  | false =>
   obtain ⟨d, h, hx'⟩ := any_iff.1 (hc x y (by rw [hh, hx, q]; rfl))
   exact any_iff.2 ⟨d, (mem d).2 (.inr h), hx'⟩
 ·refine uniq ((sortM_good _).1.filter _) (part_inc hp) fun d => ?_
  rw [mem_out, mem]
  constructor
  ·rintro ⟨h | h, n⟩
   ·exact absurd h n
   ·exact h
  ·intro h
   refine ⟨.inr h, fun hs => ?_⟩
   have hok := hvM d h
   have hx : covM d d.1 d.2.1 = true := by
    unfold covM covP
    rw [hok, (eqB_iff (x := d.1) (y := d.2.1) (u := d.1) (v := d.2.1)).2 ⟨rfl, rfl⟩]; rfl
   exact apart d h d hs _ _ hx hx
theorem out_inj {xs : List Int} {S L M : List Dm} (hL : partB xs L = true) (hM : partB xs M = true) (h1 : ∀ d ∈ S, d ∈ L) (h2 : ∀ d ∈ S, d ∈ M) (e : out S L = out S M) : L = M := by
 refine uniq (part_inc hL) (part_inc hM) fun d => ?_
 by_cases hs : d ∈ S
 ·exact ⟨fun _ => h2 d hs, fun _ => h1 d hs⟩
 ·have a : d ∈ out S L ↔ d ∈ out S M := by rw [e]
  rw [mem_out, mem_out] at a
  exact ⟨fun h => (a.1 ⟨h, hs⟩).1, fun h => (a.2 ⟨h, hs⟩).1⟩
def holdT (xs : List Int) (S : List Dm) : List (List Dm) := (allT xs).filter fun L => S.all fun d => decide (d ∈ L)
theorem mem_hold {xs : List Int} (ok : okR xs) {S L : List Dm} : L ∈ holdT xs S ↔ tilB xs L = true ∧ ∀ d ∈ S, d ∈ L := by
 unfold holdT
 rw [List.mem_filter, List.all_eq_true]
 constructor
 ·rintro ⟨h1, h2⟩
  exact ⟨all_til ok L h1, fun d hd => of_decide_eq_true (h2 d hd)⟩
 ·rintro ⟨h1, h2⟩
  exact ⟨KuL.til_all ok h1, fun d hd => decide_eq_true (h2 d hd)⟩
theorem sub_len {α : Type} : ∀ {A B : List α}, A.Nodup → (∀ x ∈ A, x ∈ B) → A.length ≤ B.length
 | [], _, _, _ => Nat.zero_le _
 | x :: A, B, hn, h => by
  obtain ⟨h1, h2⟩ := List.nodup_cons.1 hn
  obtain ⟨l, r, e⟩ := List.append_of_mem (h x List.mem_cons_self)
  have := sub_len (A := A) (B := l ++ r) h2 fun y hy => by
   have := h y (List.mem_cons_of_mem _ hy)
   rw [e, List.mem_append, List.mem_cons] at this
   rw [List.mem_append]
   rcases this with q | rfl | q
   ·exact .inl q
   ·exact absurd hy h1
   ·exact .inr q
  rw [e]
  simp only [List.length_append, List.length_cons] at this ⊢
  omega
theorem perm_of {α : Type} {A B : List α} (ha : A.Nodup) (hb : B.Nodup) (h : ∀ x, x ∈ A ↔ x ∈ B) : A.length = B.length :=
 Nat.le_antisymm (sub_len ha (fun x hx => (h x).1 hx)) (sub_len hb (fun x hx => (h x).2 hx))
theorem hold_length {xs xs' : List Int} {S : List Dm} (ok : okR xs) (ok' : okR xs') (hh : Less xs xs' S) (hv : ∀ d ∈ S, okM d = true) (hin : ∀ d ∈ S, ∀ x y, covM d x y = true → hasB xs x y = true) (hd : Dj S) :
  (holdT xs S).length = (allT xs').length := by
 have hn : (holdT xs S).Nodup := (Wg.allT_nodup xs).filter _
 have key := perm_of (A := (holdT xs S).map (out S)) (B := allT xs') (by
  refine List.pairwise_map.2 (List.Pairwise.imp_of_mem ?_ hn)
  intro L M hL hM hne e
  obtain ⟨l1, l2⟩ := (mem_hold ok).1 hL
  obtain ⟨m1, m2⟩ := (mem_hold ok).1 hM
  exact hne (out_inj (til_iff.1 l1).1 (til_iff.1 m1).1 l2 m2 e)) (Wg.allT_nodup xs') (fun M => by
  rw [List.mem_map]
  constructor
  ·rintro ⟨L, hL, rfl⟩
   obtain ⟨l1, l2⟩ := (mem_hold ok).1 hL
   exact KuL.til_all ok' (sub_til ok' hh l1 l2)
  ·intro hM
   obtain ⟨a, b, c⟩ := add_til ok hh hv hin hd (all_til ok' M hM)
   exact ⟨_, (mem_hold ok).2 ⟨a, b⟩, c⟩)
 rwa [List.length_map] at key
end Go.Proofs.Ytjfagpmklifjlaa.Fr

namespace Go.Proofs.Ytjfagpmklifjlaa.Hgt
set_option linter.unusedVariables false
set_option linter.unusedSimpArgs false

abbrev Fm := Nat → Nat → Int
def Ag (R : Nat → Nat → Bool) (H V H' V' : Fm) : Prop :=
 (∀ i j, ¬ (R i j = true ∧ R (i + 1) j = true) → V' (i + 1) j = V (i + 1) j) ∧ ∀ i j, ¬ (R i j = true ∧ R i (j + 1) = true) → H' i (j + 1) = H i (j + 1)
end Go.Proofs.Ytjfagpmklifjlaa.Hgt

namespace Go.Proofs.Ytjfagpmklifjlaa.Hgt
set_option linter.unusedVariables false
set_option linter.unusedSimpArgs false

abbrev Cx := Nat → Nat → Bool
section
variable {G : Nat → Nat → Bool} {X Y X' Y' : Cx}
end
end Go.Proofs.Ytjfagpmklifjlaa.Hgt

namespace Go.Proofs.Ytjfagpmklifjlaa.Hgt
set_option linter.unusedVariables false
set_option linter.unusedSimpArgs false

section
variable {G : Nat → Nat → Bool} {X Y X' Y' : Cx}
def far (E : Fm) : Nat := ((List.range 121).map fun k => (E (k % 11) (k / 11)).natAbs).sum
end
end Go.Proofs.Ytjfagpmklifjlaa.Hgt

namespace Go.Proofs.Ytjfagpmklifjlaa.Hgt
set_option linter.unusedVariables false
set_option linter.unusedSimpArgs false
open Go.RowKit Go.Proofs.Ytjfagpmklifjlaa.Cell Go.Proofs.Ytjfagpmklifjlaa.Dom Go.Proofs.Ytjfagpmklifjlaa.Dms Go.Proofs.Ytjfagpmklifjlaa.Til Go.Proofs.Ytjfagpmklifjlaa.Flp Go.Joins

theorem ok_dn {x y : Int} (h : okM (x, y, true) = true) : 0 ≤ x ∧ x ≤ 7 ∧ 0 ≤ y ∧ y ≤ 6 := by
 unfold okM domB at h
 rw [Bool.and_eq_true, okB_iff, okB_iff] at h
 obtain ⟨h1, h2⟩ := h
 unfold Ok at h1 h2
 simp only at h1 h2
 unfold sx sy at h2
 rw [if_pos rfl, if_pos rfl, wrap_in (by omega) (by omega)] at h2
 omega
theorem ok_rt {x y : Int} (h : okM (x, y, false) = true) : 0 ≤ x ∧ x ≤ 6 ∧ 0 ≤ y ∧ y ≤ 7 := by
 unfold okM domB at h
 rw [Bool.and_eq_true, okB_iff, okB_iff] at h
 obtain ⟨h1, h2⟩ := h
 unfold Ok at h1 h2
 simp only at h1 h2
 unfold sx sy at h2
 rw [if_neg (by simp), if_neg (by simp), wrap_in (by omega) (by omega)] at h2
 omega
theorem cov_dn {x y : Int} (h : okM (x, y, true) = true) : covM (x, y, true) x y = true ∧ covM (x, y, true) x (y + 1) = true := by
 have := ok_dn h
 refine ⟨cov_of h (.inl ⟨rfl, rfl⟩), cov_of h (.inr ⟨?_, ?_⟩)⟩
 ·unfold sx; rw [if_pos rfl]
 ·unfold sy; rw [if_pos rfl]; exact (wrap_in (by omega) (by omega)).symm
theorem cov_rt {x y : Int} (h : okM (x, y, false) = true) : covM (x, y, false) x y = true ∧ covM (x, y, false) (x + 1) y = true := by
 have := ok_rt h
 refine ⟨cov_of h (.inl ⟨rfl, rfl⟩), cov_of h (.inr ⟨?_, ?_⟩)⟩
 ·unfold sx; rw [if_neg (by simp)]; exact (wrap_in (by omega) (by omega)).symm
 ·unfold sy; rw [if_neg (by simp)]
theorem cov_who {d : Dm} {x y : Int} (h : covM d x y = true) : d = (x, y, true) ∨ d = (x, y, false) ∨ d = (x, y - 1, true) ∨ d = (x - 1, y, false) := by
 obtain ⟨ho, h⟩ := cov_two h
 obtain ⟨a, b, c⟩ := d
 simp only at h
 cases c with
 | true =>
  have := ok_dn ho
  unfold sx sy at h
  rw [if_pos rfl, if_pos rfl, wrap_in (by omega) (by omega)] at h
  rcases h with ⟨rfl, rfl⟩ | ⟨rfl, rfl⟩
  ·exact .inl rfl
  ·right; right; left
   rw [show b + 1 - 1 = b by omega]
 | false =>
  have := ok_rt ho
  unfold sx sy at h
  rw [if_neg (by simp), if_neg (by simp), wrap_in (by omega) (by omega)] at h
  rcases h with ⟨rfl, rfl⟩ | ⟨rfl, rfl⟩
  ·exact .inr (.inl rfl)
  ·right; right; right
   rw [show a + 1 - 1 = a by omega]
end Go.Proofs.Ytjfagpmklifjlaa.Hgt

namespace Go.Proofs.Ytjfagpmklifjlaa.Fr
set_option linter.unusedVariables false
set_option linter.unusedSimpArgs false
open Go.RowKit Go.Proofs.Ytjfagpmklifjlaa.Pure Go.Proofs.Ytjfagpmklifjlaa.Dms Go.Proofs.Ytjfagpmklifjlaa.Til Go.Joins
open Go.Proofs.Ytjfagpmklifjlaa.Lis (allT all_til)

def PossL (xs : List Int) (P : List Dm) : Prop := Inc P ∧ ∀ d, d ∈ P ↔ ∃ L, tilB xs L = true ∧ d ∈ L
def ForcL (xs : List Int) (F : List Dm) : Prop := Inc F ∧ ∀ d, d ∈ F ↔ (∃ L, tilB xs L = true) ∧ ∀ L, tilB xs L = true → d ∈ L
theorem inc_nodup {L : List Dm} (h : Inc L) : L.Nodup := List.Pairwise.imp (fun {a b} hab e => by subst e; rw [befM_irrefl] at hab; cases hab) h
section
variable {xs xs' : List Int} {F P L : List Dm}
def overL (P : List Dm) (x y : Int) : List Dm := P.filter fun d => covM d x y
end
theorem poss_of {xs : List Int} (ok : okR xs) {D : List Dm} (hi : Inc D) (hD : ∀ L, tilB xs L = true → ∀ d ∈ L, d ∈ D) {c : Dm → Int} (hc : ∀ d ∈ D, c d = ((holdT xs [d]).length : Int)) : PossL xs (D.filter fun d => decide (0 < c d)) := by
 refine ⟨hi.filter _, fun d => ?_⟩
 rw [List.mem_filter, decide_eq_true_eq]
 constructor
 ·rintro ⟨h1, h2⟩
  rw [hc d h1] at h2
  obtain ⟨L, hL⟩ := List.exists_mem_of_length_pos (l := holdT xs [d]) (by omega)
  obtain ⟨a, b⟩ := (mem_hold ok).1 hL
  exact ⟨L, a, b d (List.mem_singleton.2 rfl)⟩
 ·rintro ⟨L, hL, hd⟩
  have h1 := hD L hL d hd
  refine ⟨h1, ?_⟩
  rw [hc d h1]
  have := List.length_pos_of_mem ((mem_hold (S := [d]) ok).2 ⟨hL, fun e he => by rw [List.mem_singleton.1 he]; exact hd⟩)
  omega
theorem forc_of {xs : List Int} (ok : okR xs) {D : List Dm} (hi : Inc D) (hD : ∀ L, tilB xs L = true → ∀ d ∈ L, d ∈ D) {c : Dm → Int} (hc : ∀ d ∈ D, c d = ((holdT xs [d]).length : Int)) (h0 : 0 < (allT xs).length) : ForcL xs (D.filter fun d => decide (c d = ((allT xs).length : Int))) := by
 obtain ⟨L0, hL0⟩ := List.exists_mem_of_length_pos h0
 have t0 := all_til ok L0 hL0
 have key : ∀ d, (holdT xs [d]).length = (allT xs).length ↔ ∀ L, tilB xs L = true → d ∈ L := fun d => by
  unfold holdT
  rw [List.length_filter_eq_length_iff]
  constructor
  ·intro h L hL
   have := h L (KuL.til_all ok hL)
   simpa using this
  ·intro h L hL
   have := h L (all_til ok L hL)
   simpa using this
 refine ⟨hi.filter _, fun d => ?_⟩
 rw [List.mem_filter, decide_eq_true_eq]
 constructor
 ·rintro ⟨h1, h2⟩
  rw [hc d h1] at h2
  exact ⟨⟨L0, t0⟩, (key d).1 (by omega)⟩
 ·rintro ⟨_, h⟩
  have h1 := hD L0 t0 d (h L0 t0)
  exact ⟨h1, by rw [hc d h1, (key d).2 h]⟩
theorem forc_none {xs : List Int} (h : ∀ L, tilB xs L = true → False) : ForcL xs [] := ⟨List.Pairwise.nil, fun d => ⟨(fun q => nomatch q), fun ⟨⟨L, hL⟩, _⟩ => (h L hL).elim⟩⟩
theorem poss_none {xs : List Int} (h : ∀ L, tilB xs L = true → False) : PossL xs [] := ⟨List.Pairwise.nil, fun d => ⟨(fun q => nomatch q), fun ⟨L, hL, _⟩ => (h L hL).elim⟩⟩
end Go.Proofs.Ytjfagpmklifjlaa.Fr
