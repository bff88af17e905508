/- FrA, HgtP, HgtT, HgtF, HgtL, FrB, RegM, RegOk in one text. -/
import Derived.Test.YtjfagpmklifjlaaMg05
import Derived.Test.YtjfagpmklifjlaaMg02
import Derived.Test.YtjfagpmklifjlaaRows
import Derived.Test.YtjfagpmklifjlaaMg00
import Derived.WalkKit
import Derived.WalkSpells
import Derived.WalkLawsBesides
import Derived.Below
import Derived.OwnWalk
import Derived.Laws.AppendOwn
import Derived.Laws.OwnMore
import Derived.Deep.AppendLies
import Derived.Lib.Hide
import Derived.Lib.SmallJoins
import Derived.Deep.QuietTactic
import Derived.BigQuiet

namespace Go.Proofs.Ytjfagpmklifjlaa.Fr
set_option linter.unusedVariables false
set_option linter.unusedSimpArgs false
open Go.RowKit Go.Proofs.Ytjfagpmklifjlaa.Pure Go.Proofs.Ytjfagpmklifjlaa.Cell Go.Proofs.Ytjfagpmklifjlaa.Dms Go.Proofs.Ytjfagpmklifjlaa.Til Go.Proofs.Ytjfagpmklifjlaa.Grd Go.Proofs.Ytjfagpmklifjlaa.Flp Go.Joins
open Go.Proofs.Ytjfagpmklifjlaa.Lis (allT all_til)

theorem any_iff {L : List Dm} {x y : Int} : anyM L x y = true ↔ ∃ d ∈ L, covM d x y = true := by unfold anyM; rw [List.any_eq_true]
theorem til_iff {xs : List Int} {L : List Dm} : tilB xs L = true ↔ partB xs L = true ∧ ∀ x y, hasB xs x y = true → anyM L x y = true := by
 constructor
 ·intro h
  have hp : partB xs L = true := by unfold tilB at h; rw [Bool.and_eq_true] at h; exact h.1
  refine ⟨hp, fun x y hc => ?_⟩
  rw [tilB_part hp, decide_eq_true_eq] at h
  cases q : anyM L x y with
  | true => rfl
  | false =>
   have hm : (x, y) ∈ unc L (cellsR xs) := List.mem_filter.2 ⟨mem_cells.2 hc, by simp [q]⟩
   rw [List.eq_nil_of_length_eq_zero h] at hm
   cases hm
 ·rintro ⟨hp, hc⟩
  rw [tilB_part hp, decide_eq_true_eq]
  unfold unc
  rw [List.filter_eq_nil_iff.2 (fun c hm => by rw [hc c.1 c.2 (mem_cells.1 hm)]; simp)]
  rfl
def Less (xs xs' : List Int) (S : List Dm) : Prop := ∀ x y, hasB xs' x y = (hasB xs x y && !anyM S x y)
def out (S L : List Dm) : List Dm := L.filter fun d => decide (d ∉ S)
theorem mem_out {S L : List Dm} {d : Dm} : d ∈ out S L ↔ d ∈ L ∧ d ∉ S := by unfold out; rw [List.mem_filter, decide_eq_true_eq]
theorem sub_til {xs xs' : List Int} {S L : List Dm} (ok' : okR xs') (hh : Less xs xs' S) (hL : tilB xs L = true) (hS : ∀ d ∈ S, d ∈ L) : tilB xs' (out S L) = true := by
 obtain ⟨hp, hc⟩ := til_iff.1 hL
 have hv := part_valid hp
 have dj := part_dj hp
 have apart : ∀ d ∈ L, d ∉ S → ∀ x y, covM d x y = true → anyM S x y = false := fun d hd hn x y hx => by
  cases q : anyM S x y with
  | false => rfl
  | true =>
   obtain ⟨e, he, hx'⟩ := any_iff.1 q
   exact absurd (dj d hd e (hS e he) x y hx hx' ▸ he) hn
 refine til_iff.2 ⟨part_of (okRB_of ok') ((part_inc hp).filter _) (fun d hd => hv d (mem_out.1 hd).1) (fun d hd x y hx => ?_) (fun d hd e he => dj d (mem_out.1 hd).1 e (mem_out.1 he).1), fun x y hx => ?_⟩
 ·obtain ⟨h1, h2⟩ := mem_out.1 hd
  rw [hh, part_in hp h1 hx, apart d h1 h2 x y hx]; rfl
 ·rw [hh, Bool.and_eq_true, Bool.not_eq_true'] at hx
  obtain ⟨d, hd, hx'⟩ := any_iff.1 (hc x y hx.1)
  refine any_iff.2 ⟨d, mem_out.2 ⟨hd, fun hs => ?_⟩, hx'⟩
  have := any_iff.2 ⟨d, hs, hx'⟩
  rw [hx.2] at this; cases this
theorem add_til {xs xs' : List Int} {S M : List Dm} (ok : okR xs) (hh : Less xs xs' S) (hv : ∀ d ∈ S, okM d = true) (hin : ∀ d ∈ S, ∀ x y, covM d x y = true → hasB xs x y = true) (hd : Dj S) (hM : tilB xs' M = true) :
  tilB xs (sortM (S ++ M)) = true ∧ (∀ d ∈ S, d ∈ sortM (S ++ M)) ∧ out S (sortM (S ++ M)) = M := by
 obtain ⟨hp, hc⟩ := til_iff.1 hM
 have hvM := part_valid hp
 have mem : ∀ d, d ∈ sortM (S ++ M) ↔ d ∈ S ∨ d ∈ M := fun d => by
  rw [(sortM_good _).2, List.mem_append]
  exact ⟨fun h => h.1, fun h => ⟨h, h.elim (hv d) (hvM d)⟩⟩
 have hM' : ∀ d ∈ M, ∀ x y, covM d x y = true → hasB xs x y = true ∧ anyM S x y = false := fun d hd x y hx => by
  have := part_in hp hd hx
  rw [hh, Bool.and_eq_true, Bool.not_eq_true'] at this
  exact this
 have apart : ∀ d ∈ M, ∀ e ∈ S, ∀ x y, covM d x y = true → covM e x y = true → False := fun d hd e he x y h1 h2 => by
  have := (hM' d hd x y h1).2
  rw [any_iff.2 ⟨e, he, h2⟩] at this; cases this
 refine ⟨til_iff.2 ⟨part_of (okRB_of ok) (sortM_good _).1 (fun d h => ((sortM_good _).2 d).1 h |>.2) (fun d h x y hx => ?_) (fun d h e h' x y hx hx' => ?_), fun x y hx => ?_⟩, fun d h => (mem d).2 (.inl h), ?_⟩
 ·rcases (mem d).1 h with h | h
  ·exact hin d h x y hx
  ·exact (hM' d h x y hx).1
 ·rcases (mem d).1 h with h | h <;> rcases (mem e).1 h' with h' | h'
  ·exact hd d h e h' x y hx hx'
  ·exact (apart e h' d h x y hx' hx).elim
  ·exact (apart d h e h' x y hx hx').elim
  ·exact part_dj hp d h e h' x y hx hx'
 ·cases q : anyM S x y with
  | true =>
   obtain ⟨d, h, hx'⟩ := any_iff.1 q
   exact any_iff.2 ⟨d, (mem d).2 (.inl h), hx'⟩
  | false =>
   obtain ⟨d, h, hx'⟩ := any_iff.1 (hc x y (by rw [hh, hx, q]; rfl))
   exact any_iff.2 ⟨d, (mem d).2 (.inr h), hx'⟩
 ·refine uniq ((sortM_good _).1.filter _) (part_inc hp) fun d => ?_
  rw [mem_out, mem]
  constructor
  ·rintro ⟨h | h, n⟩
   ·exact absurd h n
   ·exact h
  ·intro h
   refine ⟨.inr h, fun hs => ?_⟩
   have hok := hvM d h
   have hx : covM d d.1 d.2.1 = true := by
    unfold covM covP
    rw [hok, (eqB_iff (x := d.1) (y := d.2.1) (u := d.1) (v := d.2.1)).2 ⟨rfl, rfl⟩]; rfl
   exact apart d h d hs _ _ hx hx
theorem out_inj {xs : List Int} {S L M : List Dm} (hL : partB xs L = true) (hM : partB xs M = true) (h1 : ∀ d ∈ S, d ∈ L) (h2 : ∀ d ∈ S, d ∈ M) (e : out S L = out S M) : L = M := by
 refine uniq (part_inc hL) (part_inc hM) fun d => ?_
 by_cases hs : d ∈ S
 ·exact ⟨fun _ => h2 d hs, fun _ => h1 d hs⟩
 ·have a : d ∈ out S L ↔ d ∈ out S M := by rw [e]
  rw [mem_out, mem_out] at a
  exact ⟨fun h => (a.1 ⟨h, hs⟩).1, fun h => (a.2 ⟨h, hs⟩).1⟩
def holdT (xs : List Int) (S : List Dm) : List (List Dm) := (allT xs).filter fun L => S.all fun d => decide (d ∈ L)
theorem mem_hold {xs : List Int} (ok : okR xs) {S L : List Dm} : L ∈ holdT xs S ↔ tilB xs L = true ∧ ∀ d ∈ S, d ∈ L := by
 unfold holdT
 rw [List.mem_filter, List.all_eq_true]
 constructor
 ·rintro ⟨h1, h2⟩
  exact ⟨all_til ok L h1, fun d hd => of_decide_eq_true (h2 d hd)⟩
 ·rintro ⟨h1, h2⟩
  exact ⟨KuL.til_all ok h1, fun d hd => decide_eq_true (h2 d hd)⟩
theorem sub_len {α : Type} : ∀ {A B : List α}, A.Nodup → (∀ x ∈ A, x ∈ B) → A.length ≤ B.length
 | [], _, _, _ => Nat.zero_le _
 | x :: A, B, hn, h => by
  obtain ⟨h1, h2⟩ := List.nodup_cons.1 hn
  obtain ⟨l, r, e⟩ := List.append_of_mem (h x List.mem_cons_self)
  have := sub_len (A := A) (B := l ++ r) h2 fun y hy => by
   have := h y (List.mem_cons_of_mem _ hy)
   rw [e, List.mem_append, List.mem_cons] at this
   rw [List.mem_append]
   rcases this with q | rfl | q
   ·exact .inl q
   ·exact absurd hy h1
   ·exact .inr q
  rw [e]
  simp only [List.length_append, List.length_cons] at this ⊢
  omega
theorem perm_of {α : Type} {A B : List α} (ha : A.Nodup) (hb : B.Nodup) (h : ∀ x, x ∈ A ↔ x ∈ B) : A.length = B.length :=
 Nat.le_antisymm (sub_len ha (fun x hx => (h x).1 hx)) (sub_len hb (fun x hx => (h x).2 hx))
theorem hold_length {xs xs' : List Int} {S : List Dm} (ok : okR xs) (ok' : okR xs') (hh : Less xs xs' S) (hv : ∀ d ∈ S, okM d = true) (hin : ∀ d ∈ S, ∀ x y, covM d x y = true → hasB xs x y = true) (hd : Dj S) :
  (holdT xs S).length = (allT xs').length := by
 have hn : (holdT xs S).Nodup := (Wg.allT_nodup xs).filter _
 have key := perm_of (A := (holdT xs S).map (out S)) (B := allT xs') (by
  refine List.pairwise_map.2 (List.Pairwise.imp_of_mem ?_ hn)
  intro L M hL hM hne e
  obtain ⟨l1, l2⟩ := (mem_hold ok).1 hL
  obtain ⟨m1, m2⟩ := (mem_hold ok).1 hM
  exact hne (out_inj (til_iff.1 l1).1 (til_iff.1 m1).1 l2 m2 e)) (Wg.allT_nodup xs') (fun M => by
  rw [List.mem_map]
  constructor
  ·rintro ⟨L, hL, rfl⟩
   obtain ⟨l1, l2⟩ := (mem_hold ok).1 hL
   exact KuL.til_all ok' (sub_til ok' hh l1 l2)
  ·intro hM
   obtain ⟨a, b, c⟩ := add_til ok hh hv hin hd (all_til ok' M hM)
   exact ⟨_, (mem_hold ok).2 ⟨a, b⟩, c⟩)
 rwa [List.length_map] at key
end Go.Proofs.Ytjfagpmklifjlaa.Fr

namespace Go.Proofs.Ytjfagpmklifjlaa.Hgt
set_option linter.unusedVariables false
set_option linter.unusedSimpArgs false

abbrev Fm := Nat → Nat → Int
end Go.Proofs.Ytjfagpmklifjlaa.Hgt

namespace Go.Proofs.Ytjfagpmklifjlaa.Hgt
set_option linter.unusedVariables false
set_option linter.unusedSimpArgs false

abbrev Cx := Nat → Nat → Bool
section
variable {G : Nat → Nat → Bool} {X Y X' Y' : Cx}
end
end Go.Proofs.Ytjfagpmklifjlaa.Hgt

namespace Go.Proofs.Ytjfagpmklifjlaa.Hgt
set_option linter.unusedVariables false
set_option linter.unusedSimpArgs false

section
variable {G : Nat → Nat → Bool} {X Y X' Y' : Cx}
def far (E : Fm) : Nat := ((List.range 121).map fun k => (E (k % 11) (k / 11)).natAbs).sum
end
end Go.Proofs.Ytjfagpmklifjlaa.Hgt

namespace Go.Proofs.Ytjfagpmklifjlaa.Hgt
set_option linter.unusedVariables false
set_option linter.unusedSimpArgs false
open Go.RowKit Go.Proofs.Ytjfagpmklifjlaa.Cell Go.Proofs.Ytjfagpmklifjlaa.Dom Go.Proofs.Ytjfagpmklifjlaa.Dms Go.Proofs.Ytjfagpmklifjlaa.Til Go.Proofs.Ytjfagpmklifjlaa.Flp Go.Joins

theorem ok_dn {x y : Int} (h : okM (x, y, true) = true) : 0 ≤ x ∧ x ≤ 7 ∧ 0 ≤ y ∧ y ≤ 6 := by
 unfold okM domB at h
 rw [Bool.and_eq_true, okB_iff, okB_iff] at h
 obtain ⟨h1, h2⟩ := h
 unfold Ok at h1 h2
 simp only at h1 h2
 unfold sx sy at h2
 rw [if_pos rfl, if_pos rfl, wrap_in (by omega) (by omega)] at h2
 omega
theorem ok_rt {x y : Int} (h : okM (x, y, false) = true) : 0 ≤ x ∧ x ≤ 6 ∧ 0 ≤ y ∧ y ≤ 7 := by
 unfold okM domB at h
 rw [Bool.and_eq_true, okB_iff, okB_iff] at h
 obtain ⟨h1, h2⟩ := h
 unfold Ok at h1 h2
 simp only at h1 h2
 unfold sx sy at h2
 rw [if_neg (by simp), if_neg (by simp), wrap_in (by omega) (by omega)] at h2
 omega
theorem cov_dn {x y : Int} (h : okM (x, y, true) = true) : covM (x, y, true) x y = true ∧ covM (x, y, true) x (y + 1) = true := by
 have := ok_dn h
 refine ⟨cov_of h (.inl ⟨rfl, rfl⟩), cov_of h (.inr ⟨?_, ?_⟩)⟩
 ·unfold sx; rw [if_pos rfl]
 ·unfold sy; rw [if_pos rfl]; exact (wrap_in (by omega) (by omega)).symm
theorem cov_rt {x y : Int} (h : okM (x, y, false) = true) : covM (x, y, false) x y = true ∧ covM (x, y, false) (x + 1) y = true := by
 have := ok_rt h
 refine ⟨cov_of h (.inl ⟨rfl, rfl⟩), cov_of h (.inr ⟨?_, ?_⟩)⟩
 ·unfold sx; rw [if_neg (by simp)]; exact (wrap_in (by omega) (by omega)).symm
 ·unfold sy; rw [if_neg (by simp)]
theorem cov_who {d : Dm} {x y : Int} (h : covM d x y = true) : d = (x, y, true) ∨ d = (x, y, false) ∨ d = (x, y - 1, true) ∨ d = (x - 1, y, false) := by
 obtain ⟨ho, h⟩ := cov_two h
 obtain ⟨a, b, c⟩ := d
 simp only at h
 cases c with
 | true =>
  have := ok_dn ho
  unfold sx sy at h
  rw [if_pos rfl, if_pos rfl, wrap_in (by omega) (by omega)] at h
  rcases h with ⟨rfl, rfl⟩ | ⟨rfl, rfl⟩
  ·exact .inl rfl
  ·right; right; left
   rw [show b + 1 - 1 = b by omega]
 | false =>
  have := ok_rt ho
  unfold sx sy at h
  rw [if_neg (by simp), if_neg (by simp), wrap_in (by omega) (by omega)] at h
  rcases h with ⟨rfl, rfl⟩ | ⟨rfl, rfl⟩
  ·exact .inr (.inl rfl)
  ·right; right; right
   rw [show a + 1 - 1 = a by omega]
end Go.Proofs.Ytjfagpmklifjlaa.Hgt

namespace Go.Proofs.Ytjfagpmklifjlaa.Fr
set_option linter.unusedVariables false
set_option linter.unusedSimpArgs false
open Go.RowKit Go.Proofs.Ytjfagpmklifjlaa.Pure Go.Proofs.Ytjfagpmklifjlaa.Dms Go.Proofs.Ytjfagpmklifjlaa.Til Go.Proofs.Ytjfagpmklifjlaa.Grd Go.Proofs.Ytjfagpmklifjlaa.Flp Go.Joins
open Go.Proofs.Ytjfagpmklifjlaa.Lis (allT all_til)

def PossL (xs : List Int) (P : List Dm) : Prop := Inc P ∧ ∀ d, d ∈ P ↔ ∃ L, tilB xs L = true ∧ d ∈ L
def ForcL (xs : List Int) (F : List Dm) : Prop := Inc F ∧ ∀ d, d ∈ F ↔ (∃ L, tilB xs L = true) ∧ ∀ L, tilB xs L = true → d ∈ L
theorem inc_nodup {L : List Dm} (h : Inc L) : L.Nodup := List.Pairwise.imp (fun {a b} hab e => by subst e; rw [befM_irrefl] at hab; cases hab) h
section
variable {xs xs' : List Int} {F P L : List Dm}
theorem forc_in (f : ForcL xs F) (hL : tilB xs L = true) : ∀ d ∈ F, d ∈ L := fun d hd => ((f.2 d).1 hd).2 L hL
theorem poss_all (p : PossL xs P) (hL : tilB xs L = true) : ∀ d ∈ L, d ∈ P := fun d hd => (p.2 d).2 ⟨L, hL, hd⟩
theorem forc_facts (f : ForcL xs F) (hL : tilB xs L = true) : (∀ d ∈ F, okM d = true) ∧ (∀ d ∈ F, ∀ x y, covM d x y = true → hasB xs x y = true) ∧ Dj F := by
 have hp := (til_iff.1 hL).1
 have hi := forc_in f hL
 exact ⟨fun d hd => part_valid hp d (hi d hd), fun d hd x y hx => part_in hp (hi d hd) hx, fun d hd e he x y h1 h2 => part_dj hp d (hi d hd) e (hi e he) x y h1 h2⟩
theorem rest_tiles (ok : okR xs) (ok' : okR xs') (f : ForcL xs F) (hh : Less xs xs' F) (hL : tilB xs L = true) : (allT xs').length = (allT xs).length := by
 obtain ⟨a, b, c⟩ := forc_facts f hL
 rw [← hold_length ok ok' hh a b c]
 unfold holdT
 rw [List.filter_eq_self.2 fun M hM => List.all_eq_true.2 fun d hd => decide_eq_true (forc_in f (all_til ok M hM) d hd)]
theorem rest_forced (ok : okR xs) (ok' : okR xs') (f : ForcL xs F) (hh : Less xs xs' F) (hL : tilB xs L = true) {F' : List Dm} (f' : ForcL xs' F') : F' = [] := by
 refine List.eq_nil_iff_forall_not_mem.2 fun d hd => ?_
 have h1 := (f'.2 d).1 hd
 have hm := h1.2 _ (sub_til ok' hh hL (forc_in f hL))
 have hdF : d ∈ F := (f.2 d).2 ⟨⟨L, hL⟩, fun M hM => (mem_out.1 (h1.2 _ (sub_til ok' hh hM (forc_in f hM)))).1⟩
 exact (mem_out.1 hm).2 hdF
theorem til_two (h : tilB xs L = true) : 2 * L.length = (cellsR xs).length := by
 have hp := (til_iff.1 h).1
 have e := unc_part hp
 rw [tilB_part hp, decide_eq_true_eq] at h
 omega
theorem rest_cells (ok : okR xs) (ok' : okR xs') (f : ForcL xs F) (hh : Less xs xs' F) (hL : tilB xs L = true) : (cellsR xs').length + 2 * F.length = (cellsR xs).length := by
 rw [← til_two hL, ← til_two (sub_til ok' hh hL (forc_in f hL))]
 have e : (L.filter fun d => decide (d ∈ F)).length = F.length := perm_of ((inc_nodup (part_inc (til_iff.1 hL).1)).filter _) (inc_nodup f.1) fun d => by
  rw [List.mem_filter, decide_eq_true_eq]
  exact ⟨fun h => h.2, fun h => ⟨forc_in f hL d h, h⟩⟩
 have s : ∀ l : List Dm, (out F l).length + (l.filter fun d => decide (d ∈ F)).length = l.length := fun l => by
  induction l with
  | nil => rfl
  | cons x r ih =>
   unfold out at ih ⊢
   simp only [List.filter_cons]
   by_cases q : x ∈ F
   ·simp only [q, not_true_eq_false, decide_false, decide_true, if_true, List.length_cons, Bool.false_eq_true, if_false]
    omega
   ·simp only [q, not_false_eq_true, decide_false, decide_true, if_true, List.length_cons, Bool.false_eq_true, if_false]
    omega
 have := s L
 omega
def overL (P : List Dm) (x y : Int) : List Dm := P.filter fun d => covM d x y
theorem over_pos (p : PossL xs P) (hL : tilB xs L = true) {x y : Int} (hc : hasB xs x y = true) : 1 ≤ (overL P x y).length := by
 obtain ⟨d, hd, hx⟩ := any_iff.1 ((til_iff.1 hL).2 x y hc)
 exact List.length_pos_of_mem (List.mem_filter.2 ⟨poss_all p hL d hd, hx⟩)
theorem over_four (p : PossL xs P) {x y : Int} : (overL P x y).length ≤ 4 :=
 sub_len (B := [(x, y, true), (x, y, false), (x, y - 1, true), (x - 1, y, false)]) ((inc_nodup p.1).filter _) fun d hd => by
  have := Hgt.cov_who (List.mem_filter.1 hd).2
  simp only [List.mem_cons, List.not_mem_nil, or_false]
  exact this
theorem over_one (p : PossL xs P) (f : ForcL xs F) (hL : tilB xs L = true) {x y : Int} (hc : hasB xs x y = true) : (overL P x y).length = 1 ↔ anyM F x y = true := by
 have nd : (overL P x y).Nodup := (inc_nodup p.1).filter _
 constructor
 ·intro h
  obtain ⟨d, hd⟩ := List.length_eq_one_iff.1 h
  have one : ∀ e, e ∈ P → covM e x y = true → e = d := fun e he hx => by
   have : e ∈ overL P x y := List.mem_filter.2 ⟨he, hx⟩
   rw [hd] at this
   exact List.mem_singleton.1 this
  have hm : d ∈ overL P x y := by rw [hd]; exact List.mem_singleton.2 rfl
  refine any_iff.2 ⟨d, (f.2 d).2 ⟨⟨L, hL⟩, fun M hM => ?_⟩, (List.mem_filter.1 hm).2⟩
  obtain ⟨e, he, hx⟩ := any_iff.1 ((til_iff.1 hM).2 x y hc)
  rw [← one e (poss_all p hM e he) hx]; exact he
 ·intro h
  obtain ⟨d, hd, hx⟩ := any_iff.1 h
  have all : ∀ e ∈ overL P x y, e ∈ [d] := fun e he => by
   obtain ⟨h1, h2⟩ := List.mem_filter.1 he
   obtain ⟨M, hM, hm⟩ := (p.2 e).1 h1
   exact List.mem_singleton.2 (part_dj (til_iff.1 hM).1 e hm d (forc_in f hM d hd) x y h2 hx)
  have := sub_len nd all
  have := over_pos p hL hc
  simp only [List.length_cons, List.length_nil] at *
  omega
end
theorem poss_of {xs : List Int} (ok : okR xs) {D : List Dm} (hi : Inc D) (hD : ∀ L, tilB xs L = true → ∀ d ∈ L, d ∈ D) {c : Dm → Int} (hc : ∀ d ∈ D, c d = ((holdT xs [d]).length : Int)) : PossL xs (D.filter fun d => decide (0 < c d)) := by
 refine ⟨hi.filter _, fun d => ?_⟩
 rw [List.mem_filter, decide_eq_true_eq]
 constructor
 ·rintro ⟨h1, h2⟩
  rw [hc d h1] at h2
  obtain ⟨L, hL⟩ := List.exists_mem_of_length_pos (l := holdT xs [d]) (by omega)
  obtain ⟨a, b⟩ := (mem_hold ok).1 hL
  exact ⟨L, a, b d (List.mem_singleton.2 rfl)⟩
 ·rintro ⟨L, hL, hd⟩
  have h1 := hD L hL d hd
  refine ⟨h1, ?_⟩
  rw [hc d h1]
  have := List.length_pos_of_mem ((mem_hold (S := [d]) ok).2 ⟨hL, fun e he => by rw [List.mem_singleton.1 he]; exact hd⟩)
  omega
theorem forc_of {xs : List Int} (ok : okR xs) {D : List Dm} (hi : Inc D) (hD : ∀ L, tilB xs L = true → ∀ d ∈ L, d ∈ D) {c : Dm → Int} (hc : ∀ d ∈ D, c d = ((holdT xs [d]).length : Int)) (h0 : 0 < (allT xs).length) : ForcL xs (D.filter fun d => decide (c d = ((allT xs).length : Int))) := by
 obtain ⟨L0, hL0⟩ := List.exists_mem_of_length_pos h0
 have t0 := all_til ok L0 hL0
 have key : ∀ d, (holdT xs [d]).length = (allT xs).length ↔ ∀ L, tilB xs L = true → d ∈ L := fun d => by
  unfold holdT
  rw [List.length_filter_eq_length_iff]
  constructor
  ·intro h L hL
   have := h L (KuL.til_all ok hL)
   simpa using this
  ·intro h L hL
   have := h L (all_til ok L hL)
   simpa using this
 refine ⟨hi.filter _, fun d => ?_⟩
 rw [List.mem_filter, decide_eq_true_eq]
 constructor
 ·rintro ⟨h1, h2⟩
  rw [hc d h1] at h2
  exact ⟨⟨L0, t0⟩, (key d).1 (by omega)⟩
 ·rintro ⟨_, h⟩
  have h1 := hD L0 t0 d (h L0 t0)
  exact ⟨h1, by rw [hc d h1, (key d).2 h]⟩
theorem forc_none {xs : List Int} (h : ∀ L, tilB xs L = true → False) : ForcL xs [] := ⟨List.Pairwise.nil, fun d => ⟨(fun q => nomatch q), fun ⟨⟨L, hL⟩, _⟩ => (h L hL).elim⟩⟩
theorem poss_none {xs : List Int} (h : ∀ L, tilB xs L = true → False) : PossL xs [] := ⟨List.Pairwise.nil, fun d => ⟨(fun q => nomatch q), fun ⟨L, hL, _⟩ => (h L hL).elim⟩⟩
end Go.Proofs.Ytjfagpmklifjlaa.Fr

namespace Go.Proofs.Ytjfagpmklifjlaa.Reg
set_option linter.unusedVariables false
open Go.RowKit Go.Proofs.Ytjfagpmklifjlaa.Base Go.Joins

def ints (xs : List Int) : List Value := xs.map (Value.int .i64)
theorem ints_length (xs : List Int) : (ints xs).length = xs.length := by unfold ints; simp
theorem ints_at {xs : List Int} {j : Nat} {x : Int} (h : xs[j]? = some x) : (ints xs)[j]? = some (.int .i64 x) := by unfold ints; simp [h]
theorem ints_snoc (xs : List Int) (x : Int) : ints (xs ++ [x]) = ints xs ++ [.int .i64 x] := by unfold ints; simp
theorem ints_set (xs : List Int) (j : Nat) (x : Int) : (ints xs).set j (.int .i64 x) = ints (xs.set j x) := by unfold ints; rw [List.map_set]
def RowB (w : World) (B : Nat) (A : Option Addr) (xs : List Int) : Prop :=
 ∃ b off : Nat, (0 < xs.length → A = some ⟨b, off, none⟩ ∧ b < B) ∧ ∀ j x, xs[j]? = some x → w.cell? ⟨b, off + j, none⟩ = some (.int .i64 x)
theorem RowB.mono {w : World} {B B' : Nat} {A : Option Addr} {xs : List Int} (h : RowB w B A xs) (hB : B ≤ B') : RowB w B' A xs := by
 obtain ⟨b, off, h1, h2⟩ := h
 exact ⟨b, off, fun k => ⟨(h1 k).1, by have := (h1 k).2; omega⟩, h2⟩
theorem RowB.below {w w' : World} {B B' : Nat} {A : Option Addr} {xs : List Int} (h : RowB w B A xs) (hb : Below B' w w') (hB : B ≤ B') : RowB w' B A xs := by
 obtain ⟨b, off, h1, h2⟩ := h
 refine ⟨b, off, h1, fun j x hx => ?_⟩
 have hl : 0 < xs.length := by
  rcases Nat.eq_zero_or_pos xs.length with h0 | h0
  ·rw [List.eq_nil_of_length_eq_zero h0] at hx; simp at hx
  ·exact h0
 rw [hb.cell (p := ⟨b, off + j, none⟩) (by show b < B'; have := (h1 hl).2; omega)]
 exact h2 j x hx
theorem RowB.drew {w : World} {B : Nat} {A : Option Addr} {xs : List Int} (h : RowB w B A xs) : RowB w.drew B A xs := h
theorem rowB_own {w : World} {base e n cap : Nat} {A : Option Addr} {xs : List Int} (h : w.ownsRow base e 1 (.slice A n cap) n (ints xs)) : RowB w w.heap.size A xs := by
 have hn : xs.length = n := by have := h.1; rw [ints_length] at this; omega
 by_cases h0 : xs.length = 0
 ·have : xs = [] := List.eq_nil_of_length_eq_zero h0
  subst this
  exact ⟨0, 0, fun h => by simp at h, fun j u hu => by simp at hu⟩
 ·obtain ⟨g, c, hv, _, hlt⟩ := h.form (by omega)
  injection hv with hA
  subst hA
  refine ⟨g, 0, fun _ => ⟨rfl, hlt⟩, fun j x hx => ?_⟩
  have := h.cells (g := g) rfl j _ (ints_at hx)
  rw [add_plain] at this
  simpa using this
theorem own_below {w w' : World} {base e size n : Nat} {v : Value} {xs : List Value} {B : Nat} (h : w.ownsRow base e size v n xs) (hb : Below B w w') (hB : w.heap.size ≤ B) : w'.ownsRow base e size v n xs :=
 h.kept (row := none) ⟨hb.os, hb.tape, hb.output, hb.size, fun i hi _ => hb.block i (by omega)⟩ (by cases v <;> simp [Value.ownBlock] <;> (try (split <;> simp)))
theorem own_base {w : World} {B B' e size n : Nat} {v : Value} {xs : List Value} (h : w.ownsRow B e size v n xs) (hB : B' ≤ B) : w.ownsRow B' e size v n xs := by
 refine ⟨h.1, ?_⟩
 rcases h.2 with h | ⟨g, cap, cur, a, b, c⟩
 ·exact .inl h
 ·exact .inr ⟨g, cap, cur, a, by omega, c⟩
theorem drewN_below {B : Nat} {a w : World} (h : Below B a w) (n : Nat) : Below B a (w.drewN n) := ⟨h.os, h.tape, h.output, h.size, h.block⟩

def RowIn (W : World) (lo hi e size : Nat) (v : Value) (n : Nat) (xs : List Value) : Prop := W.ownsRow lo e size v n xs ∧ ∀ g, v.ownBlock = some g → g < hi
theorem RowIn.on {W W' : World} {lo hi e size n : Nat} {v : Value} {xs : List Value} (h : RowIn W lo hi e size v n xs) (hb : Below W.heap.size W W') : RowIn W' lo hi e size v n xs := ⟨own_below h.1 hb (Nat.le_refl _), h.2⟩
theorem RowIn.drew {W : World} {lo hi e size n : Nat} {v : Value} {xs : List Value} (h : RowIn W lo hi e size v n xs) : RowIn W.drew lo hi e size v n xs := h
theorem rowIn_new {W : World} {lo e size n : Nat} {v : Value} {xs : List Value} (h : W.ownsRow lo e size v n xs) : RowIn W lo W.heap.size e size v n xs := ⟨h, fun g hg => (h.lt g hg).2⟩
theorem intInfo : (Try.prog.info? 3).map (fun i => (i.zero, i.size, i.bytes)) = some (some (.int .i64 0), 1, 8) := by kernel_rfl

theorem three {w w1 : World} {o1 o2 o3 : Obj} (h : Below (((w.alloc o1).alloc o2).alloc o3).heap.size (((w.alloc o1).alloc o2).alloc o3) w1) :
  w1.heap[w.heap.size]? = some o1 ∧ w1.heap[w.heap.size + 1]? = some o2 ∧ w1.heap[w.heap.size + 1 + 1]? = some o3 := by
 have h1 : ((w.heap.push o1).push o2).size = w.heap.size + 1 + 1 := by simp
 have h2 : (w.heap.push o1).size = w.heap.size + 1 := by simp
 refine ⟨(h.block _ (by simp; omega)).trans ?_, (h.block _ (by simp)).trans ?_, (h.block _ (by simp)).trans ?_⟩
 ·show (((w.heap.push o1).push o2).push o3)[_]? = _
  rw [Array.getElem?_push_lt (by simp; omega), Array.getElem_push_lt (by simp), Array.getElem_push_eq]
 ·show (((w.heap.push o1).push o2).push o3)[_]? = _
  rw [Array.getElem?_push_lt (by simp)]
  congr 1
  simp [Array.getElem_push]
 ·show (((w.heap.push o1).push o2).push o3)[_]? = _
  rw [← h1]; exact Array.getElem?_push_size
theorem cellAt {w : World} {g : Nat} {cs : Array Value} {t : TypeId} (h : w.heap[g]? = some (.cells cs t (0, 0))) (k : Nat) : w.cell? ⟨g, k, none⟩ = cs[k]? ∧ w.frozen? ⟨g, k, none⟩ = false :=
 ⟨cell_of_row _ _ k _ _ _ h, by simp [World.frozen?, h]⟩

def RegPost (xs : List Int) (n : Nat) (w : World) (e : Ending) (w' : World) : Prop :=
 ∃ A cap, e = .returned (.agg #[.slice A n cap]) ∧ w'.ownsRow w.heap.size 3 1 (.slice A n cap) n (ints xs) ∧ Below w.heap.size w w'

end Go.Proofs.Ytjfagpmklifjlaa.Reg

namespace Go.Proofs.Ytjfagpmklifjlaa.Reg
set_option linter.unusedVariables false
open Go.RowKit Go.Proofs.Ytjfagpmklifjlaa.Pure Go.Proofs.Ytjfagpmklifjlaa.Cell Go.Joins

def InTo (xs : List Int) (k : Nat) : Prop := ∀ x ∈ xs.take k, 0 ≤ x ∧ x ≤ 255
theorem InTo.zero (xs : List Int) : InTo xs 0 := fun x hx => by simp at hx
theorem InTo.next {xs : List Int} {k : Nat} (h : InTo xs k) (hk : k < xs.length) (h0 : 0 ≤ xs[k]) (h1 : xs[k] ≤ 255) : InTo xs (k + 1) := by
 intro x hx
 rw [List.take_succ_eq_append_getElem hk, List.mem_append, List.mem_singleton] at hx
 rcases hx with hx | rfl
 ·exact h x hx
 ·exact ⟨h0, h1⟩
theorem InTo.all {xs : List Int} {k : Nat} (h : InTo xs k) (hk : k = xs.length) : ∀ x ∈ xs, 0 ≤ x ∧ x ≤ 255 := by
 subst hk
 unfold InTo at h
 rwa [List.take_length] at h
theorem not_ok_at {xs : List Int} {k : Nat} (hk : k < xs.length) (h : ¬ (0 ≤ xs[k] ∧ xs[k] ≤ 255)) : okRB xs = false := okRB_not fun ho => h (ho.2 _ (List.getElem_mem hk))
set_option maxRecDepth 100000 in
set_option maxHeartbeats 1000000 in
theorem iRegionOk (w : World) (A : Option Addr) (n cap B : Nat) (xs : List Int) (hx : xs.length = n) (hn : (n : Int) ≤ 9223372036854775807) (h : RowB w B A xs) (hB : B ≤ w.heap.size) :
  Calls Try.prog 75 #[.agg #[.slice A n cap]] w (Bol (okRB xs) w) := by
 obtain ⟨b, off, hA, hc⟩ := h
 have HA := Lib.hid hA
 have HC := Lib.hid hc
 have HX := Lib.hid hx
 clear hA hc hx
 have HBw := Lib.hid (fun (o : Obj) => below_alloc1 w o)
 go_enter Try.func75, Try.ntmps75
 by_cases h8 : (n : Int) ≤ 8
 ·go_wp2_with fail
  go_loop [12] (fun i => ∃ k : Nat, k ≤ n ∧ i = .int .i64 k ∧ Hid (InTo xs k)) (fun i => n - (intOf i).toNat)
  case atStart => exact ⟨0, Nat.zero_le _, rfl, Lib.hid (InTo.zero xs)⟩
  case round =>
   obtain ⟨k, hk, rfl, HI⟩ := hrel
   by_cases hlt : k < n
   ·have hkx : k < xs.length := by have := HX.out; omega
    obtain ⟨rfl, hbw⟩ := HA.out (by omega)
    have hc1 : (w.alloc (.cells #[.slice (some ⟨b, off, none⟩) n cap] 26)).cell? ⟨b, off + k, none⟩ = some (.int .i64 xs[k]) :=
     ((HBw.out _).cell (p := ⟨b, off + k, none⟩) (by show b < _; omega)).trans (HC.out k xs[k] (List.getElem?_eq_getElem hkx))
    have HNx := Lib.hid (fun h0 h1 => HI.out.next hkx h0 h1)
    have HNo := Lib.hid (fun h => not_ok_at hkx h)
    generalize xs[k] = x at hc1 HNx HNo
    by_cases h0 : 0 ≤ x
    ·by_cases h1 : x ≤ 255
     ·go_wp2
      go_round
      case rel => exact ⟨k + 1, by omega, by go_num, Lib.hid (HNx.out h0 h1)⟩
      case measure => (simp [intOf] <;> omega)
     ·have HR := Lib.hid (HNo.out (fun h => h1 h.2))
      go_wp2
      go_ret
      exact mkBol (by rw [HR.out]) (HBw.out _)
    ·have HR := Lib.hid (HNo.out (fun h => h0 h.1))
     go_wp2
     go_ret
     exact mkBol (by rw [HR.out]) (HBw.out _)
   ·obtain rfl : k = n := by omega
    have HR := Lib.hid (show okRB xs = true from okRB_of ⟨by have := HX.out; omega, HI.out.all (by rw [HX.out])⟩)
    go_wp2
    go_ret
    exact mkBol (by rw [HR.out]) (HBw.out _)
 ·have HR := Lib.hid (show okRB xs = false from okRB_not fun ho => by have := ho.1; have := HX.out; omega)
  go_wp2
  go_ret
  exact mkBol (by rw [HR.out]) (HBw.out _)

set_option maxRecDepth 100000 in
set_option maxHeartbeats 1000000 in
theorem sRegionOk (w : World) (A : Option Addr) (n cap B : Nat) (xs : List Int) (hx : xs.length = n) (hn : (n : Int) ≤ 9223372036854775807) (h : RowB w B A xs) (hB : B ≤ w.heap.size) :
  Calls Try.prog 49 #[.agg #[.slice A n cap]] w (Bol (okRB xs) w) := by
 obtain ⟨b, off, hA, hc⟩ := h
 have HA := Lib.hid hA
 have HC := Lib.hid hc
 have HX := Lib.hid hx
 clear hA hc hx
 have HBw := Lib.hid (fun (o : Obj) => below_alloc1 w o)
 go_enter Try.func49, Try.ntmps49
 go_wp2_with fail
 go_loop [3] (fun i => ∃ k : Nat, k ≤ n ∧ i = .int .i64 k ∧ Hid (InTo xs k)) (fun i => n - (intOf i).toNat)
 case atStart => exact ⟨0, Nat.zero_le _, rfl, Lib.hid (InTo.zero xs)⟩
 case round =>
  obtain ⟨k, hk, rfl, HI⟩ := hrel
  by_cases hlt : k < n
  ·have hkx : k < xs.length := by have := HX.out; omega
   obtain ⟨rfl, hbw⟩ := HA.out (by omega)
   have hc1 : (w.alloc (.cells #[.slice (some ⟨b, off, none⟩) n cap] 26)).cell? ⟨b, off + k, none⟩ = some (.int .i64 xs[k]) :=
    ((HBw.out _).cell (p := ⟨b, off + k, none⟩) (by show b < _; omega)).trans (HC.out k xs[k] (List.getElem?_eq_getElem hkx))
   have HNx := Lib.hid (fun h0 h1 => HI.out.next hkx h0 h1)
   have HNo := Lib.hid (fun h => not_ok_at hkx h)
   generalize xs[k] = x at hc1 HNx HNo
   go_wp2_with fail
   refine (l01In x 0 255 _).mono ?_
   rintro e w1 ⟨rfl, rfl⟩
   by_cases h0 : 0 ≤ x ∧ x ≤ 255
   ·rw [inB_of h0]
    go_wp2
    go_round
    case rel => exact ⟨k + 1, by omega, by go_num, Lib.hid (HNx.out h0.1 h0.2)⟩
    case measure => (simp [intOf] <;> omega)
   ·rw [inB_not h0]
    have HR := Lib.hid (HNo.out h0)
    go_wp2
    go_ret
    exact mkBol (by rw [HR.out]) (HBw.out _)
  ·obtain rfl : k = n := by omega
   by_cases h8 : (k : Int) ≤ 8
   ·have HR := Lib.hid (show okRB xs = true from okRB_of ⟨by have := HX.out; omega, HI.out.all (by rw [HX.out])⟩)
    go_wp2
    go_ret
    exact mkBol (by rw [HR.out]) (HBw.out _)
   ·have HR := Lib.hid (show okRB xs = false from okRB_not fun ho => by have := ho.1; have := HX.out; omega)
    go_wp2
    go_ret
    exact mkBol (by rw [HR.out]) (HBw.out _)
end Go.Proofs.Ytjfagpmklifjlaa.Reg
