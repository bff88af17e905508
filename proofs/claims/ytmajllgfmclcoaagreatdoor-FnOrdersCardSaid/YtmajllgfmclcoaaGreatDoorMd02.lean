/- DmM, Pure, TilP, GrdP in one text. -/
import Derived.Test.YtmajllgfmclcoaaGreatDoorMd01
import Derived.OwnWalk
import Derived.Laws.AppendOwn
import Derived.Deep.AppendLies
import Derived.Laws.OwnMore
import Derived.Deep.Slices
import Derived.Deep.Strs
import Derived.OpenShut
import Derived.WalkKit
import Derived.Laws.BytesArg
import Derived.Laws.BitsAllLaws
set_option linter.unusedVariables false
set_option linter.unusedSimpArgs false
namespace Go.Proofs.YtmajllgfmclcoaaGreatDoor.Dms
open Go.RowKit Base Dom Go.Joins Go.ChangeShapes Go.WideShapes Go.Deep
abbrev Dm := Int × Int × Bool
def rowM (L : List Dm) : List Value := L.flatMap fun d => [.int .i64 d.1, .int .i64 d.2.1, .bool d.2.2]
theorem rowM_cons (d : Dm) (L : List Dm) : rowM (d :: L) = .int .i64 d.1 :: .int .i64 d.2.1 :: .bool d.2.2 :: rowM L := rfl
theorem rowM_app (L M : List Dm) : rowM (L ++ M) = rowM L ++ rowM M := by unfold rowM; simp
theorem rowM_snoc (L : List Dm) (d : Dm) : rowM (L ++ [d]) = rowM L ++ [.int .i64 d.1, .int .i64 d.2.1, .bool d.2.2] := by rw [rowM_app]; rfl
theorem rowM_length (L : List Dm) : (rowM L).length = L.length * 3 := by
 induction L with
 | nil => rfl
 | cons d L ih => rw [rowM_cons]; simp only [List.length_cons, ih]; omega
theorem rowM_at (L : List Dm) : ∀ (j : Nat) (d : Dm), L[j]? = some d → (rowM L)[j * 3]? = some (.int .i64 d.1) ∧ (rowM L)[j * 3 + 1]? = some (.int .i64 d.2.1) ∧ (rowM L)[j * 3 + 2]? = some (.bool d.2.2) := by
 induction L with
 | nil => intro j d h; simp at h
 | cons q L ih =>
  intro j d h
  rw [rowM_cons]
  cases j with
  | zero => simp at h; subst h; exact ⟨rfl, rfl, rfl⟩
  | succ j =>
   have h' : L[j]? = some d := by simpa using h
   rw [show (j + 1) * 3 = j * 3 + 1 + 1 + 1 from by omega, show j * 3 + 1 + 1 + 1 + 1 = j * 3 + 1 + 1 + 1 + 1 from rfl]
   obtain ⟨a, b, c⟩ := ih j d h'
   exact ⟨by simpa using a, by simpa using b, by simpa using c⟩
theorem rowM_put (L : List Dm) (p q : Dm) (M : List Dm) (j : Nat) (hj : L.length = j) :
  (((rowM (L ++ p :: M)).set (j * 3) (.int .i64 q.1)).set (j * 3 + 1) (.int .i64 q.2.1)).set (j * 3 + 2) (.bool q.2.2) = rowM (L ++ q :: M) := by
 have hl : (rowM L).length = j * 3 := by rw [rowM_length, hj]
 rw [rowM_app, rowM_app, List.set_append_right _ _ (by omega), List.set_append_right _ _ (by omega), List.set_append_right _ _ (by omega), hl, Nat.sub_self, show j * 3 + 1 - j * 3 = 1 from by omega, show j * 3 + 2 - j * 3 = 2 from by omega]
 rfl
def RowM (w : World) (B : Nat) (A : Option Addr) (L : List Dm) : Prop :=
 ∃ b off : Nat, (0 < L.length → A = some ⟨b, off, none⟩ ∧ b < B) ∧ ∀ j d, L[j]? = some d →
  w.cell? ⟨b, off + j * 3, none⟩ = some (.int .i64 d.1) ∧ w.cell? ⟨b, off + j * 3 + 1, none⟩ = some (.int .i64 d.2.1) ∧ w.cell? ⟨b, off + j * 3 + 2, none⟩ = some (.bool d.2.2)
theorem RowM.mono {w : World} {B B' : Nat} {A : Option Addr} {L : List Dm} (h : RowM w B A L) (hB : B ≤ B') : RowM w B' A L := by
 obtain ⟨b, off, h1, h2⟩ := h
 exact ⟨b, off, fun k => ⟨(h1 k).1, by have := (h1 k).2; omega⟩, h2⟩
theorem some_pos {α : Type} {L : List α} {j : Nat} {d : α} (h : L[j]? = some d) : 0 < L.length := by have := (List.getElem?_eq_some_iff.1 h).1; omega
theorem RowM.below {w w' : World} {B B' : Nat} {A : Option Addr} {L : List Dm} (h : RowM w B A L) (hb : Below B' w w') (hB : B ≤ B') : RowM w' B A L := by
 obtain ⟨b, off, h1, h2⟩ := h
 refine ⟨b, off, h1, fun j d hd => ?_⟩
 have hlt : b < B' := by have := (h1 (some_pos hd)).2; omega
 rw [hb.cell (p := ⟨b, off + j * 3, none⟩) hlt, hb.cell (p := ⟨b, off + j * 3 + 1, none⟩) hlt, hb.cell (p := ⟨b, off + j * 3 + 2, none⟩) hlt]
 exact h2 j d hd
theorem RowM.drew {w : World} {B : Nat} {A : Option Addr} {L : List Dm} (h : RowM w B A L) : RowM w.drew B A L := h
theorem rowM_own {w : World} {base e n cap : Nat} {A : Option Addr} {L : List Dm} (h : w.ownsRow base e 3 (.slice A n cap) n (rowM L)) : RowM w w.heap.size A L := by
 have hn : L.length = n := by have := h.1; rw [rowM_length] at this; omega
 by_cases h0 : L.length = 0
 ·have : L = [] := List.eq_nil_of_length_eq_zero h0
  subst this
  exact ⟨0, 0, fun h => by simp at h, fun j u hu => by simp at hu⟩
 ·obtain ⟨g, c, hv, _, hlt⟩ := h.form (by omega)
  injection hv with hA
  subst hA
  refine ⟨g, 0, fun _ => ⟨rfl, hlt⟩, fun j d hd => ?_⟩
  obtain ⟨h1, h2, h3⟩ := rowM_at L j d hd
  have c1 := h.cells (g := g) rfl _ _ h1
  have c2 := h.cells (g := g) rfl _ _ h2
  have c3 := h.cells (g := g) rfl _ _ h3
  rw [Base.add_plain] at c1 c2 c3
  simp only [Nat.zero_add]
  exact ⟨c1, c2, c3⟩
theorem RowM.at {w : World} {B : Nat} {A : Option Addr} {L : List Dm} (h : RowM w B A L) : ∃ b off : Nat, (0 < L.length → A = some ⟨b, off, none⟩ ∧ b < B) ∧ ∀ j, (hj : j < L.length) →
  w.cell? ⟨b, off + j * 3, none⟩ = some (.int .i64 L[j].1) ∧ w.cell? ⟨b, off + j * 3 + 1, none⟩ = some (.int .i64 L[j].2.1) ∧ w.cell? ⟨b, off + j * 3 + 2, none⟩ = some (.bool L[j].2.2) := by
 obtain ⟨b, off, h1, h2⟩ := h
 exact ⟨b, off, h1, fun j hj => h2 j _ (List.getElem?_eq_getElem hj)⟩
def Fits (L : List Dm) : Prop := ∀ d ∈ L, Sm d.1 ∧ Sm d.2.1
theorem add_none (b o j : Nat) : (⟨b, o, none⟩ : Addr).add j = ⟨b, o + j, none⟩ := by unfold Addr.add; split <;> simp_all
end Go.Proofs.YtmajllgfmclcoaaGreatDoor.Dms
namespace Go.Proofs.YtmajllgfmclcoaaGreatDoor.Pure
open Go.RowKit
def okR (xs : List Int) : Prop := xs.length ≤ 8 ∧ ∀ x ∈ xs, 0 ≤ x ∧ x ≤ 255
instance (xs : List Int) : Decidable (okR xs) := inferInstanceAs (Decidable (_ ∧ _))
def okRB (xs : List Int) : Bool := decide (okR xs)
theorem okRB_of {xs : List Int} (h : okR xs) : okRB xs = true := decide_eq_true h
theorem okRB_not {xs : List Int} (h : ¬ okR xs) : okRB xs = false := decide_eq_false h
def bitB (r : Int) (k : Nat) : Bool := decide (r / 2 ^ k % 2 = 1)
theorem bitB_zero (k : Nat) : bitB 0 k = false := by unfold bitB; simp
def rowD (xs : List Int) (y : Nat) : Int := xs.getD y 0
theorem rowD_at {xs : List Int} {y : Nat} {r : Int} (h : xs[y]? = some r) : rowD xs y = r := by unfold rowD; simp [List.getD, h]
theorem rowD_out {xs : List Int} {y : Nat} (h : xs.length ≤ y) : rowD xs y = 0 := by unfold rowD; simp [List.getD, List.getElem?_eq_none h]
theorem rowD_ok {xs : List Int} (h : okR xs) (y : Nat) : 0 ≤ rowD xs y ∧ rowD xs y ≤ 255 := by
 by_cases hy : y < xs.length
 ·have e : rowD xs y = xs[y] := rowD_at (List.getElem?_eq_getElem hy)
  rw [e]; exact h.2 _ (List.getElem_mem hy)
 ·rw [rowD_out (by omega)]; omega
def cellsTo (xs : List Int) (k : Nat) : List (Int × Int) := ((List.range k).filter fun j => bitB (rowD xs (j / 8)) (j % 8)).map fun j => (((j % 8 : Nat) : Int), ((j / 8 : Nat) : Int))
theorem cellsTo_yes {xs : List Int} {k : Nat} (h : bitB (rowD xs (k / 8)) (k % 8) = true) : cellsTo xs (k + 1) = cellsTo xs k ++ [(((k % 8 : Nat) : Int), ((k / 8 : Nat) : Int))] := by
 unfold cellsTo; rw [List.range_succ, List.filter_append, List.map_append]; simp [h]
theorem cellsTo_no {xs : List Int} {k : Nat} (h : bitB (rowD xs (k / 8)) (k % 8) = false) : cellsTo xs (k + 1) = cellsTo xs k := by
 unfold cellsTo; rw [List.range_succ, List.filter_append, List.map_append]; simp [h]
theorem cellsTo_length (xs : List Int) (k : Nat) : (cellsTo xs k).length ≤ k := by
 unfold cellsTo; rw [List.length_map]; exact Nat.le_trans (List.length_filter_le _ _) (by simp)
theorem cellsTo_out {xs : List Int} {k : Nat} (h : xs.length * 8 ≤ k) (m : Nat) : cellsTo xs (k + m) = cellsTo xs k := by
 induction m with
 | zero => rfl
 | succ m ih =>
  rw [← Nat.add_assoc, cellsTo_no, ih]
  rw [rowD_out (by omega)]; exact bitB_zero _
def cellsR (xs : List Int) : List (Int × Int) := if okR xs then cellsTo xs 64 else []
theorem cellsR_ok {xs : List Int} (h : okR xs) : cellsR xs = cellsTo xs 64 := by unfold cellsR; simp [h]
theorem cellsR_ok' {xs : List Int} (h : okR xs) : cellsR xs = cellsTo xs (xs.length * 8) := by
 rw [cellsR_ok h]
 have := h.1
 have e := cellsTo_out (xs := xs) (k := xs.length * 8) NR (64 - xs.length * 8)
 rw [show xs.length * 8 + (64 - xs.length * 8) = 64 by omega] at e
 exact e
theorem cellsR_not {xs : List Int} (h : ¬ okR xs) : cellsR xs = [] := by unfold cellsR; simp [h]
theorem cellsR_length (xs : List Int) : (cellsR xs).length ≤ 64 := by
 unfold cellsR; split
 ·exact cellsTo_length _ _
 ·simp
def hasB (xs : List Int) (x y : Int) : Bool := decide (okR xs ∧ 0 ≤ x ∧ x ≤ 7 ∧ 0 ≤ y ∧ y ≤ 7 ∧ bitB (rowD xs y.toNat) x.toNat = true)
theorem hasB_iff {xs : List Int} {x y : Int} : hasB xs x y = true ↔ okR xs ∧ 0 ≤ x ∧ x ≤ 7 ∧ 0 ≤ y ∧ y ≤ 7 ∧ bitB (rowD xs y.toNat) x.toNat = true := by unfold hasB; simp
def rectR (w h : Int) : List Int := if 1 ≤ w ∧ w ≤ 8 ∧ 1 ≤ h ∧ h ≤ 8 then List.replicate h.toNat (2 ^ w.toNat - 1) else []
theorem rectR_in {w h : Int} (k : 1 ≤ w ∧ w ≤ 8 ∧ 1 ≤ h ∧ h ≤ 8) : rectR w h = List.replicate h.toNat (2 ^ w.toNat - 1) := by unfold rectR; simp [k]
theorem rectR_out {w h : Int} (k : ¬ (1 ≤ w ∧ w ≤ 8 ∧ 1 ≤ h ∧ h ≤ 8)) : rectR w h = [] := by unfold rectR; rw [if_neg k]
def putB (r : Int) (k : Nat) (on : Bool) : Int := if bitB r k = on then r else if on then r + 2 ^ k else r - 2 ^ k
def pad8 (xs : List Int) : List Int := xs ++ List.replicate (8 - xs.length) 0
theorem pad8_length {xs : List Int} (h : xs.length ≤ 8) : (pad8 xs).length = 8 := by unfold pad8; simp; omega
theorem rowD_pad8 (xs : List Int) (y : Nat) : rowD (pad8 xs) y = rowD xs y := by
 unfold rowD pad8
 simp only [List.getD]
 by_cases h : y < xs.length
 ·rw [List.getElem?_append_left h]
 ·rw [List.getElem?_append_right (by omega), List.getElem?_eq_none (l := xs) (by omega)]
  by_cases h2 : y - xs.length < 8 - xs.length
  ·rw [List.getElem?_replicate]; simp [h2]
  ·rw [List.getElem?_eq_none (by simp; omega)]
def withR (xs : List Int) (x y : Nat) (on : Bool) : List Int := (pad8 xs).set y (putB (rowD xs y) x on)
theorem rowD_with {xs : List Int} (h : xs.length ≤ 8) (x : Nat) {y : Nat} (hy : y < 8) (on : Bool) (z : Nat) : rowD (withR xs x y on) z = if z = y then putB (rowD xs y) x on else rowD xs z := by
 have hl := pad8_length h
 by_cases e : z = y
 ·subst e
  rw [if_pos rfl]
  unfold withR
  refine rowD_at ?_
  rw [List.getElem?_set_self (by omega)]
 ·rw [if_neg e, ← rowD_pad8 xs z]
  unfold withR rowD
  simp only [List.getD]
  rw [List.getElem?_set_ne (by omega)]
theorem and_table : ∀ r : Fin 256, ∀ k : Fin 8, (bits .and .i64 ((r.val : Nat) : Int) ((2 ^ k.val : Nat) : Int) = if bitB ((r.val : Nat) : Int) k.val then ((2 ^ k.val : Nat) : Int) else 0) ∧
  (bits .and .i64 (((r.val : Nat) : Int) / 2 ^ k.val) 1 = if bitB ((r.val : Nat) : Int) k.val then 1 else 0) ∧ (bits .or .i64 ((r.val : Nat) : Int) ((2 ^ k.val : Nat) : Int) = putB ((r.val : Nat) : Int) k.val true) ∧
  (bits .andNot .i64 ((r.val : Nat) : Int) ((2 ^ k.val : Nat) : Int) = putB ((r.val : Nat) : Int) k.val false) ∧ (putB ((r.val : Nat) : Int) k.val true - 2 ^ k.val = putB ((r.val : Nat) : Int) k.val false) ∧
  0 ≤ putB ((r.val : Nat) : Int) k.val true ∧ putB ((r.val : Nat) : Int) k.val true ≤ 255 ∧ 0 ≤ putB ((r.val : Nat) : Int) k.val false ∧ putB ((r.val : Nat) : Int) k.val false ≤ 255 ∧
  (putB (putB ((r.val : Nat) : Int) k.val true) k.val false = ((r.val : Nat) : Int) ↔ bitB ((r.val : Nat) : Int) k.val = false) := by decide +kernel
theorem table {r : Int} (h0 : 0 ≤ r) (h1 : r ≤ 255) {k : Nat} (hk : k < 8) : (bits .and .i64 r (2 ^ k) = if bitB r k then (2 : Int) ^ k else 0) ∧
  (bits .and .i64 (r / 2 ^ k) 1 = if bitB r k then 1 else 0) ∧ (bits .or .i64 r (2 ^ k) = putB r k true) ∧
  (bits .andNot .i64 r (2 ^ k) = putB r k false) ∧ (putB r k true - 2 ^ k = putB r k false) ∧
  0 ≤ putB r k true ∧ putB r k true ≤ 255 ∧ 0 ≤ putB r k false ∧ putB r k false ≤ 255 ∧ (putB (putB r k true) k false = r ↔ bitB r k = false) := by
 have h := and_table ⟨r.toNat, by omega⟩ ⟨k, hk⟩
 have e : ((r.toNat : Nat) : Int) = r := Int.toNat_of_nonneg h0
 have e2 : ((2 ^ k : Nat) : Int) = 2 ^ k := by simp
 simp only [e, e2] at h
 exact h
theorem and_no {r : Int} (h0 : 0 ≤ r) (h1 : r ≤ 255) {k : Nat} (hk : k < 8) (hb : bitB r k = false) : bits .and .i64 r (2 ^ k) = 0 := by rw [(table h0 h1 hk).1, hb]; rfl
theorem and_yes {r : Int} (h0 : 0 ≤ r) (h1 : r ≤ 255) {k : Nat} (hk : k < 8) (hb : bitB r k = true) : bits .and .i64 r (2 ^ k) = 2 ^ k := by rw [(table h0 h1 hk).1, hb]; rfl
theorem shr_no {r : Int} (h0 : 0 ≤ r) (h1 : r ≤ 255) {k : Nat} (hk : k < 8) (hb : bitB r k = false) : bits .and .i64 (r / 2 ^ k) 1 = 0 := by rw [(table h0 h1 hk).2.1, hb]; rfl
theorem shr_yes {r : Int} (h0 : 0 ≤ r) (h1 : r ≤ 255) {k : Nat} (hk : k < 8) (hb : bitB r k = true) : bits .and .i64 (r / 2 ^ k) 1 = 1 := by rw [(table h0 h1 hk).2.1, hb]; rfl
end Go.Proofs.YtmajllgfmclcoaaGreatDoor.Pure
namespace Go.Proofs.YtmajllgfmclcoaaGreatDoor.Til
open Go.RowKit Go.Proofs.YtmajllgfmclcoaaGreatDoor.Pure Go.Proofs.YtmajllgfmclcoaaGreatDoor.Cell Dom Dms
def okM (d : Dm) : Bool := domB d.1 d.2.1 d.2.2
def covP (d : Dm) (x y : Int) : Bool := eqB x y d.1 d.2.1 || eqB x y (sx d.1 d.2.2) (sy d.2.1 d.2.2)
def covM (d : Dm) (x y : Int) : Bool := okM d && covP d x y
def anyM (L : List Dm) (x y : Int) : Bool := L.any fun d => covM d x y
def atN : List Dm → Int → Int → Option Nat
  | [], _, _ => none
  | d :: L, x, y => if covM d x y then some 0 else (atN L x y).map (· + 1)
def atI (L : List Dm) (x y : Int) : Int := match atN L x y with
  | some j => (j : Int)
  | none => -1
theorem atN_hit {L : List Dm} {x y : Int} : ∀ {k : Nat} {d : Dm}, (∀ j e, j < k → L[j]? = some e → covM e x y = false) → L[k]? = some d → covM d x y = true → atN L x y = some k := by
  induction L with
  | nil => intro k d _ h; simp at h
  | cons a L ih =>
    intro k d h1 h2 h3
    unfold atN
    cases k with
    | zero => simp at h2; subst h2; rw [if_pos h3]
    | succ k =>
      rw [if_neg (by rw [h1 0 a (by omega) rfl]; simp), ih (k := k) (d := d) (fun j e hj he => h1 (j + 1) e (by omega) (by simpa using he)) (by simpa using h2) h3]
      rfl
theorem atN_none {L : List Dm} {x y : Int} : atN L x y = none ↔ anyM L x y = false := by
  induction L with
  | nil => simp [atN, anyM]
  | cons a L ih =>
    unfold atN
    cases h : covM a x y with
    | true => simp [anyM, h]
    | false => simpa [anyM, h] using ih
theorem atI_hit {L : List Dm} {x y : Int} {k : Nat} {d : Dm} (h1 : ∀ j e, j < k → L[j]? = some e → covM e x y = false) (h2 : L[k]? = some d) (h3 : covM d x y = true) : atI L x y = (k : Int) := by
  unfold atI; rw [atN_hit h1 h2 h3]
theorem atI_miss {L : List Dm} {x y : Int} (h : ∀ j e, j < L.length → L[j]? = some e → covM e x y = false) : atI L x y = -1 := by
  have : anyM L x y = false := by
    unfold anyM
    rw [List.any_eq_false]
    intro d hd
    obtain ⟨j, hj⟩ := List.getElem?_of_mem hd
    rw [h j d (List.getElem?_eq_some_iff.1 hj).1 hj]; simp
  unfold atI; rw [atN_none.2 this]
theorem atI_neg {L : List Dm} {x y : Int} : decide (atI L x y < 0) = !anyM L x y := by
  unfold atI
  cases h : anyM L x y with
  | false => rw [atN_none.2 h]; rfl
  | true =>
    cases hn : atN L x y with
    | none => rw [atN_none] at hn; rw [hn] at h; cases h
    | some j => simp
def unc (L : List Dm) (C : List (Int × Int)) : List (Int × Int) := C.filter fun c => !anyM L c.1 c.2
theorem unc_yes {L : List Dm} {C : List (Int × Int)} {k : Nat} (hk : k < C.length) (h : anyM L C[k].1 C[k].2 = false) : unc L (C.take (k + 1)) = unc L (C.take k) ++ [C[k]] := by
  unfold unc; rw [List.take_succ_eq_append_getElem hk, List.filter_append]; simp [h]
theorem unc_no {L : List Dm} {C : List (Int × Int)} {k : Nat} (hk : k < C.length) (h : anyM L C[k].1 C[k].2 = true) : unc L (C.take (k + 1)) = unc L (C.take k) := by
  unfold unc; rw [List.take_succ_eq_append_getElem hk, List.filter_append]; simp [h]
theorem unc_length (L : List Dm) (C : List (Int × Int)) : (unc L C).length ≤ C.length := List.length_filter_le _ _
theorem tbef_self (x y : Int) (b : Bool) : befB x y b x y b = false := by
  unfold befB
  rw [show befP x y b x y b = false by rw [Bool.eq_false_iff, Ne, befP_iff]; rintro (h | ⟨_, h1, h2⟩); · omega
                                       · rw [h1] at h2; cases h2]
  simp
theorem tbef_ne {x y : Int} {b : Bool} {u v : Int} {c : Bool} (h1 : domB x y b = true) (h2 : domB u v c = true) (hne : ¬ (x = u ∧ y = v ∧ b = c)) : befB u v c x y b = !befB x y b u v c := by
  have o1 := dom_ok h1
  have o2 := dom_ok h2
  obtain ⟨x0, x7, y0, y7⟩ := o1
  obtain ⟨u0, u7, v0, v7⟩ := o2
  unfold befB
  rw [h1, h2]
  simp only [Bool.true_and]
  have hk : befP x y b u v c = false ↔ ¬ (y * 8 + x < v * 8 + u ∨ (y * 8 + x = v * 8 + u ∧ b = false ∧ c = true)) := by rw [← befP_iff]; simp
  rw [Bool.eq_iff_iff, befP_iff, Bool.not_eq_true', hk]
  cases b <;> cases c <;> simp <;> simp at hne <;> omega
def befM (d e : Dm) : Bool := befB d.1 d.2.1 d.2.2 e.1 e.2.1 e.2.2
theorem befM_iff {d e : Dm} : befM d e = true ↔ okM d = true ∧ okM e = true ∧ (d.2.1 * 8 + d.1 < e.2.1 * 8 + e.1 ∨ (d.2.1 * 8 + d.1 = e.2.1 * 8 + e.1 ∧ d.2.2 = false ∧ e.2.2 = true)) := by
  unfold befM befB okM
  rw [Bool.and_eq_true, Bool.and_eq_true, befP_iff, and_assoc]
theorem okM_in {d : Dm} (h : okM d = true) : 0 ≤ d.1 ∧ d.1 ≤ 7 ∧ 0 ≤ d.2.1 ∧ d.2.1 ≤ 7 := by
  have := dom_ok h
  exact this
theorem dm_ext {d e : Dm} (h1 : d.1 = e.1) (h2 : d.2.1 = e.2.1) (h3 : d.2.2 = e.2.2) : d = e := by
  obtain ⟨a, b, c⟩ := d; obtain ⟨a', b', c'⟩ := e; simp only at h1 h2 h3; rw [h1, h2, h3]
theorem befM_irrefl (d : Dm) : befM d d = false := tbef_self _ _ _
theorem befM_trans {a b c : Dm} (h1 : befM a b = true) (h2 : befM b c = true) : befM a c = true := by
  rw [befM_iff] at *
  obtain ⟨p1, p2, p3⟩ := h1
  obtain ⟨q1, q2, q3⟩ := h2
  refine ⟨p1, q2, ?_⟩
  rcases p3 with p | ⟨p, p', p''⟩ <;> rcases q3 with q | ⟨q, q', q''⟩
  · left; omega
  · left; omega
  · left; omega
  · right; exact ⟨by omega, p', q''⟩
theorem befM_total {a b : Dm} (h1 : okM a = true) (h2 : okM b = true) (hne : a ≠ b) : befM b a = !befM a b := by
  refine tbef_ne h1 h2 ?_
  rintro ⟨e1, e2, e3⟩
  exact hne (dm_ext e1 e2 e3)
theorem befM_same {a b : Dm} (h1 : okM a = true) (h2 : okM b = true) (h3 : befM a b = false) (h4 : befM b a = false) : a = b := by
  by_cases e : a = b
  · exact e
  · rw [befM_total h1 h2 e, h3] at h4; cases h4
theorem befM_asymm {a b : Dm} (h : befM a b = true) : befM b a = false := by
  cases h2 : befM b a with
  | false => rfl
  | true =>
    have := befM_trans h h2
    rw [befM_irrefl] at this; cases this
theorem uniq {A : List Dm} : ∀ {B : List Dm}, A.Pairwise (fun a b => befM a b = true) → B.Pairwise (fun a b => befM a b = true) → (∀ d, d ∈ A ↔ d ∈ B) → A = B := by
  induction A with
  | nil =>
    intro B _ _ h
    cases B with
    | nil => rfl
    | cons b B => have := (h b).2 (by simp); simp at this
  | cons a A ih =>
    intro B hA hB h
    cases B with
    | nil => have := (h a).1 (by simp); simp at this
    | cons b B =>
      obtain ⟨a1, a2⟩ := List.pairwise_cons.1 hA
      obtain ⟨b1, b2⟩ := List.pairwise_cons.1 hB
      have hab : a = b := by
        have m1 := (h a).1 (by simp)
        have m2 := (h b).2 (by simp)
        rcases List.mem_cons.1 m1 with e | m1
        · exact e
        · rcases List.mem_cons.1 m2 with e | m2
          · exact e.symm
          · have := befM_asymm (a1 b m2)
            rw [b1 a m1] at this; cases this
      subst hab
      congr 1
      refine ih a2 b2 (fun d => ?_)
      have hd := h d
      simp only [List.mem_cons] at hd
      constructor
      · intro m
        rcases hd.1 (.inr m) with e | m'
        · subst e; have := a1 d m; rw [befM_irrefl] at this; cases this
        · exact m'
      · intro m
        rcases hd.2 (.inr m) with e | m'
        · subst e; have := b1 d m; rw [befM_irrefl] at this; cases this
        · exact m'
def cut (M : List Dm) (d : Dm) : Nat := (M.takeWhile fun e => befM e d).length
theorem cut_le (M : List Dm) (d : Dm) : cut M d ≤ M.length := by unfold cut; exact (List.takeWhile_prefix _).length_le
theorem cut_hit {M : List Dm} {d : Dm} : ∀ {k : Nat}, (∀ j e, j < k → M[j]? = some e → befM e d = true) → (∀ e, M[k]? = some e → befM e d = false) → k ≤ M.length → cut M d = k := by
  induction M with
  | nil => intro k _ _ hk; simp at hk; subst hk; rfl
  | cons a M ih =>
    intro k h1 h2 hk
    unfold cut
    cases k with
    | zero => rw [List.takeWhile_cons, if_neg (by rw [h2 a rfl]; simp)]; rfl
    | succ k =>
      rw [List.takeWhile_cons, if_pos (h1 0 a (by omega) rfl)]
      have := ih (k := k) (fun j e hj he => h1 (j + 1) e (by omega) (by simpa using he)) (fun e he => h2 e (by simpa using he)) (by simpa using hk)
      unfold cut at this
      rw [List.length_cons, this]
theorem cut_before {M : List Dm} {d : Dm} : ∀ {j : Nat} {e : Dm}, j < cut M d → M[j]? = some e → befM e d = true := by
  induction M with
  | nil => intro j e hj; simp [cut] at hj
  | cons a M ih =>
    intro j e hj he
    unfold cut at hj
    by_cases h : befM a d = true
    · rw [List.takeWhile_cons, if_pos h, List.length_cons] at hj
      cases j with
      | zero => simp at he; subst he; exact h
      | succ j => exact ih (j := j) (by unfold cut; omega) (by simpa using he)
    · rw [List.takeWhile_cons, if_neg h] at hj; simp at hj
theorem cut_at {M : List Dm} {d e : Dm} : M[cut M d]? = some e → befM e d = false := by
  induction M with
  | nil => intro h; simp at h
  | cons a M ih =>
    intro he
    by_cases h : befM a d = true
    · have e1 : cut (a :: M) d = cut M d + 1 := by unfold cut; rw [List.takeWhile_cons, if_pos h, List.length_cons]
      rw [e1] at he
      exact ih (by simpa using he)
    · have e1 : cut (a :: M) d = 0 := by unfold cut; rw [List.takeWhile_cons, if_neg h]; rfl
      rw [e1] at he
      simp at he; subst he; simpa using h
def ins (M : List Dm) (d : Dm) : List Dm := if okM d = false ∨ M[cut M d]? = some d then M else M.take (cut M d) ++ d :: M.drop (cut M d)
theorem ins_length (M : List Dm) (d : Dm) : (ins M d).length ≤ M.length + 1 := by
  unfold ins; split
  · omega
  · have := cut_le M d
    simp [List.length_take, List.length_drop]; omega
def sortM (L : List Dm) : List Dm := L.foldl ins []
theorem sortM_step {L : List Dm} {k : Nat} (hk : k < L.length) : sortM (L.take (k + 1)) = ins (sortM (L.take k)) L[k] := by
  unfold sortM; rw [List.take_succ_eq_append_getElem hk, List.foldl_append]; rfl
def Inc (M : List Dm) : Prop := M.Pairwise (fun a b => befM a b = true)
theorem ins_good {M : List Dm} {d : Dm} (h : Inc M) (hv : ∀ e ∈ M, okM e = true) : Inc (ins M d) ∧ ∀ e, e ∈ ins M d ↔ e ∈ M ∨ (e = d ∧ okM d = true) := by
  unfold ins
  by_cases h1 : okM d = false
  · rw [if_pos (.inl h1)]
    exact ⟨h, fun e => by simp [h1]⟩
  · have hd : okM d = true := by simpa using h1
    by_cases h2 : M[cut M d]? = some d
    · rw [if_pos (.inr h2)]
      refine ⟨h, fun e => ⟨.inl, ?_⟩⟩
      rintro (h | ⟨rfl, _⟩)
      · exact h
      · exact List.mem_of_getElem? h2
    · rw [if_neg (by rintro (h | h); · exact h1 h
                     · exact h2 h)]
      have hsplit : M.take (cut M d) ++ M.drop (cut M d) = M := List.take_append_drop _ _
      have hpre : ∀ e ∈ M.take (cut M d), befM e d = true := by
        intro e he
        obtain ⟨j, hj⟩ := List.getElem?_of_mem he
        rw [List.getElem?_take] at hj
        by_cases hlt : j < cut M d
        · rw [if_pos hlt] at hj; exact cut_before hlt hj
        · rw [if_neg hlt] at hj; cases hj
      have hInc := h
      unfold Inc at h
      rw [← hsplit, List.pairwise_append] at h
      obtain ⟨p1, p2, p3⟩ := h
      have hpost : ∀ e ∈ M.drop (cut M d), befM d e = true := by
        have hk := fun e => cut_at (M := M) (d := d) (e := e)
        cases hD : M.drop (cut M d) with
        | nil => intro e he; simp at he
        | cons a D =>
          have ha : M[cut M d]? = some a := by
            have := List.getElem?_drop (xs := M) (i := cut M d) (j := 0)
            rw [hD] at this; simpa using this.symm
          have hka := hk a ha
          have hne : a ≠ d := by rintro rfl; exact h2 ha
          have hda : befM d a = true := by
            rw [befM_total (hv a (List.mem_of_getElem? ha)) hd hne, hka]; rfl
          rw [hD] at p2
          intro e he
          rcases List.mem_cons.1 he with rfl | he
          · exact hda
          · exact befM_trans hda ((List.pairwise_cons.1 p2).1 e he)
      refine ⟨?_, fun e => ?_⟩
      · unfold Inc
        rw [List.pairwise_append]
        refine ⟨p1, List.pairwise_cons.2 ⟨hpost, p2⟩, fun a ha b hb => ?_⟩
        rcases List.mem_cons.1 hb with rfl | hb
        · exact hpre a ha
        · exact p3 a ha b hb
      · have : e ∈ M ↔ e ∈ M.take (cut M d) ∨ e ∈ M.drop (cut M d) := by rw [← List.mem_append, hsplit]
        rw [this, List.mem_append, List.mem_cons]
        simp only [hd, and_true]
        constructor
        · rintro (h | h | h)
          · exact .inl (.inl h)
          · exact .inr h
          · exact .inl (.inr h)
        · rintro ((h | h) | h)
          · exact .inl h
          · exact .inr (.inr h)
          · exact .inr (.inl h)
theorem foldl_good (L : List Dm) : ∀ M : List Dm, Inc M → (∀ e ∈ M, okM e = true) → Inc (L.foldl ins M) ∧ ∀ e, e ∈ L.foldl ins M ↔ e ∈ M ∨ (e ∈ L ∧ okM e = true) := by
  induction L with
  | nil => intro M h hv; exact ⟨h, fun e => by simp⟩
  | cons d L ih =>
    intro M h hv
    obtain ⟨g1, g2⟩ := ins_good (d := d) h hv
    obtain ⟨f1, f2⟩ := ih (ins M d) g1 (fun e he => by
      rcases (g2 e).1 he with he | ⟨rfl, hd⟩
      · exact hv e he
      · exact hd)
    refine ⟨f1, fun e => ?_⟩
    rw [List.foldl_cons, f2, g2, List.mem_cons]
    constructor
    · rintro ((h | ⟨rfl, h⟩) | ⟨h, h'⟩)
      · exact .inl h
      · exact .inr ⟨.inl rfl, h⟩
      · exact .inr ⟨.inr h, h'⟩
    · rintro (h | ⟨rfl | h, h'⟩)
      · exact .inl (.inl h)
      · exact .inl (.inr ⟨rfl, h'⟩)
      · exact .inr ⟨h, h'⟩
theorem sortM_good (L : List Dm) : Inc (sortM L) ∧ ∀ e, e ∈ sortM L ↔ e ∈ L ∧ okM e = true := by
  obtain ⟨a, b⟩ := foldl_good L [] List.Pairwise.nil (by simp)
  exact ⟨a, fun e => by rw [show sortM L = L.foldl ins [] from rfl, b]; simp⟩
theorem sortM_of {L M : List Dm} (h : Inc M) (hm : ∀ e, e ∈ M ↔ e ∈ L ∧ okM e = true) : sortM L = M :=
  uniq (sortM_good L).1 h fun d => by rw [(sortM_good L).2, hm]
theorem sortM_length (L : List Dm) : (sortM L).length ≤ L.length := by
  suffices h : ∀ (L M : List Dm), (L.foldl ins M).length ≤ M.length + L.length by
    have := h L []; unfold sortM; simpa using this
  intro L
  induction L with
  | nil => intro M; simp
  | cons d L ih => intro M; rw [List.foldl_cons, List.length_cons]; have := ih (ins M d); have := ins_length M d; omega
def stepB (xs : List Int) (M : List Dm) (d : Dm) : Bool :=
  (match M.getLast? with | none => true | some p => befM p d) && ((hasB xs d.1 d.2.1 && !anyM M d.1 d.2.1) && (hasB xs (sx d.1 d.2.2) (sy d.2.1 d.2.2) && !anyM M (sx d.1 d.2.2) (sy d.2.1 d.2.2)))
def stpAt (xs : List Int) (L : List Dm) (k : Nat) : Bool := stepB xs (L.take k) (L.getD k (0, 0, false))
def partB (xs : List Int) (L : List Dm) : Bool := okRB xs && (List.range L.length).all (stpAt xs L)
theorem stpAt_of {xs : List Int} {L : List Dm} {k : Nat} (hk : k < L.length) : stpAt xs L k = stepB xs (L.take k) L[k] := by
  unfold stpAt; simp [List.getD, List.getElem?_eq_getElem hk]
theorem part_yes {xs : List Int} {L : List Dm} (h : okRB xs = true) (hs : ∀ k, k < L.length → stpAt xs L k = true) : partB xs L = true := by
  unfold partB; rw [h, Bool.true_and, List.all_eq_true]; intro k hk; exact hs k (List.mem_range.1 hk)
theorem part_no {xs : List Int} {L : List Dm} {k : Nat} (hk : k < L.length) (hs : stpAt xs L k = false) : partB xs L = false := by
  unfold partB
  rw [Bool.and_eq_false_iff]
  right
  rw [List.all_eq_false]
  exact ⟨k, List.mem_range.2 hk, by rw [hs]; simp⟩
theorem part_not {xs : List Int} {L : List Dm} (h : okRB xs = false) : partB xs L = false := by unfold partB; rw [h]; rfl
theorem part_iff {xs : List Int} {L : List Dm} : partB xs L = true ↔ okRB xs = true ∧ ∀ k, k < L.length → stpAt xs L k = true := by
  unfold partB; rw [Bool.and_eq_true, List.all_eq_true]
  exact ⟨fun h => ⟨h.1, fun k hk => h.2 k (List.mem_range.2 hk)⟩, fun h => ⟨h.1, fun k hk => h.2 k (List.mem_range.1 hk)⟩⟩
theorem hasB_ok {xs : List Int} {x y : Int} (h : hasB xs x y = true) : okB x y = true := by
  rw [hasB_iff] at h; rw [okB_iff]; exact ⟨h.2.1, h.2.2.1, h.2.2.2.1, h.2.2.2.2.1⟩
theorem stepB_ok {xs : List Int} {M : List Dm} {d : Dm} (h : stepB xs M d = true) : okM d = true := by
  unfold stepB at h
  simp only [Bool.and_eq_true] at h
  obtain ⟨_, ⟨h1, _⟩, h2, _⟩ := h
  unfold okM domB
  rw [hasB_ok h1, hasB_ok h2]; rfl
theorem mem_cells {xs : List Int} {x y : Int} : (x, y) ∈ cellsR xs ↔ hasB xs x y = true := by
  rw [hasB_iff]
  by_cases ho : okR xs
  · rw [cellsR_ok ho]
    unfold cellsTo
    simp only [List.mem_map, List.mem_filter, List.mem_range, Prod.mk.injEq]
    constructor
    · rintro ⟨j, ⟨hj, hb⟩, rfl, rfl⟩
      refine ⟨ho, by omega, by omega, by omega, by omega, ?_⟩
      rw [show ((j / 8 : Nat) : Int).toNat = j / 8 from Int.toNat_natCast _, show ((j % 8 : Nat) : Int).toNat = j % 8 from Int.toNat_natCast _]
      exact hb
    · rintro ⟨_, x0, x7, y0, y7, hb⟩
      refine ⟨y.toNat * 8 + x.toNat, ⟨by omega, ?_⟩, by omega, by omega⟩
      rw [show (y.toNat * 8 + x.toNat) / 8 = y.toNat by omega, show (y.toNat * 8 + x.toNat) % 8 = x.toNat by omega]
      exact hb
  · rw [cellsR_not ho]
    simp [ho]
theorem cellsTo_inc (xs : List Int) (k : Nat) : (cellsTo xs k).Pairwise (fun c d => c.2 * 8 + c.1 < d.2 * 8 + d.1) ∧ ∀ c ∈ cellsTo xs k, c.2 * 8 + c.1 < (k : Int) := by
  induction k with
  | zero => simp [cellsTo]
  | succ k ih =>
    cases h : bitB (rowD xs (k / 8)) (k % 8) with
    | false =>
      rw [cellsTo_no h]
      exact ⟨ih.1, fun c hc => by have := ih.2 c hc; omega⟩
    | true =>
      rw [cellsTo_yes h]
      have e : ((k / 8 : Nat) : Int) * 8 + ((k % 8 : Nat) : Int) = (k : Int) := by omega
      refine ⟨?_, ?_⟩
      · rw [List.pairwise_append]
        refine ⟨ih.1, by simp, fun a ha b hb => ?_⟩
        simp only [List.mem_singleton] at hb
        subst hb
        have := ih.2 a ha
        simp only
        omega
      · intro c hc
        rcases List.mem_append.1 hc with hc | hc
        · have := ih.2 c hc; omega
        · simp only [List.mem_singleton] at hc
          subst hc
          simp only
          omega
theorem cells_inc (xs : List Int) : (cellsR xs).Pairwise (fun c d => c.2 * 8 + c.1 < d.2 * 8 + d.1) := by
  unfold cellsR; split
  · exact (cellsTo_inc xs 64).1
  · exact List.Pairwise.nil
theorem cells_nodup (xs : List Int) : (cellsR xs).Nodup := (cells_inc xs).imp fun {a b} h e => by subst e; omega
theorem two_fewer {U : List (Int × Int)} (hn : U.Nodup) {a b : Int × Int} (ha : a ∈ U) (hb : b ∈ U) (hab : a ≠ b) : (U.filter fun c => !(c == a || c == b)).length + 2 = U.length := by
  have e : (U.filter fun c => !(c == a || c == b)) = (U.erase a).erase b := by
    rw [List.Nodup.erase_eq_filter hn, List.Nodup.erase_eq_filter (List.Pairwise.filter _ hn), List.filter_filter]
    congr 1
    funext c
    cases h1 : c == a <;> cases h2 : c == b <;> simp [bne, h1, h2]
  have hb' : b ∈ U.erase a := (List.mem_erase_of_ne hab.symm).2 hb
  have h1 := List.length_erase_of_mem ha
  have h2 := List.length_erase_of_mem hb'
  have h3 : 0 < U.length := List.length_pos_of_mem ha
  have h4 : 0 < (U.erase a).length := List.length_pos_of_mem hb'
  rw [e, h2, h1]
  omega
theorem other_cell {d : Dm} (h : okM d = true) : ((d.1, d.2.1) : Int × Int) ≠ (sx d.1 d.2.2, sy d.2.1 d.2.2) := by
  obtain ⟨x0, x7, y0, y7⟩ := okM_in h
  obtain ⟨x, y, b⟩ := d
  simp only at x0 x7 y0 y7
  intro e
  simp only [Prod.mk.injEq] at e
  obtain ⟨e1, e2⟩ := e
  cases b <;> simp only [sx, sy, Bool.false_eq_true, if_false, if_true] at e1 e2 <;> unfold wrap64 at * <;> omega
theorem anyM_snoc (M : List Dm) (d : Dm) (x y : Int) : anyM (M ++ [d]) x y = (anyM M x y || covM d x y) := by unfold anyM; simp
theorem unc_step {xs : List Int} {M : List Dm} {d : Dm} (h : stepB xs M d = true) : (unc (M ++ [d]) (cellsR xs)).length + 2 = (unc M (cellsR xs)).length := by
  have hd := stepB_ok h
  unfold stepB at h
  simp only [Bool.and_eq_true] at h
  obtain ⟨_, ⟨h1, h2⟩, h3, h4⟩ := h
  have m1 : (d.1, d.2.1) ∈ unc M (cellsR xs) := List.mem_filter.2 ⟨mem_cells.2 h1, h2⟩
  have m2 : (sx d.1 d.2.2, sy d.2.1 d.2.2) ∈ unc M (cellsR xs) := List.mem_filter.2 ⟨mem_cells.2 h3, h4⟩
  have k := two_fewer (U := unc M (cellsR xs)) (List.Pairwise.filter _ (cells_nodup xs)) m1 m2 (other_cell hd)
  rw [← k]
  congr 2
  unfold unc
  rw [List.filter_filter]
  congr 1
  funext c
  rw [anyM_snoc]
  have e : covM d c.1 c.2 = (c == (d.1, d.2.1) || c == (sx d.1 d.2.2, sy d.2.1 d.2.2)) := by
    unfold covM covP
    rw [hd, Bool.true_and, Bool.eq_iff_iff]
    simp only [Bool.or_eq_true, eqB_iff, beq_iff_eq]
    obtain ⟨c1, c2⟩ := c
    simp only [Prod.mk.injEq]
  rw [e, Bool.not_or, Bool.and_comm]
theorem unc_part {xs : List Int} {L : List Dm} (h : partB xs L = true) : (unc L (cellsR xs)).length + 2 * L.length = (cellsR xs).length := by
  obtain ⟨_, h⟩ := part_iff.1 h
  have key : ∀ k, k ≤ L.length → (unc (L.take k) (cellsR xs)).length + 2 * k = (cellsR xs).length := by
    intro k
    induction k with
    | zero => intro _; simp [unc, anyM]
    | succ k ih =>
      intro hk
      have hs := h k (by omega)
      rw [stpAt_of (by omega)] at hs
      have := unc_step hs
      rw [← List.take_succ_eq_append_getElem (by omega)] at this
      have := ih (by omega)
      omega
  have := key L.length NR
  rwa [List.take_length] at this
theorem part_length {xs : List Int} {L : List Dm} (h : partB xs L = true) : 2 * L.length ≤ 64 := by
  have := unc_part h
  have := cellsR_length xs
  omega
def tilB (xs : List Int) (L : List Dm) : Bool := partB xs L && decide ((unc L (cellsR xs)).length = 0)
theorem tilB_count {xs : List Int} {L : List Dm} (h : partB xs L = true) : tilB xs L = decide (2 * L.length = (cellsR xs).length) := by
  have := unc_part h
  unfold tilB
  rw [h, Bool.true_and]
  congr 1
  rw [eq_iff_iff]
  omega
end Go.Proofs.YtmajllgfmclcoaaGreatDoor.Til
namespace Go.Proofs.YtmajllgfmclcoaaGreatDoor.Grd
open Go.RowKit Go.Proofs.YtmajllgfmclcoaaGreatDoor.Pure Go.Proofs.YtmajllgfmclcoaaGreatDoor.Cell Dom Dms Til
theorem stp_app {xs : List Int} {M N : List Dm} {j : Nat} (hj : j < M.length) : stpAt xs (M ++ N) j = stpAt xs M j := by
 rw [stpAt_of (by rw [List.length_append]; omega), stpAt_of hj, List.take_append_of_le_length (by omega), List.getElem_append_left hj]
theorem stp_last {xs : List Int} {M : List Dm} {d : Dm} : stpAt xs (M ++ [d]) M.length = stepB xs M d := by
 rw [stpAt_of (by simp), List.take_left]
 congr 1
 simp
theorem part_inc {xs : List Int} {L : List Dm} (h : partB xs L = true) : Inc L := by
 obtain ⟨_, h⟩ := part_iff.1 h
 have key : ∀ k, k ≤ L.length → Inc (L.take k) := by
  intro k
  induction k with
  | zero => intro _; simp [Inc]
  | succ k ih =>
   intro hk
   have hs := h k (by omega)
   rw [stpAt_of (by omega)] at hs
   rw [List.take_succ_eq_append_getElem (by omega)]
   have hI := ih (by omega)
   unfold Inc
   rw [List.pairwise_append]
   refine ⟨hI, by simp, fun a ha b hb => ?_⟩
   rw [List.mem_singleton] at hb
   subst hb
   unfold stepB at hs
   simp only [Bool.and_eq_true] at hs
   obtain ⟨hp, _⟩ := hs
   cases hl : (L.take k).getLast? with
   | none => rw [List.getLast?_eq_none_iff] at hl; rw [hl] at ha; simp at ha
   | some p =>
    rw [hl] at hp
    simp only at hp
    obtain ⟨i, hi, e⟩ := List.getElem_of_mem ha
    have hlast : (L.take k)[(L.take k).length - 1]? = some p := by rw [← List.getLast?_eq_getElem?]; exact hl
    have hl1 : (L.take k).length - 1 < (L.take k).length := by omega
    rw [List.getElem?_eq_getElem hl1] at hlast
    injection hlast with hlast
    by_cases hie : i = (L.take k).length - 1
    ·subst hie; rw [← e, hlast]; exact hp
    ·unfold Inc at hI
     rw [List.pairwise_iff_getElem] at hI
     have := hI i ((L.take k).length - 1) hi hl1 (by omega)
     rw [e, hlast] at this
     exact befM_trans this hp
 have := key L.length NR
 rwa [List.take_length] at this
theorem part_valid {xs : List Int} {L : List Dm} (h : partB xs L = true) : ∀ d ∈ L, okM d = true := by
 obtain ⟨_, h⟩ := part_iff.1 h
 intro d hd
 obtain ⟨j, hj, e⟩ := List.getElem_of_mem hd
 have := h j hj
 rw [stpAt_of hj, e] at this
 exact stepB_ok this
theorem part_at {xs : List Int} {L : List Dm} (h : partB xs L = true) {k : Nat} (hk : k < L.length) : atI L L[k].1 L[k].2.1 = (k : Int) ∧ atI L (sx L[k].1 L[k].2.2) (sy L[k].2.1 L[k].2.2) = (k : Int) := by
 have hv := part_valid h L[k] (List.getElem_mem hk)
 obtain ⟨_, h⟩ := part_iff.1 h
 have hs := h k hk
 rw [stpAt_of hk] at hs
 unfold stepB at hs
 simp only [Bool.and_eq_true, Bool.not_eq_true'] at hs
 obtain ⟨_, ⟨_, h1⟩, _, h2⟩ := hs
 have no : ∀ {x y : Int}, anyM (L.take k) x y = false → ∀ j e, j < k → L[j]? = some e → covM e x y = false := by
  intro x y hn j e hj he
  unfold anyM at hn
  rw [List.any_eq_false] at hn
  have := hn e (List.mem_of_getElem? (i := j) (by rw [List.getElem?_take, if_pos hj]; exact he))
  simpa using this
 refine ⟨atI_hit (no h1) (List.getElem?_eq_getElem hk) ?_, atI_hit (no h2) (List.getElem?_eq_getElem hk) ?_⟩
 ·unfold covM covP; rw [hv]; simp [eqB_iff]
 ·unfold covM covP; rw [hv]; simp [eqB_iff]
theorem tilB_part {xs : List Int} {L : List Dm} (h : partB xs L = true) : tilB xs L = decide ((unc L (cellsR xs)).length = 0) := by unfold tilB; rw [h]; rfl
end Go.Proofs.YtmajllgfmclcoaaGreatDoor.Grd
