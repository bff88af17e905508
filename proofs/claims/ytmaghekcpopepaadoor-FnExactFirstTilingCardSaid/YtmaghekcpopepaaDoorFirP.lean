/- The first tiling of a region, cell by cell: at the first cell a domino to the right if the rest can then be tiled, else one down: pure. -/
import Derived.Test.YtmaghekcpopepaaDoorLstF
import Derived.Test.YtmaghekcpopepaaDoorCtW
namespace Go.Proofs.YtmaghekcpopepaaDoor.Lst
set_option linter.unusedVariables false
set_option linter.unusedSimpArgs false
set_option maxRecDepth 100000
open Go.RowKit Go.Proofs.YtmaghekcpopepaaDoor.Base Go.Proofs.YtmaghekcpopepaaDoor.Pure Go.Proofs.YtmaghekcpopepaaDoor.Cell Go.Proofs.YtmaghekcpopepaaDoor.Cels Go.Proofs.YtmaghekcpopepaaDoor.Dom Go.Proofs.YtmaghekcpopepaaDoor.Dms Go.Proofs.YtmaghekcpopepaaDoor.Til Go.Proofs.YtmaghekcpopepaaDoor.Grd Go.Proofs.YtmaghekcpopepaaDoor.Dss Go.Proofs.YtmaghekcpopepaaDoor.Lis Go.Proofs.YtmaghekcpopepaaDoor.Sets Go.Proofs.YtmaghekcpopepaaDoor.Ext Go.Proofs.YtmaghekcpopepaaDoor.Sam Go.Joins
open Go.Proofs.YtmaghekcpopepaaDoor.Cnt (gR tiles gR_in gR_out idxs idxs_cells tilesR tilesR_ok tilesR_not okR_with gR_two gR_with)
open Go.Proofs.YtmaghekcpopepaaDoor.Prof (withT withT_in withT_out with_len with_len2 own_some sCountWith)
open Go.Proofs.YtmaghekcpopepaaDoor.Reg hiding Yes add_none

/-- what is known while dominoes are laid: the cells that are left, and that the first tiling goes on with what is laid. -/
structure FI (xs ys : List Int) (M : List Dm) : Prop where
  ok : okR ys
  g : gR ys = gM xs M
  beg : ∃ k, k ≤ 64 ∧ Beg xs k M ∧ ∀ i, i < k → gM xs M i = false
  hd : (allT xs).head? = (cont xs M).head?
  ne : cont xs M ≠ []
theorem unc_nil (C : List (Int × Int)) : unc [] C = C := by
  unfold unc
  rw [List.filter_eq_self]
  intro a _
  unfold anyM; simp
theorem FI.start {xs : List Int} (ho : okR xs) (hn : allT xs ≠ []) : FI xs xs [] :=
  ⟨ho, (gM_nil xs).symm, ⟨0, Nat.zero_le _, Beg.zero xs, fun i hi => by omega⟩, by rw [cont_nil]; rfl, by rw [cont_nil]; exact hn⟩
theorem FI.first {xs ys : List Int} {M : List Dm} (h : FI xs ys M) (hp : 0 < (cellsR ys).length) : ∃ c, c < 64 ∧ gM xs M c = true ∧ (∀ i, i < c → gM xs M i = false) ∧ (cellsR ys)[0]? = some (plc c) := by
  have e := unc_nil (cellsR ys)
  obtain ⟨c, h1, h2, h3, h4⟩ := unc_first h.ok (M := []) (j := 0) (by rw [e]; exact hp)
  rw [gM_nil, h.g] at h2
  refine ⟨c, h1, h2, fun i hi => by have := h3 i hi; rw [gM_nil, h.g] at this; exact this, ?_⟩
  have h5 : (unc [] (cellsR ys))[0]? = some (plc c) := by rw [List.getElem?_eq_getElem (by rw [e]; exact hp), h4]; rfl
  rw [e] at h5; exact h5
theorem FI.last {xs ys : List Int} {M : List Dm} (ho : okR xs) (h : FI xs ys M) (hp : (cellsR ys).length = 0) : firR xs = M := by
  have h0 : ∀ i, i < 64 → gM xs M i = false := by
    have := unc_none h.ok (M := []) (by rw [unc_nil]; exact hp)
    intro i hi
    have h1 := this i hi
    rw [gM_nil, h.g] at h1; exact h1
  have hc : cont xs M = [M] := by unfold cont; rw [LsG_none h0]; simp
  have hh := h.hd
  rw [hc] at hh
  unfold firR
  rw [allR_ok ho, List.headD_eq_head?_getD, hh]; rfl
theorem FI.len {xs ys : List Int} {M : List Dm} (ho : okR xs) (h : FI xs ys M) : M.length ≤ 32 := by
  obtain ⟨k, _, hb, _⟩ := h.beg
  have := part_length (part_yes (okRB_of ho) hb.1)
  omega
theorem plc_nat (c : Nat) : (plc c).1 = ((c % 8 : Nat) : Int) ∧ (plc c).2 = ((c / 8 : Nat) : Int) := ⟨rfl, rfl⟩
/-- the region without the cells of a domino. -/
def lessD (ys : List Int) (c : Nat) (b : Bool) : List Int := withX (withX ys (plc c).1 (plc c).2 false) (sx (plc c).1 b) (sy (plc c).2 b) false
theorem lessD_is {xs ys : List Int} {M : List Dm} {c : Nat} {b : Bool} (h : FI xs ys M) (hc : c < 64) (hg : gM xs M c = true) (hb : canB xs M c b = true) :
    hasB ys (plc c).1 (plc c).2 = true ∧ hasB ys (sx (plc c).1 b) (sy (plc c).2 b) = true ∧ okR (lessD ys c b) ∧ gR (lessD ys c b) = gM xs (M ++ [dmN c b]) := by
  obtain ⟨h1, h2, h3⟩ := can_lt hb
  obtain ⟨_, o2, o3⟩ := oth_ok h1 h2
  have o2 : sx (plc c).1 b = ((oth c b % 8 : Nat) : Int) := o2
  have o3 : sy (plc c).2 b = ((oth c b / 8 : Nat) : Int) := o3
  have k1 : hasB ys (plc c).1 (plc c).2 = true := has_place h.ok (j := c) (by rw [h.g]; exact hg)
  have k2 : hasB ys (sx (plc c).1 b) (sy (plc c).2 b) = true := by rw [o2, o3]; exact has_place h.ok (j := oth c b) (by rw [h.g]; exact h3)
  refine ⟨k1, k2, (with_len2 k1 k2).1, ?_⟩
  have e1 := (withX_in h.ok (x := c % 8) (y := c / 8) (by omega) (by omega) false).1
  have hok := okR_with h.ok (x := c % 8) (y := c / 8) (by omega) (by omega)
  have e2 := (withX_in hok (x := oth c b % 8) (y := oth c b / 8) (by omega) (by omega) false).1
  unfold lessD
  rw [o2, o3]
  show gR (withX (withX ys ((c % 8 : Nat) : Int) ((c / 8 : Nat) : Int) false) _ _ false) = _
  rw [e1, e2, gR_two h.ok (by omega) (by omega) (by omega) (by omega), gM_snoc h1 h2, h.g, show c / 8 * 8 + c % 8 = c by omega, show oth c b / 8 * 8 + oth c b % 8 = oth c b by omega]
/-- how many tilings there are with a domino at the first cell. -/
theorem with_one {xs ys : List Int} {M : List Dm} {c : Nat} (h : FI xs ys M) (hc : c < 64) (hg : gM xs M c = true) (b : Bool) : withT ys (plc c).1 (plc c).2 b = ((one xs M c b).length : Int) := by
  by_cases hb : canB xs M c b = true
  · obtain ⟨k1, k2, k3, k4⟩ := lessD_is h hc hg hb
    rw [withT_in rfl rfl k1 k2]
    show tilesR (lessD ys c b) = _
    rw [tilesR_is k3, k4]
    unfold one cont
    rw [if_pos hb, List.length_map, LsG_length (gM_out xs _)]
  · have hno : ¬ (hasB ys (plc c).1 (plc c).2 = true ∧ hasB ys (sx (plc c).1 b) (sy (plc c).2 b) = true) := by
      rintro ⟨_, k2⟩
      apply hb
      have key : oth c b < 64 ∧ (b = false → c % 8 ≠ 7) := by
        obtain ⟨_, q0, q1, q2, q3, _⟩ := hasB_iff.1 k2
        unfold plc at q0 q1 q2 q3
        cases b
        · simp only [sx, sy, Bool.false_eq_true, if_false] at q0 q1 q2 q3
          unfold wrap64 at q0 q1
          unfold oth
          simp only [Bool.false_eq_true, if_false]
          exact ⟨by omega, fun _ => by omega⟩
        · simp only [sx, sy, if_true] at q0 q1 q2 q3
          unfold wrap64 at q2 q3
          unfold oth
          simp only [if_true]
          exact ⟨by omega, fun q => by cases q⟩
      obtain ⟨_, o2, o3⟩ := oth_ok key.1 key.2
      have o2 : sx (plc c).1 b = ((oth c b % 8 : Nat) : Int) := o2
      have o3 : sy (plc c).2 b = ((oth c b / 8 : Nat) : Int) := o3
      rw [o2, o3] at k2
      have := place_has key.1 k2
      rw [h.g] at this
      unfold canB
      rw [this, Bool.and_true]
      cases b
      · simpa using key.2 rfl
      · rfl
    rw [withT_out rfl rfl hno]
    unfold one
    rw [if_neg hb]; rfl
theorem FI.step {xs ys : List Int} {M : List Dm} {c : Nat} {b : Bool} (ho : okR xs) (h : FI xs ys M) (hc : c < 64) (hg : gM xs M c = true) (hf : ∀ i, i < c → gM xs M i = false) (hb : b = decide (withT ys (plc c).1 (plc c).2 false = 0)) :
    canB xs M c b = true ∧ FI xs (lessD ys c b) (M ++ [dmN c b]) := by
  have hs := cont_step hc hg hf
  rw [with_one h hc hg false] at hb
  have hne := h.ne
  have hd := h.hd
  rw [hs] at hne hd
  have key : canB xs M c b = true ∧ (allT xs).head? = (cont xs (M ++ [dmN c b])).head? ∧ cont xs (M ++ [dmN c b]) ≠ [] := by
    cases b with
    | false =>
      have h1 : (one xs M c false) ≠ [] := by
        intro e
        rw [e] at hb
        simp at hb
      have hcan : canB xs M c false = true := by
        by_cases q : canB xs M c false = true
        · exact q
        · exfalso; apply h1; unfold one; rw [if_neg q]
      have e : one xs M c false = cont xs (M ++ [dmN c false]) := by unfold one; rw [if_pos hcan]
      rw [e] at hd h1
      refine ⟨hcan, ?_, h1⟩
      rw [hd, List.head?_append]
      cases hh : cont xs (M ++ [dmN c false]) with
      | nil => exact absurd hh h1
      | cons a r => rfl
    | true =>
      have h0 : one xs M c false = [] := by
        have := of_decide_eq_true hb.symm
        exact List.eq_nil_of_length_eq_zero (by omega)
      rw [h0, List.nil_append] at hne hd
      have hcan : canB xs M c true = true := by
        by_cases q : canB xs M c true = true
        · exact q
        · exfalso; apply hne; unfold one; rw [if_neg q]
      have e : one xs M c true = cont xs (M ++ [dmN c true]) := by unfold one; rw [if_pos hcan]
      rw [e] at hd hne
      exact ⟨hcan, hd, hne⟩
  obtain ⟨hcan, k1, k2⟩ := key
  obtain ⟨_, _, k3, k4⟩ := lessD_is h hc hg hcan
  obtain ⟨k, hk, hbg, hz⟩ := h.beg
  have hkc : k ≤ c := by
    by_cases q : k ≤ c
    · exact q
    · have := hz c (by omega); rw [hg] at this; cases this
  obtain ⟨l1, l2, l3⟩ := can_lt hcan
  refine ⟨hcan, k3, k4, ⟨c + 1, by omega, (hbg.mono hkc).step ho hg hcan, fun i hi => ?_⟩, k1, k2⟩
  rw [gM_snoc l1 l2, Bool.eq_false_iff, Ne, Cnt.rem_iff]
  rintro ⟨b1, b2, b3⟩
  rw [hf i (by omega)] at b1; cases b1
end Go.Proofs.YtmaghekcpopepaaDoor.Lst
