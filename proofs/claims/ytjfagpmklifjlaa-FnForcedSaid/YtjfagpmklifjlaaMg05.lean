/- LisP, KuL, FlpP, FlpQ, WgT in one text. -/
import Derived.Test.YtjfagpmklifjlaaMg04
import Derived.Test.YtjfagpmklifjlaaMg03
import Derived.Test.YtjfagpmklifjlaaMg00

namespace Go.Proofs.Ytjfagpmklifjlaa.Lis
set_option linter.unusedVariables false
set_option linter.unusedSimpArgs false
open Go.RowKit Go.Proofs.Ytjfagpmklifjlaa.Pure Go.Proofs.Ytjfagpmklifjlaa.Cell Go.Proofs.Ytjfagpmklifjlaa.Dom Go.Proofs.Ytjfagpmklifjlaa.Dms Go.Proofs.Ytjfagpmklifjlaa.Til Go.Proofs.Ytjfagpmklifjlaa.Grd Go.Proofs.Ytjfagpmklifjlaa.Cnt

def dmN (k : Nat) (b : Bool) : Dm := (((k % 8 : Nat) : Int), ((k / 8 : Nat) : Int), b)
def Ls : Nat → Nat → (Nat → Bool) → List (List Dm)
  | 0, _, _ => [[]]
  | n + 1, k, g => if g k = true then (if k % 8 ≠ 7 ∧ g (k + 1) = true then (Ls n (k + 1) (rem g k (k + 1))).map (dmN k false :: ·) else []) ++ (if g (k + 8) = true then (Ls n (k + 1) (rem g k (k + 8))).map (dmN k true :: ·) else []) else Ls n (k + 1) g
theorem Ls_no {n k : Nat} {g : Nat → Bool} (h : g k = false) : Ls (n + 1) k g = Ls n (k + 1) g := by
  show (if g k = true then _ else _) = _
  rw [if_neg (by rw [h]; simp)]
theorem Ls_yes {n k : Nat} {g : Nat → Bool} (h : g k = true) : Ls (n + 1) k g = (if k % 8 ≠ 7 ∧ g (k + 1) = true then (Ls n (k + 1) (rem g k (k + 1))).map (dmN k false :: ·) else []) ++ (if g (k + 8) = true then (Ls n (k + 1) (rem g k (k + 8))).map (dmN k true :: ·) else []) := by
  show (if g k = true then _ else _) = _
  rw [if_pos h]
def Frm (k : Nat) (g : Nat → Bool) : Prop := (∀ i, i < k → g i = false) ∧ ∀ i, 64 ≤ i → g i = false
theorem Frm.step {k : Nat} {g : Nat → Bool} (h : Frm k g) (e : Nat) : Frm (k + 1) (rem g k e) := by
  refine ⟨fun i hi => ?_, fun i hi => ?_⟩ <;> rw [Bool.eq_false_iff, Ne, rem_iff] <;> rintro ⟨h1, h2, h3⟩
  · rw [h.1 i (by omega)] at h1; cases h1
  · rw [h.2 i hi] at h1; cases h1
theorem Frm.skip {k : Nat} {g : Nat → Bool} (h : Frm k g) (hk : g k = false) : Frm (k + 1) g :=
  ⟨fun i hi => by by_cases e : i = k
                  · rw [e]; exact hk
                  · exact h.1 i (by omega), h.2⟩
theorem T_step {n k : Nat} {g : Nat → Bool} (hf : Frm k g) (hk : k < 64) (h : g k = true) : T (n + 1) k g = (if k % 8 ≠ 7 ∧ g (k + 1) = true then T n (k + 1) (rem g k (k + 1)) else 0) + (if g (k + 8) = true then T n (k + 1) (rem g k (k + 8)) else 0) := by
  rw [T_yes h]
  have e : ∀ b, b < 64 → (if adj k b = true ∧ g b = true then T n (k + 1) (rem g k b) else 0) = (if adj k b = true then (if g b = true then T n (k + 1) (rem g k b) else 0) else 0) := by
    intro b _
    by_cases p : adj k b = true <;> by_cases q : g b = true <;> simp [p, q]
  rw [sm_congr e, sm_four hk (fun b => if g b = true then T n (k + 1) (rem g k b) else 0)]
  have e3 : (if k % 8 ≠ 0 then (if g (k - 1) = true then T n (k + 1) (rem g k (k - 1)) else 0) else 0) = 0 := by
    by_cases q : k % 8 ≠ 0
    · rw [if_pos q, if_neg]; rw [hf.1 (k - 1) (by omega)]; simp
    · rw [if_neg q]
  have e4 : (if 8 ≤ k then (if g (k - 8) = true then T n (k + 1) (rem g k (k - 8)) else 0) else 0) = 0 := by
    by_cases q : 8 ≤ k
    · rw [if_pos q, if_neg]; rw [hf.1 (k - 8) (by omega)]; simp
    · rw [if_neg q]
  rw [e3, e4]
  have e1 : (if k % 8 ≠ 7 then (if g (k + 1) = true then T n (k + 1) (rem g k (k + 1)) else 0) else 0) = (if k % 8 ≠ 7 ∧ g (k + 1) = true then T n (k + 1) (rem g k (k + 1)) else 0) := by
    by_cases p : k % 8 ≠ 7 <;> by_cases q : g (k + 1) = true <;> simp [p, q]
  have e2 : (if k + 8 < 64 then (if g (k + 8) = true then T n (k + 1) (rem g k (k + 8)) else 0) else 0) = (if g (k + 8) = true then T n (k + 1) (rem g k (k + 8)) else 0) := by
    by_cases p : k + 8 < 64
    · rw [if_pos p]
    · rw [if_neg p, if_neg]; rw [hf.2 (k + 8) (by omega)]; simp
  rw [e1, e2]
  omega
theorem Ls_length : ∀ (n k : Nat) (g : Nat → Bool), k + n = 64 → Frm k g → (Ls n k g).length = T n k g
  | 0, _, _, _, _ => rfl
  | n + 1, k, g, hk, hf => by
    by_cases q : g k = true
    · rw [Ls_yes q, T_step hf (by omega) q, List.length_append]
      have r1 := Ls_length n (k + 1) (rem g k (k + 1)) (by omega) (hf.step _)
      have r2 := Ls_length n (k + 1) (rem g k (k + 8)) (by omega) (hf.step _)
      congr 1
      · split
        · rw [List.length_map]; exact r1
        · rfl
      · split
        · rw [List.length_map]; exact r2
        · rfl
    · have q : g k = false := by simpa using q
      rw [Ls_no q, T_no q]
      exact Ls_length n (k + 1) g (by omega) (hf.skip q)
theorem T_bound : ∀ (n k : Nat) (g : Nat → Bool), k + n = 64 → Frm k g → T n k g ≤ 2 ^ (cnt n k g / 2)
  | 0, _, _, _, _ => by show 1 ≤ 2 ^ (0 / 2); decide
  | n + 1, k, g, hk, hf => by
    have hc : cnt (n + 1) k g = (if g k = true then 1 else 0) + cnt n (k + 1) g := rfl
    by_cases q : g k = true
    · rw [T_step hf (by omega) q]
      rw [if_pos q] at hc
      have key : ∀ e, k < e → e < 64 → g e = true → T n (k + 1) (rem g k e) ≤ 2 ^ (cnt (n + 1) k g / 2 - 1) ∧ 1 ≤ cnt (n + 1) k g / 2 := by
        intro e h1 h2 h3
        have h := cnt_rem (n := n) (k := k + 1) (a := k) (b := e) (g := g) (by omega) (by omega) (by omega) h3
        have := T_bound n (k + 1) (rem g k e) (by omega) (hf.step e)
        rw [show cnt n (k + 1) (rem g k e) / 2 = cnt (n + 1) k g / 2 - 1 by omega] at this
        exact ⟨this, by omega⟩
      have lt : ∀ e, g e = true → e < 64 := by
        intro e he
        by_cases r : e < 64
        · exact r
        · rw [hf.2 e (by omega)] at he; cases he
      by_cases a : k % 8 ≠ 7 ∧ g (k + 1) = true
      · have ka := key (k + 1) (by omega) (lt _ a.2) a.2
        have hp : 2 ^ (cnt (n + 1) k g / 2) = 2 ^ (cnt (n + 1) k g / 2 - 1) + 2 ^ (cnt (n + 1) k g / 2 - 1) := by
          conv => lhs; rw [show cnt (n + 1) k g / 2 = (cnt (n + 1) k g / 2 - 1) + 1 by omega, Nat.pow_succ]
          omega
        rw [if_pos a]
        by_cases b : g (k + 8) = true
        · have kb := key (k + 8) (by omega) (lt _ b) b
          rw [if_pos b]; omega
        · rw [if_neg b]; omega
      · rw [if_neg a]
        by_cases b : g (k + 8) = true
        · have kb := key (k + 8) (by omega) (lt _ b) b
          have hp : 2 ^ (cnt (n + 1) k g / 2) = 2 ^ (cnt (n + 1) k g / 2 - 1) + 2 ^ (cnt (n + 1) k g / 2 - 1) := by
            conv => lhs; rw [show cnt (n + 1) k g / 2 = (cnt (n + 1) k g / 2 - 1) + 1 by omega, Nat.pow_succ]
            omega
          rw [if_pos b]; omega
        · rw [if_neg b]; exact Nat.zero_le _
    · have q : g k = false := by simpa using q
      rw [T_no q]
      have := T_bound n (k + 1) g (by omega) (hf.skip q)
      rw [if_neg (by rw [q]; simp)] at hc
      rw [hc, Nat.zero_add]; exact this
theorem cnt_le : ∀ (n k : Nat) (g : Nat → Bool), cnt n k g ≤ n
  | 0, _, _ => Nat.le_refl _
  | n + 1, k, g => by
    show (if g k = true then 1 else 0) + cnt n (k + 1) g ≤ n + 1
    have := cnt_le n (k + 1) g
    split <;> omega
theorem frm_zero (xs : List Int) : Frm 0 (gR xs) := ⟨fun i hi => by omega, gR_out xs⟩
theorem tiles_small {g : Nat → Bool} (h : ∀ i, 64 ≤ i → g i = false) : tiles g ≤ 4294967296 := by
  have h1 := T_bound 64 0 g rfl ⟨fun i hi => by omega, h⟩
  have h2 := cnt_le 64 0 g
  have h3 : 2 ^ (cnt 64 0 g / 2) ≤ 2 ^ 32 := Nat.pow_le_pow_right (by omega) (by omega)
  exact Nat.le_trans h1 (Nat.le_trans h3 (by decide))
theorem tilesR_is {xs : List Int} (h : okR xs) : tilesR xs = (tiles (gR xs) : Int) := by
  rw [tilesR_ok h]
  have := tiles_small (gR_out xs)
  unfold wrap64
  omega
def LsG (g : Nat → Bool) : List (List Dm) := Ls 64 0 g
theorem Ls_skip : ∀ (m n k : Nat) (g : Nat → Bool), (∀ i, k ≤ i → i < k + m → g i = false) → Ls (n + m) k g = Ls n (k + m) g
  | 0, _, _, _, _ => rfl
  | m + 1, n, k, g, h => by
    rw [show n + (m + 1) = (n + m) + 1 by omega, Ls_no (h k (by omega) (by omega)), Ls_skip m n (k + 1) g (fun i h1 h2 => h i (by omega) (by omega)), show k + 1 + m = k + (m + 1) by omega]
theorem LsG_from {g : Nat → Bool} {k : Nat} (h : ∀ i, i < k → g i = false) (hk : k ≤ 64) : LsG g = Ls (64 - k) k g := by
  unfold LsG
  have := Ls_skip k (64 - k) 0 g (fun i _ hi => h i (by omega))
  rw [show 64 - k + k = 64 by omega, Nat.zero_add] at this
  exact this
theorem LsG_none {g : Nat → Bool} (h : ∀ i, i < 64 → g i = false) : LsG g = [[]] := by
  rw [LsG_from h (Nat.le_refl _)]; rfl
theorem LsG_first {g : Nat → Bool} {c : Nat} (h : ∀ i, i < c → g i = false) (hc : c < 64) (hg : g c = true) :
    LsG g = (if c % 8 ≠ 7 ∧ g (c + 1) = true then (LsG (rem g c (c + 1))).map (dmN c false :: ·) else []) ++ (if g (c + 8) = true then (LsG (rem g c (c + 8))).map (dmN c true :: ·) else []) := by
  have hr : ∀ e i, i < c + 1 → rem g c e i = false := by
    intro e i hi
    rw [Bool.eq_false_iff, Ne, rem_iff]
    rintro ⟨h1, h2, h3⟩
    rw [h i (by omega)] at h1; cases h1
  rw [LsG_from h (by omega), LsG_from (hr (c + 1)) (by omega), LsG_from (hr (c + 8)) (by omega), show 64 - c = (64 - (c + 1)) + 1 by omega, Ls_yes hg]
theorem LsG_length {g : Nat → Bool} (h : ∀ i, 64 ≤ i → g i = false) : (LsG g).length = tiles g := Ls_length 64 0 g rfl ⟨fun i hi => by omega, h⟩

def Bfr : List Dm → List Dm → Prop
  | a :: A, b :: B => (a = b ∧ Bfr A B) ∨ (a.2.2 = false ∧ b.2.2 = true)
  | _, _ => False
theorem Bfr.cons {d : Dm} {A B : List Dm} (h : Bfr A B) : Bfr (d :: A) (d :: B) := .inl ⟨rfl, h⟩
theorem Bfr.at {A : List Dm} : ∀ {B : List Dm}, Bfr A B → ∃ i, ∃ (h1 : i < A.length) (h2 : i < B.length), (∀ j (h : j < i), A[j] = B[j]) ∧ A[i].2.2 = false ∧ B[i].2.2 = true := by
  induction A with
  | nil => intro B h; exact h.elim
  | cons a A ih =>
    intro B h
    cases B with
    | nil => exact h.elim
    | cons b B =>
      rcases h with ⟨rfl, h⟩ | h
      · obtain ⟨i, h1, h2, h3, h4⟩ := ih h
        refine ⟨i + 1, by simp; omega, by simp; omega, fun j hj => ?_, by simpa using h4⟩
        cases j with
        | zero => rfl
        | succ j => simpa using h3 j (by omega)
      · exact ⟨0, by simp, by simp, fun j hj => by omega, h⟩
theorem Bfr.ne {A B : List Dm} (h : Bfr A B) : A ≠ B := by
  obtain ⟨i, h1, h2, _, h4, h5⟩ := h.at
  rintro rfl
  rw [h4] at h5; cases h5
theorem Ls_order : ∀ (n k : Nat) (g : Nat → Bool), (Ls n k g).Pairwise Bfr
  | 0, _, _ => by unfold Ls; simp
  | n + 1, k, g => by
    by_cases q : g k = true
    · rw [Ls_yes q, List.pairwise_append]
      have key : ∀ (e : Nat) (b : Bool), ((Ls n (k + 1) (rem g k e)).map (dmN k b :: ·)).Pairwise Bfr := by
        intro e b
        rw [List.pairwise_map]
        exact (Ls_order n (k + 1) (rem g k e)).imp Bfr.cons
      refine ⟨?_, ?_, fun a ha b hb => ?_⟩
      · split
        · exact key _ _
        · exact List.Pairwise.nil
      · split
        · exact key _ _
        · exact List.Pairwise.nil
      · have ha' : ∃ A, a = dmN k false :: A := by
          split at ha
          · obtain ⟨A, _, e⟩ := List.mem_map.1 ha; exact ⟨A, e.symm⟩
          · cases ha
        have hb' : ∃ B, b = dmN k true :: B := by
          split at hb
          · obtain ⟨B, _, e⟩ := List.mem_map.1 hb; exact ⟨B, e.symm⟩
          · cases hb
        obtain ⟨A, rfl⟩ := ha'
        obtain ⟨B, rfl⟩ := hb'
        exact .inr ⟨rfl, rfl⟩
    · rw [Ls_no (by simpa using q)]
      exact Ls_order n (k + 1) g
theorem LsG_order (g : Nat → Bool) : (LsG g).Pairwise Bfr := Ls_order 64 0 g
theorem sx_dm {k : Nat} {b : Bool} (hk : k < 64) (h : b = false → k % 8 ≠ 7) : sx ((k % 8 : Nat) : Int) b = (((if b then k + 8 else k + 1) % 8 : Nat) : Int) ∧ (k + 8 < 128 → sy ((k / 8 : Nat) : Int) b = (((if b then k + 8 else k + 1) / 8 : Nat) : Int)) := by
  cases b
  · have := h rfl
    simp only [sx, sy, Bool.false_eq_true, if_false]
    unfold wrap64
    exact ⟨by omega, fun _ => by omega⟩
  · simp only [sx, sy, if_true]
    unfold wrap64
    exact ⟨by omega, fun _ => by omega⟩
def gM (xs : List Int) (M : List Dm) : Nat → Bool := fun j => gR xs j && !anyM M ((j % 8 : Nat) : Int) ((j / 8 : Nat) : Int)
theorem gM_nil (xs : List Int) : gM xs [] = gR xs := by funext j; unfold gM anyM; simp
theorem gM_iff {xs : List Int} {M : List Dm} {j : Nat} : gM xs M j = true ↔ gR xs j = true ∧ anyM M ((j % 8 : Nat) : Int) ((j / 8 : Nat) : Int) = false := by unfold gM; simp
theorem gM_out (xs : List Int) (M : List Dm) : ∀ j, 64 ≤ j → gM xs M j = false := fun j h => by unfold gM; rw [gR_out xs j h]; rfl
def oth (k : Nat) (b : Bool) : Nat := if b then k + 8 else k + 1
theorem oth_ok {k : Nat} {b : Bool} (hk : oth k b < 64) (h : b = false → k % 8 ≠ 7) : okM (dmN k b) = true ∧ sx (dmN k b).1 b = ((oth k b % 8 : Nat) : Int) ∧ sy (dmN k b).2.1 b = ((oth k b / 8 : Nat) : Int) := by
  have hk' : k < 64 := by unfold oth at hk; split at hk <;> omega
  obtain ⟨e1, e2⟩ := sx_dm hk' h
  have e2 := e2 (by omega)
  refine ⟨?_, e1, e2⟩
  unfold okM domB dmN
  simp only
  rw [e1, e2]
  have : okB ((k % 8 : Nat) : Int) ((k / 8 : Nat) : Int) = true := by rw [okB_iff]; unfold Ok; omega
  rw [this]
  have : okB (((if b = true then k + 8 else k + 1) % 8 : Nat) : Int) (((if b = true then k + 8 else k + 1) / 8 : Nat) : Int) = true := by
    unfold oth at hk
    rw [okB_iff]; unfold Ok; omega
  rw [this]; rfl
theorem cov_dm {k : Nat} {b : Bool} (hk : oth k b < 64) (h : b = false → k % 8 ≠ 7) (j : Nat) : covM (dmN k b) ((j % 8 : Nat) : Int) ((j / 8 : Nat) : Int) = (decide (j = k) || decide (j = oth k b)) := by
  obtain ⟨h1, h2, h3⟩ := oth_ok hk h
  unfold covM covP
  rw [h1, Bool.true_and, Bool.eq_iff_iff]
  simp only [Bool.or_eq_true, eqB_iff, decide_eq_true_eq]
  show (_ ∧ _) ∨ (_ = sx (dmN k b).1 b ∧ _ = sy (dmN k b).2.1 b) ↔ _
  rw [h2, h3]
  show (((j % 8 : Nat) : Int) = ((k % 8 : Nat) : Int) ∧ ((j / 8 : Nat) : Int) = ((k / 8 : Nat) : Int)) ∨ _ ↔ _
  constructor
  · rintro (⟨a, b⟩ | ⟨a, b⟩)
    · left; omega
    · right; omega
  · rintro (a | a)
    · left; subst a; exact ⟨rfl, rfl⟩
    · right; subst a; exact ⟨rfl, rfl⟩
theorem gM_snoc {xs : List Int} {M : List Dm} {k : Nat} {b : Bool} (hk : oth k b < 64) (h : b = false → k % 8 ≠ 7) : gM xs (M ++ [dmN k b]) = rem (gM xs M) k (oth k b) := by
  funext j
  rw [Bool.eq_iff_iff, rem_iff, gM_iff, gM_iff, anyM_snoc, cov_dm hk h, Bool.or_eq_false_iff, Bool.or_eq_false_iff]
  simp only [decide_eq_false_iff_not]
  constructor
  · rintro ⟨a, b, c, d⟩; exact ⟨⟨a, b⟩, c, d⟩
  · rintro ⟨⟨a, b⟩, c, d⟩; exact ⟨a, b, c, d⟩
theorem unc_cells {xs : List Int} (ho : okR xs) (M : List Dm) : unc M (cellsR xs) = ((List.range 64).filter (gM xs M)).map fun j => (((j % 8 : Nat) : Int), ((j / 8 : Nat) : Int)) := by
  rw [cellsR_ok ho, idxs_cells]
  unfold unc idxs
  rw [List.filter_map, List.filter_filter]
  congr 1
  refine List.filter_congr (fun j _ => ?_)
  rw [Bool.and_comm]; rfl
theorem unc_first {xs : List Int} (ho : okR xs) {M : List Dm} {j : Nat} (hk : 0 < (unc M (cellsR xs)).length) : ∃ c, c < 64 ∧ gM xs M c = true ∧ (∀ i, i < c → gM xs M i = false) ∧ (unc M (cellsR xs))[0] = (((c % 8 : Nat) : Int), ((c / 8 : Nat) : Int)) := by
  have e := unc_cells ho M
  have hp : 0 < ((List.range 64).filter (gM xs M)).length := by rw [e, List.length_map] at hk; exact hk
  refine ⟨((List.range 64).filter (gM xs M))[0], ?_, ?_, ?_, ?_⟩
  · exact List.mem_range.1 (List.mem_filter.1 (List.getElem_mem hp)).1
  · exact (List.mem_filter.1 (List.getElem_mem hp)).2
  · intro i hi
    by_cases q : gM xs M i = true
    · have h64 : i < 64 := by
        by_cases r : i < 64
        · exact r
        · rw [gM_out xs M i (by omega)] at q; cases q
      obtain ⟨m, hm, e2⟩ := List.getElem_of_mem (List.mem_filter.2 ⟨List.mem_range.2 h64, q⟩ : i ∈ (List.range 64).filter (gM xs M))
      have hpw : ((List.range 64).filter (gM xs M)).Pairwise (· < ·) := List.Pairwise.filter _ List.pairwise_lt_range
      by_cases m0 : m = 0
      · subst m0; omega
      · have := List.pairwise_iff_getElem.1 hpw 0 m hp hm (by omega)
        omega
    · simpa using q
  · have : (unc M (cellsR xs))[0]? = some (((((List.range 64).filter (gM xs M))[0] % 8 : Nat) : Int), ((((List.range 64).filter (gM xs M))[0] / 8 : Nat) : Int)) := by
      rw [e, List.getElem?_map, List.getElem?_eq_getElem hp]; rfl
    rw [List.getElem?_eq_getElem hk] at this
    exact Option.some.inj this
theorem unc_none {xs : List Int} (ho : okR xs) {M : List Dm} (hk : (unc M (cellsR xs)).length = 0) : ∀ i, i < 64 → gM xs M i = false := by
  intro i hi
  rw [unc_cells ho, List.length_map] at hk
  have h := List.filter_eq_nil_iff.1 (List.eq_nil_of_length_eq_zero hk) i (List.mem_range.2 hi)
  simpa using h
def cont (xs : List Int) (M : List Dm) : List (List Dm) := (LsG (gM xs M)).map (M ++ ·)
theorem cont_nil (xs : List Int) : cont xs [] = LsG (gR xs) := by unfold cont; rw [gM_nil]; simp
theorem cont_done {xs : List Int} (ho : okR xs) {M : List Dm} (hk : (unc M (cellsR xs)).length = 0) : cont xs M = [M] := by
  unfold cont; rw [LsG_none (unc_none ho hk)]; simp
def canB (xs : List Int) (M : List Dm) (c : Nat) (b : Bool) : Bool := (b || decide (c % 8 ≠ 7)) && gM xs M (oth c b)
theorem can_lt {xs : List Int} {M : List Dm} {c : Nat} {b : Bool} (h : canB xs M c b = true) : oth c b < 64 ∧ (b = false → c % 8 ≠ 7) ∧ gM xs M (oth c b) = true := by
  unfold canB at h
  rw [Bool.and_eq_true, Bool.or_eq_true, decide_eq_true_eq] at h
  refine ⟨?_, fun hb => ?_, h.2⟩
  · by_cases r : oth c b < 64
    · exact r
    · rw [gM_out xs M _ (by omega)] at h; cases h.2
  · rcases h.1 with q | q
    · rw [hb] at q; cases q
    · exact q
def one (xs : List Int) (M : List Dm) (c : Nat) (b : Bool) : List (List Dm) := if canB xs M c b = true then cont xs (M ++ [dmN c b]) else []
theorem cont_step {xs : List Int} {M : List Dm} {c : Nat} (hc : c < 64) (hg : gM xs M c = true) (h : ∀ i, i < c → gM xs M i = false) : cont xs M = one xs M c false ++ one xs M c true := by
  have key : ∀ b, canB xs M c b = true → cont xs (M ++ [dmN c b]) = (LsG (rem (gM xs M) c (oth c b))).map (fun L => M ++ dmN c b :: L) := by
    intro b hb
    obtain ⟨h1, h2, h3⟩ := can_lt hb
    unfold cont
    rw [gM_snoc h1 h2]
    refine List.map_congr_left (fun L _ => ?_)
    simp
  unfold cont
  rw [LsG_first h hc hg, List.map_append]
  congr 1
  · unfold one
    have e : (c % 8 ≠ 7 ∧ gM xs M (c + 1) = true) ↔ canB xs M c false = true := by unfold canB oth; simp
    by_cases q : canB xs M c false = true
    · rw [if_pos (e.2 q), if_pos q, key false q, List.map_map]; rfl
    · rw [if_neg (fun h => q (e.1 h)), if_neg q]; rfl
  · unfold one
    have e : (gM xs M (c + 8) = true) ↔ canB xs M c true = true := by unfold canB oth; simp
    by_cases q : canB xs M c true = true
    · rw [if_pos (e.2 q), if_pos q, key true q, List.map_map]; rfl
    · rw [if_neg (fun h => q (e.1 h)), if_neg q]; rfl
def Beg (xs : List Int) (k : Nat) (M : List Dm) : Prop := (∀ j, j < M.length → stpAt xs M j = true) ∧ ∀ d ∈ M, d.2.1 * 8 + d.1 < (k : Int)
theorem Beg.zero (xs : List Int) : Beg xs 0 [] := ⟨fun j hj => by simp at hj, fun d hd => by simp at hd⟩
theorem Beg.mono {xs : List Int} {k k' : Nat} {M : List Dm} (h : Beg xs k M) (hk : k ≤ k') : Beg xs k' M := ⟨h.1, fun d hd => by have := h.2 d hd; omega⟩
theorem has_place {xs : List Int} (ho : okR xs) {j : Nat} (h : gR xs j = true) : hasB xs ((j % 8 : Nat) : Int) ((j / 8 : Nat) : Int) = true := by
  have h64 : j < 64 := by
    by_cases r : j < 64
    · exact r
    · rw [gR_out xs j (by omega)] at h; cases h
  rw [gR_in h64] at h
  rw [hasB_iff]
  refine ⟨ho, by omega, by omega, by omega, by omega, ?_⟩
  rw [show ((j / 8 : Nat) : Int).toNat = j / 8 from Int.toNat_natCast _, show ((j % 8 : Nat) : Int).toNat = j % 8 from Int.toNat_natCast _]
  exact h
theorem place_has {xs : List Int} {j : Nat} (hj : j < 64) (h : hasB xs ((j % 8 : Nat) : Int) ((j / 8 : Nat) : Int) = true) : gR xs j = true := by
  rw [hasB_iff] at h
  obtain ⟨_, _, _, _, _, h⟩ := h
  rw [show ((j / 8 : Nat) : Int).toNat = j / 8 from Int.toNat_natCast _, show ((j % 8 : Nat) : Int).toNat = j % 8 from Int.toNat_natCast _] at h
  rw [gR_in hj]; exact h
theorem Beg.step {xs : List Int} (ho : okR xs) {k : Nat} {M : List Dm} (h : Beg xs k M) {b : Bool} (hg : gM xs M k = true) (hc : canB xs M k b = true) : Beg xs (k + 1) (M ++ [dmN k b]) := by
  obtain ⟨h1, h2, h3⟩ := can_lt hc
  obtain ⟨o1, o2, o3⟩ := oth_ok h1 h2
  rw [gM_iff] at hg h3
  have hstep : stepB xs M (dmN k b) = true := by
    unfold stepB
    rw [show (dmN k b).2.2 = b from rfl, o2, o3, has_place ho h3.1, h3.2]
    show (_ && ((hasB xs ((k % 8 : Nat) : Int) ((k / 8 : Nat) : Int) && !anyM M ((k % 8 : Nat) : Int) ((k / 8 : Nat) : Int)) && _)) = true
    rw [has_place ho hg.1, hg.2]
    cases hl : M.getLast? with
    | none => rfl
    | some p =>
      have hp : p ∈ M := List.mem_of_getLast? hl
      have hpo : okM p = true := by
        obtain ⟨j, hj, e⟩ := List.getElem_of_mem hp
        have := h.1 j hj
        rw [stpAt_of hj, e] at this
        exact stepB_ok this
      have hpk := h.2 p hp
      have hb : befM p (dmN k b) = true := by
        rw [befM_iff]
        refine ⟨hpo, o1, .inl ?_⟩
        show p.2.1 * 8 + p.1 < ((k / 8 : Nat) : Int) * 8 + ((k % 8 : Nat) : Int)
        omega
      simp [hb]
  refine ⟨fun j hj => ?_, fun d hd => ?_⟩
  · rw [List.length_append, List.length_singleton] at hj
    by_cases e : j < M.length
    · rw [stp_app e]; exact h.1 j e
    · have : j = M.length := by omega
      subst this
      rw [stp_last]; exact hstep
  · rcases List.mem_append.1 hd with hd | hd
    · have := h.2 d hd; omega
    · rw [List.mem_singleton] at hd
      subst hd
      show ((k / 8 : Nat) : Int) * 8 + ((k % 8 : Nat) : Int) < ((k + 1 : Nat) : Int)
      omega
theorem Ls_til {xs : List Int} (ho : okR xs) : ∀ (n k : Nat) (M : List Dm), k + n = 64 → Beg xs k M → (∀ i, i < k → gM xs M i = false) → ∀ L ∈ Ls n k (gM xs M), tilB xs (M ++ L) = true
  | 0, k, M, hk, hb, h0, L, hL => by
    have : L = [] := by unfold Ls at hL; simpa using hL
    subst this
    rw [List.append_nil]
    have hp : partB xs M = true := part_yes (okRB_of ho) hb.1
    unfold tilB
    rw [hp, Bool.true_and, decide_eq_true_eq, unc_cells ho, List.length_map]
    have : (List.range 64).filter (gM xs M) = [] := List.filter_eq_nil_iff.2 (fun i hi => by rw [h0 i (by have := List.mem_range.1 hi; omega)]; simp)
    rw [this]; rfl
  | n + 1, k, M, hk, hb, h0, L, hL => by
    by_cases q : gM xs M k = true
    · have key : ∀ b, canB xs M k b = true → ∀ L' ∈ Ls n (k + 1) (rem (gM xs M) k (oth k b)), tilB xs (M ++ dmN k b :: L') = true := by
        intro b hc L' hL'
        obtain ⟨h1, h2, h3⟩ := can_lt hc
        rw [← gM_snoc h1 h2] at hL'
        have := Ls_til ho n (k + 1) (M ++ [dmN k b]) (by omega) (hb.step ho q hc) (fun i hi => by
          rw [gM_snoc h1 h2, Bool.eq_false_iff, Ne, rem_iff]
          rintro ⟨a1, a2, a3⟩
          rw [h0 i (by omega)] at a1; cases a1) L' hL'
        simpa using this
      rw [Ls_yes q] at hL
      rcases List.mem_append.1 hL with hL | hL
      · split at hL
        · rename_i a
          obtain ⟨L', hL', rfl⟩ := List.mem_map.1 hL
          exact key false (by unfold canB oth; simp [a.1, a.2]) L' hL'
        · cases hL
      · split at hL
        · rename_i a
          obtain ⟨L', hL', rfl⟩ := List.mem_map.1 hL
          exact key true (by unfold canB oth; simp [a]) L' hL'
        · cases hL
    · have q : gM xs M k = false := by simpa using q
      rw [Ls_no q] at hL
      exact Ls_til ho n (k + 1) M (by omega) (hb.mono (by omega)) (fun i hi => by
        by_cases e : i = k
        · rw [e]; exact q
        · exact h0 i (by omega)) L hL
def allT (xs : List Int) : List (List Dm) := LsG (gR xs)
theorem all_til {xs : List Int} (ho : okR xs) : ∀ L ∈ allT xs, tilB xs L = true := by
  intro L hL
  have := Ls_til ho 64 0 [] rfl (Beg.zero xs) (fun i hi => by omega) L (by rw [gM_nil]; exact hL)
  simpa using this
theorem all_length {xs : List Int} (ho : okR xs) : ((allT xs).length : Int) = tilesR xs := by
  rw [tilesR_is ho]; unfold allT; rw [LsG_length (gR_out xs)]
theorem til_half {xs : List Int} {L : List Dm} (h : tilB xs L = true) : L.length = (cellsR xs).length / 2 := by
  have hp : partB xs L = true := by unfold tilB at h; rw [Bool.and_eq_true] at h; exact h.1
  have := tilB_count hp
  rw [h] at this
  have := of_decide_eq_true this.symm
  omega
theorem all_half {xs : List Int} (ho : okR xs) : ∀ L ∈ allT xs, L.length = (cellsR xs).length / 2 := fun L hL => til_half (all_til ho L hL)
theorem all_order (xs : List Int) : (allT xs).Pairwise Bfr := LsG_order _
theorem take_two {α : Type} (X Y : List α) (m : Nat) : (X ++ Y).take m = X.take m ++ Y.take (m - X.length) := List.take_append
end Go.Proofs.Ytjfagpmklifjlaa.Lis

namespace Go.Proofs.Ytjfagpmklifjlaa.KuL
set_option linter.unusedVariables false
set_option linter.unusedSimpArgs false
open Go.RowKit Go.Proofs.Ytjfagpmklifjlaa.Pure Go.Proofs.Ytjfagpmklifjlaa.Cell Go.Proofs.Ytjfagpmklifjlaa.Dom Go.Proofs.Ytjfagpmklifjlaa.Dms Go.Proofs.Ytjfagpmklifjlaa.Til Go.Proofs.Ytjfagpmklifjlaa.Grd Go.Proofs.Ytjfagpmklifjlaa.Cnt Go.Proofs.Ytjfagpmklifjlaa.Lis Go.Proofs.Ytjfagpmklifjlaa.Kun

theorem ok_dm {d : Dm} (h : okM d = true) : ∃ k b, d = dmN k b ∧ oth k b < 64 ∧ (b = false → k % 8 ≠ 7) := by
 have hi := okM_in h
 obtain ⟨x, y, b⟩ := d
 unfold okM domB at h
 rw [Bool.and_eq_true, okB_iff, okB_iff] at h
 obtain ⟨_, h⟩ := h
 simp only at hi h
 unfold Ok at h
 refine ⟨(y * 8 + x).toNat, b, ?_, ?_, ?_⟩
 ·unfold dmN
  refine Prod.ext ?_ (Prod.ext ?_ rfl)
  ·show x = (((y * 8 + x).toNat % 8 : Nat) : Int)
   omega
  ·show y = (((y * 8 + x).toNat / 8 : Nat) : Int)
   omega
 ·cases b <;> simp only [sx, sy, oth, Bool.false_eq_true, if_false, if_true] at h ⊢ <;> unfold wrap64 at h <;> omega
 ·intro e; subst e
  simp only [sx, sy, Bool.false_eq_true, if_false] at h
  unfold wrap64 at h
  omega
theorem oth_gt (k : Nat) (b : Bool) : k < oth k b := by unfold oth; split <;> omega
theorem step_places {xs : List Int} {M : List Dm} {k : Nat} {b : Bool} (h1 : oth k b < 64) (h2 : b = false → k % 8 ≠ 7) (hs : stepB xs M (dmN k b) = true) : gM xs M k = true ∧ gM xs M (oth k b) = true := by
 obtain ⟨o1, o2, o3⟩ := oth_ok h1 h2
 have hk : k < 64 := by have := oth_gt k b; omega
 unfold stepB at hs
 rw [show (dmN k b).2.2 = b from rfl, o2, o3] at hs
 simp only [Bool.and_eq_true, Bool.not_eq_true'] at hs
 obtain ⟨_, ⟨a1, a2⟩, a3, a4⟩ := hs
 rw [gM_iff, gM_iff]
 exact ⟨⟨place_has hk a1, a2⟩, place_has h1 a3, a4⟩
theorem g64 {xs : List Int} {M : List Dm} {j : Nat} (h : gM xs M j = true) : j < 64 := by
 by_cases r : j < 64
 ·exact r
 ·rw [gM_out xs M j (by omega)] at h; cases h
theorem inc_nodup {M : List Dm} (h : Inc M) : M.Nodup := List.Pairwise.imp (fun {a b} q e => by subst e; rw [befM_irrefl] at q; cases q) h
theorem til_mem {xs : List Int} (ho : okR xs) {L : List Dm} (hp : partB xs L = true) (hz : ∀ i, i < 64 → gM xs L i = false) : ∀ (n k : Nat) (M R : List Dm), k + n = 64 → L = M ++ R → (∀ i, i < k → gM xs M i = false) → R ∈ Ls n k (gM xs M)
 | 0, k, M, R, hk, hL, h0 => by
  cases R with
  | nil => unfold Ls; simp
  | cons d R =>
   obtain ⟨_, h⟩ := part_iff.1 hp
   have hs := h M.length (by rw [hL]; simp)
   rw [hL, show M ++ d :: R = (M ++ [d]) ++ R by simp, stp_app (by simp), stp_last] at hs
   obtain ⟨c, b, rfl, h1, h2⟩ := ok_dm (stepB_ok hs)
   have := (step_places h1 h2 hs).1
   have c64 := g64 this
   rw [h0 c (by omega)] at this
   cases this
 | n + 1, k, M, R, hk, hL, h0 => by
  cases hg : gM xs M k with
  | false =>
   rw [Ls_no hg]
   refine til_mem ho hp hz n (k + 1) M R (by omega) hL fun i hi => ?_
   by_cases e : i = k
   ·rw [e]; exact hg
   ·exact h0 i (by omega)
  | true =>
   cases R with
   | nil =>
    rw [List.append_nil] at hL
    rw [← hL, hz k (by omega)] at hg
    cases hg
   | cons d R =>
    obtain ⟨_, h⟩ := part_iff.1 hp
    have hs := h M.length (by rw [hL]; simp)
    rw [hL, show M ++ d :: R = (M ++ [d]) ++ R by simp, stp_app (by simp), stp_last] at hs
    have hI : Inc (d :: R) := by
     have := part_inc hp
     rw [hL] at this
     exact (List.pairwise_append.1 this).2.1
    obtain ⟨c, b, rfl, h1, h2⟩ := ok_dm (stepB_ok hs)
    obtain ⟨gc, go⟩ := step_places h1 h2 hs
    have hck : k ≤ c := by
     by_cases q : k ≤ c
     ·exact q
     ·rw [h0 c (by omega)] at gc; cases gc
    have hkc : c = k := by
     by_cases q : c = k
     ·exact q
     ·exfalso
      have hcov : anyM L ((k % 8 : Nat) : Int) ((k / 8 : Nat) : Int) = true := by
       have z := hz k (by omega)
       have gk := (gM_iff.1 hg).1
       unfold gM at z
       rw [gk] at z
       simpa using z
      have hnM := (gM_iff.1 hg).2
      rw [hL] at hcov
      unfold anyM at hcov hnM
      rw [List.any_append, hnM, Bool.false_or, List.any_eq_true] at hcov
      obtain ⟨e, he, hc⟩ := hcov
      have hoe : okM e = true := by unfold covM at hc; rw [Bool.and_eq_true] at hc; exact hc.1
      obtain ⟨c', b', rfl, q1, q2⟩ := ok_dm hoe
      have hle : c ≤ c' := by
       rcases List.mem_cons.1 he with e1 | e1
       ·have e2 := congrArg Prod.fst e1
        have e3 := congrArg (fun p : Dm => p.2.1) e1
        unfold dmN at e2 e3
        simp only at e2 e3
        omega
       ·have hb := (List.pairwise_cons.1 hI).1 _ e1
        rw [befM_iff] at hb
        obtain ⟨_, _, hb⟩ := hb
        unfold dmN at hb
        simp only at hb
        omega
      rw [cov_dm q1 q2, Bool.or_eq_true, decide_eq_true_eq, decide_eq_true_eq] at hc
      have := oth_gt c' b'
      omega
    subst hkc
    have ih := til_mem ho hp hz n (c + 1) (M ++ [dmN c b]) R (by omega) (by rw [hL]; simp) fun i hi => by
     rw [gM_snoc h1 h2]
     apply Kun.not_true
     rw [rem_iff]
     rintro ⟨a, e, _⟩
     rw [h0 i (by omega)] at a
     cases a
    rw [gM_snoc h1 h2] at ih
    rw [Ls_yes hg, List.mem_append]
    cases b with
    | false =>
     left
     rw [if_pos ⟨h2 rfl, go⟩, List.mem_map]
     exact ⟨R, ih, rfl⟩
    | true =>
     right
     rw [if_pos (show gM xs M (c + 8) = true from go), List.mem_map]
     exact ⟨R, ih, rfl⟩
theorem til_all {xs : List Int} (ho : okR xs) {L : List Dm} (h : tilB xs L = true) : L ∈ allT xs := by
 unfold tilB at h
 rw [Bool.and_eq_true] at h
 have := til_mem ho h.1 (unc_none ho (of_decide_eq_true h.2)) 64 0 [] L rfl rfl fun i hi => by omega
 rw [gM_nil] at this
 exact this
theorem mn_le {a b : Int} (h : a ≤ b) : mn a b = a := if_neg (by omega)
theorem mn_ge {a b : Int} (h : b ≤ a) : mn a b = b := by unfold mn; split <;> omega
end Go.Proofs.Ytjfagpmklifjlaa.KuL

namespace Go.Proofs.Ytjfagpmklifjlaa.Flp
set_option linter.unusedVariables false
set_option linter.unusedSimpArgs false
open Go.RowKit Go.Proofs.Ytjfagpmklifjlaa.Pure Go.Proofs.Ytjfagpmklifjlaa.Cell Go.Proofs.Ytjfagpmklifjlaa.Dom Go.Proofs.Ytjfagpmklifjlaa.Dms Go.Proofs.Ytjfagpmklifjlaa.Til Go.Proofs.Ytjfagpmklifjlaa.Grd Go.Joins
open Go.Proofs.Ytjfagpmklifjlaa.KuL (inc_nodup)

def pr2 (x y : Int) (b : Bool) : Dm := if b then (x + 1, y, true) else (x, y + 1, false)
def Dj (L : List Dm) : Prop := ∀ d ∈ L, ∀ e ∈ L, ∀ x y, covM d x y = true → covM e x y = true → d = e
theorem cov_two {d : Dm} {x y : Int} (h : covM d x y = true) : okM d = true ∧ ((x = d.1 ∧ y = d.2.1) ∨ (x = sx d.1 d.2.2 ∧ y = sy d.2.1 d.2.2)) := by
 unfold covM covP at h
 rw [Bool.and_eq_true, Bool.or_eq_true, eqB_iff, eqB_iff] at h
 exact h
theorem cov_of {d : Dm} {x y : Int} (h0 : okM d = true) (h : (x = d.1 ∧ y = d.2.1) ∨ (x = sx d.1 d.2.2 ∧ y = sy d.2.1 d.2.2)) : covM d x y = true := by
 unfold covM covP
 rw [Bool.and_eq_true, Bool.or_eq_true, eqB_iff, eqB_iff]
 exact ⟨h0, h⟩
theorem part_dj {xs : List Int} {L : List Dm} (h : partB xs L = true) : Dj L := by
 have key : ∀ k (hk : k < L.length) x y, covM L[k] x y = true → atI L x y = (k : Int) := fun k hk x y hc => by
  obtain ⟨h1, h2⟩ := part_at h hk
  rcases (cov_two hc).2 with ⟨rfl, rfl⟩ | ⟨rfl, rfl⟩
  ·exact h1
  ·exact h2
 intro d hd e he x y hc1 hc2
 obtain ⟨i, hi, rfl⟩ := List.getElem_of_mem hd
 obtain ⟨j, hj, rfl⟩ := List.getElem_of_mem he
 have h1 := key i hi x y hc1
 have h2 := key j hj x y hc2
 have : i = j := by omega
 subst this; rfl
theorem part_in {xs : List Int} {L : List Dm} (h : partB xs L = true) {d : Dm} (hd : d ∈ L) {x y : Int} (hc : covM d x y = true) : hasB xs x y = true := by
 obtain ⟨k, hk, rfl⟩ := List.getElem_of_mem hd
 have hs := (part_iff.1 h).2 k hk
 rw [stpAt_of hk] at hs
 unfold stepB at hs
 simp only [Bool.and_eq_true] at hs
 obtain ⟨_, ⟨h1, _⟩, h2, _⟩ := hs
 rcases (cov_two hc).2 with ⟨rfl, rfl⟩ | ⟨rfl, rfl⟩
 ·exact h1
 ·exact h2
theorem part_of {xs : List Int} {M : List Dm} (ho : okRB xs = true) (hi : Inc M) (hv : ∀ d ∈ M, okM d = true) (hin : ∀ d ∈ M, ∀ x y, covM d x y = true → hasB xs x y = true) (hdj : Dj M) : partB xs M = true := by
 refine part_yes ho fun k hk => ?_
 rw [stpAt_of hk]
 have hm := List.getElem_mem hk
 have hok := hv M[k] hm
 have hbef : ∀ p ∈ M.take k, befM p M[k] = true := fun p hp => by
  obtain ⟨j, hj, e⟩ := List.getElem_of_mem hp
  rw [List.length_take] at hj
  rw [List.getElem_take] at e
  rw [← e]
  exact List.pairwise_iff_getElem.1 hi j k (by omega) hk (by omega)
 have hfree : ∀ x y, covM M[k] x y = true → anyM (M.take k) x y = false := fun x y hc => by
  apply Bool.eq_false_iff.2
  intro q
  unfold anyM at q
  rw [List.any_eq_true] at q
  obtain ⟨p, hp, hpc⟩ := q
  have e := hdj p (List.mem_of_mem_take hp) M[k] hm x y hpc hc
  have hb := hbef p hp
  rw [e, befM_irrefl] at hb; cases hb
 have c1 := cov_of hok (.inl ⟨rfl, rfl⟩)
 have c2 := cov_of hok (.inr ⟨rfl, rfl⟩)
 unfold stepB
 rw [hin _ hm _ _ c1, hin _ hm _ _ c2, hfree _ _ c1, hfree _ _ c2]
 cases hl : (M.take k).getLast? with
 | none => rfl
 | some p =>
  have hb := hbef p (List.mem_of_getLast? hl)
  simp [hb]
end Go.Proofs.Ytjfagpmklifjlaa.Flp

namespace Go.Proofs.Ytjfagpmklifjlaa.Flp
set_option linter.unusedVariables false
set_option linter.unusedSimpArgs false
open Go.RowKit Go.Proofs.Ytjfagpmklifjlaa.Cell Go.Proofs.Ytjfagpmklifjlaa.Dom Go.Proofs.Ytjfagpmklifjlaa.Dms Go.Proofs.Ytjfagpmklifjlaa.Til Go.Joins
open Go.Proofs.Ytjfagpmklifjlaa.KuL (inc_nodup)

theorem wrap_in {x : Int} (h0 : 0 ≤ x) (h1 : x ≤ 7) : wrap64 (x + 1) = x + 1 := by unfold wrap64; omega
theorem ok_of {x y : Int} {b : Bool} (h0 : 0 ≤ x) (h1 : x ≤ 7) (h2 : 0 ≤ y) (h3 : y ≤ 7) (h4 : b = false → x ≤ 6) (h5 : b = true → y ≤ 6) : okM (x, y, b) = true := by
 unfold okM domB
 rw [Bool.and_eq_true, okB_iff, okB_iff]
 refine ⟨⟨h0, h1, h2, h3⟩, ?_⟩
 show 0 ≤ sx x b ∧ sx x b ≤ 7 ∧ 0 ≤ sy y b ∧ sy y b ≤ 7
 unfold sx sy
 cases b with
 | false =>
  have := h4 rfl
  rw [if_neg (by simp), if_neg (by simp), wrap_in h0 h1]; omega
 | true =>
  have := h5 rfl
  rw [if_pos rfl, if_pos rfl, wrap_in h2 h3]; omega
section
variable {x y : Int}
theorem ok2 (h : 0 ≤ x ∧ x ≤ 6 ∧ 0 ≤ y ∧ y ≤ 6) (b : Bool) : okM (pr2 x y b) = true := by
 obtain ⟨a, b', c, d⟩ := h
 unfold pr2
 cases b with
 | false => exact ok_of a (by omega) (by omega) (by omega) (fun _ => b') (fun e => by cases e)
 | true => exact ok_of (by omega) (by omega) c (by omega) (fun e => by cases e) (fun _ => d)
end
section
variable {xs : List Int} {L : List Dm} {x y : Int} {b : Bool}
end
end Go.Proofs.Ytjfagpmklifjlaa.Flp

namespace Go.Proofs.Ytjfagpmklifjlaa.Wg
set_option linter.unusedVariables false
set_option linter.unusedSimpArgs false
open Go.RowKit Go.Joins
open Go.Proofs.Ytjfagpmklifjlaa.Lis (allT all_til all_order Bfr Bfr.ne)

section
variable {xs : List Int}
theorem allT_nodup (xs : List Int) : (allT xs).Nodup := (all_order xs).imp Bfr.ne
end
end Go.Proofs.Ytjfagpmklifjlaa.Wg
