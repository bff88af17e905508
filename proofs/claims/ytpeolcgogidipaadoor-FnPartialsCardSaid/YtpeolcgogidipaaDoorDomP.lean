/- Dominoes, pure: overlaps are symmetric, one of two different dominoes comes first, the cells of a domino have different colors, texts tell dominoes. -/
import Derived.Test.YtpeolcgogidipaaDoorDomT
namespace Go.Proofs.YtpeolcgogidipaaDoor.Dom
set_option linter.unusedVariables false
open Go.RowKit Go.Proofs.YtpeolcgogidipaaDoor.Base Go.Proofs.YtpeolcgogidipaaDoor.Cell Go.Proofs.YtpeolcgogidipaaDoor.Fmt

theorem ov_comm (x y : Int) (b : Bool) (u v : Int) (c : Bool) : ovB u v c x y b = ovB x y b u v c := by
  unfold ovB
  rw [Bool.and_comm (domB u v c)]
  congr 1
  rw [Bool.eq_iff_iff, ovP_iff, ovP_iff]
  constructor <;> (rintro (⟨rfl, rfl⟩ | ⟨h1, h2⟩ | ⟨h1, h2⟩ | ⟨h1, h2⟩) <;> simp_all)
theorem ov_self {x y : Int} {b : Bool} (h : domB x y b = true) : ovB x y b x y b = true := by
  unfold ovB
  rw [h, Bool.true_and, Bool.true_and, ovP_iff]
  exact .inl ⟨rfl, rfl⟩
theorem bef_self (x y : Int) (b : Bool) : befB x y b x y b = false := by
  unfold befB
  rw [show befP x y b x y b = false by rw [Bool.eq_false_iff, Ne, befP_iff]; rintro (h | ⟨_, h1, h2⟩); · omega
                                       · rw [h1] at h2; cases h2]
  simp
theorem bef_ne {x y : Int} {b : Bool} {u v : Int} {c : Bool} (h1 : domB x y b = true) (h2 : domB u v c = true) (hne : ¬ (x = u ∧ y = v ∧ b = c)) : befB u v c x y b = !befB x y b u v c := by
  have o1 := dom_ok h1
  have o2 := dom_ok h2
  obtain ⟨x0, x7, y0, y7⟩ := o1
  obtain ⟨u0, u7, v0, v7⟩ := o2
  unfold befB
  rw [h1, h2]
  simp only [Bool.true_and]
  have hk : befP x y b u v c = false ↔ ¬ (y * 8 + x < v * 8 + u ∨ (y * 8 + x = v * 8 + u ∧ b = false ∧ c = true)) := by rw [← befP_iff]; simp
  rw [Bool.eq_iff_iff, befP_iff, Bool.not_eq_true', hk]
  cases b <;> cases c <;> simp <;> simp at hne <;> omega
theorem black_under {x y : Int} {b : Bool} (h : domB x y b = true) : blackB (sx x b) (sy y b) = !blackB x y := by
  unfold domB at h
  simp only [Bool.and_eq_true, okB_iff] at h
  obtain ⟨h1, h2⟩ := h
  have key : ∀ {p q : Int}, Ok p q → (p + q = x + y + 1) → blackB p q = !blackB x y := by
    intro p q hp e
    rw [Bool.eq_iff_iff, blackB_iff, Bool.not_eq_true', Bool.eq_false_iff, Ne, blackB_iff]
    simp only [hp, h1, true_and]
    omega
  obtain ⟨x0, x7, y0, y7⟩ := h1
  cases b with
  | true =>
    have e : sy y true = y + 1 := by show wrap64 (y + 1) = y + 1; unfold wrap64; omega
    have e' : sx x true = x := rfl
    rw [e, e'] at h2 ⊢
    exact key h2 (by omega)
  | false =>
    have e : sx x false = x + 1 := by show wrap64 (x + 1) = x + 1; unfold wrap64; omega
    have e' : sy y false = y := rfl
    rw [e, e'] at h2 ⊢
    exact key h2 (by omega)
theorem txt_at {x y : Int} {b : Bool} (h : domB x y b = true) : dtx x y b = ⟨#[UInt8.ofNat (48 + x.toNat), 44, UInt8.ofNat (48 + y.toNat), if b then 100 else 114]⟩ := by
  obtain ⟨x0, x7, y0, y7⟩ := dom_ok h
  unfold dtx
  rw [h, if_pos rfl, numS_digit x0 x7, numS_digit y0 y7]
  cases b <;> rfl
theorem txt_size {x y : Int} {b : Bool} (h : domB x y b = true) : (dtx x y b).size = 4 := by rw [txt_at h]; rfl
theorem txt_inj {x y : Int} {b : Bool} {u v : Int} {c : Bool} (h1 : domB x y b = true) (h2 : domB u v c = true) (e : dtx x y b = dtx u v c) : x = u ∧ y = v ∧ b = c := by
  obtain ⟨x0, x7, y0, y7⟩ := dom_ok h1
  obtain ⟨u0, u7, v0, v7⟩ := dom_ok h2
  rw [txt_at h1, txt_at h2] at e
  simp only [ByteArray.mk.injEq, Array.mk.injEq, List.cons.injEq, and_true, true_and] at e
  obtain ⟨e1, e2, e3⟩ := e
  have k : ∀ p q : Nat, p < 8 → q < 8 → UInt8.ofNat (48 + p) = UInt8.ofNat (48 + q) → p = q := by
    intro p q hp hq h
    have := congrArg UInt8.toNat h
    simp only [UInt8.toNat_ofNat'] at this
    omega
  have a1 := k _ _ (by omega) (by omega) e1
  have a2 := k _ _ (by omega) (by omega) e2
  refine ⟨by omega, by omega, ?_⟩
  cases b <;> cases c <;> simp at e3 ⊢
end Go.Proofs.YtpeolcgogidipaaDoor.Dom
