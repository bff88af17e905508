/- A row of 256 numbers in memory, and the bits of a state as the model reckons them: no program here. -/
import Derived.Test.YtcncikgcieigaaaCntR
import Derived.Test.YtcncikgcieigaaaRegM
namespace Go.Proofs.Ytcncikgcieigaaa.Cnt
set_option linter.unusedVariables false
set_option linter.unusedSimpArgs false
open Go.RowKit Go.Proofs.Ytcncikgcieigaaa.Base Go.Proofs.Ytcncikgcieigaaa.Pure Go.Proofs.Ytcncikgcieigaaa.Reg Go.Joins

/-- the numbers in the block b. -/
def Nums (W : World) (b : Nat) (a : Nat → Int) : Prop := ∃ cs t, W.heap[b]? = some (.cells cs t (0, 0)) ∧ cs.size = 256 ∧ ∀ v, v < 256 → cs[v]? = some (.int .i64 (a v))
theorem Nums.lt {W : World} {b : Nat} {a : Nat → Int} (h : Nums W b a) : b < W.heap.size := by
  obtain ⟨cs, t, h, _⟩ := h
  exact (Array.getElem?_eq_some_iff.1 h).1
theorem Nums.cell {W : World} {b : Nat} {a : Nat → Int} (h : Nums W b a) {v : Nat} (hv : v < 256) : W.cell? ⟨b, v, none⟩ = some (.int .i64 (a v)) := by
  obtain ⟨cs, t, h, _, h2⟩ := h
  rw [cell_of_block h v]; exact h2 v hv
theorem Nums.frozen {W : World} {b : Nat} {a : Nat → Int} (h : Nums W b a) (v : Nat) : W.frozen? ⟨b, v, none⟩ = false := by
  obtain ⟨cs, t, h, _⟩ := h
  exact unfrozen_of_block h v
theorem Nums.set {W : World} {b : Nat} {a : Nat → Int} (h : Nums W b a) {v : Nat} (hv : v < 256) (x : Int) : Nums (W.setCell ⟨b, v, none⟩ (.int .i64 x)) b (upd a v x) := by
  obtain ⟨cs, t, h, hs, h2⟩ := h
  refine ⟨_, t, block_setCell h _, by simpa using hs, fun u hu => ?_⟩
  unfold upd
  rw [Array.getElem?_setIfInBounds]
  by_cases e : v = u
  · subst e; rw [if_pos rfl, if_pos (by omega), if_pos rfl]
  · rw [if_neg e, h2 u hu, if_neg (fun q => e q.symm)]
theorem Nums.below {W W' : World} {b B : Nat} {a : Nat → Int} (h : Nums W b a) (hb : Below B W W') (hB : b < B) : Nums W' b a := by
  obtain ⟨cs, t, h, r⟩ := h
  exact ⟨cs, t, (hb.block b hB).trans h, r⟩
theorem Nums.on {W W' : World} {b : Nat} {a : Nat → Int} (h : Nums W b a) (hb : Below W.heap.size W W') : Nums W' b a := h.below hb h.lt
theorem Nums.drew {W : World} {b : Nat} {a : Nat → Int} (h : Nums W b a) : Nums W.drew b a := h
theorem Nums.same {W : World} {b : Nat} {a a' : Nat → Int} (h : Nums W b a) (e : ∀ v, v < 256 → a v = a' v) : Nums W b a' := by
  obtain ⟨cs, t, h, hs, h2⟩ := h
  exact ⟨cs, t, h, hs, fun v hv => by rw [h2 v hv, e v hv]⟩

theorem state_table : ∀ s : Fin 256, ∀ x : Fin 8, bitB ((s.val : Nat) : Int) x.val = s.val.testBit x.val ∧ (s.val.testBit x.val = false → bits .or .i64 ((s.val : Nat) : Int) ((2 ^ x.val : Nat) : Int) = ((s.val + 2 ^ x.val : Nat) : Int)) ∧ (s.val.testBit x.val = true → 2 ^ x.val ≤ s.val) := by decide +kernel
theorem state_bit {s x : Nat} (hs : s < 256) (hx : x < 8) : bitB (s : Int) x = s.testBit x := (state_table ⟨s, hs⟩ ⟨x, hx⟩).1
theorem state_or {s x : Nat} (hs : s < 256) (hx : x < 8) (h : s.testBit x = false) : bits .or .i64 (s : Int) (2 ^ x) = ((s + 2 ^ x : Nat) : Int) := by
  have := (state_table ⟨s, hs⟩ ⟨x, hx⟩).2.1 h
  simpa using this
theorem state_sub {s x : Nat} (hs : s < 256) (hx : x < 8) (h : s.testBit x = true) : (s : Int) - 2 ^ x = ((s - 2 ^ x : Nat) : Int) := by
  have := (state_table ⟨s, hs⟩ ⟨x, hx⟩).2.2 h
  rw [Int.natCast_sub this]; simp
theorem state_shr0 {s x : Nat} (hs : s < 256) (hx : x < 8) (h : s.testBit x = false) : bits .and .i64 ((s : Int) / 2 ^ x) 1 = 0 := shr_no (by omega) (by omega) hx (by rw [state_bit hs hx]; exact h)
theorem state_shr1 {s x : Nat} (hs : s < 256) (hx : x < 8) (h : s.testBit x = true) : bits .and .i64 ((s : Int) / 2 ^ x) 1 = 1 := shr_yes (by omega) (by omega) hx (by rw [state_bit hs hx]; exact h)
end Go.Proofs.Ytcncikgcieigaaa.Cnt
