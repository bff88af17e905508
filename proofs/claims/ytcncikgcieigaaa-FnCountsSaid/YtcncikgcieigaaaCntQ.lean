/- The model's count of partial tilings, by the places of a list. -/
import Derived.Test.YtcncikgcieigaaaCntM
import Derived.Test.YtcncikgcieigaaaCellN
import Derived.StillTailTactics
namespace Go.Proofs.Ytcncikgcieigaaa.Cnt
set_option linter.unusedVariables false
set_option linter.unusedSimpArgs false
open Go.RowKit Go.Proofs.Ytcncikgcieigaaa.Base Go.Proofs.Ytcncikgcieigaaa.Pure Go.Proofs.Ytcncikgcieigaaa.Cell Go.Proofs.Ytcncikgcieigaaa.Reg Go.Joins

/-- the marks in the block b. -/
def Bks (W : World) (b L : Nat) (u : Nat → Bool) : Prop := ∃ cs t, W.heap[b]? = some (.cells cs t (0, 0)) ∧ L ≤ cs.size ∧ ∀ i, i < L → cs[i]? = some (.bool (u i))
theorem Bks.lt {W : World} {b L : Nat} {u : Nat → Bool} (h : Bks W b L u) : b < W.heap.size := by
  obtain ⟨cs, t, h, _⟩ := h
  exact (Array.getElem?_eq_some_iff.1 h).1
theorem Bks.cell {W : World} {b L : Nat} {u : Nat → Bool} (h : Bks W b L u) {i : Nat} (hi : i < L) : W.cell? ⟨b, i, none⟩ = some (.bool (u i)) := by
  obtain ⟨cs, t, h, _, h2⟩ := h
  rw [cell_of_block h i]; exact h2 i hi
theorem Bks.frozen {W : World} {b L : Nat} {u : Nat → Bool} (h : Bks W b L u) (i : Nat) : W.frozen? ⟨b, i, none⟩ = false := by
  obtain ⟨cs, t, h, _⟩ := h
  exact unfrozen_of_block h i
theorem Bks.set {W : World} {b L : Nat} {u : Nat → Bool} (h : Bks W b L u) {i : Nat} (hi : i < L) (x : Bool) : Bks (W.setCell ⟨b, i, none⟩ (.bool x)) b L (fun j => if j = i then x else u j) := by
  obtain ⟨cs, t, h, hs, h2⟩ := h
  refine ⟨_, t, block_setCell h _, by simpa using hs, fun j hj => ?_⟩
  rw [Array.getElem?_setIfInBounds]
  by_cases e : i = j
  · subst e; rw [if_pos rfl, if_pos (by omega)]; simp
  · have : ¬ j = i := fun q => e q.symm
    rw [if_neg e, h2 j hj]; simp [this]
theorem Bks.on {W W' : World} {b L : Nat} {u : Nat → Bool} (h : Bks W b L u) (hb : Below W.heap.size W W') : Bks W' b L u := by
  have hl := h.lt
  obtain ⟨cs, t, h, r⟩ := h
  exact ⟨cs, t, (hb.block b hl).trans h, r⟩
theorem Bks.same {W : World} {b L : Nat} {u u' : Nat → Bool} (h : Bks W b L u) (e : ∀ i, i < L → u i = u' i) : Bks W b L u' := by
  obtain ⟨cs, t, h, hs, h2⟩ := h
  exact ⟨cs, t, h, hs, fun i hi => by rw [h2 i hi, e i hi]⟩
/-- the cells of a list, by their indexes. -/
def CLs (W : World) (cb off L : Nat) (C : Nat → Nat) : Prop := ∀ i, i < L → cb < W.heap.size ∧ W.cell? ⟨cb, off + i * 2, none⟩ = some (.int .i64 ((C i % 8 : Nat) : Int)) ∧ W.cell? ⟨cb, off + i * 2 + 1, none⟩ = some (.int .i64 ((C i / 8 : Nat) : Int))
theorem CLs.apart {W W' : World} {cb off L b : Nat} {C : Nat → Nat} (h : CLs W cb off L C) (hne : cb ≠ b) (ha : Apart b (b + 1) W W') : CLs W' cb off L C := fun i hi => by
  obtain ⟨h0, h1, h2⟩ := h i hi
  have hz := ha.size
  refine ⟨by omega, ?_, ?_⟩
  · rw [ha.cell (by show cb < _; omega) (by show cb < b ∨ b + 1 ≤ cb; omega)]; exact h1
  · rw [ha.cell (by show cb < _; omega) (by show cb < b ∨ b + 1 ≤ cb; omega)]; exact h2
/-- what a call leaves. -/
def PPost (v : Int) (ub L : Nat) (u : Nat → Bool) (w : World) (e : Ending) (w' : World) : Prop := e = .returned (.int .i64 v) ∧ Bks w' ub L u ∧ Apart ub (ub + 1) w w'
theorem wrap64_one : wrap64 1 = 1 := by unfold wrap64; omega
theorem wrap64_zero : wrap64 0 = 0 := by unfold wrap64; omega

set_option maxRecDepth 100000 in
set_option maxHeartbeats 4000000 in
theorem sPartials0 (C : Nat → Nat) (A : Option Addr) (U : Option Addr) (L cap ucap : Nat) (n f : Nat) (w : World) (ub : Nat) (u : Nat → Bool) (hf : f + n = L) (hb : Bks w ub L u) :
    Calls Try.prog 47 #[.slice A L cap, .slice U L ucap, .int .i64 (f : Int), .int .i64 0] w (PPost (wrap64 (R C L n f 0 u : Nat)) ub L u w) := by
  have HE := Lib.hid (show (1 : Int) = wrap64 (R C L n f 0 u : Nat) by rw [show R C L n f 0 u = 1 by cases n <;> rfl]; exact wrap64_one.symm)
  have HB := Lib.hid hb
  clear hb hf
  go_enter Try.func47, Try.ntmps47
  go_wp2
  go_ret
  exact ⟨by rw [← HE.out]; rfl, HB.out, Apart.refl _ _ _⟩

set_option maxRecDepth 100000 in
set_option maxHeartbeats 4000000 in
theorem sPartialsE (C : Nat → Nat) (A : Option Addr) (U : Option Addr) (L cap ucap : Nat) (hL : L ≤ 64) (m : Nat) (hm : m < 64) (w : World) (ub : Nat) (u : Nat → Bool) (hb : Bks w ub L u) :
    Calls Try.prog 47 #[.slice A L cap, .slice U L ucap, .int .i64 (L : Int), .int .i64 ((m + 1 : Nat) : Int)] w (PPost (wrap64 (R C L 0 L (m + 1) u : Nat)) ub L u w) := by
  have HE := Lib.hid (show (0 : Int) = wrap64 (R C L 0 L (m + 1) u : Nat) by rw [show R C L 0 L (m + 1) u = 0 from rfl]; exact wrap64_zero.symm)
  have HB := Lib.hid hb
  have hz : ((m + 1 : Nat) : Int) ≠ 0 := by omega
  generalize ((m + 1 : Nat) : Int) = M at hz ⊢
  clear hb
  go_enter Try.func47, Try.ntmps47
  go_wp2
  go_ret
  exact ⟨by rw [← HE.out]; rfl, HB.out, Apart.refl _ _ _⟩
end Go.Proofs.Ytcncikgcieigaaa.Cnt
