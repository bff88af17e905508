/- Which regions are valid: the program's function and the model's. -/
import Derived.Test.YtkjoonmnedofiaaRegM
import Derived.Test.YtkjoonmnedofiaaCellB
namespace Go.Proofs.Ytkjoonmnedofiaa.Reg
set_option linter.unusedVariables false
open Go.RowKit Go.Proofs.Ytkjoonmnedofiaa.Base Go.Proofs.Ytkjoonmnedofiaa.Pure Go.Proofs.Ytkjoonmnedofiaa.Cell Go.Joins

/-- the numbers up to k are in their range. -/
def InTo (xs : List Int) (k : Nat) : Prop := ∀ x ∈ xs.take k, 0 ≤ x ∧ x ≤ 255
theorem InTo.zero (xs : List Int) : InTo xs 0 := fun x hx => by simp at hx
theorem InTo.next {xs : List Int} {k : Nat} (h : InTo xs k) (hk : k < xs.length) (h0 : 0 ≤ xs[k]) (h1 : xs[k] ≤ 255) : InTo xs (k + 1) := by
  intro x hx
  rw [List.take_succ_eq_append_getElem hk, List.mem_append, List.mem_singleton] at hx
  rcases hx with hx | rfl
  · exact h x hx
  · exact ⟨h0, h1⟩
theorem InTo.all {xs : List Int} {k : Nat} (h : InTo xs k) (hk : k = xs.length) : ∀ x ∈ xs, 0 ≤ x ∧ x ≤ 255 := by
  subst hk
  unfold InTo at h
  rwa [List.take_length] at h
theorem not_ok_at {xs : List Int} {k : Nat} (hk : k < xs.length) (h : ¬ (0 ≤ xs[k] ∧ xs[k] ≤ 255)) : okRB xs = false := okRB_not fun ho => h (ho.2 _ (List.getElem_mem hk))
/-- a parameter's box, behind what came since. -/
theorem boxR {T : TypeId} (v : Value) (w w1 : World) (h : Below (w.heap.size + 1) (w.alloc (.cells #[v] T)) w1) : w1.cell? ⟨w.heap.size, 0, none⟩ = some v := by
  rw [h.cell (by show w.heap.size < _; omega)]
  exact (cell_of_row _ _ 0 _ _ _ (heap_alloc_new w _)).trans rfl

set_option maxRecDepth 100000 in
set_option maxHeartbeats 1000000 in
theorem sRegionOk (w : World) (A : Option Addr) (n cap B : Nat) (xs : List Int) (hx : xs.length = n) (hn : (n : Int) ≤ 9223372036854775807) (h : RowB w B A xs) (hB : B ≤ w.heap.size) :
    Calls Try.prog 74 #[.agg #[.slice A n cap]] w (Bol (okRB xs) w) := by
  obtain ⟨b, off, hA, hc⟩ := h
  have HA := Lib.hid hA
  have HC := Lib.hid hc
  have HX := Lib.hid hx
  clear hA hc hx
  have HBw := Lib.hid (fun (o : Obj) => below_alloc1 w o)
  go_enter Try.func74, Try.ntmps74
  go_wp2_with fail
  go_loop [3] (fun i => ∃ k : Nat, k ≤ n ∧ i = .int .i64 k ∧ Hid (InTo xs k)) (fun i => n - (intOf i).toNat)
  case atStart => exact ⟨0, Nat.zero_le _, rfl, Lib.hid (InTo.zero xs)⟩
  case round =>
    obtain ⟨k, hk, rfl, HI⟩ := hrel
    by_cases hlt : k < n
    · have hkx : k < xs.length := by have := HX.out; omega
      obtain ⟨rfl, hbw⟩ := HA.out (by omega)
      have hc1 : (w.alloc (.cells #[.slice (some ⟨b, off, none⟩) n cap] 26)).cell? ⟨b, off + k, none⟩ = some (.int .i64 xs[k]) :=
        ((HBw.out _).cell (p := ⟨b, off + k, none⟩) (by show b < _; omega)).trans (HC.out k xs[k] (List.getElem?_eq_getElem hkx))
      have HNx := Lib.hid (fun h0 h1 => HI.out.next hkx h0 h1)
      have HNo := Lib.hid (fun h => not_ok_at hkx h)
      generalize xs[k] = x at hc1 HNx HNo
      go_wp2_with fail
      refine (l01In x 0 255 _).mono ?_
      rintro e w1 ⟨rfl, rfl⟩
      by_cases h0 : 0 ≤ x ∧ x ≤ 255
      · rw [inB_of h0]
        go_wp2
        go_round
        case rel => exact ⟨k + 1, by omega, by go_num, Lib.hid (HNx.out h0.1 h0.2)⟩
        case measure => (simp [intOf] <;> omega)
      · rw [inB_not h0]
        have HR := Lib.hid (HNo.out h0)
        go_wp2
        go_ret
        exact mkBol (by rw [HR.out]) (HBw.out _)
    · obtain rfl : k = n := by omega
      by_cases h8 : (k : Int) ≤ 8
      · have HR := Lib.hid (show okRB xs = true from okRB_of ⟨by have := HX.out; omega, HI.out.all (by rw [HX.out])⟩)
        go_wp2
        go_ret
        exact mkBol (by rw [HR.out]) (HBw.out _)
      · have HR := Lib.hid (show okRB xs = false from okRB_not fun ho => by have := ho.1; have := HX.out; omega)
        go_wp2
        go_ret
        exact mkBol (by rw [HR.out]) (HBw.out _)
end Go.Proofs.Ytkjoonmnedofiaa.Reg
