/- Numbers are written into a slice of cells, wherever it lies. -/
import Derived.Test.YtkjoonmnedofiaaMgFAl
import Derived.Test.YtkjoonmnedofiaaRegM
namespace Go.Proofs.Ytkjoonmnedofiaa.Def
set_option linter.unusedVariables false
set_option linter.unusedSimpArgs false
open Go.RowKit Go.Proofs.Ytkjoonmnedofiaa.Base Go.Proofs.Ytkjoonmnedofiaa.Pure Go.Proofs.Ytkjoonmnedofiaa.Cell Go.Proofs.Ytkjoonmnedofiaa.Cels Go.Joins
open Go.Proofs.Ytkjoonmnedofiaa.Reg hiding Yes RC rc_start

set_option maxRecDepth 100000 in
set_option maxHeartbeats 1000000 in
theorem markCellsA (w : World) (base hi k n cap : Nat) (A : Option Addr) (L : List (Int × Int)) (hn : ((k + 2 * n : Nat) : Int) ≤ 10000000) (hr : RowIn w base hi 35 2 (.slice A n cap) n (rowC L)) :
    Calls Try.prog 30 #[.slice A n cap, .int .i64 (k : Int)] w fun e w' => e = .returned (.int .i64 ((k + 2 * n : Nat) : Int)) ∧ RowIn w' base hi 35 2 (.slice A n cap) n (rowC (marksC k n)) ∧ Apart base hi w w' := by
  have hx : L.length = n := by have := hr.1.1; rw [rowC_length] at this; omega
  have HX := Lib.hid hx
  have HN := Lib.hid hn
  have HH := Lib.hid hr.2
  have HO := Lib.hid hr.1
  clear hx hr hn
  go_enter Try.func30, Try.ntmps30
  go_wp2_with fail
  go_loopw [1, 5] (fun m i wr => ∃ j : Nat, j ≤ n ∧ i = .int .i64 j ∧ m = .int .i64 ((k + 2 * j : Nat) : Int) ∧ wr.ownsRow base 35 2 (.slice A n cap) n (rowC (marksC k j ++ L.drop j)) ∧ Apart base hi w wr) (fun _ i _ => n - (intOf i).toNat)
  case atStart => exact ⟨0, Nat.zero_le _, rfl, rfl, by simpa [marksC] using HO.out, Apart.refl _ _ _⟩
  case round =>
    obtain ⟨j, hj, rfl, rfl, hown, hb⟩ := hrel
    have hm : ((k + 2 * j : Nat) : Int) ≤ 10000000 := by have := HN.out; omega
    by_cases hlt : j < n
    · obtain ⟨g, c, hv, hg1, hg2⟩ := hown.form (by omega)
      injection hv with hA hn1 hc1
      subst hA
      subst hc1
      have hu : ∀ m, m < n * 2 → ∃ u, wr.cell? ⟨g, m, none⟩ = some u := fun m hm => by
        have hlen := hown.1
        rw [hown.cellAt m (by omega)]; exact ⟨_, List.getElem?_eq_getElem (by omega)⟩
      obtain ⟨u0, hu0⟩ := hu (j * 2) (by omega)
      obtain ⟨u1, hu1⟩ := hu (j * 2 + 1) (by omega)
      have hf0 := hown.frozenAt (j * 2)
      have hf1 := hown.frozenAt (j * 2 + 1)
      obtain ⟨hst, _⟩ := hown.stored (j * 2) (.int .i64 ((k + 2 * j : Nat) : Int))
      obtain ⟨hst, _⟩ := hst.stored (j * 2 + 1) (.int .i64 ((k + 2 * j + 1 : Nat) : Int))
      rw [marksC_step k j n L HX.out hlt] at hst
      have hb3 := (hb.setCell (p := ⟨g, j * 2, none⟩) hg1 (HH.out g rfl) (.int .i64 ((k + 2 * j : Nat) : Int))).setCell (p := ⟨g, j * 2 + 1, none⟩) hg1 (HH.out g rfl) (.int .i64 ((k + 2 * j + 1 : Nat) : Int))
      have hk2 : ((k + 2 * (j + 1) : Nat) : Int) = ((k + 2 * j : Nat) : Int) + 2 := by omega
      have e1 : ((k + 2 * j + 1 : Nat) : Int) = ((k + 2 * j : Nat) : Int) + 1 := by omega
      rw [e1] at hst hb3
      have R := Lib.hid hst
      have HB := Lib.hid hb3
      have HK2 := Lib.hid hk2
      have hm0 : 0 ≤ ((k + 2 * j : Nat) : Int) := by omega
      have hnb : (n : Int) ≤ 10000000 := by have := HN.out; omega
      generalize ((k + 2 * j : Nat) : Int) = m at hm R HB HK2 hm0
      clear hown hst hb3 hb hu hk2 e1
      go_wp2
      go_roundw
      case rel => exact ⟨j + 1, by omega, by go_num, by rw [HK2.out]; go_num, R.out, HB.out⟩
      case measure => (simp [intOf] <;> omega)
    · obtain rfl : j = n := by omega
      have R := Lib.hid (show wr.ownsRow base 35 2 (.slice A j cap) j (rowC (marksC k j)) by
        have e : marksC k j ++ L.drop j = marksC k j := by rw [List.drop_eq_nil_of_le (by rw [HX.out]; omega), List.append_nil]
        rw [e] at hown; exact hown)
      clear hown
      go_wp2
      go_ret
      exact ⟨by go_num, ⟨R.out, HH.out⟩, hb⟩
theorem markCellsN (w : World) (base hi k n cap : Nat) (A : Option Addr) (L : List (Int × Int)) (k0 m : Int) (hk : k0 = (k : Int)) (hm : m = ((k + 2 * n : Nat) : Int)) (hn : m ≤ 10000000) (hr : RowIn w base hi 35 2 (.slice A n cap) n (rowC L)) :
    Calls Try.prog 30 #[.slice A n cap, .int .i64 k0] w fun e w' => e = .returned (.int .i64 m) ∧ RowIn w' base hi 35 2 (.slice A n cap) n (rowC (marksC k n)) ∧ Apart base hi w w' := by
  subst hm; subst hk
  exact markCellsA w base hi k n cap A L hn hr
end Go.Proofs.Ytkjoonmnedofiaa.Def
