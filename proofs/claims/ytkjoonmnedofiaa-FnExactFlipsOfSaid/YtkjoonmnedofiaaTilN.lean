/- Numbers are written into a slice of dominoes and read again. -/
import Derived.Test.YtkjoonmnedofiaaTilM
namespace Go.Proofs.Ytkjoonmnedofiaa.Til
set_option linter.unusedVariables false
set_option linter.unusedSimpArgs false
open Go.RowKit Go.Proofs.Ytkjoonmnedofiaa.Base Go.Proofs.Ytkjoonmnedofiaa.Pure Go.Proofs.Ytkjoonmnedofiaa.Cell Go.Proofs.Ytkjoonmnedofiaa.Dom Go.Proofs.Ytkjoonmnedofiaa.Dms Go.Joins
open Go.Proofs.Ytkjoonmnedofiaa.Reg hiding Yes add_none

/-- divisible by three. -/
def by3 (m : Nat) : Bool := decide (((m : Nat) : Int) % 3 = 0)
/-- the numbers from k on, three a domino. -/
def mkM (k j : Nat) : Dm := (((k + 3 * j : Nat) : Int), ((k + 3 * j + 1 : Nat) : Int), by3 (k + 3 * j + 2))
def marksM (k n : Nat) : List Dm := (List.range n).map (mkM k)
theorem marksM_length (k n : Nat) : (marksM k n).length = n := by unfold marksM; simp
theorem marksM_at (k n j : Nat) (h : j < n) : (marksM k n)[j]? = some (mkM k j) := by unfold marksM; simp [List.getElem?_range h]
theorem marksM_step (k j n : Nat) (L : List Dm) (hL : L.length = n) (hj : j < n) :
    (((rowM (marksM k j ++ L.drop j)).set (j * 3) (.int .i64 ((k + 3 * j : Nat) : Int))).set (j * 3 + 1) (.int .i64 ((k + 3 * j + 1 : Nat) : Int))).set (j * 3 + 2) (.bool (by3 (k + 3 * j + 2))) = rowM (marksM k (j + 1) ++ L.drop (j + 1)) := by
  rw [List.drop_eq_getElem_cons (by omega)]
  have h := rowM_put (marksM k j) L[j] (mkM k j) (L.drop (j + 1)) j (marksM_length k j)
  unfold mkM at h
  simp only at h
  rw [h]
  congr 1
  unfold marksM
  rw [List.range_succ, List.map_append, List.append_assoc]
  rfl

set_option maxRecDepth 100000 in
set_option maxHeartbeats 1000000 in
theorem markDoms (w : World) (base hi k n cap : Nat) (A : Option Addr) (L : List Dm) (hn : ((k + 3 * n : Nat) : Int) ≤ 10000000) (hr : RowIn w base hi 38 3 (.slice A n cap) n (rowM L)) :
    Calls Try.prog 27 #[.slice A n cap, .int .i64 (k : Int)] w fun e w' => e = .returned (.int .i64 ((k + 3 * n : Nat) : Int)) ∧ RowIn w' base hi 38 3 (.slice A n cap) n (rowM (marksM k n)) ∧ Apart base hi w w' := by
  have hx : L.length = n := by have := hr.1.1; rw [rowM_length] at this; omega
  have HX := Lib.hid hx
  have HN := Lib.hid hn
  have HH := Lib.hid hr.2
  have HO := Lib.hid hr.1
  clear hx hr hn
  go_enter Try.func27, Try.ntmps27
  go_wp2_with fail
  go_loopw [1, 5] (fun m i wr => ∃ j : Nat, j ≤ n ∧ i = .int .i64 j ∧ m = .int .i64 ((k + 3 * j : Nat) : Int) ∧ wr.ownsRow base 38 3 (.slice A n cap) n (rowM (marksM k j ++ L.drop j)) ∧ Apart base hi w wr) (fun _ i _ => n - (intOf i).toNat)
  case atStart => exact ⟨0, Nat.zero_le _, rfl, rfl, by simpa [marksM] using HO.out, Apart.refl _ _ _⟩
  case round =>
    obtain ⟨j, hj, rfl, rfl, hown, hb⟩ := hrel
    have hm : ((k + 3 * j : Nat) : Int) ≤ 10000000 := by have := HN.out; omega
    by_cases hlt : j < n
    · obtain ⟨g, c, hv, hg1, hg2⟩ := hown.form (by omega)
      injection hv with hA hn1 hc1
      subst hA
      subst hc1
      have hu : ∀ m, m < n * 3 → ∃ u, wr.cell? ⟨g, m, none⟩ = some u := fun m hm => by
        have hlen := hown.1
        rw [hown.cellAt m (by omega)]; exact ⟨_, List.getElem?_eq_getElem (by omega)⟩
      obtain ⟨u0, hu0⟩ := hu (j * 3) (by omega)
      obtain ⟨u1, hu1⟩ := hu (j * 3 + 1) (by omega)
      obtain ⟨u2, hu2⟩ := hu (j * 3 + 2) (by omega)
      have hf0 := hown.frozenAt (j * 3)
      have hf1 := hown.frozenAt (j * 3 + 1)
      have hf2 := hown.frozenAt (j * 3 + 2)
      obtain ⟨hst, _⟩ := hown.stored (j * 3) (.int .i64 ((k + 3 * j : Nat) : Int))
      obtain ⟨hst, _⟩ := hst.stored (j * 3 + 1) (.int .i64 ((k + 3 * j + 1 : Nat) : Int))
      obtain ⟨hst, _⟩ := hst.stored (j * 3 + 2) (.bool (by3 (k + 3 * j + 2)))
      rw [marksM_step k j n L HX.out hlt] at hst
      have hb3 := ((hb.setCell (p := ⟨g, j * 3, none⟩) hg1 (HH.out g rfl) (.int .i64 ((k + 3 * j : Nat) : Int))).setCell (p := ⟨g, j * 3 + 1, none⟩) hg1 (HH.out g rfl) (.int .i64 ((k + 3 * j + 1 : Nat) : Int))).setCell (p := ⟨g, j * 3 + 2, none⟩) hg1 (HH.out g rfl) (.bool (by3 (k + 3 * j + 2)))
      have hk2 : ((k + 3 * (j + 1) : Nat) : Int) = ((k + 3 * j : Nat) : Int) + 3 := by omega
      have e1 : ((k + 3 * j + 1 : Nat) : Int) = ((k + 3 * j : Nat) : Int) + 1 := by omega
      have e2 : by3 (k + 3 * j + 2) = ((((k + 3 * j : Nat) : Int) + 1 + 1) % 3 == 0) := by unfold by3; rw [Bool.eq_iff_iff]; simp only [decide_eq_true_eq, beq_iff_eq]; omega
      rw [e2, e1] at hst hb3
      have R := Lib.hid hst
      have HB := Lib.hid hb3
      have HK2 := Lib.hid hk2
      have hm0 : 0 ≤ ((k + 3 * j : Nat) : Int) := by omega
      have hnb : (n : Int) ≤ 10000000 := by have := HN.out; omega
      generalize ((k + 3 * j : Nat) : Int) = m at hm R HB HK2 hm0
      clear hown hst hb3 hb hu hk2 e1 e2
      go_wp2
      go_roundw
      case rel => exact ⟨j + 1, by omega, by go_num, by rw [HK2.out]; go_num, R.out, HB.out⟩
      case measure => (simp [intOf] <;> omega)
    · obtain rfl : j = n := by omega
      have R := Lib.hid (show wr.ownsRow base 38 3 (.slice A j cap) j (rowM (marksM k j)) by
        have e : marksM k j ++ L.drop j = marksM k j := by rw [List.drop_eq_nil_of_le (by rw [HX.out]; omega), List.append_nil]
        rw [e] at hown; exact hown)
      clear hown
      go_wp2
      go_ret
      exact ⟨by go_num, ⟨R.out, HH.out⟩, hb⟩
set_option maxRecDepth 100000 in
set_option maxHeartbeats 1000000 in
theorem heldDoms (w : World) (k n cap B : Nat) (A : Option Addr) (hn : ((k + 3 * n : Nat) : Int) ≤ 10000000) (hr : RowM w B A (marksM k n)) :
    Calls Try.prog 28 #[.slice A n cap, .int .i64 (k : Int)] w fun e w' => e = .returned (.int .i64 ((k + 3 * n : Nat) : Int)) ∧ w' = w := by
  obtain ⟨b, off, hA, hc⟩ := hr
  have HA := Lib.hid hA
  have HC := Lib.hid hc
  have HN := Lib.hid hn
  clear hA hc hn
  go_enter Try.func28, Try.ntmps28
  go_wp2_with fail
  go_loopw [1, 5] (fun m i wr => ∃ j : Nat, j ≤ n ∧ i = .int .i64 j ∧ m = .int .i64 ((k + 3 * j : Nat) : Int) ∧ wr = w) (fun _ i _ => n - (intOf i).toNat)
  case atStart => exact ⟨0, Nat.zero_le _, rfl, rfl, rfl⟩
  case round =>
    obtain ⟨j, hj, rfl, rfl, rfl⟩ := hrel
    have hm : ((k + 3 * j : Nat) : Int) ≤ 10000000 := by have := HN.out; omega
    by_cases hlt : j < n
    · obtain ⟨rfl, hbw⟩ := HA.out (by rw [marksM_length]; omega)
      obtain ⟨c0, c1, c2⟩ := HC.out j _ (marksM_at k n j hlt)
      unfold mkM at c0 c1 c2
      simp only at c0 c1 c2
      have HK2 := Lib.hid (show ((k + 3 * (j + 1) : Nat) : Int) = ((k + 3 * j : Nat) : Int) + 3 by omega)
      have e1 : ((k + 3 * j + 1 : Nat) : Int) = ((k + 3 * j : Nat) : Int) + 1 := by omega
      have e2 : by3 (k + 3 * j + 2) = ((((k + 3 * j : Nat) : Int) + 1 + 1) % 3 == 0) := by unfold by3; rw [Bool.eq_iff_iff]; simp only [decide_eq_true_eq, beq_iff_eq]; omega
      rw [e1] at c1
      rw [e2] at c2
      have hm0 : 0 ≤ ((k + 3 * j : Nat) : Int) := by omega
      have hnb : (n : Int) ≤ 10000000 := by have := HN.out; omega
      generalize ((k + 3 * j : Nat) : Int) = m at hm HK2 hm0 c0 c1 c2
      have q0 : (m != m) = false := by simp
      have q1 : (m + 1 != m + 1) = false := by simp
      have q2 : (((m + 1 + 1) % 3 == 0) != ((m + 1 + 1) % 3 == 0)) = false := by simp
      clear e1 e2
      go_wp2
      go_roundw
      case rel => exact ⟨j + 1, by omega, by go_num, by rw [HK2.out]; go_num, trivial⟩
      case measure => (simp [intOf] <;> omega)
    · obtain rfl : j = n := by omega
      go_wp2
      go_ret
      exact ⟨by go_num, rfl⟩
/-- the answer under a name. -/
theorem markDomsN (w : World) (base hi k n cap : Nat) (A : Option Addr) (L : List Dm) (k0 m : Int) (hk : k0 = (k : Int)) (hm : m = ((k + 3 * n : Nat) : Int)) (hn : m ≤ 10000000) (hr : RowIn w base hi 38 3 (.slice A n cap) n (rowM L)) :
    Calls Try.prog 27 #[.slice A n cap, .int .i64 k0] w fun e w' => e = .returned (.int .i64 m) ∧ RowIn w' base hi 38 3 (.slice A n cap) n (rowM (marksM k n)) ∧ Apart base hi w w' := by
  subst hm; subst hk
  exact markDoms w base hi k n cap A L hn hr
theorem heldDomsN (w : World) (k n cap B : Nat) (A : Option Addr) (k0 m : Int) (hk : k0 = (k : Int)) (hm : m = ((k + 3 * n : Nat) : Int)) (hn : m ≤ 10000000) (hr : RowM w B A (marksM k n)) :
    Calls Try.prog 28 #[.slice A n cap, .int .i64 k0] w fun e w' => e = .returned (.int .i64 m) ∧ w' = w := by
  subst hm; subst hk
  exact heldDoms w k n cap B A hn hr
end Go.Proofs.Ytkjoonmnedofiaa.Til
