/- FnNumbers: exactly the numbers in the range 0 to 1000000000 can be parsed from their decimal text. -/
import Derived.Test.YtbfmodoofkgicaaDoorPar
import Derived.Test.YtbfmodoofkgicaaDoorDraw
namespace Go.Proofs.YtbfmodoofkgicaaDoor.Num
set_option linter.unusedVariables false
open Go.RowKit Go.Proofs.YtbfmodoofkgicaaDoor.Base Go.Proofs.YtbfmodoofkgicaaDoor.Fmt Go.Proofs.YtbfmodoofkgicaaDoor.Par Go.Proofs.YtbfmodoofkgicaaDoor.Draw

/-- an int is drawn. -/
def OneInt (w : World) (e : Ending) (w' : World) : Prop := ∃ n : Int, I64 n ∧ e = .returned (.int .i64 n) ∧ Below w.heap.size w w'
theorem below_of {w w1 w2 : World} {g : Nat} (h : Below w.heap.size w w1) (hg : w.heap.size ≤ g) (k : w1.grownBy w2 (some g)) : Below w.heap.size w w2 :=
  h.grown k h.size (fun j hj => by injection hj; omega)

theorem mul_bd (a b : Int) (ha : 0 ≤ a ∧ a < 1000000) (hb : 0 ≤ b ∧ b < 2000000) : -1000000000000 ≤ a * (b - 1000000) ∧ a * (b - 1000000) ≤ 1000000000000 := by
  have h1 : a * (b - 1000000) ≤ a * 1000000 := Int.mul_le_mul_of_nonneg_left (by omega) ha.1
  have h2 : a * (-1000000) ≤ a * (b - 1000000) := Int.mul_le_mul_of_nonneg_left (by omega) ha.1
  omega

set_option maxHeartbeats 400000 in
theorem drawInt (w : World) (A : Option Addr) (len cap : Nat) (h0 : Coded w w.heap.size A len) :
    Calls Tryd.prog 14 #[.slice A len cap] w (OneInt w) := by
  have HC := Lib.hid h0
  clear h0
  go_enter Tryd.func14, Tryd.ntmps14
  go_wp2_with fail
  refine (new w A len cap HC.out).mono ?_
  rintro e w1 ⟨g, rfl, hc, hb1⟩
  have HC1 := Lib.hid hc
  have hg := hc.lt.1
  clear hc
  go_wp2_with fail
  refine (once w1 _ g A len cap 3 HC1.out).mono ?_
  rintro e w2 ⟨x, rfl, hc, hg2⟩
  have HC2 := Lib.hid hc
  have hb2 := below_of hb1 hg hg2
  clear hc
  cases x
  · go_wp2_with fail
    refine (number w2 _ g A len cap HC2.out).mono ?_
    rintro e w3 ⟨y, hy, rfl, hc, hg3⟩
    have HY := Lib.hid hy
    have hb3 := below_of hb2 hg hg3
    clear hc hy
    go_wp2
    go_ret
    exact ⟨_, HY.out, rfl, hb3⟩
  · go_wp2_with fail
    refine (below w2 _ g A len cap 1000000 HC2.out).mono ?_
    rintro e w3 ⟨y, hy, rfl, hc, hg3⟩
    obtain ⟨y0, y1⟩ := hy.2 (by omega)
    have HC3 := Lib.hid hc
    have hb3 := below_of hb2 hg hg3
    clear hc hy
    go_wp2_with fail
    refine (below w3 _ g A len cap 2000000 HC3.out).mono ?_
    rintro e w4 ⟨z, hz, rfl, hc, hg4⟩
    obtain ⟨z0, z1⟩ := hz.2 (by omega)
    obtain ⟨m0, m1⟩ := mul_bd y z ⟨y0, y1⟩ ⟨z0, z1⟩
    have hb4 := below_of hb3 hg hg4
    clear hc hz
    go_wp2
    go_ret
    exact ⟨y * (z - 1000000), ⟨by omega, by omega⟩, by go_num, hb4⟩

theorem itoa_ne (n : Int) : Lib.itoa n ≠ [] := by
  unfold Lib.itoa
  split
  · simp
  · exact dd_ne _
theorem numS_ne (n : Int) : (numS n).toList = [] → False := by
  rw [ByteArray.toList_eq]
  unfold numS
  intro h
  exact itoa_ne n (by simpa using h)
theorem numS_nat (n : Int) (m : Nat) (h : numS n = numS (m : Int)) : n = m := by
  have h1 := numS_digits m _ h
  by_cases hn : 0 ≤ n
  · obtain ⟨k, rfl⟩ := Int.eq_ofNat_of_zero_le hn
    rw [numS_inj k m h]
  · exfalso
    unfold numS Lib.itoa at h1
    rw [if_pos (by omega)] at h1
    have h2 := allD_dd m 45 (by rw [← h1]; simp)
    exact absurd h2.1 (by decide)
theorem numS_size (n : Int) (h : I64 n) : (numS n).size ≤ 1048576 := by
  have hl : (Lib.itoa n).length ≤ 21 := by
    obtain ⟨h1, h2⟩ := h
    unfold Lib.itoa
    split
    · rw [List.length_cons]
      have := dd_length20 n.natAbs (by omega)
      omega
    · have := dd_length20 n.toNat (by omega)
      omega
  have : (numS n).size = (Lib.itoa n).length := by unfold numS; simp [ByteArray.size]
  omega

set_option maxHeartbeats 400000 in
theorem numbers_law (A : Option Addr) (len cap : Nat) (zs : List Int) (w : World) (h0 : IsRow .u8 w A len cap zs) (hp : Errs w ∧ Pow w) :
    Calls Tryd.prog 4 #[.slice A len cap] w fun e w' => e = .returned (.bool true) ∧ Below w.heap.size w w' := by
  have hlen := row_len h0
  obtain ⟨he, ht⟩ := hp
  by_cases hbig : (1048576 : Int) < (len : Int)
  · go_enter Tryd.func4, Tryd.ntmps4
    go_wp2_with fail
    refine (big w A len cap hlen).mono ?_
    rintro e w' ⟨rfl, rfl⟩
    go_wp2
    go_ret
    exact ⟨rfl, Below.refl _ _⟩
  · have HC := Lib.hid (coded_of_row h0 (by omega))
    have HF := Lib.hid (fun (n : Int) h0 h1 (w1 : World) (hb : Below w.heap.size w w1) => impl_fmt n h0 h1 w1 (Joins.tab_stays gPow ht hb (Nat.le_refl _)))
    have HP := Lib.hid (fun (s : ByteArray) (hs : s.size ≤ 1048576) w1 (hb : Below w.heap.size w w1) => impl_par s w1 hs (errs_stay he hb) (Joins.tab_stays gPow ht hb (Nat.le_refl _)))
    clear h0 he ht
    go_enter Tryd.func4, Tryd.ntmps4
    go_wp2_with fail
    refine (big w A len cap hlen).mono ?_
    rintro e w' ⟨rfl, rfl⟩
    go_wp2_with fail
    refine (drawInt w A len cap HC.out).mono ?_
    rintro e w1 ⟨n, hn, rfl, hb1⟩
    have HN := Lib.hid hn
    clear hn
    go_wp2_with fail
    refine (HF.out n HN.out.1 HN.out.2 w1 hb1).mono ?_
    rintro e w2 ⟨rfl, hb2⟩
    have hb := hb1.trans (hb2.mono hb1.size)
    clear hb2
    go_wp2_with fail
    refine (HP.out (numS n) (numS_size n HN.out) w2 hb).mono ?_
    rintro e w3 ⟨hr, hb3⟩
    have hb' := hb.trans (hb3.mono hb.size)
    clear hb3 hb hb1
    have hne : (numS n).toList.isEmpty = false := by
      cases h : (numS n).toList with
      | nil => exact (numS_ne n h).elim
      | cons _ _ => rfl
    rcases hr with ⟨m, hm, hsm, rfl⟩ | ⟨hno, rfl⟩
    · obtain rfl := numS_nat n m hsm
      clear hsm
      have hmm : ((m : Int) == (m : Int)) = true := by simp
      generalize numS (m : Int) = r at hne ⊢
      go_wp2
      go_ret
      exact ⟨rfl, hb'⟩
    · have hout : ¬ (0 ≤ n ∧ n ≤ 1000000000) := by
        rintro ⟨h1, h2⟩
        obtain ⟨k, rfl⟩ := Int.eq_ofNat_of_zero_le h1
        exact hno k (by omega) rfl
      clear hno
      by_cases h1 : 0 ≤ n
      · have h2 : 1000000000 < n := by omega
        clear hout
        generalize numS n = r at hne ⊢
        go_wp2
        go_ret
        exact ⟨rfl, hb'⟩
      · clear hout
        generalize numS n = r at hne ⊢
        go_wp2
        go_ret
        exact ⟨rfl, hb'⟩
end Go.Proofs.YtbfmodoofkgicaaDoor.Num
