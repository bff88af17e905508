/- ParseUint, the model's: the number from 0 to 1000000000 whose numeral the text is, and true; 0 and false if there is none. -/
import Derived.Test.YtbfmodoofkgicaaDoorFmtS
import Derived.Test.YtbfmodoofkgicaaDoorParM
namespace Go.Proofs.YtbfmodoofkgicaaDoor.Par
set_option linter.unusedVariables false
open Go.RowKit Go.Proofs.YtbfmodoofkgicaaDoor.Base Go.Proofs.YtbfmodoofkgicaaDoor.Hex Go.Proofs.YtbfmodoofkgicaaDoor.Fmt

/-- what both return. -/
def ParPost (s : ByteArray) (w : World) (e : Ending) (w' : World) : Prop :=
  ((∃ m : Nat, m ≤ 1000000000 ∧ s = numS (m : Int) ∧ e = .returned (.tuple #[.int .i64 (m : Int), .bool true])) ∨
   ((∀ m : Nat, m ≤ 1000000000 → s ≠ numS (m : Int)) ∧ e = .returned (.tuple #[.int .i64 0, .bool false]))) ∧ Below w.heap.size w w'

theorem numS_list (m : Nat) : (numS (m : Int)).data.toList = Lib.decDigits m := by unfold numS; rw [itoa_pos]
theorem numS_digits (m : Nat) (s : ByteArray) (h : s = numS (m : Int)) : s.data.toList = Lib.decDigits m := by rw [h, numS_list]

set_option maxHeartbeats 400000 in
theorem spec_par (s : ByteArray) (w : World) (hs : s.size ≤ 1048576) : Calls Tryd.prog 21 #[.string s] w (ParPost s w) := by
  by_cases hl : 10 < s.size
  · have HN := Lib.hid (show ∀ m : Nat, m ≤ 1000000000 → s ≠ numS (m : Int) from fun m hm he => by
      have h1 := congrArg List.length (numS_digits m s he)
      rw [show s.data.toList.length = s.size from Array.length_toList] at h1
      have := dd_length m (by omega)
      omega)
    go_enter Tryd.func21, Tryd.ntmps21
    go_wp2
    go_ret2
    exact ⟨.inr ⟨HN.out, rfl⟩, Below.refl _ _⟩
  · go_enter Tryd.func21, Tryd.ntmps21
    go_wp2_with fail
    go_loop [4, 5] (fun n i => ∃ k : Nat, k ≤ s.size ∧ i = .int .i64 k ∧ Hid (AllD (s.data.toList.take k)) ∧ n = .int .i64 (valD (s.data.toList.take k) : Int)) (fun _ i => s.size - (intOf i).toNat)
    case atStart => exact ⟨0, Nat.zero_le _, rfl, Lib.hid (by intro c hc; simp at hc), rfl⟩
    case round =>
      obtain ⟨k, hk, rfl, HA, rfl⟩ := hrel
      have hlen : (s.data.toList.take k).length = k := by rw [List.length_take, show s.data.toList.length = s.size from Array.length_toList]; omega
      have hv := valD_lt k _ hlen HA.out
      by_cases hlt : k < s.size
      · have hv2 : valD (s.data.toList.take k) ≤ 1000000000 := by
          have := Nat.pow_le_pow_right (n := 10) (by omega) (show k ≤ 9 by omega)
          omega
        have HS := Lib.hid (take_snoc s k hlt)
        have c256 : s[k].toNat < 256 := s[k].toNat_lt
        clear hv hlen
        by_cases hd : 48 ≤ s[k].toNat ∧ s[k].toNat ≤ 57
        · obtain ⟨d1, d2⟩ := hd
          have HV := Lib.hid (show valD (s.data.toList.take (k + 1)) = 10 * valD (s.data.toList.take k) + (s[k].toNat - 48) by rw [HS.out, valD_snoc])
          have HA2 := Lib.hid (show AllD (s.data.toList.take (k + 1)) by
            rw [HS.out]; intro c hc; rw [List.mem_append] at hc
            rcases hc with hc | hc
            · exact HA.out c hc
            · simp only [List.mem_singleton] at hc; rw [hc]; exact ⟨d1, d2⟩)
          generalize valD (s.data.toList.take k) = v at hv2 HV ⊢
          go_wp2
          go_round
          case rel => exact ⟨k + 1, by omega, by go_num, HA2, by rw [HV.out]; go_num⟩
          case measure => simp [intOf]; omega
        · have HN := Lib.hid (show ∀ m : Nat, m ≤ 1000000000 → s ≠ numS (m : Int) from fun m hm he => by
            have h1 := numS_digits m s he
            have h2 := allD_dd m s[k] (by rw [← h1]; exact Array.mem_toList_iff.2 (Array.getElem_mem _))
            exact hd h2)
          by_cases d1 : 48 ≤ s[k].toNat
          · have d2 : 57 < s[k].toNat := by omega
            clear hd
            go_wp2
            go_ret2
            exact ⟨.inr ⟨HN.out, rfl⟩, Below.refl _ _⟩
          · clear hd
            go_wp2
            go_ret2
            exact ⟨.inr ⟨HN.out, rfl⟩, Below.refl _ _⟩
      · obtain rfl : k = s.size := by omega
        have hfull : s.data.toList.take s.size = s.data.toList := List.take_of_length_le (by rw [show s.data.toList.length = s.size from Array.length_toList]; omega)
        rw [hfull] at hv ⊢
        have HW := Lib.hid (show ∀ m : Nat, s = numS (m : Int) → valD s.data.toList = m from fun m he => by rw [numS_digits m s he, valD_dd])
        have hv2 : valD s.data.toList < 10000000000 := by
          have := Nat.pow_le_pow_right (n := 10) (by omega) (show s.size ≤ 10 by omega)
          omega
        clear hfull hv hlen HA
        generalize valD s.data.toList = v at hv2 HW ⊢
        by_cases hbig : 1000000000 < v
        · have HN := Lib.hid (show ∀ m : Nat, m ≤ 1000000000 → s ≠ numS (m : Int) from fun m hm he => by have := HW.out m he; omega)
          go_wp2
          go_ret2
          exact ⟨.inr ⟨HN.out, rfl⟩, Below.refl _ _⟩
        · have HF := Lib.hid (spec_fmt (v : Int) (by omega) (by omega) w)
          go_wp2_with fail
          refine HF.out.mono ?_
          rintro e w1 ⟨rfl, hb1⟩
          by_cases he : s = numS (v : Int)
          · have hq := str_eq he.symm
            have HE := Lib.hid he
            clear he
            generalize numS (v : Int) = r at hq ⊢
            go_wp2
            go_ret2
            exact ⟨.inl ⟨v, by omega, HE.out, rfl⟩, hb1⟩
          · have HN := Lib.hid (show ∀ m : Nat, m ≤ 1000000000 → s ≠ numS (m : Int) from fun m hm h => by
              obtain rfl := HW.out m h
              exact he h)
            have hq := str_ne (fun h => he h.symm)
            clear he
            generalize numS (v : Int) = r at hq ⊢
            go_wp2
            go_ret2
            exact ⟨.inr ⟨HN.out, rfl⟩, hb1⟩
end Go.Proofs.YtbfmodoofkgicaaDoor.Par
