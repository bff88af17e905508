/- FormatInt, the model's: it returns the decimal numeral of n, with a leading minus sign for a negative number; nothing that was there is written. -/
import Derived.Test.YtpeolcgogidipaaDoorFig
import Derived.Lib.ItoaNum
namespace Go.Proofs.YtpeolcgogidipaaDoor.Fmt
set_option linter.unusedVariables false
open Go.RowKit Go.Proofs.YtpeolcgogidipaaDoor.Base Go.Proofs.YtpeolcgogidipaaDoor.Hex

/-- the numeral. -/
def numS (n : Int) : ByteArray := ⟨(Lib.itoa n).toArray⟩
/-- the digits of a number, none for 0. -/
def Dg (q : Nat) : List UInt8 := if q = 0 then [] else Lib.decDigits q
theorem Dg_step (q : Nat) (h : q ≠ 0) : Dg q = Dg (q / 10) ++ [UInt8.ofNat (48 + q % 10)] := by
  unfold Dg
  rw [if_neg h]
  by_cases h1 : q < 10
  · rw [if_pos (by omega), Lib.decDigits, dif_pos h1, Nat.mod_eq_of_lt h1]; rfl
  · rw [if_neg (by omega), Lib.decDigits, dif_neg h1]
theorem fig_byte (q : Nat) : UInt8.ofNat (fig ((q : Int) % 10)).toNat = UInt8.ofNat (48 + q % 10) := by
  unfold fig
  rw [if_pos (by omega)]
  have : (48 + (q : Int) % 10).toNat = 48 + q % 10 := by omega
  rw [this]
/-- one digit more, ahead of the others. -/
theorem more (q : Nat) (h : q ≠ 0) (t : ByteArray) (l : List UInt8) (hl : l = Dg q ++ t.data.toList) : l = Dg (q / 10) ++ (strOfNums [fig ((q : Int) % 10)] ++ t).data.toList := by
  rw [hl, Dg_step q h, List.append_assoc]
  congr 1
  have e : (strOfNums [fig ((q : Int) % 10)] ++ t).data.toList = (strOfNums [fig ((q : Int) % 10)]).data.toList ++ t.data.toList := by
    rw [ByteArray.data_append, Array.toList_append]
  rw [e, strOfNums_data]
  simp only [List.map_cons, List.map_nil, fig_byte]
theorem nDigits_le (u : Nat) : Lib.nDigits u ≤ u / 10 + 1 := by
  induction u using Nat.strongRecOn with
  | _ u ih =>
    by_cases h1 : u < 10
    · rw [Lib.nDigits_small h1]; omega
    · rw [Lib.nDigits_big h1]
      have := ih (u / 10) (by omega)
      omega
theorem Dg_length (q : Nat) : (Dg q).length = if q = 0 then 0 else Lib.nDigits q := by
  unfold Dg
  split
  · rfl
  · exact Lib.decDigits_length q
/-- there is room for one digit more. -/
theorem room (a q : Nat) (t : ByteArray) (d : Int) (ha : 0 < a) (hq : q ≠ 0) (h : Dg a = Dg q ++ t.data.toList) : (strOfNums [d]).size + t.size ≤ a / 10 + 1 := by
  have e := congrArg List.length h
  rw [List.length_append, Dg_length, Dg_length, if_neg (by omega), if_neg hq, show t.data.toList.length = t.size from Array.length_toList] at e
  rw [strOfNums_size]
  have h1 := nDigits_le a
  have h2 := Lib.nDigits_pos q
  simp only [List.length_cons, List.length_nil]
  omega
theorem bytes_ext {t : ByteArray} {l : List UInt8} (h : t.data.toList = l) : t = ⟨l.toArray⟩ := by
  cases t with
  | mk d => subst h; simp

set_option maxHeartbeats 400000 in
theorem spec_pos (a : Nat) (ha : 0 < a) (hm : a ≤ 9223372036854775807) (w : World) :
    Calls Tryd.prog 57 #[.int .i64 (a : Int)] w fun e w' => e = .returned (.string ⟨(Lib.decDigits a).toArray⟩) ∧ Below w.heap.size w w' := by
  have h0 : ((a : Int) == 0) = false := by simp; omega
  have h1 : decide ((a : Int) < 0) = false := by simp
  have HD := Lib.hid (show Dg a = Lib.decDigits a by unfold Dg; rw [if_neg (by omega)])
  have HM := Lib.hid hm
  clear hm
  go_enter Tryd.func57, Tryd.ntmps57
  go_wp2_with fail
  clear h0 h1
  go_loopw [0, 4, 5] (fun m s _ wr => ∃ (q : Nat) (t : ByteArray), q ≤ a ∧ m = .int .i64 (q : Int) ∧ s = .string t ∧ Hid (Dg a = Dg q ++ t.data.toList) ∧ Below w.heap.size w wr) (fun m _ _ _ => (intOf m).toNat)
  case atStart => exact ⟨a, ⟨#[]⟩, Nat.le_refl _, rfl, rfl, Lib.hid (by simp), Below.refl _ _⟩
  case round =>
    obtain ⟨q, t, hq, rfl, rfl, HT, hb⟩ := hrel
    by_cases hz : q = 0
    · have hne : ((q : Int) != 0) = false := by simp; omega
      have hres := Lib.hid (bytes_ext (t := t) (l := Lib.decDigits a) (by rw [← HD.out, HT.out, hz]; rfl))
      clear hz
      go_wp2
      go_ret
      exact ⟨by rw [← hres.out]; rfl, hb⟩
    · have hne : ((q : Int) != 0) = true := by simp; omega
      have hqm : q ≤ 9223372036854775807 := by have := HM.out; omega
      go_wp2_with fail
      refine (figure _ _ (by omega) (by omega)).mono ?_
      rintro e w' ⟨rfl, rfl⟩
      have HTT := Lib.hid (more q hz t _ HT.out)
      have hconv : ∀ (W : World) (x : Int), (convert 22 9 (.slice (some ⟨W.heap.size, 0, none⟩) 1 1)).run Tryd.prog (W.alloc (.cells #[.int .u8 x] 5)) = .ok (.string (strOfNums [x])) (W.alloc (.cells #[.int .u8 x] 5)) := fun W x =>
        run_convert_bytes_arg _ 22 5 Tryd.underlying22 Tryd.underlying5 W.heap.size 0 1 1 [x] rfl (fun i hi => by
          obtain rfl : i = 0 := by omega
          exact (cell_of_row _ _ 0 _ _ (0, 0) (heap_alloc_new W _)).trans rfl) 9 Tryd.underlying9
      generalize fig ((q : Int) % 10) = d at HTT ⊢
      have hsz : (strOfNums [d]).size + t.size ≤ 9223372036854775807 := Nat.le_trans (room a q t d ha hz HT.out) (by have := HM.out; omega)
      have hbs := hb.size
      go_wp2
      go_roundw
      case rel => exact ⟨q / 10, strOfNums [d] ++ t, by omega, by go_num, rfl, HTT, hb.alloc hbs _⟩
      case measure => simp [intOf]; omega
set_option maxHeartbeats 400000 in
theorem spec_neg (a : Nat) (ha : 0 < a) (hm : a ≤ 9223372036854775808) (w : World) :
    Calls Tryd.prog 57 #[.int .i64 (-(a : Int))] w fun e w' => e = .returned (.string (⟨#[45]⟩ ++ ⟨(Lib.decDigits a).toArray⟩)) ∧ Below w.heap.size w w' := by
  have h0 : (-(a : Int) == 0) = false := by simp; omega
  have h1 : decide (-(a : Int) < 0) = true := by simp; omega
  have HD := Lib.hid (show Dg a = Lib.decDigits a by unfold Dg; rw [if_neg (by omega)])
  have HM := Lib.hid hm
  clear hm
  go_enter Tryd.func57, Tryd.ntmps57
  go_wp2_with fail
  clear h0 h1
  go_loopw [0, 4, 5] (fun m s _ wr => ∃ (q : Nat) (t : ByteArray), q ≤ a ∧ m = .int .i64 (-(q : Int)) ∧ s = .string t ∧ Hid (Dg a = Dg q ++ t.data.toList) ∧ Below w.heap.size w wr) (fun m _ _ _ => (intOf m).natAbs)
  case atStart => exact ⟨a, ⟨#[]⟩, Nat.le_refl _, rfl, rfl, Lib.hid (by simp), Below.refl _ _⟩
  case round =>
    obtain ⟨q, t, hq, rfl, rfl, HT, hb⟩ := hrel
    by_cases hz : q = 0
    · have hne : (-(q : Int) != 0) = false := by simp; omega
      have hsz : (⟨#[45]⟩ : ByteArray).size + t.size ≤ 9223372036854775807 := by
        have e := congrArg List.length HT.out
        rw [List.length_append, Dg_length, Dg_length, if_neg (by omega), if_pos hz, show t.data.toList.length = t.size from Array.length_toList] at e
        have h1 := nDigits_le a
        have h2 := HM.out
        have h3 : (⟨#[45]⟩ : ByteArray).size = 1 := rfl
        omega
      have hres := Lib.hid (bytes_ext (t := t) (l := Lib.decDigits a) (by rw [← HD.out, HT.out, hz]; rfl))
      clear hz
      go_wp2
      go_ret
      exact ⟨by rw [← hres.out]; rfl, hb⟩
    · have hne : (-(q : Int) != 0) = true := by simp; omega
      have hqm : q ≤ 9223372036854775808 := by have := HM.out; omega
      have hconv : ∀ (W : World) (x : Int), (convert 22 9 (.slice (some ⟨W.heap.size, 0, none⟩) 1 1)).run Tryd.prog (W.alloc (.cells #[.int .u8 x] 5)) = .ok (.string (strOfNums [x])) (W.alloc (.cells #[.int .u8 x] 5)) := fun W x =>
        run_convert_bytes_arg _ 22 5 Tryd.underlying22 Tryd.underlying5 W.heap.size 0 1 1 [x] rfl (fun i hi => by
          obtain rfl : i = 0 := by omega
          exact (cell_of_row _ _ 0 _ _ (0, 0) (heap_alloc_new W _)).trans rfl) 9 Tryd.underlying9
      have HTT := Lib.hid (more q hz t _ HT.out)
      have HF : Hid (fig (-((q : Int) % 10)) = fig ((q : Int) % 10) ∨ 0 < (q : Int) % 10) := Lib.hid (by
        by_cases h : 0 < (q : Int) % 10
        · exact .inr h
        · exact .inl (by rw [show -((q : Int) % 10) = (q : Int) % 10 from by omega]))
      by_cases hd : 0 < (q : Int) % 10
      all_goals
        go_wp2_with fail
        refine (figure _ _ (by omega) (by omega)).mono ?_
        rintro e w' ⟨rfl, rfl⟩
        first
        | rw [show fig (-((q : Int) % 10)) = fig ((q : Int) % 10) from HF.out.resolve_right (by omega)]
        | skip
        generalize fig ((q : Int) % 10) = d at HTT ⊢
        have hsz : (strOfNums [d]).size + t.size ≤ 9223372036854775807 := Nat.le_trans (room a q t d ha hz HT.out) (by have := HM.out; omega)
        have hbs := hb.size
        clear HF
        go_wp2
        go_roundw
        case rel => exact ⟨q / 10, strOfNums [d] ++ t, by omega, by go_num, rfl, HTT, hb.alloc hbs _⟩
        case measure => simp [intOf]; omega

theorem itoa_pos (a : Nat) : Lib.itoa (a : Int) = Lib.decDigits a := by unfold Lib.itoa; rw [if_neg (by omega)]; rfl
theorem itoa_neg (a : Nat) (h : 0 < a) : Lib.itoa (-(a : Int)) = 45 :: Lib.decDigits a := by unfold Lib.itoa; rw [if_pos (by omega)]; simp

theorem spec_zero (w : World) :
    Calls Tryd.prog 57 #[.int .i64 0] w fun e w' => e = .returned (.string ⟨#[48]⟩) ∧ Below w.heap.size w w' := by
  go_enter Tryd.func57, Tryd.ntmps57
  go_wp2
  go_ret
  exact ⟨rfl, Below.refl _ _⟩

/-- the model's FormatInt at every int. -/
theorem spec_fmt (n : Int) (h0 : -9223372036854775808 ≤ n) (h1 : n ≤ 9223372036854775807) (w : World) :
    Calls Tryd.prog 57 #[.int .i64 n] w fun e w' => e = .returned (.string (numS n)) ∧ Below w.heap.size w w' := by
  by_cases hz : n = 0
  · subst hz
    refine (spec_zero w).mono fun e w' h => ⟨?_, h.2⟩
    rw [h.1]
    unfold numS Lib.itoa
    rw [if_neg (by decide), show (0 : Int).toNat = 0 from rfl, Lib.decDigits_one (by decide)]
    rfl
  · by_cases hp : 0 < n
    · obtain ⟨a, rfl⟩ := Int.eq_ofNat_of_zero_le (by omega : 0 ≤ n)
      refine (spec_pos a (by omega) (by omega) w).mono fun e w' h => ⟨?_, h.2⟩
      rw [h.1]
      unfold numS
      rw [itoa_pos]
    · obtain ⟨a, ha⟩ := Int.eq_ofNat_of_zero_le (by omega : 0 ≤ -n)
      obtain rfl : n = -(a : Int) := by omega
      refine (spec_neg a (by omega) (by omega) w).mono fun e w' h => ⟨?_, h.2⟩
      rw [h.1]
      unfold numS
      rw [itoa_neg a (by omega)]
      congr 2
end Go.Proofs.YtpeolcgogidipaaDoor.Fmt
