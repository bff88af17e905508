/- RegionText: the program's function and the model's write the same texts, in new memory. -/
import Derived.Test.YtgngeebafpabdaaRegHas
import Derived.Test.YtgngeebafpabdaaRegL
import Derived.Deep.DeepAppendRoom
namespace Go.Proofs.Ytgngeebafpabdaa.Reg
set_option linter.unusedVariables false
open Go.RowKit Go.Proofs.Ytgngeebafpabdaa.Base Go.Proofs.Ytgngeebafpabdaa.Pure Go.Proofs.Ytgngeebafpabdaa.Cell Go.Joins

theorem byteInfo : (Try.prog.info? 5).map (fun i => (i.zero, i.size, i.bytes)) = some (some (.int .u8 0), 1, 1) := by kernel_rfl
theorem strInfo : (Try.prog.info? 9).map (fun i => (i.zero, i.size, i.bytes)) = some (some (.string ⟨#[]⟩), 1, 16) := by kernel_rfl
/-- bytes, as they lie in memory. -/
def bytes (xs : List Int) : List Value := xs.map (Value.int .u8)
theorem bytes_length (xs : List Int) : (bytes xs).length = xs.length := by unfold bytes; simp
theorem bytes_snoc (xs : List Int) (x : Int) : bytes (xs ++ [x]) = bytes xs ++ [.int .u8 x] := by unfold bytes; simp
theorem chars_step (r : Int) (k : Nat) (c : Int) (hk : k < 8) (hc : charsTo r (k + 1) = charsTo r k ++ [c]) : (bytes (charsTo r k) ++ List.replicate (8 - k) (Value.int .u8 0)).set k (.int .u8 c) = bytes (charsTo r (k + 1)) ++ List.replicate (8 - (k + 1)) (Value.int .u8 0) := by
  have hl : (bytes (charsTo r k)).length = k := by rw [bytes_length, charsTo_length]
  rw [List.set_append_right _ _ (by omega), hl, Nat.sub_self, show 8 - k = (8 - (k + 1)) + 1 by omega, List.replicate_succ, List.set_cons_zero, hc, bytes_snoc, List.append_assoc]
  rfl

set_option maxRecDepth 100000 in
set_option maxHeartbeats 1000000 in
theorem iRowText (w : World) (r : Int) (h0 : 0 ≤ r) (h1 : r ≤ 255) :
    Calls Try.prog 49 #[.int .i64 r] w fun e w' => e = .returned (.string (rowS r)) ∧ Below w.heap.size w w' := by
  obtain ⟨i0, hi, hz0, hz1, hz2⟩ := info_parts byteInfo
  have HKd := Lib.hid (fun x hx8 W => iKindAt r x h0 h1 hx8 W)
  clear h0 h1
  go_enter Try.func49, Try.ntmps49
  go_wp2_with (first | (at_make; refine wpList_make_full _ rfl _ _ 22 rfl w.heap.size 5 i0 (.int .u8 0) 1 Try.underlying22 hi hz0 hz1 .i64 .i64 8 8 8 rfl rfl rfl rfl (by rw [hz2]; omega) (by unfold maxLen; omega) (Nat.le_refl _) ?_; intro w1 hown1 hg1))
  have hb1 : Below w.heap.size w w1 := (Below.refl _ _).grown hg1 (Nat.le_refl _) (by simp)
  have HO := Lib.hid (show w1.ownsRow w.heap.size 5 1 (.slice (some ⟨w.heap.size, 0, none⟩) 8 8) 8 (bytes (charsTo r 0) ++ List.replicate (8 - 0) (.int .u8 0)) by
    rw [show (Value.int .u8 0).cells = #[.int .u8 0] from rfl, Nat.mul_one, toList_madeCells_one] at hown1
    exact hown1)
  clear hown1 hg1 hi hz0 hz1 hz2
  go_loopw [8] (fun i wr => ∃ k : Nat, k ≤ 8 ∧ i = .int .i64 k ∧ wr.ownsRow w.heap.size 5 1 (.slice (some ⟨w.heap.size, 0, none⟩) 8 8) 8 (bytes (charsTo r k) ++ List.replicate (8 - k) (.int .u8 0)) ∧ Below w.heap.size w wr) (fun i _ => 8 - (intOf i).toNat)
  case atStart => exact ⟨0, Nat.zero_le _, rfl, HO.out, hb1⟩
  case round =>
    clear HO hb1
    obtain ⟨k, hk, rfl, hown, hb⟩ := hrel
    have hbs := hb.size
    by_cases hlt : k < 8
    · have HC := Lib.hid (fun W => HKd.out k hlt W)
      have hu : ∃ u, wr.cell? ⟨w.heap.size, k, none⟩ = some u := by
        have hlen := hown.1
        rw [hown.cellAt k (by omega)]; exact ⟨_, List.getElem?_eq_getElem (by omega)⟩
      obtain ⟨u, hu⟩ := hu
      have hf := hown.frozenAt k
      have hcs : kindN r k = 1 ∧ Hid (charsTo r (k + 1) = charsTo r k ++ [35]) ∨ kindN r k = 0 ∧ Hid (charsTo r (k + 1) = charsTo r k ++ [46]) := by
        cases hb : bitB r k with
        | true => exact .inl ⟨kindN_yes hb, Lib.hid (charsTo_yes hb)⟩
        | false => exact .inr ⟨kindN_no hb, Lib.hid (charsTo_no hb)⟩
      have HOwn := Lib.hid hown
      clear hown
      generalize kindN r k = kd at HC hcs
      go_wp2_with fail
      refine (HC.out _).mono ?_
      rintro e w2 ⟨rfl, rfl⟩
      clear HC
      rcases hcs with ⟨rfl, HN⟩ | ⟨rfl, HN⟩
      · have R := Lib.hid (show (w2.setCell ⟨w.heap.size, k, none⟩ (.int .u8 35)).ownsRow w.heap.size 5 1 (.slice (some ⟨w.heap.size, 0, none⟩) 8 8) 8 (bytes (charsTo r (k + 1)) ++ List.replicate (8 - (k + 1)) (.int .u8 0)) by
          rw [← chars_step r k 35 hlt HN.out]; exact (HOwn.out.stored k (.int .u8 35)).1)
        have HB := Lib.hid (hb.setCell (p := ⟨w.heap.size, k, none⟩) (Nat.le_refl _) (.int .u8 35))
        clear HOwn hb
        go_wp2
        go_roundw
        case rel => exact ⟨k + 1, by omega, by go_num, R.out, HB.out⟩
        case measure => (simp [intOf] <;> omega)
      · have R := Lib.hid (show (w2.setCell ⟨w.heap.size, k, none⟩ (.int .u8 46)).ownsRow w.heap.size 5 1 (.slice (some ⟨w.heap.size, 0, none⟩) 8 8) 8 (bytes (charsTo r (k + 1)) ++ List.replicate (8 - (k + 1)) (.int .u8 0)) by
          rw [← chars_step r k 46 hlt HN.out]; exact (HOwn.out.stored k (.int .u8 46)).1)
        have HB := Lib.hid (hb.setCell (p := ⟨w.heap.size, k, none⟩) (Nat.le_refl _) (.int .u8 46))
        clear HOwn hb
        go_wp2
        go_roundw
        case rel => exact ⟨k + 1, by omega, by go_num, R.out, HB.out⟩
        case measure => (simp [intOf] <;> omega)
    · obtain rfl : k = 8 := by omega
      have hc := convert_own (xs := charsTo r 8) (show wr.ownsRow w.heap.size 5 1 (.slice (some ⟨w.heap.size, 0, none⟩) 8 8) 8 ((charsTo r 8).map (Value.int .u8)) by simpa [bytes] using hown) Try.underlying22 Try.underlying5 Try.underlying9
      have HR := Lib.hid (show rowS r = strOfNums (charsTo r 8) from rfl)
      generalize strOfNums (charsTo r 8) = t at hc HR
      clear hown
      go_wp2
      go_ret
      exact ⟨by rw [HR.out]; rfl, hb⟩

/-- an answer: texts in memory of the call's own. -/
def StrPost (L : List ByteArray) (m : Nat) (w : World) (e : Ending) (w' : World) : Prop :=
  ∃ (A : Option Addr) (cap : Nat), e = .returned (.slice A m cap) ∧ w'.ownsRow w.heap.size 9 1 (.slice A m cap) m (L.map Value.string) ∧ Below w.heap.size w w'
theorem texts_step (xs : List Int) (n k : Nat) (hx : xs.length = n) (hk : k < n) : (((xs.take k).map rowS).map Value.string ++ List.replicate (n - k) (Value.string ⟨#[]⟩)).set k (.string (rowS xs[k])) = ((xs.take (k + 1)).map rowS).map Value.string ++ List.replicate (n - (k + 1)) (Value.string ⟨#[]⟩) := by
  have hl : (((xs.take k).map rowS).map Value.string).length = k := by rw [List.length_map, List.length_map, List.length_take]; omega
  rw [List.set_append_right _ _ (by omega), hl, Nat.sub_self, show n - k = (n - (k + 1)) + 1 by omega, List.replicate_succ, List.set_cons_zero, List.take_succ_eq_append_getElem (by omega), List.map_append, List.map_append, List.append_assoc]
  rfl

set_option maxRecDepth 100000 in
set_option maxHeartbeats 2000000 in
theorem iRegionText (w : World) (A : Option Addr) (n cap B : Nat) (xs : List Int) (hx : xs.length = n) (hn : (n : Int) ≤ 9223372036854775807) (h : RowB w B A xs) (hB : B ≤ w.heap.size) :
    Calls Try.prog 18 #[.agg #[.slice A n cap]] w (StrPost (textR xs) (textR xs).length w) := by
  obtain ⟨i0, hi, hz0, hz1, hz2⟩ := info_parts strInfo
  have T0 := Lib.hid (fun T => rb_start (T := T) (.slice A n cap) w)
  have HOk := Lib.hid (fun W (hb : Below w.heap.size w W) => iRegionOk W A n cap B xs hx hn (h.below hb hB) (by have := hb.size; omega))
  have HRow := Lib.hid (fun W (hb : Below w.heap.size w W) => h.below hb hB)
  have HX := Lib.hid hx
  clear hx h
  go_enter Try.func18, Try.ntmps18
  go_wp2_with fail
  have T1 := T0.out 26
  refine (HOk.out _ T1.1).mono ?_
  rintro e w1 ⟨rfl, hb1⟩
  have T2 := T1.on hb1
  clear T0 T1 hb1 HOk
  by_cases ho : okR xs
  · rw [okRB_of ho]
    have HE := Lib.hid (textR_ok ho)
    obtain ⟨_, hsz, c0⟩ := id T2
    have hn8 : n ≤ 8 := by have := ho.1; have := HX.out; omega
    have HOR := Lib.hid ho.2
    clear ho
    go_wp2_with (first | (at_make; refine wpList_make_full _ rfl _ _ 36 rfl w.heap.size 9 i0 (.string ⟨#[]⟩) 1 Try.underlying36 hi hz0 hz1 .i64 .i64 (n : Int) (n : Int) n rfl rfl rfl rfl (by rw [hz2]; omega) (by unfold maxLen; omega) (by omega) ?_; intro w2 hown2 hg2; have c2 := hg2.cell c0 (by simp)))
    have hb2 : Below w.heap.size w w2 := T2.1.grown hg2 (by omega) (by simp)
    have HO := Lib.hid (show w2.ownsRow w.heap.size 9 1 (.slice (some ⟨w1.heap.size, 0, none⟩) n n) n (((xs.take 0).map rowS).map Value.string ++ List.replicate (n - 0) (.string ⟨#[]⟩)) by
      rw [show (Value.string ⟨#[]⟩).cells = #[.string ⟨#[]⟩] from rfl, Nat.mul_one, toList_madeCells_one] at hown2
      exact hown2)
    clear hown2 hg2 hi hz0 hz1 hz2 c2 c0 T2
    generalize w1.heap.size = g at HO hsz ⊢
    go_loopw [16] (fun i wr => ∃ k : Nat, k ≤ n ∧ i = .int .i64 k ∧ wr.ownsRow w.heap.size 9 1 (.slice (some ⟨g, 0, none⟩) n n) n (((xs.take k).map rowS).map Value.string ++ List.replicate (n - k) (.string ⟨#[]⟩)) ∧ Below w.heap.size w wr) (fun i _ => n - (intOf i).toNat)
    case atStart => exact ⟨0, Nat.zero_le _, rfl, HO.out, hb2⟩
    case round =>
      clear HO hb2
      obtain ⟨k, hk, rfl, hown, hb⟩ := hrel
      have hbs := hb.size
      by_cases hlt : k < n
      · have hkx : k < xs.length := by have := HX.out; omega
        obtain ⟨b, off, hA, hc⟩ := HRow.out wr hb
        obtain ⟨rfl, hbB⟩ := hA (by omega)
        have hc1 := hc k xs[k] (List.getElem?_eq_getElem hkx)
        have hr := HOR.out xs[k] (List.getElem_mem hkx)
        have HRT := Lib.hid (fun W => iRowText W xs[k] hr.1 hr.2)
        have HStep := Lib.hid (texts_step xs n k HX.out hlt)
        clear hA hc hr
        generalize xs[k] = r at hc1 HRT HStep
        go_wp2_with fail
        refine (HRT.out _).mono ?_
        rintro e w3 ⟨rfl, hb3⟩
        have hown3 := own_below hown hb3 (Nat.le_refl _)
        have hgB := (hown3.lt g rfl).1
        have hu : ∃ u, w3.cell? ⟨g, k, none⟩ = some u := by
          have hlen := hown3.1
          rw [hown3.cellAt k (by omega)]; exact ⟨_, List.getElem?_eq_getElem (by omega)⟩
        obtain ⟨u, hu⟩ := hu
        have hf := hown3.frozenAt k
        obtain ⟨hst, _⟩ := hown3.stored k (.string (rowS r))
        rw [HStep.out] at hst
        have R := Lib.hid hst
        have HB := Lib.hid ((hb.trans (hb3.mono hbs)).setCell (p := ⟨g, k, none⟩) hgB (.string (rowS r)))
        clear hown hown3 hst hb hb3 HRT HStep hc1
        generalize rowS r = t at R HB ⊢
        go_wp2
        go_roundw
        case rel => exact ⟨k + 1, by omega, by go_num, R.out, HB.out⟩
        case measure => (simp [intOf] <;> omega)
      · obtain rfl : k = n := by omega
        have R := Lib.hid (show wr.ownsRow w.heap.size 9 1 (.slice (some ⟨g, 0, none⟩) k k) k ((xs.map rowS).map Value.string) by
          rw [Nat.sub_self, List.take_of_length_le (by rw [HX.out]; omega)] at hown
          simpa using hown)
        have HLn := Lib.hid (show (xs.map rowS).length = k by rw [List.length_map]; exact HX.out)
        clear hown
        go_wp2
        go_ret
        rw [HE.out, HLn.out]
        exact ⟨_, k, rfl, R.out, hb⟩
  · rw [okRB_not ho]
    have HE := Lib.hid (textR_not ho)
    have hb := T2.1
    clear ho T2
    go_wp2
    go_ret
    rw [HE.out]
    exact ⟨none, 0, rfl, ⟨rfl, .inl ⟨rfl, rfl⟩⟩, hb⟩
end Go.Proofs.Ytgngeebafpabdaa.Reg
