/- RegionText, the model's. -/
import Derived.Test.YtgngeebafpabdaaRegTx
namespace Go.Proofs.Ytgngeebafpabdaa.Reg
set_option linter.unusedVariables false
open Go.RowKit Go.Proofs.Ytgngeebafpabdaa.Base Go.Proofs.Ytgngeebafpabdaa.Pure Go.Proofs.Ytgngeebafpabdaa.Cell Go.Joins

theorem charsS_yes {r : Int} {k : Nat} (h : bitB r k = true) : strOfNums (charsTo r (k + 1)) = strOfNums (charsTo r k) ++ ⟨#[35]⟩ := by rw [charsTo_yes h, strOfNums_app]; rfl
theorem charsS_no {r : Int} {k : Nat} (h : bitB r k = false) : strOfNums (charsTo r (k + 1)) = strOfNums (charsTo r k) ++ ⟨#[46]⟩ := by rw [charsTo_no h, strOfNums_app]; rfl
theorem texts_snoc (xs : List Int) (k : Nat) (hk : k < xs.length) : ((xs.take (k + 1)).map rowS).map Value.string = ((xs.take k).map rowS).map Value.string ++ [.string (rowS xs[k])] := by
  rw [List.take_succ_eq_append_getElem hk, List.map_append, List.map_append]; rfl

set_option maxRecDepth 100000 in
set_option maxHeartbeats 2000000 in
theorem sRegionText (w : World) (A : Option Addr) (n cap B : Nat) (xs : List Int) (hx : xs.length = n) (hn : (n : Int) ≤ 9223372036854775807) (h : RowB w B A xs) (hB : B ≤ w.heap.size) :
    Calls Try.prog 41 #[.agg #[.slice A n cap]] w (StrPost (textR xs) (textR xs).length w) := by
  obtain ⟨i0, hi, hz0, hz1, hz2⟩ := info_parts strInfo
  have HM := Lib.hid (fun (W : World) => World.ownsRow_made (e := 9) (size := 1) W #[] 0 (Nat.le_refl _) (by unfold maxLen; omega) rfl)
  have HB := Lib.hid (fun (T : TypeId) => (rb_start (T := T) (.slice A n cap) w).2.2)
  have HW := Lib.hid (fun (T : TypeId) => below_alloc1 w (.cells #[.slice A n cap] T))
  have HOk := Lib.hid (fun W (hb : Below w.heap.size w W) => sRegionOk W A n cap B xs hx hn (h.below hb hB) (by have := hb.size; omega))
  have HRow := Lib.hid (fun W (hb : Below w.heap.size w W) => h.below hb hB)
  have HX := Lib.hid hx
  clear hx h hB
  go_enter Try.func41, Try.ntmps41
  go_wp2_with fail
  have HW1 := Lib.hid (show Below (w.heap.size + 1) (w.alloc (.cells #[.slice A n cap] 26)) ((w.alloc (.cells #[.slice A n cap] 26)).alloc (.cells #[] 9)) from (Below.refl _ _).alloc (by simp) _)
  have HO := Lib.hid (own_base (B' := w.heap.size + 1) (HM.out (w.alloc (.cells #[.slice A n cap] 26))) (by simp))
  have hW0 : (w.alloc (.cells #[.slice A n cap] 26)).heap.size = w.heap.size + 1 := by simp
  have HB0 := Lib.hid (HB.out 26)
  have HBw := Lib.hid (HW.out 26)
  clear HM HB HW
  obtain ⟨W0, hW⟩ : ∃ W0, W0 = w.alloc (.cells #[.slice A n cap] 26) := ⟨_, rfl⟩
  rw [← hW] at HW1 HO hW0 HB0 HBw
  rw [hW0] at HO
  by_cases ho : okR xs
  · rw [okRB_of ho] at HOk
    have HE := Lib.hid (textR_ok ho)
    have hn8 : n ≤ 8 := by have := ho.1; have := HX.out; omega
    have HOR := Lib.hid ho.2
    clear ho
    go_loopw [3, 4] (fun v i wr => ∃ k : Nat, k ≤ n ∧ i = .int .i64 k ∧ wr.ownsRow (w.heap.size + 1) 9 1 v k (((xs.take k).map rowS).map Value.string) ∧ Below (w.heap.size + 1) W0 wr) (fun _ i _ => n - (intOf i).toNat)
    case atStart => exact ⟨0, Nat.zero_le _, rfl, by rw [hW] at HO; exact HO.out, by rw [hW] at HW1 ⊢; exact HW1.out⟩
    case round =>
      clear HW1 HO
      obtain ⟨k, hk, rfl, hown, hb⟩ := hrel
      have hbs := hb.size
      rw [hW0] at hbs
      have hbw := HBw.out.trans (hb.mono (B' := w.heap.size) (by omega))
      have hc0 := (hb.cell (p := ⟨w.heap.size, 0, none⟩) (by show w.heap.size < _; omega)).trans HB0.out
      by_cases hlt : k < n
      · go_wp2_with fail
        refine (HOk.out wr hbw).mono ?_
        rintro e w1 ⟨rfl, hbk⟩
        have hown1 := own_below hown hbk (Nat.le_refl _)
        have hb1 := hb.trans (hbk.mono (by omega))
        have hbs1 := hbk.size
        have hbw1 := HBw.out.trans (hb1.mono (B' := w.heap.size) (by omega))
        have hc1 := (hb1.cell (p := ⟨w.heap.size, 0, none⟩) (by show w.heap.size < _; omega)).trans HB0.out
        have hkx : k < xs.length := by have := HX.out; omega
        obtain ⟨b, off, hA, hc⟩ := HRow.out w1 hbw1
        obtain ⟨rfl, hbB⟩ := hA (by omega)
        have hc2 := hc k xs[k] (List.getElem?_eq_getElem hkx)
        have hr := HOR.out xs[k] (List.getElem_mem hkx)
        have HSn := Lib.hid (texts_snoc xs k hkx)
        have HOwn := Lib.hid hown1
        have HB1 := Lib.hid hb1
        clear hA hc hbk hown hb hown1 hb1 hbw1 hbw hc0
        generalize xs[k] = r at hc2 hr HSn
        obtain ⟨r0, r1⟩ := hr
        go_wp2_with fail
        go_loop [5, 6] (fun s i => ∃ x : Nat, x ≤ 8 ∧ i = .int .i64 x ∧ s = .string (strOfNums (charsTo r x))) (fun _ i => 8 - (intOf i).toNat)
        case atStart => exact ⟨0, Nat.zero_le _, rfl, rfl⟩
        case round =>
          obtain ⟨x, hx8, rfl, rfl⟩ := hrel
          by_cases hlx : x < 8
          · have hsz1 : (strOfNums (charsTo r x)).size + (⟨#[35]⟩ : ByteArray).size ≤ 9223372036854775807 := by
              rw [strOfNums_size, charsTo_length, show (⟨#[35]⟩ : ByteArray).size = 1 from rfl]; omega
            have hsz2 : (strOfNums (charsTo r x)).size + (⟨#[46]⟩ : ByteArray).size ≤ 9223372036854775807 := by
              rw [strOfNums_size, charsTo_length, show (⟨#[46]⟩ : ByteArray).size = 1 from rfl]; omega
            cases hbit : bitB r x with
            | true =>
              have hz := shr_yes r0 r1 hlx hbit
              have HN := Lib.hid (charsS_yes hbit)
              clear hbit
              generalize strOfNums (charsTo r x) = t at hsz1 hsz2 HN ⊢
              go_wp2
              go_round
              case rel => exact ⟨x + 1, by omega, by go_num, by rw [HN.out]⟩
              case measure => (simp [intOf] <;> omega)
            | false =>
              have hz := shr_no r0 r1 hlx hbit
              have HN := Lib.hid (charsS_no hbit)
              clear hbit
              generalize strOfNums (charsTo r x) = t at hsz1 hsz2 HN ⊢
              go_wp2
              go_round
              case rel => exact ⟨x + 1, by omega, by go_num, by rw [HN.out]⟩
              case measure => (simp [intOf] <;> omega)
          · obtain rfl : x = 8 := by omega
            have HR := Lib.hid (show rowS r = strOfNums (charsTo r 8) from rfl)
            rw [← HR.out]
            generalize rowS r = t at HSn ⊢
            go_wp2_with (first
              | (at_builtin; refine wpList_append_own _ rfl _ _ 36 rfl (w.heap.size + 1) 9 i0 (.string ⟨#[]⟩) 1 16 Try.underlying36 hi hz0 hz1 hz2 rfl (by decide) _ k (((xs.take k).map rowS).map Value.string) rfl (HOwn.out.alloc _) ⟨w1.heap.size, 0, none⟩ 1 1 [.string t] rfl rfl (World.news_of_block (cs := #[.string t]) (t := 9) (fr := (0, 0)) (heap_alloc_new w1 _)) (by simp [Value.oneCell']) (by unfold maxLen; omega) (by omega) (by simp; omega) ?_; intro v2 w3 hown3 hgrow _))
            have hb3 : Below (w.heap.size + 1) W0 w3 := (HB1.out.alloc (by omega) _).grown hgrow (by simp; omega) (fun g hg => (HOwn.out.lt g hg).1)
            have R := Lib.hid (show w3.ownsRow (w.heap.size + 1) 9 1 v2 (k + 1) (((xs.take (k + 1)).map rowS).map Value.string) by
              rw [HSn.out]; exact hown3)
            clear hown3 hgrow
            go_wp2
            go_roundw
            case rel => exact ⟨k + 1, by omega, by go_num, R.out, hb3⟩
            case measure => (simp [intOf] <;> omega)
      · obtain rfl : k = n := by omega
        obtain ⟨A', cap', rfl⟩ := own_shape hown
        have R := Lib.hid (show wr.ownsRow (w.heap.size + 1) 9 1 (.slice A' k cap') k ((xs.map rowS).map Value.string) by
          rw [List.take_of_length_le (by rw [HX.out]; omega)] at hown; exact hown)
        have HLn := Lib.hid (show (xs.map rowS).length = k by rw [List.length_map]; exact HX.out)
        clear hown hb
        go_wp2
        go_ret
        rw [HE.out, HLn.out]
        exact ⟨A', cap', rfl, own_base R.out (by omega), hbw⟩
  · rw [okRB_not ho] at HOk
    have HE := Lib.hid (textR_not ho)
    clear ho
    go_loopw [3, 4] (fun v i wr => i = .int .i64 0 ∧ wr.ownsRow (w.heap.size + 1) 9 1 v 0 [] ∧ Below (w.heap.size + 1) W0 wr) (fun _ i _ => (intOf i).toNat)
    case atStart => exact ⟨rfl, by rw [hW] at HO; exact HO.out, by rw [hW] at HW1 ⊢; exact HW1.out⟩
    case round =>
      clear HW1 HO
      obtain ⟨rfl, hown, hb⟩ := hrel
      have hbs := hb.size
      rw [hW0] at hbs
      have hbw := HBw.out.trans (hb.mono (B' := w.heap.size) (by omega))
      have hc0 := (hb.cell (p := ⟨w.heap.size, 0, none⟩) (by show w.heap.size < _; omega)).trans HB0.out
      obtain ⟨A', cap', rfl⟩ := own_shape hown
      have HOwn := Lib.hid hown
      clear hown
      by_cases hlt : 0 < n
      · go_wp2_with fail
        refine (HOk.out wr hbw).mono ?_
        rintro e w0 ⟨rfl, hbk⟩
        have HOwn2 := Lib.hid (own_below HOwn.out hbk (Nat.le_refl _))
        have hb2 := hbw.trans (hbk.mono (B' := w.heap.size) (by omega))
        clear hbk hc0 hbw hb
        go_wp2
        go_ret
        rw [HE.out]
        exact ⟨A', cap', rfl, own_base HOwn2.out (by omega), hb2⟩
      · obtain rfl : n = 0 := by omega
        clear hb
        go_wp2
        go_ret
        rw [HE.out]
        exact ⟨A', cap', rfl, own_base HOwn.out (by omega), hbw⟩
end Go.Proofs.Ytgngeebafpabdaa.Reg
