/- LSum in one text. -/
import Derived.Test.YtmajllgfmclcoaaMb09
import Derived.Test.YtmajllgfmclcoaaMb35
import Derived.Test.YtmajllgfmclcoaaMb10

namespace Go.Proofs.Ytmajllgfmclcoaa.Hgt
set_option linter.unusedVariables false
set_option linter.unusedSimpArgs false
set_option maxRecDepth 100000
open Go.RowKit Go.Proofs.Ytmajllgfmclcoaa.Cell Go.Joins
open Go.Proofs.Ytmajllgfmclcoaa.Reg hiding Yes

theorem sumH_no {hs : List Int} {k : Nat} (hk : k < hs.length) (h : hs[k] = -1000) : sumH hs (k + 1) = sumH hs k := by rw [sumH_step hk, if_pos h]
theorem sumH_yes {hs : List Int} {k : Nat} (hk : k < hs.length) (h : hs[k] ≠ -1000) : sumH hs (k + 1) = wrap64 (sumH hs k + hs[k]) := by rw [sumH_step hk, if_neg h]
set_option maxHeartbeats 1000000 in
theorem iSum (w : World) (A : Option Addr) (n cap B : Nat) (xs : List Int) (hx : xs.length = n) (hn : (n : Int) ≤ 9223372036854775807) (h : RowB w B A xs) (hB : B ≤ w.heap.size) :
  Calls Try.prog 25 #[.slice A n cap] w (Num (sumH xs n) w) := by
 obtain ⟨b, off, hA, hc⟩ := h
 have HA := Lib.hid hA
 have HC := Lib.hid hc
 have HL := Lib.hid hx
 have HS0 := Lib.hid (show sumH xs 0 = 0 from rfl)
 clear hA hc hx
 go_enter Try.func25, Try.ntmps25
 go_wp2_with fail
 go_loopw [3, 8] (fun s i wr => ∃ (k : Nat) (S : Int), k ≤ n ∧ s = .int .i64 S ∧ i = .int .i64 k ∧ Below w.heap.size w wr ∧ Hid (S = sumH xs k)) (fun _ i _ => n - (intOf i).toNat)
 case atStart => exact ⟨0, 0, Nat.zero_le _, rfl, rfl, Below.refl _ _, Lib.hid HS0.out.symm⟩
 case round =>
  clear HS0
  obtain ⟨k, S, hk, rfl, rfl, hb, HS⟩ := hrel
  by_cases hlt : k < n
  ·have hkL : k < xs.length := by rw [HL.out]; exact hlt
   obtain ⟨rfl, hbB⟩ := HA.out (by omega)
   have c0 := (hb.cell (p := ⟨b, off + k, none⟩) (by show b < _; omega)).trans (HC.out k xs[k] (List.getElem?_eq_getElem hkL))
   have HNo := Lib.hid (fun h => sumH_no hkL h)
   have HYe := Lib.hid (fun h => sumH_yes hkL h)
   generalize xs[k] = t at c0 HNo HYe
   have HB := Lib.hid hb
   clear hb
   by_cases ht : t = -1000
   ·subst ht
    have htb : ((-1000 : Int) != -1000) = false := rfl
    have HS2 := Lib.hid (show S = sumH xs (k + 1) by rw [HNo.out rfl]; exact HS.out)
    clear HNo HYe HS
    go_wp2
    go_roundw
    case rel => exact ⟨k + 1, S, by omega, rfl, by go_num, HB.out, HS2⟩
    case measure => (simp [intOf] <;> omega)
   ·have htb : (t != -1000) = true := by simpa using ht
    obtain ⟨S2, hS2⟩ : ∃ S2, IntKind.i64.wrap (S + t) = S2 := ⟨_, rfl⟩
    have hS3 : wrap64 (S + t) = S2 := by rw [← hS2, IntKind.wrap_i64]; unfold wrap64; omega
    have HS2 := Lib.hid (show S2 = sumH xs (k + 1) by rw [HYe.out ht, ← HS.out]; exact hS3.symm)
    clear HNo HYe HS ht
    go_wp2
    go_roundw
    case rel => exact ⟨k + 1, S2, by omega, rfl, by go_num, HB.out, HS2⟩
    case measure => (simp [intOf] <;> omega)
  ·obtain rfl : k = n := by omega
   have HB := Lib.hid hb
   have HE := Lib.hid HS.out
   clear HS hb
   go_wp2
   go_ret
   exact ⟨by rw [HE.out]; rfl, HB.out⟩
end Go.Proofs.Ytmajllgfmclcoaa.Hgt
