/- The program's numbers of pieces and of holes. -/
import Derived.Test.YtocjnplbjdpieaaFlC
namespace Go.Proofs.Ytocjnplbjdpieaa.Flo
set_option linter.unusedVariables false
open Go.RowKit Go.Proofs.Ytocjnplbjdpieaa.Base Go.Proofs.Ytocjnplbjdpieaa.Pure Go.Proofs.Ytocjnplbjdpieaa.Euler Go.Proofs.Ytocjnplbjdpieaa.Bal Go.Proofs.Ytocjnplbjdpieaa.Cell Go.Proofs.Ytocjnplbjdpieaa.Reg Go.Proofs.Ytocjnplbjdpieaa.Cels Go.Joins

/-- pieces and holes of a region, 0 if it is not valid. -/
def pcsN (xs : List Int) : Nat := if okR xs then piecesN xs else 0
def holN (xs : List Int) : Nat := if okR xs then outsN xs - 1 else 0
theorem cnt_max (p : Nat → Bool) : ∀ n, cnt n p ≤ n
  | 0 => Nat.le_refl _
  | n + 1 => by
    have := cnt_max p n
    have h2 : (p n).toNat ≤ 1 := by cases p n <;> decide
    simp only [cnt]; omega
theorem pcsN_le (xs : List Int) : pcsN xs ≤ 64 := by
  unfold pcsN
  split
  · exact cnt_max _ 64
  · omega
theorem holN_le (xs : List Int) : holN xs ≤ 100 := by
  unfold holN
  split
  · have : outsN xs ≤ 100 := cnt_max _ 100
    omega
  · omega
theorem partsV_true (xs : List Int) : partsV xs true = pcsN xs := by unfold partsV pcsN; rw [parts_true]
theorem partsV_false {xs : List Int} (ho : okR xs) : ((partsV xs false : Nat) : Int) = (holN xs : Int) + 1 := by
  unfold partsV holN
  rw [if_pos ho, if_pos ho, parts_false]
  have := outs_pos xs
  omega

set_option maxHeartbeats 400000 in
theorem iCountPieces (w : World) (A : Option Addr) (n cap B : Nat) (xs : List Int) (hx : xs.length = n) (hn : (n : Int) ≤ 9223372036854775807) (h : RowB w B A xs) (hB : B ≤ w.heap.size) :
    Calls Try.prog 14 #[.agg #[.slice A n cap]] w (Num ((pcsN xs : Nat) : Int) w) := by
  have HC := Lib.hid (fun W (hb : Below w.heap.size w W) => countParts A n cap xs hx hn true (.inr rfl) W B (h.below hb hB) (by have := hb.size; omega))
  have T0 := Lib.hid (fun T => rb_start (T := T) (.slice A n cap) w)
  rw [partsV_true] at HC
  clear hx hn h
  generalize ((pcsN xs : Nat) : Int) = z at HC ⊢
  go_enter Try.func14, Try.ntmps14
  go_wp2_with fail
  have T1 := T0.out 26
  clear T0
  refine (HC.out _ T1.1).mono ?_
  rintro e w1 ⟨rfl, hb1⟩
  have hb := (T1.on hb1).1
  clear T1 hb1 HC
  go_wp2
  go_ret
  exact mkNum rfl hb

set_option maxHeartbeats 1000000 in
theorem iCountHoles (w : World) (A : Option Addr) (n cap B : Nat) (xs : List Int) (hx : xs.length = n) (hn : (n : Int) ≤ 9223372036854775807) (h : RowB w B A xs) (hB : B ≤ w.heap.size) :
    Calls Try.prog 21 #[.agg #[.slice A n cap]] w (Num ((holN xs : Nat) : Int) w) := by
  have HOk := Lib.hid (fun W (hb : Below w.heap.size w W) => iRegionOk W A n cap B xs hx hn (h.below hb hB) (by have := hb.size; omega))
  have HC := Lib.hid (fun W (ho : okR xs) (hb : Below w.heap.size w W) => countParts A n cap xs hx hn false (.inl ho) W B (h.below hb hB) (by have := hb.size; omega))
  have T0 := Lib.hid (fun T => rb_start (T := T) (.slice A n cap) w)
  clear hx hn h
  go_enter Try.func21, Try.ntmps21
  go_wp2_with fail
  have T1 := T0.out 26
  clear T0
  refine (HOk.out _ T1.1).mono ?_
  rintro e w1 ⟨rfl, hb1⟩
  have T2 := T1.on hb1
  clear T1 hb1 HOk
  obtain ⟨hbw, _, c0⟩ := id T2
  by_cases ho : okR xs
  · have HC := Lib.hid (fun W hb => HC.out W ho hb)
    have hv := partsV_false ho
    have hle := holN_le xs
    rw [okRB_of ho]
    generalize hz : ((partsV xs false : Nat) : Int) = z at HC hv
    have hz0 : 0 ≤ z := by omega
    have hz1 : z ≤ 101 := by omega
    have hz2 : z - 1 = ((holN xs : Nat) : Int) := by omega
    have HY := Lib.hid hz2
    clear hz hv hle ho hz2
    go_wp2_with fail
    refine (HC.out _ hbw).mono ?_
    rintro e w2 ⟨rfl, hb2⟩
    have hb := (T2.on hb2).1
    clear hb2 HC T2 c0 hbw
    go_wp2
    go_ret
    exact mkNum HY.out hb
  · have e : holN xs = 0 := by unfold holN; rw [if_neg ho]
    have HE := Lib.hid (show (0 : Int) = ((holN xs : Nat) : Int) by rw [e]; rfl)
    rw [okRB_not ho]
    clear HC T2 e ho
    go_wp2
    go_ret
    exact mkNum HE.out hbw
end Go.Proofs.Ytocjnplbjdpieaa.Flo
