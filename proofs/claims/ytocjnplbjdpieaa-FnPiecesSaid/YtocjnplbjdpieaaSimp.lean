/- IsSimple: the program's function and the model's. -/
import Derived.Test.YtocjnplbjdpieaaTchI
import Derived.Test.YtocjnplbjdpieaaCnt
import Derived.Test.YtocjnplbjdpieaaSPcs
import Derived.Test.YtocjnplbjdpieaaSHol
namespace Go.Proofs.Ytocjnplbjdpieaa.Flo
set_option linter.unusedVariables false
open Go.RowKit Go.Proofs.Ytocjnplbjdpieaa.Base Go.Proofs.Ytocjnplbjdpieaa.Pure Go.Proofs.Ytocjnplbjdpieaa.Euler Go.Proofs.Ytocjnplbjdpieaa.Bal Go.Proofs.Ytocjnplbjdpieaa.Cell Go.Proofs.Ytocjnplbjdpieaa.Reg Go.Proofs.Ytocjnplbjdpieaa.Cels Go.Joins

/-- valid, in one piece, without holes, not touching itself at a corner. -/
def simB (xs : List Int) : Bool := decide (okR xs ∧ pcsN xs = 1 ∧ holN xs = 0 ∧ touchB xs = false)

set_option maxRecDepth 100000 in
set_option maxHeartbeats 2000000 in
theorem iIsSimple (w : World) (A : Option Addr) (n cap B : Nat) (xs : List Int) (hx : xs.length = n) (hn : (n : Int) ≤ 9223372036854775807) (h : RowB w B A xs) (hB : B ≤ w.heap.size) :
    Calls Try.prog 13 #[.agg #[.slice A n cap]] w (Bol (simB xs) w) := by
  have HOk := Lib.hid (fun W (hb : Below w.heap.size w W) => iRegionOk W A n cap B xs hx hn (h.below hb hB) (by have := hb.size; omega))
  have HPc := Lib.hid (fun W (hb : Below w.heap.size w W) => iCountPieces W A n cap B xs hx hn (h.below hb hB) (by have := hb.size; omega))
  have HHl := Lib.hid (fun W (hb : Below w.heap.size w W) => iCountHoles W A n cap B xs hx hn (h.below hb hB) (by have := hb.size; omega))
  have HTc := Lib.hid (fun W (ho : okR xs) (hb : Below w.heap.size w W) => iTouches W A n cap B xs hx hn ho (h.below hb hB) (by have := hb.size; omega))
  have T0 := Lib.hid (fun T => rb_start (T := T) (.slice A n cap) w)
  have HV := Lib.hid (show simB xs = decide (okR xs ∧ pcsN xs = 1 ∧ holN xs = 0 ∧ touchB xs = false) from rfl)
  have hp := pcsN_le xs
  have hh := holN_le xs
  clear hx hn h
  go_enter Try.func13, Try.ntmps13
  go_wp2_with fail
  have T1 := T0.out 26
  clear T0
  refine (HOk.out _ T1.1).mono ?_
  rintro e w1 ⟨rfl, hb1⟩
  have T2 := T1.on hb1
  clear T1 hb1 HOk
  obtain ⟨hbw, _, c0⟩ := id T2
  by_cases ho : okR xs
  · have HTc' := Lib.hid (fun W hb => HTc.out W ho hb)
    have HO := Lib.hid ho
    rw [okRB_of ho]
    generalize pcsN xs = pn at HPc HV hp
    generalize holN xs = hl at HHl HV hh
    generalize touchB xs = tb at HTc' HV
    clear HTc ho
    go_wp2_with fail
    refine (HPc.out _ hbw).mono ?_
    rintro e w2 ⟨rfl, hb2⟩
    have T3 := T2.on hb2
    clear hb2 HPc T2 c0 hbw
    obtain ⟨hbw, _, c0⟩ := id T3
    by_cases h1 : pn = 1
    · subst h1
      go_wp2_with fail
      refine (HHl.out _ hbw).mono ?_
      rintro e w3 ⟨rfl, hb3⟩
      have T4 := T3.on hb3
      clear hb3 HHl T3 c0 hbw
      obtain ⟨hbw, _, c0⟩ := id T4
      by_cases h2 : hl = 0
      · subst h2
        go_wp2_with fail
        refine (HTc'.out _ hbw).mono ?_
        rintro e w4 ⟨rfl, hb4⟩
        have hb := (T4.on hb4).1
        clear hb4 HTc' T4 c0 hbw
        cases tb
        · go_wp2
          go_ret
          exact mkBol (by rw [HV.out, decide_eq_true ⟨HO.out, by simp, by simp, by simp⟩]) hb
        · go_wp2
          go_ret
          exact mkBol (by rw [HV.out, decide_eq_false (fun q => by cases q.2.2.2)]) hb
      · have h2i : ((hl : Nat) : Int) ≠ 0 := by omega
        have h2b : (((hl : Nat) : Int) == 0) = false := by simp; omega
        clear HTc' T4
        go_wp2
        go_ret
        exact mkBol (by rw [HV.out, decide_eq_false (fun q => h2 q.2.2.1)]) hbw
    · have h1b : (((pn : Nat) : Int) == 1) = false := by simp; omega
      clear HTc' T3 HHl
      go_wp2
      go_ret
      exact mkBol (by rw [HV.out, decide_eq_false (fun q => h1 q.2.1)]) hbw
  · have HR := Lib.hid (show simB xs = false by rw [HV.out]; exact decide_eq_false (fun q => ho q.1))
    rw [okRB_not ho]
    clear T2 HPc HHl HTc ho HV
    go_wp2
    go_ret
    exact mkBol HR.out.symm hbw

set_option maxRecDepth 100000 in
set_option maxHeartbeats 2000000 in
theorem sIsSimple (w : World) (A : Option Addr) (n cap B : Nat) (xs : List Int) (hx : xs.length = n) (hn : (n : Int) ≤ 9223372036854775807) (h : RowB w B A xs) (hB : B ≤ w.heap.size) :
    Calls Try.prog 37 #[.agg #[.slice A n cap]] w (Bol (simB xs) w) := by
  have HOk := Lib.hid (fun W (hb : Below w.heap.size w W) => sRegionOk W A n cap B xs hx hn (h.below hb hB) (by have := hb.size; omega))
  have HPc := Lib.hid (fun W (hb : Below w.heap.size w W) => sCountPieces W A n cap B xs hx hn (h.below hb hB) (by have := hb.size; omega))
  have HHl := Lib.hid (fun W (hb : Below w.heap.size w W) => sCountHoles W A n cap B xs hx hn (h.below hb hB) (by have := hb.size; omega))
  have HTc := Lib.hid (fun W (ho : okR xs) (hb : Below w.heap.size w W) => sTouches W A n cap B xs hx hn ho (h.below hb hB) (by have := hb.size; omega))
  have T0 := Lib.hid (fun T => rb_start (T := T) (.slice A n cap) w)
  have HV := Lib.hid (show simB xs = decide (okR xs ∧ pcsN xs = 1 ∧ holN xs = 0 ∧ touchB xs = false) from rfl)
  have hp := pcsN_le xs
  have hh := holN_le xs
  clear hx hn h
  go_enter Try.func37, Try.ntmps37
  go_wp2_with fail
  have T1 := T0.out 26
  clear T0
  refine (HOk.out _ T1.1).mono ?_
  rintro e w1 ⟨rfl, hb1⟩
  have T2 := T1.on hb1
  clear T1 hb1 HOk
  obtain ⟨hbw, _, c0⟩ := id T2
  by_cases ho : okR xs
  · have HTc' := Lib.hid (fun W hb => HTc.out W ho hb)
    have HO := Lib.hid ho
    rw [okRB_of ho]
    generalize pcsN xs = pn at HPc HV hp
    generalize holN xs = hl at HHl HV hh
    generalize touchB xs = tb at HTc' HV
    clear HTc ho
    go_wp2_with fail
    refine (HPc.out _ hbw).mono ?_
    rintro e w2 ⟨rfl, hb2⟩
    have T3 := T2.on hb2
    clear hb2 HPc T2 c0 hbw
    obtain ⟨hbw, _, c0⟩ := id T3
    by_cases h1 : pn = 1
    · subst h1
      go_wp2_with fail
      refine (HHl.out _ hbw).mono ?_
      rintro e w3 ⟨rfl, hb3⟩
      have T4 := T3.on hb3
      clear hb3 HHl T3 c0 hbw
      obtain ⟨hbw, _, c0⟩ := id T4
      by_cases h2 : hl = 0
      · subst h2
        go_wp2_with fail
        refine (HTc'.out _ hbw).mono ?_
        rintro e w4 ⟨rfl, hb4⟩
        have hb := (T4.on hb4).1
        clear hb4 HTc' T4 c0 hbw
        cases tb
        · go_wp2
          go_ret
          exact mkBol (by rw [HV.out, decide_eq_true ⟨HO.out, by simp, by simp, by simp⟩]) hb
        · go_wp2
          go_ret
          exact mkBol (by rw [HV.out, decide_eq_false (fun q => by cases q.2.2.2)]) hb
      · have h2i : ((hl : Nat) : Int) ≠ 0 := by omega
        have h2b : (((hl : Nat) : Int) == 0) = false := by simp; omega
        clear HTc' T4
        go_wp2
        go_ret
        exact mkBol (by rw [HV.out, decide_eq_false (fun q => h2 q.2.2.1)]) hbw
    · have h1b : (((pn : Nat) : Int) == 1) = false := by simp; omega
      clear HTc' T3 HHl
      go_wp2
      go_ret
      exact mkBol (by rw [HV.out, decide_eq_false (fun q => h1 q.2.1)]) hbw
  · have HR := Lib.hid (show simB xs = false by rw [HV.out]; exact decide_eq_false (fun q => ho q.1))
    rw [okRB_not ho]
    clear T2 HPc HHl HTc ho HV
    go_wp2
    go_ret
    exact mkBol HR.out.symm hbw
end Go.Proofs.Ytocjnplbjdpieaa.Flo
