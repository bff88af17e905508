/- The law FnExactParseUint returns true: the program's ParseUint and the model's return the same. -/
import Derived.Test.YtbfmodoofkgicaaDoorParI
namespace Go.Proofs.YtbfmodoofkgicaaDoor.Par
set_option linter.unusedVariables false
open Go.RowKit Go.Proofs.YtbfmodoofkgicaaDoor.Base Go.Proofs.YtbfmodoofkgicaaDoor.Hex Go.Proofs.YtbfmodoofkgicaaDoor.Fmt

theorem numS_inj (m k : Nat) (h : numS (m : Int) = numS (k : Int)) : m = k := by
  have h1 := numS_digits k _ h
  rw [numS_list] at h1
  rw [← valD_dd m, ← valD_dd k, h1]

set_option maxHeartbeats 400000 in
theorem parse_law (s : ByteArray) (hs : s.size ≤ maxLen) (w : World) (hp : Errs w ∧ Pow w) :
    Calls Tryd.prog 7 #[.string s] w fun e w' => e = .returned (.bool true) ∧ Below w.heap.size w w' := by
  unfold maxLen at hs
  obtain ⟨he, ht⟩ := hp
  by_cases h0 : 1048576 < s.size
  · go_enter Tryd.func7, Tryd.ntmps7
    go_wp2
    go_ret
    exact ⟨rfl, Below.refl _ _⟩
  · have HS := Lib.hid (spec_par s w (by omega))
    have HI := Lib.hid (fun w1 (hb : Below w.heap.size w w1) => impl_par s w1 (by omega) (errs_stay he hb) (Joins.tab_stays gPow ht hb (Nat.le_refl _)))
    clear he ht
    go_enter Tryd.func7, Tryd.ntmps7
    go_wp2_with fail
    refine HS.out.mono ?_
    rintro e w1 ⟨hr, hb1⟩
    rcases hr with ⟨m, hm, hsm, rfl⟩ | ⟨hno, rfl⟩
    · have HM := Lib.hid hsm
      clear hsm
      go_wp2_with fail
      refine (HI.out w1 hb1).mono ?_
      rintro e w2 ⟨hr, hb2⟩
      rcases hr with ⟨k, hk, hsk, rfl⟩ | ⟨hno, rfl⟩
      · obtain rfl := numS_inj m k (HM.out.symm.trans hsk)
        clear hsk
        go_wp2
        go_ret
        exact ⟨rfl, hb1.trans (hb2.mono hb1.size)⟩
      · exact absurd HM.out (hno m hm)
    · have HN := Lib.hid hno
      clear hno
      go_wp2_with fail
      refine (HI.out w1 hb1).mono ?_
      rintro e w2 ⟨hr, hb2⟩
      rcases hr with ⟨k, hk, hsk, rfl⟩ | ⟨hno, rfl⟩
      · exact absurd hsk (HN.out k hk)
      · clear hno
        go_wp2
        go_ret
        exact ⟨rfl, hb1.trans (hb2.mono hb1.size)⟩
end Go.Proofs.YtbfmodoofkgicaaDoor.Par
