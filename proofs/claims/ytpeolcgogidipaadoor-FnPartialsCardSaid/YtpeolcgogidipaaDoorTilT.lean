/- IsTiling: the program's function and the model's say the same of every region and every list. -/
import Derived.Test.YtpeolcgogidipaaDoorTilS
import Derived.Test.YtpeolcgogidipaaDoorRegCn
namespace Go.Proofs.YtpeolcgogidipaaDoor.Til
set_option linter.unusedVariables false
set_option linter.unusedSimpArgs false
open Go.RowKit Go.Proofs.YtpeolcgogidipaaDoor.Base Go.Proofs.YtpeolcgogidipaaDoor.Pure Go.Proofs.YtpeolcgogidipaaDoor.Cell Go.Proofs.YtpeolcgogidipaaDoor.CellF Go.Proofs.YtpeolcgogidipaaDoor.Cels Go.Proofs.YtpeolcgogidipaaDoor.Dom Go.Proofs.YtpeolcgogidipaaDoor.Dms Go.Joins
open Go.Proofs.YtpeolcgogidipaaDoor.Reg hiding Yes add_none RC rc_start

set_option maxRecDepth 100000 in
set_option maxHeartbeats 1000000 in
theorem iIsTiling (w : World) (A : Option Addr) (n cap B : Nat) (xs : List Int) (hx : xs.length = n) (hn : (n : Int) ≤ 9223372036854775807) (h : RowB w B A xs) (hB : B ≤ w.heap.size)
    (A' : Option Addr) (n' cap' B' : Nat) (L : List Dm) (hL : L.length = n') (hn' : (n' : Int) ≤ 9223372036854775807) (hf : Fits L) (h' : RowM w B' A' L) (hB' : B' ≤ w.heap.size) (hcap : n' ≤ cap') :
    Calls Tryd.prog 13 #[.agg #[.slice A n cap], .slice A' n' cap'] w (Bol (tilB xs L) w) := by
  have HS := Lib.hid (r1_start w (.slice A n cap))
  have HP := Lib.hid (fun W (hb : Below w.heap.size w W) => iIsPartial W A n cap B xs hx hn (h.below hb hB) (by have := hb.size; omega) A' n' cap' B' L hL hn' hf (h'.below hb hB') (by have := hb.size; omega) hcap)
  have HU := Lib.hid (fun W (hb : Below w.heap.size w W) => iUncoveredOf W A n cap B xs hx hn (h.below hb hB) (by have := hb.size; omega) A' n' cap' B' L hL hn' hf (h'.below hb hB') (by have := hb.size; omega))
  have HT := Lib.hid (show tilB xs L = (partB xs L && decide ((unc L (cellsR xs)).length = 0)) from rfl)
  have hu : (unc L (cellsR xs)).length ≤ 64 := Nat.le_trans (unc_length _ _) (cellsR_length xs)
  generalize tilB xs L = t at HT ⊢
  generalize partB xs L = p at HP HT
  unfold NbPost at HU
  generalize unc L (cellsR xs) = U at HU HT hu
  generalize hm : U.length = m at HU HT hu
  clear hx hn h hB hL hn' hf h' hB' hcap hm
  go_enter Tryd.func13, Tryd.ntmps13
  go_wp2_with fail
  have T0 := HS.out
  refine (HP.out _ T0.1).mono ?_
  rintro e w1 ⟨rfl, hb1⟩
  have T1 := T0.on hb1
  have c0 := T1.2.c0
  clear T0 HS hb1 HP
  cases p with
  | false =>
    go_wp2
    go_ret
    exact mkBol (by rw [HT.out]; rfl) T1.1
  | true =>
    go_wp2_with fail
    refine (HU.out _ T1.1).mono ?_
    rintro e w2 ⟨A2, cap2, rfl, _, hb2⟩
    have hb := T1.1.trans (hb2.mono T1.1.size)
    clear T1 c0 hb2 HU
    by_cases h0 : m = 0
    · have HE := Lib.hid (show t = true by rw [HT.out, decide_eq_true h0]; rfl)
      have h1 : ((m : Nat) : Int) = 0 := by omega
      go_wp2
      go_ret
      exact mkBol (by simp [HE.out] <;> omega) hb
    · have HE := Lib.hid (show t = false by rw [HT.out, decide_eq_false h0]; rfl)
      have h1 : ¬ ((m : Nat) : Int) = 0 := by omega
      go_wp2
      go_ret
      exact mkBol (by simp [HE.out] <;> omega) hb

end Go.Proofs.YtpeolcgogidipaaDoor.Til
