/- IsTiling: the program's function and the model's say the same of every region and every list. -/
import Derived.Test.YtmaghekcpopepaaDoorTilS
import Derived.Test.YtmaghekcpopepaaDoorMgCtS
namespace Go.Proofs.YtmaghekcpopepaaDoor.Til
set_option linter.unusedVariables false
set_option linter.unusedSimpArgs false
open Go.RowKit Go.Proofs.YtmaghekcpopepaaDoor.Base Go.Proofs.YtmaghekcpopepaaDoor.Pure Go.Proofs.YtmaghekcpopepaaDoor.Cell Go.Proofs.YtmaghekcpopepaaDoor.CellF Go.Proofs.YtmaghekcpopepaaDoor.Cels Go.Proofs.YtmaghekcpopepaaDoor.Dom Go.Proofs.YtmaghekcpopepaaDoor.Dms Go.Joins
open Go.Proofs.YtmaghekcpopepaaDoor.Reg hiding Yes add_none RC rc_start

set_option maxRecDepth 100000 in
set_option maxHeartbeats 1000000 in
theorem sIsTiling (w : World) (A : Option Addr) (n cap B : Nat) (xs : List Int) (hx : xs.length = n) (hn : (n : Int) ≤ 9223372036854775807) (h : RowB w B A xs) (hB : B ≤ w.heap.size)
    (A' : Option Addr) (n' cap' B' : Nat) (L : List Dm) (hL : L.length = n') (hn' : (n' : Int) ≤ 9223372036854775807) (h' : RowM w B' A' L) (hB' : B' ≤ w.heap.size) :
    Calls Tryd.prog 13 #[.agg #[.slice A n cap], .slice A' n' cap'] w (Bol (tilB xs L) w) := by
  have HS := Lib.hid (r1_start w (.slice A n cap))
  have HP := Lib.hid (fun W (hb : Below w.heap.size w W) => sIsPartial W A n cap B xs hx hn (h.below hb hB) (by have := hb.size; omega) A' n' cap' B' L hL hn' (h'.below hb hB') (by have := hb.size; omega))
  have HC := Lib.hid (fun W (hb : Below w.heap.size w W) => sCountCells W A n cap B xs hx hn (h.below hb hB) (by have := hb.size; omega))
  have HT := Lib.hid (fun hp => hL ▸ tilB_count (xs := xs) (L := L) hp)
  have HF := Lib.hid (show partB xs L = false → tilB xs L = false from fun hp => by unfold tilB; rw [hp]; rfl)
  have HN := Lib.hid (fun hp => hL ▸ part_length (xs := xs) (L := L) hp)
  have hc := cellsR_length xs
  generalize tilB xs L = t at HT HF ⊢
  generalize partB xs L = p at HP HT HF HN
  unfold countR at HC
  generalize (cellsR xs).length = m at HC HT hc
  clear hx hn h hB hL hn' h' hB'
  go_enter Tryd.func13, Tryd.ntmps13
  go_wp2_with fail
  have T0 := HS.out
  refine (HP.out _ T0.1).mono ?_
  rintro e w1 ⟨rfl, hb1⟩
  have T1 := T0.on hb1
  have c0 := T1.2.c0
  clear T0 HS hb1 HP
  cases p with
  | false =>
    have HE := Lib.hid (HF.out rfl)
    go_wp2
    go_ret
    exact mkBol (by rw [HE.out]) T1.1
  | true =>
    have hn2 : 2 * n' ≤ 64 := HN.out rfl
    have HT2 := Lib.hid (HT.out (by first | rfl | trivial))
    clear HF HN
    go_wp2_with fail
    refine (HC.out _ T1.1).mono ?_
    rintro e w2 ⟨rfl, hb2⟩
    have hb := T1.1.trans (hb2.mono T1.1.size)
    clear T1 c0 hb2 HC
    by_cases h0 : 2 * n' = m
    · have HE := Lib.hid (show t = true by rw [HT2.out, decide_eq_true h0])
      have h1 : 2 * (n' : Int) = ((m : Nat) : Int) := by omega
      go_wp2
      go_ret
      exact mkBol (by simp [HE.out] <;> omega) hb
    · have HE := Lib.hid (show t = false by rw [HT2.out, decide_eq_false h0])
      have h1 : ¬ 2 * (n' : Int) = ((m : Nat) : Int) := by omega
      go_wp2
      go_ret
      exact mkBol (by simp [HE.out] <;> omega) hb
end Go.Proofs.YtmaghekcpopepaaDoor.Til
