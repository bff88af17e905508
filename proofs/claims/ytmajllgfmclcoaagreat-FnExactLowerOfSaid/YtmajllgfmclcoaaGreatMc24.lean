/- RegCn, TilT, FlmS in one text. -/
import Derived.Test.YtmajllgfmclcoaaGreatMc13
import Derived.Test.YtmajllgfmclcoaaGreatMc23
import Derived.Test.YtmajllgfmclcoaaGreatMc01
import Derived.Test.YtmajllgfmclcoaaGreatMc02
import Derived.Test.YtmajllgfmclcoaaGreatMc03
import Derived.BigQuiet
import Derived.Deep.QuietTactic
import Derived.Deep.Cut

namespace Go.Proofs.YtmajllgfmclcoaaGreat.Reg
set_option linter.unusedVariables false
open Go.RowKit Go.Proofs.YtmajllgfmclcoaaGreat.Pure Go.Proofs.YtmajllgfmclcoaaGreat.Cell Go.Joins

def countR (xs : List Int) : Int := ((cellsR xs).length : Int)

set_option maxHeartbeats 400000 in
theorem sCountCells (w : World) (A : Option Addr) (n cap B : Nat) (xs : List Int) (hx : xs.length = n) (hn : (n : Int) ≤ 9223372036854775807) (h : RowB w B A xs) (hB : B ≤ w.heap.size) :
  Calls Tryz.prog 35 #[.agg #[.slice A n cap]] w (Num (countR xs) w) := by
 have HC := Lib.hid (fun W (hb : Below w.heap.size w W) => sCellsOf W A n cap B xs hx hn (h.below hb hB) (by have := hb.size; omega))
 have HB := Lib.hid (fun (o1 : Obj) => below_alloc1 w o1)
 have HE := Lib.hid (show countR xs = ((cellsR xs).length : Int) from rfl)
 clear hx hn h
 generalize cellsR xs = L at HC HE
 go_enter Tryz.func35, Tryz.ntmps35
 go_wp2_with fail
 refine (HC.out _ (HB.out _)).mono ?_
 rintro e w1 ⟨A1, cap1, rfl, _, hb1⟩
 have hb := (HB.out (.cells #[.slice A n cap] 31)).trans (hb1.mono (by simp))
 clear hb1
 go_wp2
 go_ret
 exact mkNum HE.out.symm hb
end Go.Proofs.YtmajllgfmclcoaaGreat.Reg

namespace Go.Proofs.YtmajllgfmclcoaaGreat.Til
set_option linter.unusedVariables false
set_option linter.unusedSimpArgs false
open Go.RowKit Go.Proofs.YtmajllgfmclcoaaGreat.Pure Go.Proofs.YtmajllgfmclcoaaGreat.Cell Go.Proofs.YtmajllgfmclcoaaGreat.Cels Go.Proofs.YtmajllgfmclcoaaGreat.Dms Go.Joins
open Go.Proofs.YtmajllgfmclcoaaGreat.Reg hiding Yes add_none RC rc_start

set_option maxRecDepth 100000 in
set_option maxHeartbeats 1000000 in
theorem iIsTiling (w : World) (A : Option Addr) (n cap B : Nat) (xs : List Int) (hx : xs.length = n) (hn : (n : Int) ≤ 9223372036854775807) (h : RowB w B A xs) (hB : B ≤ w.heap.size)
  (A' : Option Addr) (n' cap' B' : Nat) (L : List Dm) (hL : L.length = n') (hn' : (n' : Int) ≤ 9223372036854775807) (hf : Fits L) (h' : RowM w B' A' L) (hB' : B' ≤ w.heap.size) (hcap : n' ≤ cap') :
  Calls Tryz.prog 62 #[.agg #[.slice A n cap], .slice A' n' cap'] w (Bol (tilB xs L) w) := by
 have HS := Lib.hid (r1_start w (.slice A n cap))
 have HP := Lib.hid (fun W (hb : Below w.heap.size w W) => iIsPartial W A n cap B xs hx hn (h.below hb hB) (by have := hb.size; omega) A' n' cap' B' L hL hn' hf (h'.below hb hB') (by have := hb.size; omega) hcap)
 have HU := Lib.hid (fun W (hb : Below w.heap.size w W) => iUncoveredOf W A n cap B xs hx hn (h.below hb hB) (by have := hb.size; omega) A' n' cap' B' L hL hn' hf (h'.below hb hB') (by have := hb.size; omega))
 have HT := Lib.hid (show tilB xs L = (partB xs L && decide ((unc L (cellsR xs)).length = 0)) from rfl)
 have hu : (unc L (cellsR xs)).length ≤ 64 := Nat.le_trans (unc_length _ _) (cellsR_length xs)
 generalize tilB xs L = t at HT ⊢
 generalize partB xs L = p at HP HT
 unfold NbPost at HU
 generalize unc L (cellsR xs) = U at HU HT hu
 generalize hm : U.length = m at HU HT hu
 clear hx hn h hB hL hn' hf h' hB' hcap hm
 go_enter Tryz.func62, Tryz.ntmps62
 go_wp2_with fail
 have T0 := HS.out
 refine (HP.out _ T0.1).mono ?_
 rintro e w1 ⟨rfl, hb1⟩
 have T1 := T0.on hb1
 have c0 := T1.2.c0
 clear T0 HS hb1 HP
 cases p with
 | false =>
  go_wp2
  go_ret
  exact mkBol (by rw [HT.out]; rfl) T1.1
 | true =>
  go_wp2_with fail
  refine (HU.out _ T1.1).mono ?_
  rintro e w2 ⟨A2, cap2, rfl, _, hb2⟩
  have hb := T1.1.trans (hb2.mono T1.1.size)
  clear T1 c0 hb2 HU
  by_cases h0 : m = 0
  ·have HE := Lib.hid (show t = true by rw [HT.out, decide_eq_true h0]; rfl)
   have h1 : ((m : Nat) : Int) = 0 := by omega
   go_wp2
   go_ret
   exact mkBol (by simp [HE.out] <;> omega) hb
  ·have HE := Lib.hid (show t = false by rw [HT.out, decide_eq_false h0]; rfl)
   have h1 : ¬ ((m : Nat) : Int) = 0 := by omega
   go_wp2
   go_ret
   exact mkBol (by simp [HE.out] <;> omega) hb

set_option maxRecDepth 100000 in
set_option maxHeartbeats 1000000 in
theorem sIsTiling (w : World) (A : Option Addr) (n cap B : Nat) (xs : List Int) (hx : xs.length = n) (hn : (n : Int) ≤ 9223372036854775807) (h : RowB w B A xs) (hB : B ≤ w.heap.size)
  (A' : Option Addr) (n' cap' B' : Nat) (L : List Dm) (hL : L.length = n') (hn' : (n' : Int) ≤ 9223372036854775807) (h' : RowM w B' A' L) (hB' : B' ≤ w.heap.size) :
  Calls Tryz.prog 34 #[.agg #[.slice A n cap], .slice A' n' cap'] w (Bol (tilB xs L) w) := by
 have HS := Lib.hid (r1_start w (.slice A n cap))
 have HP := Lib.hid (fun W (hb : Below w.heap.size w W) => sIsPartial W A n cap B xs hx hn (h.below hb hB) (by have := hb.size; omega) A' n' cap' B' L hL hn' (h'.below hb hB') (by have := hb.size; omega))
 have HC := Lib.hid (fun W (hb : Below w.heap.size w W) => sCountCells W A n cap B xs hx hn (h.below hb hB) (by have := hb.size; omega))
 have HT := Lib.hid (fun hp => hL ▸ tilB_count (xs := xs) (L := L) hp)
 have HF := Lib.hid (show partB xs L = false → tilB xs L = false from fun hp => by unfold tilB; rw [hp]; rfl)
 have HN := Lib.hid (fun hp => hL ▸ part_length (xs := xs) (L := L) hp)
 have hc := cellsR_length xs
 generalize tilB xs L = t at HT HF ⊢
 generalize partB xs L = p at HP HT HF HN
 unfold countR at HC
 generalize (cellsR xs).length = m at HC HT hc
 clear hx hn h hB hL hn' h' hB'
 go_enter Tryz.func34, Tryz.ntmps34
 go_wp2_with fail
 have T0 := HS.out
 refine (HP.out _ T0.1).mono ?_
 rintro e w1 ⟨rfl, hb1⟩
 have T1 := T0.on hb1
 have c0 := T1.2.c0
 clear T0 HS hb1 HP
 cases p with
 | false =>
  have HE := Lib.hid (HF.out rfl)
  go_wp2
  go_ret
  exact mkBol (by rw [HE.out]) T1.1
 | true =>
  have hn2 : 2 * n' ≤ 64 := HN.out rfl
  have HT2 := Lib.hid (HT.out (by first | rfl | trivial))
  clear HF HN
  go_wp2_with fail
  refine (HC.out _ T1.1).mono ?_
  rintro e w2 ⟨rfl, hb2⟩
  have hb := T1.1.trans (hb2.mono T1.1.size)
  clear T1 c0 hb2 HC
  by_cases h0 : 2 * n' = m
  ·have HE := Lib.hid (show t = true by rw [HT2.out, decide_eq_true h0])
   have h1 : 2 * (n' : Int) = ((m : Nat) : Int) := by omega
   go_wp2
   go_ret
   exact mkBol (by simp [HE.out] <;> omega) hb
  ·have HE := Lib.hid (show t = false by rw [HT2.out, decide_eq_false h0])
   have h1 : ¬ 2 * (n' : Int) = ((m : Nat) : Int) := by omega
   go_wp2
   go_ret
   exact mkBol (by simp [HE.out] <;> omega) hb
end Go.Proofs.YtmajllgfmclcoaaGreat.Til

namespace Go.Proofs.YtmajllgfmclcoaaGreat.Dom
open Go.RowKit Go.Proofs.YtmajllgfmclcoaaGreat.Cell Go.Joins
end Go.Proofs.YtmajllgfmclcoaaGreat.Dom
namespace Go.Proofs.YtmajllgfmclcoaaGreat.Flp
set_option linter.unusedVariables false
set_option linter.unusedSimpArgs false
set_option maxRecDepth 100000
open Go.RowKit Go.Proofs.YtmajllgfmclcoaaGreat.Cell Go.Proofs.YtmajllgfmclcoaaGreat.Dom Go.Proofs.YtmajllgfmclcoaaGreat.Dms Go.Joins

abbrev dmV (d : Dm) : Value := .agg #[.int .i64 d.1, .int .i64 d.2.1, .bool d.2.2]
section
variable {w W W' : World} {x y : Int} {d f : Dm}
end
def HasP (L : List Dm) (d : Dm) (w : World) (e : Ending) (w' : World) : Prop := ∃ r : Int, e = .returned (.int .i64 r) ∧ decide (0 ≤ r) = decide (d ∈ L) ∧ Below w.heap.size w w'
theorem mkHas {L : List Dm} {d : Dm} {w W : World} {r : Int} (h : decide (0 ≤ r) = decide (d ∈ L)) (hb : Below w.heap.size w W) : HasP L d w (.returned (.int .i64 r)) W := ⟨r, rfl, h, hb⟩
theorem take_no {L : List Dm} {k : Nat} {d : Dm} (hk : k < L.length) (h : d ∉ L.take k) (h2 : L[k] ≠ d) : d ∉ L.take (k + 1) := by
 rw [List.take_add_one, List.getElem?_eq_getElem hk, List.mem_append]
 rintro (q | q)
 ·exact h q
 ·simp at q; exact h2 q.symm
def DB (w : World) (d : Dm) (W : World) : Prop := Below w.heap.size w W ∧ At3 43 W w.heap.size d.1 d.2.1 d.2.2
theorem db_start (d : Dm) (w : World) : DB w d (w.alloc (.cells #[.int .i64 d.1, .int .i64 d.2.1, .bool d.2.2] 43)) := ⟨below_alloc1 w _, At3.new _ w _ _ _⟩
theorem DB.on {w W W' : World} {d : Dm} (h : DB w d W) (hb : Below W.heap.size W W') : DB w d W' := ⟨h.1.trans (hb.mono h.1.size), At3.on h.2 hb⟩
set_option maxHeartbeats 2000000 in
theorem sHas (w : World) (A : Option Addr) (n cap B : Nat) (L : List Dm) (hL : L.length = n) (hn : (n : Int) ≤ 9223372036854775807) (h : RowM w B A L) (hB : B ≤ w.heap.size) (d : Dm) :
  Calls Tryz.prog 40 #[.slice A n cap, dmV d] w (HasP L d w) := by
 obtain ⟨b, off, hA, hc⟩ := h.at
 have HA := Lib.hid hA
 have HC := Lib.hid hc
 have HL := Lib.hid hL
 have T0 := Lib.hid (db_start d w)
 obtain ⟨x, y, c⟩ := d
 clear hA hc hL h
 go_enter Tryz.func40, Tryz.ntmps40
 go_wp2_with fail
 go_loopw [5] (fun i wr => ∃ k : Nat, k ≤ n ∧ i = .int .i64 k ∧ DB w (x, y, c) wr ∧ Hid ((x, y, c) ∉ L.take k)) (fun i _ => n - (intOf i).toNat)
 case atStart => exact ⟨0, Nat.zero_le _, rfl, T0.out, Lib.hid (by simp)⟩
 case round =>
  clear T0
  obtain ⟨k, hk, rfl, hK, HN⟩ := hrel
  by_cases hlt : k < n
  ·have hkL : k < L.length := by rw [HL.out]; exact hlt
   obtain ⟨rfl, hbB⟩ := HA.out (by omega)
   obtain ⟨e0, e1, e2⟩ := HC.out k hkL
   have d0 := (hK.1.cell (p := ⟨b, off + k * 3, none⟩) (by show b < _; omega)).trans e0
   have d1 := (hK.1.cell (p := ⟨b, off + k * 3 + 1, none⟩) (by show b < _; omega)).trans e1
   have d2 := (hK.1.cell (p := ⟨b, off + k * 3 + 2, none⟩) (by show b < _; omega)).trans e2
   have c0 := At3.c0 hK.2
   have c1 := At3.c1 hK.2
   have c2 := At3.c2 hK.2
   have HX := Lib.hid (fun hne => take_no hkL HN.out hne)
   have HIn := Lib.hid (fun (he : L[k] = (x, y, c)) => show (x, y, c) ∈ L from he ▸ List.getElem_mem hkL)
   generalize L[k] = p at d0 d1 d2 HX HIn
   obtain ⟨u, v, a⟩ := p
   simp only at d0 d1 d2 c0 c1 c2
   have HK := Lib.hid hK
   clear e0 e1 e2 HN hK
   by_cases q : u = x ∧ v = y ∧ a = c
   ·obtain ⟨rfl, rfl, rfl⟩ := q
    have HI := Lib.hid (HIn.out rfl)
    clear HX HIn
    have huu : (u == u) = true := by simp
    have hvv : (v == v) = true := by simp
    have haa : (a == a) = true := by simp
    go_wp2_with fail
    go_quiet (fail)
    go_wp2
    go_ret
    exact mkHas (by rw [decide_eq_true HI.out]; exact decide_eq_true (by omega)) (drewBelow HK.out.1 _)
   ·have HY := Lib.hid (HX.out (fun e => by injection e with e1 e2; injection e2 with e2 e3; exact q ⟨e1, e2, e3⟩))
    clear HX HIn
    by_cases q1 : u = x
    ·subst q1
     have huu : (u == u) = true := by simp
     by_cases q2 : v = y
     ·subst q2
      have hvv : (v == v) = true := by simp
      have haf : (a == c) = false := by rw [beq_eq_false_iff_ne]; exact fun e => q ⟨rfl, rfl, e⟩
      clear q
      go_wp2_with fail
      go_quiet (fail)
      go_wp2
      go_roundw
      case rel => exact ⟨k + 1, by omega, by go_num, HK.out.on (drewBelow (Below.refl _ _) _), HY⟩
      case measure => (simp [intOf] <;> omega)
     ·have hvf : (v == y) = false := by rw [beq_eq_false_iff_ne]; exact q2
      clear q
      go_wp2_with fail
      go_quiet (fail)
      go_wp2
      go_roundw
      case rel => exact ⟨k + 1, by omega, by go_num, HK.out.on (drewBelow (Below.refl _ _) _), HY⟩
      case measure => (simp [intOf] <;> omega)
    ·have huf : (u == x) = false := by rw [beq_eq_false_iff_ne]; exact q1
     clear q
     go_wp2_with fail
     go_quiet (fail)
     go_wp2
     go_roundw
     case rel => exact ⟨k + 1, by omega, by go_num, HK.out.on (drewBelow (Below.refl _ _) _), HY⟩
     case measure => (simp [intOf] <;> omega)
  ·obtain rfl : k = n := by omega
   have HB := Lib.hid hK.1
   have HE := Lib.hid (show (x, y, c) ∉ L by have := HN.out; rw [List.take_of_length_le (by rw [HL.out]; exact Nat.le_refl _)] at this; exact this)
   clear HN hK
   go_wp2
   go_ret
   exact mkHas (by rw [decide_eq_false HE.out]; rfl) HB.out
end Go.Proofs.YtmajllgfmclcoaaGreat.Flp
