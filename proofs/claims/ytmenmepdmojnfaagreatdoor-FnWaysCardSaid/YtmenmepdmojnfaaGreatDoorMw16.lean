/- StC, Sam, LstG in one text. -/
import Derived.Test.YtmenmepdmojnfaaGreatDoorMw15
import Derived.Test.YtmenmepdmojnfaaGreatDoorMw05
import Derived.Test.YtmenmepdmojnfaaGreatDoorMw01
import Derived.Test.YtmenmepdmojnfaaGreatDoorMw12
import Derived.Test.YtmenmepdmojnfaaGreatDoorMw13

namespace Go.Proofs.YtmenmepdmojnfaaGreatDoor.Prof
set_option linter.unusedVariables false
set_option maxRecDepth 100000
set_option linter.unusedSimpArgs false
open Go.RowKit Go.Proofs.YtmenmepdmojnfaaGreatDoor.Pure Go.Proofs.YtmenmepdmojnfaaGreatDoor.Cell Go.Proofs.YtmenmepdmojnfaaGreatDoor.Reg Go.Proofs.YtmenmepdmojnfaaGreatDoor.Cnt Go.Joins

set_option maxRecDepth 100000 in
set_option maxHeartbeats 1000000 in
theorem sCountTilings (w : World) (A : Option Addr) (n cap B : Nat) (xs : List Int) (hx : xs.length = n) (hn : (n : Int) ≤ 9223372036854775807) (h : RowB w B A xs) (hB : B ≤ w.heap.size) :
  Calls Tryz.prog 14 #[.agg #[.slice A n cap]] w (Num (tilesR xs) w) := by
 have T0 := Lib.hid (fun (T : TypeId) => rb_start (T := T) (.slice A n cap) w)
 have HOk := Lib.hid (fun W (hb : RB w (.slice A n cap) W) => sRegionOk W A n cap B xs hx hn (h.below hb.1 hB) (by have := hb.2.1; omega))
 have HC := Lib.hid (fun W (ho : okR xs) (hb : RB w (.slice A n cap) W) => show Calls Tryz.prog 45 #[.agg #[.slice A n cap]] W (Num (tilesR xs) W) from by rw [tilesR_ok ho]; exact sCount W A n cap B xs hx ho (h.below hb.1 hB) (by have := hb.2.1; omega))
 by_cases ho : okR xs
 ·rw [okRB_of ho] at HOk
  have HC1 := Lib.hid (fun W (hb : RB w (.slice A n cap) W) => HC.out W ho hb)
  generalize tilesR xs = t at HC1 ⊢
  clear hx hn h ho HC
  go_enter Tryz.func14, Tryz.ntmps14
  go_wp2_with fail
  refine (HOk.out _ (T0.out _)).mono ?_
  rintro e w1 ⟨rfl, hb1⟩
  have T1 := (T0.out 26).on hb1
  have c1 := T1.2.2
  clear T0 HOk hb1
  go_wp2_with fail
  refine (HC1.out _ T1).mono ?_
  rintro e w2 ⟨rfl, hb2⟩
  have T2 := T1.on hb2
  clear T1 c1 HC1 hb2
  go_wp2
  go_ret
  exact ⟨rfl, T2.1⟩
 ·rw [okRB_not ho] at HOk
  have HE := Lib.hid (tilesR_not ho)
  clear hx hn h ho HC
  go_enter Tryz.func14, Tryz.ntmps14
  go_wp2_with fail
  refine (HOk.out _ (T0.out _)).mono ?_
  rintro e w1 ⟨rfl, hb1⟩
  have T1 := (T0.out 26).on hb1
  clear T0 HOk hb1
  go_wp2
  go_ret
  exact mkNum HE.out.symm T1.1

end Go.Proofs.YtmenmepdmojnfaaGreatDoor.Prof

namespace Go.Proofs.YtmenmepdmojnfaaGreatDoor.Sam
set_option linter.unusedVariables false
set_option linter.unusedSimpArgs false
open Go.RowKit Go.Proofs.YtmenmepdmojnfaaGreatDoor.Cell Go.Proofs.YtmenmepdmojnfaaGreatDoor.Dms Go.Joins
open Go.Proofs.YtmenmepdmojnfaaGreatDoor.Reg hiding add_none

def sameD (L M : List Dm) : Bool := decide (L = M)
theorem sameD_len {L M : List Dm} (h : L.length ≠ M.length) : sameD L M = false := by unfold sameD; rw [decide_eq_false_iff_not]; rintro rfl; exact h rfl
theorem sameD_no {L M : List Dm} {k : Nat} (h1 : k < L.length) (h2 : k < M.length) (h : L[k] ≠ M[k]) : sameD L M = false := by unfold sameD; rw [decide_eq_false_iff_not]; rintro rfl; exact h rfl
theorem sameD_yes {L M : List Dm} (hl : L.length = M.length) (h : ∀ j (h1 : j < L.length) (h2 : j < M.length), L[j] = M[j]) : sameD L M = true := by
 unfold sameD; rw [decide_eq_true_eq]; exact List.ext_getElem hl (fun i h1 h2 => h i h1 h2)

set_option maxRecDepth 100000 in
set_option maxHeartbeats 1000000 in
theorem sSame (w : World) (A A' : Option Addr) (n n' cap cap' B B' : Nat) (L M : List Dm) (hx : L.length = n) (hx' : M.length = n') (hl : (n : Int) ≤ 9223372036854775807) (hl' : (n' : Int) ≤ 9223372036854775807) (h1 : RowM w B A L) (h2 : RowM w B' A' M) (hB : B ≤ w.heap.size) (hB' : B' ≤ w.heap.size) :
  Calls Tryz.prog 13 #[.slice A n cap, .slice A' n' cap'] w (Bol (sameD L M) w) := by
 obtain ⟨b, off, hA, hc⟩ := h1.at
 obtain ⟨b', off', hA', hc'⟩ := h2.at
 have H1 := Lib.hid hA
 have H2 := Lib.hid hA'
 have H3 := Lib.hid hc
 have H4 := Lib.hid hc'
 have HX := Lib.hid hx
 have HX' := Lib.hid hx'
 have HN := Lib.hid (fun h => sameD_len (L := L) (M := M) h)
 have HNo := Lib.hid (fun k h1 h2 h => sameD_no (L := L) (M := M) (k := k) h1 h2 h)
 have HY := Lib.hid (fun hl h => sameD_yes (L := L) (M := M) hl h)
 clear hA hA' hc hc' h1 h2 hx hx'
 generalize sameD L M = r at HN HNo HY ⊢
 by_cases hnn : n = n'
 ·subst hnn
  have hne : (((n : Nat) : Int) != ((n : Nat) : Int)) = false := by simp
  go_enter Tryz.func13, Tryz.ntmps13
  go_wp2_with fail
  go_loopw [5] (fun i wr => ∃ k : Nat, k ≤ n ∧ i = .int .i64 k ∧ Below w.heap.size w wr ∧ Hid (∀ j (h1 : j < L.length) (h2 : j < M.length), j < k → L[j] = M[j])) (fun i _ => n - (intOf i).toNat)
  case atStart => exact ⟨0, Nat.zero_le _, rfl, Below.refl _ _, Lib.hid (fun j _ _ h => by omega)⟩
  case round =>
   obtain ⟨k, hk, rfl, hb, hs⟩ := hrel
   have hbs := hb.size
   by_cases hlt : k < n
   ·have hkx : k < L.length := by have := HX.out; omega
    have hkx' : k < M.length := by have := HX'.out; omega
    obtain ⟨rfl, hbw⟩ := H1.out (by omega)
    obtain ⟨rfl, hbw'⟩ := H2.out (by omega)
    obtain ⟨c1, c2, c3⟩ := H3.out k hkx
    obtain ⟨d1, d2, d3⟩ := H4.out k hkx'
    have c1' := (hb.cell (p := ⟨b, off + k * 3, none⟩) (by show b < _; omega)).trans c1
    have c2' := (hb.cell (p := ⟨b, off + k * 3 + 1, none⟩) (by show b < _; omega)).trans c2
    have c3' := (hb.cell (p := ⟨b, off + k * 3 + 2, none⟩) (by show b < _; omega)).trans c3
    have d1' := (hb.cell (p := ⟨b', off' + k * 3, none⟩) (by show b' < _; omega)).trans d1
    have d2' := (hb.cell (p := ⟨b', off' + k * 3 + 1, none⟩) (by show b' < _; omega)).trans d2
    have d3' := (hb.cell (p := ⟨b', off' + k * 3 + 2, none⟩) (by show b' < _; omega)).trans d3
    clear c1 c2 c3 d1 d2 d3
    have HNk := Lib.hid (HNo.out k hkx hkx')
    have HSk := Lib.hid (show L[k] = M[k] → Hid (∀ j (h1 : j < L.length) (h2 : j < M.length), j < k + 1 → L[j] = M[j]) from fun e => Lib.hid (fun j h1 h2 h => by
     by_cases q : j = k
     ·subst q; exact e
     ·exact hs.out j h1 h2 (by omega)))
    generalize L[k] = d at c1' c2' c3' HNk HSk
    generalize M[k] = f at d1' d2' d3' HNk HSk
    obtain ⟨x, y, bb⟩ := d
    obtain ⟨x', y', bb'⟩ := f
    simp only at c1' c2' c3' d1' d2' d3'
    have hb2 : Below w.heap.size w wr.drew := hb.drew
    by_cases q : x = x' ∧ y = y' ∧ bb = bb'
    ·obtain ⟨rfl, rfl, rfl⟩ := q
     have hs2 := HSk.out rfl
     clear HSk HNk hs
     go_wp2_with fail
     go_region
     go_wp2
     go_roundw
     case rel => exact ⟨k + 1, by omega, by go_num, hb2, hs2⟩
     case measure => (simp [intOf] <;> omega)
    ·have hr : r = false := HNk.out (by intro e; injection e with e1 e2; injection e2 with e2 e3; exact q ⟨e1, e2, e3⟩)
     clear HSk HNk hs
     by_cases e1 : x = x'
     ·subst e1
      by_cases e2 : y = y'
      ·subst e2
       have e3 : ¬ bb = bb' := fun e => q ⟨rfl, rfl, e⟩
       clear q
       go_wp2_with fail
       go_region
       go_wp2
       go_ret
       exact mkBol hr.symm hb2
      ·clear q
       go_wp2_with fail
       go_region
       go_wp2
       go_ret
       exact mkBol hr.symm hb2
     ·clear q
      go_wp2_with fail
      go_region
      go_wp2
      go_ret
      exact mkBol hr.symm hb2
   ·obtain rfl : k = n := by omega
    have hr : r = true := HY.out (by rw [HX.out, HX'.out]) (fun j h1 h2 => hs.out j h1 h2 (by have := HX.out; omega))
    go_wp2
    go_ret
    exact mkBol hr.symm hb
 ·have hne : (((n : Nat) : Int) != ((n' : Nat) : Int)) = true := by simp; omega
  have hr : r = false := HN.out (by rw [HX.out, HX'.out]; exact hnn)
  go_enter Tryz.func13, Tryz.ntmps13
  go_wp2
  go_ret
  exact mkBol hr.symm (Below.refl _ _)
set_option maxRecDepth 100000 in
set_option maxHeartbeats 1000000 in
theorem iEqual (w : World) (A A' : Option Addr) (n n' cap cap' B B' : Nat) (L M : List Dm) (hx : L.length = n) (hx' : M.length = n') (hl : (n : Int) ≤ 9223372036854775807) (hl' : (n' : Int) ≤ 9223372036854775807) (h1 : RowM w B A L) (h2 : RowM w B' A' M) (hB : B ≤ w.heap.size) (hB' : B' ≤ w.heap.size) :
  Calls Tryz.prog 98 #[.slice A n cap, .slice A' n' cap'] w (Bol (sameD L M) w) := by
 obtain ⟨b, off, hA, hc⟩ := h1.at
 obtain ⟨b', off', hA', hc'⟩ := h2.at
 have H1 := Lib.hid hA
 have H2 := Lib.hid hA'
 have H3 := Lib.hid hc
 have H4 := Lib.hid hc'
 have HX := Lib.hid hx
 have HX' := Lib.hid hx'
 have HN := Lib.hid (fun h => sameD_len (L := L) (M := M) h)
 have HNo := Lib.hid (fun k h1 h2 h => sameD_no (L := L) (M := M) (k := k) h1 h2 h)
 have HY := Lib.hid (fun hl h => sameD_yes (L := L) (M := M) hl h)
 clear hA hA' hc hc' h1 h2 hx hx'
 generalize sameD L M = r at HN HNo HY ⊢
 by_cases hnn : n = n'
 ·subst hnn
  have hne : (((n : Nat) : Int) != ((n : Nat) : Int)) = false := by simp
  go_enter Tryz.func98, Tryz.ntmps98
  go_wp2_with fail
  go_loopw [13] (fun i wr => ∃ k : Nat, k ≤ n ∧ i = .int .i64 k ∧ Below w.heap.size w wr ∧ Hid (∀ j (h1 : j < L.length) (h2 : j < M.length), j < k → L[j] = M[j])) (fun i _ => n - (intOf i).toNat)
  case atStart => exact ⟨0, Nat.zero_le _, rfl, Below.refl _ _, Lib.hid (fun j _ _ h => by omega)⟩
  case round =>
   obtain ⟨k, hk, rfl, hb, hs⟩ := hrel
   have hbs := hb.size
   by_cases hlt : k < n
   ·have hkx : k < L.length := by have := HX.out; omega
    have hkx' : k < M.length := by have := HX'.out; omega
    obtain ⟨rfl, hbw⟩ := H1.out (by omega)
    obtain ⟨rfl, hbw'⟩ := H2.out (by omega)
    obtain ⟨c1, c2, c3⟩ := H3.out k hkx
    obtain ⟨d1, d2, d3⟩ := H4.out k hkx'
    have c1' := (hb.cell (p := ⟨b, off + k * 3, none⟩) (by show b < _; omega)).trans c1
    have c2' := (hb.cell (p := ⟨b, off + k * 3 + 1, none⟩) (by show b < _; omega)).trans c2
    have c3' := (hb.cell (p := ⟨b, off + k * 3 + 2, none⟩) (by show b < _; omega)).trans c3
    have d1' := (hb.cell (p := ⟨b', off' + k * 3, none⟩) (by show b' < _; omega)).trans d1
    have d2' := (hb.cell (p := ⟨b', off' + k * 3 + 1, none⟩) (by show b' < _; omega)).trans d2
    have d3' := (hb.cell (p := ⟨b', off' + k * 3 + 2, none⟩) (by show b' < _; omega)).trans d3
    clear c1 c2 c3 d1 d2 d3
    have HNk := Lib.hid (HNo.out k hkx hkx')
    have HSk := Lib.hid (show L[k] = M[k] → Hid (∀ j (h1 : j < L.length) (h2 : j < M.length), j < k + 1 → L[j] = M[j]) from fun e => Lib.hid (fun j h1 h2 h => by
     by_cases q : j = k
     ·subst q; exact e
     ·exact hs.out j h1 h2 (by omega)))
    generalize L[k] = d at c1' c2' c3' HNk HSk
    generalize M[k] = f at d1' d2' d3' HNk HSk
    obtain ⟨x, y, bb⟩ := d
    obtain ⟨x', y', bb'⟩ := f
    simp only at c1' c2' c3' d1' d2' d3'
    have hb2 : Below w.heap.size w wr.drew := hb.drew
    by_cases q : x = x' ∧ y = y' ∧ bb = bb'
    ·obtain ⟨rfl, rfl, rfl⟩ := q
     have hs2 := HSk.out rfl
     clear HSk HNk hs
     go_wp2_with fail
     go_region
     go_wp2
     go_roundw
     case rel => exact ⟨k + 1, by omega, by go_num, hb2, hs2⟩
     case measure => (simp [intOf] <;> omega)
    ·have hr : r = false := HNk.out (by intro e; injection e with e1 e2; injection e2 with e2 e3; exact q ⟨e1, e2, e3⟩)
     clear HSk HNk hs
     by_cases e1 : x = x'
     ·subst e1
      by_cases e2 : y = y'
      ·subst e2
       have e3 : ¬ bb = bb' := fun e => q ⟨rfl, rfl, e⟩
       clear q
       go_wp2_with fail
       go_region
       go_wp2
       go_ret
       exact mkBol hr.symm hb2
      ·clear q
       go_wp2_with fail
       go_region
       go_wp2
       go_ret
       exact mkBol hr.symm hb2
     ·clear q
      go_wp2_with fail
      go_region
      go_wp2
      go_ret
      exact mkBol hr.symm hb2
   ·obtain rfl : k = n := by omega
    have hr : r = true := HY.out (by rw [HX.out, HX'.out]) (fun j h1 h2 => hs.out j h1 h2 (by have := HX.out; omega))
    go_wp2
    go_ret
    exact mkBol hr.symm hb
 ·have hne : (((n : Nat) : Int) != ((n' : Nat) : Int)) = true := by simp; omega
  have hr : r = false := HN.out (by rw [HX.out, HX'.out]; exact hnn)
  go_enter Tryz.func98, Tryz.ntmps98
  go_wp2
  go_ret
  exact mkBol hr.symm (Below.refl _ _)
theorem iSame (w : World) (A A' : Option Addr) (n n' cap cap' B B' : Nat) (L M : List Dm) (hx : L.length = n) (hx' : M.length = n') (hl : (n : Int) ≤ 9223372036854775807) (hl' : (n' : Int) ≤ 9223372036854775807) (h1 : RowM w B A L) (h2 : RowM w B' A' M) (hB : B ≤ w.heap.size) (hB' : B' ≤ w.heap.size) :
  Calls Tryz.prog 66 #[.slice A n cap, .slice A' n' cap'] w (Bol (sameD L M) w) := by
 have HE := Lib.hid (iEqual w A A' n n' cap cap' B B' L M hx hx' hl hl' h1 h2 hB hB')
 generalize sameD L M = r at HE ⊢
 clear hx hx' hl hl' h1 h2 hB hB'
 go_enter Tryz.func66, Tryz.ntmps66
 go_wp2_with fail
 refine HE.out.mono ?_
 rintro e w1 ⟨rfl, hb1⟩
 go_wp2
 go_ret
 exact mkBol rfl hb1
end Go.Proofs.YtmenmepdmojnfaaGreatDoor.Sam

namespace Go.Proofs.YtmenmepdmojnfaaGreatDoor.Lst
set_option linter.unusedVariables false
set_option linter.unusedSimpArgs false
set_option maxRecDepth 100000
open Go.RowKit Go.Proofs.YtmenmepdmojnfaaGreatDoor.Pure Go.Proofs.YtmenmepdmojnfaaGreatDoor.Cell Go.Proofs.YtmenmepdmojnfaaGreatDoor.Dms Go.Proofs.YtmenmepdmojnfaaGreatDoor.Til Go.Proofs.YtmenmepdmojnfaaGreatDoor.Dss Go.Proofs.YtmenmepdmojnfaaGreatDoor.Lis Go.Proofs.YtmenmepdmojnfaaGreatDoor.Sets Go.Proofs.YtmenmepdmojnfaaGreatDoor.Ext Go.Proofs.YtmenmepdmojnfaaGreatDoor.Sam Go.Joins
open Go.Proofs.YtmenmepdmojnfaaGreatDoor.Cnt (gR tiles gR_in gR_out idxs idxs_cells tilesR tilesR_ok tilesR_not)
open Go.Proofs.YtmenmepdmojnfaaGreatDoor.Prof (sCountTilings)
open Go.Proofs.YtmenmepdmojnfaaGreatDoor.Reg hiding add_none

def listR (xs : List Int) : List (List Dm) := if (allR xs).length ≤ 300 then allR xs else []
theorem listR_small (xs : List Int) : (listR xs).length ≤ 300 := by unfold listR; split <;> simp_all
theorem listR_half {xs : List Int} : ∀ L ∈ listR xs, L.length = halfR xs := by
 intro L hL
 unfold listR at hL
 split at hL
 ·exact allR_half L hL
 ·cases hL
theorem halfR_le (xs : List Int) : halfR xs ≤ 32 := by unfold halfR; have := cellsR_length xs; omega
theorem take_301 (xs : List Int) : (((allR xs).take 301).length ≤ 300 ∧ (allR xs).take 301 = listR xs) ∨ (300 < ((allR xs).take 301).length ∧ listR xs = []) := by
 by_cases h : (allR xs).length ≤ 300
 ·left
  rw [List.take_of_length_le (by omega)]
  unfold listR
  rw [if_pos h]
  exact ⟨h, rfl⟩
 ·right
  rw [List.length_take]
  unfold listR
  rw [if_neg h]
  exact ⟨by omega, rfl⟩
theorem allR_count (xs : List Int) : ((allR xs).length : Int) = tilesR xs := by
 by_cases h : okR xs
 ·rw [allR_ok h, all_length h]
 ·rw [allR_not h, tilesR_not h]; rfl

set_option maxHeartbeats 1000000 in
theorem iListTilings (w : World) (A : Option Addr) (n cap B : Nat) (xs : List Int) (hx : xs.length = n) (hn : (n : Int) ≤ 9223372036854775807) (hrow : RowB w B A xs) (hB : B ≤ w.heap.size) (hT : Tab w) :
  Calls Tryz.prog 40 #[.agg #[.slice A n cap]] w (SSP (listR xs) (halfR xs) w) := by
 have HF := Lib.hid (fun W (hb : Below w.heap.size w W) => iFirstTilings W A n cap B xs hx hn (hrow.below hb hB) (by have := hb.size; omega) 301 (by omega) (hT.on hb (Nat.le_refl _)))
 have HR := Lib.hid (Rg.new w (.slice A n cap))
 have HS := Lib.hid (below_alloc1 w (.cells #[.slice A n cap] 26))
 have HC := Lib.hid (take_301 xs)
 generalize (allR xs).take 301 = T at HF HC
 obtain ⟨m, hm⟩ : ∃ m, m = T.length := ⟨_, rfl⟩
 have HM := Lib.hid hm
 have HF := Lib.hid (fun W hb => show Calls Tryz.prog 63 #[.agg #[.slice A n cap], .int .i64 301] W (SSP T (halfR xs) W) from HF.out W hb)
 clear hx hn hrow hB hT hm
 go_enter Tryz.func40, Tryz.ntmps40
 go_wp2_with fail
 have c0 := HR.out.c0
 refine (HF.out _ HS.out).mono ?_
 rintro e w1 ⟨A1, cap1, rfl, hss, hb1⟩
 have HX := Lib.hid (hss.wide (lo' := w.heap.size) (hi' := w1.heap.size) HS.out.size (Nat.le_refl _))
 have hbw := HS.out.trans (hb1.mono HS.out.size)
 rw [← HM.out] at HX ⊢
 clear hss hb1 HF HR HS c0
 rcases HC.out with ⟨h1, h2⟩ | ⟨h1, h2⟩
 ·rw [← HM.out] at h1
  have HP := Lib.hid (show SSP (listR xs) (halfR xs) w (.returned (.slice A1 m cap1)) w1 by
   rw [← h2]
   exact ⟨A1, cap1, by rw [HM.out], by rw [← HM.out]; exact HX.out, hbw⟩)
  have hg : ¬ (300 : Int) < (m : Int) := by omega
  clear h2 HC
  go_wp2
  go_ret
  exact HP.out
 ·rw [← HM.out] at h1
  have HP := Lib.hid (show SSP (listR xs) (halfR xs) w (.returned (.slice none 0 0)) w1 by
   rw [h2]; exact ⟨none, 0, rfl, ss_nil _ _ _ _, hbw⟩)
  have hg : (300 : Int) < (m : Int) := by omega
  clear h2 HC
  go_wp2
  go_ret
  exact HP.out

set_option maxHeartbeats 1000000 in
theorem sListTilings (w : World) (A : Option Addr) (n cap B : Nat) (xs : List Int) (hx : xs.length = n) (hn : (n : Int) ≤ 9223372036854775807) (hrow : RowB w B A xs) (hB : B ≤ w.heap.size) :
  Calls Tryz.prog 52 #[.agg #[.slice A n cap]] w (SSP (listR xs) (halfR xs) w) := by
 have HCt := Lib.hid (fun W (hb : Below w.heap.size w W) => sCountTilings W A n cap B xs hx hn (hrow.below hb hB) (by have := hb.size; omega))
 have HR := Lib.hid (Rg.new w (.slice A n cap))
 have HS := Lib.hid (below_alloc1 w (.cells #[.slice A n cap] 26))
 have hcnt := allR_count xs
 have HIn := Lib.hid (fun W => l01In (tilesR xs) 1 300 W)
 by_cases hin : 1 ≤ tilesR xs ∧ tilesR xs ≤ 300
 ·have ho : okR xs := by
   by_cases q : okR xs
   ·exact q
   ·rw [tilesR_not q] at hin; omega
  rw [inB_of hin] at HIn
  have HL := Lib.hid (fun W (hb : Below w.heap.size w W) (g : Nat) (hd : Hd W g 0 []) => by
   have := sList xs n hx ho A cap B (halfR xs) rfl 65 W (hrow.below hb hB) (by have := hb.size; omega) [] 0 (Beg.zero xs) (Nat.zero_le _) (fun i hi => by omega) (by have := unc_length [] (cellsR xs); have := cellsR_length xs; omega) g 0 hd (by simp) 300 (by omega) (Nat.le_refl _)
   rw [show List.take 300 (cont xs []) = listR xs by
    unfold listR
    rw [if_pos (by omega), cont_nil, allR_ok ho]
    rw [allR_ok ho] at hcnt
    exact List.take_of_length_le (by show (allT xs).length ≤ 300; omega)] at this
   exact show Calls Tryz.prog 84 #[.agg #[.slice A n cap], .slice (some ⟨g, 0, none⟩) 0 0, .int .i64 300] W (SSPost (listR xs) (halfR xs) W) from this)
  have HMd := Lib.hid (fun (W : World) => World.ownsRow_made (base := 0) (e := 73) (size := 3) W #[] 0 (Nat.zero_le _) (by unfold maxLen; omega) rfl)
  generalize tilesR xs = q at HCt HIn
  generalize halfR xs = h at HL ⊢
  generalize listR xs = L at HL ⊢
  clear hcnt hin ho hx hn hrow hB
  go_enter Tryz.func52, Tryz.ntmps52
  go_wp2_with fail
  have c0 := HR.out.c0
  have R0 := HR.out
  have B0 := HS.out
  generalize w.alloc (.cells #[.slice A n cap] 26) = W0 at c0 R0 B0 ⊢
  refine (HCt.out _ B0).mono ?_
  rintro e w1 ⟨rfl, hb1⟩
  have R1 := R0.on hb1
  have B1 := B0.trans (hb1.mono B0.size)
  clear R0 B0 hb1 HR HS HCt c0
  go_wp2_with fail
  refine (HIn.out _).mono ?_
  rintro e w2 ⟨rfl, hw⟩
  have hw := hw.symm
  subst hw
  have c1 := R1.c0
  have B2 := B1.alloc B1.size (.cells #[] 73)
  have hsz := B1.size
  go_wp2_with fail
  refine (HL.out _ B2 _ (HMd.out w1)).mono ?_
  rintro e w3 ⟨g, c, rfl, hss, hb3⟩
  have HP := Lib.hid (show SSP L h w (.returned (.slice (some ⟨g, 0, none⟩) L.length c)) w3 from ⟨_, c, rfl, hss.wide (by simp; omega) (Nat.le_refl _), B2.trans (hb3.mono B2.size)⟩)
  clear hss hb3 HL HMd
  go_wp2
  go_ret
  exact HP.out
 ·have hE : listR xs = [] := by
   unfold listR
   split
   ·exact List.eq_nil_of_length_eq_zero (by omega)
   ·rfl
  rw [inB_not hin] at HIn
  have HP := Lib.hid (fun (w1 : World) (hb : Below w.heap.size w w1) => show SSP (listR xs) (halfR xs) w (.returned (.slice (some ⟨w1.heap.size, 0, none⟩) 0 0)) (w1.alloc (.cells #[] 27)) by
   rw [hE]
   have hn := World.ownsRow_made (base := w.heap.size) (e := 27) (size := 1) w1 #[] 0 hb.size (by unfold maxLen; omega) rfl
   exact ⟨_, 0, rfl, ⟨[], ⟨hn, fun g hg => (hn.lt g hg).2⟩, Ins.nil _ _ _ _⟩, hb.alloc hb.size _⟩)
  generalize tilesR xs = q at HCt HIn
  clear hcnt hin hE hx hn hrow hB
  go_enter Tryz.func52, Tryz.ntmps52
  go_wp2_with fail
  have c0 := HR.out.c0
  have B0 := HS.out
  generalize w.alloc (.cells #[.slice A n cap] 26) = W0 at c0 B0 ⊢
  refine (HCt.out _ B0).mono ?_
  rintro e w1 ⟨rfl, hb1⟩
  have B1 := B0.trans (hb1.mono B0.size)
  clear B0 hb1 HR HS HCt c0
  go_wp2_with fail
  refine (HIn.out _).mono ?_
  rintro e w2 ⟨rfl, hw⟩
  have hw := hw.symm
  subst hw
  go_wp2
  go_ret
  exact HP.out _ B1

def idxFrom : List (List Dm) → List Dm → Nat → Int
 | [], _, _ => -1
 | x :: r, L, k => if x = L then (k : Int) else idxFrom r L (k + 1)
def idxR (T : List (List Dm)) (L : List Dm) : Int := idxFrom T L 0
theorem idx_drop {L : List Dm} : ∀ {T : List (List Dm)} {k i : Nat}, k ≤ T.length → (∀ j (hj : j < T.length), j < k → T[j] ≠ L) → idxFrom T L i = idxFrom (T.drop k) L (i + k)
 | _, 0, _, _, _ => rfl
 | [], k + 1, _, h, _ => by simp at h
 | x :: r, k + 1, i, h, hd => by
  have h0 : x ≠ L := hd 0 (by simp) (by omega)
  show (if x = L then _ else idxFrom r L (i + 1)) = idxFrom (r.drop k) L (i + (k + 1))
  rw [if_neg h0, idx_drop (T := r) (k := k) (by simp at h; omega) (fun j hj hjk => by
   have := hd (j + 1) (by simp; omega) (by omega)
   simpa using this), show i + 1 + k = i + (k + 1) by omega]
theorem idx_at {T : List (List Dm)} {L : List Dm} {k : Nat} (hk : k < T.length) (hd : ∀ j (hj : j < T.length), j < k → T[j] ≠ L) (he : T[k] = L) : idxR T L = (k : Int) := by
 unfold idxR
 rw [idx_drop (Nat.le_of_lt hk) hd, List.drop_eq_getElem_cons hk]
 show (if T[k] = L then ((0 + k : Nat) : Int) else _) = _
 rw [if_pos he, Nat.zero_add]
theorem idx_end {T : List (List Dm)} {L : List Dm} (hd : ∀ j (hj : j < T.length), T[j] ≠ L) : idxR T L = -1 := by
 unfold idxR
 rw [idx_drop (Nat.le_refl _) (fun j hj _ => hd j hj), List.drop_length]; rfl

set_option maxHeartbeats 2000000 in
theorem sIndexOf (w : World) (A : Option Addr) (n cap B : Nat) (xs : List Int) (hx : xs.length = n) (hn : (n : Int) ≤ 9223372036854775807) (hrow : RowB w B A xs) (hB : B ≤ w.heap.size) (A' : Option Addr) (n' cap' B' : Nat) (M : List Dm) (hM : M.length = n') (hn' : (n' : Int) ≤ 9223372036854775807) (h' : RowM w B' A' M) (hB' : B' ≤ w.heap.size) :
  Calls Tryz.prog 19 #[.agg #[.slice A n cap], .slice A' n' cap'] w (Num (idxR (listR xs) M) w) := by
 have HL := Lib.hid (fun W (hb : Below w.heap.size w W) => sListTilings W A n cap B xs hx hn (hrow.below hb hB) (by have := hb.size; omega))
 have HR := Lib.hid (Rg.new w (.slice A n cap))
 have HS := Lib.hid (below_alloc1 w (.cells #[.slice A n cap] 26))
 have hsm := listR_small xs
 have hhf := halfR_le xs
 have hall := listR_half (xs := xs)
 generalize listR xs = T at HL hsm hall ⊢
 generalize halfR xs = h at HL hhf hall
 obtain ⟨m, hm⟩ : ∃ m, m = T.length := ⟨_, rfl⟩
 have HM := Lib.hid hm
 have HSm := Lib.hid (fun (W : World) (B1 : Nat) (k : Nat) (hk : k < T.length) (a : Option Addr) (c : Nat) (hr : RowM W B1 a T[k]) (hB1 : B1 ≤ W.heap.size) (hb : Below w.heap.size w W) => sSame W a A' h n' c cap' B1 B' T[k] M (hall _ (List.getElem_mem hk)) hM (by omega) hn' hr (h'.below hb hB') hB1 (by have := hb.size; omega))
 have HEnd := Lib.hid (fun hd => idx_end (T := T) (L := M) hd)
 have HAt := Lib.hid (fun k hk hd he => idx_at (T := T) (L := M) (k := k) hk hd he)
 generalize idxR T M = r at HEnd HAt ⊢
 rw [← hm] at hsm
 clear hx hn hrow hB hM hn' h' hB' hm hall
 go_enter Tryz.func19, Tryz.ntmps19
 go_wp2_with fail
 have c0 := HR.out.c0
 refine (HL.out _ HS.out).mono ?_
 rintro e w1 ⟨A1, cap1, rfl, hss, hb1⟩
 have hrr := ss_row hss
 have hbw := HS.out.trans (hb1.mono HS.out.size)
 rw [← HM.out] at hrr ⊢
 obtain ⟨b, S, s1, s2, s3⟩ := hrr
 have H1 := Lib.hid s1
 have H2 := Lib.hid s2
 have H3 := Lib.hid s3
 clear hss hb1 HR HS HL c0 s1 s2 s3
 go_wp2_with fail
 go_loopw [6] (fun i wr => ∃ k : Nat, k ≤ m ∧ i = .int .i64 k ∧ Below w1.heap.size w1 wr ∧ Hid (∀ j (hj : j < T.length), j < k → T[j] ≠ M)) (fun i _ => m - (intOf i).toNat)
 case atStart => exact ⟨0, Nat.zero_le _, rfl, Below.refl _ _, Lib.hid (fun j _ h => by omega)⟩
 case round =>
  obtain ⟨k, hk, rfl, hb, hne⟩ := hrel
  have hbs := hb.size
  have hbwr := hbw.trans (hb.mono hbw.size)
  by_cases hlt : k < m
  ·have hkT : k < T.length := by rw [← HM.out]; exact hlt
   obtain ⟨rfl, hbl⟩ := H2.out (by omega)
   have hkS : k < S.length := by rw [H1.out]; exact hkT
   obtain ⟨c1, c2⟩ := H3.out k S[k] T[k] (List.getElem?_eq_getElem hkS) (List.getElem?_eq_getElem hkT)
   have c1' := (hb.cell (p := ⟨b, k, none⟩) (by show b < _; omega)).trans c1
   have HSk := Lib.hid (HSm.out wr w1.heap.size k hkT S[k].1 S[k].2 (c2.below hb (Nat.le_refl _)) hbs hbwr)
   have HAk := Lib.hid (fun he => HAt.out k hkT hne.out he)
   have HNk := Lib.hid (show T[k] ≠ M → Hid (∀ j (hj : j < T.length), j < k + 1 → T[j] ≠ M) from fun hh => Lib.hid (fun j hj h => by
    by_cases q : j = k
    ·subst q; exact hh
    ·exact hne.out j hj (by omega)))
   generalize S[k].1 = a at c1' HSk
   generalize S[k].2 = c at c1' HSk
   clear c1 c2 hkS
   obtain ⟨q, hq⟩ : ∃ q, q = sameD T[k] M := ⟨_, rfl⟩
   rw [← hq] at HSk
   have HQ := Lib.hid hq
   clear hq hne
   go_wp2_with fail
   refine HSk.out.mono ?_
   rintro e w2 ⟨rfl, hb2⟩
   have hb3 := hb.trans (hb2.mono hbs)
   have hbw3 := hbwr.trans (hb2.mono hbwr.size)
   clear HSk hb2
   cases q with
   | true =>
    have hr := HAk.out (by have := HQ.out; unfold sameD at this; exact of_decide_eq_true this.symm)
    have HR2 := Lib.hid hr
    clear hr HAk HNk
    go_wp2
    go_ret
    exact mkNum HR2.out.symm hbw3
   | false =>
    have hn2 := HNk.out (by have := HQ.out; unfold sameD at this; exact of_decide_eq_false this.symm)
    clear HAk HNk HQ
    go_wp2
    go_roundw
    case rel => exact ⟨k + 1, by omega, by go_num, hb3, hn2⟩
    case measure => (simp [intOf] <;> omega)
  ·obtain rfl : k = m := by omega
   have hr := HEnd.out (fun j hj => hne.out j hj (by have := HM.out; omega))
   have HR2 := Lib.hid hr
   clear hr
   go_wp2
   go_ret
   exact mkNum HR2.out.symm hbwr
end Go.Proofs.YtmenmepdmojnfaaGreatDoor.Lst
