/- LisU, DrQ in one text. -/
import Derived.Test.YtieophdbhnpncaaGreatMh29
import Derived.Test.YtieophdbhnpncaaGreatMh28
import Derived.Test.YtieophdbhnpncaaGreatMh05
import Derived.Deep.Cut

namespace Go.Proofs.YtieophdbhnpncaaGreat.LisU
set_option linter.unusedVariables false
set_option linter.unusedSimpArgs false
set_option maxRecDepth 100000
open Go.RowKit Go.Proofs.YtieophdbhnpncaaGreat.Pure Go.Proofs.YtieophdbhnpncaaGreat.Cell Go.Proofs.YtieophdbhnpncaaGreat.Dms Go.Proofs.YtieophdbhnpncaaGreat.Til Go.Proofs.YtieophdbhnpncaaGreat.Dss Go.Proofs.YtieophdbhnpncaaGreat.Lis Go.Joins
open Go.Proofs.YtieophdbhnpncaaGreat.Cnt (gR tiles gR_in gR_out idxs idxs_cells tilesR tilesR_ok tilesR_not)
open Go.Proofs.YtieophdbhnpncaaGreat.Prof (sCountTilings)
open Go.Proofs.YtieophdbhnpncaaGreat.Reg hiding add_none

def allR (xs : List Int) : List (List Dm) := if okR xs then allT xs else []
theorem allR_ok {xs : List Int} (h : okR xs) : allR xs = allT xs := if_pos h
theorem allR_not {xs : List Int} (h : ¬ okR xs) : allR xs = [] := if_neg h
def halfR (xs : List Int) : Nat := (cellsR xs).length / 2
theorem allR_half {xs : List Int} : ∀ L ∈ allR xs, L.length = halfR xs := by
 intro L hL
 by_cases h : okR xs
 ·rw [allR_ok h] at hL; exact all_half h L hL
 ·rw [allR_not h] at hL; cases hL
def SSP (L : List (List Dm)) (h : Nat) (w : World) (e : Ending) (w' : World) : Prop := ∃ A cap, e = .returned (.slice A L.length cap) ∧ SSIn w' w.heap.size w'.heap.size A L.length cap h L ∧ Below w.heap.size w w'
def listR (xs : List Int) : List (List Dm) := if (allR xs).length ≤ 300 then allR xs else []
theorem listR_small (xs : List Int) : (listR xs).length ≤ 300 := by unfold listR; split <;> simp_all
theorem listR_half {xs : List Int} : ∀ L ∈ listR xs, L.length = halfR xs := by
 intro L hL
 unfold listR at hL
 split at hL
 ·exact allR_half L hL
 ·cases hL
theorem halfR_le (xs : List Int) : halfR xs ≤ 32 := by unfold halfR; have := cellsR_length xs; omega
theorem allR_count (xs : List Int) : ((allR xs).length : Int) = tilesR xs := by
 by_cases h : okR xs
 ·rw [allR_ok h, all_length h]
 ·rw [allR_not h, tilesR_not h]; rfl

set_option maxHeartbeats 1000000 in
theorem sListTilings (w : World) (A : Option Addr) (n cap B : Nat) (xs : List Int) (hx : xs.length = n) (hn : (n : Int) ≤ 9223372036854775807) (hrow : RowB w B A xs) (hB : B ≤ w.heap.size) :
  Calls Tryz.prog 54 #[.agg #[.slice A n cap]] w (SSP (listR xs) (halfR xs) w) := by
 have HCt := Lib.hid (fun W (hb : Below w.heap.size w W) => sCountTilings W A n cap B xs hx hn (hrow.below hb hB) (by have := hb.size; omega))
 have HR := Lib.hid (Rg.new w (.slice A n cap))
 have HS := Lib.hid (below_alloc1 w (.cells #[.slice A n cap] 26))
 have hcnt := allR_count xs
 have HIn := Lib.hid (fun W => l01In (tilesR xs) 1 300 W)
 by_cases hin : 1 ≤ tilesR xs ∧ tilesR xs ≤ 300
 ·have ho : okR xs := by
   by_cases q : okR xs
   ·exact q
   ·rw [tilesR_not q] at hin; omega
  rw [inB_of hin] at HIn
  have HL := Lib.hid (fun W (hb : Below w.heap.size w W) (g : Nat) (hd : Hd W g 0 []) => by
   have := sList xs n hx ho A cap B (halfR xs) rfl 65 W (hrow.below hb hB) (by have := hb.size; omega) [] 0 (Beg.zero xs) (Nat.zero_le _) (fun i hi => by omega) (by have := unc_length [] (cellsR xs); have := cellsR_length xs; omega) g 0 hd (by simp) 300 (by omega) (Nat.le_refl _)
   rw [show List.take 300 (cont xs []) = listR xs by
    unfold listR
    rw [if_pos (by omega), cont_nil, allR_ok ho]
    rw [allR_ok ho] at hcnt
    exact List.take_of_length_le (by show (allT xs).length ≤ 300; omega)] at this
   exact show Calls Tryz.prog 86 #[.agg #[.slice A n cap], .slice (some ⟨g, 0, none⟩) 0 0, .int .i64 300] W (SSPost (listR xs) (halfR xs) W) from this)
  have HMd := Lib.hid (fun (W : World) => World.ownsRow_made (base := 0) (e := 67) (size := 3) W #[] 0 (Nat.zero_le _) (by unfold maxLen; omega) rfl)
  generalize tilesR xs = q at HCt HIn
  generalize halfR xs = h at HL ⊢
  generalize listR xs = L at HL ⊢
  clear hcnt hin ho hx hn hrow hB
  go_enter Tryz.func54, Tryz.ntmps54
  go_wp2_with fail
  have c0 := HR.out.c0
  have R0 := HR.out
  have B0 := HS.out
  generalize w.alloc (.cells #[.slice A n cap] 26) = W0 at c0 R0 B0 ⊢
  refine (HCt.out _ B0).mono ?_
  rintro e w1 ⟨rfl, hb1⟩
  have R1 := R0.on hb1
  have B1 := B0.trans (hb1.mono B0.size)
  clear R0 B0 hb1 HR HS HCt c0
  go_wp2_with fail
  refine (HIn.out _).mono ?_
  rintro e w2 ⟨rfl, hw⟩
  have hw := hw.symm
  subst hw
  have c1 := R1.c0
  have B2 := B1.alloc B1.size (.cells #[] 67)
  have hsz := B1.size
  go_wp2_with fail
  refine (HL.out _ B2 _ (HMd.out w1)).mono ?_
  rintro e w3 ⟨g, c, rfl, hss, hb3⟩
  have HP := Lib.hid (show SSP L h w (.returned (.slice (some ⟨g, 0, none⟩) L.length c)) w3 from ⟨_, c, rfl, hss.wide (by simp; omega) (Nat.le_refl _), B2.trans (hb3.mono B2.size)⟩)
  clear hss hb3 HL HMd
  go_wp2
  go_ret
  exact HP.out
 ·have hE : listR xs = [] := by
   unfold listR
   split
   ·exact List.eq_nil_of_length_eq_zero (by omega)
   ·rfl
  rw [inB_not hin] at HIn
  have HP := Lib.hid (fun (w1 : World) (hb : Below w.heap.size w w1) => show SSP (listR xs) (halfR xs) w (.returned (.slice (some ⟨w1.heap.size, 0, none⟩) 0 0)) (w1.alloc (.cells #[] 27)) by
   rw [hE]
   have hn := World.ownsRow_made (base := w.heap.size) (e := 27) (size := 1) w1 #[] 0 hb.size (by unfold maxLen; omega) rfl
   exact ⟨_, 0, rfl, ⟨[], ⟨hn, fun g hg => (hn.lt g hg).2⟩, Ins.nil _ _ _ _⟩, hb.alloc hb.size _⟩)
  generalize tilesR xs = q at HCt HIn
  clear hcnt hin hE hx hn hrow hB
  go_enter Tryz.func54, Tryz.ntmps54
  go_wp2_with fail
  have c0 := HR.out.c0
  have B0 := HS.out
  generalize w.alloc (.cells #[.slice A n cap] 26) = W0 at c0 B0 ⊢
  refine (HCt.out _ B0).mono ?_
  rintro e w1 ⟨rfl, hb1⟩
  have B1 := B0.trans (hb1.mono B0.size)
  clear B0 hb1 HR HS HCt c0
  go_wp2_with fail
  refine (HIn.out _).mono ?_
  rintro e w2 ⟨rfl, hw⟩
  have hw := hw.symm
  subst hw
  go_wp2
  go_ret
  exact HP.out _ B1

end Go.Proofs.YtieophdbhnpncaaGreat.LisU

namespace Go.Proofs.YtieophdbhnpncaaGreat.Tile
set_option linter.unusedVariables false
set_option maxRecDepth 100000
set_option linter.unusedSimpArgs false
open Go.RowKit Go.Proofs.YtieophdbhnpncaaGreat.Pure Go.Proofs.YtieophdbhnpncaaGreat.Til Go.Proofs.YtieophdbhnpncaaGreat.LisU Go.Joins
open Go.Proofs.YtieophdbhnpncaaGreat.Cnt (tilesR)

theorem own_kept {w w' : World} {base e size n g : Nat} {v : Value} {xs : List Value} (h : w.ownsRow base e size v n xs) (hg : w.grownBy w' (some g)) (hb : g < base) : w'.ownsRow base e size v n xs :=
 h.kept hg (by
  cases hv : v.ownBlock with
  | none => exact .inl rfl
  | some q => right; intro e; injection e with e; have := (h.lt q hv).1; omega)
theorem tiling_any {ys : List Int} (h : okR ys ∧ 1 ≤ tilesR ys ∧ tilesR ys ≤ 300) : 0 < (listR ys).length ∧ (listR ys).length ≤ 300 ∧ halfR ys ≤ 32 ∧ ∀ L ∈ listR ys, okR ys ∧ tilB ys L = true ∧ L.length = halfR ys := by
 have hc := allR_count ys
 have e : listR ys = allR ys := by unfold listR; rw [if_pos (by omega)]
 refine ⟨by rw [e]; omega, listR_small ys, halfR_le ys, fun L hL => ⟨h.1, ?_, listR_half L hL⟩⟩
 rw [e, allR_ok h.1] at hL
 exact Lis.all_til h.1 L hL
end Go.Proofs.YtieophdbhnpncaaGreat.Tile
