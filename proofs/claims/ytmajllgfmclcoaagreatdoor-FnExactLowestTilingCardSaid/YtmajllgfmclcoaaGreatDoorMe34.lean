/- StC, LstG, EndP, Cor in one text. -/
import Derived.Test.YtmajllgfmclcoaaGreatDoorMe33
import Derived.Test.YtmajllgfmclcoaaGreatDoorMe11
import Derived.Test.YtmajllgfmclcoaaGreatDoorMe04
import Derived.Test.YtmajllgfmclcoaaGreatDoorMe30
import Derived.Test.YtmajllgfmclcoaaGreatDoorMe31
import Derived.Test.YtmajllgfmclcoaaGreatDoorMe25
import Derived.Test.YtmajllgfmclcoaaGreatDoorMe05
import Derived.Test.YtmajllgfmclcoaaGreatDoorMe22
import Derived.Test.YtmajllgfmclcoaaGreatDoorMe01
import Derived.Deep.RegionHeld3
import Derived.Deep.Cut
import Derived.Lib.Hide

namespace Go.Proofs.YtmajllgfmclcoaaGreatDoor.Prof
set_option linter.unusedVariables false
set_option maxRecDepth 100000
set_option linter.unusedSimpArgs false
open Go.RowKit Go.Proofs.YtmajllgfmclcoaaGreatDoor.Pure Go.Proofs.YtmajllgfmclcoaaGreatDoor.Cell Go.Proofs.YtmajllgfmclcoaaGreatDoor.Reg Go.Proofs.YtmajllgfmclcoaaGreatDoor.Cnt Go.Joins

set_option maxRecDepth 100000 in
set_option maxHeartbeats 1000000 in
theorem sCountTilings (w : World) (A : Option Addr) (n cap B : Nat) (xs : List Int) (hx : xs.length = n) (hn : (n : Int) ≤ 9223372036854775807) (h : RowB w B A xs) (hB : B ≤ w.heap.size) :
  Calls Tryz.prog 58 #[.agg #[.slice A n cap]] w (Num (tilesR xs) w) := by
 have T0 := Lib.hid (fun (T : TypeId) => rb_start (T := T) (.slice A n cap) w)
 have HOk := Lib.hid (fun W (hb : RB w (.slice A n cap) W) => sRegionOk W A n cap B xs hx hn (h.below hb.1 hB) (by have := hb.2.1; omega))
 have HC := Lib.hid (fun W (ho : okR xs) (hb : RB w (.slice A n cap) W) => show Calls Tryz.prog 71 #[.agg #[.slice A n cap]] W (Num (tilesR xs) W) from by rw [tilesR_ok ho]; exact sCount W A n cap B xs hx ho (h.below hb.1 hB) (by have := hb.2.1; omega))
 by_cases ho : okR xs
 ·rw [okRB_of ho] at HOk
  have HC1 := Lib.hid (fun W (hb : RB w (.slice A n cap) W) => HC.out W ho hb)
  generalize tilesR xs = t at HC1 ⊢
  clear hx hn h ho HC
  go_enter Tryz.func58, Tryz.ntmps58
  go_wp2_with fail
  refine (HOk.out _ (T0.out _)).mono ?_
  rintro e w1 ⟨rfl, hb1⟩
  have T1 := (T0.out 26).on hb1
  have c1 := T1.2.2
  clear T0 HOk hb1
  go_wp2_with fail
  refine (HC1.out _ T1).mono ?_
  rintro e w2 ⟨rfl, hb2⟩
  have T2 := T1.on hb2
  clear T1 c1 HC1 hb2
  go_wp2
  go_ret
  exact ⟨rfl, T2.1⟩
 ·rw [okRB_not ho] at HOk
  have HE := Lib.hid (tilesR_not ho)
  clear hx hn h ho HC
  go_enter Tryz.func58, Tryz.ntmps58
  go_wp2_with fail
  refine (HOk.out _ (T0.out _)).mono ?_
  rintro e w1 ⟨rfl, hb1⟩
  have T1 := (T0.out 26).on hb1
  clear T0 HOk hb1
  go_wp2
  go_ret
  exact mkNum HE.out.symm T1.1

end Go.Proofs.YtmajllgfmclcoaaGreatDoor.Prof

namespace Go.Proofs.YtmajllgfmclcoaaGreatDoor.Lst
set_option linter.unusedVariables false
set_option linter.unusedSimpArgs false
set_option maxRecDepth 100000
open Go.RowKit Go.Proofs.YtmajllgfmclcoaaGreatDoor.Pure Go.Proofs.YtmajllgfmclcoaaGreatDoor.Cell Go.Proofs.YtmajllgfmclcoaaGreatDoor.Dms Go.Proofs.YtmajllgfmclcoaaGreatDoor.Til Go.Proofs.YtmajllgfmclcoaaGreatDoor.Dss Go.Proofs.YtmajllgfmclcoaaGreatDoor.Lis Go.Proofs.YtmajllgfmclcoaaGreatDoor.Sets Go.Proofs.YtmajllgfmclcoaaGreatDoor.Ext Go.Joins
open Go.Proofs.YtmajllgfmclcoaaGreatDoor.Cnt (gR tiles gR_in gR_out idxs idxs_cells tilesR tilesR_ok tilesR_not)
open Go.Proofs.YtmajllgfmclcoaaGreatDoor.Prof (sCountTilings)
open Go.Proofs.YtmajllgfmclcoaaGreatDoor.Reg hiding Yes

def listR (xs : List Int) : List (List Dm) := if (allR xs).length ≤ 300 then allR xs else []
theorem listR_small (xs : List Int) : (listR xs).length ≤ 300 := by unfold listR; split <;> simp_all
theorem listR_half {xs : List Int} : ∀ L ∈ listR xs, L.length = halfR xs := by
 intro L hL
 unfold listR at hL
 split at hL
 ·exact allR_half L hL
 ·cases hL
theorem halfR_le (xs : List Int) : halfR xs ≤ 32 := by unfold halfR; have := cellsR_length xs; omega
theorem take_301 (xs : List Int) : (((allR xs).take 301).length ≤ 300 ∧ (allR xs).take 301 = listR xs) ∨ (300 < ((allR xs).take 301).length ∧ listR xs = []) := by
 by_cases h : (allR xs).length ≤ 300
 ·left
  rw [List.take_of_length_le (by omega)]
  unfold listR
  rw [if_pos h]
  exact ⟨h, rfl⟩
 ·right
  rw [List.length_take]
  unfold listR
  rw [if_neg h]
  exact ⟨by omega, rfl⟩
theorem allR_count (xs : List Int) : ((allR xs).length : Int) = tilesR xs := by
 by_cases h : okR xs
 ·rw [allR_ok h, all_length h]
 ·rw [allR_not h, tilesR_not h]; rfl

set_option maxHeartbeats 1000000 in
theorem iListTilings (w : World) (A : Option Addr) (n cap B : Nat) (xs : List Int) (hx : xs.length = n) (hn : (n : Int) ≤ 9223372036854775807) (hrow : RowB w B A xs) (hB : B ≤ w.heap.size) (hT : Tab w) :
  Calls Tryz.prog 52 #[.agg #[.slice A n cap]] w (SSP (listR xs) (halfR xs) w) := by
 have HF := Lib.hid (fun W (hb : Below w.heap.size w W) => iFirstTilings W A n cap B xs hx hn (hrow.below hb hB) (by have := hb.size; omega) 301 (by omega) (hT.on hb (Nat.le_refl _)))
 have HR := Lib.hid (Rg.new w (.slice A n cap))
 have HS := Lib.hid (below_alloc1 w (.cells #[.slice A n cap] 26))
 have HC := Lib.hid (take_301 xs)
 generalize (allR xs).take 301 = T at HF HC
 obtain ⟨m, hm⟩ : ∃ m, m = T.length := ⟨_, rfl⟩
 have HM := Lib.hid hm
 have HF := Lib.hid (fun W hb => show Calls Tryz.prog 79 #[.agg #[.slice A n cap], .int .i64 301] W (SSP T (halfR xs) W) from HF.out W hb)
 clear hx hn hrow hB hT hm
 go_enter Tryz.func52, Tryz.ntmps52
 go_wp2_with fail
 have c0 := HR.out.c0
 refine (HF.out _ HS.out).mono ?_
 rintro e w1 ⟨A1, cap1, rfl, hss, hb1⟩
 have HX := Lib.hid (hss.wide (lo' := w.heap.size) (hi' := w1.heap.size) HS.out.size (Nat.le_refl _))
 have hbw := HS.out.trans (hb1.mono HS.out.size)
 rw [← HM.out] at HX ⊢
 clear hss hb1 HF HR HS c0
 rcases HC.out with ⟨h1, h2⟩ | ⟨h1, h2⟩
 ·rw [← HM.out] at h1
  have HP := Lib.hid (show SSP (listR xs) (halfR xs) w (.returned (.slice A1 m cap1)) w1 by
   rw [← h2]
   exact ⟨A1, cap1, by rw [HM.out], by rw [← HM.out]; exact HX.out, hbw⟩)
  have hg : ¬ (300 : Int) < (m : Int) := by omega
  clear h2 HC
  go_wp2
  go_ret
  exact HP.out
 ·rw [← HM.out] at h1
  have HP := Lib.hid (show SSP (listR xs) (halfR xs) w (.returned (.slice none 0 0)) w1 by
   rw [h2]; exact ⟨none, 0, rfl, ss_nil _ _ _ _, hbw⟩)
  have hg : (300 : Int) < (m : Int) := by omega
  clear h2 HC
  go_wp2
  go_ret
  exact HP.out

set_option maxHeartbeats 1000000 in
theorem sListTilings (w : World) (A : Option Addr) (n cap B : Nat) (xs : List Int) (hx : xs.length = n) (hn : (n : Int) ≤ 9223372036854775807) (hrow : RowB w B A xs) (hB : B ≤ w.heap.size) :
  Calls Tryz.prog 38 #[.agg #[.slice A n cap]] w (SSP (listR xs) (halfR xs) w) := by
 have HCt := Lib.hid (fun W (hb : Below w.heap.size w W) => sCountTilings W A n cap B xs hx hn (hrow.below hb hB) (by have := hb.size; omega))
 have HR := Lib.hid (Rg.new w (.slice A n cap))
 have HS := Lib.hid (below_alloc1 w (.cells #[.slice A n cap] 26))
 have hcnt := allR_count xs
 have HIn := Lib.hid (fun W => l01In (tilesR xs) 1 300 W)
 by_cases hin : 1 ≤ tilesR xs ∧ tilesR xs ≤ 300
 ·have ho : okR xs := by
   by_cases q : okR xs
   ·exact q
   ·rw [tilesR_not q] at hin; omega
  rw [inB_of hin] at HIn
  have HL := Lib.hid (fun W (hb : Below w.heap.size w W) (g : Nat) (hd : Hd W g 0 []) => by
   have := sList xs n hx ho A cap B (halfR xs) rfl 65 W (hrow.below hb hB) (by have := hb.size; omega) [] 0 (Beg.zero xs) (Nat.zero_le _) (fun i hi => by omega) (by have := unc_length [] (cellsR xs); have := cellsR_length xs; omega) g 0 hd (by simp) 300 (by omega) (Nat.le_refl _)
   rw [show List.take 300 (cont xs []) = listR xs by
    unfold listR
    rw [if_pos (by omega), cont_nil, allR_ok ho]
    rw [allR_ok ho] at hcnt
    exact List.take_of_length_le (by show (allT xs).length ≤ 300; omega)] at this
   exact show Calls Tryz.prog 59 #[.agg #[.slice A n cap], .slice (some ⟨g, 0, none⟩) 0 0, .int .i64 300] W (SSPost (listR xs) (halfR xs) W) from this)
  have HMd := Lib.hid (fun (W : World) => World.ownsRow_made (base := 0) (e := 63) (size := 3) W #[] 0 (Nat.zero_le _) (by unfold maxLen; omega) rfl)
  generalize tilesR xs = q at HCt HIn
  generalize halfR xs = h at HL ⊢
  generalize listR xs = L at HL ⊢
  clear hcnt hin ho hx hn hrow hB
  go_enter Tryz.func38, Tryz.ntmps38
  go_wp2_with fail
  have c0 := HR.out.c0
  have R0 := HR.out
  have B0 := HS.out
  generalize w.alloc (.cells #[.slice A n cap] 26) = W0 at c0 R0 B0 ⊢
  refine (HCt.out _ B0).mono ?_
  rintro e w1 ⟨rfl, hb1⟩
  have R1 := R0.on hb1
  have B1 := B0.trans (hb1.mono B0.size)
  clear R0 B0 hb1 HR HS HCt c0
  go_wp2_with fail
  refine (HIn.out _).mono ?_
  rintro e w2 ⟨rfl, hw⟩
  have hw := hw.symm
  subst hw
  have c1 := R1.c0
  have B2 := B1.alloc B1.size (.cells #[] 63)
  have hsz := B1.size
  go_wp2_with fail
  refine (HL.out _ B2 _ (HMd.out w1)).mono ?_
  rintro e w3 ⟨g, c, rfl, hss, hb3⟩
  have HP := Lib.hid (show SSP L h w (.returned (.slice (some ⟨g, 0, none⟩) L.length c)) w3 from ⟨_, c, rfl, hss.wide (by simp; omega) (Nat.le_refl _), B2.trans (hb3.mono B2.size)⟩)
  clear hss hb3 HL HMd
  go_wp2
  go_ret
  exact HP.out
 ·have hE : listR xs = [] := by
   unfold listR
   split
   ·exact List.eq_nil_of_length_eq_zero (by omega)
   ·rfl
  rw [inB_not hin] at HIn
  have HP := Lib.hid (fun (w1 : World) (hb : Below w.heap.size w w1) => show SSP (listR xs) (halfR xs) w (.returned (.slice (some ⟨w1.heap.size, 0, none⟩) 0 0)) (w1.alloc (.cells #[] 27)) by
   rw [hE]
   have hn := World.ownsRow_made (base := w.heap.size) (e := 27) (size := 1) w1 #[] 0 hb.size (by unfold maxLen; omega) rfl
   exact ⟨_, 0, rfl, ⟨[], ⟨hn, fun g hg => (hn.lt g hg).2⟩, Ins.nil _ _ _ _⟩, hb.alloc hb.size _⟩)
  generalize tilesR xs = q at HCt HIn
  clear hcnt hin hE hx hn hrow hB
  go_enter Tryz.func38, Tryz.ntmps38
  go_wp2_with fail
  have c0 := HR.out.c0
  have B0 := HS.out
  generalize w.alloc (.cells #[.slice A n cap] 26) = W0 at c0 B0 ⊢
  refine (HCt.out _ B0).mono ?_
  rintro e w1 ⟨rfl, hb1⟩
  have B1 := B0.trans (hb1.mono B0.size)
  clear B0 hb1 HR HS HCt c0
  go_wp2_with fail
  refine (HIn.out _).mono ?_
  rintro e w2 ⟨rfl, hw⟩
  have hw := hw.symm
  subst hw
  go_wp2
  go_ret
  exact HP.out _ B1

end Go.Proofs.YtmajllgfmclcoaaGreatDoor.Lst

namespace Go.Proofs.YtmajllgfmclcoaaGreatDoor.Jn
set_option linter.unusedVariables false
set_option linter.unusedSimpArgs false
set_option maxRecDepth 100000
open Go.RowKit Go.Proofs.YtmajllgfmclcoaaGreatDoor.Pure Go.Proofs.YtmajllgfmclcoaaGreatDoor.Dom Go.Proofs.YtmajllgfmclcoaaGreatDoor.Dms Go.Proofs.YtmajllgfmclcoaaGreatDoor.Til Go.Proofs.YtmajllgfmclcoaaGreatDoor.Hgt Go.Proofs.YtmajllgfmclcoaaGreatDoor.Lis Go.Joins
open Go.Proofs.YtmajllgfmclcoaaGreatDoor.Flo (simB)
open Go.Proofs.YtmajllgfmclcoaaGreatDoor.Lst (listR listR_small listR_half halfR_le)
open Go.Proofs.YtmajllgfmclcoaaGreatDoor.Ext (allR allR_ok allR_not halfR)

theorem list_til {xs : List Int} (h : listR xs ≠ []) : ∀ N, tilB xs N = true → N ∈ listR xs := fun N hN => by
 unfold listR at h ⊢
 by_cases ho : okR xs
 ·by_cases hl : (allR xs).length ≤ 300
  ·rw [if_pos hl, allR_ok ho]
   exact KuL.til_all ho hN
  ·rw [if_neg hl] at h; exact absurd rfl h
 ·rw [allR_not ho] at h; simp at h
theorem list_mem {xs : List Int} {N : List Dm} (h : N ∈ listR xs) : okR xs ∧ tilB xs N = true := by
 unfold listR at h
 by_cases ho : okR xs
 ·by_cases hl : (allR xs).length ≤ 300
  ·rw [if_pos hl, allR_ok ho] at h
   exact ⟨ho, all_til ho N h⟩
  ·rw [if_neg hl] at h; cases h
 ·rw [allR_not ho] at h; simp at h
theorem list_fits {xs : List Int} {N : List Dm} (h : N ∈ listR xs) : Fits N := by
 have ht := Grd.part_valid (til_part (list_mem h).2)
 intro d hd
 have := okM_in (ht d hd)
 unfold Sm; omega
theorem endR_len {t : Int} {xs : List Int} {N : List Dm} {ok : Bool} (h : endR t xs (listR xs) N ok) : N.length ≤ 32 := by
 rcases h with ⟨_, _, hm, _⟩ | ⟨_, rfl, _⟩
 ·rw [listR_half N hm]; exact halfR_le xs
 ·simp
theorem endR_no {t : Int} {xs : List Int} {T : List (List Dm)} (h : ¬ (simB xs = true ∧ T ≠ [])) : endR t xs T [] false := .inr ⟨rfl, rfl, h⟩
theorem hgt_row {xs : List Int} {N : List Dm} {h : List Int} (hs : simB xs = true) (hm : N ∈ listR xs) (r : hgtR xs N h) : Row9 xs N h ∧ h.length = 81 := by
 rcases r with ⟨_, r⟩ | ⟨n, _⟩
 ·exact ⟨r, r.len⟩
 ·exact absurd ⟨hs, (list_mem hm).2⟩ n
def sumsR (xs : List Int) (T : List (List Dm)) (k : Nat) (S : List Int) : Prop :=
 S.length = k ∧ ∀ i (hi : i < T.length), i < k → ∃ h, Row9 xs T[i] h ∧ S[i]? = some (sumH h 81)
theorem sums_zero (xs : List Int) (T : List (List Dm)) : sumsR xs T 0 [] := ⟨rfl, fun i _ h => by omega⟩
theorem sums_next {xs : List Int} {T : List (List Dm)} {k : Nat} {S : List Int} (s : sumsR xs T k S) (hk : k < T.length) {h : List Int} (r : Row9 xs T[k] h) : sumsR xs T (k + 1) (S ++ [sumH h 81]) := by
 obtain ⟨l, f⟩ := s
 refine ⟨by simp [l], fun i hi hik => ?_⟩
 by_cases e : i = k
 ·subst e
  exact ⟨h, r, by rw [List.getElem?_append_right (by omega), l]; simp⟩
 ·obtain ⟨h', r', q⟩ := f i hi (by omega)
  exact ⟨h', r', by rw [List.getElem?_append_left (by omega)]; exact q⟩
def chosR (t : Int) (S : List Int) (k : Nat) (c : Int) : Prop := c ∈ S ∧ ∀ i x, i < k → S[i]? = some x → t * c ≤ t * x
theorem chos_zero {t : Int} {S : List Int} {c : Int} (h : S[0]? = some c) : chosR t S 0 c := ⟨List.mem_of_getElem? h, fun i x hi => by omega⟩
theorem chos_low {S : List Int} {k : Nat} {c x : Int} (h : chosR 1 S k c) (hx : S[k]? = some x) : chosR 1 S (k + 1) (min c x) := by
 obtain ⟨m, f⟩ := h
 refine ⟨?_, fun i y hi hy => ?_⟩
 ·rcases Int.le_total c x with q | q
  ·rw [Int.min_eq_left q]; exact m
  ·rw [Int.min_eq_right q]; exact List.mem_of_getElem? hx
 ·by_cases e : i = k
  ·subst e
   rw [hx] at hy; injection hy with hy; omega
  ·have := f i y (by omega) hy; omega
theorem chos_high {S : List Int} {k : Nat} {c x : Int} (h : chosR (-1) S k c) (hx : S[k]? = some x) : chosR (-1) S (k + 1) (max c x) := by
 obtain ⟨m, f⟩ := h
 refine ⟨?_, fun i y hi hy => ?_⟩
 ·rcases Int.le_total c x with q | q
  ·rw [Int.max_eq_right q]; exact List.mem_of_getElem? hx
  ·rw [Int.max_eq_left q]; exact m
 ·by_cases e : i = k
  ·subst e
   rw [hx] at hy; injection hy with hy; omega
  ·have := f i y (by omega) hy; omega
theorem end_sums {t : Int} {xs : List Int} {T : List (List Dm)} {S : List Int} {c : Int} {i : Nat} (hs : simB xs = true) (s : sumsR xs T T.length S) (ch : chosR t S S.length c) (hi : i < T.length) (he : S[i]? = some c) : endR t xs T T[i] true := by
 obtain ⟨l, f⟩ := s
 obtain ⟨h, r, e⟩ := f i hi hi
 have hc : c = sumH h 81 := by rw [he] at e; injection e
 refine .inl ⟨rfl, hs, List.getElem_mem hi, h, r, fun N' hN' h' r' => ?_⟩
 obtain ⟨j, hj, rfl⟩ := List.getElem_of_mem hN'
 obtain ⟨h2, r2, e2⟩ := f j hj hj
 rw [row_uniq r' r2, ← hc]
 exact ch.2 j _ (by omega) e2
end Go.Proofs.YtmajllgfmclcoaaGreatDoor.Jn

namespace Go.Proofs.YtmajllgfmclcoaaGreatDoor.Cor
set_option linter.unusedVariables false
set_option linter.unusedSimpArgs false
set_option maxRecDepth 100000
open Go.RowKit Go.Proofs.YtmajllgfmclcoaaGreatDoor.Cell Go.Proofs.YtmajllgfmclcoaaGreatDoor.Dom Go.Proofs.YtmajllgfmclcoaaGreatDoor.Hgt Go.Joins

def AtC (W : World) (q : Nat) (x y : Int) : Prop := W.heap[q]? = some (.cells #[.int .i64 x, .int .i64 y] 96)
theorem AtC.on {W W' : World} {q : Nat} {x y : Int} (h : AtC W q x y) (hb : Below W.heap.size W W') : AtC W' q x y := (hb.block q (Array.getElem?_eq_some_iff.1 h).1).trans h
theorem AtC.c0 {W : World} {q : Nat} {x y : Int} (h : AtC W q x y) : W.cell? ⟨q, 0, none⟩ = some (.int .i64 x) := (cell_of_row _ _ 0 _ _ _ h).trans rfl
theorem AtC.c1 {W : World} {q : Nat} {x y : Int} (h : AtC W q x y) : W.cell? ⟨q, 1, none⟩ = some (.int .i64 y) := (cell_of_row _ _ 1 _ _ _ h).trans rfl
theorem AtC.lt {W : World} {q : Nat} {x y : Int} (h : AtC W q x y) : q < W.heap.size := (Array.getElem?_eq_some_iff.1 h).1
theorem AtC.new (W : World) (x y : Int) : AtC (W.alloc (.cells #[.int .i64 x, .int .i64 y] 96)) W.heap.size x y := heap_alloc_new W _
theorem AtC.drew {W : World} {q : Nat} {x y : Int} (h : AtC W q x y) : AtC W.drew q x y := h
theorem AtC.far {W : World} {p q i : Nat} {x y : Int} {v : Value} (h : AtC W q x y) (hp : q ≠ p) : AtC (W.setCell ⟨p, i, none⟩ v) q x y := (Below.heap_setCell W ⟨p, i, none⟩ v q hp).trans h
theorem AtC.far2 {W : World} {p q : Nat} {x y : Int} {u v : Value} (h : AtC W q x y) (hp : q ≠ p) : AtC ((W.setCell ⟨p, 0, none⟩ u).setCell ⟨p, 1, none⟩ v) q x y := (h.far hp).far hp

set_option maxHeartbeats 400000 in
theorem iInRange (x y : Int) (w : World) :
  Calls Tryz.prog 124 #[.agg #[.int .i64 x, .int .i64 y]] w (Bol (inC (x, y)) w) := by
 have H : ∀ (b : Bool) (W : World), (b = true ↔ 0 ≤ x ∧ x < 9 ∧ 0 ≤ y ∧ y < 9) → Below w.heap.size w W → Bol (inC (x, y)) w (.returned (.bool b)) W := fun b W h hb => mkBol (by rw [Bool.eq_iff_iff, inC_iff]; exact h) hb
 have HH := Lib.hid H
 clear H
 go_enter Tryz.func124, Tryz.ntmps124
 go_wp2
 all_goals
  go_ret
  refine HH.out _ _ ?_ (below_alloc1 _ _)
  simp
  try omega
set_option maxHeartbeats 400000 in
theorem iIndex (x y : Int) (h : 0 ≤ x ∧ x ≤ 8 ∧ 0 ≤ y ∧ y ≤ 8) (w : World) :
  Calls Tryz.prog 83 #[.agg #[.int .i64 x, .int .i64 y]] w (Num (y * 9 + x) w) := by
 have H : ∀ (z : Int) (W : World), z = y * 9 + x → Below w.heap.size w W → Num (y * 9 + x) w (.returned (.int .i64 z)) W := fun z W e hb => ⟨by rw [e], hb⟩
 have HH := Lib.hid H
 have HV := Lib.hid h
 clear H h
 go_enter Tryz.func83, Tryz.ntmps83
 go_wp2
 go_ret
 refine HH.out _ _ ?_ (below_alloc1 _ _)
 have hv := HV.out
 first
 | rfl
 | (simp only [IntKind.wrap_i64]; unfold wrap64; omega)
 | (simp only [IntKind.wrap_i64]; omega)
 | (unfold wrap64; omega)
def CelP (x y : Int) (w : World) (e : Ending) (w' : World) : Prop := e = .returned (.agg #[.int .i64 x, .int .i64 y]) ∧ Below w.heap.size w w'
theorem at3_cor (w : World) (a b c d X Y : Int) (W : World) (e : W = ((w.alloc (.cells #[.int .i64 a, .int .i64 b] 96)).alloc (.cells #[.int .i64 c, .int .i64 d] 96)).alloc (.cells #[.int .i64 X, .int .i64 Y] 79)) :
  At2 W (w.heap.size + 1 + 1) X Y ∧ Below w.heap.size w W := by
 subst e
 refine ⟨?_, below_alloc3 w _ _ _⟩
 have k := At2.new ((w.alloc (.cells #[.int .i64 a, .int .i64 b] 96)).alloc (.cells #[.int .i64 c, .int .i64 d] 96)) X Y
 simpa using k
set_option maxHeartbeats 1000000 in
theorem iLeft (px py qx qy : Int) (hp : 0 ≤ px ∧ px ≤ 8 ∧ 0 ≤ py ∧ py ≤ 8) (hq : 0 ≤ qx ∧ qx ≤ 8 ∧ 0 ≤ qy ∧ qy ≤ 8) (w : World) :
  Calls Tryz.prog 125 #[.agg #[.int .i64 px, .int .i64 py], .agg #[.int .i64 qx, .int .i64 qy]] w (CelP (clX px py qx qy) (clY px py qx qy) w) := by
 have e1 : wrap64 (py - 1) = py - 1 := by unfold wrap64; omega
 have e2 : wrap64 (qx - 1) = qx - 1 := by unfold wrap64; omega
 have HX := Lib.hid (show clX px py qx qy = if px < qx then px else if qx < px then qx else if py < qy then px else qx - 1 from rfl)
 have HY := Lib.hid (show clY px py qx qy = if px < qx then py - 1 else if qx < px then qy else if py < qy then py else qy from rfl)
 generalize clX px py qx qy = m at HX ⊢
 generalize clY px py qx qy = n at HY ⊢
 clear hp hq
 by_cases h1 : px < qx
 ·obtain ⟨rfl, rfl⟩ : m = px ∧ n = py - 1 := by rw [HX.out, HY.out, if_pos h1, if_pos h1]; exact ⟨rfl, rfl⟩
  have K := Lib.hid (at3_cor w m py qx qy m (py - 1) _ rfl)
  clear HX HY
  go_enter Tryz.func125, Tryz.ntmps125
  go_wp2
  have r0 := K.out.1.c0
  have r1 := K.out.1.c1
  refine bodyPost_ret (v := .agg #[.int .i64 m, .int .i64 (py - 1)]) ?_ rfl ⟨rfl, K.out.2⟩
  simp [results, Tryz.results125, go_sem, r0, r1]
 by_cases h2 : qx < px
 ·obtain ⟨rfl, rfl⟩ : m = qx ∧ n = qy := by rw [HX.out, HY.out, if_neg h1, if_neg h1, if_pos h2, if_pos h2]; exact ⟨rfl, rfl⟩
  have K := Lib.hid (at3_cor w px py m n m n _ rfl)
  clear HX HY
  go_enter Tryz.func125, Tryz.ntmps125
  go_wp2
  have r0 := K.out.1.c0
  have r1 := K.out.1.c1
  refine bodyPost_ret (v := .agg #[.int .i64 m, .int .i64 n]) ?_ rfl ⟨rfl, K.out.2⟩
  simp [results, Tryz.results125, go_sem, r0, r1]
 by_cases h3 : py < qy
 ·obtain ⟨rfl, rfl⟩ : m = px ∧ n = py := by rw [HX.out, HY.out, if_neg h1, if_neg h1, if_neg h2, if_neg h2, if_pos h3, if_pos h3]; exact ⟨rfl, rfl⟩
  have K := Lib.hid (at3_cor w m n qx qy m n _ rfl)
  clear HX HY
  go_enter Tryz.func125, Tryz.ntmps125
  go_wp2
  have r0 := K.out.1.c0
  have r1 := K.out.1.c1
  refine bodyPost_ret (v := .agg #[.int .i64 m, .int .i64 n]) ?_ rfl ⟨rfl, K.out.2⟩
  simp [results, Tryz.results125, go_sem, r0, r1]
 ·obtain ⟨rfl, rfl⟩ : m = qx - 1 ∧ n = qy := by rw [HX.out, HY.out, if_neg h1, if_neg h1, if_neg h2, if_neg h2, if_neg h3, if_neg h3]; exact ⟨rfl, rfl⟩
  have K := Lib.hid (at3_cor w px py qx n (qx - 1) n _ rfl)
  clear HX HY
  go_enter Tryz.func125, Tryz.ntmps125
  go_wp2
  have r0 := K.out.1.c0
  have r1 := K.out.1.c1
  refine bodyPost_ret (v := .agg #[.int .i64 (qx - 1), .int .i64 n]) ?_ rfl ⟨rfl, K.out.2⟩
  simp [results, Tryz.results125, go_sem, r0, r1]
structure Fb (w : World) (a b c d m n u v : Int) (W : World) : Prop where
 bel : Below w.heap.size w W
 k1 : AtC W w.heap.size a b
 k2 : AtC W (w.heap.size + 1) c d
 k3 : At2 W (w.heap.size + 1 + 1) m n
 k4 : At2 W (w.heap.size + 1 + 1 + 1) u v
theorem fb_start (a b c d : Int) (w : World) : Fb w a b c d 0 0 0 0 ((((w.alloc (.cells #[.int .i64 a, .int .i64 b] 96)).alloc (.cells #[.int .i64 c, .int .i64 d] 96)).alloc (.cells #[.int .i64 0, .int .i64 0] 79)).alloc (.cells #[.int .i64 0, .int .i64 0] 79)) := by
 have h0 := AtC.new w a b
 have b0 := below_alloc1 w (.cells #[.int .i64 a, .int .i64 b] 96)
 have e0 : (w.alloc (.cells #[.int .i64 a, .int .i64 b] 96)).heap.size = w.heap.size + 1 := by simp
 generalize w.alloc (.cells #[.int .i64 a, .int .i64 b] 96) = W0 at h0 b0 e0 ⊢
 have h1 := AtC.new W0 c d
 have b1 := below_alloc1 W0 (.cells #[.int .i64 c, .int .i64 d] 96)
 have e1 : (W0.alloc (.cells #[.int .i64 c, .int .i64 d] 96)).heap.size = w.heap.size + 1 + 1 := by simp [e0]
 generalize W0.alloc (.cells #[.int .i64 c, .int .i64 d] 96) = W1 at h1 b1 e1 ⊢
 have h2 := At2.new W1 0 0
 have b2 := below_alloc1 W1 (.cells #[.int .i64 0, .int .i64 0] 79)
 have e2 : (W1.alloc (.cells #[.int .i64 0, .int .i64 0] 79)).heap.size = w.heap.size + 1 + 1 + 1 := by simp [e1]
 generalize W1.alloc (.cells #[.int .i64 0, .int .i64 0] 79) = W2 at h2 b2 e2 ⊢
 have h3 := At2.new W2 0 0
 have b3 := below_alloc1 W2 (.cells #[.int .i64 0, .int .i64 0] 79)
 generalize W2.alloc (.cells #[.int .i64 0, .int .i64 0] 79) = W3 at h3 b3 ⊢
 rw [e0] at h1
 rw [e1] at h2
 rw [e2] at h3
 exact ⟨((b0.trans (b1.mono (by omega))).trans (b2.mono (by omega))).trans (b3.mono (by omega)), ((h0.on b1).on b2).on b3, (h1.on b2).on b3, h2.on b3, h3⟩
section
variable {w W W' : World} {a b c d m n u v : Int}
theorem Fb.drew (h : Fb w a b c d m n u v W) : Fb w a b c d m n u v W.drew := ⟨h.bel.drew, h.k1, h.k2, h.k3, h.k4⟩
theorem Fb.on (h : Fb w a b c d m n u v W) (hb : Below W.heap.size W W') : Fb w a b c d m n u v W' := ⟨h.bel.trans (hb.mono h.bel.size), h.k1.on hb, h.k2.on hb, h.k3.on hb, h.k4.on hb⟩
theorem Fb.put1 (h : Fb w a b c d m n u v W) (x y : Int) : Fb w a b c d x y u v ((W.setCell ⟨w.heap.size + 1 + 1, 0, none⟩ (.int .i64 x)).setCell ⟨w.heap.size + 1 + 1, 1, none⟩ (.int .i64 y)) :=
 ⟨(h.bel.setCell (p := ⟨w.heap.size + 1 + 1, 0, none⟩) (by show w.heap.size ≤ w.heap.size + 1 + 1; omega) _).setCell (p := ⟨w.heap.size + 1 + 1, 1, none⟩) (by show w.heap.size ≤ w.heap.size + 1 + 1; omega) _, h.k1.far2 (by omega), h.k2.far2 (by omega), h.k3.put, h.k4.far2 (by omega)⟩
theorem Fb.put2 (h : Fb w a b c d m n u v W) (x y : Int) : Fb w a b c d m n x y ((W.setCell ⟨w.heap.size + 1 + 1 + 1, 0, none⟩ (.int .i64 x)).setCell ⟨w.heap.size + 1 + 1 + 1, 1, none⟩ (.int .i64 y)) :=
 ⟨(h.bel.setCell (p := ⟨w.heap.size + 1 + 1 + 1, 0, none⟩) (by show w.heap.size ≤ w.heap.size + 1 + 1 + 1; omega) _).setCell (p := ⟨w.heap.size + 1 + 1 + 1, 1, none⟩) (by show w.heap.size ≤ w.heap.size + 1 + 1 + 1; omega) _, h.k1.far2 (by omega), h.k2.far2 (by omega), h.k3.far2 (by omega), h.k4.put⟩
end
set_option maxHeartbeats 2000000 in
theorem iBeside (px py qx qy : Int) (hp : 0 ≤ px ∧ px ≤ 8 ∧ 0 ≤ py ∧ py ≤ 8) (hq : 0 ≤ qx ∧ qx ≤ 8 ∧ 0 ≤ qy ∧ qy ≤ 8) (w : World) :
  Calls Tryz.prog 103 #[.agg #[.int .i64 px, .int .i64 py], .agg #[.int .i64 qx, .int .i64 qy]] w (Cel2 (clX px py qx qy) (clY px py qx qy) (clX qx qy px py) (clY qx qy px py) w) := by
 have HL := Lib.hid (fun W => iLeft px py qx qy hp hq W)
 have HR := Lib.hid (fun W => iLeft qx qy px py hq hp W)
 generalize clX px py qx qy = m at HL ⊢
 generalize clY px py qx qy = n at HL ⊢
 generalize clX qx qy px py = u at HR ⊢
 generalize clY qx qy px py = v at HR ⊢
 have T0 := Lib.hid (fb_start px py qx qy w)
 clear hp hq
 go_enter Tryz.func103, Tryz.ntmps103
 go_upto_region 1 with fail
 have T1 := T0.out.drew
 clear T0
 refine wp_region_noPanic ?_
 refine wp_region_held_drew (S := (fun w' => w'.cell? ⟨w.heap.size, 0, none⟩ = some (.int .i64 px) ∧ w'.cell? ⟨w.heap.size, 1, none⟩ = some (.int .i64 py) ∧ w'.cell? ⟨w.heap.size + 1, 0, none⟩ = some (.int .i64 qx) ∧ w'.cell? ⟨w.heap.size + 1, 1, none⟩ = some (.int .i64 qy))) (by kernel_rfl) (⟨T1.k1.c0, T1.k1.c1, T1.k2.c0, T1.k2.c1⟩) (fun hHeld => ?_)
 generalize World.drew _ = WR at T1 hHeld ⊢
 refine wpAnyH_take (i := 0) (v := ?_) rfl (by kernel_rfl) (by kernel_rfl) (by kernel_rfl) (fun _ _ _ h => h) (Or.inl ⟨by rfl, ?_⟩) (by assumption) ?_
 rotate_left
 ·(intro w' hS; (try dsimp only at hS); go_simp; try with_reducible rfl)
 try simp only [Act.put, List.getElem_toArray, List.getElem_cons_succ, List.getElem_cons_zero, List.setIfInBounds_toArray, List.set_cons_zero, List.set_cons_succ]
 refine wpAnyH_take (i := 1) (v := ?_) rfl (by kernel_rfl) (by kernel_rfl) (by kernel_rfl) (fun _ _ _ h => h) (Or.inl ⟨by rfl, ?_⟩) (by assumption) ?_
 rotate_left
 ·(intro w' hS; (try dsimp only at hS); go_simp; try with_reducible rfl)
 try simp only [Act.put, List.getElem_toArray, List.getElem_cons_succ, List.getElem_cons_zero, List.setIfInBounds_toArray, List.set_cons_zero, List.set_cons_succ]
 refine wpAnyH_take (i := 3) (v := ?_) rfl (by kernel_rfl) (by kernel_rfl) (by kernel_rfl) (fun _ _ _ h => h) (Or.inl ⟨by rfl, ?_⟩) (by assumption) ?_
 rotate_left
 ·(intro w' hS; (try dsimp only at hS); go_simp; try with_reducible rfl)
 try simp only [Act.put, List.getElem_toArray, List.getElem_cons_succ, List.getElem_cons_zero, List.setIfInBounds_toArray, List.set_cons_zero, List.set_cons_succ]
 refine wpAnyH_take (i := 4) (v := ?_) rfl (by kernel_rfl) (by kernel_rfl) (by kernel_rfl) (fun _ _ _ h => h) (Or.inl ⟨by rfl, ?_⟩) (by assumption) ?_
 rotate_left
 ·(intro w' hS; (try dsimp only at hS); go_simp; try with_reducible rfl)
 try simp only [Act.put, List.getElem_toArray, List.getElem_cons_succ, List.getElem_cons_zero, List.setIfInBounds_toArray, List.set_cons_zero, List.set_cons_succ]
 refine wpAnyH_ready (rs := [2]) (by kernel_rfl) (by simp) ?_
 refine AllReadyH.cons rfl (fun K hK => ?_) AllReadyH.nil
 go_simp
 refine (HL.out _).mono ?_
 rintro e wx ⟨rfl, hbx⟩
 have T1 := T1.on hbx
 clear hbx
 go_wp2_with fail
 refine hK.out _ _ (⟨T1.k1.c0, T1.k1.c1, T1.k2.c0, T1.k2.c1⟩) (fun hHeld => ?_)
 clear hK K
 try simp only [Act.put, List.getElem_toArray, List.getElem_cons_succ, List.getElem_cons_zero, List.setIfInBounds_toArray, List.set_cons_zero, List.set_cons_succ]
 refine wpAnyH_ready (rs := [5]) (by kernel_rfl) (by simp) ?_
 refine AllReadyH.cons rfl (fun K hK => ?_) AllReadyH.nil
 go_simp
 refine (HR.out _).mono ?_
 rintro e wx ⟨rfl, hbx⟩
 have T1 := T1.on hbx
 clear hbx
 go_wp2_with fail
 refine hK.out _ _ (⟨T1.k1.c0, T1.k1.c1, T1.k2.c0, T1.k2.c1⟩) (fun hHeld => ?_)
 clear hK K
 try simp only [Act.put, List.getElem_toArray, List.getElem_cons_succ, List.getElem_cons_zero, List.setIfInBounds_toArray, List.set_cons_zero, List.set_cons_succ]
 refine wpAnyH_ready (rs := [6]) (by kernel_rfl) (by simp) ?_
 refine AllReadyH.cons rfl (fun K hK => ?_) AllReadyH.nil
 have c2 := T1.k3.f0
 have c3 := T1.k3.f1
 have c4 := T1.k3.c0
 have c5 := T1.k3.c1
 have T1 := T1.put1 m n
 go_simp
 refine hK.out _ _ (⟨T1.k1.c0, T1.k1.c1, T1.k2.c0, T1.k2.c1⟩) (fun hHeld => ?_)
 clear hK K
 try simp only [Act.put, List.getElem_toArray, List.getElem_cons_succ, List.getElem_cons_zero, List.setIfInBounds_toArray, List.set_cons_zero, List.set_cons_succ]
 refine wpAnyH_ready (rs := [7]) (by kernel_rfl) (by simp) ?_
 refine AllReadyH.cons rfl (fun K hK => ?_) AllReadyH.nil
 clear c2 c3 c4 c5
 have c2 := T1.k4.f0
 have c3 := T1.k4.f1
 have c4 := T1.k4.c0
 have c5 := T1.k4.c1
 have T1 := T1.put2 u v
 go_simp
 refine hK.out _ _ (⟨T1.k1.c0, T1.k1.c1, T1.k2.c0, T1.k2.c1⟩) (fun hHeld => ?_)
 clear hK K
 try simp only [Act.put, List.getElem_toArray, List.getElem_cons_succ, List.getElem_cons_zero, List.setIfInBounds_toArray, List.set_cons_zero, List.set_cons_succ]
 refine wpAnyH_done (by kernel_rfl) ?_ _
 refine NoPanic.normal ?_
 clear hHeld c2 c3 c4 c5
 go_wp2
 have r0 := T1.k3.c0
 have r1 := T1.k3.c1
 have r2 := T1.k4.c0
 have r3 := T1.k4.c1
 refine bodyPost_ret (v := .tuple #[.agg #[.int .i64 m, .int .i64 n], .agg #[.int .i64 u, .int .i64 v]]) ?_ rfl (mkCel2 rfl rfl rfl rfl T1.bel)
 simp [results, Tryz.results103, go_sem, r0, r1, r2, r3]
end Go.Proofs.YtmajllgfmclcoaaGreatDoor.Cor
