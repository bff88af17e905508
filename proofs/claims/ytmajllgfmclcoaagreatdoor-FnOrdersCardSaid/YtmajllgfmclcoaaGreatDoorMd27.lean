/- Sam, LstG, EndP, JoP in one text. -/
import Derived.Test.YtmajllgfmclcoaaGreatDoorMd21
import Derived.Test.YtmajllgfmclcoaaGreatDoorMd24
import Derived.Test.YtmajllgfmclcoaaGreatDoorMd25
import Derived.Test.YtmajllgfmclcoaaGreatDoorMd26
import Derived.Test.YtmajllgfmclcoaaGreatDoorMd04
import Derived.Test.YtmajllgfmclcoaaGreatDoorMd20
set_option linter.unusedVariables false
set_option linter.unusedSimpArgs false
set_option maxRecDepth 100000
namespace Go.Proofs.YtmajllgfmclcoaaGreatDoor.Sam
open Go.RowKit Go.Proofs.YtmajllgfmclcoaaGreatDoor.Cell Dms Go.Joins
open Reg hiding add_none
def sameD (L M : List Dm) : Bool := decide (L = M)
theorem sameD_len {L M : List Dm} (h : L.length ≠ M.length) : sameD L M = false := by unfold sameD; rw [decide_eq_false_iff_not]; rintro rfl; exact h rfl
theorem sameD_no {L M : List Dm} {k : Nat} (h1 : k < L.length) (h2 : k < M.length) (h : L[k] ≠ M[k]) : sameD L M = false := by unfold sameD; rw [decide_eq_false_iff_not]; rintro rfl; exact h rfl
theorem sameD_yes {L M : List Dm} (hl : L.length = M.length) (h : ∀ j (h1 : j < L.length) (h2 : j < M.length), L[j] = M[j]) : sameD L M = true := by
 unfold sameD; rw [decide_eq_true_eq]; exact List.ext_getElem hl (fun i h1 h2 => h i h1 h2)
set_option maxRecDepth 100000 in
set_option maxHeartbeats 1000000 in
theorem sSame (w : World) (A A' : Option Addr) (n n' cap cap' B B' : Nat) (L M : List Dm) (hx : L.length = n) (hx' : M.length = n') (hl : (n : Int) ≤ 9223372036854775807) (hl' : (n' : Int) ≤ 9223372036854775807) (h1 : RowM w B A L) (h2 : RowM w B' A' M) (hB : B ≤ w.heap.size) (hB' : B' ≤ w.heap.size) :
  Calls Tryz.prog 16 #[.slice A n cap, .slice A' n' cap'] w (Bol (sameD L M) w) := by
 obtain ⟨b, off, hA, hc⟩ := h1.at
 obtain ⟨b', off', hA', hc'⟩ := h2.at
 have H1 := Lh hA
 have H2 := Lh hA'
 have H3 := Lh hc
 have H4 := Lh hc'
 have HX := Lh hx
 have HX' := Lh hx'
 have HN := Lh (fun h => sameD_len (L := L) (M := M) h)
 have HNo := Lh (fun k h1 h2 h => sameD_no (L := L) (M := M) (k := k) h1 h2 h)
 have HY := Lh (fun hl h => sameD_yes (L := L) (M := M) hl h)
 clear hA hA' hc hc' h1 h2 hx hx'
 generalize sameD L M = r at HN HNo HY ⊢
 by_cases hnn : n = n'
 ·subst hnn
  have hne : (((n : Nat) : Int) != ((n : Nat) : Int)) = false := by simp
  go_enter Tryz.func16, Tryz.ntmps16
  go_wp2_with fail
  go_loopw [5] (fun i wr => ∃ k : Nat, k ≤ n ∧ i = .int .i64 k ∧ Below w.heap.size w wr ∧ Hid (∀ j (h1 : j < L.length) (h2 : j < M.length), j < k → L[j] = M[j])) (fun i _ => n - (intOf i).toNat)
  case atStart => exact ⟨0, Nat.zero_le _, rfl, Below.refl _ _, Lh (fun j _ _ h => by omega)⟩
  case round =>
   obtain ⟨k, hk, rfl, hb, hs⟩ := hrel
   have hbs := hb.size
   by_cases hlt : k < n
   ·have hkx : k < L.length := by have := HX.out; omega
    have hkx' : k < M.length := by have := HX'.out; omega
    obtain ⟨rfl, hbw⟩ := H1.out (by omega)
    obtain ⟨rfl, hbw'⟩ := H2.out (by omega)
    obtain ⟨c1, c2, c3⟩ := H3.out k hkx
    obtain ⟨d1, d2, d3⟩ := H4.out k hkx'
    have c1' := (hb.cell (p := ⟨b, off + k * 3, none⟩) (by show b < _; omega)).trans c1
    have c2' := (hb.cell (p := ⟨b, off + k * 3 + 1, none⟩) (by show b < _; omega)).trans c2
    have c3' := (hb.cell (p := ⟨b, off + k * 3 + 2, none⟩) (by show b < _; omega)).trans c3
    have d1' := (hb.cell (p := ⟨b', off' + k * 3, none⟩) (by show b' < _; omega)).trans d1
    have d2' := (hb.cell (p := ⟨b', off' + k * 3 + 1, none⟩) (by show b' < _; omega)).trans d2
    have d3' := (hb.cell (p := ⟨b', off' + k * 3 + 2, none⟩) (by show b' < _; omega)).trans d3
    clear c1 c2 c3 d1 d2 d3
    have HNk := Lh (HNo.out k hkx hkx')
    have HSk := Lh (show L[k] = M[k] → Hid (∀ j (h1 : j < L.length) (h2 : j < M.length), j < k + 1 → L[j] = M[j]) from fun e => Lh (fun j h1 h2 h => by
     by_cases q : j = k
     ·subst q; exact e
     ·exact hs.out j h1 h2 (by omega)))
    generalize L[k] = d at c1' c2' c3' HNk HSk
    generalize M[k] = f at d1' d2' d3' HNk HSk
    obtain ⟨x, y, bb⟩ := d
    obtain ⟨x', y', bb'⟩ := f
    simp only at c1' c2' c3' d1' d2' d3'
    have hb2 : Below w.heap.size w wr.drew := hb.drew
    by_cases q : x = x' ∧ y = y' ∧ bb = bb'
    ·obtain ⟨rfl, rfl, rfl⟩ := q
     have hs2 := HSk.out rfl
     clear HSk HNk hs
     go_wp2_with fail
     go_region
     go_wp2
     go_roundw
     case rel => exact ⟨k + 1, by omega, by go_num, hb2, hs2⟩
     case measure => (simp [intOf] <;> omega)
    ·have hr : r = false := HNk.out (by intro e; injection e with e1 e2; injection e2 with e2 e3; exact q ⟨e1, e2, e3⟩)
     clear HSk HNk hs
     by_cases e1 : x = x'
     ·subst e1
      by_cases e2 : y = y'
      ·subst e2
       have e3 : ¬ bb = bb' := fun e => q ⟨rfl, rfl, e⟩
       clear q
       go_wp2_with fail
       go_region
       go_wp2
       go_ret
       exact mkBol hr.symm hb2
      ·clear q
       go_wp2_with fail
       go_region
       go_wp2
       go_ret
       exact mkBol hr.symm hb2
     ·clear q
      go_wp2_with fail
      go_region
      go_wp2
      go_ret
      exact mkBol hr.symm hb2
   ·obtain rfl : k = n := by omega
    have hr : r = true := HY.out (by rw [HX.out, HX'.out]) (fun j h1 h2 => hs.out j h1 h2 (by have := HX.out; omega))
    go_wp2
    go_ret
    exact mkBol hr.symm hb
 ·have hne : (((n : Nat) : Int) != ((n' : Nat) : Int)) = true := by simp; omega
  have hr : r = false := HN.out (by rw [HX.out, HX'.out]; exact hnn)
  go_enter Tryz.func16, Tryz.ntmps16
  go_wp2
  go_ret
  exact mkBol hr.symm (Below.refl _ _)
end Go.Proofs.YtmajllgfmclcoaaGreatDoor.Sam
namespace Go.Proofs.YtmajllgfmclcoaaGreatDoor.Lst
open Go.RowKit Go.Proofs.YtmajllgfmclcoaaGreatDoor.Pure Go.Proofs.YtmajllgfmclcoaaGreatDoor.Cell Dms Til Dss Lis Sets Ext Sam Go.Joins
open Cnt (gR tiles gR_in gR_out idxs idxs_cells tilesR tilesR_ok tilesR_not)
open Prof (sCountTilings)
open Reg hiding add_none
def listR (xs : List Int) : List (List Dm) := if (allR xs).length ≤ 300 then allR xs else []
theorem listR_small (xs : List Int) : (listR xs).length ≤ 300 := by unfold listR; split <;> simp_all
theorem listR_half {xs : List Int} : ∀ L ∈ listR xs, L.length = halfR xs := by
 intro L hL
 unfold listR at hL
 split at hL
 ·exact allR_half L hL
 ·cases hL
theorem halfR_le (xs : List Int) : halfR xs ≤ 32 := by unfold halfR; have := cellsR_length xs; omega
theorem take_301 (xs : List Int) : (((allR xs).take 301).length ≤ 300 ∧ (allR xs).take 301 = listR xs) ∨ (300 < ((allR xs).take 301).length ∧ listR xs = []) := by
 by_cases h : (allR xs).length ≤ 300
 ·left
  rw [List.take_of_length_le (by omega)]
  unfold listR
  rw [if_pos h]
  exact ⟨h, rfl⟩
 ·right
  rw [List.length_take]
  unfold listR
  rw [if_neg h]
  exact ⟨by omega, rfl⟩
theorem allR_count (xs : List Int) : ((allR xs).length : Int) = tilesR xs := by
 by_cases h : okR xs
 ·rw [allR_ok h, all_length h]
 ·rw [allR_not h, tilesR_not h]; rfl
set_option maxHeartbeats 1000000 in
theorem iListTilings (w : World) (A : Option Addr) (n cap B : Nat) (xs : List Int) (hx : xs.length = n) (hn : (n : Int) ≤ 9223372036854775807) (hrow : RowB w B A xs) (hB : B ≤ w.heap.size) (hT : Tab w) :
  Calls Tryz.prog 52 #[.agg #[.slice A n cap]] w (SSP (listR xs) (halfR xs) w) := by
 have HF := Lh (fun W (hb : Below w.heap.size w W) => iFirstTilings W A n cap B xs hx hn (hrow.below hb hB) (by have := hb.size; omega) 301 (by omega) (hT.on hb NR))
 have HR := Lh (Rg.new w (.slice A n cap))
 have HS := Lh (below_alloc1 w (.cells #[.slice A n cap] 26))
 have HC := Lh (take_301 xs)
 generalize (allR xs).take 301 = T at HF HC
 obtain ⟨m, hm⟩ : ∃ m, m = T.length := ⟨_, rfl⟩
 have HM := Lh hm
 have HF := Lh (fun W hb => show Calls Tryz.prog 79 #[.agg #[.slice A n cap], .int .i64 301] W (SSP T (halfR xs) W) from HF.out W hb)
 clear hx hn hrow hB hT hm
 go_enter Tryz.func52, Tryz.ntmps52
 go_wp2_with fail
 have c0 := HR.out.c0
 refine (HF.out _ HS.out).mono ?_
 rintro e w1 ⟨A1, cap1, rfl, hss, hb1⟩
 have HX := Lh (hss.wide (lo' := w.heap.size) (hi' := w1.heap.size) HS.out.size NR)
 have hbw := HS.out.trans (hb1.mono HS.out.size)
 rw [← HM.out] at HX ⊢
 clear hss hb1 HF HR HS c0
 rcases HC.out with ⟨h1, h2⟩ | ⟨h1, h2⟩
 ·rw [← HM.out] at h1
  have HP := Lh (show SSP (listR xs) (halfR xs) w (.returned (.slice A1 m cap1)) w1 by
   rw [← h2]
   exact ⟨A1, cap1, by rw [HM.out], by rw [← HM.out]; exact HX.out, hbw⟩)
  have hg : ¬ (300 : Int) < (m : Int) := by omega
  clear h2 HC
  go_wp2
  go_ret
  exact HP.out
 ·rw [← HM.out] at h1
  have HP := Lh (show SSP (listR xs) (halfR xs) w (.returned (.slice none 0 0)) w1 by
   rw [h2]; exact ⟨none, 0, rfl, ss_nil _ _ _ _, hbw⟩)
  have hg : (300 : Int) < (m : Int) := by omega
  clear h2 HC
  go_wp2
  go_ret
  exact HP.out
set_option maxHeartbeats 1000000 in
theorem sListTilings (w : World) (A : Option Addr) (n cap B : Nat) (xs : List Int) (hx : xs.length = n) (hn : (n : Int) ≤ 9223372036854775807) (hrow : RowB w B A xs) (hB : B ≤ w.heap.size) :
  Calls Tryz.prog 38 #[.agg #[.slice A n cap]] w (SSP (listR xs) (halfR xs) w) := by
 have HCt := Lh (fun W (hb : Below w.heap.size w W) => sCountTilings W A n cap B xs hx hn (hrow.below hb hB) (by have := hb.size; omega))
 have HR := Lh (Rg.new w (.slice A n cap))
 have HS := Lh (below_alloc1 w (.cells #[.slice A n cap] 26))
 have hcnt := allR_count xs
 have HIn := Lh (fun W => l01In (tilesR xs) 1 300 W)
 by_cases hin : 1 ≤ tilesR xs ∧ tilesR xs ≤ 300
 ·have ho : okR xs := by
   by_cases q : okR xs
   ·exact q
   ·rw [tilesR_not q] at hin; omega
  rw [inB_of hin] at HIn
  have HL := Lh (fun W (hb : Below w.heap.size w W) (g : Nat) (hd : Hd W g 0 []) => by
   have := sList xs n hx ho A cap B (halfR xs) rfl 65 W (hrow.below hb hB) (by have := hb.size; omega) [] 0 (Beg.zero xs) (Nat.zero_le _) (fun i hi => by omega) (by have := unc_length [] (cellsR xs); have := cellsR_length xs; omega) g 0 hd (by simp) 300 (by omega) NR
   rw [show List.take 300 (cont xs []) = listR xs by
    unfold listR
    rw [if_pos (by omega), cont_nil, allR_ok ho]
    rw [allR_ok ho] at hcnt
    exact List.take_of_length_le (by show (allT xs).length ≤ 300; omega)] at this
   exact show Calls Tryz.prog 59 #[.agg #[.slice A n cap], .slice (some ⟨g, 0, none⟩) 0 0, .int .i64 300] W (SSPost (listR xs) (halfR xs) W) from this)
  have HMd := Lh (fun (W : World) => World.ownsRow_made (base := 0) (e := 63) (size := 3) W #[] 0 (Nat.zero_le _) (by unfold maxLen; omega) rfl)
  generalize tilesR xs = q at HCt HIn
  generalize halfR xs = h at HL ⊢
  generalize listR xs = L at HL ⊢
  clear hcnt hin ho hx hn hrow hB
  go_enter Tryz.func38, Tryz.ntmps38
  go_wp2_with fail
  have c0 := HR.out.c0
  have R0 := HR.out
  have B0 := HS.out
  generalize w.alloc (.cells #[.slice A n cap] 26) = W0 at c0 R0 B0 ⊢
  refine (HCt.out _ B0).mono ?_
  rintro e w1 ⟨rfl, hb1⟩
  have R1 := R0.on hb1
  have B1 := B0.trans (hb1.mono B0.size)
  clear R0 B0 hb1 HR HS HCt c0
  go_wp2_with fail
  refine (HIn.out _).mono ?_
  rintro e w2 ⟨rfl, hw⟩
  have hw := hw.symm
  subst hw
  have c1 := R1.c0
  have B2 := B1.alloc B1.size (.cells #[] 63)
  have hsz := B1.size
  go_wp2_with fail
  refine (HL.out _ B2 _ (HMd.out w1)).mono ?_
  rintro e w3 ⟨g, c, rfl, hss, hb3⟩
  have HP := Lh (show SSP L h w (.returned (.slice (some ⟨g, 0, none⟩) L.length c)) w3 from ⟨_, c, rfl, hss.wide (by simp; omega) NR, B2.trans (hb3.mono B2.size)⟩)
  clear hss hb3 HL HMd
  go_wp2
  go_ret
  exact HP.out
 ·have hE : listR xs = [] := by
   unfold listR
   split
   ·exact List.eq_nil_of_length_eq_zero (by omega)
   ·rfl
  rw [inB_not hin] at HIn
  have HP := Lh (fun (w1 : World) (hb : Below w.heap.size w w1) => show SSP (listR xs) (halfR xs) w (.returned (.slice (some ⟨w1.heap.size, 0, none⟩) 0 0)) (w1.alloc (.cells #[] 27)) by
   rw [hE]
   have hn := World.ownsRow_made (base := w.heap.size) (e := 27) (size := 1) w1 #[] 0 hb.size (by unfold maxLen; omega) rfl
   exact ⟨_, 0, rfl, ⟨[], ⟨hn, fun g hg => (hn.lt g hg).2⟩, Ins.nil _ _ _ _⟩, hb.alloc hb.size _⟩)
  generalize tilesR xs = q at HCt HIn
  clear hcnt hin hE hx hn hrow hB
  go_enter Tryz.func38, Tryz.ntmps38
  go_wp2_with fail
  have c0 := HR.out.c0
  have B0 := HS.out
  generalize w.alloc (.cells #[.slice A n cap] 26) = W0 at c0 B0 ⊢
  refine (HCt.out _ B0).mono ?_
  rintro e w1 ⟨rfl, hb1⟩
  have B1 := B0.trans (hb1.mono B0.size)
  clear B0 hb1 HR HS HCt c0
  go_wp2_with fail
  refine (HIn.out _).mono ?_
  rintro e w2 ⟨rfl, hw⟩
  have hw := hw.symm
  subst hw
  go_wp2
  go_ret
  exact HP.out _ B1
def idxFrom : List (List Dm) → List Dm → Nat → Int
 | [], _, _ => -1
 | x :: r, L, k => if x = L then (k : Int) else idxFrom r L (k + 1)
def idxR (T : List (List Dm)) (L : List Dm) : Int := idxFrom T L 0
theorem idx_drop {L : List Dm} : ∀ {T : List (List Dm)} {k i : Nat}, k ≤ T.length → (∀ j (hj : j < T.length), j < k → T[j] ≠ L) → idxFrom T L i = idxFrom (T.drop k) L (i + k)
 | _, 0, _, _, _ => rfl
 | [], k + 1, _, h, _ => by simp at h
 | x :: r, k + 1, i, h, hd => by
  have h0 : x ≠ L := hd 0 (by simp) (by omega)
  show (if x = L then _ else idxFrom r L (i + 1)) = idxFrom (r.drop k) L (i + (k + 1))
  rw [if_neg h0, idx_drop (T := r) (k := k) (by simp at h; omega) (fun j hj hjk => by
   have := hd (j + 1) (by simp; omega) (by omega)
   simpa using this), show i + 1 + k = i + (k + 1) by omega]
theorem idx_at {T : List (List Dm)} {L : List Dm} {k : Nat} (hk : k < T.length) (hd : ∀ j (hj : j < T.length), j < k → T[j] ≠ L) (he : T[k] = L) : idxR T L = (k : Int) := by
 unfold idxR
 rw [idx_drop (Nat.le_of_lt hk) hd, List.drop_eq_getElem_cons hk]
 show (if T[k] = L then ((0 + k : Nat) : Int) else _) = _
 rw [if_pos he, Nat.zero_add]
theorem idx_end {T : List (List Dm)} {L : List Dm} (hd : ∀ j (hj : j < T.length), T[j] ≠ L) : idxR T L = -1 := by
 unfold idxR
 rw [idx_drop NR (fun j hj _ => hd j hj), List.drop_length]; rfl
set_option maxHeartbeats 2000000 in
theorem sIndexOf (w : World) (A : Option Addr) (n cap B : Nat) (xs : List Int) (hx : xs.length = n) (hn : (n : Int) ≤ 9223372036854775807) (hrow : RowB w B A xs) (hB : B ≤ w.heap.size) (A' : Option Addr) (n' cap' B' : Nat) (M : List Dm) (hM : M.length = n') (hn' : (n' : Int) ≤ 9223372036854775807) (h' : RowM w B' A' M) (hB' : B' ≤ w.heap.size) :
  Calls Tryz.prog 35 #[.agg #[.slice A n cap], .slice A' n' cap'] w (Num (idxR (listR xs) M) w) := by
 have HL := Lh (fun W (hb : Below w.heap.size w W) => sListTilings W A n cap B xs hx hn (hrow.below hb hB) (by have := hb.size; omega))
 have HR := Lh (Rg.new w (.slice A n cap))
 have HS := Lh (below_alloc1 w (.cells #[.slice A n cap] 26))
 have hsm := listR_small xs
 have hhf := halfR_le xs
 have hall := listR_half (xs := xs)
 generalize listR xs = T at HL hsm hall ⊢
 generalize halfR xs = h at HL hhf hall
 obtain ⟨m, hm⟩ : ∃ m, m = T.length := ⟨_, rfl⟩
 have HM := Lh hm
 have HSm := Lh (fun (W : World) (B1 : Nat) (k : Nat) (hk : k < T.length) (a : Option Addr) (c : Nat) (hr : RowM W B1 a T[k]) (hB1 : B1 ≤ W.heap.size) (hb : Below w.heap.size w W) => sSame W a A' h n' c cap' B1 B' T[k] M (hall _ (List.getElem_mem hk)) hM (by omega) hn' hr (h'.below hb hB') hB1 (by have := hb.size; omega))
 have HEnd := Lh (fun hd => idx_end (T := T) (L := M) hd)
 have HAt := Lh (fun k hk hd he => idx_at (T := T) (L := M) (k := k) hk hd he)
 generalize idxR T M = r at HEnd HAt ⊢
 rw [← hm] at hsm
 clear hx hn hrow hB hM hn' h' hB' hm hall
 go_enter Tryz.func35, Tryz.ntmps35
 go_wp2_with fail
 have c0 := HR.out.c0
 refine (HL.out _ HS.out).mono ?_
 rintro e w1 ⟨A1, cap1, rfl, hss, hb1⟩
 have hrr := ss_row hss
 have hbw := HS.out.trans (hb1.mono HS.out.size)
 rw [← HM.out] at hrr ⊢
 obtain ⟨b, S, s1, s2, s3⟩ := hrr
 have H1 := Lh s1
 have H2 := Lh s2
 have H3 := Lh s3
 clear hss hb1 HR HS HL c0 s1 s2 s3
 go_wp2_with fail
 go_loopw [6] (fun i wr => ∃ k : Nat, k ≤ m ∧ i = .int .i64 k ∧ Below w1.heap.size w1 wr ∧ Hid (∀ j (hj : j < T.length), j < k → T[j] ≠ M)) (fun i _ => m - (intOf i).toNat)
 case atStart => exact ⟨0, Nat.zero_le _, rfl, Below.refl _ _, Lh (fun j _ h => by omega)⟩
 case round =>
  obtain ⟨k, hk, rfl, hb, hne⟩ := hrel
  have hbs := hb.size
  have hbwr := hbw.trans (hb.mono hbw.size)
  by_cases hlt : k < m
  ·have hkT : k < T.length := by rw [← HM.out]; exact hlt
   obtain ⟨rfl, hbl⟩ := H2.out (by omega)
   have hkS : k < S.length := by rw [H1.out]; exact hkT
   obtain ⟨c1, c2⟩ := H3.out k S[k] T[k] (List.getElem?_eq_getElem hkS) (List.getElem?_eq_getElem hkT)
   have c1' := (hb.cell (p := ⟨b, k, none⟩) (by show b < _; omega)).trans c1
   have HSk := Lh (HSm.out wr w1.heap.size k hkT S[k].1 S[k].2 (c2.below hb NR) hbs hbwr)
   have HAk := Lh (fun he => HAt.out k hkT hne.out he)
   have HNk := Lh (show T[k] ≠ M → Hid (∀ j (hj : j < T.length), j < k + 1 → T[j] ≠ M) from fun hh => Lh (fun j hj h => by
    by_cases q : j = k
    ·subst q; exact hh
    ·exact hne.out j hj (by omega)))
   generalize S[k].1 = a at c1' HSk
   generalize S[k].2 = c at c1' HSk
   clear c1 c2 hkS
   obtain ⟨q, hq⟩ : ∃ q, q = sameD T[k] M := ⟨_, rfl⟩
   rw [← hq] at HSk
   have HQ := Lh hq
   clear hq hne
   go_wp2_with fail
   refine HSk.out.mono ?_
   rintro e w2 ⟨rfl, hb2⟩
   have hb3 := hb.trans (hb2.mono hbs)
   have hbw3 := hbwr.trans (hb2.mono hbwr.size)
   clear HSk hb2
   cases q with
   | true =>
    have hr := HAk.out (by have := HQ.out; unfold sameD at this; exact of_decide_eq_true this.symm)
    have HR2 := Lh hr
    clear hr HAk HNk
    go_wp2
    go_ret
    exact mkNum HR2.out.symm hbw3
   | false =>
    have hn2 := HNk.out (by have := HQ.out; unfold sameD at this; exact of_decide_eq_false this.symm)
    clear HAk HNk HQ
    go_wp2
    go_roundw
    case rel => exact ⟨k + 1, by omega, by go_num, hb3, hn2⟩
    case measure => (simp [intOf] <;> omega)
  ·obtain rfl : k = m := by omega
   have hr := HEnd.out (fun j hj => hne.out j hj (by have := HM.out; omega))
   have HR2 := Lh hr
   clear hr
   go_wp2
   go_ret
   exact mkNum HR2.out.symm hbwr
end Go.Proofs.YtmajllgfmclcoaaGreatDoor.Lst
namespace Go.Proofs.YtmajllgfmclcoaaGreatDoor.Jn
open Go.RowKit Go.Proofs.YtmajllgfmclcoaaGreatDoor.Pure Dom Dms Til Hgt Lis Go.Joins
open Flo (simB)
open Lst (listR listR_small listR_half halfR_le)
open Ext (allR allR_ok allR_not halfR)
theorem list_til {xs : List Int} (h : listR xs ≠ []) : ∀ N, tilB xs N = true → N ∈ listR xs := fun N hN => by
 unfold listR at h ⊢
 by_cases ho : okR xs
 ·by_cases hl : (allR xs).length ≤ 300
  ·rw [if_pos hl, allR_ok ho]
   exact KuL.til_all ho hN
  ·rw [if_neg hl] at h; exact absurd rfl h
 ·rw [allR_not ho] at h; simp at h
theorem list_mem {xs : List Int} {N : List Dm} (h : N ∈ listR xs) : okR xs ∧ tilB xs N = true := by
 unfold listR at h
 by_cases ho : okR xs
 ·by_cases hl : (allR xs).length ≤ 300
  ·rw [if_pos hl, allR_ok ho] at h
   exact ⟨ho, all_til ho N h⟩
  ·rw [if_neg hl] at h; cases h
 ·rw [allR_not ho] at h; simp at h
theorem list_fits {xs : List Int} {N : List Dm} (h : N ∈ listR xs) : Fits N := by
 have ht := Grd.part_valid (til_part (list_mem h).2)
 intro d hd
 have := okM_in (ht d hd)
 unfold Sm; omega
theorem endR_no {t : Int} {xs : List Int} {T : List (List Dm)} (h : ¬ (simB xs = true ∧ T ≠ [])) : endR t xs T [] false := .inr ⟨rfl, rfl, h⟩
theorem hgt_row {xs : List Int} {N : List Dm} {h : List Int} (hs : simB xs = true) (hm : N ∈ listR xs) (r : hgtR xs N h) : Row9 xs N h ∧ h.length = 81 := by
 rcases r with ⟨_, r⟩ | ⟨n, _⟩
 ·exact ⟨r, r.len⟩
 ·exact absurd ⟨hs, (list_mem hm).2⟩ n
def sumsR (xs : List Int) (T : List (List Dm)) (k : Nat) (S : List Int) : Prop :=
 S.length = k ∧ ∀ i (hi : i < T.length), i < k → ∃ h, Row9 xs T[i] h ∧ S[i]? = some (sumH h 81)
theorem sums_zero (xs : List Int) (T : List (List Dm)) : sumsR xs T 0 [] := ⟨rfl, fun i _ h => by omega⟩
theorem sums_next {xs : List Int} {T : List (List Dm)} {k : Nat} {S : List Int} (s : sumsR xs T k S) (hk : k < T.length) {h : List Int} (r : Row9 xs T[k] h) : sumsR xs T (k + 1) (S ++ [sumH h 81]) := by
 obtain ⟨l, f⟩ := s
 refine ⟨by simp [l], fun i hi hik => ?_⟩
 by_cases e : i = k
 ·subst e
  exact ⟨h, r, by rw [List.getElem?_append_right (by omega), l]; simp⟩
 ·obtain ⟨h', r', q⟩ := f i hi (by omega)
  exact ⟨h', r', by rw [List.getElem?_append_left (by omega)]; exact q⟩
def chosR (t : Int) (S : List Int) (k : Nat) (c : Int) : Prop := c ∈ S ∧ ∀ i x, i < k → S[i]? = some x → t * c ≤ t * x
theorem chos_zero {t : Int} {S : List Int} {c : Int} (h : S[0]? = some c) : chosR t S 0 c := ⟨List.mem_of_getElem? h, fun i x hi => by omega⟩
theorem chos_low {S : List Int} {k : Nat} {c x : Int} (h : chosR 1 S k c) (hx : S[k]? = some x) : chosR 1 S (k + 1) (min c x) := by
 obtain ⟨m, f⟩ := h
 refine ⟨?_, fun i y hi hy => ?_⟩
 ·rcases Int.le_total c x with q | q
  ·rw [Int.min_eq_left q]; exact m
  ·rw [Int.min_eq_right q]; exact List.mem_of_getElem? hx
 ·by_cases e : i = k
  ·subst e
   rw [hx] at hy; injection hy with hy; omega
  ·have := f i y (by omega) hy; omega
theorem chos_high {S : List Int} {k : Nat} {c x : Int} (h : chosR (-1) S k c) (hx : S[k]? = some x) : chosR (-1) S (k + 1) (max c x) := by
 obtain ⟨m, f⟩ := h
 refine ⟨?_, fun i y hi hy => ?_⟩
 ·rcases Int.le_total c x with q | q
  ·rw [Int.max_eq_right q]; exact List.mem_of_getElem? hx
  ·rw [Int.max_eq_left q]; exact m
 ·by_cases e : i = k
  ·subst e
   rw [hx] at hy; injection hy with hy; omega
  ·have := f i y (by omega) hy; omega
theorem end_sums {t : Int} {xs : List Int} {T : List (List Dm)} {S : List Int} {c : Int} {i : Nat} (hs : simB xs = true) (s : sumsR xs T T.length S) (ch : chosR t S S.length c) (hi : i < T.length) (he : S[i]? = some c) : endR t xs T T[i] true := by
 obtain ⟨l, f⟩ := s
 obtain ⟨h, r, e⟩ := f i hi hi
 have hc : c = sumH h 81 := by rw [he] at e; injection e
 refine .inl ⟨rfl, hs, List.getElem_mem hi, h, r, fun N' hN' h' r' => ?_⟩
 obtain ⟨j, hj, rfl⟩ := List.getElem_of_mem hN'
 obtain ⟨h2, r2, e2⟩ := f j hj hj
 rw [row_uniq r' r2, ← hc]
 exact ch.2 j _ (by omega) e2
end Go.Proofs.YtmajllgfmclcoaaGreatDoor.Jn
namespace Go.Proofs.YtmajllgfmclcoaaGreatDoor.Jn
open Go.RowKit Dms Hgt Go.Joins
open Flo (simB)
open Reg (ints)
def BelP (xs : List Int) (L M : List Dm) (w : World) (e : Ending) (w' : World) : Prop := ∃ b : Bool, e = .returned (.bool b) ∧ belR xs L M b ∧ Below w.heap.size w w'
def StpP (xs : List Int) (L M : List Dm) (w : World) (e : Ending) (w' : World) : Prop := ∃ d : Int, e = .returned (.int .i64 d) ∧ stepR xs L M d ∧ Below w.heap.size w w'
def JoiP (m : Int → Int → Int) (xs : List Int) (L M : List Dm) (w : World) (e : Ending) (w' : World) : Prop :=
  ∃ (N : List Dm) (ok : Bool) (A : Option Addr) (c : Nat), e = .returned (.tuple #[.slice A N.length c, .bool ok]) ∧ w'.ownsRow w.heap.size 63 3 (.slice A N.length c) N.length (rowM N) ∧ joinR m xs L M N ok ∧ N.length ≤ c ∧ Below w.heap.size w w'
structure Two (xs : List Int) (L M : List Dm) (hs gs : List Int) : Prop where
  lh : hs.length = 81
  lg : gs.length = 81
  nh : hs ≠ []
  ng : gs ≠ []
  rh : Row9 xs L hs
  rg : Row9 xs M gs
theorem rows_two {xs : List Int} {L M : List Dm} {hs gs : List Int} (a : hgtR xs L hs) (b : hgtR xs M gs) : (hs = [] ∨ gs = []) ∨ Two xs L M hs gs := by
  rcases hgtR_row a with ⟨e, _⟩ | ⟨l1, n1, _, r1⟩
  · exact .inl (.inl e)
  · rcases hgtR_row b with ⟨e, _⟩ | ⟨l2, n2, _, r2⟩
    · exact .inl (.inr e)
    · exact .inr ⟨l1, l2, n1, n2, r1, r2⟩
section
variable {xs : List Int} {L M : List Dm} {hs gs : List Int}
theorem bel_no (a : hgtR xs L hs) (b : hgtR xs M gs) (h : hs = [] ∨ gs = []) : belR xs L M false :=
  ⟨hs, gs, a, b, by constructor
                    · intro e; cases e
                    · intro ⟨n1, n2, _⟩; rcases h with h | h
                      · exact absurd h n1
                      · exact absurd h n2⟩
theorem bel_of (a : hgtR xs L hs) (b : hgtR xs M gs) (t : Two xs L M hs gs) {q : Bool} (h : q = true ↔ leH hs gs) : belR xs L M q :=
  ⟨hs, gs, a, b, h.trans ⟨fun e => ⟨t.nh, t.ng, e⟩, fun e => e.2.2⟩⟩
theorem bel_min (a : hgtR xs L hs) (b : hgtR xs M gs) (t : Two xs L M hs gs) : belR xs L M (decide (List.zipWith min hs gs = hs)) :=
  bel_of a b t (by rw [decide_eq_true_eq]; exact min_eq t.lh t.lg)
theorem stp_no (a : hgtR xs L hs) (b : hgtR xs M gs) (h : hs = [] ∨ gs = []) : stepR xs L M (-1) := ⟨hs, gs, a, b, .inl ⟨h, rfl⟩⟩
theorem div_four (q : Nat) : (q : Int) / 4 = ((q / 4 : Nat) : Int) := by omega
theorem stp_of (a : hgtR xs L hs) (b : hgtR xs M gs) (t : Two xs L M hs gs) {d : Nat} (h : d = dst hs gs 81) : stepR xs L M ((d : Int) / 4) := ⟨hs, gs, a, b, .inr ⟨⟨t.nh, t.ng⟩, h ▸ div_four d⟩⟩
theorem join_no {m : Int → Int → Int} (a : hgtR xs L hs) (b : hgtR xs M gs) (h : hs = [] ∨ gs = []) : joinR m xs L M [] false := ⟨hs, gs, a, b, .inl ⟨h, rfl, rfl⟩⟩
theorem join_of {m : Int → Int → Int} (a : hgtR xs L hs) (b : hgtR xs M gs) (t : Two xs L M hs gs) {N : List Dm} {ok : Bool} (h : tfR xs (List.zipWith m hs gs) N ok) : joinR m xs L M N ok := ⟨hs, gs, a, b, .inr ⟨⟨t.nh, t.ng⟩, h⟩⟩
theorem zw_len (m : Int → Int → Int) (l1 : hs.length = 81) (l2 : gs.length = 81) : (List.zipWith m hs gs).length = 81 := by rw [List.length_zipWith]; omega
theorem zw_take (m : Int → Int → Int) {k : Nat} (l1 : hs.length = 81) (l2 : gs.length = 81) (hk : k < 81) : (List.zipWith m hs gs).take (k + 1) = (List.zipWith m hs gs).take k ++ [m (hs[k]'(by omega)) (gs[k]'(by omega))] := by
  rw [List.take_succ_eq_append_getElem (by rw [zw_len m l1 l2]; exact hk), List.getElem_zipWith]
theorem zw_all (m : Int → Int → Int) (l1 : hs.length = 81) (l2 : gs.length = 81) : (List.zipWith m hs gs).take 81 = List.zipWith m hs gs := List.take_of_length_le (by rw [zw_len m l1 l2]; exact Nat.le_refl _)
end
end Go.Proofs.YtmajllgfmclcoaaGreatDoor.Jn
