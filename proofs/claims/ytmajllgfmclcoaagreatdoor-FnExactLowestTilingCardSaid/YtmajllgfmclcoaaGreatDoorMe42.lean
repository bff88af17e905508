/- EndS in one text. -/
import Derived.Test.YtmajllgfmclcoaaGreatDoorMe40
import Derived.Test.YtmajllgfmclcoaaGreatDoorMe41

namespace Go.Proofs.YtmajllgfmclcoaaGreatDoor.Jn
set_option linter.unusedVariables false
set_option linter.unusedSimpArgs false
set_option maxRecDepth 100000
open Go.RowKit Go.Proofs.YtmajllgfmclcoaaGreatDoor.Pure Go.Proofs.YtmajllgfmclcoaaGreatDoor.Dms Go.Proofs.YtmajllgfmclcoaaGreatDoor.Til Go.Proofs.YtmajllgfmclcoaaGreatDoor.Hgt Go.Joins
open Go.Proofs.YtmajllgfmclcoaaGreatDoor.Flo (simB iIsSimple sIsSimple)
open Go.Proofs.YtmajllgfmclcoaaGreatDoor.Lst (listR listR_small listR_half halfR_le iListTilings sListTilings)
open Go.Proofs.YtmajllgfmclcoaaGreatDoor.Ext (halfR SSP)
open Go.Proofs.YtmajllgfmclcoaaGreatDoor.Reg (ints intInfo RowB RowIn rowB_own own_below own_base sCountCells countR)
open Go.Proofs.YtmajllgfmclcoaaGreatDoor.Cor (iHeightsOf)

theorem end_none {t : Int} {xs : List Int} {w W0 W : World} {g : Nat} (h : ¬ (simB xs = true ∧ listR xs ≠ [])) (ho : W.ownsRow w.heap.size 63 3 (.slice (some ⟨g, 0, none⟩) 0 0) 0 []) (hb : Below w.heap.size w W) : EndP t xs w (.returned (.tuple #[.slice (some ⟨g, 0, none⟩) 0 0, .bool false])) W :=
 ⟨[], false, some ⟨g, 0, none⟩, 0, rfl, ho, endR_no h, Nat.le_refl _, hb⟩

set_option maxHeartbeats 8000000 in
theorem sEndLowestTiling (w : World) (A : Option Addr) (n cap B : Nat) (xs : List Int) (hx : xs.length = n) (hn : (n : Int) ≤ 9223372036854775807) (h : RowB w B A xs) (hB : B ≤ w.heap.size) :
  Calls Tryz.prog 43 #[.agg #[.slice A n cap], .bool false] w (EndP 1 xs w) := by
 have HS := Lib.hid (r1_start w (.slice A n cap))
 have HSim := Lib.hid (fun W (hb : Below w.heap.size w W) => sIsSimple W A n cap B xs hx hn (h.below hb hB) (by have := hb.size; omega))
 have HLs := Lib.hid (fun W (hb : Below w.heap.size w W) => sListTilings W A n cap B xs hx hn (h.below hb hB) (by have := hb.size; omega))
 have HCnt := Lib.hid (fun W (hb : Below w.heap.size w W) => sCountCells W A n cap B xs hx hn (h.below hb hB) (by have := hb.size; omega))
 have HHg := Lib.hid (fun W (hb : Below w.heap.size w W) a l c B' (L : List Dm) (hL : L.length = l) (hl : l ≤ 32) (hr : RowM W B' a L) (hB' : B' ≤ W.heap.size) => sHeights W A n cap B xs hx hn (h.below hb hB) (by have := hb.size; omega) a l c B' L hL (by omega) hr hB')
 clear hx hn h hB
 have HMd := Lib.hid (fun (W : World) => World.ownsRow_made (e := 63) (size := 3) W #[] 0 (Nat.le_refl _) (by unfold maxLen; omega) rfl)
 go_enter Tryz.func43, Tryz.ntmps43
 have SA := Lib.hid (HS.out.on (below_alloc1 _ (.cells #[] 63)))
 have OA := Lib.hid (HMd.out (w.alloc (.cells #[.slice A n cap] 26)))
 have hzA : (w.alloc (.cells #[.slice A n cap] 26)).heap.size = w.heap.size + 1 := by simp
 clear HS HMd
 go_upto_region 2 with fail
 generalize (w.alloc (.cells #[.slice A n cap] 26)).alloc (.cells #[] 63) = w0 at SA OA ⊢
 rw [hzA] at OA
 try simp only [World.size_alloc]
 generalize hg0 : w.heap.size + 1 = g0 at OA ⊢
 have c0 := SA.out.2.c0
 go_wp2_with fail
 refine (HLs.out _ SA.out.1).mono ?_
 rintro e w2 ⟨A2, cap2, rfl, hss, hb2⟩
 have S2 := Lib.hid (SA.out.on hb2)
 have O2 := Lib.hid (own_base (own_below OA.out hb2 (Nat.le_refl _)) (show w.heap.size ≤ g0 by omega))
 have hlo := SA.out.1.size
 clear SA OA HLs hb2 c0 hzA hg0
 have c0 := S2.out.2.c0
 go_wp2_with fail
 refine (HSim.out _ S2.out.1).mono ?_
 rintro e w3 ⟨rfl, hb3⟩
 have S3 := Lib.hid (S2.out.on hb3)
 have O3 := Lib.hid (own_below O2.out hb3 (Nat.le_refl _))
 have hss3 := hss.on hb3
 clear S2 O2 HSim hb3 hss c0
 have HNo := Lib.hid (fun (hno : ¬ (simB xs = true ∧ listR xs ≠ [])) W (ho : W.ownsRow w.heap.size 63 3 (.slice (some ⟨g0, 0, none⟩) 0 0) 0 []) (hb : Below w.heap.size w W) => end_none (W0 := W) (t := 1) hno ho hb)
 cases hs : simB xs with
 | false =>
  have HE := Lib.hid (HNo.out (by rw [hs]; simp) w3 O3.out S3.out.1)
  clear HNo hs HHg S3 O3 HCnt hss3
  go_wp2
  exact bodyPost_ret (v := .tuple #[.slice (some ⟨g0, 0, none⟩) 0 0, .bool false]) (by simp [results, Tryz.results43, go_sem]) rfl HE.out
 | true =>
  have hcnt : ∃ q : Nat, countR xs = (q : Int) ∧ q ≠ 0 := by
   obtain ⟨ok, hp1, hone⟩ := sim_parts hs
   obtain ⟨cx0, cy0, hcell⟩ := cell_ex ok hp1
   exact ⟨(cellsR xs).length, rfl, fun e => by
    have hm := mem_cells.2 hcell
    rw [List.eq_nil_of_length_eq_zero e] at hm
    cases hm⟩
  obtain ⟨q, hq1, hq2⟩ := hcnt
  rw [hq1] at HCnt
  have hq3 : ((q : Int) == 0) = false := by simpa using hq2
  clear hq1 hq2
  have c0 := S3.out.2.c0
  go_wp2_with fail
  refine (HCnt.out _ S3.out.1).mono ?_
  rintro e w4 ⟨rfl, hb4⟩
  have S4 := Lib.hid (S3.out.on hb4)
  have O4 := Lib.hid (own_below O3.out hb4 (Nat.le_refl _))
  have hss4 := hss3.on hb4
  clear S3 O3 hss3 HCnt c0
  clear hb4
  have HSm := Lib.hid (listR_small xs)
  have HRow := Lib.hid (fun N hN h hr => hgt_row (xs := xs) (N := N) (h := h) hs hN hr)
  have HHf := Lib.hid (fun N hN => listR_half (xs := xs) N hN)
  have HEnd := Lib.hid (fun N s hb => best_end (t := 1) (xs := xs) (T := listR xs) (N := N) (s := s) hs hb)
  have h32 := halfR_le xs
  clear hs
  have HPo := Lib.hid (fun (N : List Dm) (ok : Bool) (A : Option Addr) (c l : Nat) (W : World) (hl : N.length = l) (ho : W.ownsRow w.heap.size 63 3 (.slice A l c) l (rowM N)) (he : endR 1 xs (listR xs) N ok) (hc : l ≤ c) (hb : Below w.heap.size w W) => end_post hl ho he hc hb)
  generalize halfR xs = hh at hss4 HHf h32
  generalize listR xs = T at hss4 HSm HRow HHf HEnd HNo HPo
  obtain ⟨m, hm⟩ : ∃ m, T.length = m := ⟨_, rfl⟩
  rw [hm] at hss4 ⊢
  by_cases h0 : m = 0
  ·subst h0
   have HE := Lib.hid (HNo.out (fun e => e.2 (List.eq_nil_of_length_eq_zero hm)) w4 O4.out S4.out.1)
   have q1 : (((0 : Nat) : Int) == 0) = true := rfl
   clear HNo HHg S4 O4 HRow HHf HEnd hss4 hm
   go_wp2
   exact bodyPost_ret (v := .tuple #[.slice (some ⟨g0, 0, none⟩) 0 0, .bool false]) (by simp [results, Tryz.results43, go_sem]) rfl HE.out
  ·have q1 : (((m : Nat) : Int) == 0) = false := by simp; omega
   have hm300 : m ≤ 300 := by have := HSm.out; omega
   obtain ⟨lo4, hlo4⟩ : ∃ lo, w0.heap.size = lo := ⟨_, rfl⟩
   rw [hlo4] at hss4 hlo
   obtain ⟨-, b, rfl, hkt⟩ := kth hss4 HHf.out (by omega)
   have HK := Lib.hid hkt
   have HM := Lib.hid hm
   have H32 := Lib.hid h32
   clear hkt hss4 hm HSm HNo h32
   have hmpos : 0 < m := by omega
   go_upto_region 7 with fail
   go_loopw [6, 8, 9, 10] (fun o s i _ wr => ∃ (k : Nat) (sv : Int), k ≤ m ∧ s = .int .i64 sv ∧ i = .int .i64 k ∧ Hid (Below w4.heap.size w4 wr) ∧ ((k = 0 ∧ o = .slice (some ⟨g0, 0, none⟩) 0 0) ∨ (0 < k ∧ ∃ (j : Nat) (a : Option Addr) (c : Nat) (hj : j < T.length), o = .slice a hh c ∧ Hid (Kth w4 b hh T (lo4) j a c) ∧ Hid (bestR 1 xs T k T[j] sv)))) (fun _ _ i _ _ => m - (intOf i).toNat)
   case atStart => exact ⟨0, 0, Nat.zero_le _, rfl, rfl, Lib.hid (Below.refl _ _), .inl ⟨rfl, rfl⟩⟩
   case round =>
    obtain ⟨k, bs, hk, rfl, rfl, HB, hor⟩ := hrel
    by_cases hlt : k < m
    ·have hltI : (k : Int) < (m : Int) := by omega
     obtain ⟨a, c, hK⟩ := HK.out k hlt
     have HKk := Lib.hid hK
     have hkT : k < T.length := by rw [HM.out]; exact hlt
     have S5 := Lib.hid (S4.out.on HB.out)
     have hmem := List.getElem_mem hkT
     have HR1 := Lib.hid (fun h r => HRow.out _ hmem h r)
     have HH1 := Lib.hid (fun W (hb : Below w4.heap.size w4 W) => show Calls Tryz.prog 69 #[.agg #[.slice A n cap], .slice a hh c] W (HgtP xs T[k] W) from by
      obtain ⟨_, ho1, hl1⟩ := HKk.out.own W hb
      exact HHg.out W (S4.out.1.trans (hb.mono S4.out.1.size)) a hh c W.heap.size T[k] hl1 H32.out (rowM_own ho1) (Nat.le_refl _))
     have HTk := Lib.hid (fun hv r => best_take (t := 1) (xs := xs) (h := hv) hkT r)
     have HKe := Lib.hid (fun hv r N s bb le => best_keep (t := 1) (xs := xs) (h := hv) hkT r (N := N) (s := s) bb le)
     clear hK hmem
     go_upto_region 9 with fail
     refine wp_region_noPanic ?_
     refine wp_region_held_drew (S := (fun w' => w'.cell? ⟨w.heap.size, 0, none⟩ = some (.slice A n cap) ∧ w'.cell? ⟨b, k, none⟩ = some (.slice a hh c))) (by kernel_rfl) (⟨S5.out.2.c0, HKk.out.cell _ HB.out.drew⟩) (fun hHeld => ?_)
     have HB1 := Lib.hid HB.out.drew
     clear HB S5
     generalize wr.drew = W1 at HB1 hHeld ⊢
     refine wpAnyH_take (i := 0) (v := ?_) rfl (by kernel_rfl) (by kernel_rfl) (by kernel_rfl) (fun _ _ _ h => h) (Or.inl ⟨by rfl, ?_⟩) (by assumption) ?_
     rotate_left
     ·(intro w' hS; (try dsimp only at hS); go_simp; try with_reducible rfl)
     try simp only [Act.put, List.getElem_toArray, List.getElem_cons_succ, List.getElem_cons_zero, List.setIfInBounds_toArray, List.set_cons_zero, List.set_cons_succ]
     refine wpAnyH_take (i := 1) (v := ?_) rfl (by kernel_rfl) (by kernel_rfl) (by kernel_rfl) (fun _ _ _ h => h) (Or.inl ⟨by rfl, ?_⟩) (by assumption) ?_
     rotate_left
     ·(intro w' hS; (try dsimp only at hS); go_simp; try with_reducible rfl)
     try simp only [Act.put, List.getElem_toArray, List.getElem_cons_succ, List.getElem_cons_zero, List.setIfInBounds_toArray, List.set_cons_zero, List.set_cons_succ]
     refine wpAnyH_take (i := 2) (v := ?_) rfl (by kernel_rfl) (by kernel_rfl) (by kernel_rfl) (fun _ _ _ h => h) (Or.inl ⟨by rfl, ?_⟩) (by assumption) ?_
     rotate_left
     ·(intro w' hS; (try dsimp only at hS); go_simp; try with_reducible rfl)
     try simp only [Act.put, List.getElem_toArray, List.getElem_cons_succ, List.getElem_cons_zero, List.setIfInBounds_toArray, List.set_cons_zero, List.set_cons_succ]
     refine wpAnyH_take (i := 3) (v := ?_) rfl (by kernel_rfl) (by kernel_rfl) (by kernel_rfl) (fun _ _ _ h => h) (Or.inl ⟨by rfl, ?_⟩) (by assumption) ?_
     rotate_left
     ·(intro w' hS; (try dsimp only at hS); go_simp; try with_reducible rfl)
     try simp only [Act.put, List.getElem_toArray, List.getElem_cons_succ, List.getElem_cons_zero, List.setIfInBounds_toArray, List.set_cons_zero, List.set_cons_succ]
     refine wpAnyH_take (i := 4) (v := ?_) rfl (by kernel_rfl) (by kernel_rfl) (by kernel_rfl) (fun _ _ _ h => h) (Or.inl ⟨by rfl, ?_⟩) (by assumption) ?_
     rotate_left
     ·(intro w' hS; (try dsimp only at hS); go_simp; try with_reducible rfl)
     try simp only [Act.put, List.getElem_toArray, List.getElem_cons_succ, List.getElem_cons_zero, List.setIfInBounds_toArray, List.set_cons_zero, List.set_cons_succ]
     refine wpAnyH_ready (rs := [5]) (by kernel_rfl) (by simp) ?_
     refine AllReadyH.cons rfl (fun K hK => ?_) AllReadyH.nil
     go_simp
     refine (HH1.out _ HB1.out).mono ?_
     rintro e wx ⟨hv, A5, n5, c5, r5, l5, rfl, hown5, hb5⟩
     obtain ⟨r9, l81⟩ := HR1.out hv r5
     obtain rfl : n5 = 81 := by omega
     have HB2 := Lib.hid (HB1.out.trans (hb5.mono HB1.out.size))
     have HSu := Lib.hid (sSum wx A5 81 c5 wx.heap.size hv l5 (by omega) (rowB_own hown5) (Nat.le_refl _))
     have HTk2 := Lib.hid (HTk.out hv r9)
     have HKe2 := Lib.hid (HKe.out hv r9)
     generalize hsv : sumH hv 81 = sv at HSu HTk2 HKe2
     clear HH1 HR1 HTk HKe r5 l5 r9 l81 hown5 hb5 HB1 hsv
     go_wp2_with fail
     refine hK.out _ _ (⟨(S4.out.on HB2.out).2.c0, HKk.out.cell _ HB2.out⟩) (fun hHeld => ?_)
     clear hK K
     try simp only [Act.put, List.getElem_toArray, List.getElem_cons_succ, List.getElem_cons_zero, List.setIfInBounds_toArray, List.set_cons_zero, List.set_cons_succ]
     refine wpAnyH_ready (rs := [6]) (by kernel_rfl) (by simp) ?_
     refine AllReadyH.cons rfl (fun K hK => ?_) AllReadyH.nil
     go_simp
     refine HSu.out.mono ?_
     rintro e wx2 ⟨rfl, hb6⟩
     have HB3 := Lib.hid (HB2.out.trans (hb6.mono HB2.out.size))
     clear HSu hb6 HB2
     go_wp2_with fail
     refine hK.out _ _ (⟨(S4.out.on HB3.out).2.c0, HKk.out.cell _ HB3.out⟩) (fun hHeld => ?_)
     clear hK K
     try simp only [Act.put, List.getElem_toArray, List.getElem_cons_succ, List.getElem_cons_zero, List.setIfInBounds_toArray, List.set_cons_zero, List.set_cons_succ]
     refine wpAnyH_take (i := 7) (v := ?_) rfl (by kernel_rfl) (by kernel_rfl) (by kernel_rfl) (fun _ _ _ h => h) (Or.inl ⟨by rfl, ?_⟩) (by assumption) ?_
     rotate_left
     ·(intro w' hS; (try dsimp only at hS); go_simp; try with_reducible rfl)
     try simp only [Act.put, List.getElem_toArray, List.getElem_cons_succ, List.getElem_cons_zero, List.setIfInBounds_toArray, List.set_cons_zero, List.set_cons_succ]
     refine wpAnyH_done (by kernel_rfl) ?_ _
     refine NoPanic.normal ?_
     clear hHeld
     have e4 := HKk.out.cell _ HB3.out
     rcases hor with ⟨rfl, rfl⟩ | ⟨hk0, j, a', c', hj, rfl, HKj, HBs⟩
     ·have HN := Lib.hid (HTk2.out (.inl rfl))
      have z0 : (((0 : Nat) : Int) == 0) = true := rfl
      go_wp2
      go_roundw
      case rel => exact ⟨0 + 1, sv, by omega, rfl, by go_num, HB3, .inr ⟨by omega, 0, a, c, hkT, rfl, HKk, HN⟩⟩
      case measure => (simp [intOf] <;> omega)
     ·have zk : (((k : Nat) : Int) == 0) = false := by simp; omega
      by_cases hc : sv < bs
      ·have HN := Lib.hid (HTk2.out (.inr ⟨T[j], bs, HBs.out, by omega⟩))
       go_wp2
       go_roundw
       case rel => exact ⟨k + 1, sv, by omega, rfl, by go_num, HB3, .inr ⟨by omega, k, a, c, hkT, rfl, HKk, HN⟩⟩
       case measure => (simp [intOf] <;> omega)
      ·have HN := Lib.hid (HKe2.out T[j] bs HBs.out (by omega))
       go_wp2
       go_roundw
       case rel => exact ⟨k + 1, bs, by omega, rfl, by go_num, HB3, .inr ⟨by omega, j, a', c', hj, rfl, HKj, HN⟩⟩
       case measure => (simp [intOf] <;> omega)
    ·obtain rfl : k = m := by omega
     rcases hor with ⟨h00, _⟩ | ⟨hk0, j, a', c', hj, rfl, HKj, HBs⟩
     ·omega
     ·obtain ⟨_, ho4, hl4⟩ := HKj.out.own _ HB.out
      have hEn := HEnd.out T[j] bs (by rw [HM.out]; exact HBs.out)
      have HP := Lib.hid (HPo.out T[j] true a' c' hh wr hl4 (own_base ho4 (by omega)) hEn HKj.out.le (S4.out.on HB.out).1)
      clear ho4 hl4 hEn
      go_wp2
      exact bodyPost_ret (v := .tuple #[.slice a' hh c', .bool true]) (by simp [results, Tryz.results43, go_sem]) rfl HP.out
set_option maxHeartbeats 1000000 in
theorem sLowestTiling (w : World) (A : Option Addr) (n cap B : Nat) (xs : List Int) (hx : xs.length = n) (hn : (n : Int) ≤ 9223372036854775807) (h : RowB w B A xs) (hB : B ≤ w.heap.size) :
  Calls Tryz.prog 18 #[.agg #[.slice A n cap]] w (EndP 1 xs w) := by
 have HS := Lib.hid (r1_start w (.slice A n cap))
 have HBe := Lib.hid (fun W (hb : Below w.heap.size w W) => sEndLowestTiling W A n cap B xs hx hn (h.below hb hB) (by have := hb.size; omega))
 clear hx hn h hB
 go_enter Tryz.func18, Tryz.ntmps18
 go_wp2_with fail
 have c0 := HS.out.2.c0
 refine (HBe.out _ HS.out.1).mono ?_
 rintro e w1 ⟨N, ok, A6, c6, rfl, hown, hj, hle, hb1⟩
 have HP := Lib.hid (show EndP 1 xs w (.returned (.tuple #[.slice A6 N.length c6, .bool ok])) w1 from ⟨N, ok, A6, c6, rfl, own_base hown HS.out.1.size, hj, hle, HS.out.1.trans (hb1.mono HS.out.1.size)⟩)
 clear HS HBe hown hj hle hb1 c0
 generalize N.length = n6 at HP ⊢
 go_wp2
 exact bodyPost_ret (v := .tuple #[.slice A6 n6 c6, .bool ok]) (by simp [results, Tryz.results18, go_sem]) rfl HP.out

set_option maxHeartbeats 8000000 in
theorem sEndHighestTiling (w : World) (A : Option Addr) (n cap B : Nat) (xs : List Int) (hx : xs.length = n) (hn : (n : Int) ≤ 9223372036854775807) (h : RowB w B A xs) (hB : B ≤ w.heap.size) :
  Calls Tryz.prog 43 #[.agg #[.slice A n cap], .bool true] w (EndP (-1) xs w) := by
 have HS := Lib.hid (r1_start w (.slice A n cap))
 have HSim := Lib.hid (fun W (hb : Below w.heap.size w W) => sIsSimple W A n cap B xs hx hn (h.below hb hB) (by have := hb.size; omega))
 have HLs := Lib.hid (fun W (hb : Below w.heap.size w W) => sListTilings W A n cap B xs hx hn (h.below hb hB) (by have := hb.size; omega))
 have HCnt := Lib.hid (fun W (hb : Below w.heap.size w W) => sCountCells W A n cap B xs hx hn (h.below hb hB) (by have := hb.size; omega))
 have HHg := Lib.hid (fun W (hb : Below w.heap.size w W) a l c B' (L : List Dm) (hL : L.length = l) (hl : l ≤ 32) (hr : RowM W B' a L) (hB' : B' ≤ W.heap.size) => sHeights W A n cap B xs hx hn (h.below hb hB) (by have := hb.size; omega) a l c B' L hL (by omega) hr hB')
 clear hx hn h hB
 have HMd := Lib.hid (fun (W : World) => World.ownsRow_made (e := 63) (size := 3) W #[] 0 (Nat.le_refl _) (by unfold maxLen; omega) rfl)
 go_enter Tryz.func43, Tryz.ntmps43
 have SA := Lib.hid (HS.out.on (below_alloc1 _ (.cells #[] 63)))
 have OA := Lib.hid (HMd.out (w.alloc (.cells #[.slice A n cap] 26)))
 have hzA : (w.alloc (.cells #[.slice A n cap] 26)).heap.size = w.heap.size + 1 := by simp
 clear HS HMd
 go_upto_region 2 with fail
 generalize (w.alloc (.cells #[.slice A n cap] 26)).alloc (.cells #[] 63) = w0 at SA OA ⊢
 rw [hzA] at OA
 try simp only [World.size_alloc]
 generalize hg0 : w.heap.size + 1 = g0 at OA ⊢
 have c0 := SA.out.2.c0
 go_wp2_with fail
 refine (HLs.out _ SA.out.1).mono ?_
 rintro e w2 ⟨A2, cap2, rfl, hss, hb2⟩
 have S2 := Lib.hid (SA.out.on hb2)
 have O2 := Lib.hid (own_base (own_below OA.out hb2 (Nat.le_refl _)) (show w.heap.size ≤ g0 by omega))
 have hlo := SA.out.1.size
 clear SA OA HLs hb2 c0 hzA hg0
 have c0 := S2.out.2.c0
 go_wp2_with fail
 refine (HSim.out _ S2.out.1).mono ?_
 rintro e w3 ⟨rfl, hb3⟩
 have S3 := Lib.hid (S2.out.on hb3)
 have O3 := Lib.hid (own_below O2.out hb3 (Nat.le_refl _))
 have hss3 := hss.on hb3
 clear S2 O2 HSim hb3 hss c0
 have HNo := Lib.hid (fun (hno : ¬ (simB xs = true ∧ listR xs ≠ [])) W (ho : W.ownsRow w.heap.size 63 3 (.slice (some ⟨g0, 0, none⟩) 0 0) 0 []) (hb : Below w.heap.size w W) => end_none (W0 := W) (t := (-1)) hno ho hb)
 cases hs : simB xs with
 | false =>
  have HE := Lib.hid (HNo.out (by rw [hs]; simp) w3 O3.out S3.out.1)
  clear HNo hs HHg S3 O3 HCnt hss3
  go_wp2
  exact bodyPost_ret (v := .tuple #[.slice (some ⟨g0, 0, none⟩) 0 0, .bool false]) (by simp [results, Tryz.results43, go_sem]) rfl HE.out
 | true =>
  have hcnt : ∃ q : Nat, countR xs = (q : Int) ∧ q ≠ 0 := by
   obtain ⟨ok, hp1, hone⟩ := sim_parts hs
   obtain ⟨cx0, cy0, hcell⟩ := cell_ex ok hp1
   exact ⟨(cellsR xs).length, rfl, fun e => by
    have hm := mem_cells.2 hcell
    rw [List.eq_nil_of_length_eq_zero e] at hm
    cases hm⟩
  obtain ⟨q, hq1, hq2⟩ := hcnt
  rw [hq1] at HCnt
  have hq3 : ((q : Int) == 0) = false := by simpa using hq2
  clear hq1 hq2
  have c0 := S3.out.2.c0
  go_wp2_with fail
  refine (HCnt.out _ S3.out.1).mono ?_
  rintro e w4 ⟨rfl, hb4⟩
  have S4 := Lib.hid (S3.out.on hb4)
  have O4 := Lib.hid (own_below O3.out hb4 (Nat.le_refl _))
  have hss4 := hss3.on hb4
  clear S3 O3 hss3 HCnt c0
  clear hb4
  have HSm := Lib.hid (listR_small xs)
  have HRow := Lib.hid (fun N hN h hr => hgt_row (xs := xs) (N := N) (h := h) hs hN hr)
  have HHf := Lib.hid (fun N hN => listR_half (xs := xs) N hN)
  have HEnd := Lib.hid (fun N s hb => best_end (t := (-1)) (xs := xs) (T := listR xs) (N := N) (s := s) hs hb)
  have h32 := halfR_le xs
  clear hs
  have HPo := Lib.hid (fun (N : List Dm) (ok : Bool) (A : Option Addr) (c l : Nat) (W : World) (hl : N.length = l) (ho : W.ownsRow w.heap.size 63 3 (.slice A l c) l (rowM N)) (he : endR (-1) xs (listR xs) N ok) (hc : l ≤ c) (hb : Below w.heap.size w W) => end_post hl ho he hc hb)
  generalize halfR xs = hh at hss4 HHf h32
  generalize listR xs = T at hss4 HSm HRow HHf HEnd HNo HPo
  obtain ⟨m, hm⟩ : ∃ m, T.length = m := ⟨_, rfl⟩
  rw [hm] at hss4 ⊢
  by_cases h0 : m = 0
  ·subst h0
   have HE := Lib.hid (HNo.out (fun e => e.2 (List.eq_nil_of_length_eq_zero hm)) w4 O4.out S4.out.1)
   have q1 : (((0 : Nat) : Int) == 0) = true := rfl
   clear HNo HHg S4 O4 HRow HHf HEnd hss4 hm
   go_wp2
   exact bodyPost_ret (v := .tuple #[.slice (some ⟨g0, 0, none⟩) 0 0, .bool false]) (by simp [results, Tryz.results43, go_sem]) rfl HE.out
  ·have q1 : (((m : Nat) : Int) == 0) = false := by simp; omega
   have hm300 : m ≤ 300 := by have := HSm.out; omega
   obtain ⟨lo4, hlo4⟩ : ∃ lo, w0.heap.size = lo := ⟨_, rfl⟩
   rw [hlo4] at hss4 hlo
   obtain ⟨-, b, rfl, hkt⟩ := kth hss4 HHf.out (by omega)
   have HK := Lib.hid hkt
   have HM := Lib.hid hm
   have H32 := Lib.hid h32
   clear hkt hss4 hm HSm HNo h32
   have hmpos : 0 < m := by omega
   go_upto_region 7 with fail
   go_loopw [6, 8, 9, 10] (fun o s i _ wr => ∃ (k : Nat) (sv : Int), k ≤ m ∧ s = .int .i64 sv ∧ i = .int .i64 k ∧ Hid (Below w4.heap.size w4 wr) ∧ ((k = 0 ∧ o = .slice (some ⟨g0, 0, none⟩) 0 0) ∨ (0 < k ∧ ∃ (j : Nat) (a : Option Addr) (c : Nat) (hj : j < T.length), o = .slice a hh c ∧ Hid (Kth w4 b hh T (lo4) j a c) ∧ Hid (bestR (-1) xs T k T[j] sv)))) (fun _ _ i _ _ => m - (intOf i).toNat)
   case atStart => exact ⟨0, 0, Nat.zero_le _, rfl, rfl, Lib.hid (Below.refl _ _), .inl ⟨rfl, rfl⟩⟩
   case round =>
    obtain ⟨k, bs, hk, rfl, rfl, HB, hor⟩ := hrel
    by_cases hlt : k < m
    ·have hltI : (k : Int) < (m : Int) := by omega
     obtain ⟨a, c, hK⟩ := HK.out k hlt
     have HKk := Lib.hid hK
     have hkT : k < T.length := by rw [HM.out]; exact hlt
     have S5 := Lib.hid (S4.out.on HB.out)
     have hmem := List.getElem_mem hkT
     have HR1 := Lib.hid (fun h r => HRow.out _ hmem h r)
     have HH1 := Lib.hid (fun W (hb : Below w4.heap.size w4 W) => show Calls Tryz.prog 69 #[.agg #[.slice A n cap], .slice a hh c] W (HgtP xs T[k] W) from by
      obtain ⟨_, ho1, hl1⟩ := HKk.out.own W hb
      exact HHg.out W (S4.out.1.trans (hb.mono S4.out.1.size)) a hh c W.heap.size T[k] hl1 H32.out (rowM_own ho1) (Nat.le_refl _))
     have HTk := Lib.hid (fun hv r => best_take (t := (-1)) (xs := xs) (h := hv) hkT r)
     have HKe := Lib.hid (fun hv r N s bb le => best_keep (t := (-1)) (xs := xs) (h := hv) hkT r (N := N) (s := s) bb le)
     clear hK hmem
     go_upto_region 9 with fail
     refine wp_region_noPanic ?_
     refine wp_region_held_drew (S := (fun w' => w'.cell? ⟨w.heap.size, 0, none⟩ = some (.slice A n cap) ∧ w'.cell? ⟨b, k, none⟩ = some (.slice a hh c))) (by kernel_rfl) (⟨S5.out.2.c0, HKk.out.cell _ HB.out.drew⟩) (fun hHeld => ?_)
     have HB1 := Lib.hid HB.out.drew
     clear HB S5
     generalize wr.drew = W1 at HB1 hHeld ⊢
     refine wpAnyH_take (i := 0) (v := ?_) rfl (by kernel_rfl) (by kernel_rfl) (by kernel_rfl) (fun _ _ _ h => h) (Or.inl ⟨by rfl, ?_⟩) (by assumption) ?_
     rotate_left
     ·(intro w' hS; (try dsimp only at hS); go_simp; try with_reducible rfl)
     try simp only [Act.put, List.getElem_toArray, List.getElem_cons_succ, List.getElem_cons_zero, List.setIfInBounds_toArray, List.set_cons_zero, List.set_cons_succ]
     refine wpAnyH_take (i := 1) (v := ?_) rfl (by kernel_rfl) (by kernel_rfl) (by kernel_rfl) (fun _ _ _ h => h) (Or.inl ⟨by rfl, ?_⟩) (by assumption) ?_
     rotate_left
     ·(intro w' hS; (try dsimp only at hS); go_simp; try with_reducible rfl)
     try simp only [Act.put, List.getElem_toArray, List.getElem_cons_succ, List.getElem_cons_zero, List.setIfInBounds_toArray, List.set_cons_zero, List.set_cons_succ]
     refine wpAnyH_take (i := 2) (v := ?_) rfl (by kernel_rfl) (by kernel_rfl) (by kernel_rfl) (fun _ _ _ h => h) (Or.inl ⟨by rfl, ?_⟩) (by assumption) ?_
     rotate_left
     ·(intro w' hS; (try dsimp only at hS); go_simp; try with_reducible rfl)
     try simp only [Act.put, List.getElem_toArray, List.getElem_cons_succ, List.getElem_cons_zero, List.setIfInBounds_toArray, List.set_cons_zero, List.set_cons_succ]
     refine wpAnyH_take (i := 3) (v := ?_) rfl (by kernel_rfl) (by kernel_rfl) (by kernel_rfl) (fun _ _ _ h => h) (Or.inl ⟨by rfl, ?_⟩) (by assumption) ?_
     rotate_left
     ·(intro w' hS; (try dsimp only at hS); go_simp; try with_reducible rfl)
     try simp only [Act.put, List.getElem_toArray, List.getElem_cons_succ, List.getElem_cons_zero, List.setIfInBounds_toArray, List.set_cons_zero, List.set_cons_succ]
     refine wpAnyH_take (i := 4) (v := ?_) rfl (by kernel_rfl) (by kernel_rfl) (by kernel_rfl) (fun _ _ _ h => h) (Or.inl ⟨by rfl, ?_⟩) (by assumption) ?_
     rotate_left
     ·(intro w' hS; (try dsimp only at hS); go_simp; try with_reducible rfl)
     try simp only [Act.put, List.getElem_toArray, List.getElem_cons_succ, List.getElem_cons_zero, List.setIfInBounds_toArray, List.set_cons_zero, List.set_cons_succ]
     refine wpAnyH_ready (rs := [5]) (by kernel_rfl) (by simp) ?_
     refine AllReadyH.cons rfl (fun K hK => ?_) AllReadyH.nil
     go_simp
     refine (HH1.out _ HB1.out).mono ?_
     rintro e wx ⟨hv, A5, n5, c5, r5, l5, rfl, hown5, hb5⟩
     obtain ⟨r9, l81⟩ := HR1.out hv r5
     obtain rfl : n5 = 81 := by omega
     have HB2 := Lib.hid (HB1.out.trans (hb5.mono HB1.out.size))
     have HSu := Lib.hid (sSum wx A5 81 c5 wx.heap.size hv l5 (by omega) (rowB_own hown5) (Nat.le_refl _))
     have HTk2 := Lib.hid (HTk.out hv r9)
     have HKe2 := Lib.hid (HKe.out hv r9)
     generalize hsv : sumH hv 81 = sv at HSu HTk2 HKe2
     clear HH1 HR1 HTk HKe r5 l5 r9 l81 hown5 hb5 HB1 hsv
     go_wp2_with fail
     refine hK.out _ _ (⟨(S4.out.on HB2.out).2.c0, HKk.out.cell _ HB2.out⟩) (fun hHeld => ?_)
     clear hK K
     try simp only [Act.put, List.getElem_toArray, List.getElem_cons_succ, List.getElem_cons_zero, List.setIfInBounds_toArray, List.set_cons_zero, List.set_cons_succ]
     refine wpAnyH_ready (rs := [6]) (by kernel_rfl) (by simp) ?_
     refine AllReadyH.cons rfl (fun K hK => ?_) AllReadyH.nil
     go_simp
     refine HSu.out.mono ?_
     rintro e wx2 ⟨rfl, hb6⟩
     have HB3 := Lib.hid (HB2.out.trans (hb6.mono HB2.out.size))
     clear HSu hb6 HB2
     go_wp2_with fail
     refine hK.out _ _ (⟨(S4.out.on HB3.out).2.c0, HKk.out.cell _ HB3.out⟩) (fun hHeld => ?_)
     clear hK K
     try simp only [Act.put, List.getElem_toArray, List.getElem_cons_succ, List.getElem_cons_zero, List.setIfInBounds_toArray, List.set_cons_zero, List.set_cons_succ]
     refine wpAnyH_take (i := 7) (v := ?_) rfl (by kernel_rfl) (by kernel_rfl) (by kernel_rfl) (fun _ _ _ h => h) (Or.inl ⟨by rfl, ?_⟩) (by assumption) ?_
     rotate_left
     ·(intro w' hS; (try dsimp only at hS); go_simp; try with_reducible rfl)
     try simp only [Act.put, List.getElem_toArray, List.getElem_cons_succ, List.getElem_cons_zero, List.setIfInBounds_toArray, List.set_cons_zero, List.set_cons_succ]
     refine wpAnyH_done (by kernel_rfl) ?_ _
     refine NoPanic.normal ?_
     clear hHeld
     have e4 := HKk.out.cell _ HB3.out
     rcases hor with ⟨rfl, rfl⟩ | ⟨hk0, j, a', c', hj, rfl, HKj, HBs⟩
     ·have HN := Lib.hid (HTk2.out (.inl rfl))
      have z0 : (((0 : Nat) : Int) == 0) = true := rfl
      go_wp2
      go_roundw
      case rel => exact ⟨0 + 1, sv, by omega, rfl, by go_num, HB3, .inr ⟨by omega, 0, a, c, hkT, rfl, HKk, HN⟩⟩
      case measure => (simp [intOf] <;> omega)
     ·have zk : (((k : Nat) : Int) == 0) = false := by simp; omega
      by_cases hc : bs < sv
      ·have HN := Lib.hid (HTk2.out (.inr ⟨T[j], bs, HBs.out, by omega⟩))
       go_wp2
       go_roundw
       case rel => exact ⟨k + 1, sv, by omega, rfl, by go_num, HB3, .inr ⟨by omega, k, a, c, hkT, rfl, HKk, HN⟩⟩
       case measure => (simp [intOf] <;> omega)
      ·have HN := Lib.hid (HKe2.out T[j] bs HBs.out (by omega))
       go_wp2
       go_roundw
       case rel => exact ⟨k + 1, bs, by omega, rfl, by go_num, HB3, .inr ⟨by omega, j, a', c', hj, rfl, HKj, HN⟩⟩
       case measure => (simp [intOf] <;> omega)
    ·obtain rfl : k = m := by omega
     rcases hor with ⟨h00, _⟩ | ⟨hk0, j, a', c', hj, rfl, HKj, HBs⟩
     ·omega
     ·obtain ⟨_, ho4, hl4⟩ := HKj.out.own _ HB.out
      have hEn := HEnd.out T[j] bs (by rw [HM.out]; exact HBs.out)
      have HP := Lib.hid (HPo.out T[j] true a' c' hh wr hl4 (own_base ho4 (by omega)) hEn HKj.out.le (S4.out.on HB.out).1)
      clear ho4 hl4 hEn
      go_wp2
      exact bodyPost_ret (v := .tuple #[.slice a' hh c', .bool true]) (by simp [results, Tryz.results43, go_sem]) rfl HP.out
set_option maxHeartbeats 1000000 in
theorem sHighestTiling (w : World) (A : Option Addr) (n cap B : Nat) (xs : List Int) (hx : xs.length = n) (hn : (n : Int) ≤ 9223372036854775807) (h : RowB w B A xs) (hB : B ≤ w.heap.size) :
  Calls Tryz.prog 25 #[.agg #[.slice A n cap]] w (EndP (-1) xs w) := by
 have HS := Lib.hid (r1_start w (.slice A n cap))
 have HBe := Lib.hid (fun W (hb : Below w.heap.size w W) => sEndHighestTiling W A n cap B xs hx hn (h.below hb hB) (by have := hb.size; omega))
 clear hx hn h hB
 go_enter Tryz.func25, Tryz.ntmps25
 go_wp2_with fail
 have c0 := HS.out.2.c0
 refine (HBe.out _ HS.out.1).mono ?_
 rintro e w1 ⟨N, ok, A6, c6, rfl, hown, hj, hle, hb1⟩
 have HP := Lib.hid (show EndP (-1) xs w (.returned (.tuple #[.slice A6 N.length c6, .bool ok])) w1 from ⟨N, ok, A6, c6, rfl, own_base hown HS.out.1.size, hj, hle, HS.out.1.trans (hb1.mono HS.out.1.size)⟩)
 clear HS HBe hown hj hle hb1 c0
 generalize N.length = n6 at HP ⊢
 go_wp2
 exact bodyPost_ret (v := .tuple #[.slice A6 n6 c6, .bool ok]) (by simp [results, Tryz.results25, go_sem]) rfl HP.out
end Go.Proofs.YtmajllgfmclcoaaGreatDoor.Jn
