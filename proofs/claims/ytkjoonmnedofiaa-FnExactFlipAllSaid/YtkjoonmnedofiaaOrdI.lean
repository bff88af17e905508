/- SortDominoes, the program's: the valid ones are copied, sorted, and cut to those that differ. -/
import Derived.Test.YtkjoonmnedofiaaSrtC
import Derived.Test.YtkjoonmnedofiaaCmpI
namespace Go.Proofs.Ytkjoonmnedofiaa.Til
set_option linter.unusedVariables false
set_option linter.unusedSimpArgs false
open Go.RowKit Go.Proofs.Ytkjoonmnedofiaa.Base Go.Proofs.Ytkjoonmnedofiaa.Pure Go.Proofs.Ytkjoonmnedofiaa.Cell Go.Proofs.Ytkjoonmnedofiaa.Dom Go.Proofs.Ytkjoonmnedofiaa.Dms Go.Joins
open Go.Proofs.Ytkjoonmnedofiaa.Reg hiding Yes add_none

/-- the valid ones among the first j. -/
def vld (L : List Dm) (j : Nat) : List Dm := (L.take j).filter okM
theorem vld_yes {L : List Dm} {j : Nat} (hj : j < L.length) (h : okM L[j] = true) : vld L (j + 1) = vld L j ++ [L[j]] := by
  unfold vld; rw [List.take_succ_eq_append_getElem hj, List.filter_append]; simp [h]
theorem vld_no {L : List Dm} {j : Nat} (hj : j < L.length) (h : okM L[j] = false) : vld L (j + 1) = vld L j := by
  unfold vld; rw [List.take_succ_eq_append_getElem hj, List.filter_append]; simp [h]
theorem vld_length (L : List Dm) (j : Nat) : (vld L j).length ≤ j := by
  unfold vld; exact Nat.le_trans (List.length_filter_le _ _) (by rw [List.length_take]; omega)

set_option maxRecDepth 100000 in
set_option maxHeartbeats 2000000 in
theorem inOrder (w : World) (A : Option Addr) (n cap B : Nat) (L : List Dm) (hL : L.length = n) (hn : (n : Int) ≤ 1048576) (hf : Fits L) (h : RowM w B A L) (hB : B ≤ w.heap.size) :
    Calls Try.prog 69 #[.slice A n cap] w (DmPost (sortM L) (sortM L).length w) := by
  obtain ⟨i0, hi, hz0, hz1, hz2⟩ := info_parts domInfo
  obtain ⟨b0, off, h1, h2⟩ := h.at
  have HA := Lib.hid (fun hp => h1 hp)
  have HC := Lib.hid h2
  have HL := Lib.hid hL
  have HF := Lib.hid hf
  have HB := Lib.hid hB
  clear h h1 h2 hL hf hB
  go_enter Try.func69, Try.ntmps69
  go_wp2_with (first
    | (at_make; refine wpList_make_own _ rfl _ _ 27 rfl w.heap.size 38 i0 (.agg #[.int .i64 0, .int .i64 0, .bool false]) 3 Try.underlying27 hi hz0 hz1 .i64 .i64 (n : Int) n rfl rfl rfl (by rw [hz2]; omega) (by unfold maxLen; omega) (Nat.le_refl _) ?_; intro w1 hown1 hg1))
  have hb1 : Below w.heap.size w w1 := (Below.refl _ _).grown hg1 (by omega) (by simp)
  have HO := Lib.hid hown1
  clear hown1 hg1
  go_loopw [3, 11] (fun v i wr => ∃ j k : Nat, j ≤ n ∧ i = .int .i64 j ∧ v = .slice (some ⟨w.heap.size, 0, none⟩) k n ∧ k = (vld L j).length ∧ wr.ownsRow w.heap.size 38 3 (.slice (some ⟨w.heap.size, 0, none⟩) k n) k (rowM (vld L j)) ∧ Below w.heap.size w wr) (fun _ i _ => n - (intOf i).toNat)
  case atStart => exact ⟨0, 0, Nat.zero_le _, rfl, rfl, by simp [vld], by simpa [vld, rowM] using HO.out, hb1⟩
  case round =>
    clear HO hb1
    obtain ⟨j, k, hj, rfl, rfl, hk, hown, hb⟩ := hrel
    have hbs := hb.size
    by_cases hlt : j < n
    · have hjL : j < L.length := by have := HL.out; omega
      obtain ⟨rfl, hbB⟩ := HA.out (by omega)
      obtain ⟨c0, c1, c2⟩ := HC.out j hjL
      have hbw : b0 < w.heap.size := by have := HB.out; omega
      have c0 := (hb.cell (p := ⟨b0, off + j * 3, none⟩) hbw).trans c0
      have c1 := (hb.cell (p := ⟨b0, off + j * 3 + 1, none⟩) hbw).trans c1
      have c2 := (hb.cell (p := ⟨b0, off + j * 3 + 2, none⟩) hbw).trans c2
      obtain ⟨f1, f2⟩ := HF.out L[j] (List.getElem_mem hjL)
      have HY := Lib.hid (fun h => vld_yes (L := L) hjL h)
      have HN := Lib.hid (fun h => vld_no (L := L) hjL h)
      generalize L[j] = d at c0 c1 c2 f1 f2 HY HN
      obtain ⟨x, y, b⟩ := d
      simp only [okM] at c0 c1 c2 f1 f2 HY HN
      have HD := Lib.hid (fun W => iDominoOk x y b f1 f2 W)
      generalize domB x y b = p at HD HY HN
      have hkj : k ≤ j := by rw [hk]; exact vld_length L j
      have HK := Lib.hid hk
      have HOwn := Lib.hid hown
      have HBw := Lib.hid hb
      clear f1 f2 hk hown hb
      go_wp2_with fail
      refine (HD.out _).mono ?_
      rintro e w2 ⟨rfl, hb2⟩
      obtain ⟨hE, K1⟩ := bx3 x y b wr w2 hb2
      have hown2 := Reg.own_below HOwn.out hE (Nat.le_refl _)
      have hB2 := HBw.out.trans (hE.mono hbs)
      have hs2 := hE.size
      clear hb2 HOwn HBw HD hE
      cases p with
      | false =>
        have HE := Lib.hid (HN.out (by first | rfl | trivial))
        have HO2 := Lib.hid hown2
        clear hown2 HY HN K1 c0 c1 c2
        go_wp2
        go_roundw
        case rel => exact ⟨j + 1, k, by omega, by go_num, rfl, by rw [HE.out]; exact HK.out, by rw [HE.out]; exact HO2.out, hB2⟩
        case measure => (simp [intOf] <;> omega)
      | true =>
        have HE := Lib.hid (HY.out (by first | rfl | trivial))
        have d0 := K1.c0
        have d1 := K1.c1
        have d2 := K1.c2
        have HO2 := Lib.hid hown2
        clear hown2 HY HN K1 c0 c1 c2
        go_wp2_with (first
          | (at_builtin; refine wpList_append_fits _ rfl _ _ 27 rfl w.heap.size 38 i0 3 Try.underlying27 hi hz1 w.heap.size k n (rowM (vld L j)) (by rfl) (HO2.out.alloc _) ⟨w2.heap.size, 0, none⟩ 1 1 [.int .i64 x, .int .i64 y, .bool b] (by rfl) rfl (World.news_of_block (cs := #[.int .i64 x, .int .i64 y, .bool b]) (t := 38) (fr := (0, 0)) (heap_alloc_new w2 _)) (by simp [Value.oneCell']) (by omega) ?_; intro w3 hown3 hgrow))
        have hb3 : Below w.heap.size w w3 := (hB2.alloc (by omega) _).grown hgrow (by simp; omega) (fun g hg => by have hg2 : w.heap.size = g := by { injection hg }; omega)
        have R := Lib.hid (show w3.ownsRow w.heap.size 38 3 (.slice (some ⟨w.heap.size, 0, none⟩) (k + 1) n) (k + 1) (rowM (vld L (j + 1))) by
          rw [HE.out, rowM_snoc]; exact hown3)
        clear hown3 hgrow
        go_wp2
        go_roundw
        case rel => exact ⟨j + 1, k + 1, by omega, by go_num, by go_num, by rw [HE.out, List.length_append, ← HK.out]; rfl, R.out, hb3⟩
        case measure => (simp [intOf] <;> omega)
    · obtain rfl : j = n := by omega
      have hkj : k ≤ j := by rw [hk]; exact vld_length L j
      have hvl : vld L j = L.filter okM := by unfold vld; rw [← HL.out, List.take_length]
      have HSo := Lib.hid (Srt.sortCall wr w.heap.size w.heap.size k j (vld L j) (by omega) (fun d hd => by rw [hvl] at hd; exact (List.mem_filter.1 hd).2) hown)
      have HV := Lib.hid hvl
      have HK := Lib.hid hk
      have HBw := Lib.hid hb
      clear hvl hk hown hb
      go_wp2_with fail
      refine HSo.out.mono ?_
      rintro e w2 ⟨rfl, M, hs, hp, hown2, hg2⟩
      have hb2 := HBw.out.grown hg2 hbs (fun g hg => by injection hg with hg; omega)
      have hml : M.length = k := by rw [hp.length_eq]; exact HK.out.symm
      have HCo := Lib.hid (Cmp.compactCall w2 w.heap.size w.heap.size k j M (by omega) hown2)
      have HE := Lib.hid (show Cmp.cmpT M k = sortM L by rw [← hml]; exact Cmp.cmpT_sort hs (by rw [← HV.out]; exact hp))
      clear HSo hown2 hg2 hs hp hml HBw
      go_wp2_with fail
      refine HCo.out.mono ?_
      rintro e w3 ⟨m, rfl, hm, hown3, hg3⟩
      have hb3 := hb2.grown hg3 hb2.size (fun g hg => by injection hg with hg; omega)
      rw [HE.out] at hm hown3
      have HO3 := Lib.hid hown3
      have HM := Lib.hid hm
      clear hown3 hm hg3 hb2 HCo
      go_wp2
      go_ret
      rw [← HM.out]
      refine ⟨_, _, rfl, ?_, HO3.out, hb3⟩
      rcases HO3.out.2 with ⟨h, _⟩ | ⟨g', cap', cur, h, hg, hh, h1, _⟩
      · cases h
      · injection h with _ _ hc
        subst hc; exact h1

set_option maxHeartbeats 1000000 in
theorem iSortDominoes (w : World) (A : Option Addr) (n cap B : Nat) (L : List Dm) (hL : L.length = n) (hn : (n : Int) ≤ 1048576) (hf : Fits L) (h : RowM w B A L) (hB : B ≤ w.heap.size) :
    Calls Try.prog 47 #[.slice A n cap] w (DmPost (sortM L) (sortM L).length w) := by
  have HO := Lib.hid (inOrder w A n cap B L hL hn hf h hB)
  generalize sortM L = S at HO ⊢
  clear hL hn hf h hB
  go_enter Try.func47, Try.ntmps47
  go_wp2_with fail
  refine HO.out.mono ?_
  rintro e w1 ⟨A1, cap1, rfl, hc, hown, hb⟩
  have H := Lib.hid hown
  clear hown HO
  go_wp2
  go_ret
  exact ⟨A1, cap1, rfl, hc, H.out, hb⟩
end Go.Proofs.Ytkjoonmnedofiaa.Til
