/- FnMatches: whatever region and partial list in it the code draws: the greatest list is partial, no list is longer, it cannot be extended, and it covers the region where a tiling is. -/
import Derived.Test.YtgkgdgchkhdgjaaMgDrw
import Derived.Test.YtgkgdgchkhdgjaaMgSct
import Derived.Test.YtgkgdgchkhdgjaaMgWay
import Derived.Test.YtgkgdgchkhdgjaaMgExI
import Derived.Test.YtgkgdgchkhdgjaaRegCn
namespace Go.Proofs.Ytgkgdgchkhdgjaa.Mat
set_option linter.unusedVariables false
set_option linter.unusedSimpArgs false
open Go.RowKit Go.Proofs.Ytgkgdgchkhdgjaa.Base Go.Proofs.Ytgkgdgchkhdgjaa.Pure Go.Proofs.Ytgkgdgchkhdgjaa.Cell Go.Proofs.Ytgkgdgchkhdgjaa.CellF Go.Proofs.Ytgkgdgchkhdgjaa.Cels Go.Proofs.Ytgkgdgchkhdgjaa.Dom Go.Proofs.Ytgkgdgchkhdgjaa.Dms Go.Proofs.Ytgkgdgchkhdgjaa.Til Go.Proofs.Ytgkgdgchkhdgjaa.Draw Go.Proofs.Ytgkgdgchkhdgjaa.KuL Go.Joins
open Go.Proofs.Ytgkgdgchkhdgjaa.Reg hiding Yes add_none RC rc_start
open Go.Proofs.Ytgkgdgchkhdgjaa.Grd (part_valid fits_ok)
open Go.Proofs.Ytgkgdgchkhdgjaa.Cnt (tilesR)

/-- what the law holds: the region's box and the region, the list, the greatest list. -/
def Qs (w : World) (q : Nat) (va : Value) (A1 : Option Addr) (xs : List Int) (Al As : Option Addr) (L M : List Dm) (W : World) : Prop :=
  Below w.heap.size w W ∧ Rg W q va ∧ RowB W W.heap.size A1 xs ∧ RowM W W.heap.size Al L ∧ RowM W W.heap.size As M
theorem Qs.on {w W W' : World} {q : Nat} {va : Value} {A1 Al As : Option Addr} {xs : List Int} {L M : List Dm} (h : Qs w q va A1 xs Al As L M W) (hb : Below W.heap.size W W') : Qs w q va A1 xs Al As L M W' :=
  ⟨h.1.trans (hb.mono h.1.size), h.2.1.on hb, (h.2.2.1.below hb (Nat.le_refl _)).mono hb.size, (h.2.2.2.1.below hb (Nat.le_refl _)).mono hb.size, (h.2.2.2.2.below hb (Nat.le_refl _)).mono hb.size⟩
theorem matchR_len (xs : List Int) (ho : okR xs) : (matchR xs).length ≤ 32 := by
  have h1 := unc_part (matchR_part ho)
  have h2 := cellsR_length xs
  omega
theorem til_bool {xs : List Int} (ho : okR xs) : (2 * ((matchR xs).length : Int) == ((cellsR xs).length : Int)) = decide (0 < tilesR xs) := by
  have h := matchR_til ho
  rw [Bool.eq_iff_iff, beq_iff_eq, decide_eq_true_iff, ← h]
  omega

set_option maxRecDepth 100000 in
set_option maxHeartbeats 40000000 in
theorem matches_law (A : Option Addr) (len cap : Nat) (zs : List Int) (w : World) (h0 : IsRow .u8 w A len cap zs) :
    Calls Try.prog 6 #[.slice A len cap] w fun e w' => e = .returned (.bool true) ∧ Below w.heap.size w w' := by
  have hlen := row_len h0
  by_cases hbig : (1048576 : Int) < (len : Int)
  · go_enter Try.func6, Try.ntmps6
    go_wp2_with fail
    refine (big w A len cap hlen).mono ?_
    rintro e w' ⟨rfl, rfl⟩
    go_wp2
    go_ret
    exact ⟨rfl, Below.refl _ _⟩
  · have HC := Lib.hid (coded_of_row h0 (by omega))
    clear h0
    go_enter Try.func6, Try.ntmps6
    go_wp2_with fail
    refine (big w A len cap hlen).mono ?_
    rintro e w' ⟨rfl, rfl⟩
    go_wp2_with fail
    refine (Grd.drawPartial w A len cap HC.out).mono ?_
    rintro e w1 ⟨xs, A1, n, c1, L, go, co, hok, hxn, hG, rfl, hO1, hO2, hb1⟩
    obtain ⟨m, hm⟩ : ∃ m, m = L.length := ⟨_, rfl⟩
    rw [← hm] at hO2 ⊢
    have hn8 : n ≤ 8 := by have := hok.out.1; have := hxn.out; omega
    obtain ⟨kG, hkG⟩ := hG.out
    have hP := hkG.part hok.out
    have hm32 := hkG.length hok.out
    rw [← hm] at hm32
    have HF := Lib.hid (fits_ok hkG.fits)
    have HMf := Lib.hid (fits_ok (part_valid (matchR_part hok.out)))
    have hmco : m ≤ co := by
      rcases hO2.2 with ⟨h, _⟩ | ⟨g', cap', cur, h, hg, hh, h1, _⟩
      · cases h
      · injection h with _ _ hc
        subst hc; omega
    have hle := partB_short hP
    have HTb := Lib.hid (til_bool hok.out)
    obtain ⟨M, hM⟩ : ∃ M, M = matchR xs := ⟨_, rfl⟩
    have hM32 := matchR_len xs hok.out
    have HI0 := Lib.hid (fun W (h1 : RowB W W.heap.size A1 xs) => iMatchRegion W A1 n c1 W.heap.size xs hxn.out (by omega) h1 (Nat.le_refl _))
    have HD0 := Lib.hid (fun W (h1 : RowB W W.heap.size A1 xs) => iMostDominoes W A1 n c1 W.heap.size xs hxn.out (by omega) h1 (Nat.le_refl _))
    have hPM := matchR_part hok.out
    have hEM := matchR_ext xs
    unfold mostR at HD0 hle
    unfold DmPost at HI0
    obtain ⟨mm, hmm⟩ : ∃ mm, mm = (matchR xs).length := ⟨_, rfl⟩
    have HP1 := Lib.hid (fun W (h1 : RowB W W.heap.size A1 xs) A' c' (h2 : RowM W W.heap.size A' M) (hc : mm ≤ c') => show Calls Try.prog 27 #[.agg #[.slice A1 n c1], .slice A' mm c'] W (Bol true W) from by
      rw [hM] at h2
      have := iIsPartial W A1 n c1 W.heap.size xs hxn.out (by omega) h1 (Nat.le_refl _) A' mm c' W.heap.size (matchR xs) hmm.symm (by omega) HMf.out h2 (Nat.le_refl _) hc
      rw [hPM] at this
      exact this)
    have HS1 := Lib.hid (fun W (h1 : RowB W W.heap.size A1 xs) A' c' (h2 : RowM W W.heap.size A' M) (hc : mm ≤ c') => show Calls Try.prog 28 #[.agg #[.slice A1 n c1], .slice A' mm c'] W (Bol true W) from by
      rw [hM] at h2
      have := iIsMostPartial W A1 n c1 W.heap.size xs hxn.out (by omega) h1 (Nat.le_refl _) A' mm c' W.heap.size (matchR xs) hmm.symm (by omega) HMf.out h2 (Nat.le_refl _) hc
      unfold mostR at this
      rw [hPM, decide_eq_true rfl] at this
      exact this)
    have HEx := Lib.hid (fun W (h1 : RowB W W.heap.size A1 xs) A' c' (h2 : RowM W W.heap.size A' M) (hc : mm ≤ c') => show Calls Try.prog 29 #[.agg #[.slice A1 n c1], .slice A' mm c'] W (Bol false W) from by
      rw [hM] at h2
      have := iCanExtend W A1 n c1 W.heap.size xs hxn.out (by omega) h1 (Nat.le_refl _) A' mm c' W.heap.size (matchR xs) hmm.symm (by omega) HMf.out h2 (Nat.le_refl _) hc
      rw [hEM] at this
      exact this)
    obtain ⟨q, hq⟩ : ∃ q, q = ((m : Int) == (mm : Int)) := ⟨_, rfl⟩
    have HS2 := Lib.hid (fun W (h1 : RowB W W.heap.size A1 xs) (h2 : RowM W W.heap.size (some ⟨go, 0, none⟩) L) => show Calls Try.prog 28 #[.agg #[.slice A1 n c1], .slice (some ⟨go, 0, none⟩) m co] W (Bol q W) from by
      have := iIsMostPartial W A1 n c1 W.heap.size xs hxn.out (by omega) h1 (Nat.le_refl _) (some ⟨go, 0, none⟩) m co W.heap.size L hm.symm (by omega) HF.out h2 (Nat.le_refl _) hmco
      unfold mostR at this
      rw [hP, ← hm, ← hmm, Bool.true_and] at this
      rw [hq, show ((m : Int) == (mm : Int)) = decide (m = mm) from by rw [Bool.eq_iff_iff]; simp; omega]
      exact this)
    have HCn := Lib.hid (fun W (h1 : RowB W W.heap.size A1 xs) => sCountCells W A1 n c1 W.heap.size xs hxn.out (by omega) h1 (Nat.le_refl _))
    have HTi := Lib.hid (fun W (h1 : RowB W W.heap.size A1 xs) => Prof.sCountTilings W A1 n c1 W.heap.size xs hxn.out (by omega) h1 (Nat.le_refl _))
    unfold countR at HCn
    have hcl := cellsR_length xs
    rw [← hm, ← hmm] at hle
    rw [← hmm] at hM32 HI0 HD0 HTb
    rw [← hM] at HI0
    generalize (cellsR xs).length = cN at HCn HTb hcl
    generalize tilesR xs = t at HTi HTb
    obtain ⟨p, hp⟩ : ∃ p, p = decide (0 < t) := ⟨_, rfl⟩
    rw [← hp] at HTb
    have hE1 : (IntKind.i64.wrap (2 * (mm : Int)) == (cN : Int)) = p := by rw [show IntKind.i64.wrap (2 * (mm : Int)) = 2 * (mm : Int) from by rw [IntKind.wrap_i64]; omega]; exact HTb.out
    have hE0 := HTb.out
    have hE2 := hp.symm
    have hE3 := hq.symm
    have hppp : (p == p) = true := by simp
    have hqqq : (q == q) = true := by simp
    have hmmm : ((mm : Int) == (mm : Int)) = true := by simp
    have hleI : (m : Int) ≤ (mm : Int) := by omega
    have hc64 : cN ≤ 64 := by omega
    have hB0 := rowB_own hO1
    have hM0 := rowM_own hO2
    have HBg := Lib.hid hbig
    clear hO1 hO2 hm hmm hM hkG hG hok hxn HF HMf hP hPM hEM HTb hp hq hbig HC hcl hle hlen hmco
    have HH := Lib.hid (⟨hE0, hE1, hE2, hE3, hppp, hqqq, hmmm, hleI⟩ : (2 * (mm : Int) == (cN : Int)) = p ∧ (IntKind.i64.wrap (2 * (mm : Int)) == (cN : Int)) = p ∧ decide (0 < t) = p ∧ ((m : Int) == (mm : Int)) = q ∧ (p == p) = true ∧ (q == q) = true ∧ ((mm : Int) == (mm : Int)) = true ∧ (m : Int) ≤ (mm : Int))
    clear hE0 hE1 hE2 hE3 hppp hqqq hmmm hleI
    go_upto_region 4 with fail
    have hb2 := below_alloc1 w1 (.cells #[.slice A1 n c1] 29)
    have hb02 := hb1.trans (hb2.mono hb1.size)
    have hRg := Rg.new w1 (.slice A1 n c1)
    have hB2 := (hB0.below hb2 (Nat.le_refl _)).mono hb2.size
    have hM2 := (hM0.below hb2 (Nat.le_refl _)).mono hb2.size
    clear hb1 hb2 hB0 hM0
    generalize w1.alloc (.cells #[.slice A1 n c1] 29) = W2 at hb02 hRg hB2 hM2 ⊢
    generalize w1.heap.size = q3 at hRg ⊢
    have c0 := hRg.c0
    go_wp2_with fail
    refine (HI0.out _ hB2).mono ?_
    rintro e w3 ⟨As, cs, rfl, hcs, hownS, hb3⟩
    have Q0 : Qs w q3 (.slice A1 n c1) A1 xs (some ⟨go, 0, none⟩) As L M w3 := ⟨hb02.trans (hb3.mono hb02.size), hRg.on hb3, (hB2.below hb3 (Nat.le_refl _)).mono hb3.size, (hM2.below hb3 (Nat.le_refl _)).mono hb3.size, rowM_own hownS⟩
    have HP1 := Lib.hid (fun W h1 h2 => HP1.out W h1 As cs h2 hcs)
    have HS1 := Lib.hid (fun W h1 h2 => HS1.out W h1 As cs h2 hcs)
    have HEx := Lib.hid (fun W h1 h2 => HEx.out W h1 As cs h2 hcs)
    clear hb02 hRg hB2 hM2 hb3 hownS HI0 c0 hcs
    have c0 := Q0.2.1.c0
    go_wp2_with fail
    refine (HD0.out _ Q0.2.2.1).mono ?_
    rintro e w4 ⟨rfl, hb4⟩
    have Q1 := Q0.on hb4
    clear Q0 hb4 c0 HD0
    obtain ⟨hE0, hE1, hE2, hE3, hppp, hqqq, hmmm, hleI⟩ := HH.out
    go_upto_region 6 with fail
    refine wp_region_noPanic ?_
    have Q2 := Q1.on (drewN_below (Below.refl _ w4) 1)
    refine wp_region_held_drew (S := (fun w' => w'.cell? ⟨q3, 0, none⟩ = some (.slice A1 n c1))) (by kernel_rfl) (Q2.2.1.c0) (fun hHeld => ?_)
    change Qs w q3 (.slice A1 n c1) A1 xs (some ⟨go, 0, none⟩) As L M w4.drew at Q2
    generalize w4.drew = WR at Q2 hHeld ⊢
    clear Q1
    refine wpAnyH_take (i := 0) (v := ?_) rfl (by as_aux_lemma => kernel_rfl) (by as_aux_lemma => kernel_rfl) (by as_aux_lemma => kernel_rfl) (fun _ _ _ h => h) (Or.inl ⟨by rfl, ?_⟩) (by assumption) ?_
    rotate_left
    · (intro w' hS; (try dsimp only at hS); go_simp; try with_reducible rfl)
    try simp only [Act.put, List.getElem_toArray, List.getElem_cons_succ, List.getElem_cons_zero, List.setIfInBounds_toArray, List.set_cons_zero, List.set_cons_succ]
    refine wpAnyH_take (i := 1) (v := ?_) rfl (by as_aux_lemma => kernel_rfl) (by as_aux_lemma => kernel_rfl) (by as_aux_lemma => kernel_rfl) (fun _ _ _ h => h) (Or.inl ⟨by rfl, ?_⟩) (by assumption) ?_
    rotate_left
    · (intro w' hS; (try dsimp only at hS); go_simp; try with_reducible rfl)
    try simp only [Act.put, List.getElem_toArray, List.getElem_cons_succ, List.getElem_cons_zero, List.setIfInBounds_toArray, List.set_cons_zero, List.set_cons_succ]
    refine wpAnyH_ready (rs := [2]) (by as_aux_lemma => kernel_rfl) (by simp) ?_
    refine AllReadyH.cons rfl (fun K hK => ?_) AllReadyH.nil
    go_simp
    refine (HP1.out _ Q2.2.2.1 Q2.2.2.2.2).mono ?_
    rintro e wx ⟨rfl, hb2⟩
    have Q3 := Q2.on hb2
    clear Q2 hb2
    go_wp2_with fail
    refine hK.out _ _ (Q3.2.1.c0) (fun hHeld => ?_)
    clear hK K
    try simp only [Act.put, List.getElem_toArray, List.getElem_cons_succ, List.getElem_cons_zero, List.setIfInBounds_toArray, List.set_cons_zero, List.set_cons_succ]
    refine wpAnyH_take (i := 3) (v := ?_) rfl (by as_aux_lemma => kernel_rfl) (by as_aux_lemma => kernel_rfl) (by as_aux_lemma => kernel_rfl) (fun _ _ _ h => h) (Or.inl ⟨by rfl, ?_⟩) (by assumption) ?_
    rotate_left
    · (intro w' hS; (try dsimp only at hS); go_simp; try with_reducible rfl)
    try simp only [Act.put, List.getElem_toArray, List.getElem_cons_succ, List.getElem_cons_zero, List.setIfInBounds_toArray, List.set_cons_zero, List.set_cons_succ]
    refine wpAnyH_take (i := 4) (v := ?_) rfl (by as_aux_lemma => kernel_rfl) (by as_aux_lemma => kernel_rfl) (by as_aux_lemma => kernel_rfl) (fun _ _ _ h => h) (Or.inl ⟨by rfl, ?_⟩) (by assumption) ?_
    rotate_left
    · (intro w' hS; (try dsimp only at hS); go_simp; try with_reducible rfl)
    try simp only [Act.put, List.getElem_toArray, List.getElem_cons_succ, List.getElem_cons_zero, List.setIfInBounds_toArray, List.set_cons_zero, List.set_cons_succ]
    refine wpAnyH_take (i := 5) (v := ?_) rfl (by as_aux_lemma => kernel_rfl) (by as_aux_lemma => kernel_rfl) (by as_aux_lemma => kernel_rfl) (fun _ _ _ h => h) (Or.inl ⟨by rfl, ?_⟩) (by assumption) ?_
    rotate_left
    · (intro w' hS; (try dsimp only at hS); go_simp; try with_reducible rfl)
    try simp only [Act.put, List.getElem_toArray, List.getElem_cons_succ, List.getElem_cons_zero, List.setIfInBounds_toArray, List.set_cons_zero, List.set_cons_succ]
    refine wpAnyH_take (i := 6) (v := ?_) rfl (by as_aux_lemma => kernel_rfl) (by as_aux_lemma => kernel_rfl) (by as_aux_lemma => kernel_rfl) (fun _ _ _ h => h) (Or.inl ⟨by rfl, ?_⟩) (by assumption) ?_
    rotate_left
    · (intro w' hS; (try dsimp only at hS); go_simp; try with_reducible rfl)
    try simp only [Act.put, List.getElem_toArray, List.getElem_cons_succ, List.getElem_cons_zero, List.setIfInBounds_toArray, List.set_cons_zero, List.set_cons_succ]
    refine wpAnyH_take (i := 7) (v := ?_) rfl (by as_aux_lemma => kernel_rfl) (by as_aux_lemma => kernel_rfl) (by as_aux_lemma => kernel_rfl) (fun _ _ _ h => h) (Or.inl ⟨by rfl, ?_⟩) (by assumption) ?_
    rotate_left
    · (intro w' hS; (try dsimp only at hS); go_simp; try with_reducible rfl)
    try simp only [Act.put, List.getElem_toArray, List.getElem_cons_succ, List.getElem_cons_zero, List.setIfInBounds_toArray, List.set_cons_zero, List.set_cons_succ]
    refine wpAnyH_take (i := 8) (v := ?_) rfl (by as_aux_lemma => kernel_rfl) (by as_aux_lemma => kernel_rfl) (by as_aux_lemma => kernel_rfl) (fun _ _ _ h => h) (Or.inl ⟨by rfl, ?_⟩) (by assumption) ?_
    rotate_left
    · (intro w' hS; (try dsimp only at hS); go_simp; try with_reducible rfl)
    try simp only [Act.put, List.getElem_toArray, List.getElem_cons_succ, List.getElem_cons_zero, List.setIfInBounds_toArray, List.set_cons_zero, List.set_cons_succ]
    refine wpAnyH_take (i := 9) (v := ?_) rfl (by as_aux_lemma => kernel_rfl) (by as_aux_lemma => kernel_rfl) (by as_aux_lemma => kernel_rfl) (fun _ _ _ h => h) (Or.inl ⟨by rfl, ?_⟩) (by assumption) ?_
    rotate_left
    · (intro w' hS; (try dsimp only at hS); go_simp; try with_reducible rfl)
    try simp only [Act.put, List.getElem_toArray, List.getElem_cons_succ, List.getElem_cons_zero, List.setIfInBounds_toArray, List.set_cons_zero, List.set_cons_succ]
    refine wpAnyH_take (i := 10) (v := ?_) rfl (by as_aux_lemma => kernel_rfl) (by as_aux_lemma => kernel_rfl) (by as_aux_lemma => kernel_rfl) (fun _ _ _ h => h) (Or.inl ⟨by rfl, ?_⟩) (by assumption) ?_
    rotate_left
    · (intro w' hS; (try dsimp only at hS); go_simp; try with_reducible rfl)
    try simp only [Act.put, List.getElem_toArray, List.getElem_cons_succ, List.getElem_cons_zero, List.setIfInBounds_toArray, List.set_cons_zero, List.set_cons_succ]
    refine wpAnyH_take (i := 11) (v := ?_) rfl (by as_aux_lemma => kernel_rfl) (by as_aux_lemma => kernel_rfl) (by as_aux_lemma => kernel_rfl) (fun _ _ _ h => h) (Or.inl ⟨by rfl, ?_⟩) (by assumption) ?_
    rotate_left
    · (intro w' hS; (try dsimp only at hS); go_simp; try with_reducible rfl)
    try simp only [Act.put, List.getElem_toArray, List.getElem_cons_succ, List.getElem_cons_zero, List.setIfInBounds_toArray, List.set_cons_zero, List.set_cons_succ]
    refine wpAnyH_ready (rs := [12]) (by as_aux_lemma => kernel_rfl) (by simp) ?_
    refine AllReadyH.cons rfl (fun K hK => ?_) AllReadyH.nil
    go_simp
    refine (HS1.out _ Q3.2.2.1 Q3.2.2.2.2).mono ?_
    rintro e wx ⟨rfl, hb3⟩
    have Q4 := Q3.on hb3
    clear Q3 hb3
    go_wp2_with fail
    refine hK.out _ _ (Q4.2.1.c0) (fun hHeld => ?_)
    clear hK K
    try simp only [Act.put, List.getElem_toArray, List.getElem_cons_succ, List.getElem_cons_zero, List.setIfInBounds_toArray, List.set_cons_zero, List.set_cons_succ]
    refine wpAnyH_take (i := 13) (v := ?_) rfl (by as_aux_lemma => kernel_rfl) (by as_aux_lemma => kernel_rfl) (by as_aux_lemma => kernel_rfl) (fun _ _ _ h => h) (Or.inl ⟨by rfl, ?_⟩) (by assumption) ?_
    rotate_left
    · (intro w' hS; (try dsimp only at hS); go_simp; try with_reducible rfl)
    try simp only [Act.put, List.getElem_toArray, List.getElem_cons_succ, List.getElem_cons_zero, List.setIfInBounds_toArray, List.set_cons_zero, List.set_cons_succ]
    refine wpAnyH_take (i := 14) (v := ?_) rfl (by as_aux_lemma => kernel_rfl) (by as_aux_lemma => kernel_rfl) (by as_aux_lemma => kernel_rfl) (fun _ _ _ h => h) (Or.inl ⟨by rfl, ?_⟩) (by assumption) ?_
    rotate_left
    · (intro w' hS; (try dsimp only at hS); go_simp; try with_reducible rfl)
    try simp only [Act.put, List.getElem_toArray, List.getElem_cons_succ, List.getElem_cons_zero, List.setIfInBounds_toArray, List.set_cons_zero, List.set_cons_succ]
    refine wpAnyH_take (i := 15) (v := ?_) rfl (by as_aux_lemma => kernel_rfl) (by as_aux_lemma => kernel_rfl) (by as_aux_lemma => kernel_rfl) (fun _ _ _ h => h) (Or.inl ⟨by rfl, ?_⟩) (by assumption) ?_
    rotate_left
    · (intro w' hS; (try dsimp only at hS); go_simp; try with_reducible rfl)
    try simp only [Act.put, List.getElem_toArray, List.getElem_cons_succ, List.getElem_cons_zero, List.setIfInBounds_toArray, List.set_cons_zero, List.set_cons_succ]
    refine wpAnyH_take (i := 16) (v := ?_) rfl (by as_aux_lemma => kernel_rfl) (by as_aux_lemma => kernel_rfl) (by as_aux_lemma => kernel_rfl) (fun _ _ _ h => h) (Or.inl ⟨by rfl, ?_⟩) (by assumption) ?_
    rotate_left
    · (intro w' hS; (try dsimp only at hS); go_simp; try with_reducible rfl)
    try simp only [Act.put, List.getElem_toArray, List.getElem_cons_succ, List.getElem_cons_zero, List.setIfInBounds_toArray, List.set_cons_zero, List.set_cons_succ]
    refine wpAnyH_take (i := 17) (v := ?_) rfl (by as_aux_lemma => kernel_rfl) (by as_aux_lemma => kernel_rfl) (by as_aux_lemma => kernel_rfl) (fun _ _ _ h => h) (Or.inl ⟨by rfl, ?_⟩) (by assumption) ?_
    rotate_left
    · (intro w' hS; (try dsimp only at hS); go_simp; try with_reducible rfl)
    try simp only [Act.put, List.getElem_toArray, List.getElem_cons_succ, List.getElem_cons_zero, List.setIfInBounds_toArray, List.set_cons_zero, List.set_cons_succ]
    refine wpAnyH_take (i := 18) (v := ?_) rfl (by as_aux_lemma => kernel_rfl) (by as_aux_lemma => kernel_rfl) (by as_aux_lemma => kernel_rfl) (fun _ _ _ h => h) (Or.inl ⟨by rfl, ?_⟩) (by assumption) ?_
    rotate_left
    · (intro w' hS; (try dsimp only at hS); go_simp; try with_reducible rfl)
    try simp only [Act.put, List.getElem_toArray, List.getElem_cons_succ, List.getElem_cons_zero, List.setIfInBounds_toArray, List.set_cons_zero, List.set_cons_succ]
    refine wpAnyH_take (i := 19) (v := ?_) rfl (by as_aux_lemma => kernel_rfl) (by as_aux_lemma => kernel_rfl) (by as_aux_lemma => kernel_rfl) (fun _ _ _ h => h) (Or.inl ⟨by rfl, ?_⟩) (by assumption) ?_
    rotate_left
    · (intro w' hS; (try dsimp only at hS); go_simp; try with_reducible rfl)
    try simp only [Act.put, List.getElem_toArray, List.getElem_cons_succ, List.getElem_cons_zero, List.setIfInBounds_toArray, List.set_cons_zero, List.set_cons_succ]
    refine wpAnyH_take (i := 20) (v := ?_) rfl (by as_aux_lemma => kernel_rfl) (by as_aux_lemma => kernel_rfl) (by as_aux_lemma => kernel_rfl) (fun _ _ _ h => h) (Or.inl ⟨by rfl, ?_⟩) (by assumption) ?_
    rotate_left
    · (intro w' hS; (try dsimp only at hS); go_simp; try with_reducible rfl)
    try simp only [Act.put, List.getElem_toArray, List.getElem_cons_succ, List.getElem_cons_zero, List.setIfInBounds_toArray, List.set_cons_zero, List.set_cons_succ]
    refine wpAnyH_take (i := 21) (v := ?_) rfl (by as_aux_lemma => kernel_rfl) (by as_aux_lemma => kernel_rfl) (by as_aux_lemma => kernel_rfl) (fun _ _ _ h => h) (Or.inl ⟨by rfl, ?_⟩) (by assumption) ?_
    rotate_left
    · (intro w' hS; (try dsimp only at hS); go_simp; try with_reducible rfl)
    try simp only [Act.put, List.getElem_toArray, List.getElem_cons_succ, List.getElem_cons_zero, List.setIfInBounds_toArray, List.set_cons_zero, List.set_cons_succ]
    refine wpAnyH_take (i := 22) (v := ?_) rfl (by as_aux_lemma => kernel_rfl) (by as_aux_lemma => kernel_rfl) (by as_aux_lemma => kernel_rfl) (fun _ _ _ h => h) (Or.inl ⟨by rfl, ?_⟩) (by assumption) ?_
    rotate_left
    · (intro w' hS; (try dsimp only at hS); go_simp; try with_reducible rfl)
    try simp only [Act.put, List.getElem_toArray, List.getElem_cons_succ, List.getElem_cons_zero, List.setIfInBounds_toArray, List.set_cons_zero, List.set_cons_succ]
    refine wpAnyH_ready (rs := [23]) (by as_aux_lemma => kernel_rfl) (by simp) ?_
    refine AllReadyH.cons rfl (fun K hK => ?_) AllReadyH.nil
    go_simp
    refine (HEx.out _ Q4.2.2.1 Q4.2.2.2.2).mono ?_
    rintro e wx ⟨rfl, hb4⟩
    have Q5 := Q4.on hb4
    clear Q4 hb4
    go_wp2_with fail
    refine hK.out _ _ (Q5.2.1.c0) (fun hHeld => ?_)
    clear hK K
    try simp only [Act.put, List.getElem_toArray, List.getElem_cons_succ, List.getElem_cons_zero, List.setIfInBounds_toArray, List.set_cons_zero, List.set_cons_succ]
    refine wpAnyH_take (i := 24) (v := ?_) rfl (by as_aux_lemma => kernel_rfl) (by as_aux_lemma => kernel_rfl) (by as_aux_lemma => kernel_rfl) (fun _ _ _ h => h) (Or.inl ⟨by rfl, ?_⟩) (by assumption) ?_
    rotate_left
    · (intro w' hS; (try dsimp only at hS); go_simp; try with_reducible rfl)
    try simp only [Act.put, List.getElem_toArray, List.getElem_cons_succ, List.getElem_cons_zero, List.setIfInBounds_toArray, List.set_cons_zero, List.set_cons_succ]
    refine wpAnyH_take (i := 25) (v := ?_) rfl (by as_aux_lemma => kernel_rfl) (by as_aux_lemma => kernel_rfl) (by as_aux_lemma => kernel_rfl) (fun _ _ _ h => h) (Or.inl ⟨by rfl, ?_⟩) (by assumption) ?_
    rotate_left
    · (intro w' hS; (try dsimp only at hS); go_simp; try with_reducible rfl)
    try simp only [Act.put, List.getElem_toArray, List.getElem_cons_succ, List.getElem_cons_zero, List.setIfInBounds_toArray, List.set_cons_zero, List.set_cons_succ]
    refine wpAnyH_take (i := 26) (v := ?_) rfl (by as_aux_lemma => kernel_rfl) (by as_aux_lemma => kernel_rfl) (by as_aux_lemma => kernel_rfl) (fun _ _ _ h => h) (Or.inl ⟨by rfl, ?_⟩) (by assumption) ?_
    rotate_left
    · (intro w' hS; (try dsimp only at hS); go_simp; try with_reducible rfl)
    try simp only [Act.put, List.getElem_toArray, List.getElem_cons_succ, List.getElem_cons_zero, List.setIfInBounds_toArray, List.set_cons_zero, List.set_cons_succ]
    refine wpAnyH_take (i := 27) (v := ?_) rfl (by as_aux_lemma => kernel_rfl) (by as_aux_lemma => kernel_rfl) (by as_aux_lemma => kernel_rfl) (fun _ _ _ h => h) (Or.inl ⟨by rfl, ?_⟩) (by assumption) ?_
    rotate_left
    · (intro w' hS; (try dsimp only at hS); go_simp; try with_reducible rfl)
    try simp only [Act.put, List.getElem_toArray, List.getElem_cons_succ, List.getElem_cons_zero, List.setIfInBounds_toArray, List.set_cons_zero, List.set_cons_succ]
    refine wpAnyH_take (i := 28) (v := ?_) rfl (by as_aux_lemma => kernel_rfl) (by as_aux_lemma => kernel_rfl) (by as_aux_lemma => kernel_rfl) (fun _ _ _ h => h) (Or.inl ⟨by rfl, ?_⟩) (by assumption) ?_
    rotate_left
    · (intro w' hS; (try dsimp only at hS); go_simp; try with_reducible rfl)
    try simp only [Act.put, List.getElem_toArray, List.getElem_cons_succ, List.getElem_cons_zero, List.setIfInBounds_toArray, List.set_cons_zero, List.set_cons_succ]
    refine wpAnyH_take (i := 29) (v := ?_) rfl (by as_aux_lemma => kernel_rfl) (by as_aux_lemma => kernel_rfl) (by as_aux_lemma => kernel_rfl) (fun _ _ _ h => h) (Or.inl ⟨by rfl, ?_⟩) (by assumption) ?_
    rotate_left
    · (intro w' hS; (try dsimp only at hS); go_simp; try with_reducible rfl)
    try simp only [Act.put, List.getElem_toArray, List.getElem_cons_succ, List.getElem_cons_zero, List.setIfInBounds_toArray, List.set_cons_zero, List.set_cons_succ]
    refine wpAnyH_take (i := 32) (v := ?_) rfl (by as_aux_lemma => kernel_rfl) (by as_aux_lemma => kernel_rfl) (by as_aux_lemma => kernel_rfl) (fun _ _ _ h => h) (Or.inl ⟨by rfl, ?_⟩) (by assumption) ?_
    rotate_left
    · (intro w' hS; (try dsimp only at hS); go_simp; try with_reducible rfl)
    try simp only [Act.put, List.getElem_toArray, List.getElem_cons_succ, List.getElem_cons_zero, List.setIfInBounds_toArray, List.set_cons_zero, List.set_cons_succ]
    refine wpAnyH_ready (rs := [30]) (by as_aux_lemma => kernel_rfl) (by simp) ?_
    refine AllReadyH.cons rfl (fun K hK => ?_) AllReadyH.nil
    go_simp
    refine (HCn.out _ Q5.2.2.1).mono ?_
    rintro e wx ⟨rfl, hb5⟩
    have Q6 := Q5.on hb5
    clear Q5 hb5
    go_wp2_with fail
    refine hK.out _ _ (Q6.2.1.c0) (fun hHeld => ?_)
    clear hK K
    try simp only [Act.put, List.getElem_toArray, List.getElem_cons_succ, List.getElem_cons_zero, List.setIfInBounds_toArray, List.set_cons_zero, List.set_cons_succ]
    refine wpAnyH_take (i := 31) (v := ?_) rfl (by as_aux_lemma => kernel_rfl) (by as_aux_lemma => kernel_rfl) (by as_aux_lemma => kernel_rfl) (fun _ _ _ h => h) (Or.inl ⟨by rfl, ?_⟩) (by assumption) ?_
    rotate_left
    · (intro w' hS; (try dsimp only at hS); go_simp; try with_reducible rfl)
    try simp only [Act.put, List.getElem_toArray, List.getElem_cons_succ, List.getElem_cons_zero, List.setIfInBounds_toArray, List.set_cons_zero, List.set_cons_succ]
    refine wpAnyH_ready (rs := [33]) (by as_aux_lemma => kernel_rfl) (by simp) ?_
    refine AllReadyH.cons rfl (fun K hK => ?_) AllReadyH.nil
    go_simp
    refine (HTi.out _ Q6.2.2.1).mono ?_
    rintro e wx ⟨rfl, hb6⟩
    have Q7 := Q6.on hb6
    clear Q6 hb6
    go_wp2_with fail
    refine hK.out _ _ (Q7.2.1.c0) (fun hHeld => ?_)
    clear hK K
    try simp only [Act.put, List.getElem_toArray, List.getElem_cons_succ, List.getElem_cons_zero, List.setIfInBounds_toArray, List.set_cons_zero, List.set_cons_succ]
    refine wpAnyH_take (i := 34) (v := ?_) rfl (by as_aux_lemma => kernel_rfl) (by as_aux_lemma => kernel_rfl) (by as_aux_lemma => kernel_rfl) (fun _ _ _ h => h) (Or.inl ⟨by rfl, ?_⟩) (by assumption) ?_
    rotate_left
    · (intro w' hS; (try dsimp only at hS); go_simp; try with_reducible rfl)
    try simp only [Act.put, List.getElem_toArray, List.getElem_cons_succ, List.getElem_cons_zero, List.setIfInBounds_toArray, List.set_cons_zero, List.set_cons_succ]
    refine wpAnyH_take (i := 35) (v := ?_) rfl (by as_aux_lemma => kernel_rfl) (by as_aux_lemma => kernel_rfl) (by as_aux_lemma => kernel_rfl) (fun _ _ _ h => h) (Or.inl ⟨by rfl, ?_⟩) (by assumption) ?_
    rotate_left
    · (intro w' hS; (try dsimp only at hS); go_simp; try with_reducible rfl)
    try simp only [Act.put, List.getElem_toArray, List.getElem_cons_succ, List.getElem_cons_zero, List.setIfInBounds_toArray, List.set_cons_zero, List.set_cons_succ]
    refine wpAnyH_take (i := 36) (v := ?_) rfl (by as_aux_lemma => kernel_rfl) (by as_aux_lemma => kernel_rfl) (by as_aux_lemma => kernel_rfl) (fun _ _ _ h => h) (Or.inl ⟨by rfl, ?_⟩) (by assumption) ?_
    rotate_left
    · (intro w' hS; (try dsimp only at hS); go_simp; try with_reducible rfl)
    try simp only [Act.put, List.getElem_toArray, List.getElem_cons_succ, List.getElem_cons_zero, List.setIfInBounds_toArray, List.set_cons_zero, List.set_cons_succ]
    refine wpAnyH_take (i := 37) (v := ?_) rfl (by as_aux_lemma => kernel_rfl) (by as_aux_lemma => kernel_rfl) (by as_aux_lemma => kernel_rfl) (fun _ _ _ h => h) (Or.inl ⟨by rfl, ?_⟩) (by assumption) ?_
    rotate_left
    · (intro w' hS; (try dsimp only at hS); go_simp; try with_reducible rfl)
    try simp only [Act.put, List.getElem_toArray, List.getElem_cons_succ, List.getElem_cons_zero, List.setIfInBounds_toArray, List.set_cons_zero, List.set_cons_succ]
    refine wpAnyH_take (i := 38) (v := ?_) rfl (by as_aux_lemma => kernel_rfl) (by as_aux_lemma => kernel_rfl) (by as_aux_lemma => kernel_rfl) (fun _ _ _ h => h) (Or.inl ⟨by rfl, ?_⟩) (by assumption) ?_
    rotate_left
    · (intro w' hS; (try dsimp only at hS); go_simp; try with_reducible rfl)
    try simp only [Act.put, List.getElem_toArray, List.getElem_cons_succ, List.getElem_cons_zero, List.setIfInBounds_toArray, List.set_cons_zero, List.set_cons_succ]
    refine wpAnyH_take (i := 39) (v := ?_) rfl (by as_aux_lemma => kernel_rfl) (by as_aux_lemma => kernel_rfl) (by as_aux_lemma => kernel_rfl) (fun _ _ _ h => h) (Or.inl ⟨by rfl, ?_⟩) (by assumption) ?_
    rotate_left
    · (intro w' hS; (try dsimp only at hS); go_simp; try with_reducible rfl)
    try simp only [Act.put, List.getElem_toArray, List.getElem_cons_succ, List.getElem_cons_zero, List.setIfInBounds_toArray, List.set_cons_zero, List.set_cons_succ]
    refine wpAnyH_take (i := 41) (v := ?_) rfl (by as_aux_lemma => kernel_rfl) (by as_aux_lemma => kernel_rfl) (by as_aux_lemma => kernel_rfl) (fun _ _ _ h => h) (Or.inl ⟨by rfl, ?_⟩) (by assumption) ?_
    rotate_left
    · (intro w' hS; (try dsimp only at hS); go_simp; try with_reducible rfl)
    try simp only [Act.put, List.getElem_toArray, List.getElem_cons_succ, List.getElem_cons_zero, List.setIfInBounds_toArray, List.set_cons_zero, List.set_cons_succ]
    refine wpAnyH_take (i := 42) (v := ?_) rfl (by as_aux_lemma => kernel_rfl) (by as_aux_lemma => kernel_rfl) (by as_aux_lemma => kernel_rfl) (fun _ _ _ h => h) (Or.inl ⟨by rfl, ?_⟩) (by assumption) ?_
    rotate_left
    · (intro w' hS; (try dsimp only at hS); go_simp; try with_reducible rfl)
    try simp only [Act.put, List.getElem_toArray, List.getElem_cons_succ, List.getElem_cons_zero, List.setIfInBounds_toArray, List.set_cons_zero, List.set_cons_succ]
    refine wpAnyH_take (i := 43) (v := ?_) rfl (by as_aux_lemma => kernel_rfl) (by as_aux_lemma => kernel_rfl) (by as_aux_lemma => kernel_rfl) (fun _ _ _ h => h) (Or.inl ⟨by rfl, ?_⟩) (by assumption) ?_
    rotate_left
    · (intro w' hS; (try dsimp only at hS); go_simp; try with_reducible rfl)
    try simp only [Act.put, List.getElem_toArray, List.getElem_cons_succ, List.getElem_cons_zero, List.setIfInBounds_toArray, List.set_cons_zero, List.set_cons_succ]
    refine wpAnyH_take (i := 44) (v := ?_) rfl (by as_aux_lemma => kernel_rfl) (by as_aux_lemma => kernel_rfl) (by as_aux_lemma => kernel_rfl) (fun _ _ _ h => h) (Or.inl ⟨by rfl, ?_⟩) (by assumption) ?_
    rotate_left
    · (intro w' hS; (try dsimp only at hS); go_simp; try with_reducible rfl)
    try simp only [Act.put, List.getElem_toArray, List.getElem_cons_succ, List.getElem_cons_zero, List.setIfInBounds_toArray, List.set_cons_zero, List.set_cons_succ]
    refine wpAnyH_ready (rs := [40]) (by as_aux_lemma => kernel_rfl) (by simp) ?_
    refine AllReadyH.cons rfl (fun K hK => ?_) AllReadyH.nil
    go_simp
    refine (HS2.out _ Q7.2.2.1 Q7.2.2.2.1).mono ?_
    rintro e wx ⟨rfl, hb7⟩
    have Q8 := Q7.on hb7
    clear Q7 hb7
    go_wp2_with fail
    refine hK.out _ _ (Q8.2.1.c0) (fun hHeld => ?_)
    clear hK K
    try simp only [Act.put, List.getElem_toArray, List.getElem_cons_succ, List.getElem_cons_zero, List.setIfInBounds_toArray, List.set_cons_zero, List.set_cons_succ]
    refine wpAnyH_take (i := 45) (v := ?_) rfl (by as_aux_lemma => kernel_rfl) (by as_aux_lemma => kernel_rfl) (by as_aux_lemma => kernel_rfl) (fun _ _ _ h => h) (Or.inl ⟨by rfl, ?_⟩) (by assumption) ?_
    rotate_left
    · (intro w' hS; (try dsimp only at hS); go_simp; try with_reducible rfl)
    try simp only [Act.put, List.getElem_toArray, List.getElem_cons_succ, List.getElem_cons_zero, List.setIfInBounds_toArray, List.set_cons_zero, List.set_cons_succ]
    refine wpAnyH_take (i := 46) (v := ?_) rfl (by as_aux_lemma => kernel_rfl) (by as_aux_lemma => kernel_rfl) (by as_aux_lemma => kernel_rfl) (fun _ _ _ h => h) (Or.inl ⟨by rfl, ?_⟩) (by assumption) ?_
    rotate_left
    · (intro w' hS; (try dsimp only at hS); go_simp; try with_reducible rfl)
    try simp only [Act.put, List.getElem_toArray, List.getElem_cons_succ, List.getElem_cons_zero, List.setIfInBounds_toArray, List.set_cons_zero, List.set_cons_succ]
    refine wpAnyH_take (i := 47) (v := ?_) rfl (by as_aux_lemma => kernel_rfl) (by as_aux_lemma => kernel_rfl) (by as_aux_lemma => kernel_rfl) (fun _ _ _ h => h) (Or.inl ⟨by rfl, ?_⟩) (by assumption) ?_
    rotate_left
    · (intro w' hS; (try dsimp only at hS); go_simp; try with_reducible rfl)
    try simp only [Act.put, List.getElem_toArray, List.getElem_cons_succ, List.getElem_cons_zero, List.setIfInBounds_toArray, List.set_cons_zero, List.set_cons_succ]
    refine wpAnyH_done (by kernel_rfl) ?_ _
    refine NoPanic.normal ?_
    clear hHeld
    have hb := Q8.1
    clear Q8
    go_wp2
    go_ret
    exact ⟨rfl, hb⟩
end Go.Proofs.Ytgkgdgchkhdgjaa.Mat
