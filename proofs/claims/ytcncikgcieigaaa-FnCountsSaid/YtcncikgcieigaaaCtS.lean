/- The program's IsTileable, RectangleCount, CountPartials. -/
import Derived.Test.YtcncikgcieigaaaCtI
import Derived.Test.YtcncikgcieigaaaRegRc
namespace Go.Proofs.Ytcncikgcieigaaa.Prof
set_option linter.unusedVariables false
set_option linter.unusedSimpArgs false
open Go.RowKit Go.Proofs.Ytcncikgcieigaaa.Base Go.Proofs.Ytcncikgcieigaaa.Pure Go.Proofs.Ytcncikgcieigaaa.Cell Go.Proofs.Ytcncikgcieigaaa.Cels Go.Proofs.Ytcncikgcieigaaa.Reg Go.Proofs.Ytcncikgcieigaaa.Cnt Go.Joins

set_option maxRecDepth 100000 in
set_option maxHeartbeats 1000000 in
theorem iIsTileable (w : World) (A : Option Addr) (n cap B : Nat) (xs : List Int) (hx : xs.length = n) (hn : (n : Int) ≤ 9223372036854775807) (h : RowB w B A xs) (hB : B ≤ w.heap.size) :
    Calls Try.prog 14 #[.agg #[.slice A n cap]] w (Bol (decide (0 < tilesR xs)) w) := by
  have T0 := Lib.hid (fun (T : TypeId) => rb_start (T := T) (.slice A n cap) w)
  have HC := Lib.hid (fun W (hb : RB w (.slice A n cap) W) => iCountTilings W A n cap B xs hx hn (h.below hb.1 hB) (by have := hb.2.1; omega))
  clear hx hn h
  generalize tilesR xs = t at HC ⊢
  go_enter Try.func14, Try.ntmps14
  go_wp2_with fail
  refine (HC.out _ (T0.out _)).mono ?_
  rintro e w1 ⟨rfl, hb1⟩
  have T1 := (T0.out 26).on hb1
  clear T0 HC hb1
  go_wp2
  go_ret
  exact ⟨rfl, T1.1⟩
/-- the tilings of a rectangle. -/
def rectT (a b : Int) : Int := if 1 ≤ a ∧ a ≤ 8 ∧ 1 ≤ b ∧ b ≤ 8 then tilesR (rectR a b) else 0
theorem rectT_in {a b : Int} (h : 1 ≤ a ∧ a ≤ 8 ∧ 1 ≤ b ∧ b ≤ 8) : rectT a b = tilesR (rectR a b) := if_pos h
theorem rectT_out {a b : Int} (h : ¬ (1 ≤ a ∧ a ≤ 8 ∧ 1 ≤ b ∧ b ≤ 8)) : rectT a b = 0 := if_neg h
theorem rect_ok' {a b : Int} (h : 1 ≤ a ∧ a ≤ 8 ∧ 1 ≤ b ∧ b ≤ 8) : okR (rectR a b) := by
  have := rect_ok (a := a.toNat) (b := b.toNat) (by omega) (by omega)
  rwa [Int.toNat_of_nonneg (by omega), Int.toNat_of_nonneg (by omega)] at this
theorem rect_len {a b : Int} : (rectR a b).length ≤ 8 := by
  unfold rectR
  split
  · rw [List.length_replicate]; omega
  · simp
theorem rect_count {a b : Int} : (countR (rectR a b) = 0) ↔ ¬ (1 ≤ a ∧ a ≤ 8 ∧ 1 ≤ b ∧ b ≤ 8) := by
  by_cases h : 1 ≤ a ∧ a ≤ 8 ∧ 1 ≤ b ∧ b ≤ 8
  · have hg : gR (rectR a b) 0 = true := by
      have := rect_gq (a := a.toNat) (b := b.toNat) (by omega) (by omega)
      rw [Int.toNat_of_nonneg (by omega), Int.toNat_of_nonneg (by omega)] at this
      rw [this]; unfold gq
      simp; omega
    obtain ⟨i, hi, _⟩ := (idxs_lists (rectR a b)).all 0 (by omega) hg
    unfold countR
    rw [(cells_idx (rect_ok' h)).1]
    constructor
    · intro h0; omega
    · intro h0; exact absurd h h0
  · have : rectR a b = [] := by unfold rectR; rw [if_neg h]
    rw [this]
    constructor
    · intro _; exact h
    · intro _; rfl

set_option maxRecDepth 100000 in
set_option maxHeartbeats 1000000 in
theorem iRectangleCount (w : World) (a b : Int) :
    Calls Try.prog 15 #[.int .i64 a, .int .i64 b] w (Num (rectT a b) w) := by
  have HR := Lib.hid (iRectangle w a b)
  have hl := rect_len (a := a) (b := b)
  have HC0 := Lib.hid (rect_count (a := a) (b := b))
  have HI := Lib.hid (rectT_in (a := a) (b := b))
  have HO := Lib.hid (rectT_out (a := a) (b := b))
  generalize rectT a b = T at HI HO ⊢
  generalize rectR a b = xs at HR HC0 hl HI
  go_enter Try.func15, Try.ntmps15
  go_wp2_with fail
  refine HR.out.mono ?_
  rintro e w1 ⟨A, cap, rfl, hown, hb1⟩
  obtain ⟨n, hnx⟩ : ∃ n, n = xs.length := ⟨_, rfl⟩
  rw [← hnx] at hown hl ⊢
  have HN := Lib.hid hnx.symm
  clear hnx
  go_upto_region 2 with fail
  have hba := below_alloc1 w1 (.cells #[.slice A n cap] 26)
  have hbl := heap_alloc_new w1 (.cells #[.slice A n cap] 26)
  have R2 : RowB (w1.alloc (.cells #[.slice A n cap] 26)) (w1.alloc (.cells #[.slice A n cap] 26)).heap.size A xs := (rowB_own (own_below hown hba (Nat.le_refl _)))
  have hb2 := hb1.trans (hba.mono hb1.size)
  generalize w1.alloc (.cells #[.slice A n cap] 26) = W2 at hbl R2 hb2 ⊢
  generalize w1.heap.size = p at hbl ⊢
  have c0 := (cellAt hbl 0).1.trans (show _ = some (Value.slice A n cap) from rfl)
  have hnI : (n : Int) ≤ 9223372036854775807 := by omega
  clear hba hb1 hown HR
  go_wp2_with fail
  refine (iCountCells W2 A n cap W2.heap.size xs HN.out hnI R2 (Nat.le_refl _)).mono ?_
  rintro e w3 ⟨rfl, hb3⟩
  have hbl3 := (hb3.block p (Array.getElem?_eq_some_iff.1 hbl).1).trans hbl
  have c3 := (cellAt hbl3 0).1.trans (show _ = some (Value.slice A n cap) from rfl)
  have R3 := (R2.below hb3 (Nat.le_refl _))
  have hbw := hb2.trans (hb3.mono hb2.size)
  have hsz := hb3.size
  clear hbl c0 hbl3
  by_cases h0 : countR xs = 0
  · have HE := Lib.hid (HO.out (HC0.out.1 h0))
    rw [h0]
    go_wp2
    go_ret
    exact mkNum HE.out.symm hbw
  · have hin : 1 ≤ a ∧ a ≤ 8 ∧ 1 ≤ b ∧ b ≤ 8 := Classical.byContradiction (fun q => h0 (HC0.out.2 q))
    have HE := Lib.hid (HI.out hin)
    generalize countR xs = c at h0 ⊢
    go_wp2_with fail
    refine (iCountTilings w3 A n cap W2.heap.size xs HN.out hnI R3 hsz).mono ?_
    rintro e w4 ⟨rfl, hb4⟩
    have hbw4 := hbw.trans (hb4.mono hbw.size)
    clear hb4
    go_wp2
    go_ret
    exact mkNum HE.out.symm hbw4
/-- the lists of n dominoes that CountPartials answers. -/
def partT (xs : List Int) (n : Int) : Int := if okR xs ∧ (idxs xs).length ≤ 16 ∧ 0 ≤ n then wrap64 (partsN xs n.toNat : Int) else 0
theorem partT_in {xs : List Int} {n : Nat} (ho : okR xs) (hl : (idxs xs).length ≤ 16) : partT xs (n : Int) = wrap64 (partsN xs n : Int) := by
  unfold partT; rw [if_pos ⟨ho, hl, by omega⟩, Int.toNat_natCast]
theorem partT_out {xs : List Int} {n : Int} (h : ¬ (okR xs ∧ (idxs xs).length ≤ 16 ∧ 0 ≤ n)) : partT xs n = 0 := if_neg h
theorem part_at (xs : List Int) (hl : (idxs xs).length ≤ 16) (e : Nat) : (if e < 65 then wrap64 (V (gR xs) true e 64 0 0 0 : Int) else 0) = wrap64 (partsN xs e : Int) := by
  by_cases h : e < 65
  · rw [if_pos h, V_parts (gR_out xs)]; rfl
  · rw [if_neg h, parts_many (by omega)]; unfold wrap64; omega

set_option maxRecDepth 100000 in
set_option maxHeartbeats 2000000 in
theorem iCountPartials (w : World) (A : Option Addr) (n cap B : Nat) (xs : List Int) (hx : xs.length = n) (hn : (n : Int) ≤ 9223372036854775807) (h : RowB w B A xs) (hB : B ≤ w.heap.size) (m : Int) (hm : (Lit.int .i64 m).wf = true) :
    Calls Try.prog 17 #[.agg #[.slice A n cap], .int .i64 m] w (Num (partT xs m) w) := by
  have T0 := Lib.hid (fun (T : TypeId) => rb_start (T := T) (.slice A n cap) w)
  have HOk := Lib.hid (fun W (hb : RB w (.slice A n cap) W) => iRegionOk W A n cap B xs hx hn (h.below hb.1 hB) (by have := hb.2.1; omega))
  have HCt := Lib.hid (fun W (hb : RB w (.slice A n cap) W) => iCountCells W A n cap B xs hx hn (h.below hb.1 hB) (by have := hb.2.1; omega))
  have HCl := Lib.hid (fun W (ho : okR xs) (hb : RB w (.slice A n cap) W) => iCountLists W A n cap B xs hx hn ho (h.below hb.1 hB) (by have := hb.2.1; omega) true)
  by_cases ho : okR xs
  · rw [okRB_of ho] at HOk
    have hcn : countR xs = ((idxs xs).length : Int) := by unfold countR; rw [(cells_idx ho).1]
    rw [hcn] at HCt
    have HCL := Lib.hid (fun W (hb : RB w (.slice A n cap) W) => HCl.out W ho hb)
    by_cases hin : (idxs xs).length ≤ 16 ∧ 0 ≤ m
    · obtain ⟨hl, hm0⟩ := hin
      obtain ⟨e, rfl⟩ : ∃ e : Nat, m = (e : Int) := ⟨m.toNat, by omega⟩
      have HE := Lib.hid ((part_at xs hl e).trans (partT_in ho hl).symm)
      have HLk := Lib.hid (fun W m Da (hO : Own W m Da) (hC : CL xs true Da) => last_at hO hC e hm)
      have hl' : ((idxs xs).length : Int) ≤ 16 := by omega
      generalize ((idxs xs).length : Int) = M at HCt hl'
      generalize partT xs (e : Int) = T at HE ⊢
      generalize (if e < 65 then wrap64 (V (gR xs) true e 64 0 0 0 : Int) else 0) = T' at HE HLk
      clear hx hn h hB HCl ho hcn hm
      go_enter Try.func17, Try.ntmps17
      go_wp2_with fail
      refine (HOk.out _ (T0.out _)).mono ?_
      rintro e' w1 ⟨rfl, hb1⟩
      have T1 := (T0.out 26).on hb1
      have c1 := T1.2.2
      clear T0 HOk hb1
      go_wp2_with fail
      refine (HCt.out _ T1).mono ?_
      rintro e' w2 ⟨rfl, hb2⟩
      have T2 := T1.on hb2
      have c2 := T2.2.2
      clear T1 c1 HCt hb2
      go_wp2_with fail
      refine (HCL.out _ T2).mono ?_
      rintro e' w3 ⟨m', Da, rfl, O3, C3, hb3⟩
      have T3 := T2.on hb3
      have hl1 := HLk.out _ _ _ O3 C3
      have HT := HE.out
      clear T2 c2 hb3 HCL HLk HE O3 C3
      go_wp2
      go_ret
      exact mkNum (by first | rfl | exact HT) T3.1
    · have HE := Lib.hid (partT_out (xs := xs) (n := m) (fun q => hin q.2))
      have hin' : ¬ (((idxs xs).length : Int) ≤ 16 ∧ 0 ≤ m) := fun q => hin ⟨by omega, q.2⟩
      generalize ((idxs xs).length : Int) = M at HCt hin'
      generalize partT xs m = T at HE ⊢
      clear hx hn h hB HCl ho hcn hm hin HCL
      go_enter Try.func17, Try.ntmps17
      go_wp2_with fail
      refine (HOk.out _ (T0.out _)).mono ?_
      rintro e' w1 ⟨rfl, hb1⟩
      have T1 := (T0.out 26).on hb1
      have c1 := T1.2.2
      clear T0 HOk hb1
      go_wp2_with fail
      refine (HCt.out _ T1).mono ?_
      rintro e' w2 ⟨rfl, hb2⟩
      have T2 := T1.on hb2
      clear T1 c1 HCt hb2
      by_cases h16 : M ≤ 16
      · have hm0 : m < 0 := by omega
        clear hin'
        go_wp2
        go_ret
        exact mkNum HE.out.symm T2.1
      · clear hin'
        go_wp2
        go_ret
        exact mkNum HE.out.symm T2.1
  · rw [okRB_not ho] at HOk
    have HE := Lib.hid (partT_out (xs := xs) (n := m) (fun q => ho q.1))
    clear hx hn h hB HCl HCt ho hm
    go_enter Try.func17, Try.ntmps17
    go_wp2_with fail
    refine (HOk.out _ (T0.out _)).mono ?_
    rintro e w1 ⟨rfl, hb1⟩
    have T1 := (T0.out 26).on hb1
    clear T0 HOk hb1
    go_wp2
    go_ret
    exact mkNum HE.out.symm T1.1
end Go.Proofs.Ytcncikgcieigaaa.Prof
