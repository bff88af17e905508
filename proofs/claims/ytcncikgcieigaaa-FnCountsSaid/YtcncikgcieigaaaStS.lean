/- The model's CountTilings, IsTileable, RectangleCount, CountPartials. -/
import Derived.Test.YtcncikgcieigaaaCtS
import Derived.Test.YtcncikgcieigaaaSct
import Derived.Test.YtcncikgcieigaaaCntT
namespace Go.Proofs.Ytcncikgcieigaaa.Prof
set_option linter.unusedVariables false
set_option linter.unusedSimpArgs false
open Go.RowKit Go.Proofs.Ytcncikgcieigaaa.Base Go.Proofs.Ytcncikgcieigaaa.Pure Go.Proofs.Ytcncikgcieigaaa.Cell Go.Proofs.Ytcncikgcieigaaa.Cels Go.Proofs.Ytcncikgcieigaaa.Reg Go.Proofs.Ytcncikgcieigaaa.Cnt Go.Joins

set_option maxRecDepth 100000 in
set_option maxHeartbeats 1000000 in
theorem sCountTilings (w : World) (A : Option Addr) (n cap B : Nat) (xs : List Int) (hx : xs.length = n) (hn : (n : Int) ≤ 9223372036854775807) (h : RowB w B A xs) (hB : B ≤ w.heap.size) :
    Calls Try.prog 19 #[.agg #[.slice A n cap]] w (Num (tilesR xs) w) := by
  have T0 := Lib.hid (fun (T : TypeId) => rb_start (T := T) (.slice A n cap) w)
  have HOk := Lib.hid (fun W (hb : RB w (.slice A n cap) W) => sRegionOk W A n cap B xs hx hn (h.below hb.1 hB) (by have := hb.2.1; omega))
  have HC := Lib.hid (fun W (ho : okR xs) (hb : RB w (.slice A n cap) W) => show Calls Try.prog 40 #[.agg #[.slice A n cap]] W (Num (tilesR xs) W) from by rw [tilesR_ok ho]; exact sCount W A n cap B xs hx ho (h.below hb.1 hB) (by have := hb.2.1; omega))
  by_cases ho : okR xs
  · rw [okRB_of ho] at HOk
    have HC1 := Lib.hid (fun W (hb : RB w (.slice A n cap) W) => HC.out W ho hb)
    generalize tilesR xs = t at HC1 ⊢
    clear hx hn h ho HC
    go_enter Try.func19, Try.ntmps19
    go_wp2_with fail
    refine (HOk.out _ (T0.out _)).mono ?_
    rintro e w1 ⟨rfl, hb1⟩
    have T1 := (T0.out 26).on hb1
    have c1 := T1.2.2
    clear T0 HOk hb1
    go_wp2_with fail
    refine (HC1.out _ T1).mono ?_
    rintro e w2 ⟨rfl, hb2⟩
    have T2 := T1.on hb2
    clear T1 c1 HC1 hb2
    go_wp2
    go_ret
    exact ⟨rfl, T2.1⟩
  · rw [okRB_not ho] at HOk
    have HE := Lib.hid (tilesR_not ho)
    clear hx hn h ho HC
    go_enter Try.func19, Try.ntmps19
    go_wp2_with fail
    refine (HOk.out _ (T0.out _)).mono ?_
    rintro e w1 ⟨rfl, hb1⟩
    have T1 := (T0.out 26).on hb1
    clear T0 HOk hb1
    go_wp2
    go_ret
    exact mkNum HE.out.symm T1.1

set_option maxRecDepth 100000 in
set_option maxHeartbeats 1000000 in
theorem sIsTileable (w : World) (A : Option Addr) (n cap B : Nat) (xs : List Int) (hx : xs.length = n) (hn : (n : Int) ≤ 9223372036854775807) (h : RowB w B A xs) (hB : B ≤ w.heap.size) :
    Calls Try.prog 26 #[.agg #[.slice A n cap]] w (Bol (decide (0 < tilesR xs)) w) := by
  have T0 := Lib.hid (fun (T : TypeId) => rb_start (T := T) (.slice A n cap) w)
  have HC := Lib.hid (fun W (hb : RB w (.slice A n cap) W) => sCountTilings W A n cap B xs hx hn (h.below hb.1 hB) (by have := hb.2.1; omega))
  clear hx hn h
  generalize tilesR xs = t at HC ⊢
  go_enter Try.func26, Try.ntmps26
  go_wp2_with fail
  refine (HC.out _ (T0.out _)).mono ?_
  rintro e w1 ⟨rfl, hb1⟩
  have T1 := (T0.out 26).on hb1
  clear T0 HC hb1
  go_wp2
  go_ret
  exact ⟨rfl, T1.1⟩

set_option maxRecDepth 100000 in
set_option maxHeartbeats 1000000 in
theorem sRectangleCount (w : World) (a b : Int) :
    Calls Try.prog 25 #[.int .i64 a, .int .i64 b] w (Num (rectT a b) w) := by
  have HA := Lib.hid (fun W => l01In a 1 8 W)
  have HB := Lib.hid (fun W => l01In b 1 8 W)
  have HR := Lib.hid (fun W => sRectangle W a b)
  by_cases ha : 1 ≤ a ∧ a ≤ 8
  · rw [inB_of ha] at HA
    by_cases hb : 1 ≤ b ∧ b ≤ 8
    · rw [inB_of hb] at HB
      have hin : 1 ≤ a ∧ a ≤ 8 ∧ 1 ≤ b ∧ b ≤ 8 := ⟨ha.1, ha.2, hb⟩
      have ho := rect_ok' hin
      have HE := Lib.hid ((rectT_in hin).trans (tilesR_ok ho))
      have HO := Lib.hid ho
      generalize rectT a b = T at HE ⊢
      generalize rectR a b = xs at HR HE HO
      clear ho hin ha hb
      go_enter Try.func25, Try.ntmps25
      go_wp2_with fail
      refine (HA.out _).mono ?_
      rintro e w1 ⟨rfl, rfl⟩
      go_wp2_with fail
      refine (HB.out _).mono ?_
      rintro e w2 ⟨rfl, rfl⟩
      go_wp2_with fail
      refine (HR.out _).mono ?_
      rintro e w3 ⟨A, cap, rfl, hown, hb3⟩
      have R3 := rowB_own hown
      have HC := Lib.hid (sCount w3 A xs.length cap w3.heap.size xs rfl HO.out R3 (Nat.le_refl _))
      clear hown R3
      generalize xs.length = n at HC ⊢
      go_wp2_with fail
      refine HC.out.mono ?_
      rintro e w4 ⟨rfl, hb4⟩
      have hbw := hb3.trans (hb4.mono hb3.size)
      clear hb3 hb4 HC
      go_wp2
      go_ret
      exact mkNum HE.out.symm hbw
    · rw [inB_not hb] at HB
      have HE := Lib.hid (rectT_out (a := a) (b := b) (fun q => hb q.2.2))
      clear ha hb HR
      go_enter Try.func25, Try.ntmps25
      go_wp2_with fail
      refine (HA.out _).mono ?_
      rintro e w1 ⟨rfl, rfl⟩
      go_wp2_with fail
      refine (HB.out _).mono ?_
      rintro e w2 ⟨rfl, rfl⟩
      go_wp2
      go_ret
      exact mkNum HE.out.symm (Below.refl _ _)
  · rw [inB_not ha] at HA
    have HE := Lib.hid (rectT_out (a := a) (b := b) (fun q => ha ⟨q.1, q.2.1⟩))
    clear ha HR HB
    go_enter Try.func25, Try.ntmps25
    go_wp2_with fail
    refine (HA.out _).mono ?_
    rintro e w1 ⟨rfl, rfl⟩
    go_wp2
    go_ret
    exact mkNum HE.out.symm (Below.refl _ _)

theorem boolInfo : (Try.prog.info? 4).map (fun i => (i.zero, i.size, i.bytes)) = some (some (.bool false), 1, 1) := by kernel_rfl
/-- marks just made. -/
theorem bks_made {W : World} {base b L : Nat} (h : W.ownsRow base 4 1 (.slice (some ⟨b, 0, none⟩) L L) L (madeCells (Value.bool false).cells (L * 1)).toList) : Bks W b L (fun _ => false) := by
  rw [show (Value.bool false).cells = #[.bool false] from rfl, Nat.mul_one, toList_madeCells_one] at h
  rcases h.2 with ⟨h', _⟩ | ⟨g', cap', cur, h', _, hg, hsz, hz2, hcs, htake⟩
  · simp at h'
  · simp only [Value.slice.injEq, Option.some.injEq, Addr.mk.injEq, and_true, true_and] at h'
    obtain ⟨rfl, rfl⟩ := h'
    refine ⟨cur, _, hg, by omega, fun i hi => ?_⟩
    have := h.cells (g := b) rfl i (.bool false) (by rw [List.getElem?_replicate]; simp [hi])
    rw [add_plain] at this
    unfold World.cell? at this
    simpa [hg] using this
theorem below_of_apart {B lo hi : Nat} {w w' : World} (h : Apart lo hi w w') (hB : B ≤ lo) (hw : lo ≤ w.heap.size) : Below B w w' :=
  ⟨h.os, h.tape, h.output, h.size, fun k hk => h.block k (by omega) (Or.inl (by omega))⟩
/-- the list of the cells, as the count of partial tilings reads it. -/
theorem cls_of {W : World} {base : Nat} {A1 : Option Addr} {M c1 : Nat} {xs : List Int} (ho : okR xs) (hM : M = (idxs xs).length) (h : W.ownsRow base 35 2 (.slice A1 M c1) M (rowC (cellsR xs))) (hz : 0 < W.heap.size) :
    ∃ cb, (0 < M → A1 = some ⟨cb, 0, none⟩) ∧ cb < W.heap.size ∧ ∀ W', Below W.heap.size W W' → CLs W' cb 0 M (plcN xs) := by
  by_cases h0 : M = 0
  · exact ⟨0, fun q => by omega, hz, fun W' _ i hi => by omega⟩
  · obtain ⟨nb, c', hv1, _, hlt⟩ := h.form (by omega)
    injection hv1 with hA2 hm2 hc2
    subst hA2
    refine ⟨nb, fun _ => rfl, hlt, fun W' hb i hi => ?_⟩
    obtain ⟨q1, q2⟩ := rowC_at _ _ _ ((cells_idx ho).2 i (by omega))
    have hz' := hb.size
    refine ⟨by omega, ?_, ?_⟩
    · rw [Nat.zero_add]; exact (hb.cell (by show nb < _; omega)).trans (own_at h q1)
    · rw [Nat.zero_add]; exact (hb.cell (by show nb < _; omega)).trans (own_at h q2)

set_option maxRecDepth 100000 in
set_option maxHeartbeats 4000000 in
theorem sCountPartials (w : World) (A : Option Addr) (n cap B : Nat) (xs : List Int) (hx : xs.length = n) (hn : (n : Int) ≤ 9223372036854775807) (h : RowB w B A xs) (hB : B ≤ w.heap.size) (m : Int) :
    Calls Try.prog 24 #[.agg #[.slice A n cap], .int .i64 m] w (Num (partT xs m) w) := by
  obtain ⟨i0, hi, hz0, hz1, hz2⟩ := info_parts boolInfo
  have T0 := Lib.hid (fun (T : TypeId) => rb_start (T := T) (.slice A n cap) w)
  have HC := Lib.hid (fun W (hb : RB w (.slice A n cap) W) => sCellsOf W A n cap B xs hx hn (h.below hb.1 hB) (by have := hb.2.1; omega))
  have HOk := Lib.hid (fun W (hb : RB w (.slice A n cap) W) => sRegionOk W A n cap B xs hx hn (h.below hb.1 hB) (by have := hb.2.1; omega))
  clear hx hn h hB
  by_cases ho : okR xs
  · rw [okRB_of ho] at HOk
    obtain ⟨M, hM⟩ : ∃ M, M = (idxs xs).length := ⟨_, rfl⟩
    have hlc : (cellsR xs).length = M := by rw [(cells_idx ho).1, hM]
    have hl64 : M ≤ 64 := by rw [hM]; exact idxs_len xs
    have HCl := Lib.hid (fun W base A1 c1 => cls_of (W := W) (base := base) (A1 := A1) (c1 := c1) ho hM)
    have HPl := Lib.hid (fun i (hi : i < M) => show plcN xs i < 64 from ((idxs_lists xs).mem i (by omega)).1)
    by_cases hin : M ≤ 16 ∧ 0 ≤ m ∧ m ≤ 8
    · obtain ⟨hl16, hm0, hm8⟩ := hin
      obtain ⟨e, rfl⟩ : ∃ e : Nat, m = (e : Int) := ⟨m.toNat, by omega⟩
      have HE := Lib.hid (show wrap64 (R (plcN xs) M M 0 e (fun _ => false) : Nat) = partT xs (e : Int) from by rw [hM, R_parts, partT_in ho (by omega)])
      have HV := Lib.hid hlc
      generalize cellsR xs = L at HC HCl HV
      generalize partT xs (e : Int) = T at HE ⊢
      generalize plcN xs = C at HCl HPl HE
      clear ho hM hlc
      go_enter Try.func24, Try.ntmps24
      go_wp2_with fail
      refine (HC.out _ (T0.out _)).mono ?_
      rintro e' w1 ⟨A1, c1, rfl, hown, hb1⟩
      have T1 := (T0.out 26).on hb1
      rw [HV.out] at hown ⊢
      obtain ⟨cb, hA1, hcb, hcl⟩ := HCl.out w1 _ A1 c1 hown (by have := T1.2.1; omega)
      have HA1 := Lib.hid hA1
      have HCs := Lib.hid hcl
      have hr1 := T1.2.2
      clear T0 HC hb1 hown hA1 hcl HCl HV
      go_wp2_with fail
      refine (HOk.out _ T1).mono ?_
      rintro e' w2 ⟨rfl, hb2⟩
      have T2 := Lib.hid (T1.on hb2)
      have HCs2 := Lib.hid (fun W' (hb : Below w2.heap.size w2 W') => HCs.out W' (hb2.trans (hb.mono hb2.size)))
      have hcb2 : cb < w2.heap.size := Nat.lt_of_lt_of_le hcb hb2.size
      clear T1 HOk hb2 HCs hr1 hcb
      have hMI : (M : Int) ≤ 16 := by omega
      go_wp2_with (first
        | (at_make; refine wpList_make_full _ rfl _ _ 71 rfl w2.heap.size 4 i0 (.bool false) 1 Try.underlying71 hi hz0 hz1 .i64 .i64 (M : Int) (M : Int) M rfl rfl rfl rfl (by rw [hz2]; omega) (by unfold maxLen; omega) (by omega) ?_; intro w3 hown3 hg3)
        | fail)
      have hb3 : Below w2.heap.size w2 w3 := (Below.refl _ _).grown hg3 (Nat.le_refl _) (by simp)
      have hbk := bks_made hown3
      have hP := sPartials C A1 (some ⟨w2.heap.size, 0, none⟩) M c1 M cb 0 w2.heap.size hl64 HPl.out HA1.out (fun _ => rfl) (by omega) M 0 e w3 (fun _ => false) (by omega) (by omega) hbk (HCs2.out w3 hb3)
      refine hP.mono ?_
      rintro e' w4 ⟨rfl, _, hap⟩
      have hlt := hbk.lt
      have hbw := T2.out.1.trans ((hb3.trans (below_of_apart hap (Nat.le_refl _) (by omega))).mono T2.out.1.size)
      have HBW := Lib.hid hbw
      clear hbw hap hlt hP hbk hb3 hown3 hg3 T2 HCs2
      go_wp2
      go_ret
      exact mkNum HE.out HBW.out
    · have HE := Lib.hid (show partT xs m = 0 from by
        by_cases q : M ≤ 16 ∧ 0 ≤ m
        · obtain ⟨e, rfl⟩ : ∃ e : Nat, m = (e : Int) := ⟨m.toNat, by omega⟩
          rw [partT_in ho (by omega), parts_many (by omega)]; unfold wrap64; omega
        · exact partT_out (fun r => q ⟨by omega, r.2.2⟩))
      have HV := Lib.hid hlc
      generalize cellsR xs = L at HC HV HCl
      generalize partT xs m = T at HE ⊢
      clear ho hM hlc HCl HPl
      go_enter Try.func24, Try.ntmps24
      go_wp2_with fail
      refine (HC.out _ (T0.out _)).mono ?_
      rintro e' w1 ⟨A1, c1, rfl, hown, hb1⟩
      have T1 := (T0.out 26).on hb1
      rw [HV.out]
      have hr1 := T1.2.2
      clear T0 HC hb1 hown HV
      go_wp2_with fail
      refine (HOk.out _ T1).mono ?_
      rintro e' w2 ⟨rfl, hb2⟩
      have T2 := Lib.hid (T1.on hb2)
      clear T1 HOk hb2 hr1
      by_cases h16 : (M : Int) ≤ 16
      · by_cases h0 : 0 ≤ m
        · have h8 : 8 < m := by omega
          clear hin
          go_wp2
          go_ret
          exact mkNum HE.out.symm T2.out.1
        · clear hin
          go_wp2
          go_ret
          exact mkNum HE.out.symm T2.out.1
      · clear hin
        go_wp2
        go_ret
        exact mkNum HE.out.symm T2.out.1
  · rw [okRB_not ho] at HOk
    have HE := Lib.hid (partT_out (xs := xs) (n := m) (fun q => ho q.1))
    rw [cellsR_not ho] at HC
    generalize partT xs m = T at HE ⊢
    clear ho
    go_enter Try.func24, Try.ntmps24
    go_wp2_with fail
    refine (HC.out _ (T0.out _)).mono ?_
    rintro e' w1 ⟨A1, c1, rfl, hown, hb1⟩
    have T1 := (T0.out 26).on hb1
    have hr1 := T1.2.2
    clear T0 HC hb1 hown
    go_wp2_with fail
    refine (HOk.out _ T1).mono ?_
    rintro e' w2 ⟨rfl, hb2⟩
    have T2 := Lib.hid (T1.on hb2)
    clear T1 HOk hb2 hr1
    go_wp2
    go_ret
    exact mkNum HE.out.symm T2.out.1
end Go.Proofs.Ytcncikgcieigaaa.Prof
