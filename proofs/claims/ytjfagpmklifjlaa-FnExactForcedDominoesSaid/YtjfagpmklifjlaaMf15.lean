/- CtI, CtS in one text. -/
import Derived.Test.YtjfagpmklifjlaaMf14
import Derived.Test.YtjfagpmklifjlaaMf07
import Derived.Test.YtjfagpmklifjlaaMf00
import Derived.Deep.RegionHeld3
import Derived.Deep.DeepAppendRoom
import Derived.Deep.RegionLaw
import Derived.BigRegion

namespace Go.Proofs.Ytjfagpmklifjlaa.Prof
set_option linter.unusedVariables false
set_option maxRecDepth 100000
set_option linter.unusedSimpArgs false
open Go.RowKit Go.Proofs.Ytjfagpmklifjlaa.Pure Go.Proofs.Ytjfagpmklifjlaa.Cell Go.Proofs.Ytjfagpmklifjlaa.Reg Go.Proofs.Ytjfagpmklifjlaa.Cnt Go.Joins
open Go.Maps (Keyed)

theorem wf_wrap {c : Int} (h : (Lit.int .i64 c).wf = true) : wrap64 c = c := by
 have h := bounds_i64 h
 unfold wrap64; omega
theorem last_at {w : World} {m : Nat} {Da : DataW Unit} {xs : List Int} {fr : Bool} (ho : Own w m Da) (h : CL xs fr Da) (e : Nat) (he : (Lit.int .i64 (e : Int)).wf = true) :
  (Instr.lookup 93 (.map (some m)) (.agg #[.int .i64 0, .int .i64 (e : Int)]) false).run Try.prog w = .ok (.int .i64 (if e < 65 then wrap64 (V (gR xs) fr e 64 0 0 0 : Int) else 0)) w := by
 have hk := key2 (a := 0) (b := (e : Int)) (by decide) he
 obtain ⟨st, w1, hwf, hl, _⟩ := own_raise ho hk
 rw [hl]
 congr 2
 by_cases q : e < 65
 ·rw [if_pos q]
  have hi : k2 0 (e : Int) = kI (256 * e) := by
   unfold kI
   rw [show 256 * e % 256 = 0 by omega, show 256 * e / 256 = e by omega]; rfl
  rw [hi] at hwf ⊢
  have := (h.2 e q).wrap
  rw [← this]
  exact (wf_wrap hwf).symm
 ·rw [if_neg q]
  congr 1
  refine at2_not ?_
  cases hh : Maps.has Da (k2 0 (e : Int)) with
  | false => rfl
  | true =>
   obtain ⟨i, hi, ei, _⟩ := h.1 _ hh
   obtain ⟨_, h2⟩ := k2_inj (by decide) he (wf_nat (by omega)) (wf_nat (by omega)) ei
   omega
theorem tiles_half {xs : List Int} (ho : okR xs) : (if (idxs xs).length / 2 < 65 then wrap64 (V (gR xs) false ((idxs xs).length / 2) 64 0 0 0 : Int) else 0) = tilesR xs := by
 have hl := idxs_len xs
 rw [if_pos (by omega), tilesR_ok ho, V_tiles (gR_out xs), idxs_cnt]
 by_cases q : (idxs xs).length = 2 * ((idxs xs).length / 2)
 ·rw [if_pos q]
 ·rw [if_neg q]
  have : tiles (gR xs) = 0 := by
   cases h : tiles (gR xs) with
   | zero => rfl
   | succ t => have := tiles_even (xs := xs) (by omega); omega
  rw [this]

set_option maxRecDepth 100000 in
set_option maxHeartbeats 4000000 in
theorem iCountTilings (w : World) (A : Option Addr) (n cap B : Nat) (xs : List Int) (hx : xs.length = n) (hn : (n : Int) ≤ 9223372036854775807) (h : RowB w B A xs) (hB : B ≤ w.heap.size) :
  Calls Try.prog 42 #[.agg #[.slice A n cap]] w (Num (tilesR xs) w) := by
 have T0 := Lib.hid (fun (T : TypeId) => rb_start (T := T) (.slice A n cap) w)
 have HOk := Lib.hid (fun W (hb : RB w (.slice A n cap) W) => iRegionOk W A n cap B xs hx hn (h.below hb.1 hB) (by have := hb.2.1; omega))
 have HCt := Lib.hid (fun W (hb : RB w (.slice A n cap) W) => iCountCells W A n cap B xs hx hn (h.below hb.1 hB) (by have := hb.2.1; omega))
 have HCl := Lib.hid (fun W (ho : okR xs) (hb : RB w (.slice A n cap) W) => iCountLists W A n cap B xs hx hn ho (h.below hb.1 hB) (by have := hb.2.1; omega) false)
 by_cases ho : okR xs
 ·rw [okRB_of ho] at HOk
  have HE := Lib.hid (tiles_half ho)
  have hl := idxs_len xs
  have hcn : countR xs = ((idxs xs).length : Int) := by unfold countR; rw [(cells_idx ho).1]
  rw [hcn] at HCt
  obtain ⟨e2, he2⟩ : ∃ e2, e2 = (idxs xs).length / 2 := ⟨_, rfl⟩
  rw [← he2] at HE
  have HLk := Lib.hid (fun W m Da (hO : Own W m Da) (hC : CL xs false Da) => last_at hO hC e2 (wf_nat (by omega)))
  have HW := Lib.hid (show IntKind.i64.wrap (((idxs xs).length : Int) / 2) = (e2 : Int) from by rw [wrap_is]; unfold wrap64; omega)
  clear he2
  have HCL := Lib.hid (fun W (hb : RB w (.slice A n cap) W) => HCl.out W ho hb)
  generalize (idxs xs).length = M at HCt HW hl
  generalize hT : tilesR xs = T at HE ⊢
  generalize (if e2 < 65 then wrap64 (V (gR xs) false e2 64 0 0 0 : Int) else 0) = T' at HE HLk
  clear hx hn h hB HCl ho hcn hT
  go_enter Try.func42, Try.ntmps42
  go_wp2_with fail
  refine (HOk.out _ (T0.out _)).mono ?_
  rintro e w1 ⟨rfl, hb1⟩
  have T1 := (T0.out 26).on hb1
  clear T0 HOk hb1
  go_wp2_with fail
  refine wp_region_noPanic ?_
  have T2 := T1.drew
  refine wp_region_held_drew (S := (fun w' => w'.cell? ⟨w.heap.size, 0, none⟩ = some (.slice A n cap))) (by kernel_rfl) (T2.2.2) (fun hHeld => ?_)
  generalize World.drew _ = WR at T2 hHeld ⊢
  clear T1
  refine wpAnyH_take (i := 0) (v := ?_) rfl (by kernel_rfl) (by kernel_rfl) (by kernel_rfl) (fun _ _ _ h => h) (Or.inl ⟨by rfl, ?_⟩) (by assumption) ?_
  rotate_left
  ·(intro w' hS; (try dsimp only at hS); go_simp; try with_reducible rfl)
  try simp only [Act.put, List.getElem_toArray, List.getElem_cons_succ, List.getElem_cons_zero, List.setIfInBounds_toArray, List.set_cons_zero, List.set_cons_succ]
  refine wpAnyH_take (i := 2) (v := ?_) rfl (by kernel_rfl) (by kernel_rfl) (by kernel_rfl) (fun _ _ _ h => h) (Or.inl ⟨by rfl, ?_⟩) (by assumption) ?_
  rotate_left
  ·(intro w' hS; (try dsimp only at hS); go_simp; try with_reducible rfl)
  try simp only [Act.put, List.getElem_toArray, List.getElem_cons_succ, List.getElem_cons_zero, List.setIfInBounds_toArray, List.set_cons_zero, List.set_cons_succ]
  refine wpAnyH_ready (rs := [1]) (by kernel_rfl) (by simp) ?_
  refine AllReadyH.cons rfl (fun K hK => ?_) AllReadyH.nil
  go_simp
  refine (HCL.out _ T2).mono ?_
  rintro e wx ⟨m, Da, rfl, O2, C2, hbx⟩
  have T2 := T2.on hbx
  clear hbx
  go_wp2_with fail
  refine hK.out _ _ (T2.2.2) (fun hHeld => ?_)
  clear hK K
  try simp only [Act.put, List.getElem_toArray, List.getElem_cons_succ, List.getElem_cons_zero, List.setIfInBounds_toArray, List.set_cons_zero, List.set_cons_succ]
  refine wpAnyH_ready (rs := [3]) (by kernel_rfl) (by simp) ?_
  refine AllReadyH.cons rfl (fun K hK => ?_) AllReadyH.nil
  go_simp
  refine (HCt.out _ T2).mono ?_
  rintro e wx ⟨rfl, hbx⟩
  have T2 := T2.on hbx
  have O2 := O2.on hbx
  clear hbx
  go_wp2_with fail
  refine hK.out _ _ (T2.2.2) (fun hHeld => ?_)
  clear hK K
  try simp only [Act.put, List.getElem_toArray, List.getElem_cons_succ, List.getElem_cons_zero, List.setIfInBounds_toArray, List.set_cons_zero, List.set_cons_succ]
  refine wpAnyH_take (i := 4) (v := ?_) rfl (by kernel_rfl) (by kernel_rfl) (by kernel_rfl) (fun _ _ _ h => h) (Or.inl ⟨by rfl, ?_⟩) (by assumption) ?_
  rotate_left
  ·(intro w' hS; (try dsimp only at hS); go_simp; try with_reducible rfl)
  try simp only [Act.put, List.getElem_toArray, List.getElem_cons_succ, List.getElem_cons_zero, List.setIfInBounds_toArray, List.set_cons_zero, List.set_cons_succ]
  refine wpAnyH_take (i := 5) (v := ?_) rfl (by kernel_rfl) (by kernel_rfl) (by kernel_rfl) (fun _ _ _ h => h) (Or.inl ⟨by rfl, ?_⟩) (by assumption) ?_
  rotate_left
  ·(intro w' hS; (try dsimp only at hS); go_simp; try with_reducible rfl)
  try simp only [Act.put, List.getElem_toArray, List.getElem_cons_succ, List.getElem_cons_zero, List.setIfInBounds_toArray, List.set_cons_zero, List.set_cons_succ]
  have hl1 := HLk.out _ _ _ O2 C2
  simp only [HW.out]
  refine wpAnyH_ready (rs := [6]) (by kernel_rfl) (by simp) ?_
  refine AllReadyH.cons rfl (fun K hK => ?_) AllReadyH.nil
  go_simp
  refine hK.out _ _ (T2.2.2) (fun hHeld => ?_)
  clear hK K
  try simp only [Act.put, List.getElem_toArray, List.getElem_cons_succ, List.getElem_cons_zero, List.setIfInBounds_toArray, List.set_cons_zero, List.set_cons_succ]
  refine wpAnyH_take (i := 7) (v := ?_) rfl (by kernel_rfl) (by kernel_rfl) (by kernel_rfl) (fun _ _ _ h => h) (Or.inl ⟨by rfl, ?_⟩) (by assumption) ?_
  rotate_left
  ·(intro w' hS; (try dsimp only at hS); go_simp; try with_reducible rfl)
  try simp only [Act.put, List.getElem_toArray, List.getElem_cons_succ, List.getElem_cons_zero, List.setIfInBounds_toArray, List.set_cons_zero, List.set_cons_succ]
  refine wpAnyH_done (by kernel_rfl) ?_ _
  refine NoPanic.normal ?_
  have HT := HE.out
  clear hHeld hl1
  go_wp2
  go_ret
  exact mkNum HT T2.1
 ·rw [okRB_not ho] at HOk
  have HE := Lib.hid (tilesR_not ho)
  clear hx hn h hB HCl HCt ho
  go_enter Try.func42, Try.ntmps42
  go_wp2_with fail
  refine (HOk.out _ (T0.out _)).mono ?_
  rintro e w1 ⟨rfl, hb1⟩
  have T1 := (T0.out 26).on hb1
  clear T0 HOk hb1
  go_wp2
  go_ret
  exact mkNum HE.out.symm T1.1
end Go.Proofs.Ytjfagpmklifjlaa.Prof

namespace Go.Proofs.Ytjfagpmklifjlaa.Prof
set_option linter.unusedVariables false
set_option maxRecDepth 100000
set_option linter.unusedSimpArgs false
open Go.RowKit Go.Proofs.Ytjfagpmklifjlaa.Cell Go.Proofs.Ytjfagpmklifjlaa.Reg Go.Proofs.Ytjfagpmklifjlaa.Cnt Go.Joins

set_option maxRecDepth 100000 in
set_option maxHeartbeats 1000000 in
theorem iIsTileable (w : World) (A : Option Addr) (n cap B : Nat) (xs : List Int) (hx : xs.length = n) (hn : (n : Int) ≤ 9223372036854775807) (h : RowB w B A xs) (hB : B ≤ w.heap.size) :
  Calls Try.prog 45 #[.agg #[.slice A n cap]] w (Bol (decide (0 < tilesR xs)) w) := by
 have T0 := Lib.hid (fun (T : TypeId) => rb_start (T := T) (.slice A n cap) w)
 have HC := Lib.hid (fun W (hb : RB w (.slice A n cap) W) => iCountTilings W A n cap B xs hx hn (h.below hb.1 hB) (by have := hb.2.1; omega))
 clear hx hn h
 generalize tilesR xs = t at HC ⊢
 go_enter Try.func45, Try.ntmps45
 go_wp2_with fail
 refine (HC.out _ (T0.out _)).mono ?_
 rintro e w1 ⟨rfl, hb1⟩
 have T1 := (T0.out 26).on hb1
 clear T0 HC hb1
 go_wp2
 go_ret
 exact ⟨rfl, T1.1⟩
end Go.Proofs.Ytjfagpmklifjlaa.Prof
