/- CanExtend and IsMostPartial, the model's. -/
import Derived.Test.YtgkgdgchkhdgjaaMgExI
import Derived.Test.YtgkgdgchkhdgjaaTilS
import Derived.Test.YtgkgdgchkhdgjaaMgFnd
import Derived.Deep.LoopGhost
import Derived.Deep.RegionHeld3
namespace Go.Proofs.Ytgkgdgchkhdgjaa.Mat
set_option linter.unusedVariables false
set_option linter.unusedSimpArgs false
set_option maxRecDepth 100000
open Go.RowKit Go.Proofs.Ytgkgdgchkhdgjaa.Base Go.Proofs.Ytgkgdgchkhdgjaa.Pure Go.Proofs.Ytgkgdgchkhdgjaa.Cell Go.Proofs.Ytgkgdgchkhdgjaa.Cels Go.Proofs.Ytgkgdgchkhdgjaa.Dom Go.Proofs.Ytgkgdgchkhdgjaa.Dms Go.Proofs.Ytgkgdgchkhdgjaa.Sets Go.Proofs.Ytgkgdgchkhdgjaa.Kun Go.Proofs.Ytgkgdgchkhdgjaa.KuL Go.Proofs.Ytgkgdgchkhdgjaa.Til Go.Joins
open Go.Proofs.Ytgkgdgchkhdgjaa.Cnt (adj)
open Go.Proofs.Ytgkgdgchkhdgjaa.Reg hiding Yes add_none RC rc_start

set_option maxHeartbeats 4000000 in
theorem sCanExtend (w : World) (A : Option Addr) (n cap B : Nat) (xs : List Int) (hx : xs.length = n) (hn : (n : Int) ≤ 9223372036854775807) (h : RowB w B A xs) (hB : B ≤ w.heap.size)
    (A' : Option Addr) (n' cap' B' : Nat) (L : List Dm) (hL : L.length = n') (hn' : (n' : Int) ≤ 9223372036854775807) (h' : RowM w B' A' L) (hB' : B' ≤ w.heap.size) :
    Calls Try.prog 39 #[.agg #[.slice A n cap], .slice A' n' cap'] w (Bol (extB xs L) w) := by
  have T0 := Lib.hid (fun (T : TypeId) => rb_start (T := T) (.slice A n cap) w)
  have HP := Lib.hid (fun W (hb : Below w.heap.size w W) => sIsPartial W A n cap B xs hx hn (h.below hb hB) (by have := hb.size; omega) A' n' cap' B' L hL hn' (h'.below hb hB') (by have := hb.size; omega))
  have HU := Lib.hid (fun W (hb : Below w.heap.size w W) => sUncoveredOf W A n cap B xs hx hn (h.below hb hB) (by have := hb.size; omega) A' n' cap' B' L hL hn' (h'.below hb hB') (by have := hb.size; omega))
  clear hx hn h hB hL h' hB'
  cases hp : partB xs L with
  | false =>
    have HE := Lib.hid (ext_part hp)
    rw [hp] at HP
    clear hp HU
    go_enter Try.func39, Try.ntmps39
    go_wp2_with fail
    refine (HP.out _ (T0.out _).1).mono ?_
    rintro e w1 ⟨rfl, hb1⟩
    have T1 := (T0.out 29).on hb1
    clear T0 HP hb1
    go_wp2
    go_ret
    exact mkBol HE.out.symm T1.1
  | true =>
    have ho : okR xs := okRB_iff.1 (part_iff.1 hp).1
    rw [frs_cells ho] at HU
    have HY := Lib.hid (fun i j (hi : i < (frs xs L).length) (hj : j < (frs xs L).length) (ha : adj (frs xs L)[i] (frs xs L)[j] = true) => ext_yes hp hi hj ha)
    have HNo := Lib.hid (fun hh => ext_no (xs := xs) (L := L) hh)
    have HF64 := Lib.hid (fun i (hi : i < (frs xs L).length) => (frs_lt (List.getElem_mem hi)).1)
    have hFl : (frs xs L).length ≤ 64 := by unfold frs; exact Nat.le_trans (List.length_filter_le _ _) (by rw [List.length_range]; exact Nat.le_refl _)
    generalize frs xs L = F at HU HY HNo HF64 hFl
    generalize extB xs L = q at HY HNo ⊢
    rw [hp] at HP
    clear hp ho
    go_enter Try.func39, Try.ntmps39
    go_wp2_with fail
    refine (HP.out _ (T0.out _).1).mono ?_
    rintro e w1 ⟨rfl, hb1⟩
    have T1 := (T0.out 29).on hb1
    have c1 := T1.2.2
    clear T0 HP hb1
    go_wp2_with fail
    refine (HU.out _ T1.1).mono ?_
    rintro e w2 ⟨A2, cap2, rfl, hown2, hb2⟩
    have T2 := T1.on hb2
    obtain ⟨b, off, hA2, hR2⟩ := rowC_own hown2
    have D2 : RdC w2 b off (F.map plc) := ⟨fun h0 => (hA2 h0).2, hR2⟩
    rw [List.length_map] at hA2 ⊢
    have HA2 := Lib.hid (fun h0 => (hA2 h0).1)
    have hb2' := Lib.hid T2.1
    have HD2 := Lib.hid D2
    clear HU T1 c1 T2 hA2 hown2 hb2 hR2 D2
    obtain ⟨N, hN⟩ : ∃ N, N = F.length := ⟨_, rfl⟩
    rw [← hN] at hFl HA2 ⊢
    have HN := Lib.hid hN
    clear hN
    go_wp2_with fail
    go_loopg [6] N (fun gg v wr => ∃ k : Nat, k + gg = N ∧ v = .int .i64 k ∧ Below w.heap.size w wr ∧ RdC wr b off (F.map plc) ∧ Hid (NoS F k))
    case atStart => exact ⟨0, by omega, rfl, hb2'.out, HD2.out, Lib.hid (fun i j _ _ h => by omega)⟩
    case round =>
      clear hb2' HD2
      obtain ⟨k, hk, rfl, hb, hD, HK⟩ := hrel
      by_cases hlt : k < N
      · have hkF : k < F.length := by rw [← HN.out]; exact hlt
        obtain rfl := HA2.out (by omega)
        have HKs := Lib.hid (fun (hs : ∀ i (hi : i < F.length), i < k → adj F[i] F[k] = false) => show NoS F (k + 1) from fun i j hi hj h1 h2 => by
          by_cases e : j = k
          · subst e; exact hs i hi h2
          · exact HK.out i j hi hj (by omega) h2)
        have HB := Lib.hid hb
        have HD := Lib.hid hD
        clear hb hD HK
        go_wp2_with fail
        go_loopg [7] k (fun gg v wr => ∃ i : Nat, i + gg = k ∧ v = .int .i64 i ∧ Below w.heap.size w wr ∧ RdC wr b off (F.map plc) ∧ Hid (∀ j (hj : j < F.length), j < i → adj F[j] F[k] = false))
        case atStart => exact ⟨0, by omega, rfl, HB.out, HD.out, Lib.hid (fun j hj h1 => by omega)⟩
        case round =>
          clear HB HD
          obtain ⟨i, hi, rfl, hb, hD, HS⟩ := hrel
          by_cases hik : i < k
          · have hiF : i < F.length := by omega
            obtain ⟨c0, c1⟩ := hD.2 i (plc F[i]) (by rw [List.getElem?_map, List.getElem?_eq_getElem hiF]; rfl)
            obtain ⟨e0, e1⟩ := hD.2 k (plc F[k]) (by rw [List.getElem?_map, List.getElem?_eq_getElem hkF]; rfl)
            have HSn := Lib.hid (fun (ha : adj F[i] F[k] = false) => show ∀ j (hj : j < F.length), j < i + 1 → adj F[j] F[k] = false from fun j hj h1 => by
              by_cases e : j = i
              · subst e; exact ha
              · exact HS.out j hj (by omega))
            have HAd := Lib.hid (fun W => show Calls Try.prog 74 #[.agg #[.int .i64 (plc F[i]).1, .int .i64 (plc F[i]).2], .agg #[.int .i64 (plc F[k]).1, .int .i64 (plc F[k]).2]] W (Bol (adj F[i] F[k]) W) from nb_plc (HF64.out i hiF) (HF64.out k hkF) ▸ CellN.sAreNeighbors _ _ _ _ W)
            have HYj := Lib.hid (fun h => HY.out i k hiF hkF h)
            generalize adj F[i] F[k] = z at HSn HAd HYj
            generalize (plc F[i]).1 = ix at c0 HAd
            generalize (plc F[i]).2 = iy at c1 HAd
            generalize (plc F[k]).1 = kx at e0 HAd
            generalize (plc F[k]).2 = ky at e1 HAd
            have hbl : b < wr.heap.size := hD.1 (by rw [List.length_map]; omega)
            have HB := Lib.hid hb.drew
            have HD : Hid (RdC wr.drew b off (F.map plc)) := Lib.hid hD
            clear hb hD HS
            go_wp2_with fail
            have hiI : (i : Int) < (N : Int) := by omega
            have hkI : (k : Int) < (N : Int) := by omega
            refine wp_region_noPanic ?_
            have c0 : wr.drew.cell? ⟨b, off + i * 2, none⟩ = some (.int .i64 ix) := c0
            have c1 : wr.drew.cell? ⟨b, off + i * 2 + 1, none⟩ = some (.int .i64 iy) := c1
            have e0 : wr.drew.cell? ⟨b, off + k * 2, none⟩ = some (.int .i64 kx) := e0
            have e1 : wr.drew.cell? ⟨b, off + k * 2 + 1, none⟩ = some (.int .i64 ky) := e1
            have hbl : b < wr.drew.heap.size := hbl
            refine wp_region_held_drew (S := (fun w' => w'.cell? ⟨b, off + i * 2, none⟩ = some (.int .i64 ix) ∧ w'.cell? ⟨b, off + i * 2 + 1, none⟩ = some (.int .i64 iy) ∧ w'.cell? ⟨b, off + k * 2, none⟩ = some (.int .i64 kx) ∧ w'.cell? ⟨b, off + k * 2 + 1, none⟩ = some (.int .i64 ky))) (by kernel_rfl) ⟨c0, c1, e0, e1⟩ (fun hHeld => ?_)
            generalize wr.drew = WD at HB HD c0 c1 e0 e1 hbl hHeld ⊢
            have HHeld := Lib.hid (show ∀ w', Below WD.heap.size WD w' → w'.cell? ⟨b, off + i * 2, none⟩ = some (.int .i64 ix) ∧ w'.cell? ⟨b, off + i * 2 + 1, none⟩ = some (.int .i64 iy) ∧ w'.cell? ⟨b, off + k * 2, none⟩ = some (.int .i64 kx) ∧ w'.cell? ⟨b, off + k * 2 + 1, none⟩ = some (.int .i64 ky) from fun W hb => ⟨(hb.cell (p := ⟨b, off + i * 2, none⟩) hbl).trans c0, (hb.cell (p := ⟨b, off + i * 2 + 1, none⟩) hbl).trans c1, (hb.cell (p := ⟨b, off + k * 2, none⟩) hbl).trans e0, (hb.cell (p := ⟨b, off + k * 2 + 1, none⟩) hbl).trans e1⟩)
            clear c0 c1 e0 e1 hbl
            refine wpAnyH_take (i := 0) (v := ?_) rfl (by kernel_rfl) (by kernel_rfl) (by kernel_rfl) (fun _ _ _ h => h) (Or.inl ⟨by rfl, ?_⟩) (by assumption) ?_
            rotate_left
            · (intro w' hS; (try dsimp only at hS); go_simp; try with_reducible rfl)
            try simp only [Act.put, List.getElem_toArray, List.getElem_cons_succ, List.getElem_cons_zero, List.setIfInBounds_toArray, List.set_cons_zero, List.set_cons_succ]
            refine wpAnyH_take (i := 1) (v := ?_) rfl (by kernel_rfl) (by kernel_rfl) (by kernel_rfl) (fun _ _ _ h => h) (Or.inl ⟨by rfl, ?_⟩) (by assumption) ?_
            rotate_left
            · (intro w' hS; (try dsimp only at hS); go_simp; try with_reducible rfl)
            try simp only [Act.put, List.getElem_toArray, List.getElem_cons_succ, List.getElem_cons_zero, List.setIfInBounds_toArray, List.set_cons_zero, List.set_cons_succ]
            refine wpAnyH_take (i := 2) (v := ?_) rfl (by kernel_rfl) (by kernel_rfl) (by kernel_rfl) (fun _ _ _ h => h) (Or.inl ⟨by rfl, ?_⟩) (by assumption) ?_
            rotate_left
            · (intro w' hS; (try dsimp only at hS); go_simp; try with_reducible rfl)
            try simp only [Act.put, List.getElem_toArray, List.getElem_cons_succ, List.getElem_cons_zero, List.setIfInBounds_toArray, List.set_cons_zero, List.set_cons_succ]
            refine wpAnyH_take (i := 3) (v := ?_) rfl (by kernel_rfl) (by kernel_rfl) (by kernel_rfl) (fun _ _ _ h => h) (Or.inl ⟨by rfl, ?_⟩) (by assumption) ?_
            rotate_left
            · (intro w' hS; (try dsimp only at hS); go_simp; try with_reducible rfl)
            try simp only [Act.put, List.getElem_toArray, List.getElem_cons_succ, List.getElem_cons_zero, List.setIfInBounds_toArray, List.set_cons_zero, List.set_cons_succ]
            refine wpAnyH_take (i := 4) (v := ?_) rfl (by kernel_rfl) (by kernel_rfl) (by kernel_rfl) (fun _ _ _ h => h) (Or.inl ⟨by rfl, ?_⟩) (by assumption) ?_
            rotate_left
            · (intro w' hS; (try dsimp only at hS); go_simp; try with_reducible rfl)
            try simp only [Act.put, List.getElem_toArray, List.getElem_cons_succ, List.getElem_cons_zero, List.setIfInBounds_toArray, List.set_cons_zero, List.set_cons_succ]
            refine wpAnyH_take (i := 5) (v := ?_) rfl (by kernel_rfl) (by kernel_rfl) (by kernel_rfl) (fun _ _ _ h => h) (Or.inl ⟨by rfl, ?_⟩) (by assumption) ?_
            rotate_left
            · (intro w' hS; (try dsimp only at hS); go_simp; try with_reducible rfl)
            try simp only [Act.put, List.getElem_toArray, List.getElem_cons_succ, List.getElem_cons_zero, List.setIfInBounds_toArray, List.set_cons_zero, List.set_cons_succ]
            refine wpAnyH_take (i := 6) (v := ?_) rfl (by kernel_rfl) (by kernel_rfl) (by kernel_rfl) (fun _ _ _ h => h) (Or.inl ⟨by rfl, ?_⟩) (by assumption) ?_
            rotate_left
            · (intro w' hS; (try dsimp only at hS); go_simp; try with_reducible rfl)
            try simp only [Act.put, List.getElem_toArray, List.getElem_cons_succ, List.getElem_cons_zero, List.setIfInBounds_toArray, List.set_cons_zero, List.set_cons_succ]
            refine wpAnyH_take (i := 7) (v := ?_) rfl (by kernel_rfl) (by kernel_rfl) (by kernel_rfl) (fun _ _ _ h => h) (Or.inl ⟨by rfl, ?_⟩) (by assumption) ?_
            rotate_left
            · (intro w' hS; (try dsimp only at hS); go_simp; try with_reducible rfl)
            try simp only [Act.put, List.getElem_toArray, List.getElem_cons_succ, List.getElem_cons_zero, List.setIfInBounds_toArray, List.set_cons_zero, List.set_cons_succ]
            refine wpAnyH_ready (rs := [8]) (by kernel_rfl) (by simp) ?_
            refine AllReadyH.cons rfl (fun K hK => ?_) AllReadyH.nil
            go_simp
            refine (HAd.out _).mono ?_
            rintro e wx ⟨rfl, hbx⟩
            have HBx := Lib.hid (HB.out.trans (hbx.mono HB.out.size))
            have HDx := Lib.hid (HD.out.on hbx)
            go_wp2_with fail
            refine hK.out _ _ (HHeld.out _ hbx) (fun hHeld => ?_)
            clear hK K
            try simp only [Act.put, List.getElem_toArray, List.getElem_cons_succ, List.getElem_cons_zero, List.setIfInBounds_toArray, List.set_cons_zero, List.set_cons_succ]
            refine wpAnyH_done (by kernel_rfl) ?_ _
            refine NoPanic.normal ?_
            clear hHeld hbx
            cases z with
            | true =>
              have HE := Lib.hid (HYj.out rfl)
              clear HSn HYj HY HNo HD
              go_wp2
              go_ret
              exact mkBol HE.out.symm HBx.out
            | false =>
              have HS2 := Lib.hid (HSn.out rfl)
              clear HSn HYj HD
              go_wp2
              go_roundg (gk - 1)
              case measure => omega
              case rel => exact ⟨i + 1, by omega, by go_num, HBx.out, HDx.out, HS2⟩
          · obtain rfl : i = k := by omega
            have HK2 := Lib.hid (HKs.out HS.out)
            have HB := Lib.hid hb
            have HD := Lib.hid hD
            clear HS hb hD HKs
            go_wp2
            go_roundg (N - (i + 1))
            case measure => omega
            case rel => exact ⟨i + 1, by omega, by go_num, HB.out, HD.out, HK2⟩
      · obtain rfl : k = N := by omega
        have HE := Lib.hid (show q = false from HNo.out (fun i j hi hj h => HK.out i j hi hj (by rw [HN.out]; exact hj) h))
        have HB := Lib.hid hb
        clear HK hb hD HNo HY
        go_wp2
        go_ret
        exact mkBol HE.out.symm HB.out
set_option maxHeartbeats 2000000 in
theorem sIsMostPartial (w : World) (A : Option Addr) (n cap B : Nat) (xs : List Int) (hx : xs.length = n) (hn : (n : Int) ≤ 9223372036854775807) (h : RowB w B A xs) (hB : B ≤ w.heap.size)
    (A' : Option Addr) (n' cap' B' : Nat) (L : List Dm) (hL : L.length = n') (hn' : (n' : Int) ≤ 9223372036854775807) (h' : RowM w B' A' L) (hB' : B' ≤ w.heap.size) :
    Calls Try.prog 41 #[.agg #[.slice A n cap], .slice A' n' cap'] w (Bol (partB xs L && decide (L.length = (matchR xs).length)) w) := by
  have T0 := Lib.hid (fun (T : TypeId) => rb_start (T := T) (.slice A n cap) w)
  have HP := Lib.hid (fun W (hb : Below w.heap.size w W) => sIsPartial W A n cap B xs hx hn (h.below hb hB) (by have := hb.size; omega) A' n' cap' B' L hL hn' (h'.below hb hB') (by have := hb.size; omega))
  have HM := Lib.hid (fun W (hb : Below w.heap.size w W) => sMostDominoes W A n cap B xs hx hn (h.below hb hB) (by have := hb.size; omega))
  rw [hL]
  generalize partB xs L = p at HP ⊢
  generalize (matchR xs).length = q at HM ⊢
  clear hx hn h hB hL h' hB'
  cases p with
  | false =>
    go_enter Try.func41, Try.ntmps41
    go_wp2_with fail
    refine (HP.out _ (T0.out _).1).mono ?_
    rintro e w1 ⟨rfl, hb1⟩
    have T1 := (T0.out 29).on hb1
    clear T0 HP hb1
    go_wp2
    go_ret
    exact ⟨rfl, T1.1⟩
  | true =>
    go_enter Try.func41, Try.ntmps41
    go_wp2_with fail
    refine (HP.out _ (T0.out _).1).mono ?_
    rintro e w1 ⟨rfl, hb1⟩
    have T1 := (T0.out 29).on hb1
    have c1 := T1.2.2
    clear T0 HP hb1
    go_wp2_with fail
    refine (HM.out _ T1.1).mono ?_
    rintro e w2 ⟨rfl, hb2⟩
    have T2 := T1.on hb2
    clear T1 c1 HM hb2
    go_wp2
    go_ret
    exact mkBol (by rw [Bool.eq_iff_iff]; simp; omega) T2.1
end Go.Proofs.Ytgkgdgchkhdgjaa.Mat
