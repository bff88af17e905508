/- ExtP, ExtI in one text. -/
import Derived.Test.YtgkgdgchkhdgjaaKuL
import Derived.Test.YtgkgdgchkhdgjaaSetC
import Derived.Test.YtgkgdgchkhdgjaaTilJ
import Derived.Test.YtgkgdgchkhdgjaaTilU
import Derived.Test.YtgkgdgchkhdgjaaCellN
import Derived.Deep.LoopGhost

/- Two free cells that are neighbors, pure: pairs in a list. -/
namespace Go.Proofs.Ytgkgdgchkhdgjaa.Mat
set_option linter.unusedVariables false
set_option linter.unusedSimpArgs false
open Go.RowKit Go.Proofs.Ytgkgdgchkhdgjaa.Base Go.Proofs.Ytgkgdgchkhdgjaa.Pure Go.Proofs.Ytgkgdgchkhdgjaa.Cell Go.Proofs.Ytgkgdgchkhdgjaa.Dom Go.Proofs.Ytgkgdgchkhdgjaa.Dms Go.Proofs.Ytgkgdgchkhdgjaa.Sets Go.Proofs.Ytgkgdgchkhdgjaa.Kun Go.Proofs.Ytgkgdgchkhdgjaa.KuL Go.Proofs.Ytgkgdgchkhdgjaa.Til Go.Proofs.Ytgkgdgchkhdgjaa.Lis Go.Joins
open Go.Proofs.Ytgkgdgchkhdgjaa.Cnt (adj adj_comm adj_iff)

/-- the free places, in order. -/
def frs (xs : List Int) (L : List Dm) : List Nat := (List.range 64).filter (gM xs L)
theorem frs_cells {xs : List Int} (ho : okR xs) (L : List Dm) : unc L (cellsR xs) = (frs xs L).map plc := unc_cells ho L
theorem frs_lt {xs : List Int} {L : List Dm} {i : Nat} (h : i ∈ frs xs L) : i < 64 ∧ gM xs L i = true := by
  unfold frs at h; rw [List.mem_filter, List.mem_range] at h; exact h
/-- no two of the first k, nor one of them and a later one, are neighbors. -/
def NoI (F : List Nat) (k : Nat) : Prop := ∀ i j (hi : i < F.length) (hj : j < F.length), i < k → i < j → adj F[i] F[j] = false
/-- no two of the first k. -/
def NoS (F : List Nat) (k : Nat) : Prop := ∀ i j (hi : i < F.length) (hj : j < F.length), j < k → i < j → adj F[i] F[j] = false
theorem ext_yes {xs : List Int} {L : List Dm} (hp : partB xs L = true) {i j : Nat} (hi : i < (frs xs L).length) (hj : j < (frs xs L).length) (h : adj (frs xs L)[i] (frs xs L)[j] = true) : extB xs L = true := by
  unfold extB
  rw [hp, Bool.true_and, List.any_eq_true]
  obtain ⟨a1, a2⟩ := frs_lt (List.getElem_mem hi)
  obtain ⟨b1, b2⟩ := frs_lt (List.getElem_mem hj)
  refine ⟨_, List.mem_range.2 a1, ?_⟩
  rw [a2, Bool.true_and, List.any_eq_true]
  exact ⟨_, List.mem_range.2 b1, by rw [b2, h]; rfl⟩
theorem ext_no {xs : List Int} {L : List Dm} (h : ∀ i j (hi : i < (frs xs L).length) (hj : j < (frs xs L).length), i < j → adj (frs xs L)[i] (frs xs L)[j] = false) : extB xs L = false := by
  apply Kun.not_true
  unfold extB
  rw [Bool.and_eq_true, List.any_eq_true]
  rintro ⟨hp, a, ha, h2⟩
  rw [Bool.and_eq_true, List.any_eq_true] at h2
  obtain ⟨ga, b, hb, h3⟩ := h2
  rw [Bool.and_eq_true] at h3
  obtain ⟨gb, hab⟩ := h3
  have ma : a ∈ frs xs L := by unfold frs; rw [List.mem_filter]; exact ⟨ha, ga⟩
  have mb : b ∈ frs xs L := by unfold frs; rw [List.mem_filter]; exact ⟨hb, gb⟩
  obtain ⟨i, hi, rfl⟩ := List.getElem_of_mem ma
  obtain ⟨j, hj, rfl⟩ := List.getElem_of_mem mb
  rcases Nat.lt_trichotomy i j with q | q | q
  · rw [h i j hi hj q] at hab; cases hab
  · subst q; rw [adj_iff] at hab; omega
  · rw [adj_comm, h j i hj hi q] at hab; cases hab
theorem ext_part {xs : List Int} {L : List Dm} (h : partB xs L = false) : extB xs L = false := by unfold extB; rw [h]; rfl
end Go.Proofs.Ytgkgdgchkhdgjaa.Mat

/- CanExtend, the program's. -/
namespace Go.Proofs.Ytgkgdgchkhdgjaa.Mat
set_option linter.unusedVariables false
set_option linter.unusedSimpArgs false
set_option maxRecDepth 100000
open Go.RowKit Go.Proofs.Ytgkgdgchkhdgjaa.Base Go.Proofs.Ytgkgdgchkhdgjaa.Pure Go.Proofs.Ytgkgdgchkhdgjaa.Cell Go.Proofs.Ytgkgdgchkhdgjaa.Cels Go.Proofs.Ytgkgdgchkhdgjaa.Dom Go.Proofs.Ytgkgdgchkhdgjaa.Dms Go.Proofs.Ytgkgdgchkhdgjaa.Sets Go.Proofs.Ytgkgdgchkhdgjaa.Kun Go.Proofs.Ytgkgdgchkhdgjaa.KuL Go.Proofs.Ytgkgdgchkhdgjaa.Til Go.Joins
open Go.Proofs.Ytgkgdgchkhdgjaa.Cnt (adj)
open Go.Proofs.Ytgkgdgchkhdgjaa.Reg hiding Yes add_none RC rc_start

/-- two places' neighbors. -/
theorem nb_plc {a b : Nat} (ha : a < 64) (hb : b < 64) : nbB (plc a).1 (plc a).2 (plc b).1 (plc b).2 = adj a b := nb_adj ha hb
set_option maxHeartbeats 4000000 in
theorem iCanExtend (w : World) (A : Option Addr) (n cap B : Nat) (xs : List Int) (hx : xs.length = n) (hn : (n : Int) ≤ 9223372036854775807) (h : RowB w B A xs) (hB : B ≤ w.heap.size)
    (A' : Option Addr) (n' cap' B' : Nat) (L : List Dm) (hL : L.length = n') (hn' : (n' : Int) ≤ 9223372036854775807) (hf : Fits L) (h' : RowM w B' A' L) (hB' : B' ≤ w.heap.size) (hcap : n' ≤ cap') :
    Calls Try.prog 29 #[.agg #[.slice A n cap], .slice A' n' cap'] w (Bol (extB xs L) w) := by
  have T0 := Lib.hid (fun (T : TypeId) => rb_start (T := T) (.slice A n cap) w)
  have HP := Lib.hid (fun W (hb : Below w.heap.size w W) => iIsPartial W A n cap B xs hx hn (h.below hb hB) (by have := hb.size; omega) A' n' cap' B' L hL hn' hf (h'.below hb hB') (by have := hb.size; omega) hcap)
  have HU := Lib.hid (fun W (hb : Below w.heap.size w W) => iUncoveredOf W A n cap B xs hx hn (h.below hb hB) (by have := hb.size; omega) A' n' cap' B' L hL hn' hf (h'.below hb hB') (by have := hb.size; omega))
  clear hx hn h hB hL hf h' hB' hcap
  cases hp : partB xs L with
  | false =>
    have HE := Lib.hid (ext_part hp)
    rw [hp] at HP
    clear hp HU
    go_enter Try.func29, Try.ntmps29
    go_wp2_with fail
    refine (HP.out _ (T0.out _).1).mono ?_
    rintro e w1 ⟨rfl, hb1⟩
    have T1 := (T0.out 29).on hb1
    clear T0 HP hb1
    go_wp2
    go_ret
    exact mkBol HE.out.symm T1.1
  | true =>
    have ho : okR xs := okRB_iff.1 (part_iff.1 hp).1
    rw [frs_cells ho] at HU
    have HY := Lib.hid (fun i j (hi : i < (frs xs L).length) (hj : j < (frs xs L).length) (ha : adj (frs xs L)[i] (frs xs L)[j] = true) => ext_yes hp hi hj ha)
    have HNo := Lib.hid (fun hh => ext_no (xs := xs) (L := L) hh)
    have HF64 := Lib.hid (fun i (hi : i < (frs xs L).length) => (frs_lt (List.getElem_mem hi)).1)
    have hFl : (frs xs L).length ≤ 64 := by unfold frs; exact Nat.le_trans (List.length_filter_le _ _) (by rw [List.length_range]; exact Nat.le_refl _)
    generalize frs xs L = F at HU HY HNo HF64 hFl
    generalize extB xs L = q at HY HNo ⊢
    rw [hp] at HP
    clear hp ho
    go_enter Try.func29, Try.ntmps29
    go_wp2_with fail
    refine (HP.out _ (T0.out _).1).mono ?_
    rintro e w1 ⟨rfl, hb1⟩
    have T1 := (T0.out 29).on hb1
    have c1 := T1.2.2
    clear T0 HP hb1
    go_wp2_with fail
    refine (HU.out _ T1.1).mono ?_
    rintro e w2 ⟨A2, cap2, rfl, hown2, hb2⟩
    have T2 := T1.on hb2
    obtain ⟨b, off, hA2, hR2⟩ := rowC_own hown2
    have hc2 : F.length ≤ cap2 := by
      rcases hown2.2 with ⟨h, h0⟩ | ⟨_, _, _, e, _, _, h, _⟩
      · rw [List.length_map] at h0; omega
      · cases e; rw [List.length_map] at h; exact h
    have D2 : RdC w2 b off (F.map plc) := ⟨fun h0 => (hA2 h0).2, hR2⟩
    rw [List.length_map] at hA2 ⊢
    have HA2 := Lib.hid (fun h0 => (hA2 h0).1)
    have hb2' := Lib.hid T2.1
    have HD2 := Lib.hid D2
    clear HU T1 c1 T2 hA2 hown2 hb2 hR2 D2
    obtain ⟨N, hN⟩ : ∃ N, N = F.length := ⟨_, rfl⟩
    rw [← hN] at hFl hc2 HA2 ⊢
    have HN := Lib.hid hN
    clear hN
    go_wp2_with fail
    go_loopg [19] N (fun gg i wr => ∃ k : Nat, k + gg = N ∧ i = .int .i64 k ∧ Below w.heap.size w wr ∧ RdC wr b off (F.map plc) ∧ Hid (NoI F k))
    case atStart => exact ⟨0, by omega, rfl, hb2'.out, HD2.out, Lib.hid (fun i j _ _ h => by omega)⟩
    case round =>
      clear hb2' HD2
      obtain ⟨k, hk, rfl, hb, hD, HK⟩ := hrel
      by_cases hlt : k < N
      · have hkF : k < F.length := by rw [← HN.out]; exact hlt
        obtain rfl := HA2.out (by omega)
        obtain ⟨c0, c1⟩ := hD.2 k (plc F[k]) (by rw [List.getElem?_map, List.getElem?_eq_getElem hkF]; rfl)
        have HKs := Lib.hid (fun (hs : ∀ j (hj : j < F.length), k < j → adj F[k] F[j] = false) => show NoI F (k + 1) from fun i j hi hj h1 h2 => by
          by_cases e : i = k
          · subst e; exact hs j hj h2
          · exact HK.out i j hi hj (by omega) h2)
        have HYk := Lib.hid (fun j (hj : j < F.length) h => HY.out k j hkF hj h)
        have HAd := Lib.hid (fun j (hj : j < F.length) W => show Calls Try.prog 63 #[.agg #[.int .i64 (plc F[k]).1, .int .i64 (plc F[k]).2], .agg #[.int .i64 (plc F[j]).1, .int .i64 (plc F[j]).2]] W (Bol (adj F[k] F[j]) W) from nb_plc (HF64.out k hkF) (HF64.out j hj) ▸ CellN.iAreNeighbors _ _ _ _ W)
        obtain ⟨f, hf⟩ : ∃ f, f = F[k] := ⟨_, rfl⟩
        rw [← hf] at c0 c1 HKs HYk HAd
        obtain ⟨fx, hfx⟩ : ∃ q, q = (plc f).1 := ⟨_, rfl⟩
        obtain ⟨fy, hfy⟩ : ∃ q, q = (plc f).2 := ⟨_, rfl⟩
        rw [← hfx] at c0 HAd
        rw [← hfy] at c1 HAd
        clear hf hfx hfy hkF HK
        have hb3 := hb.alloc hb.size (.cells #[.int .i64 fx, .int .i64 fy] 58)
        have hD3 := hD.on (below_alloc1 wr (.cells #[.int .i64 fx, .int .i64 fy] 58))
        have Z3 := At2.new wr fx fy
        go_upto_region 7 with fail
        generalize wr.alloc (.cells #[.int .i64 fx, .int .i64 fy] 58) = W3 at hb3 hD3 Z3 ⊢
        generalize wr.heap.size = zb at Z3 ⊢
        clear c0 c1 hb hD
        have HB3 := Lib.hid hb3
        have HD3 := Lib.hid hD3
        have HZ3 := Lib.hid Z3
        clear hb3 hD3 Z3
        by_cases hlast : k + 1 = N
        · have HK2 := Lib.hid (HKs.out (fun j hj hkj => absurd hj (by rw [← HN.out]; omega)))
          clear HKs HYk HAd
          have HLa := Lib.hid hlast
          clear hlast
          by_cases hce : cap2 = k + 1
          · subst hce
            go_wp2_with fail
            go_loopg [29] 1 (fun gg i wr => gg = 1 ∧ i = .int .i64 0 ∧ Below w.heap.size w wr ∧ RdC wr b off (F.map plc))
            case atStart => exact ⟨rfl, rfl, HB3.out, HD3.out⟩
            case round =>
              obtain ⟨hgg, rfl, hb, hD⟩ := hrel
              have HB := Lib.hid hb
              have HD := Lib.hid hD
              clear hb hD hgg
              go_wp2
              go_roundg (N - (k + 1))
              case measure => have := HLa.out; omega
              case rel => exact ⟨k + 1, by have := HLa.out; omega, by go_num, HB.out, HD.out, HK2⟩
          · have hce2 : ¬ (k + 1 = cap2) := fun e => hce e.symm
            have hNk : N - (k + 1) = 0 := by have := HLa.out; omega
            go_wp2_with fail
            go_loopg [29] 1 (fun gg i wr => gg = 1 ∧ i = .int .i64 0 ∧ Below w.heap.size w wr ∧ RdC wr b off (F.map plc))
            case atStart => exact ⟨rfl, rfl, HB3.out, HD3.out⟩
            case round =>
              obtain ⟨hgg, rfl, hb, hD⟩ := hrel
              have HB := Lib.hid hb
              have HD := Lib.hid hD
              clear hb hD hgg
              go_wp2
              go_roundg (N - (k + 1))
              case measure => have := HLa.out; omega
              case rel => exact ⟨k + 1, by have := HLa.out; omega, by go_num, HB.out, HD.out, HK2⟩
        · have hce : ¬ (cap2 = k + 1) := by omega
          obtain ⟨m, hm⟩ : ∃ m, m = N - (k + 1) := ⟨_, rfl⟩
          have HM := Lib.hid hm
          go_wp2_with fail
          rw [← hm]
          have hm64 : m ≤ 64 := by omega
          clear hm
          go_loopg [29] m (fun gg i wr => ∃ s : Nat, s + gg = m ∧ i = .int .i64 s ∧ Below w.heap.size w wr ∧ RdC wr b off (F.map plc) ∧ At2 wr zb fx fy ∧ Hid (∀ j (hj : j < F.length), k < j → j < k + 1 + s → adj f F[j] = false))
          case atStart => exact ⟨0, by omega, rfl, HB3.out, HD3.out, HZ3.out, Lib.hid (fun j hj h1 h2 => by omega)⟩
          case round =>
            clear HB3 HD3 HZ3
            obtain ⟨s, hs, rfl, hb, hD, hZ, HS⟩ := hrel
            by_cases hsm : s < m
            · have hmN := HM.out
              have hjF : k + 1 + s < F.length := by rw [← HN.out]; omega
              obtain ⟨c0, c1⟩ := hD.2 (k + 1 + s) (plc F[k + 1 + s]) (by rw [List.getElem?_map, List.getElem?_eq_getElem hjF]; rfl)
              rw [show off + (k + 1 + s) * 2 = off + (k + 1) * 2 + s * 2 by omega] at c0 c1
              have HSn := Lib.hid (fun (ha : adj f F[k + 1 + s] = false) => show ∀ j (hj : j < F.length), k < j → j < k + 1 + (s + 1) → adj f F[j] = false from fun j hj h1 h2 => by
                by_cases e : j = k + 1 + s
                · subst e; exact ha
                · exact HS.out j hj h1 (by omega))
              have HAj := Lib.hid (fun W => HAd.out (k + 1 + s) hjF W)
              have HYj := Lib.hid (fun h => HYk.out (k + 1 + s) hjF h)
              generalize F[k + 1 + s] = p at c0 c1 HSn HAj HYj
              generalize (plc p).1 = px at c0 HAj
              generalize (plc p).2 = py at c1 HAj
              generalize adj f p = z at HSn HAj HYj
              have hb4 := hb.alloc hb.size (.cells #[.int .i64 px, .int .i64 py] 58)
              have hD4 := hD.on (below_alloc1 wr (.cells #[.int .i64 px, .int .i64 py] 58))
              have Z4 := hZ.on (below_alloc1 wr (.cells #[.int .i64 px, .int .i64 py] 58))
              have P4 := At2.new wr px py
              clear hmN HS hjF
              go_upto_region 10 with fail
              generalize wr.alloc (.cells #[.int .i64 px, .int .i64 py] 58) = W4 at hb4 hD4 Z4 P4 ⊢
              generalize wr.heap.size = zp at P4 ⊢
              clear c0 c1 hb hD hZ
              have d0 := Z4.c0
              have d1 := Z4.c1
              have e0 := P4.c0
              have e1 := P4.c1
              go_wp2_with fail
              refine (HAj.out _).mono ?_
              rintro e w5 ⟨rfl, hb5⟩
              have HB5 := Lib.hid (hb4.trans (hb5.mono hb4.size))
              have HD5 := Lib.hid (hD4.on hb5)
              have HZ5 := Lib.hid (Z4.on hb5)
              clear hb4 hD4 Z4 P4 d0 d1 e0 e1 hb5 HAj
              cases z with
              | true =>
                have HE := Lib.hid (HYj.out rfl)
                clear HSn HYj HY HNo
                go_wp2
                go_ret
                exact mkBol HE.out.symm HB5.out
              | false =>
                have HS2 := Lib.hid (HSn.out rfl)
                clear HSn HYj
                go_wp2
                go_roundg (gk - 1)
                case measure => omega
                case rel => exact ⟨s + 1, by omega, by go_num, HB5.out, HD5.out, HZ5.out, HS2⟩
            · obtain rfl : s = m := by omega
              have HK2 := Lib.hid (HKs.out (fun j hj hkj => HS.out j hj hkj (by have := HM.out; have := HN.out; omega)))
              have HB := Lib.hid hb
              have HD := Lib.hid hD
              clear HS hb hD hZ HAd HYk HKs
              go_wp2
              go_roundg (N - (k + 1))
              case measure => omega
              case rel => exact ⟨k + 1, by omega, by go_num, HB.out, HD.out, HK2⟩
      · obtain rfl : k = N := by omega
        have HE := Lib.hid (show q = false from HNo.out (fun i j hi hj h => HK.out i j hi hj (by rw [HN.out]; exact hi) h))
        have HB := Lib.hid hb
        clear HK hb hD HNo HY
        go_wp2
        go_ret
        exact mkBol HE.out.symm HB.out
end Go.Proofs.Ytgkgdgchkhdgjaa.Mat
