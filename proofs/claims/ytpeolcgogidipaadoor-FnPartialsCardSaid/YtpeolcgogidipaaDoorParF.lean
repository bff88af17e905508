/- FnPartials: whatever region and dominoes in it the code draws: they are partial, sorted they are the same, each is found at its cells, what is left uncovered counts the rest, and their text is that of any order, sorted. -/
import Derived.Test.YtpeolcgogidipaaDoorDrP
import Derived.Test.YtpeolcgogidipaaDoorTilT
import Derived.Test.YtpeolcgogidipaaDoorOrdI
import Derived.Test.YtpeolcgogidipaaDoorTxt
namespace Go.Proofs.YtpeolcgogidipaaDoor.ParF
set_option linter.unusedVariables false
set_option linter.unusedSimpArgs false
open Go.RowKit Go.Proofs.YtpeolcgogidipaaDoor.Base Go.Proofs.YtpeolcgogidipaaDoor.Pure Go.Proofs.YtpeolcgogidipaaDoor.Cell Go.Proofs.YtpeolcgogidipaaDoor.CellF Go.Proofs.YtpeolcgogidipaaDoor.Cels Go.Proofs.YtpeolcgogidipaaDoor.Dom Go.Proofs.YtpeolcgogidipaaDoor.Dms Go.Proofs.YtpeolcgogidipaaDoor.Til Go.Proofs.YtpeolcgogidipaaDoor.Draw Go.Proofs.YtpeolcgogidipaaDoor.Fmt Go.Joins
open Go.Proofs.YtpeolcgogidipaaDoor.Reg hiding Yes add_none RC rc_start
open Go.Proofs.YtpeolcgogidipaaDoor.Grd (part_sort part_at part_valid sort_rev fits_ok tilB_part)

/-- what the law holds: the region's box and the region, the list, the sorted list. -/
def Ps (w : World) (q : Nat) (va : Value) (A1 : Option Addr) (xs : List Int) (Al As : Option Addr) (L : List Dm) (W : World) : Prop :=
  Below w.heap.size w W ∧ Rg W q va ∧ RowB W W.heap.size A1 xs ∧ RowM W W.heap.size Al L ∧ RowM W W.heap.size As L
theorem Ps.on {w W W' : World} {q : Nat} {va : Value} {A1 Al As : Option Addr} {xs : List Int} {L : List Dm} (h : Ps w q va A1 xs Al As L W) (hb : Below W.heap.size W W') : Ps w q va A1 xs Al As L W' :=
  ⟨h.1.trans (hb.mono h.1.size), h.2.1.on hb, (h.2.2.1.below hb (Nat.le_refl _)).mono hb.size, (h.2.2.2.1.below hb (Nat.le_refl _)).mono hb.size, (h.2.2.2.2.below hb (Nat.le_refl _)).mono hb.size⟩
theorem rev_step {L : List Dm} {m t ii : Nat} (hm : L.length = m) (ht : t < m) (hii : ii + t + 1 = m) (h : ii < L.length) : L.reverse.take (t + 1) = L.reverse.take t ++ [L[ii]] := by
  rw [List.take_succ_eq_append_getElem (by rw [List.length_reverse]; omega)]
  congr 2
  rw [List.getElem_reverse]
  congr 1
  omega

set_option maxRecDepth 100000 in
set_option maxHeartbeats 40000000 in
theorem partials_law (A : Option Addr) (len cap : Nat) (zs : List Int) (w : World) (h0 : IsRow .u8 w A len cap zs) (ht : Pow w) :
    Calls Tryd.prog 3 #[.slice A len cap] w fun e w' => e = .returned (.bool true) ∧ Below w.heap.size w w' := by
  have hlen := row_len h0
  by_cases hbig : (1048576 : Int) < (len : Int)
  · go_enter Tryd.func3, Tryd.ntmps3
    go_wp2_with fail
    refine (big w A len cap hlen).mono ?_
    rintro e w' ⟨rfl, rfl⟩
    go_wp2
    go_ret
    exact ⟨rfl, Below.refl _ _⟩
  · have HC := Lib.hid (coded_of_row h0 (by omega))
    obtain ⟨i0, hi, hz0, hz1, hz2⟩ := info_parts domInfo
    have HPw := Lib.hid (fun W (hb : Below w.heap.size w W) => (show Pow W from Joins.tab_stays gPow ht hb (Nat.le_refl _)))
    clear h0 ht
    go_enter Tryd.func3, Tryd.ntmps3
    go_wp2_with fail
    refine (big w A len cap hlen).mono ?_
    rintro e w' ⟨rfl, rfl⟩
    go_wp2_with fail
    refine (Grd.drawPartial w A len cap HC.out).mono ?_
    rintro e w1 ⟨xs, A1, n, c1, L, go, co, hok, hxn, hG, rfl, hO1, hO2, hb1⟩
    generalize hmL : L.length = m at hO2 ⊢
    have hm := hmL.symm
    clear HC hmL
    have hn8 : n ≤ 8 := by have := hok.out.1; have := hxn.out; omega
    obtain ⟨kG, hkG⟩ := hG.out
    have HP := Lib.hid (hkG.part hok.out)
    have hm32 := hkG.length hok.out
    have HV := Lib.hid hkG.fits
    have HF := Lib.hid (fits_ok hkG.fits)
    have HSt := Lib.hid (part_sort HP.out)
    have HRv := Lib.hid (show sortM L.reverse = L by rw [sort_rev L L.reverse (fun d => List.mem_reverse)]; exact HSt.out)
    have HUn := Lib.hid (unc_part HP.out)
    have HTB := Lib.hid (tilB_part HP.out)
    have hmco : m ≤ co := by
      rcases hO2.2 with ⟨h, _⟩ | ⟨g', cap', cur, h, hg, hh, h1, _⟩
      · cases h
      · injection h with _ _ hc
        subst hc; omega
    have HIp := Lib.hid (fun W (h1 : RowB W W.heap.size A1 xs) A' c' (h2 : RowM W W.heap.size A' L) (hc : m ≤ c') => HP.out ▸ iIsPartial W A1 n c1 W.heap.size xs hxn.out (by omega) h1 (Nat.le_refl _) A' m c' W.heap.size L hm.symm (by omega) HF.out h2 (Nat.le_refl _) hc)
    have HIt := Lib.hid (fun W (h1 : RowB W W.heap.size A1 xs) A' c' (h2 : RowM W W.heap.size A' L) (hc : m ≤ c') => iIsTiling W A1 n c1 W.heap.size xs hxn.out (by omega) h1 (Nat.le_refl _) A' m c' W.heap.size L hm.symm (by omega) HF.out h2 (Nat.le_refl _) hc)
    have HUc := Lib.hid (fun W (h1 : RowB W W.heap.size A1 xs) A' c' (h2 : RowM W W.heap.size A' L) => iUncoveredOf W A1 n c1 W.heap.size xs hxn.out (by omega) h1 (Nat.le_refl _) A' m c' W.heap.size L hm.symm (by omega) HF.out h2 (Nat.le_refl _))
    have HCn := Lib.hid (fun W (h1 : RowB W W.heap.size A1 xs) => sCountCells W A1 n c1 W.heap.size xs hxn.out (by omega) h1 (Nat.le_refl _))
    have HTx := Lib.hid (fun W (hb : Below w.heap.size w W) A' c' (h2 : RowM W W.heap.size A' L) => iTilingText W (HPw.out W hb) A' m c' W.heap.size L hm.symm (by omega) HF.out h2 (Nat.le_refl _))
    have HSo := Lib.hid (fun W A' c' (h2 : RowM W W.heap.size A' L) => iSortDominoes W A' m c' W.heap.size L hm.symm (by omega) HF.out h2 (Nat.le_refl _))
    have HSr := Lib.hid (fun W A' c' (h2 : RowM W W.heap.size A' L.reverse) => iSortDominoes W A' m c' W.heap.size L.reverse (by rw [List.length_reverse]; exact hm.symm) (by omega) (fun d hd => HF.out d (List.mem_reverse.1 hd)) h2 (Nat.le_refl _))
    have HAt := Lib.hid (fun W A' c' (h2 : RowM W W.heap.size A' L) x y => iDominoAt W A' m c' W.heap.size L hm.symm (by omega) HF.out h2 (Nat.le_refl _) x y)
    have HPa := Lib.hid (fun k (hk : k < L.length) => part_at HP.out hk)
    rw [HSt.out] at HSo
    rw [HRv.out] at HSr
    unfold DmPost at HSo HSr
    unfold NbPost at HUc
    unfold countR at HCn
    have hcl := cellsR_length xs
    generalize tilB xs L = tB at HIt HTB
    generalize tilT L = T at HTx
    have hsame := str_same T
    have hUlen : (unc L (cellsR xs)).length = (unc L (cellsR xs)).length := rfl
    generalize unc L (cellsR xs) = U at HUc HUn HTB hUlen
    generalize (cellsR xs).length = cN at HCn HUn hcl
    clear hUlen
    generalize U.length = uN at HUc HUn HTB
    rw [← hm] at hm32 HUn HSo HSr
    have hcN : cN = uN + 2 * m := by have := HUn.out; omega
    have hu64 : uN ≤ 64 := by omega
    have hB0 := rowB_own hO1
    have hM0 := rowM_own hO2
    have HLm := Lib.hid hm
    have HRow := Lib.hid hM0.at
    clear hO1 hO2 hm HUn hkG hG HPw HP HSt HRv hlen hbig
    go_upto_region 4 with fail
    have hb2 := below_alloc1 w1 (.cells #[.slice A1 n c1] 26)
    have hb02 := hb1.trans (hb2.mono hb1.size)
    have hRg := Rg.new w1 (.slice A1 n c1)
    have hB2 := (hB0.below hb2 (Nat.le_refl _)).mono hb2.size
    have hM2 := (hM0.below hb2 (Nat.le_refl _)).mono hb2.size
    clear hb1 hb2 hB0 hM0
    generalize w1.alloc (.cells #[.slice A1 n c1] 26) = W2 at hb02 hRg hB2 hM2 ⊢
    generalize w1.heap.size = q3 at hRg ⊢
    go_wp2_with fail
    refine (HSo.out _ _ _ hM2).mono ?_
    rintro e w3 ⟨As, caps, rfl, hcs, hownS, hb3⟩
    have P3 : Ps w q3 (.slice A1 n c1) A1 xs (some ⟨go, 0, none⟩) As L w3 := ⟨hb02.trans (hb3.mono hb02.size), hRg.on hb3, (hB2.below hb3 (Nat.le_refl _)).mono hb3.size, (hM2.below hb3 (Nat.le_refl _)).mono hb3.size, rowM_own hownS⟩
    clear hb02 hRg hB2 hM2 hb3 hownS HSo
    have c0 := P3.2.1.c0
    go_wp2_with fail
    refine (HUc.out _ P3.2.2.1 _ _ P3.2.2.2.1).mono ?_
    rintro e w4 ⟨Au, capu, rfl, _, hb4⟩
    have P4 := P3.on hb4
    clear P3 c0 hb4 HUc
    have HMd := Lib.hid (World.ownsRow_made (e := 34) (size := 3) w4 #[] 0 (Nat.le_refl _) (by unfold maxLen; omega) rfl)
    go_upto_region 7 with fail
    have P5 := P4.on (below_alloc1 w4 (.cells #[] 34))
    have hb45 := below_alloc1 w4 (.cells #[] 34)
    have HO5 := Lib.hid HMd.out
    have hw45 : w4.heap.size ≤ (w4.alloc (.cells #[] 34)).heap.size := hb45.size
    clear HMd
    generalize w4.alloc (.cells #[] 34) = W5 at P5 hb45 HO5 hw45 ⊢
    go_wp2_with fail
    go_loopw [7, 8] (fun v k wr => ∃ (t : Nat) (z : Int), t ≤ m ∧ k = .int .i64 z ∧ z = (m : Int) - 1 - (t : Int) ∧ wr.ownsRow w4.heap.size 34 3 v t (rowM (L.reverse.take t)) ∧ Below w4.heap.size w4 wr) (fun _ k _ => ((intOf k) + 1).toNat)
    case atStart => exact ⟨0, (m : Int) - 1, Nat.zero_le _, by go_num, by omega, by simpa [rowM] using HO5.out, hb45⟩
    case round =>
      clear P5 HO5 hb45 hw45
      obtain ⟨t, z, htm, rfl, hz, hown, hb⟩ := hrel
      have hbs := hb.size
      by_cases hlt : t < m
      · obtain ⟨ii, hii⟩ : ∃ ii : Nat, z = (ii : Int) := ⟨z.toNat, by omega⟩
        subst hii
        have hiL : ii < L.length := by have := HLm.out; omega
        have P6 := P4.2.2.2.1.below hb (Nat.le_refl _)
        obtain ⟨b6, off6, hA6, hC6⟩ := P6.at
        obtain ⟨e6, hb6⟩ := hA6 (by omega)
        injection e6 with e6
        injection e6 with e61 e62
        subst e61; subst e62
        obtain ⟨d0, d1, d2⟩ := hC6 ii hiL
        have HRs := Lib.hid (rev_step (L := L) HLm.out.symm hlt (show ii + t + 1 = m by omega) hiL)
        generalize L[ii] = d at d0 d1 d2 HRs
        obtain ⟨x, y, b⟩ := d
        simp only [Nat.zero_add] at d0 d1 d2
        have HOwn := Lib.hid hown
        have him : (ii : Int) < (m : Int) := by omega
        have HZt := Lib.hid hz
        clear hown hA6 hC6 P6 hz
        go_wp2_with (first
          | (at_builtin; refine wpList_append_own _ rfl _ _ 27 rfl w4.heap.size 34 i0 (.agg #[.int .i64 0, .int .i64 0, .bool false]) 3 24 Tryd.underlying27 hi hz0 hz1 hz2 rfl (by decide) _ t (rowM (L.reverse.take t)) rfl (HOwn.out.alloc _) ⟨wr.heap.size, 0, none⟩ 1 1 [.int .i64 x, .int .i64 y, .bool b] rfl rfl (World.news_of_block (cs := #[.int .i64 x, .int .i64 y, .bool b]) (t := 34) (fr := (0, 0)) (heap_alloc_new wr _)) (by simp [Value.oneCell']) (by unfold maxLen; omega) (by omega) (by simp; omega) ?_; intro v2 w3 hown3 hgrow _))
        have hb3 : Below w4.heap.size w4 w3 := (hb.alloc hbs _).grown hgrow (by simp; omega) (fun g hg => (HOwn.out.lt g hg).1)
        have R := Lib.hid (show w3.ownsRow w4.heap.size 34 3 v2 (t + 1) (rowM (L.reverse.take (t + 1))) by rw [HRs.out, rowM_snoc]; exact hown3)
        clear hown3 hgrow d0 d1 d2
        go_wp2
        go_roundw
        case rel => exact ⟨t + 1, (ii : Int) - 1, by omega, by go_num, by have := HZt.out; omega, R.out, hb3⟩
        case measure => (simp [intOf] <;> omega)
      · obtain rfl : t = m := by omega
        obtain ⟨Ab, capb, rfl⟩ := own_shape hown
        have hz1' : z = -1 := by omega
        subst hz1'
        have P6 := P4.on hb
        have hRb : RowM wr wr.heap.size Ab L.reverse := by
          have e : L.reverse.take t = L.reverse := by rw [List.take_of_length_le (by rw [List.length_reverse, ← HLm.out]; exact Nat.le_refl _)]
          rw [e] at hown
          exact rowM_own hown
        clear hown hb hbs P4 hz
        go_wp2_with fail
        go_loopw [9] (fun k wr2 => ∃ j : Nat, j ≤ t ∧ k = .int .i64 j ∧ Ps w q3 (.slice A1 n c1) A1 xs (some ⟨go, 0, none⟩) As L wr2 ∧ RowM wr2 wr2.heap.size Ab L.reverse) (fun k _ => t - (intOf k).toNat)
        case atStart => exact ⟨0, Nat.zero_le _, rfl, P6, hRb⟩
        case round =>
          clear P6 hRb
          obtain ⟨j, hjt, rfl, P7, hRb⟩ := hrel
          by_cases hlt2 : j < t
          · have hjL : j < L.length := by have := HLm.out; omega
            obtain ⟨b6, off6, hA6, hC6⟩ := P7.2.2.2.1.at
            obtain ⟨e6, hb6⟩ := hA6 (by omega)
            injection e6 with e6
            injection e6 with e61 e62
            subst e61; subst e62
            obtain ⟨d0, d1, d2⟩ := hC6 j hjL
            have hv := HV.out L[j] (List.getElem_mem hjL)
            obtain ⟨ha1, ha2⟩ := HPa.out j hjL
            generalize L[j] = d at d0 d1 d2 hv ha1 ha2
            obtain ⟨x, y, b⟩ := d
            simp only [Nat.zero_add] at d0 d1 d2 hv ha1 ha2
            have HCu := Lib.hid (fun W => sCellsUnder_ok x y b hv W)
            have HA1 := Lib.hid (fun W h2 => ha1 ▸ HAt.out W (some ⟨go, 0, none⟩) co h2 x y)
            have HA2 := Lib.hid (fun W h2 => ha2 ▸ HAt.out W (some ⟨go, 0, none⟩) co h2 (sx x b) (sy y b))
            generalize sx x b = u at HCu HA2
            generalize sy y b = v at HCu HA2
            have hjj : ((j : Int) != (j : Int)) = false := by simp
            clear hA6 hC6 hv ha1 ha2 hb6
            go_wp2_with fail
            refine (HCu.out _).mono ?_
            rintro e w8 ⟨rfl, hb8⟩
            have P8 := P7.on hb8
            have R8 := (hRb.below hb8 (Nat.le_refl _)).mono hb8.size
            clear P7 hRb hb8 d0 d1 d2 HCu
            go_upto_region 15 with fail
            obtain ⟨k1, k2, k3⟩ := at2_two w8 x y u v
            have P9 := P8.on k3
            have R9 := (R8.below k3 (Nat.le_refl _)).mono k3.size
            generalize (w8.alloc (.cells #[.int .i64 x, .int .i64 y] 36)).alloc (.cells #[.int .i64 u, .int .i64 v] 36) = W9 at k1 k2 P9 R9 ⊢
            clear k3 P8 R8
            have c0 := k1.c0
            have c1' := k1.c1
            go_wp2_with fail
            refine (HA1.out _ P9.2.2.2.1).mono ?_
            rintro e w10 ⟨rfl, hb10⟩
            have P10 := P9.on hb10
            have R10 := (R9.below hb10 (Nat.le_refl _)).mono hb10.size
            have k2 := k2.on hb10
            clear P9 R9 hb10 c0 c1' k1 HA1
            have c0 := k2.c0
            have c1' := k2.c1
            go_wp2_with fail
            refine (HA2.out _ P10.2.2.2.1).mono ?_
            rintro e w11 ⟨rfl, hb11⟩
            have P11 := P10.on hb11
            have R11 := (R10.below hb11 (Nat.le_refl _)).mono hb11.size
            clear P10 R10 hb11 c0 c1' k2 HA2
            go_wp2
            go_roundw
            case rel => exact ⟨j + 1, by omega, by go_num, P11, R11⟩
            case measure => (simp [intOf] <;> omega)
          · clear HAt HPa HV
            have c0 := P7.2.1.c0
            go_wp2_with fail
            refine (HIp.out _ P7.2.2.1 _ _ P7.2.2.2.1 hmco).mono ?_
            rintro e w8 ⟨rfl, hb8⟩
            have P8 := P7.on hb8
            have R8 := (hRb.below hb8 (Nat.le_refl _)).mono hb8.size
            clear P7 hRb hb8 c0
            have c0 := P8.2.1.c0
            go_wp2_with fail
            refine (HIp.out _ P8.2.2.1 _ _ P8.2.2.2.2 hcs).mono ?_
            rintro e w9 ⟨rfl, hb9⟩
            have P9 := P8.on hb9
            have R9 := (R8.below hb9 (Nat.le_refl _)).mono hb9.size
            clear P8 R8 hb9 c0 HIp
            have c0 := P9.2.1.c0
            go_wp2_with fail
            refine (HCn.out _ P9.2.2.1).mono ?_
            rintro e w10 ⟨rfl, hb10⟩
            have P10 := P9.on hb10
            have R10 := (R9.below hb10 (Nat.le_refl _)).mono hb10.size
            clear P9 R9 hb10 c0 HCn
            have c0 := P10.2.1.c0
            have hsum : (uN : Int) + 2 * (t : Int) = (cN : Int) := by omega
            have hcN2 : cN ≤ 64 := by omega
            clear hcN
            go_wp2_with fail
            refine (HIt.out _ P10.2.2.1 _ _ P10.2.2.2.1 hmco).mono ?_
            rintro e w11 ⟨rfl, hb11⟩
            have P11 := P10.on hb11
            have R11 := (R10.below hb11 (Nat.le_refl _)).mono hb11.size
            clear P10 R10 hb11 c0 HIt hsum
            by_cases hu0 : uN = 0
            · have htb : tB = true := by rw [HTB.out]; exact decide_eq_true hu0
              subst htb
              have hu1 : ((uN : Nat) : Int) = 0 := by omega
              go_wp2_with fail
              refine (HSr.out _ _ _ R11).mono ?_
              rintro e w12 ⟨Ar, capr, rfl, _, hownR, hb12⟩
              have P12 := P11.on hb12
              have R12 := rowM_own hownR
              clear P11 R11 hb12 hownR HSr
              go_wp2_with fail
              refine (HTx.out _ P12.1 _ _ R12).mono ?_
              rintro e w13 ⟨rfl, hb13⟩
              have P13 := P12.on hb13
              clear P12 R12 hb13
              go_wp2_with fail
              refine (HTx.out _ P13.1 _ _ P13.2.2.2.2).mono ?_
              rintro e w14 ⟨rfl, hb14⟩
              have P14 := P13.on hb14
              clear P13 hb14
              go_wp2_with fail
              refine (HTx.out _ P14.1 _ _ P14.2.2.2.2).mono ?_
              rintro e w15 ⟨rfl, hb15⟩
              have P15 := P14.on hb15
              clear P14 hb15
              go_wp2_with fail
              refine (HTx.out _ P15.1 _ _ P15.2.2.2.1).mono ?_
              rintro e w16 ⟨rfl, hb16⟩
              have hb := (P15.on hb16).1
              clear P15 hb16 HTx
              go_wp2
              go_ret
              exact ⟨rfl, hb⟩
            · have htb : tB = false := by rw [HTB.out]; exact decide_eq_false hu0
              subst htb
              have hu1 : ¬ ((uN : Nat) : Int) = 0 := by omega
              have hu2 : (((uN : Nat) : Int) == 0) = false := by rw [beq_eq_false_iff_ne]; exact hu1
              go_wp2_with fail
              refine (HSr.out _ _ _ R11).mono ?_
              rintro e w12 ⟨Ar, capr, rfl, _, hownR, hb12⟩
              have P12 := P11.on hb12
              have R12 := rowM_own hownR
              clear P11 R11 hb12 hownR HSr
              go_wp2_with fail
              refine (HTx.out _ P12.1 _ _ R12).mono ?_
              rintro e w13 ⟨rfl, hb13⟩
              have P13 := P12.on hb13
              clear P12 R12 hb13
              go_wp2_with fail
              refine (HTx.out _ P13.1 _ _ P13.2.2.2.2).mono ?_
              rintro e w14 ⟨rfl, hb14⟩
              have P14 := P13.on hb14
              clear P13 hb14
              go_wp2_with fail
              refine (HTx.out _ P14.1 _ _ P14.2.2.2.2).mono ?_
              rintro e w15 ⟨rfl, hb15⟩
              have P15 := P14.on hb15
              clear P14 hb15
              go_wp2_with fail
              refine (HTx.out _ P15.1 _ _ P15.2.2.2.1).mono ?_
              rintro e w16 ⟨rfl, hb16⟩
              have hb := (P15.on hb16).1
              clear P15 hb16 HTx
              go_wp2
              go_ret
              exact ⟨rfl, hb⟩
end Go.Proofs.YtpeolcgogidipaaDoor.ParF
