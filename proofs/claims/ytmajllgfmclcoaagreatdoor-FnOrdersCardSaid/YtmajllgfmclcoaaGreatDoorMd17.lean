/- SHol, Simp, HgrZ in one text. -/
import Derived.Test.YtmajllgfmclcoaaGreatDoorMd16
import Derived.StillTailTactics
import Derived.Test.YtmajllgfmclcoaaGreatDoorMd10
import Derived.Test.YtmajllgfmclcoaaGreatDoorMd14
import Derived.Test.YtmajllgfmclcoaaGreatDoorMd08
set_option linter.unusedVariables false
set_option linter.unusedSimpArgs false
namespace Go.Proofs.YtmajllgfmclcoaaGreatDoor.Flo
open Go.RowKit Go.Proofs.YtmajllgfmclcoaaGreatDoor.Pure Bal Go.Proofs.YtmajllgfmclcoaaGreatDoor.Cell Reg Go.Joins
set_option maxRecDepth 100000 in
set_option maxHeartbeats 4000000 in
theorem sCountHoles (w : World) (A : Option Addr) (n cap B : Nat) (xs : List Int) (hx : xs.length = n) (hn : (n : Int) ≤ 9223372036854775807) (h : RowB w B A xs) (hB : B ≤ w.heap.size) :
  Calls Tryz.prog 95 #[.agg #[.slice A n cap]] w (Num ((holN xs : Nat) : Int) w) := by
 obtain ⟨i0, hi, hz0, hz1, hz2⟩ := info_parts intInfo
 have HOk := Lh (fun W (hb : Below w.heap.size w W) => sRegionOk W A n cap B xs hx hn (h.below hb hB) (by have := hb.size; omega))
 have T0 := Lh (fun T => rb_start (T := T) (.slice A n cap) w)
 by_cases ho : okR xs
 ·have HHas := Lh (fun W (u : Nat) (hu : u < 100) (hb : Below w.heap.size w W) X Y (hX : X = (plC u).1) (hY : Y = (plC u).2) => show Calls Tryz.prog 63 #[.agg #[.slice A n cap], .agg #[.int .i64 X, .int .i64 Y]] W (Bol (cR xs u) W) by
   rw [cR_has ho hu, show ((u % 10 : Nat) : Int) - 1 = X from hX.symm, show ((u / 10 : Nat) : Int) - 1 = Y from hY.symm]
   exact sHasCell W A n cap B xs hx hn (h.below hb hB) (by have := hb.size; omega) X Y)
  have HV := Lh (partsV_false ho)
  have HV2 := Lh (show partsV xs false = partsTo xs false 100 by unfold partsV; rw [if_pos ho])
  rw [okRB_of ho] at HOk
  clear hx hn h ho
  go_enter Tryz.func95, Tryz.ntmps95
  go_wp2_with fail
  have T1 := T0.out 26
  clear T0
  refine (HOk.out _ T1.1).mono ?_
  rintro e w1 ⟨rfl, hb1⟩
  have T2 := T1.on hb1
  clear T1 hb1 HOk
  obtain ⟨hbw, hsz, cr⟩ := id T2
  go_wp2_with (first
   | (at_make; refine wpList_make_full _ rfl _ _ 24 rfl w1.heap.size 3 i0 (.int .i64 0) 1 Tryz.underlying24 hi hz0 hz1 .i64 .i64 100 100 100 rfl rfl (by rfl) (by rfl) (by rw [hz2]; omega) (by unfold maxLen; omega) NR ?_; intro w2 hown2 hg2))
  rw [mark_zero] at hown2
  have hb2 := (Below.refl w1.heap.size w1).grown hg2 NR (by simp)
  have HPO := Lh (show PO w1 w1.heap.size (fun _ => false) w2 from ⟨hb2, (hown2.lt w1.heap.size rfl).2, ⟨hown2, fun g hg => by simp [Value.ownBlock] at hg; omega⟩⟩)
  have HBox := Lh (fun W (hb : Below w1.heap.size w1 W) => show W.cell? ⟨w.heap.size, 0, none⟩ = some (.slice A n cap) from (hb.cell (by show w.heap.size < _; omega)).trans cr)
  have HW1 := Lh hbw
  have hsbw : w.heap.size < w1.heap.size := by omega
  clear hown2 hg2 hb2 cr T2 hbw hsz
  generalize hsb : w1.heap.size = sb at HPO HBox hsbw ⊢
  have HSb := Lh hsb
  clear hsb
  go_loopw [5, 6] (fun c i wr => ∃ (k : Nat) (M : Nat → Bool), k ≤ 100 ∧ i = .int .i64 k ∧ c = .int .i64 (((partsTo xs false k : Nat) : Int) - 1) ∧ Cl xs false k M ∧ PO w1 sb M wr) (fun _ i _ => 100 - (intOf i).toNat)
  case atStart => exact ⟨0, _, by omega, rfl, rfl, Cl.start xs false, HPO.out⟩
  case round =>
   clear HPO
   obtain ⟨k, M, hk, rfl, rfl, hcl, hpo⟩ := hrel
   have HCl := Lh hcl
   have HPo := Lh hpo
   have HPl := Lh (show partsTo xs false k ≤ k from cnt_max _ k)
   by_cases hlt : k < 100
   ·obtain ⟨X, hX⟩ : ∃ X, X = (plC k).1 := ⟨_, rfl⟩
    obtain ⟨Y, hY⟩ : ∃ Y, Y = (plC k).2 := ⟨_, rfl⟩
    have ht1 : (k : Int).tmod 10 = ((k % 10 : Nat) : Int) := by rw [Int.tmod_eq_emod_of_nonneg (by omega)]; rfl
    have ht2 : (k : Int) / 10 = ((k / 10 : Nat) : Int) := rfl
    have hw1 : IntKind.i64.wrap ((k : Int).tmod 10 - 1) = X := by
     rw [ht1, hX]; unfold plC; simp only
     generalize hm : k % 10 = m
     have : m < 10 := by omega
     rw [IntKind.wrap_i64]; omega
    have hw0 : IntKind.i64.wrap ((k : Int) / 10) = ((k / 10 : Nat) : Int) := by
     rw [ht2]
     generalize hm : k / 10 = m
     have : m < 10 := by omega
     rw [IntKind.wrap_i64]; omega
    have hw2 : IntKind.i64.wrap (IntKind.i64.wrap ((k : Int) / 10) - 1) = Y := by
     rw [hw0, hY]; unfold plC; simp only
     generalize hm : k / 10 = m
     have : m < 10 := by omega
     rw [IntKind.wrap_i64]; omega
    clear ht1 ht2 hw0
    have HXY := Lh (And.intro hX hY)
    clear hX hY
    go_wp2_with fail
    refine wp_region_noPanic ?_
    refine wp_region_held_drew (S := fun _ => True) (by kernel_rfl) trivial (fun hHeld => ?_)
    refine tk 0 ?_; try simp only [Act.put, zk]
    refine tk 1 ?_; try simp only [Act.put, zk]
    refine tk 2 ?_; try simp only [Act.put, zk]
    refine tk 3 ?_; try simp only [Act.put, zk]
    refine tk 4 ?_; try simp only [Act.put, zk]
    refine tk 5 ?_; try simp only [Act.put, zk]
    refine tk 6 ?_; try simp only [Act.put, zk]
    refine tk 7 ?_; try simp only [Act.put, zk]
    refine tk 8 ?_; try simp only [Act.put, zk]
    refine tr 9 fun K hK => ?_
    go_simp
    refine hK.out _ _ trivial (fun hHeld => ?_)
    clear hK K
    try simp only [Act.put, zk]
    refine tr 10 fun K hK => ?_
    go_simp
    refine hK.out _ _ trivial (fun hHeld => ?_)
    clear hK K
    try simp only [Act.put, zk]
    refine wpAnyH_done (by kernel_rfl) (NoPanic.normal ?_) _
    have hbl := heap_alloc_new wr (.cells #[.int .i64 X, .int .i64 Y] 79)
    have hB3 : Below wr.heap.size wr (wr.alloc (.cells #[.int .i64 X, .int .i64 Y] 79)).drew := (below_alloc1 wr _).drew
    have hx3 : (wr.alloc (.cells #[.int .i64 X, .int .i64 Y] 79)).drew.cell? ⟨wr.heap.size, 0, none⟩ = some (.int .i64 X) := (cell_of_row _ _ 0 _ _ _ hbl).trans rfl
    have hy3 : (wr.alloc (.cells #[.int .i64 X, .int .i64 Y] 79)).drew.cell? ⟨wr.heap.size, 1, none⟩ = some (.int .i64 Y) := (cell_of_row _ _ 1 _ _ _ hbl).trans rfl
    have HPo3 := Lh (HPo.out.on hB3)
    have hdk : decide ((k : Int) < 100) = true := decide_eq_true (by omega)
    have hm3 := HPo3.out.cell hlt
    have cr3 := HBox.out _ HPo3.out.1
    have HB3 := Lh (HW1.out.trans (HPo3.out.1.mono (by omega)))
    clear hHeld hw1 hw2 hbl hB3 hcl hpo HPo
    generalize wr.heap.size = pc at hx3 hy3 ⊢
    generalize (wr.alloc (.cells #[.int .i64 X, .int .i64 Y] 79)).drew = W3 at hx3 hy3 HPo3 hm3 cr3 HB3 ⊢
    cases hMk : M k with
    | true =>
     have HNx := Lh (HCl.out.old hlt hMk)
     rw [hMk] at hm3
     have hm3 : W3.cell? ⟨sb, k, none⟩ = some (.int .i64 1) := hm3
     clear hMk
     go_wp2
     go_roundw
     case rel => exact ⟨k + 1, M, by omega, by go_num, by rw [HNx.out.2], HNx.out.1, HPo3.out⟩
     case measure => (simp [intOf] <;> omega)
    | false =>
     have HMk := Lh hMk
     rw [hMk] at hm3
     have hm3 : W3.cell? ⟨sb, k, none⟩ = some (.int .i64 0) := hm3
     clear hMk
     go_wp2_with fail
     refine (HHas.out W3 k hlt HB3.out X Y HXY.out.1 HXY.out.2).mono ?_
     rintro e w4 ⟨rfl, hb4⟩
     have HPo4 := Lh (HPo3.out.on hb4)
     clear hm3 hx3 hy3 cr3 hb4 HPo3 HB3
     cases hcR : cR xs k with
     | true =>
      have HNx := Lh (HCl.out.out (show clsF xs false k = false by unfold clsF; rw [hcR]; rfl))
      clear hcR
      go_wp2
      go_roundw
      case rel => exact ⟨k + 1, M, by omega, by go_num, by rw [HNx.out.2], HNx.out.1, HPo4.out⟩
      case measure => (simp [intOf] <;> omega)
     | false =>
      have HCk := Lh (show clsF xs false k = true by unfold clsF; rw [hcR]; rfl)
      have HSt := Lh (Lst.start (xs := xs) (g := false) (M := M) hlt HMk.out HCk.out)
      have hm4 := HPo4.out.cell hlt
      have hf4 := HPo4.out.frozen k
      have HPs := Lh (ph_start HPo4.out k)
      have hpl := HPl.out
      have hpk : ((partsTo xs false k : Nat) : Int) ≤ 100 := by omega
      generalize hpz : ((partsTo xs false k : Nat) : Int) = pz at hpk ⊢
      have HPz := Lh hpz
      have hpz0 : 0 ≤ pz := by omega
      clear hcR hpl hpz
      go_wp2_with fail
      generalize hlb : w4.heap.size = lb at HPs ⊢
      generalize (w4.setCell ⟨sb, k, none⟩ (.int .i64 1)).alloc (.cells #[.int .i64 (k : Int)] 3) = W5 at HPs ⊢
      clear hm4 hf4 hlb HPo4
      go_loopw [8, 9] (fun lv i wr => ∃ (q : Nat) (L : List Nat) (M' : Nat → Bool) (lg lc : Nat), q ≤ L.length ∧ i = .int .i64 q ∧ lv = .slice (some ⟨lg, 0, none⟩) L.length lc ∧ Lst xs false M k L M' q [] ∧ PH w1 sb lb M' L lg lc wr) (fun _ i _ => 100 - (intOf i).toNat)
      case atStart => exact ⟨0, [k], _, _, _, Nat.zero_le _, rfl, rfl, HSt.out, HPs.out⟩
      case round =>
       clear HPs HSt
       obtain ⟨q, L, M', lg, lc, hq, rfl, rfl, hlst, hph⟩ := hrel
       have hl100 := hlst.short
       have HLst := Lh hlst
       have HPh := Lh hph
       by_cases hlq : q < L.length
       ·obtain ⟨u, hu⟩ : ∃ u, L[q]? = some u := ⟨_, List.getElem?_eq_getElem hlq⟩
        have hu100 := (hlst.2.2.2.1 u (List.mem_of_getElem? hu)).1
        have HU := Lh hu
        obtain ⟨U, hUe⟩ : ∃ U : Int, U = ((u % 10 : Nat) : Int) := ⟨_, rfl⟩
        obtain ⟨V, hVe⟩ : ∃ V : Int, V = ((u / 10 : Nat) : Int) := ⟨_, rfl⟩
        have hU1 : (u : Int) % 10 = U := by rw [hUe]; rfl
        have hU2 : (u : Int).tmod 10 = U := by rw [Int.tmod_eq_emod_of_nonneg (by omega), hU1]
        have hV1 : (u : Int) / 10 = V := by rw [hVe]; rfl
        have hU0 : 0 ≤ U := by omega
        have hU9 : U ≤ 9 := by omega
        have hV0 : 0 ≤ V := by omega
        have hV9 : V ≤ 9 := by omega
        have HWi := Lh (fun d r (hr : r < 3) => show inTo u (3 * d + r) = true ↔ (0 ≤ U + ((r : Int) - 1) ∧ U + ((r : Int) - 1) ≤ 9) ∧ (0 ≤ V + ((d : Int) - 1) ∧ V + ((d : Int) - 1) ≤ 9) by rw [hUe, hVe]; exact way_in hu100 hr)
        have HWt := Lh (fun d r (hr : r < 3) (hi : inTo u (3 * d + r) = true) => show ((toP u (3 * d + r) : Nat) : Int) = (V + ((d : Int) - 1)) * 10 + (U + ((r : Int) - 1)) ∧ plC (toP u (3 * d + r)) = (U + ((r : Int) - 1) - 1, V + ((d : Int) - 1) - 1) ∧ toP u (3 * d + r) < 100 by rw [hUe, hVe]; exact way_to hu100 hr hi)
        have HWj := Lh (fun d r (hd : d < 3) (hr : r < 3) (hi : inTo u (3 * d + r) = true) => way_join (u := u) hd hr hi)
        have HJ0 := Lh (show ringTo u (3 * 0) = [] from rfl)
        have HJ9 := Lh (show ringTo u (3 * 3) = joinF false u from rfl)
        clear hlst hph hu hUe hVe hu100
        go_wp2_with fail
        go_loopw [8, 10] (fun lv i wr => ∃ (d : Nat) (L : List Nat) (M' : Nat → Bool) (lg lc : Nat), d ≤ 3 ∧ i = .int .i64 ((d : Int) - 1) ∧ lv = .slice (some ⟨lg, 0, none⟩) L.length lc ∧ L[q]? = some u ∧ Lst xs false M k L M' q (ringTo u (3 * d)) ∧ PH w1 sb lb M' L lg lc wr) (fun _ i _ => 3 - ((intOf i) + 1).toNat)
        case atStart => exact ⟨0, L, M', lg, lc, by omega, rfl, rfl, HU.out, by rw [HJ0.out]; exact HLst.out, HPh.out⟩
        case round =>
         clear HPh HLst HU hl100 hlq hq
         obtain ⟨d, L, M', lg, lc, hd, rfl, rfl, hu, hlst, hph⟩ := hrel
         have HLst := Lh hlst
         have HPh := Lh hph
         have HU := Lh hu
         by_cases hld : d < 3
         ·clear hu hlst hph
          have hdd : decide ((d : Int) - 1 ≤ 1) = true := decide_eq_true (by omega)
          go_wp2_with fail
          go_loopw [8, 11] (fun lv i wr => ∃ (r : Nat) (L : List Nat) (M' : Nat → Bool) (lg lc : Nat), r ≤ 3 ∧ i = .int .i64 ((r : Int) - 1) ∧ lv = .slice (some ⟨lg, 0, none⟩) L.length lc ∧ L[q]? = some u ∧ Lst xs false M k L M' q (ringTo u (3 * d + r)) ∧ PH w1 sb lb M' L lg lc wr) (fun _ i _ => 3 - ((intOf i) + 1).toNat)
          case atStart => exact ⟨0, L, M', lg, lc, by omega, rfl, rfl, HU.out, HLst.out, HPh.out⟩
          case round =>
           clear HPh HLst HU hd
           obtain ⟨r, L, M', lg, lc, hr, rfl, rfl, hu, hlst, hph⟩ := hrel
           have HLst := Lh hlst
           have HPh := Lh hph
           have HU := Lh hu
           have hl100 := hlst.short
           by_cases hlr : r < 3
           ·have hcl := HPh.out.list hu
            have hql : q < L.length := by
             rcases Nat.lt_or_ge q L.length with q2 | q2
             ·exact q2
             ·rw [List.getElem?_eq_none q2] at hu; cases hu
            obtain ⟨x, hx⟩ : ∃ x, U + ((r : Int) - 1) = x := ⟨_, rfl⟩
            obtain ⟨y, hy⟩ : ∃ y, V + ((d : Int) - 1) = y := ⟨_, rfl⟩
            have hi := HWi.out d r hlr
            have ht := HWt.out d r hlr
            rw [hx, hy] at hi ht
            have hx0 : -1 ≤ x := by omega
            have hx1 : x ≤ 10 := by omega
            have hy0 : -1 ≤ y := by omega
            have hy1 : y ≤ 10 := by omega
            have HI := Lh hi
            have HTt := Lh ht
            clear hu hlst hph hi ht
            go_wp2_with fail
            refine (l01In x 0 9 _).mono ?_
            rintro e w6 ⟨rfl, rfl⟩
            by_cases hxi : 0 ≤ x ∧ x ≤ 9
            ·rw [inB_of hxi]
             go_wp2_with fail
             refine (l01In y 0 9 _).mono ?_
             rintro e w6 ⟨rfl, rfl⟩
             by_cases hyi : 0 ≤ y ∧ y ≤ 9
             ·rw [inB_of hyi]
              have hin : inTo u (3 * d + r) = true := HI.out.2 ⟨hxi, hyi⟩
              obtain ⟨hp1, hp2, hp100⟩ := HTt.out hin
              have hrt := ringTo_yes hin
              have hpj := HWj.out d r hld hlr hin
              generalize toP u (3 * d + r) = p at hp1 hp2 hp100 hrt hpj
              have HRt := Lh hrt
              have HPj := Lh hpj
              have hp1' : y * 10 + x = (p : Int) := hp1.symm
              have HXp := Lh (show x - 1 = (plC p).1 ∧ y - 1 = (plC p).2 by rw [hp2]; exact ⟨rfl, rfl⟩)
              have hmc := HPh.out.1.cell hp100
              have hpI : (p : Int) < 100 := by omega
              clear hin hrt hpj hp1 hp2
              cases hMp : M' p with
              | true =>
               have HNx := Lh (show Lst xs false M k L M' q (ringTo u (3 * d + (r + 1))) by rw [← Nat.add_assoc, HRt.out]; exact HLst.out.skip (fun _ => hMp))
               rw [hMp] at hmc
               change _ = some (Value.int .i64 1) at hmc
               clear hMp hcl
               go_wp2
               go_roundw
               case rel => exact ⟨r + 1, L, M', lg, lc, by omega, by go_num, rfl, HU.out, HNx.out, HPh.out⟩
               case measure => (simp [intOf] <;> omega)
              | false =>
               have HMp := Lh hMp
               rw [hMp] at hmc
               change _ = some (Value.int .i64 0) at hmc
               have cr := HBox.out _ HPh.out.1.1
               clear hMp hcl
               go_wp2_with fail
               refine (HHas.out _ p hp100 (HW1.out.trans (HPh.out.1.1.mono (by omega))) (x - 1) (y - 1) HXp.out.1 HXp.out.2).mono ?_
               rintro e w7 ⟨rfl, hb7⟩
               have HP7 := Lh (HPh.out.on hb7)
               clear hmc cr hb7
               cases hcp : cR xs p with
               | true =>
                have HNx := Lh (show Lst xs false M k L M' q (ringTo u (3 * d + (r + 1))) by rw [← Nat.add_assoc, HRt.out]; exact HLst.out.skip (fun q2 => by unfold clsF at q2; rw [hcp] at q2; cases q2))
                clear hcp
                go_wp2
                go_roundw
                case rel => exact ⟨r + 1, L, M', lg, lc, by omega, by go_num, rfl, HU.out, HNx.out, HP7.out⟩
                case measure => (simp [intOf] <;> omega)
               | false =>
                have HCp := Lh (show clsF xs false p = true by unfold clsF; rw [hcp]; rfl)
                have HNx := Lh (show Lst xs false M k (L ++ [p]) (putM M' p) q (ringTo u (3 * d + (r + 1))) by rw [← Nat.add_assoc, HRt.out]; exact HLst.out.put HU.out HPj.out HCp.out HMp.out)
                have hm7 := HP7.out.1.cell hp100
                have hf7 := HP7.out.1.frozen p
                have hP8 := HP7.out.mark p
                have HP8 := Lh hP8
                have HO8 := Lh hP8.2.2.2
                have hlb := hP8.2.2.1
                generalize hW8 : w7.setCell ⟨sb, p, none⟩ (.int .i64 1) = W8 at hP8 HP8 HO8 hlb
                clear hcp hP8
                go_wp2_with (first
                 | (at_builtin; refine App.wpList_append_at _ rfl _ _ 24 rfl lb 3 i0 (.int .i64 0) 1 8 Tryz.underlying24 hi hz0 hz1 hz2 rfl (by decide) lg lc L.length (ints (plI L)) rfl (HO8.out.alloc _) ⟨W8.heap.size, 0, none⟩ 1 1 [.int .i64 (p : Int)] rfl rfl (World.news_of_block (cs := #[.int .i64 (p : Int)]) (t := 3) (fr := (0, 0)) (heap_alloc_new W8 _)) (by simp [Value.oneCell']) (by unfold maxLen; omega) (by omega) (by simp; omega) ?_; intro v2 w8 hown8 hgrow hwh))
                obtain ⟨lg2, hlg2⟩ : ∃ lg2, v2.ownBlock = some lg2 := by
                 rcases hwh with q2 | q2
                 ·exact ⟨lg, q2⟩
                 ·exact ⟨_, q2⟩
                obtain ⟨lc2, rfl⟩ := own_form hown8 hlg2
                have HP9 := Lh ((HP8.out.on (below_alloc1 W8 (.cells #[.int .i64 (p : Int)] 3))).app (p := p) hown8 hgrow)
                have HLn := Lh (show (L ++ [p]).length = L.length + 1 by rw [List.length_append]; rfl)
                have HUn := Lh (show (L ++ [p])[q]? = some u by
                 have q3 := HU.out
                 have hkl : q < L.length := by
                  rcases Nat.lt_or_ge q L.length with q2 | q2
                  ·exact q2
                  ·rw [List.getElem?_eq_none q2] at q3; cases q3
                 rw [List.getElem?_append_left hkl]; exact q3)
                clear hown8 hgrow hwh hlg2 hW8 hm7 hf7
                go_roundw
                case rel => exact ⟨r + 1, L ++ [p], putM M' p, lg2, lc2, by omega, by go_num, by rw [HLn.out], HUn.out, HNx.out, HP9.out⟩
                case measure => (simp [intOf] <;> omega)
             ·rw [inB_not hyi]
              have hno : inTo u (3 * d + r) = false := by
               cases q2 : inTo u (3 * d + r)
               ·rfl
               ·exact absurd (HI.out.1 q2).2 hyi
              have HNx := Lh (show Lst xs false M k L M' q (ringTo u (3 * d + (r + 1))) by rw [← Nat.add_assoc, ringTo_no hno]; exact HLst.out)
              clear hno hcl
              go_wp2
              go_roundw
              case rel => exact ⟨r + 1, L, M', lg, lc, by omega, by go_num, rfl, HU.out, HNx.out, HPh.out⟩
              case measure => (simp [intOf] <;> omega)
            ·rw [inB_not hxi]
             have hno : inTo u (3 * d + r) = false := by
              cases q2 : inTo u (3 * d + r)
              ·rfl
              ·exact absurd (HI.out.1 q2).1 hxi
             have HNx := Lh (show Lst xs false M k L M' q (ringTo u (3 * d + (r + 1))) by rw [← Nat.add_assoc, ringTo_no hno]; exact HLst.out)
             clear hno hcl
             go_wp2
             go_roundw
             case rel => exact ⟨r + 1, L, M', lg, lc, by omega, by go_num, rfl, HU.out, HNx.out, HPh.out⟩
             case measure => (simp [intOf] <;> omega)
           ·obtain rfl : r = 3 := by omega
            have HNx := Lh (show Lst xs false M k L M' q (ringTo u (3 * (d + 1))) by rw [show 3 * (d + 1) = 3 * d + 3 by omega]; exact HLst.out)
            clear hu hlst hph
            go_wp2
            go_roundw
            case rel => exact ⟨d + 1, L, M', lg, lc, by omega, by go_num, rfl, HU.out, HNx.out, HPh.out⟩
            case measure => (simp [intOf] <;> omega)
         ·obtain rfl : d = 3 := by omega
          have HNx := Lh (show Lst xs false M k L M' (q + 1) [] by have q2 := HLst.out; rw [HJ9.out] at q2; exact q2.next HU.out)
          have hql : q < L.length := by
           rcases Nat.lt_or_ge q L.length with q2 | q2
           ·exact q2
           ·rw [List.getElem?_eq_none q2] at hu; cases hu
          have hl100 := hlst.short
          clear hu hlst hph
          go_wp2
          go_roundw
          case rel => exact ⟨q + 1, L, M', lg, lc, by omega, by go_num, rfl, HNx.out, HPh.out⟩
          case measure => (simp [intOf] <;> omega)
       ·obtain rfl : q = L.length := by omega
        have HNx := Lh (HCl.out.new hlt HCk.out HMk.out hlst.done)
        have HPn := Lh (show pz = ((partsTo xs false (k + 1) : Nat) : Int) - 1 by rw [HNx.out.2, ← HPz.out]; omega)
        clear hlst hph HLst
        go_wp2
        go_roundw
        case rel => exact ⟨k + 1, M', by omega, by go_num, by rw [HPn.out], HNx.out.1, HPh.out.1⟩
        case measure => (simp [intOf] <;> omega)
   ·obtain rfl : k = 100 := by omega
    have hb := HW1.out.trans (hpo.1.mono (by omega))
    clear hcl hpo
    go_wp2
    go_ret
    exact mkNum (by have h1 := HV.out; have h2 := HV2.out; rw [h2] at h1; omega) hb
 ·have HE := Lh (show (0 : Int) = ((holN xs : Nat) : Int) by unfold holN; rw [if_neg ho]; rfl)
  rw [okRB_not ho] at HOk
  clear hx hn h ho
  go_enter Tryz.func95, Tryz.ntmps95
  go_wp2_with fail
  have T1 := T0.out 26
  clear T0
  refine (HOk.out _ T1.1).mono ?_
  rintro e w1 ⟨rfl, hb1⟩
  have hbw := (T1.on hb1).1
  clear T1 hb1 HOk
  go_wp2
  go_ret
  exact mkNum HE.out hbw
end Go.Proofs.YtmajllgfmclcoaaGreatDoor.Flo
namespace Go.Proofs.YtmajllgfmclcoaaGreatDoor.Flo
open Go.RowKit Go.Proofs.YtmajllgfmclcoaaGreatDoor.Pure Go.Proofs.YtmajllgfmclcoaaGreatDoor.Cell Reg Go.Joins
def simB (xs : List Int) : Bool := decide (okR xs ∧ pcsN xs = 1 ∧ holN xs = 0 ∧ touchB xs = false)
set_option maxRecDepth 100000 in
set_option maxHeartbeats 2000000 in
theorem iIsSimple (w : World) (A : Option Addr) (n cap B : Nat) (xs : List Int) (hx : xs.length = n) (hn : (n : Int) ≤ 9223372036854775807) (h : RowB w B A xs) (hB : B ≤ w.heap.size) :
  Calls Tryz.prog 51 #[.agg #[.slice A n cap]] w (Bol (simB xs) w) := by
 have HOk := Lh (fun W (hb : Below w.heap.size w W) => iRegionOk W A n cap B xs hx hn (h.below hb hB) (by have := hb.size; omega))
 have HPc := Lh (fun W (hb : Below w.heap.size w W) => iCountPieces W A n cap B xs hx hn (h.below hb hB) (by have := hb.size; omega))
 have HHl := Lh (fun W (hb : Below w.heap.size w W) => iCountHoles W A n cap B xs hx hn (h.below hb hB) (by have := hb.size; omega))
 have HTc := Lh (fun W (ho : okR xs) (hb : Below w.heap.size w W) => iTouches W A n cap B xs hx hn ho (h.below hb hB) (by have := hb.size; omega))
 have T0 := Lh (fun T => rb_start (T := T) (.slice A n cap) w)
 have HV := Lh (show simB xs = decide (okR xs ∧ pcsN xs = 1 ∧ holN xs = 0 ∧ touchB xs = false) from rfl)
 have hp := pcsN_le xs
 have hh := holN_le xs
 clear hx hn h
 go_enter Tryz.func51, Tryz.ntmps51
 go_wp2_with fail
 have T1 := T0.out 26
 clear T0
 refine (HOk.out _ T1.1).mono ?_
 rintro e w1 ⟨rfl, hb1⟩
 have T2 := T1.on hb1
 clear T1 hb1 HOk
 obtain ⟨hbw, _, c0⟩ := id T2
 by_cases ho : okR xs
 ·have HTc' := Lh (fun W hb => HTc.out W ho hb)
  have HO := Lh ho
  rw [okRB_of ho]
  generalize pcsN xs = pn at HPc HV hp
  generalize holN xs = hl at HHl HV hh
  generalize touchB xs = tb at HTc' HV
  clear HTc ho
  go_wp2_with fail
  refine (HPc.out _ hbw).mono ?_
  rintro e w2 ⟨rfl, hb2⟩
  have T3 := T2.on hb2
  clear hb2 HPc T2 c0 hbw
  obtain ⟨hbw, _, c0⟩ := id T3
  by_cases h1 : pn = 1
  ·subst h1
   go_wp2_with fail
   refine (HHl.out _ hbw).mono ?_
   rintro e w3 ⟨rfl, hb3⟩
   have T4 := T3.on hb3
   clear hb3 HHl T3 c0 hbw
   obtain ⟨hbw, _, c0⟩ := id T4
   by_cases h2 : hl = 0
   ·subst h2
    go_wp2_with fail
    refine (HTc'.out _ hbw).mono ?_
    rintro e w4 ⟨rfl, hb4⟩
    have hb := (T4.on hb4).1
    clear hb4 HTc' T4 c0 hbw
    cases tb
    ·go_wp2
     go_ret
     exact mkBol (by rw [HV.out, decide_eq_true ⟨HO.out, by simp, by simp, by simp⟩]) hb
    ·go_wp2
     go_ret
     exact mkBol (by rw [HV.out, decide_eq_false (fun q => by cases q.2.2.2)]) hb
   ·have h2i : ((hl : Nat) : Int) ≠ 0 := by omega
    have h2b : (((hl : Nat) : Int) == 0) = false := by simp; omega
    clear HTc' T4
    go_wp2
    go_ret
    exact mkBol (by rw [HV.out, decide_eq_false (fun q => h2 q.2.2.1)]) hbw
  ·have h1b : (((pn : Nat) : Int) == 1) = false := by simp; omega
   clear HTc' T3 HHl
   go_wp2
   go_ret
   exact mkBol (by rw [HV.out, decide_eq_false (fun q => h1 q.2.1)]) hbw
 ·have HR := Lh (show simB xs = false by rw [HV.out]; exact decide_eq_false (fun q => ho q.1))
  rw [okRB_not ho]
  clear T2 HPc HHl HTc ho HV
  go_wp2
  go_ret
  exact mkBol HR.out.symm hbw
set_option maxRecDepth 100000 in
set_option maxHeartbeats 2000000 in
theorem sIsSimple (w : World) (A : Option Addr) (n cap B : Nat) (xs : List Int) (hx : xs.length = n) (hn : (n : Int) ≤ 9223372036854775807) (h : RowB w B A xs) (hB : B ≤ w.heap.size) :
  Calls Tryz.prog 67 #[.agg #[.slice A n cap]] w (Bol (simB xs) w) := by
 have HOk := Lh (fun W (hb : Below w.heap.size w W) => sRegionOk W A n cap B xs hx hn (h.below hb hB) (by have := hb.size; omega))
 have HPc := Lh (fun W (hb : Below w.heap.size w W) => sCountPieces W A n cap B xs hx hn (h.below hb hB) (by have := hb.size; omega))
 have HHl := Lh (fun W (hb : Below w.heap.size w W) => sCountHoles W A n cap B xs hx hn (h.below hb hB) (by have := hb.size; omega))
 have HTc := Lh (fun W (ho : okR xs) (hb : Below w.heap.size w W) => sTouches W A n cap B xs hx hn ho (h.below hb hB) (by have := hb.size; omega))
 have T0 := Lh (fun T => rb_start (T := T) (.slice A n cap) w)
 have HV := Lh (show simB xs = decide (okR xs ∧ pcsN xs = 1 ∧ holN xs = 0 ∧ touchB xs = false) from rfl)
 have hp := pcsN_le xs
 have hh := holN_le xs
 clear hx hn h
 go_enter Tryz.func67, Tryz.ntmps67
 go_wp2_with fail
 have T1 := T0.out 26
 clear T0
 refine (HOk.out _ T1.1).mono ?_
 rintro e w1 ⟨rfl, hb1⟩
 have T2 := T1.on hb1
 clear T1 hb1 HOk
 obtain ⟨hbw, _, c0⟩ := id T2
 by_cases ho : okR xs
 ·have HTc' := Lh (fun W hb => HTc.out W ho hb)
  have HO := Lh ho
  rw [okRB_of ho]
  generalize pcsN xs = pn at HPc HV hp
  generalize holN xs = hl at HHl HV hh
  generalize touchB xs = tb at HTc' HV
  clear HTc ho
  go_wp2_with fail
  refine (HPc.out _ hbw).mono ?_
  rintro e w2 ⟨rfl, hb2⟩
  have T3 := T2.on hb2
  clear hb2 HPc T2 c0 hbw
  obtain ⟨hbw, _, c0⟩ := id T3
  by_cases h1 : pn = 1
  ·subst h1
   go_wp2_with fail
   refine (HHl.out _ hbw).mono ?_
   rintro e w3 ⟨rfl, hb3⟩
   have T4 := T3.on hb3
   clear hb3 HHl T3 c0 hbw
   obtain ⟨hbw, _, c0⟩ := id T4
   by_cases h2 : hl = 0
   ·subst h2
    go_wp2_with fail
    refine (HTc'.out _ hbw).mono ?_
    rintro e w4 ⟨rfl, hb4⟩
    have hb := (T4.on hb4).1
    clear hb4 HTc' T4 c0 hbw
    cases tb
    ·go_wp2
     go_ret
     exact mkBol (by rw [HV.out, decide_eq_true ⟨HO.out, by simp, by simp, by simp⟩]) hb
    ·go_wp2
     go_ret
     exact mkBol (by rw [HV.out, decide_eq_false (fun q => by cases q.2.2.2)]) hb
   ·have h2i : ((hl : Nat) : Int) ≠ 0 := by omega
    have h2b : (((hl : Nat) : Int) == 0) = false := by simp; omega
    clear HTc' T4
    go_wp2
    go_ret
    exact mkBol (by rw [HV.out, decide_eq_false (fun q => h2 q.2.2.1)]) hbw
  ·have h1b : (((pn : Nat) : Int) == 1) = false := by simp; omega
   clear HTc' T3 HHl
   go_wp2
   go_ret
   exact mkBol (by rw [HV.out, decide_eq_false (fun q => h1 q.2.1)]) hbw
 ·have HR := Lh (show simB xs = false by rw [HV.out]; exact decide_eq_false (fun q => ho q.1))
  rw [okRB_not ho]
  clear T2 HPc HHl HTc ho HV
  go_wp2
  go_ret
  exact mkBol HR.out.symm hbw
end Go.Proofs.YtmajllgfmclcoaaGreatDoor.Flo
namespace Go.Proofs.YtmajllgfmclcoaaGreatDoor.Hgt
open Go.RowKit Go.Proofs.YtmajllgfmclcoaaGreatDoor.Pure Dms Til Go.Joins
open Flo (simB touchB_iff holN pcsN)
open Bal (piecesN outsN outs_pos)
theorem crn_any {xs : List Int} {v : Nat} : crnB xs v = true ↔ ∃ i : Nat, i < 4 ∧ hasB xs (((v % 9 : Nat) : Int) - ((i % 2 : Nat) : Int)) (((v / 9 : Nat) : Int) - ((i / 2 : Nat) : Int)) = true := by
 unfold crnB gX
 simp only [Bool.or_eq_true]
 rw [show ((v % 9 + 1 : Nat) : Int) - 1 = ((v % 9 : Nat) : Int) by omega, show ((v / 9 + 1 : Nat) : Int) - 1 = ((v / 9 : Nat) : Int) by omega]
 have z : ((0 % 2 : Nat) : Int) = 0 ∧ ((0 / 2 : Nat) : Int) = 0 ∧ ((1 % 2 : Nat) : Int) = 1 ∧ ((1 / 2 : Nat) : Int) = 0 ∧ ((2 % 2 : Nat) : Int) = 0 ∧ ((2 / 2 : Nat) : Int) = 1 ∧ ((3 % 2 : Nat) : Int) = 1 ∧ ((3 / 2 : Nat) : Int) = 1 := by decide
 obtain ⟨z1, z2, z3, z4, z5, z6, z7, z8⟩ := z
 constructor
 ·rintro (((h | h) | h) | h)
  ·exact ⟨3, by omega, by rw [z7]; exact h⟩
  ·exact ⟨2, by omega, by rw [z5, z6, Int.sub_zero]; exact h⟩
  ·exact ⟨1, by omega, by rw [z3, z4, Int.sub_zero]; exact h⟩
  ·exact ⟨0, by omega, by rw [z1, Int.sub_zero, Int.sub_zero]; exact h⟩
 ·rintro ⟨i, hi, h⟩
  have h4 : i = 0 ∨ i = 1 ∨ i = 2 ∨ i = 3 := by omega
  rcases h4 with rfl | rfl | rfl | rfl
  ·rw [z1, Int.sub_zero, Int.sub_zero] at h; exact .inr h
  ·rw [z3, z4, Int.sub_zero] at h; exact .inl (.inr h)
  ·rw [z5, z6, Int.sub_zero] at h; exact .inl (.inl (.inr h))
  ·rw [z7] at h; exact .inl (.inl (.inl h))
theorem sim_parts {xs : List Int} (h : simB xs = true) : okR xs ∧ piecesN xs = 1 ∧ One (gX xs) := by
 unfold simB at h
 obtain ⟨ok, h1, h0, ht⟩ := of_decide_eq_true h
 unfold pcsN at h1
 rw [if_pos ok] at h1
 have ho : outsN xs = 1 := by
  unfold holN at h0
  rw [if_pos ok] at h0
  have := outs_pos xs
  omega
 exact ⟨ok, h1, one_simple ok ho (fun t => by rw [touchB_iff.2 t] at ht; cases ht)⟩
theorem lc_ex {xs : List Int} {x y : Int} (h : hasB xs x y = true) : lc xs < 81 ∧ crnB xs (lc xs) = true ∧ ∀ v, v < lc xs → crnB xs v = false := by
 obtain ⟨a, b, ea, eb, g⟩ := gX_has h
 have l := gX_lt g
 have c : crnB xs (9 * (b - 1) + (a - 1)) = true := crn_iff.2 ⟨_, _, g, .inl (by omega), .inl (by omega)⟩
 unfold lc
 cases q : (List.range 81).find? (crnB xs) with
 | none =>
  have := List.find?_eq_none.1 q (9 * (b - 1) + (a - 1)) (List.mem_range.2 (by omega))
  rw [c] at this
  simp at this
 | some m =>
  obtain ⟨h1, i, hi, e, hl⟩ := List.find?_eq_some_iff_getElem.1 q
  rw [List.getElem_range] at e
  rw [List.length_range] at hi
  subst e
  refine ⟨hi, h1, fun v hv => ?_⟩
  have := hl v hv
  rw [List.getElem_range] at this
  simpa using this
theorem hts_ex {xs : List Int} {L : List Dm} (h : simB xs = true) (ht : tilB xs L = true) : ∃ f, Hts (gX xs) (xL L) (yL L) f := (tl_of ht).heights (sim_parts h).2.2
theorem hv_step {xs : List Int} {L : List Dm} {f : Fm} (hf : Hts (gX xs) (xL L) (yL L) f) : ∀ d v w, Lk xs (xL L) (yL L) d v w → hv xs f w = hv xs f v + es d v := fun d v w h => by
 have := h.step hf
 unfold hv
 omega
theorem hv_zero (xs : List Int) (f : Fm) : hv xs f (lc xs) = 0 := by unfold hv; omega
theorem cnt_none : ∀ n, Euler.cnt n (fun _ => false) = 0
 | 0 => rfl
 | n + 1 => by simp only [Euler.cnt]; rw [cnt_none n]; rfl
theorem cell_ex {xs : List Int} (ok : okR xs) (h1 : piecesN xs = 1) : ∃ x y, hasB xs x y = true := by
 refine Classical.byContradiction fun hno => ?_
 have e : piecesN xs = Euler.cnt 64 (fun _ => false) := by
  unfold piecesN
  refine Euler.cnt_same 64 (fun v hv => ?_)
  have : Bal.bitI xs v = false := by
   have hb := Bal.hasB_at ok (u := v % 8) (v := v / 8) (by omega) (by omega)
   rw [show 8 * (v / 8) + v % 8 = v by omega] at hb
   cases q : Bal.bitI xs v with
   | false => rfl
   | true => rw [q] at hb; exact absurd ⟨_, _, hb⟩ hno
  rw [this]; rfl
 rw [e, cnt_none] at h1
 cases h1
end Go.Proofs.YtmajllgfmclcoaaGreatDoor.Hgt
