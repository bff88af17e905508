/- PieS in one text. -/
import Derived.Test.YtmajllgfmclcoaaGreatDoorMe17

namespace Go.Proofs.YtmajllgfmclcoaaGreatDoor.Flo
set_option linter.unusedVariables false
set_option linter.unusedSimpArgs false
open Go.RowKit Go.Proofs.YtmajllgfmclcoaaGreatDoor.Pure Go.Proofs.YtmajllgfmclcoaaGreatDoor.Euler Go.Proofs.YtmajllgfmclcoaaGreatDoor.Bal Go.Proofs.YtmajllgfmclcoaaGreatDoor.Cell Go.Proofs.YtmajllgfmclcoaaGreatDoor.CellF Go.Proofs.YtmajllgfmclcoaaGreatDoor.Reg Go.Proofs.YtmajllgfmclcoaaGreatDoor.Cels Go.Joins

set_option maxRecDepth 100000 in
set_option maxHeartbeats 4000000 in
theorem sPieceOf (w : World) (A : Option Addr) (n cap B : Nat) (xs : List Int) (hx : xs.length = n) (hn : (n : Int) ≤ 9223372036854775807) (h : RowB w B A xs) (hB : B ≤ w.heap.size) (x y : Int) :
  Calls Tryz.prog 121 #[.agg #[.slice A n cap], .agg #[.int .i64 x, .int .i64 y]] w (NbPost (pieceR xs x y) w) := by
 obtain ⟨i0, hi, hz0, hz1, hz2⟩ := info_parts cellInfo
 obtain ⟨ib, hib, hzb0, hzb1, hzb2⟩ := info_parts boolInfo
 have T0 := Lib.hid (fun T T' => rc_start (T := T) (T' := T') (.slice A n cap) x y w)
 have HH := Lib.hid (fun W (hb : Below w.heap.size w W) => sHasCell W A n cap B xs hx hn (h.below hb hB) (by have := hb.size; omega) x y)
 have HM := Lib.hid (fun (W : World) => World.ownsRow_made (e := 79) (size := 2) W #[] 0 (Nat.le_refl _) (by unfold maxLen; omega) rfl)
 cases hhas : hasB xs x y with
 | false =>
  have HE := Lib.hid (show pieceR xs x y = [] by unfold pieceR; rw [hhas]; rfl)
  rw [hhas] at HH
  clear hhas hx hn h
  go_enter Tryz.func121, Tryz.ntmps121
  go_wp2_with fail
  have T1 := T0.out 26 79
  have h0 : w.heap.size + 1 + 1 = ((w.alloc (.cells #[.slice A n cap] 26)).alloc (.cells #[.int .i64 x, .int .i64 y] 79)).heap.size := by simp
  generalize (w.alloc (.cells #[.slice A n cap] 26)).alloc (.cells #[.int .i64 x, .int .i64 y] 79) = W0 at T1 h0 ⊢
  have T2 := T1.on (below_alloc1 W0 (.cells #[] 79))
  have HO := HM.out W0
  rw [h0]
  refine (HH.out _ T2.1).mono ?_
  rintro e w1 ⟨rfl, hb1⟩
  have hbw := (T2.on hb1).1
  have HO1 := Lib.hid (own_base (B' := w.heap.size) (own_below HO hb1 (Nat.le_refl _)) T1.1.size)
  clear T0 T1 T2 hb1 HH HO HM
  go_wp2
  go_ret
  rw [HE.out]
  exact ⟨_, _, rfl, HO1.out, hbw⟩
 | true =>
  obtain ⟨ho, _⟩ := hasB_iff.1 hhas
  obtain ⟨a, ha, hae, hax, hay, hbit⟩ := has_index hhas
  have hca : clsF xs true (io a) = true := by unfold clsF; rw [cR_io xs ha, hbit]; rfl
  have HHas := Lib.hid (fun W (j : Nat) (hj : j < 64) (hb : Below w.heap.size w W) X Y (hX : X = (plC (io j)).1) (hY : Y = (plC (io j)).2) => show Calls Tryz.prog 93 #[.agg #[.slice A n cap], .agg #[.int .i64 X, .int .i64 Y]] W (Bol (cR xs (io j)) W) by
   rw [hX, hY, plC_io, cR_io xs hj]
   exact sHas W A n cap B xs hx ho (h.below hb hB) (by have := hb.size; omega) (j % 8) (j / 8) (by omega) (by omega))
  have HIx := Lib.hid (fun W (j : Nat) (hj : j < 64) X Y (hX : X = (plC (io j)).1) (hY : Y = (plC (io j)).2) => show Calls Tryz.prog 64 #[.agg #[.int .i64 X, .int .i64 Y]] W (Num (j : Int) W) by
   rw [hX, hY, ← index_io hj]
   exact sCellIndex _ _ W)
  have HIa := Lib.hid (fun W => HIx.out W a ha x y hax hay)
  have HSt := Lib.hid (Lst.start (xs := xs) (g := true) (M := fun _ => false) (io_lt ha).1 rfl hca)
  have HEnd := Lib.hid (show ∀ M', Spr xs true (fun _ => false) (io a) M' → pieceR xs x y = pieceTo xs a 64 ∧ ∀ i, i < 64 → M' (io i) = (bitI xs i && sameP xs a i) by
   intro M' hs
   refine ⟨?_, fun i hi => Spr.piece ha hbit hs hi⟩
   unfold pieceR
   rw [if_pos hhas, ← hae])
  have HAx := Lib.hid (And.intro hax hay)
  have HRing := Lib.hid (fun u (hu : u < 100) (hc : clsF xs true u = true) => show ring u = false by
   cases hr : ring u
   ·rfl
   ·unfold clsF at hc; rw [cR_ring xs u hu hr] at hc; cases hc)
  have ha0 := ha
  rw [hhas] at HH
  clear hhas hx hn h ho hae hax hay hbit hca
  go_enter Tryz.func121, Tryz.ntmps121
  go_wp2_with fail
  have T1 := T0.out 26 79
  have h0 : w.heap.size + 1 + 1 = ((w.alloc (.cells #[.slice A n cap] 26)).alloc (.cells #[.int .i64 x, .int .i64 y] 79)).heap.size := by simp
  generalize (w.alloc (.cells #[.slice A n cap] 26)).alloc (.cells #[.int .i64 x, .int .i64 y] 79) = W0 at T1 h0 ⊢
  have T2 := T1.on (below_alloc1 W0 (.cells #[] 79))
  have HO := HM.out W0
  rw [h0]
  refine (HH.out _ T2.1).mono ?_
  rintro e w3 ⟨rfl, hb1⟩
  have T3 := T2.on hb1
  have HO1 := Lib.hid (own_base (B' := w.heap.size) (own_below HO hb1 (Nat.le_refl _)) T1.1.size)
  have hob : W0.heap.size < w3.heap.size := by have := hb1.size; simp at this; omega
  generalize W0.heap.size = ob at HO1 hob ⊢
  clear T0 T1 T2 hb1 HH HO HM h0
  obtain ⟨hb3, hsz3, cr, cx, cy⟩ := id T3
  have cr3 := cr
  have T3b := hb3
  have HOr := Lib.hid (show RowIn w3 w.heap.size w3.heap.size 79 2 (.slice (some ⟨ob, 0, none⟩) 0 0) 0 [] from ⟨HO1.out, fun g hg => by simp [Value.ownBlock] at hg; omega⟩)
  have hne0 : ob ≠ w3.heap.size := by omega
  have HJa := Lib.hid ha0
  go_wp2_with (first
   | (at_make; refine wpList_make_full _ rfl _ _ 82 rfl w3.heap.size 4 ib (.bool false) 1 Tryz.underlying82 hib hzb0 hzb1 .i64 .i64 64 64 64 rfl rfl (by rfl) (by rfl) (by rw [hzb2]; omega) (by unfold maxLen; omega) (Nat.le_refl _) ?_; intro w4 hown4 hg4; (have hb4 := (Below.refl w3.heap.size w3).grown hg4 (Nat.le_refl _) (by simp)); (have T4 := T3.on hb4); obtain ⟨_, hsz4, cr4, cx4, cy4⟩ := id T4))
  rw [seen_zero] at hown4
  have hb4 := (Below.refl w3.heap.size w3).grown hg4 (Nat.le_refl _) (by simp)
  have T4 := T3.on hb4
  have HR4 := Lib.hid (show RowIn w4 w3.heap.size (w3.heap.size + 1) 4 1 (.slice (some ⟨w3.heap.size, 0, none⟩) 64 64) 64 (seenF (fun _ => false)) from ⟨hown4, fun g hg => by simp [Value.ownBlock] at hg; omega⟩)
  have hs4 : w3.heap.size < w4.heap.size := (hown4.lt w3.heap.size rfl).2
  refine (HIa.out _).mono ?_
  rintro e w5 ⟨rfl, hb5⟩
  have T5 := T4.on hb5
  have HR5 := Lib.hid (HR4.out.on hb5)
  have hb5' := hb4.trans (hb5.mono (by omega))
  have hs5 : w3.heap.size < w5.heap.size := by have := hb5.size; omega
  have HO5 := Lib.hid (own_below HO1.out hb5' (Nat.le_refl _))
  have HB3 := Lib.hid hb3
  clear hown4 hg4 hb4 T4 HR4 hs4 hb5 T3 HO1 cr cx cy hb3
  obtain ⟨_, hsz5, cr, cx, cy⟩ := id T5
  have hcs := own_cell HR5.out.1 (rowF_at (fun i => .bool ((fun _ => false) (io i))) HJa.out)
  have hfz := HR5.out.1.frozenAt a
  have HPS := Lib.hid (ps_start hb5' hs5 HR5.out HAx.out.1 HAx.out.2)
  have HOb := Lib.hid (show ob < w3.heap.size from hob)
  have HBox := Lib.hid (fun W (hb : Below w3.heap.size w3 W) => show W.cell? ⟨w.heap.size, 0, none⟩ = some (.slice A n cap) from (hb.cell (by show w.heap.size < _; omega)).trans cr3)
  have haI : (a : Int) < 64 := by have := HJa.out; omega
  have hbs := (Below.refl w3.heap.size w5).setCell (p := ⟨w3.heap.size, a, none⟩) (Nat.le_refl _) (.bool true)
  have cx' := (hbs.cell (p := ⟨w.heap.size + 1, 0, none⟩) (by show w.heap.size + 1 < _; omega)).trans cx
  have cy' := (hbs.cell (p := ⟨w.heap.size + 1, 1, none⟩) (by show w.heap.size + 1 < _; omega)).trans cy
  clear cx cy hbs
  go_wp2_with fail
  have hne := hne0
  generalize hsb : w3.heap.size = sb at HPS HOr HBox hne ⊢
  have HSb := Lib.hid hsb
  generalize w5.heap.size = lb at HPS ⊢
  generalize (w5.setCell ⟨sb, a, none⟩ (.bool true)).alloc (.cells #[.int .i64 x, .int .i64 y] 79) = W6 at HPS ⊢
  have HW3 := Lib.hid T3b
  have hsbw : w.heap.size ≤ sb := by omega
  clear cr hfz hcs T5 HR5 hb5' hs5 HO5 cx' cy' hsz5 HAx HIa HB3 hsb T3b haI cr3 hsz3 HOb hob hzb2 hzb1 hzb0 hib hne0
  go_loopw [7, 8] (fun lv i wr => ∃ (k : Nat) (L : List Nat) (M : Nat → Bool) (lg lc : Nat), k ≤ L.length ∧ i = .int .i64 k ∧ lv = .slice (some ⟨lg, 0, none⟩) L.length lc ∧ Lst xs true (fun _ => false) (io a) L M k [] ∧ PS w3 sb lb M L lg lc wr) (fun _ i _ => 64 - (intOf i).toNat)
  case atStart => exact ⟨0, [io a], _, _, _, Nat.zero_le _, rfl, rfl, HSt.out, HPS.out⟩
  case round =>
   clear HPS HSt
   obtain ⟨k, L, M, lg, lc, hk, rfl, rfl, hlst, hps⟩ := hrel
   have hl64 := hlst.short64
   have HLst := Lib.hid hlst
   have HPs := Lib.hid hps
   by_cases hlt : k < L.length
   ·obtain ⟨u, hu⟩ : ∃ u, L[k]? = some u := ⟨_, List.getElem?_eq_getElem hlt⟩
    obtain ⟨hu100, _, hcu, _⟩ := hlst.2.2.2.1 u (List.mem_of_getElem? hu)
    obtain ⟨c0, c1⟩ := hps.list hu
    obtain ⟨x', hx'⟩ : ∃ x', x' = (plC u).1 := ⟨_, rfl⟩
    obtain ⟨y', hy'⟩ : ∃ y', y' = (plC u).2 := ⟨_, rfl⟩
    rw [← hx'] at c0
    rw [← hy'] at c1
    have HNb := Lib.hid (specNb' wr hu100 (HRing.out u hu100 hcu) hx' hy')
    have HU := Lib.hid hu
    clear hlst hps hu hu100 hcu hx' hy'
    go_wp2_with fail
    refine HNb.out.mono ?_
    rintro e w6 ⟨An, cn, rfl, hown, hb6⟩
    have HJ := Lib.hid (fun i (hi : i < ((joinF true u).map plC).length) => show ∃ j, j < 64 ∧ (joinF true u)[i]? = some (io j) ∧ io j ∈ joinF true u ∧ (joinF true u).take (i + 1) = (joinF true u).take i ++ [io j] by
     rw [List.length_map] at hi
     obtain ⟨j, hj, e⟩ := join_io (List.getElem_mem hi)
     exact ⟨j, hj, by rw [List.getElem?_eq_getElem hi, e], by rw [← e]; exact List.getElem_mem hi, by rw [List.take_succ_eq_append_getElem hi, e]⟩)
    have HJe := Lib.hid (show (joinF true u).take ((joinF true u).map plC).length = joinF true u by rw [List.length_map]; exact List.take_length)
    have HJl := Lib.hid (show ((joinF true u).map plC).length ≤ 64 by rw [List.length_map]; exact joinF_length true u)
    obtain ⟨m, hm⟩ : ∃ m, m = ((joinF true u).map plC).length := ⟨_, rfl⟩
    rw [← hm] at HJ HJe HJl hown ⊢
    have HPn := Lib.hid (show PN w3 sb lb M L lg lc wr.heap.size w6.heap.size (.slice An m cn) m (joinF true u) w6 from ⟨HPs.out.on hb6, rowIn_new hown, .inl HPs.out.lg_lt.2, Nat.le_refl _, HPs.out.2.2.1⟩)
    have hm64 := HJl.out
    generalize wr.heap.size = nlo at HPn
    generalize w6.heap.size = nhi at HPn
    clear hown hb6 HPs HNb hm c0 c1 HJl
    go_wp2_with fail
    go_loopw [7, 10] (fun lv i wr => ∃ (q : Nat) (L : List Nat) (M : Nat → Bool) (lg lc : Nat), q ≤ m ∧ i = .int .i64 q ∧ lv = .slice (some ⟨lg, 0, none⟩) L.length lc ∧ L[k]? = some u ∧ Lst xs true (fun _ => false) (io a) L M k ((joinF true u).take q) ∧ PN w3 sb lb M L lg lc nlo nhi (.slice An m cn) m (joinF true u) wr) (fun _ i _ => m - (intOf i).toNat)
    case atStart => exact ⟨0, L, M, lg, lc, Nat.zero_le _, rfl, rfl, HU.out, HLst.out, HPn.out⟩
    case round =>
     clear HPn HLst HU hl64 hlt hk
     obtain ⟨i, L, M, lg, lc, hiq, rfl, rfl, hu, hlst, hpn⟩ := hrel
     have hl64 := hlst.short64
     have HLst := Lib.hid hlst
     have HPn := Lib.hid hpn
     have HU := Lib.hid hu
     by_cases hlti : i < m
     ·obtain ⟨j, hj, hpi, hpj, htk⟩ := HJ.out i hlti
      obtain ⟨nb, c', hv1, _, _⟩ := hpn.2.1.1.form (by omega)
      injection hv1 with hA2 hm2 hc2
      subst hA2
      subst hc2
      obtain ⟨x', hx'⟩ : ∃ x', x' = (plC (io j)).1 := ⟨_, rfl⟩
      obtain ⟨y', hy'⟩ : ∃ y', y' = (plC (io j)).2 := ⟨_, rfl⟩
      have HHas' := Lib.hid (fun W hb => HHas.out W j hj hb x' y' hx' hy')
      have HIx' := Lib.hid (fun W => HIx.out W j hj x' y' hx' hy')
      obtain ⟨cb, hcb⟩ : ∃ cb, cb = cR xs (io j) := ⟨_, rfl⟩
      obtain ⟨mb, hmb⟩ : ∃ mb, mb = M (io j) := ⟨_, rfl⟩
      rw [← hcb] at HHas'
      obtain ⟨P, hP⟩ : ∃ P : World → Prop, P = PN w3 sb lb M L lg lc nlo nhi (.slice (some ⟨nb, 0, none⟩) m cn) m (joinF true u) := ⟨_, rfl⟩
      have HPe := Lib.hid hP
      have HPon := Lib.hid (show ∀ W W', P W → Below W.heap.size W W' → P W' by rw [hP]; exact fun W W' h hb => h.on hb)
      have HPd := Lib.hid (show ∀ W, P W → P W.drew by rw [hP]; exact fun W h => h.drew)
      have HPb := Lib.hid (show ∀ W, P W → Below w.heap.size w W by rw [hP]; exact fun W h => HW3.out.trans (h.1.1.mono hsbw))
      have HS := Lib.hid (show ∀ W, P W → P W ∧ W.cell? ⟨w.heap.size, 0, none⟩ = some (.slice A n cap) ∧ W.cell? ⟨nb, i * 2, none⟩ = some (.int .i64 x') ∧ W.cell? ⟨nb, i * 2 + 1, none⟩ = some (.int .i64 y') ∧ W.cell? ⟨sb, j, none⟩ = some (.bool mb) by
       rw [hP, hx', hy', hmb]
       exact fun W h => ⟨h, HBox.out W h.1.1, (h.cell hpi).1, (h.cell hpi).2, h.1.seen hj⟩)
      have HHas2 := Lib.hid (fun W (h : P W) => HHas'.out W (HPb.out W h))
      have HPw := Lib.hid (show P wr by rw [hP]; exact hpn)
      have HX := Lib.hid (And.intro hx' hy')
      have HMb := Lib.hid hmb
      have HCb := Lib.hid hcb
      have HK := Lib.hid (And.intro hpi (And.intro hpj htk))
      have hjI : (j : Int) < 64 := by omega
      clear hP hpn hlst hu hpi hpj htk hx' hy' hmb hcb HHas' HHas HIx HPb
      cases cb with
      | false =>
       have HNx := Lib.hid (show Lst xs true (fun _ => false) (io a) L M k ((joinF true u).take (i + 1)) by
        rw [HK.out.2.2]; exact HLst.out.skip (fun q => by unfold clsF at q; rw [← HCb.out] at q; cases q))
       go_wp2_with fail
       refine wp_region_noPanic ?_
       refine wp_region_held_drew (S := (fun w' => P w' ∧ w'.cell? ⟨w.heap.size, 0, none⟩ = some (.slice A n cap) ∧ w'.cell? ⟨nb, i * 2, none⟩ = some (.int .i64 x') ∧ w'.cell? ⟨nb, i * 2 + 1, none⟩ = some (.int .i64 y') ∧ w'.cell? ⟨sb, j, none⟩ = some (.bool mb))) (by kernel_rfl) (HS.out _ (HPd.out _ HPw.out)) (fun hHeld => ?_)
       refine wpAnyH_take (i := 0) (v := ?_) rfl (by kernel_rfl) (by kernel_rfl) (by kernel_rfl) (fun _ _ _ h => h) (Or.inl ⟨by rfl, ?_⟩) (by assumption) ?_
       rotate_left
       ·(intro w' hS; (try dsimp only at hS); go_simp; try with_reducible rfl)
       try simp only [Act.put, List.getElem_toArray, List.getElem_cons_succ, List.getElem_cons_zero, List.setIfInBounds_toArray, List.set_cons_zero, List.set_cons_succ]
       refine wpAnyH_take (i := 1) (v := ?_) rfl (by kernel_rfl) (by kernel_rfl) (by kernel_rfl) (fun _ _ _ h => h) (Or.inl ⟨by rfl, ?_⟩) (by assumption) ?_
       rotate_left
       ·(intro w' hS; (try dsimp only at hS); go_simp; try with_reducible rfl)
       try simp only [Act.put, List.getElem_toArray, List.getElem_cons_succ, List.getElem_cons_zero, List.setIfInBounds_toArray, List.set_cons_zero, List.set_cons_succ]
       refine wpAnyH_take (i := 2) (v := ?_) rfl (by kernel_rfl) (by kernel_rfl) (by kernel_rfl) (fun _ _ _ h => h) (Or.inl ⟨by rfl, ?_⟩) (by assumption) ?_
       rotate_left
       ·(intro w' hS; (try dsimp only at hS); go_simp; try with_reducible rfl)
       try simp only [Act.put, List.getElem_toArray, List.getElem_cons_succ, List.getElem_cons_zero, List.setIfInBounds_toArray, List.set_cons_zero, List.set_cons_succ]
       refine wpAnyH_take (i := 3) (v := ?_) rfl (by kernel_rfl) (by kernel_rfl) (by kernel_rfl) (fun _ _ _ h => h) (Or.inl ⟨by rfl, ?_⟩) (by assumption) ?_
       rotate_left
       ·(intro w' hS; (try dsimp only at hS); go_simp; try with_reducible rfl)
       try simp only [Act.put, List.getElem_toArray, List.getElem_cons_succ, List.getElem_cons_zero, List.setIfInBounds_toArray, List.set_cons_zero, List.set_cons_succ]
       refine wpAnyH_take (i := 4) (v := ?_) rfl (by kernel_rfl) (by kernel_rfl) (by kernel_rfl) (fun _ _ _ h => h) (Or.inl ⟨by rfl, ?_⟩) (by assumption) ?_
       rotate_left
       ·(intro w' hS; (try dsimp only at hS); go_simp; try with_reducible rfl)
       try simp only [Act.put, List.getElem_toArray, List.getElem_cons_succ, List.getElem_cons_zero, List.setIfInBounds_toArray, List.set_cons_zero, List.set_cons_succ]
       refine wpAnyH_ready (rs := [5]) (by kernel_rfl) (by simp) ?_
       refine AllReadyH.cons rfl (fun K hK => ?_) AllReadyH.nil
       go_simp
       refine (HHas2.out _ hHeld.1).mono ?_
       rintro e wx ⟨rfl, hbx⟩
       go_wp2_with fail
       refine hK.out _ _ (HS.out _ (HPon.out _ _ hHeld.1 hbx)) (fun hHeld => ?_)
       clear hK K
       try simp only [Act.put, List.getElem_toArray, List.getElem_cons_succ, List.getElem_cons_zero, List.setIfInBounds_toArray, List.set_cons_zero, List.set_cons_succ]
       refine wpAnyH_take (i := 6) (v := ?_) rfl (by kernel_rfl) (by kernel_rfl) (by kernel_rfl) (fun _ _ _ h => h) (Or.inl ⟨by rfl, ?_⟩) (by assumption) ?_
       rotate_left
       ·(intro w' hS; (try dsimp only at hS); go_simp; try with_reducible rfl)
       try simp only [Act.put, List.getElem_toArray, List.getElem_cons_succ, List.getElem_cons_zero, List.setIfInBounds_toArray, List.set_cons_zero, List.set_cons_succ]
       refine wpAnyH_take (i := 7) (v := undef) rfl (by kernel_rfl) (by kernel_rfl) (by kernel_rfl) (fun _ _ _ h => h) (Or.inr ⟨by rfl, rfl⟩) (by assumption) ?_
       try simp only [Act.put, List.getElem_toArray, List.getElem_cons_succ, List.getElem_cons_zero, List.setIfInBounds_toArray, List.set_cons_zero, List.set_cons_succ]
       refine wpAnyH_take (i := 8) (v := undef) rfl (by kernel_rfl) (by kernel_rfl) (by kernel_rfl) (fun _ _ _ h => h) (Or.inr ⟨by rfl, rfl⟩) (by assumption) ?_
       try simp only [Act.put, List.getElem_toArray, List.getElem_cons_succ, List.getElem_cons_zero, List.setIfInBounds_toArray, List.set_cons_zero, List.set_cons_succ]
       refine wpAnyH_take (i := 9) (v := undef) rfl (by kernel_rfl) (by kernel_rfl) (by kernel_rfl) (fun _ _ _ h => h) (Or.inr ⟨by rfl, rfl⟩) (by assumption) ?_
       try simp only [Act.put, List.getElem_toArray, List.getElem_cons_succ, List.getElem_cons_zero, List.setIfInBounds_toArray, List.set_cons_zero, List.set_cons_succ]
       refine wpAnyH_take (i := 10) (v := undef) rfl (by kernel_rfl) (by kernel_rfl) (by kernel_rfl) (fun _ _ _ h => h) (Or.inr ⟨by rfl, rfl⟩) (by assumption) ?_
       try simp only [Act.put, List.getElem_toArray, List.getElem_cons_succ, List.getElem_cons_zero, List.setIfInBounds_toArray, List.set_cons_zero, List.set_cons_succ]
       refine wpAnyH_take (i := 11) (v := undef) rfl (by kernel_rfl) (by kernel_rfl) (by kernel_rfl) (fun _ _ _ h => h) (Or.inr ⟨by rfl, rfl⟩) (by assumption) ?_
       try simp only [Act.put, List.getElem_toArray, List.getElem_cons_succ, List.getElem_cons_zero, List.setIfInBounds_toArray, List.set_cons_zero, List.set_cons_succ]
       refine wpAnyH_take (i := 12) (v := undef) rfl (by kernel_rfl) (by kernel_rfl) (by kernel_rfl) (fun _ _ _ h => h) (Or.inr ⟨by rfl, rfl⟩) (by assumption) ?_
       try simp only [Act.put, List.getElem_toArray, List.getElem_cons_succ, List.getElem_cons_zero, List.setIfInBounds_toArray, List.set_cons_zero, List.set_cons_succ]
       refine wpAnyH_take (i := 13) (v := undef) rfl (by kernel_rfl) (by kernel_rfl) (by kernel_rfl) (fun _ _ _ h => h) (Or.inr ⟨by rfl, rfl⟩) (by assumption) ?_
       try simp only [Act.put, List.getElem_toArray, List.getElem_cons_succ, List.getElem_cons_zero, List.setIfInBounds_toArray, List.set_cons_zero, List.set_cons_succ]
       refine wpAnyH_take (i := 14) (v := undef) rfl (by kernel_rfl) (by kernel_rfl) (by kernel_rfl) (fun _ _ _ h => h) (Or.inr ⟨by rfl, rfl⟩) (by assumption) ?_
       try simp only [Act.put, List.getElem_toArray, List.getElem_cons_succ, List.getElem_cons_zero, List.setIfInBounds_toArray, List.set_cons_zero, List.set_cons_succ]
       refine wpAnyH_take (i := 15) (v := undef) rfl (by kernel_rfl) (by kernel_rfl) (by kernel_rfl) (fun _ _ _ h => h) (Or.inr ⟨by rfl, rfl⟩) (by assumption) ?_
       try simp only [Act.put, List.getElem_toArray, List.getElem_cons_succ, List.getElem_cons_zero, List.setIfInBounds_toArray, List.set_cons_zero, List.set_cons_succ]
       refine wpAnyH_take (i := 16) (v := ?_) rfl (by kernel_rfl) (by kernel_rfl) (by kernel_rfl) (fun _ _ _ h => h) (Or.inl ⟨by rfl, ?_⟩) (by assumption) ?_
       rotate_left
       ·(intro w' hS; (try dsimp only at hS); go_simp; try with_reducible rfl)
       try simp only [Act.put, List.getElem_toArray, List.getElem_cons_succ, List.getElem_cons_zero, List.setIfInBounds_toArray, List.set_cons_zero, List.set_cons_succ]
       refine wpAnyH_done (by kernel_rfl) ?_ _
       refine NoPanic.normal ?_
       have hend := hHeld.1
       clear hHeld
       have HPend := Lib.hid (show PN w3 sb lb M L lg lc nlo nhi (.slice (some ⟨nb, 0, none⟩) m cn) m (joinF true u) _ by have q := hend; rw [HPe.out] at q; exact q)
       clear hend
       go_wp2
       go_roundw
       case rel => exact ⟨i + 1, L, M, lg, lc, by omega, by go_num, rfl, HU.out, HNx.out, HPend.out⟩
       case measure => (simp [intOf] <;> omega)
      | true =>
       have HCu := Lib.hid (show clsF xs true (io j) = true by unfold clsF; rw [← HCb.out]; rfl)
       cases mb with
       | true =>
        have HNx := Lib.hid (show Lst xs true (fun _ => false) (io a) L M k ((joinF true u).take (i + 1)) by
         rw [HK.out.2.2]; exact HLst.out.skip (fun q => HMb.out.symm))
        go_wp2_with fail
        refine wp_region_noPanic ?_
        refine wp_region_held_drew (S := (fun w' => P w' ∧ w'.cell? ⟨w.heap.size, 0, none⟩ = some (.slice A n cap) ∧ w'.cell? ⟨nb, i * 2, none⟩ = some (.int .i64 x') ∧ w'.cell? ⟨nb, i * 2 + 1, none⟩ = some (.int .i64 y') ∧ w'.cell? ⟨sb, j, none⟩ = some (.bool true))) (by kernel_rfl) (HS.out _ (HPd.out _ HPw.out)) (fun hHeld => ?_)
        refine wpAnyH_take (i := 0) (v := ?_) rfl (by kernel_rfl) (by kernel_rfl) (by kernel_rfl) (fun _ _ _ h => h) (Or.inl ⟨by rfl, ?_⟩) (by assumption) ?_
        rotate_left
        ·(intro w' hS; (try dsimp only at hS); go_simp; try with_reducible rfl)
        try simp only [Act.put, List.getElem_toArray, List.getElem_cons_succ, List.getElem_cons_zero, List.setIfInBounds_toArray, List.set_cons_zero, List.set_cons_succ]
        refine wpAnyH_take (i := 1) (v := ?_) rfl (by kernel_rfl) (by kernel_rfl) (by kernel_rfl) (fun _ _ _ h => h) (Or.inl ⟨by rfl, ?_⟩) (by assumption) ?_
        rotate_left
        ·(intro w' hS; (try dsimp only at hS); go_simp; try with_reducible rfl)
        try simp only [Act.put, List.getElem_toArray, List.getElem_cons_succ, List.getElem_cons_zero, List.setIfInBounds_toArray, List.set_cons_zero, List.set_cons_succ]
        refine wpAnyH_take (i := 2) (v := ?_) rfl (by kernel_rfl) (by kernel_rfl) (by kernel_rfl) (fun _ _ _ h => h) (Or.inl ⟨by rfl, ?_⟩) (by assumption) ?_
        rotate_left
        ·(intro w' hS; (try dsimp only at hS); go_simp; try with_reducible rfl)
        try simp only [Act.put, List.getElem_toArray, List.getElem_cons_succ, List.getElem_cons_zero, List.setIfInBounds_toArray, List.set_cons_zero, List.set_cons_succ]
        refine wpAnyH_take (i := 3) (v := ?_) rfl (by kernel_rfl) (by kernel_rfl) (by kernel_rfl) (fun _ _ _ h => h) (Or.inl ⟨by rfl, ?_⟩) (by assumption) ?_
        rotate_left
        ·(intro w' hS; (try dsimp only at hS); go_simp; try with_reducible rfl)
        try simp only [Act.put, List.getElem_toArray, List.getElem_cons_succ, List.getElem_cons_zero, List.setIfInBounds_toArray, List.set_cons_zero, List.set_cons_succ]
        refine wpAnyH_take (i := 4) (v := ?_) rfl (by kernel_rfl) (by kernel_rfl) (by kernel_rfl) (fun _ _ _ h => h) (Or.inl ⟨by rfl, ?_⟩) (by assumption) ?_
        rotate_left
        ·(intro w' hS; (try dsimp only at hS); go_simp; try with_reducible rfl)
        try simp only [Act.put, List.getElem_toArray, List.getElem_cons_succ, List.getElem_cons_zero, List.setIfInBounds_toArray, List.set_cons_zero, List.set_cons_succ]
        refine wpAnyH_ready (rs := [5]) (by kernel_rfl) (by simp) ?_
        refine AllReadyH.cons rfl (fun K hK => ?_) AllReadyH.nil
        go_simp
        refine (HHas2.out _ hHeld.1).mono ?_
        rintro e wx ⟨rfl, hbx⟩
        go_wp2_with fail
        refine hK.out _ _ (HS.out _ (HPon.out _ _ hHeld.1 hbx)) (fun hHeld => ?_)
        clear hK K
        try simp only [Act.put, List.getElem_toArray, List.getElem_cons_succ, List.getElem_cons_zero, List.setIfInBounds_toArray, List.set_cons_zero, List.set_cons_succ]
        refine wpAnyH_take (i := 6) (v := ?_) rfl (by kernel_rfl) (by kernel_rfl) (by kernel_rfl) (fun _ _ _ h => h) (Or.inl ⟨by rfl, ?_⟩) (by assumption) ?_
        rotate_left
        ·(intro w' hS; (try dsimp only at hS); go_simp; try with_reducible rfl)
        try simp only [Act.put, List.getElem_toArray, List.getElem_cons_succ, List.getElem_cons_zero, List.setIfInBounds_toArray, List.set_cons_zero, List.set_cons_succ]
        refine wpAnyH_take (i := 7) (v := ?_) rfl (by kernel_rfl) (by kernel_rfl) (by kernel_rfl) (fun _ _ _ h => h) (Or.inl ⟨by rfl, ?_⟩) (by assumption) ?_
        rotate_left
        ·(intro w' hS; (try dsimp only at hS); go_simp; try with_reducible rfl)
        try simp only [Act.put, List.getElem_toArray, List.getElem_cons_succ, List.getElem_cons_zero, List.setIfInBounds_toArray, List.set_cons_zero, List.set_cons_succ]
        refine wpAnyH_take (i := 8) (v := ?_) rfl (by kernel_rfl) (by kernel_rfl) (by kernel_rfl) (fun _ _ _ h => h) (Or.inl ⟨by rfl, ?_⟩) (by assumption) ?_
        rotate_left
        ·(intro w' hS; (try dsimp only at hS); go_simp; try with_reducible rfl)
        try simp only [Act.put, List.getElem_toArray, List.getElem_cons_succ, List.getElem_cons_zero, List.setIfInBounds_toArray, List.set_cons_zero, List.set_cons_succ]
        refine wpAnyH_take (i := 9) (v := ?_) rfl (by kernel_rfl) (by kernel_rfl) (by kernel_rfl) (fun _ _ _ h => h) (Or.inl ⟨by rfl, ?_⟩) (by assumption) ?_
        rotate_left
        ·(intro w' hS; (try dsimp only at hS); go_simp; try with_reducible rfl)
        try simp only [Act.put, List.getElem_toArray, List.getElem_cons_succ, List.getElem_cons_zero, List.setIfInBounds_toArray, List.set_cons_zero, List.set_cons_succ]
        refine wpAnyH_take (i := 10) (v := ?_) rfl (by kernel_rfl) (by kernel_rfl) (by kernel_rfl) (fun _ _ _ h => h) (Or.inl ⟨by rfl, ?_⟩) (by assumption) ?_
        rotate_left
        ·(intro w' hS; (try dsimp only at hS); go_simp; try with_reducible rfl)
        try simp only [Act.put, List.getElem_toArray, List.getElem_cons_succ, List.getElem_cons_zero, List.setIfInBounds_toArray, List.set_cons_zero, List.set_cons_succ]
        refine wpAnyH_take (i := 11) (v := ?_) rfl (by kernel_rfl) (by kernel_rfl) (by kernel_rfl) (fun _ _ _ h => h) (Or.inl ⟨by rfl, ?_⟩) (by assumption) ?_
        rotate_left
        ·(intro w' hS; (try dsimp only at hS); go_simp; try with_reducible rfl)
        try simp only [Act.put, List.getElem_toArray, List.getElem_cons_succ, List.getElem_cons_zero, List.setIfInBounds_toArray, List.set_cons_zero, List.set_cons_succ]
        refine wpAnyH_ready (rs := [12]) (by kernel_rfl) (by simp) ?_
        refine AllReadyH.cons rfl (fun K hK => ?_) AllReadyH.nil
        go_simp
        refine (HIx'.out _).mono ?_
        rintro e wx ⟨rfl, hbx⟩
        go_wp2_with fail
        refine hK.out _ _ (HS.out _ (HPon.out _ _ hHeld.1 hbx)) (fun hHeld => ?_)
        clear hK K
        try simp only [Act.put, List.getElem_toArray, List.getElem_cons_succ, List.getElem_cons_zero, List.setIfInBounds_toArray, List.set_cons_zero, List.set_cons_succ]
        refine wpAnyH_take (i := 13) (v := ?_) rfl (by kernel_rfl) (by kernel_rfl) (by kernel_rfl) (fun _ _ _ h => h) (Or.inl ⟨by rfl, ?_⟩) (by assumption) ?_
        rotate_left
        ·(intro w' hS; (try dsimp only at hS); go_simp; try with_reducible rfl)
        try simp only [Act.put, List.getElem_toArray, List.getElem_cons_succ, List.getElem_cons_zero, List.setIfInBounds_toArray, List.set_cons_zero, List.set_cons_succ]
        refine wpAnyH_take (i := 14) (v := ?_) rfl (by kernel_rfl) (by kernel_rfl) (by kernel_rfl) (fun _ _ _ h => h) (Or.inl ⟨by rfl, ?_⟩) (by assumption) ?_
        rotate_left
        ·(intro w' hS; (try dsimp only at hS); go_simp; try with_reducible rfl)
        try simp only [Act.put, List.getElem_toArray, List.getElem_cons_succ, List.getElem_cons_zero, List.setIfInBounds_toArray, List.set_cons_zero, List.set_cons_succ]
        refine wpAnyH_take (i := 15) (v := ?_) rfl (by kernel_rfl) (by kernel_rfl) (by kernel_rfl) (fun _ _ _ h => h) (Or.inl ⟨by rfl, ?_⟩) (by assumption) ?_
        rotate_left
        ·(intro w' hS; (try dsimp only at hS); go_simp; try with_reducible rfl)
        try simp only [Act.put, List.getElem_toArray, List.getElem_cons_succ, List.getElem_cons_zero, List.setIfInBounds_toArray, List.set_cons_zero, List.set_cons_succ]
        refine wpAnyH_take (i := 16) (v := ?_) rfl (by kernel_rfl) (by kernel_rfl) (by kernel_rfl) (fun _ _ _ h => h) (Or.inl ⟨by rfl, ?_⟩) (by assumption) ?_
        rotate_left
        ·(intro w' hS; (try dsimp only at hS); go_simp; try with_reducible rfl)
        try simp only [Act.put, List.getElem_toArray, List.getElem_cons_succ, List.getElem_cons_zero, List.setIfInBounds_toArray, List.set_cons_zero, List.set_cons_succ]
        refine wpAnyH_done (by kernel_rfl) ?_ _
        refine NoPanic.normal ?_
        have hend := hHeld.1
        clear hHeld
        have HPend := Lib.hid (show PN w3 sb lb M L lg lc nlo nhi (.slice (some ⟨nb, 0, none⟩) m cn) m (joinF true u) _ by have q := hend; rw [HPe.out] at q; exact q)
        clear hend
        go_wp2
        go_roundw
        case rel => exact ⟨i + 1, L, M, lg, lc, by omega, by go_num, rfl, HU.out, HNx.out, HPend.out⟩
        case measure => (simp [intOf] <;> omega)
       | false =>
        go_wp2_with fail
        refine wp_region_noPanic ?_
        refine wp_region_held_drew (S := (fun w' => P w' ∧ w'.cell? ⟨w.heap.size, 0, none⟩ = some (.slice A n cap) ∧ w'.cell? ⟨nb, i * 2, none⟩ = some (.int .i64 x') ∧ w'.cell? ⟨nb, i * 2 + 1, none⟩ = some (.int .i64 y') ∧ w'.cell? ⟨sb, j, none⟩ = some (.bool false))) (by kernel_rfl) (HS.out _ (HPd.out _ HPw.out)) (fun hHeld => ?_)
        refine wpAnyH_take (i := 0) (v := ?_) rfl (by kernel_rfl) (by kernel_rfl) (by kernel_rfl) (fun _ _ _ h => h) (Or.inl ⟨by rfl, ?_⟩) (by assumption) ?_
        rotate_left
        ·(intro w' hS; (try dsimp only at hS); go_simp; try with_reducible rfl)
        try simp only [Act.put, List.getElem_toArray, List.getElem_cons_succ, List.getElem_cons_zero, List.setIfInBounds_toArray, List.set_cons_zero, List.set_cons_succ]
        refine wpAnyH_take (i := 1) (v := ?_) rfl (by kernel_rfl) (by kernel_rfl) (by kernel_rfl) (fun _ _ _ h => h) (Or.inl ⟨by rfl, ?_⟩) (by assumption) ?_
        rotate_left
        ·(intro w' hS; (try dsimp only at hS); go_simp; try with_reducible rfl)
        try simp only [Act.put, List.getElem_toArray, List.getElem_cons_succ, List.getElem_cons_zero, List.setIfInBounds_toArray, List.set_cons_zero, List.set_cons_succ]
        refine wpAnyH_take (i := 2) (v := ?_) rfl (by kernel_rfl) (by kernel_rfl) (by kernel_rfl) (fun _ _ _ h => h) (Or.inl ⟨by rfl, ?_⟩) (by assumption) ?_
        rotate_left
        ·(intro w' hS; (try dsimp only at hS); go_simp; try with_reducible rfl)
        try simp only [Act.put, List.getElem_toArray, List.getElem_cons_succ, List.getElem_cons_zero, List.setIfInBounds_toArray, List.set_cons_zero, List.set_cons_succ]
        refine wpAnyH_take (i := 3) (v := ?_) rfl (by kernel_rfl) (by kernel_rfl) (by kernel_rfl) (fun _ _ _ h => h) (Or.inl ⟨by rfl, ?_⟩) (by assumption) ?_
        rotate_left
        ·(intro w' hS; (try dsimp only at hS); go_simp; try with_reducible rfl)
        try simp only [Act.put, List.getElem_toArray, List.getElem_cons_succ, List.getElem_cons_zero, List.setIfInBounds_toArray, List.set_cons_zero, List.set_cons_succ]
        refine wpAnyH_take (i := 4) (v := ?_) rfl (by kernel_rfl) (by kernel_rfl) (by kernel_rfl) (fun _ _ _ h => h) (Or.inl ⟨by rfl, ?_⟩) (by assumption) ?_
        rotate_left
        ·(intro w' hS; (try dsimp only at hS); go_simp; try with_reducible rfl)
        try simp only [Act.put, List.getElem_toArray, List.getElem_cons_succ, List.getElem_cons_zero, List.setIfInBounds_toArray, List.set_cons_zero, List.set_cons_succ]
        refine wpAnyH_ready (rs := [5]) (by kernel_rfl) (by simp) ?_
        refine AllReadyH.cons rfl (fun K hK => ?_) AllReadyH.nil
        go_simp
        refine (HHas2.out _ hHeld.1).mono ?_
        rintro e wx ⟨rfl, hbx⟩
        go_wp2_with fail
        refine hK.out _ _ (HS.out _ (HPon.out _ _ hHeld.1 hbx)) (fun hHeld => ?_)
        clear hK K
        try simp only [Act.put, List.getElem_toArray, List.getElem_cons_succ, List.getElem_cons_zero, List.setIfInBounds_toArray, List.set_cons_zero, List.set_cons_succ]
        refine wpAnyH_take (i := 6) (v := ?_) rfl (by kernel_rfl) (by kernel_rfl) (by kernel_rfl) (fun _ _ _ h => h) (Or.inl ⟨by rfl, ?_⟩) (by assumption) ?_
        rotate_left
        ·(intro w' hS; (try dsimp only at hS); go_simp; try with_reducible rfl)
        try simp only [Act.put, List.getElem_toArray, List.getElem_cons_succ, List.getElem_cons_zero, List.setIfInBounds_toArray, List.set_cons_zero, List.set_cons_succ]
        refine wpAnyH_take (i := 7) (v := ?_) rfl (by kernel_rfl) (by kernel_rfl) (by kernel_rfl) (fun _ _ _ h => h) (Or.inl ⟨by rfl, ?_⟩) (by assumption) ?_
        rotate_left
        ·(intro w' hS; (try dsimp only at hS); go_simp; try with_reducible rfl)
        try simp only [Act.put, List.getElem_toArray, List.getElem_cons_succ, List.getElem_cons_zero, List.setIfInBounds_toArray, List.set_cons_zero, List.set_cons_succ]
        refine wpAnyH_take (i := 8) (v := ?_) rfl (by kernel_rfl) (by kernel_rfl) (by kernel_rfl) (fun _ _ _ h => h) (Or.inl ⟨by rfl, ?_⟩) (by assumption) ?_
        rotate_left
        ·(intro w' hS; (try dsimp only at hS); go_simp; try with_reducible rfl)
        try simp only [Act.put, List.getElem_toArray, List.getElem_cons_succ, List.getElem_cons_zero, List.setIfInBounds_toArray, List.set_cons_zero, List.set_cons_succ]
        refine wpAnyH_take (i := 9) (v := ?_) rfl (by kernel_rfl) (by kernel_rfl) (by kernel_rfl) (fun _ _ _ h => h) (Or.inl ⟨by rfl, ?_⟩) (by assumption) ?_
        rotate_left
        ·(intro w' hS; (try dsimp only at hS); go_simp; try with_reducible rfl)
        try simp only [Act.put, List.getElem_toArray, List.getElem_cons_succ, List.getElem_cons_zero, List.setIfInBounds_toArray, List.set_cons_zero, List.set_cons_succ]
        refine wpAnyH_take (i := 10) (v := ?_) rfl (by kernel_rfl) (by kernel_rfl) (by kernel_rfl) (fun _ _ _ h => h) (Or.inl ⟨by rfl, ?_⟩) (by assumption) ?_
        rotate_left
        ·(intro w' hS; (try dsimp only at hS); go_simp; try with_reducible rfl)
        try simp only [Act.put, List.getElem_toArray, List.getElem_cons_succ, List.getElem_cons_zero, List.setIfInBounds_toArray, List.set_cons_zero, List.set_cons_succ]
        refine wpAnyH_take (i := 11) (v := ?_) rfl (by kernel_rfl) (by kernel_rfl) (by kernel_rfl) (fun _ _ _ h => h) (Or.inl ⟨by rfl, ?_⟩) (by assumption) ?_
        rotate_left
        ·(intro w' hS; (try dsimp only at hS); go_simp; try with_reducible rfl)
        try simp only [Act.put, List.getElem_toArray, List.getElem_cons_succ, List.getElem_cons_zero, List.setIfInBounds_toArray, List.set_cons_zero, List.set_cons_succ]
        refine wpAnyH_ready (rs := [12]) (by kernel_rfl) (by simp) ?_
        refine AllReadyH.cons rfl (fun K hK => ?_) AllReadyH.nil
        go_simp
        refine (HIx'.out _).mono ?_
        rintro e wx ⟨rfl, hbx⟩
        go_wp2_with fail
        refine hK.out _ _ (HS.out _ (HPon.out _ _ hHeld.1 hbx)) (fun hHeld => ?_)
        clear hK K
        try simp only [Act.put, List.getElem_toArray, List.getElem_cons_succ, List.getElem_cons_zero, List.setIfInBounds_toArray, List.set_cons_zero, List.set_cons_succ]
        refine wpAnyH_take (i := 13) (v := ?_) rfl (by kernel_rfl) (by kernel_rfl) (by kernel_rfl) (fun _ _ _ h => h) (Or.inl ⟨by rfl, ?_⟩) (by assumption) ?_
        rotate_left
        ·(intro w' hS; (try dsimp only at hS); go_simp; try with_reducible rfl)
        try simp only [Act.put, List.getElem_toArray, List.getElem_cons_succ, List.getElem_cons_zero, List.setIfInBounds_toArray, List.set_cons_zero, List.set_cons_succ]
        refine wpAnyH_take (i := 14) (v := ?_) rfl (by kernel_rfl) (by kernel_rfl) (by kernel_rfl) (fun _ _ _ h => h) (Or.inl ⟨by rfl, ?_⟩) (by assumption) ?_
        rotate_left
        ·(intro w' hS; (try dsimp only at hS); go_simp; try with_reducible rfl)
        try simp only [Act.put, List.getElem_toArray, List.getElem_cons_succ, List.getElem_cons_zero, List.setIfInBounds_toArray, List.set_cons_zero, List.set_cons_succ]
        refine wpAnyH_take (i := 15) (v := ?_) rfl (by kernel_rfl) (by kernel_rfl) (by kernel_rfl) (fun _ _ _ h => h) (Or.inl ⟨by rfl, ?_⟩) (by assumption) ?_
        rotate_left
        ·(intro w' hS; (try dsimp only at hS); go_simp; try with_reducible rfl)
        try simp only [Act.put, List.getElem_toArray, List.getElem_cons_succ, List.getElem_cons_zero, List.setIfInBounds_toArray, List.set_cons_zero, List.set_cons_succ]
        refine wpAnyH_take (i := 16) (v := ?_) rfl (by kernel_rfl) (by kernel_rfl) (by kernel_rfl) (fun _ _ _ h => h) (Or.inl ⟨by rfl, ?_⟩) (by assumption) ?_
        rotate_left
        ·(intro w' hS; (try dsimp only at hS); go_simp; try with_reducible rfl)
        try simp only [Act.put, List.getElem_toArray, List.getElem_cons_succ, List.getElem_cons_zero, List.setIfInBounds_toArray, List.set_cons_zero, List.set_cons_succ]
        refine wpAnyH_done (by kernel_rfl) ?_ _
        refine NoPanic.normal ?_
        have hend := hHeld.1
        clear hHeld
        obtain ⟨_, _, hn0, hn1, _⟩ := HS.out _ hend
        go_wp2_with fail
        refine (HIx'.out _).mono ?_
        rintro e w7 ⟨rfl, hb7⟩
        have hP7 := HPon.out _ _ hend hb7
        rw [HPe.out] at hP7
        have hsc := hP7.1.seen hj
        have hfz := hP7.1.frozen j
        have hP8 := hP7.mark j
        obtain ⟨n0', n1'⟩ := hP8.cell HK.out.1
        rw [← HX.out.1] at n0'
        rw [← HX.out.2] at n1'
        have HP8 := Lib.hid hP8
        have HO8 := Lib.hid hP8.1.2.2.2.2
        have hlb := hP8.1.2.2.1
        have HNx := Lib.hid (HLst.out.put HU.out HK.out.2.1 HCu.out HMb.out.symm)
        rw [← HMb.out] at hsc
        generalize hW8 : w7.setCell ⟨sb, j, none⟩ (.bool true) = W8 at hP8 n0' n1' HP8 HO8 hlb
        clear hP7 hP8 hend hn0 hn1 HS HPon HPd HHas2 HPw HIx' HPe hb7
        have HXv := Lib.hid (show plC (io j) = (x', y') from Prod.ext HX.out.1.symm HX.out.2.symm)
        go_wp2_with (first
         | (at_builtin; refine App.wpList_append_at _ rfl _ _ 75 rfl lb 79 i0 (.agg #[.int .i64 0, .int .i64 0]) 2 16 Tryz.underlying75 hi hz0 hz1 hz2 rfl (by decide) lg lc L.length (rowC (L.map plC)) rfl (HO8.out.alloc _) ⟨W8.heap.size, 0, none⟩ 1 1 [.int .i64 x', .int .i64 y'] rfl rfl (World.news_of_block (cs := #[.int .i64 x', .int .i64 y']) (t := 79) (fr := (0, 0)) (heap_alloc_new W8 _)) (by simp [Value.oneCell']) (by unfold maxLen; omega) (by omega) (by simp; omega) ?_; intro v2 w8 hown8 hgrow hwh))
        obtain ⟨lg2, hlg2, hlw⟩ : ∃ lg2, v2.ownBlock = some lg2 ∧ (lg2 = lg ∨ lg2 = (W8.alloc (.cells #[.int .i64 x', .int .i64 y'] 79)).heap.size) := by
         rcases hwh with q | q
         ·exact ⟨lg, q, .inl rfl⟩
         ·exact ⟨_, q, .inr rfl⟩
        obtain ⟨lc2, rfl⟩ := own_form hown8 hlg2
        have HP9 := Lib.hid ((HP8.out.on (below_alloc1 W8 (.cells #[.int .i64 x', .int .i64 y'] 79))).app (p := io j) (by rw [HXv.out]; exact hown8) hgrow hlw)
        have HLn := Lib.hid (show (L ++ [io j]).length = L.length + 1 by rw [List.length_append]; rfl)
        have HUn := Lib.hid (show (L ++ [io j])[k]? = some u by
         have q := HU.out
         have hkl : k < L.length := by
          rcases Nat.lt_or_ge k L.length with q2 | q2
          ·exact q2
          ·rw [List.getElem?_eq_none q2] at q; cases q
         rw [List.getElem?_append_left hkl]; exact q)
        have HNx2 := Lib.hid (show Lst xs true (fun _ => false) (io a) (L ++ [io j]) (putM M (io j)) k ((joinF true u).take (i + 1)) by rw [HK.out.2.2]; exact HNx.out)
        clear hown8 hgrow hwh hlw hlg2 hW8
        go_roundw
        case rel => exact ⟨i + 1, L ++ [io j], putM M (io j), lg2, lc2, by omega, by go_num, by rw [HLn.out], HUn.out, HNx2.out, HP9.out⟩
        case measure => (simp [intOf] <;> omega)
     ·obtain rfl : i = m := by omega
      have HNx := Lib.hid (show Lst xs true (fun _ => false) (io a) L M (k + 1) [] by have q := HLst.out; rw [HJe.out] at q; exact q.next HU.out)
      have hkl : k < L.length := by
       rcases Nat.lt_or_ge k L.length with q | q
       ·exact q
       ·rw [List.getElem?_eq_none q] at hu; cases hu
      clear hlst hpn hu
      go_wp2
      go_roundw
      case rel => exact ⟨k + 1, L, M, lg, lc, by omega, by go_num, rfl, HNx.out, HPn.out.1⟩
      case measure => (simp [intOf] <;> omega)
   ·obtain rfl : k = L.length := by omega
    have HE := Lib.hid (HEnd.out M hlst.done)
    have HSeen := Lib.hid hps.2.2.2.1
    have HO3 := Lib.hid (HOr.out.belowB hps.1 (Nat.le_refl _))
    have hbw := HW3.out.trans (hps.1.mono hsbw)
    have hsz : sb < wr.heap.size := by have h1 := hps.2.1; have h2 := hps.2.2.1; omega
    clear hlst hps HLst HPs HEnd HOr HBox HHas HIx HRing hl64
    go_wp2_with fail
    go_loopw [5, 11] (fun ov i wr => ∃ (k og oc : Nat), k ≤ 64 ∧ i = .int .i64 k ∧ ov = .slice (some ⟨og, 0, none⟩) (pieceTo xs a k).length oc ∧ og ≠ sb ∧ wr.ownsRow w.heap.size 79 2 (.slice (some ⟨og, 0, none⟩) (pieceTo xs a k).length oc) (pieceTo xs a k).length (rowC (pieceTo xs a k)) ∧ RowIn wr sb (sb + 1) 4 1 (.slice (some ⟨sb, 0, none⟩) 64 64) 64 (seenF M) ∧ sb < wr.heap.size ∧ Below w.heap.size w wr) (fun _ i _ => 64 - (intOf i).toNat)
    case atStart => exact ⟨0, ob, 0, by omega, rfl, rfl, hne, HO3.out.1, HSeen.out, hsz, hbw⟩
    case round =>
     clear HO3 HSeen hbw hsz
     obtain ⟨k, og, oc, hk, rfl, rfl, hne', hown, hseen, hsz, hbw⟩ := hrel
     have HO := Lib.hid hown
     have HS := Lib.hid hseen
     have hog := (hown.lt og rfl).2
     have HLk := Lib.hid (pieceTo_length xs a k)
     by_cases hlt : k < 64
     ·have hcs := own_cell hseen.1 (rowF_at (fun i => .bool (M (io i))) hlt)
      have hMk := HE.out.2 k hlt
      have hcase : (M (io k) = true ∧ Hid (pieceTo xs a (k + 1) = pieceTo xs a k ++ [(((k % 8 : Nat) : Int), ((k / 8 : Nat) : Int))])) ∨ (M (io k) = false ∧ Hid (pieceTo xs a (k + 1) = pieceTo xs a k)) := by
       cases q : (bitI xs k && sameP xs a k)
       ·exact .inr ⟨hMk.trans q, Lib.hid (pieceTo_no q)⟩
       ·exact .inl ⟨hMk.trans q, Lib.hid (pieceTo_yes q)⟩
      clear hMk hown hseen
      rcases hcase with ⟨hM, HN⟩ | ⟨hM, HN⟩
      ·rw [hM] at hcs
       clear hM
       obtain ⟨hax, hay⟩ := at_nat hlt
       go_wp2_with fail
       refine (sCellAt k _).mono ?_
       rintro e w7 ⟨rfl, hb7⟩
       rw [hax, hay]
       have hb' := hbw.trans (hb7.mono hbw.size)
       have HO7 := Lib.hid (own_below HO.out hb7 (Nat.le_refl _))
       have HS7 := Lib.hid (HS.out.on hb7)
       have hz7 := hb7.size
       have hzw := hbw.size
       generalize hX : ((k % 8 : Nat) : Int) = X at HN ⊢
       generalize hY : ((k / 8 : Nat) : Int) = Y at HN ⊢
       clear hax hay hb7 HO HS hcs hX hY hbw
       go_wp2_with (first
        | (at_builtin; refine App.wpList_append_at _ rfl _ _ 75 rfl w.heap.size 79 i0 (.agg #[.int .i64 0, .int .i64 0]) 2 16 Tryz.underlying75 hi hz0 hz1 hz2 rfl (by decide) og oc (pieceTo xs a k).length (rowC (pieceTo xs a k)) rfl (HO7.out.alloc _ |>.alloc _) ⟨w7.heap.size + 1, 0, none⟩ 1 1 [.int .i64 X, .int .i64 Y] rfl rfl (World.news_of_block (cs := #[.int .i64 X, .int .i64 Y]) (t := 79) (fr := (0, 0)) (by simpa using heap_alloc_new (w7.alloc _) _)) (by simp [Value.oneCell']) (by have := HLk.out; unfold maxLen; omega) (by have := HLk.out; omega) (by simp; omega) ?_; intro v2 w8 hown8 hgrow hwh))
       obtain ⟨og2, hog2, hne2⟩ : ∃ og2, v2.ownBlock = some og2 ∧ og2 ≠ sb := by
        rcases hwh with q | q
        ·exact ⟨og, q, hne'⟩
        ·exact ⟨_, q, by simp; omega⟩
       obtain ⟨oc2, rfl⟩ := own_form hown8 hog2
       have hol := (HO7.out.lt og rfl).1
       have hb8 : Below w.heap.size w w8 := ((hb'.alloc (by omega) _).alloc (by simp; omega) _).grown hgrow (by simp; omega) (fun g hg => by cases hg; omega)
       have HS8 := Lib.hid (show RowIn w8 sb (sb + 1) 4 1 (.slice (some ⟨sb, 0, none⟩) 64 64) 64 (seenF M) from ⟨((HS7.out.1.alloc _).alloc _).kept hgrow (.inr (by intro q; simp [Value.ownBlock] at q; exact hne' q.symm)), HS7.out.2⟩)
       have hz8 := hgrow.size
       simp at hz8
       have HO8 := Lib.hid (show w8.ownsRow w.heap.size 79 2 (.slice (some ⟨og2, 0, none⟩) (pieceTo xs a (k + 1)).length oc2) (pieceTo xs a (k + 1)).length (rowC (pieceTo xs a (k + 1))) by
        rw [HN.out, rowC_snoc, List.length_append]; exact hown8)
       have HLn := Lib.hid (show (pieceTo xs a (k + 1)).length = (pieceTo xs a k).length + 1 by rw [HN.out, List.length_append]; rfl)
       clear hown8 hgrow hwh
       go_roundw
       case rel => exact ⟨k + 1, og2, oc2, by omega, by go_num, by rw [HLn.out], hne2, HO8.out, HS8.out, by omega, hb8⟩
       case measure => (simp [intOf] <;> omega)
      ·rw [hM] at hcs
       clear hM
       go_wp2
       go_roundw
       case rel => exact ⟨k + 1, og, oc, by omega, by go_num, by rw [HN.out], hne', by rw [HN.out]; exact HO.out, HS.out, hsz, hbw⟩
       case measure => (simp [intOf] <;> omega)
     ·obtain rfl : k = 64 := by omega
      clear hown hseen
      go_wp2
      go_ret
      rw [HE.out.1]
      exact ⟨_, _, rfl, HO.out, hbw⟩
end Go.Proofs.YtmajllgfmclcoaaGreatDoor.Flo
