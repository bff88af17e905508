/- FrU, NbS in one text. -/
import Derived.Test.YtjfagpmklifjlaaMf25
import Derived.Test.YtjfagpmklifjlaaMf18
import Derived.Test.YtjfagpmklifjlaaMf00
import Derived.OwnWalk
import Derived.Laws.AppendOwn
import Derived.Deep.AppendLies

namespace Go.Proofs.Ytjfagpmklifjlaa.Frd
set_option linter.unusedVariables false
set_option linter.unusedSimpArgs false
set_option maxRecDepth 100000
open Go.RowKit Go.Proofs.Ytjfagpmklifjlaa.Base Go.Proofs.Ytjfagpmklifjlaa.Pure Go.Proofs.Ytjfagpmklifjlaa.Cell Go.Proofs.Ytjfagpmklifjlaa.Dms Go.Proofs.Ytjfagpmklifjlaa.Til Go.Proofs.Ytjfagpmklifjlaa.Fr Go.Joins
open Go.Proofs.Ytjfagpmklifjlaa.Prof (withT sCountWith sCountTilings)
open Go.Proofs.Ytjfagpmklifjlaa.Cnt (tilesR)
open Go.Proofs.Ytjfagpmklifjlaa.Reg hiding Yes add_none RC rc_start

def fil (p : Dm → Bool) (F : List Dm) (k : Nat) : List Dm := (F.take k).filter p
theorem fil_yes {p : Dm → Bool} {F : List Dm} {k : Nat} (hk : k < F.length) (hp : p F[k] = true) : fil p F (k + 1) = fil p F k ++ [F[k]] := by
  unfold fil; rw [List.take_succ_eq_append_getElem hk, List.filter_append]; simp [hp]
theorem fil_no {p : Dm → Bool} {F : List Dm} {k : Nat} (hk : k < F.length) (hp : p F[k] = false) : fil p F (k + 1) = fil p F k := by
  unfold fil; rw [List.take_succ_eq_append_getElem hk, List.filter_append]; simp [hp]
theorem fil_all {p : Dm → Bool} {F : List Dm} {k : Nat} (hk : k = F.length) : fil p F k = F.filter p := by unfold fil; rw [hk, List.take_length]
theorem fil_len (p : Dm → Bool) (F : List Dm) (k : Nat) : (fil p F k).length ≤ F.length := Nat.le_trans (List.length_filter_le _ _) (by rw [List.length_take]; omega)

set_option maxHeartbeats 4000000 in
theorem sPossible (w : World) (A : Option Addr) (n cap B : Nat) (xs : List Int) (hx : xs.length = n) (hn : (n : Int) ≤ 1048576) (h : RowB w B A xs) (hB : B ≤ w.heap.size) (hcap : A = none → n = 0 ∧ cap = 0) :
    Calls Try.prog 25 #[.agg #[.slice A n cap]] w (DmE (possD xs) w) := by
  obtain ⟨i0, hi, hz0, hz1, hz2⟩ := info_parts domInfo
  have HOk := Lib.hid (fun W (hb : Below w.heap.size w W) => sRegionOk W A n cap B xs hx (by omega) (h.below hb hB) (by have := hb.size; omega))
  have HAll := Lib.hid (fun W (hb : Below w.heap.size w W) (ho : okR xs) => sAll W A n cap B xs hx ho (h.below hb hB) (by have := hb.size; omega))
  have HW := Lib.hid (fun W (hb : Below w.heap.size w W) x y b => show Calls Try.prog 21 #[.agg #[.slice A n cap], .agg #[.int .i64 x, .int .i64 y, .bool b]] W (Num (cW xs (x, y, b)) W) from sCountWith W A n cap B xs hx hn (h.below hb hB) (by have := hb.size; omega) hcap x y b)
  have HR := Lib.hid (Rg.new w (.slice A n cap))
  have HS0 := Lib.hid (fun (o : Obj) => below_alloc1 w o)
  have HMk := Lib.hid (fun (W : World) => World.ownsRow_made (e := 41) (size := 3) W #[] 0 (Nat.le_refl _) (by unfold maxLen; omega) rfl)
  have HLn := Lib.hid (allD_len xs)
  have HNot := Lib.hid (show ¬ okR xs → possD xs = [] from fun q => if_neg q)
  have HEnd := Lib.hid (show okR xs → ∀ k, k = (allD xs).length → fil (fun d => decide (0 < cW xs d)) (allD xs) k = possD xs from fun ho k hk => by rw [fil_all hk, poss_fits ho])
  unfold DmE at HAll ⊢
  generalize possD xs = F0 at HNot HEnd ⊢
  generalize cW xs = c at HW HEnd
  generalize allD xs = F at HAll HLn HEnd
  generalize hok : okRB xs = ok at HOk
  have HOr := Lib.hid (show ok = true ↔ okR xs from by rw [← hok, okRB_iff])
  clear hx hn h hB hcap hok
  go_enter Try.func25, Try.ntmps25
  go_wp2_with fail
  have K0 := HMk.out (w.alloc (.cells #[.slice A n cap] 26))
  rw [World.size_alloc] at K0
  have B0 : Below w.heap.size w ((w.alloc (.cells #[.slice A n cap] 26)).alloc (.cells #[] 41)) := (HS0.out _).alloc (by simp) _
  have R0 : Rg ((w.alloc (.cells #[.slice A n cap] 26)).alloc (.cells #[] 41)) w.heap.size (.slice A n cap) := (Below.heap_alloc _ _ _ (by simp)).trans HR.out
  have z0 : ((w.alloc (.cells #[.slice A n cap] 26)).alloc (.cells #[] 41)).heap.size = w.heap.size + 2 := by simp
  generalize (w.alloc (.cells #[.slice A n cap] 26)).alloc (.cells #[] 41) = W0 at K0 B0 R0 z0 ⊢
  have r0 := R0.c0
  clear HR HS0 HMk
  go_wp2_with fail
  refine (HOk.out _ B0).mono ?_
  rintro e w1 ⟨rfl, hb1⟩
  have B1 := B0.trans (hb1.mono B0.size)
  have R1 := R0.on hb1
  have K1 := Reg.own_below K0 hb1 (Nat.le_refl _)
  have z1 := hb1.size
  clear K0 B0 R0 r0 hb1 HOk
  cases ok with
  | false =>
    have HF := Lib.hid (HNot.out (fun q => by have := HOr.out.2 q; cases this))
    have HK := Lib.hid (Reg.own_base K1 (Nat.le_succ _))
    clear K1 HAll HW HEnd
    go_wp2
    go_ret
    exact ⟨_, 0, by rw [HF.out]; rfl, by rw [HF.out]; exact HK.out, B1⟩
  | true =>
    have ho := HOr.out.1 rfl
    have HE := Lib.hid (HEnd.out ho)
    have r1 := R1.c0
    have HA2 := Lib.hid (HAll.out _ B1 ho)
    clear HAll HEnd HNot ho
    go_wp2_with fail
    refine HA2.out.mono ?_
    rintro e w2 ⟨A1, cap1, rfl, hown1, hb2⟩
    have z2 := hb2.size
    obtain ⟨b, ob, hlb, hob, hsrc, hbz⟩ := src_doms (z := w.heap.size) hown1 (by omega)
    have HS2 := Lib.hid (as_start (B1.trans (hb2.mono B1.size)) (R1.on hb2) hlb hob (Reg.own_below K1 hb2 (Nat.le_refl _)) (by omega))
    obtain ⟨off, hA1, hR1⟩ := hsrc
    have HA1 := Lib.hid hA1
    have HRd := Lib.hid hR1
    clear HA2 B1 R1 K1 r1 hown1 hb2 hA1 hR1 hlb hob hbz z0 z1 z2
    have HP0 := Lib.hid (show AS w (.slice A n cap) b ob (fil (fun d => decide (0 < c d)) F 0) (.slice (some ⟨w.heap.size + 1, 0, none⟩) 0 0) w2 from HS2.out)
    have HYes := Lib.hid (fun k (hk : k < F.length) (hp : ((fun d => decide (0 < c d))) F[k] = true) => fil_yes (p := (fun d => decide (0 < c d))) hk hp)
    have HNo := Lib.hid (fun k (hk : k < F.length) (hp : ((fun d => decide (0 < c d))) F[k] = false) => fil_no (p := (fun d => decide (0 < c d))) hk hp)
    have HPl := Lib.hid (fun k => fil_len (fun d => decide (0 < c d)) F k)
    obtain ⟨N, hN⟩ : ∃ N, N = F.length := ⟨_, rfl⟩
    rw [← hN] at HLn HA1 HE HPl ⊢
    have HN := Lib.hid hN
    clear hN HS2
    go_wp2_with fail
    go_loopw [3, 5] (fun vo si wr => ∃ t : Nat, t ≤ N ∧ si = .int .i64 t ∧ Hid (AS w (.slice A n cap) b ob (fil (fun d => decide (0 < c d)) F t) vo wr)) (fun _ si _ => N - (intOf si).toNat)
    case atStart => exact ⟨0, Nat.zero_le _, rfl, HP0⟩
    case round =>
      clear HP0
      obtain ⟨t, ht, rfl, HS⟩ := hrel
      have hN64 := HLn.out
      by_cases hlt : t < N
      · have hti : t < F.length := by rw [← HN.out]; exact hlt
        obtain rfl := HA1.out (by omega)
        obtain ⟨c0, c1, c2⟩ := HRd.out _ HS.out.blk t hti
        have HRi := Lib.hid (fun W hW => HRd.out W hW t hti)
        have HY := Lib.hid (HYes.out t hti)
        have HO := Lib.hid (HNo.out t hti)
        have hPl := HPl.out t
        generalize F[t] = p at c0 c1 c2 HRi HY HO
        obtain ⟨x, y, s⟩ := p
        simp only at c0 c1 c2 HRi
        have HWx := Lib.hid (fun W hb => HW.out W hb x y s)
        obtain ⟨q, hq⟩ : ∃ q, q = c (x, y, s) := ⟨_, rfl⟩
        rw [← hq] at HWx
        simp only [← hq] at HY HO
        clear hq
        have htN : (t : Int) < (N : Int) := by omega
        go_upto_region 8 with fail
        refine wp_region_noPanic ?_
        have T3 := HS.out.drew
        have HS3 : wr.drew.heap[b]? = ob := T3.blk
        have HSc := Lib.hid (fun (vo : Value) (L : List Dm) (W : World) (h : AS w (.slice A n cap) b ob L vo W) => show W.cell? ⟨w.heap.size, 0, none⟩ = some (.slice A n cap) ∧ W.cell? ⟨b, off + t * 3, none⟩ = some (.int .i64 x) ∧ W.cell? ⟨b, off + t * 3 + 1, none⟩ = some (.int .i64 y) ∧ W.cell? ⟨b, off + t * 3 + 2, none⟩ = some (.bool s) from ⟨h.box.c0, HRi.out W h.blk⟩)
        refine wp_region_held_drew (S := fun w' => w'.cell? ⟨w.heap.size, 0, none⟩ = some (.slice A n cap) ∧ w'.cell? ⟨b, off + t * 3, none⟩ = some (.int .i64 x) ∧ w'.cell? ⟨b, off + t * 3 + 1, none⟩ = some (.int .i64 y) ∧ w'.cell? ⟨b, off + t * 3 + 2, none⟩ = some (.bool s)) (by kernel_rfl) (HSc.out _ _ _ T3) (fun hHeld => ?_)
        generalize wr.drew = W3 at T3 hHeld ⊢
        clear HS c0 c1 c2 HS3
        refine wpAnyH_take (i := 0) (v := ?_) rfl (by kernel_rfl) (by kernel_rfl) (by kernel_rfl) (fun _ _ _ h => h) (Or.inl ⟨by rfl, ?_⟩) (by assumption) ?_
        rotate_left
        · (intro w' hS; (try dsimp only at hS); go_simp; try with_reducible rfl)
        try simp only [Act.put, List.getElem_toArray, List.getElem_cons_succ, List.getElem_cons_zero, List.setIfInBounds_toArray, List.set_cons_zero, List.set_cons_succ]
        refine wpAnyH_take (i := 1) (v := ?_) rfl (by kernel_rfl) (by kernel_rfl) (by kernel_rfl) (fun _ _ _ h => h) (Or.inl ⟨by rfl, ?_⟩) (by assumption) ?_
        rotate_left
        · (intro w' hS; (try dsimp only at hS); go_simp; try with_reducible rfl)
        try simp only [Act.put, List.getElem_toArray, List.getElem_cons_succ, List.getElem_cons_zero, List.setIfInBounds_toArray, List.set_cons_zero, List.set_cons_succ]
        refine wpAnyH_take (i := 2) (v := ?_) rfl (by kernel_rfl) (by kernel_rfl) (by kernel_rfl) (fun _ _ _ h => h) (Or.inl ⟨by rfl, ?_⟩) (by assumption) ?_
        rotate_left
        · (intro w' hS; (try dsimp only at hS); go_simp; try with_reducible rfl)
        try simp only [Act.put, List.getElem_toArray, List.getElem_cons_succ, List.getElem_cons_zero, List.setIfInBounds_toArray, List.set_cons_zero, List.set_cons_succ]
        refine wpAnyH_take (i := 3) (v := ?_) rfl (by kernel_rfl) (by kernel_rfl) (by kernel_rfl) (fun _ _ _ h => h) (Or.inl ⟨by rfl, ?_⟩) (by assumption) ?_
        rotate_left
        · (intro w' hS; (try dsimp only at hS); go_simp; try with_reducible rfl)
        try simp only [Act.put, List.getElem_toArray, List.getElem_cons_succ, List.getElem_cons_zero, List.setIfInBounds_toArray, List.set_cons_zero, List.set_cons_succ]
        refine wpAnyH_take (i := 4) (v := ?_) rfl (by kernel_rfl) (by kernel_rfl) (by kernel_rfl) (fun _ _ _ h => h) (Or.inl ⟨by rfl, ?_⟩) (by assumption) ?_
        rotate_left
        · (intro w' hS; (try dsimp only at hS); go_simp; try with_reducible rfl)
        try simp only [Act.put, List.getElem_toArray, List.getElem_cons_succ, List.getElem_cons_zero, List.setIfInBounds_toArray, List.set_cons_zero, List.set_cons_succ]
        refine wpAnyH_ready (rs := [5]) (by kernel_rfl) (by simp) ?_
        refine AllReadyH.cons rfl (fun K hK => ?_) AllReadyH.nil
        go_simp
        refine (HWx.out _ T3.bel).mono ?_
        rintro e wx ⟨rfl, hbx⟩
        have T3 := T3.on hbx
        clear hbx
        go_wp2_with fail
        refine hK.out _ _ (HSc.out _ _ _ T3) (fun hHeld => ?_)
        clear hK K
        try simp only [Act.put, List.getElem_toArray, List.getElem_cons_succ, List.getElem_cons_zero, List.setIfInBounds_toArray, List.set_cons_zero, List.set_cons_succ]
        refine wpAnyH_take (i := 6) (v := ?_) rfl (by kernel_rfl) (by kernel_rfl) (by kernel_rfl) (fun _ _ _ h => h) (Or.inl ⟨by rfl, ?_⟩) (by assumption) ?_
        rotate_left
        · (intro w' hS; (try dsimp only at hS); go_simp; try with_reducible rfl)
        try simp only [Act.put, List.getElem_toArray, List.getElem_cons_succ, List.getElem_cons_zero, List.setIfInBounds_toArray, List.set_cons_zero, List.set_cons_succ]
        refine wpAnyH_done (by kernel_rfl) ?_ _
        refine NoPanic.normal ?_
        have T4 := T3
        have c0 := (HSc.out _ _ _ T4).2.1
        have c1 := (HSc.out _ _ _ T4).2.2.1
        have c2 := (HSc.out _ _ _ T4).2.2.2
        clear hHeld T3 HSc
        by_cases hp : 0 < q
        · have HPn := Lib.hid (HY.out (decide_eq_true hp))
          have d0 := (HRi.out _ (T4.on (below_alloc1 wx (.cells #[.int .i64 x, .int .i64 y, .bool s] 41))).blk)
          generalize hU : fil (fun d => decide (0 < c d)) F t = U at T4 HPn hPl d0
          skip
          clear hU d0
          go_wp2_with (first
            | (at_builtin
               go_must (refine wpList_append_lies _ rfl _ _ 28 rfl (w.heap.size + 1) 41 i0 (.agg #[.int .i64 0, .int .i64 0, .bool false]) 3 24 Try.underlying28 hi hz0 hz1 hz2 rfl (by decide) _ U.length (rowM U) rfl (T4.own.alloc _) ⟨wx.heap.size, 0, none⟩ 1 1 [.int .i64 x, .int .i64 y, .bool s] rfl rfl (World.news_of_block (cs := #[.int .i64 x, .int .i64 y, .bool s]) (t := 41) (fr := (0, 0)) (heap_alloc_new wx _)) (by simp [Value.oneCell']) (by decide) (by unfold maxLen; omega) (by omega) (by have := T4.box.lt; simp; omega) (wx.heap.size + 1) (by simp) ?_)
               intro g7 c7 w7 hown7 hgrow7 hat7 _))
          have HT7 := Lib.hid ((T4.on (below_alloc1 wx (.cells #[.int .i64 x, .int .i64 y, .bool s] 41))).snoc (d := (x, y, s)) hown7 hgrow7 (fun g e => by
            injection e with e
            subst e
            rcases hat7 with q | q
            · exact .inl q
            · right; rw [q, World.size_alloc]; exact Nat.le_refl _))
          clear hown7 hgrow7 hat7 T4 c0 c1 c2
          go_wp2
          go_roundw
          case rel => exact ⟨t + 1, by omega, by go_num, by rw [HPn.out]; exact HT7⟩
          case measure => (simp [intOf] <;> omega)
        · have HPn := Lib.hid (HO.out (decide_eq_false hp))
          have HT4 := Lib.hid T4
          skip
          clear T4 c0 c1 c2
          go_wp2
          go_roundw
          case rel => exact ⟨t + 1, by omega, by go_num, by rw [HPn.out]; exact HT4⟩
          case measure => (simp [intOf] <;> omega)
      · obtain rfl : N = t := by omega
        have hown := HS.out.own
        obtain ⟨A2, c2, rfl⟩ := own_shape hown
        have HO2 := Lib.hid (Reg.own_base hown (Nat.le_succ _))
        have HB2 := HS.out.bel
        rw [HE.out _ rfl] at HO2 ⊢
        clear hown HS
        go_wp2
        go_ret
        exact ⟨A2, c2, rfl, HO2.out, HB2⟩

set_option maxHeartbeats 4000000 in
theorem sForced (w : World) (A : Option Addr) (n cap B : Nat) (xs : List Int) (hx : xs.length = n) (hn : (n : Int) ≤ 1048576) (h : RowB w B A xs) (hB : B ≤ w.heap.size) (hcap : A = none → n = 0 ∧ cap = 0) :
    Calls Try.prog 32 #[.agg #[.slice A n cap]] w (DmE (forcD xs) w) := by
  obtain ⟨i0, hi, hz0, hz1, hz2⟩ := info_parts domInfo
  have HOk := Lib.hid (fun W (hb : Below w.heap.size w W) => sCountTilings W A n cap B xs hx (by omega) (h.below hb hB) (by have := hb.size; omega))
  have HAll := Lib.hid (fun W (hb : Below w.heap.size w W) (ho : tilesR xs ≠ 0) => sAll W A n cap B xs hx (Classical.byContradiction fun q => ho (tiles_not q)) (h.below hb hB) (by have := hb.size; omega))
  have HW := Lib.hid (fun W (hb : Below w.heap.size w W) x y b => show Calls Try.prog 21 #[.agg #[.slice A n cap], .agg #[.int .i64 x, .int .i64 y, .bool b]] W (Num (cW xs (x, y, b)) W) from sCountWith W A n cap B xs hx hn (h.below hb hB) (by have := hb.size; omega) hcap x y b)
  have HR := Lib.hid (Rg.new w (.slice A n cap))
  have HS0 := Lib.hid (fun (o : Obj) => below_alloc1 w o)
  have HMk := Lib.hid (fun (W : World) => World.ownsRow_made (e := 41) (size := 3) W #[] 0 (Nat.le_refl _) (by unfold maxLen; omega) rfl)
  have HLn := Lib.hid (allD_len xs)
  have HNot := Lib.hid (show tilesR xs = 0 → forcD xs = [] from fun q => forc_zero q)
  have HEnd := Lib.hid (show tilesR xs ≠ 0 → ∀ k, k = (allD xs).length → fil (fun d => decide (cW xs d = tilesR xs)) (allD xs) k = forcD xs from fun ho k hk => by rw [fil_all hk, forc_fits ho])
  unfold DmE at HAll ⊢
  generalize forcD xs = F0 at HNot HEnd ⊢
  generalize cW xs = c at HW HEnd
  generalize allD xs = F at HAll HLn HEnd
  generalize tilesR xs = m at HOk HAll HNot HEnd
  clear hx hn h hB hcap
  go_enter Try.func32, Try.ntmps32
  go_wp2_with fail
  have K0 := HMk.out (w.alloc (.cells #[.slice A n cap] 26))
  rw [World.size_alloc] at K0
  have B0 : Below w.heap.size w ((w.alloc (.cells #[.slice A n cap] 26)).alloc (.cells #[] 41)) := (HS0.out _).alloc (by simp) _
  have R0 : Rg ((w.alloc (.cells #[.slice A n cap] 26)).alloc (.cells #[] 41)) w.heap.size (.slice A n cap) := (Below.heap_alloc _ _ _ (by simp)).trans HR.out
  have z0 : ((w.alloc (.cells #[.slice A n cap] 26)).alloc (.cells #[] 41)).heap.size = w.heap.size + 2 := by simp
  generalize (w.alloc (.cells #[.slice A n cap] 26)).alloc (.cells #[] 41) = W0 at K0 B0 R0 z0 ⊢
  have r0 := R0.c0
  clear HR HS0 HMk
  go_wp2_with fail
  refine (HOk.out _ B0).mono ?_
  rintro e w1 ⟨rfl, hb1⟩
  have B1 := B0.trans (hb1.mono B0.size)
  have R1 := R0.on hb1
  have K1 := Reg.own_below K0 hb1 (Nat.le_refl _)
  have z1 := hb1.size
  clear K0 B0 R0 r0 hb1 HOk
  by_cases hm : m = 0
  · have HF := Lib.hid (HNot.out hm)
    have HK := Lib.hid (Reg.own_base K1 (Nat.le_succ _))
    clear K1 HAll HW HEnd
    go_wp2
    go_ret
    exact ⟨_, 0, by rw [HF.out]; rfl, by rw [HF.out]; exact HK.out, B1⟩
  · have hm1 : (m == 0) = false := by simp [hm]
    have HE := Lib.hid (HEnd.out hm)
    have r1 := R1.c0
    have HA2 := Lib.hid (HAll.out _ B1 hm)
    clear HAll HEnd HNot
    go_wp2_with fail
    refine HA2.out.mono ?_
    rintro e w2 ⟨A1, cap1, rfl, hown1, hb2⟩
    have z2 := hb2.size
    obtain ⟨b, ob, hlb, hob, hsrc, hbz⟩ := src_doms (z := w.heap.size) hown1 (by omega)
    have HS2 := Lib.hid (as_start (B1.trans (hb2.mono B1.size)) (R1.on hb2) hlb hob (Reg.own_below K1 hb2 (Nat.le_refl _)) (by omega))
    obtain ⟨off, hA1, hR1⟩ := hsrc
    have HA1 := Lib.hid hA1
    have HRd := Lib.hid hR1
    clear HA2 B1 R1 K1 r1 hown1 hb2 hA1 hR1 hlb hob hbz z0 z1 z2
    have HP0 := Lib.hid (show AS w (.slice A n cap) b ob (fil (fun d => decide (c d = m)) F 0) (.slice (some ⟨w.heap.size + 1, 0, none⟩) 0 0) w2 from HS2.out)
    have HYes := Lib.hid (fun k (hk : k < F.length) (hp : ((fun d => decide (c d = m))) F[k] = true) => fil_yes (p := (fun d => decide (c d = m))) hk hp)
    have HNo := Lib.hid (fun k (hk : k < F.length) (hp : ((fun d => decide (c d = m))) F[k] = false) => fil_no (p := (fun d => decide (c d = m))) hk hp)
    have HPl := Lib.hid (fun k => fil_len (fun d => decide (c d = m)) F k)
    obtain ⟨N, hN⟩ : ∃ N, N = F.length := ⟨_, rfl⟩
    rw [← hN] at HLn HA1 HE HPl ⊢
    have HN := Lib.hid hN
    clear hN HS2
    go_wp2_with fail
    go_loopw [3, 6] (fun vo si wr => ∃ t : Nat, t ≤ N ∧ si = .int .i64 t ∧ Hid (AS w (.slice A n cap) b ob (fil (fun d => decide (c d = m)) F t) vo wr)) (fun _ si _ => N - (intOf si).toNat)
    case atStart => exact ⟨0, Nat.zero_le _, rfl, HP0⟩
    case round =>
      clear HP0
      obtain ⟨t, ht, rfl, HS⟩ := hrel
      have hN64 := HLn.out
      by_cases hlt : t < N
      · have hti : t < F.length := by rw [← HN.out]; exact hlt
        obtain rfl := HA1.out (by omega)
        obtain ⟨c0, c1, c2⟩ := HRd.out _ HS.out.blk t hti
        have HRi := Lib.hid (fun W hW => HRd.out W hW t hti)
        have HY := Lib.hid (HYes.out t hti)
        have HO := Lib.hid (HNo.out t hti)
        have hPl := HPl.out t
        generalize F[t] = p at c0 c1 c2 HRi HY HO
        obtain ⟨x, y, s⟩ := p
        simp only at c0 c1 c2 HRi
        have HWx := Lib.hid (fun W hb => HW.out W hb x y s)
        obtain ⟨q, hq⟩ : ∃ q, q = c (x, y, s) := ⟨_, rfl⟩
        rw [← hq] at HWx
        simp only [← hq] at HY HO
        clear hq
        have htN : (t : Int) < (N : Int) := by omega
        go_upto_region 9 with fail
        refine wp_region_noPanic ?_
        have T3 := HS.out.drew
        have HS3 : wr.drew.heap[b]? = ob := T3.blk
        have HSc := Lib.hid (fun (vo : Value) (L : List Dm) (W : World) (h : AS w (.slice A n cap) b ob L vo W) => show W.cell? ⟨w.heap.size, 0, none⟩ = some (.slice A n cap) ∧ W.cell? ⟨b, off + t * 3, none⟩ = some (.int .i64 x) ∧ W.cell? ⟨b, off + t * 3 + 1, none⟩ = some (.int .i64 y) ∧ W.cell? ⟨b, off + t * 3 + 2, none⟩ = some (.bool s) from ⟨h.box.c0, HRi.out W h.blk⟩)
        refine wp_region_held_drew (S := fun w' => w'.cell? ⟨w.heap.size, 0, none⟩ = some (.slice A n cap) ∧ w'.cell? ⟨b, off + t * 3, none⟩ = some (.int .i64 x) ∧ w'.cell? ⟨b, off + t * 3 + 1, none⟩ = some (.int .i64 y) ∧ w'.cell? ⟨b, off + t * 3 + 2, none⟩ = some (.bool s)) (by kernel_rfl) (HSc.out _ _ _ T3) (fun hHeld => ?_)
        generalize wr.drew = W3 at T3 hHeld ⊢
        clear HS c0 c1 c2 HS3
        refine wpAnyH_take (i := 0) (v := ?_) rfl (by kernel_rfl) (by kernel_rfl) (by kernel_rfl) (fun _ _ _ h => h) (Or.inl ⟨by rfl, ?_⟩) (by assumption) ?_
        rotate_left
        · (intro w' hS; (try dsimp only at hS); go_simp; try with_reducible rfl)
        try simp only [Act.put, List.getElem_toArray, List.getElem_cons_succ, List.getElem_cons_zero, List.setIfInBounds_toArray, List.set_cons_zero, List.set_cons_succ]
        refine wpAnyH_take (i := 1) (v := ?_) rfl (by kernel_rfl) (by kernel_rfl) (by kernel_rfl) (fun _ _ _ h => h) (Or.inl ⟨by rfl, ?_⟩) (by assumption) ?_
        rotate_left
        · (intro w' hS; (try dsimp only at hS); go_simp; try with_reducible rfl)
        try simp only [Act.put, List.getElem_toArray, List.getElem_cons_succ, List.getElem_cons_zero, List.setIfInBounds_toArray, List.set_cons_zero, List.set_cons_succ]
        refine wpAnyH_take (i := 2) (v := ?_) rfl (by kernel_rfl) (by kernel_rfl) (by kernel_rfl) (fun _ _ _ h => h) (Or.inl ⟨by rfl, ?_⟩) (by assumption) ?_
        rotate_left
        · (intro w' hS; (try dsimp only at hS); go_simp; try with_reducible rfl)
        try simp only [Act.put, List.getElem_toArray, List.getElem_cons_succ, List.getElem_cons_zero, List.setIfInBounds_toArray, List.set_cons_zero, List.set_cons_succ]
        refine wpAnyH_take (i := 3) (v := ?_) rfl (by kernel_rfl) (by kernel_rfl) (by kernel_rfl) (fun _ _ _ h => h) (Or.inl ⟨by rfl, ?_⟩) (by assumption) ?_
        rotate_left
        · (intro w' hS; (try dsimp only at hS); go_simp; try with_reducible rfl)
        try simp only [Act.put, List.getElem_toArray, List.getElem_cons_succ, List.getElem_cons_zero, List.setIfInBounds_toArray, List.set_cons_zero, List.set_cons_succ]
        refine wpAnyH_take (i := 4) (v := ?_) rfl (by kernel_rfl) (by kernel_rfl) (by kernel_rfl) (fun _ _ _ h => h) (Or.inl ⟨by rfl, ?_⟩) (by assumption) ?_
        rotate_left
        · (intro w' hS; (try dsimp only at hS); go_simp; try with_reducible rfl)
        try simp only [Act.put, List.getElem_toArray, List.getElem_cons_succ, List.getElem_cons_zero, List.setIfInBounds_toArray, List.set_cons_zero, List.set_cons_succ]
        refine wpAnyH_take (i := 6) (v := ?_) rfl (by kernel_rfl) (by kernel_rfl) (by kernel_rfl) (fun _ _ _ h => h) (Or.inl ⟨by rfl, ?_⟩) (by assumption) ?_
        rotate_left
        · (intro w' hS; (try dsimp only at hS); go_simp; try with_reducible rfl)
        try simp only [Act.put, List.getElem_toArray, List.getElem_cons_succ, List.getElem_cons_zero, List.setIfInBounds_toArray, List.set_cons_zero, List.set_cons_succ]
        refine wpAnyH_ready (rs := [5]) (by kernel_rfl) (by simp) ?_
        refine AllReadyH.cons rfl (fun K hK => ?_) AllReadyH.nil
        go_simp
        refine (HWx.out _ T3.bel).mono ?_
        rintro e wx ⟨rfl, hbx⟩
        have T3 := T3.on hbx
        clear hbx
        go_wp2_with fail
        refine hK.out _ _ (HSc.out _ _ _ T3) (fun hHeld => ?_)
        clear hK K
        try simp only [Act.put, List.getElem_toArray, List.getElem_cons_succ, List.getElem_cons_zero, List.setIfInBounds_toArray, List.set_cons_zero, List.set_cons_succ]
        refine wpAnyH_take (i := 7) (v := ?_) rfl (by kernel_rfl) (by kernel_rfl) (by kernel_rfl) (fun _ _ _ h => h) (Or.inl ⟨by rfl, ?_⟩) (by assumption) ?_
        rotate_left
        · (intro w' hS; (try dsimp only at hS); go_simp; try with_reducible rfl)
        try simp only [Act.put, List.getElem_toArray, List.getElem_cons_succ, List.getElem_cons_zero, List.setIfInBounds_toArray, List.set_cons_zero, List.set_cons_succ]
        refine wpAnyH_done (by kernel_rfl) ?_ _
        refine NoPanic.normal ?_
        have T4 := T3
        have c0 := (HSc.out _ _ _ T4).2.1
        have c1 := (HSc.out _ _ _ T4).2.2.1
        have c2 := (HSc.out _ _ _ T4).2.2.2
        clear hHeld T3 HSc
        by_cases hp : q = m
        · have HPn := Lib.hid (HY.out (decide_eq_true hp))
          have d0 := (HRi.out _ (T4.on (below_alloc1 wx (.cells #[.int .i64 x, .int .i64 y, .bool s] 41))).blk)
          generalize hU : fil (fun d => decide (c d = m)) F t = U at T4 HPn hPl d0
          have hp1 : (q == m) = true := by simp [hp]
          have HPP := Lib.hid hp
          clear hp
          clear hU d0
          go_wp2_with (first
            | (at_builtin
               go_must (refine wpList_append_lies _ rfl _ _ 28 rfl (w.heap.size + 1) 41 i0 (.agg #[.int .i64 0, .int .i64 0, .bool false]) 3 24 Try.underlying28 hi hz0 hz1 hz2 rfl (by decide) _ U.length (rowM U) rfl (T4.own.alloc _) ⟨wx.heap.size, 0, none⟩ 1 1 [.int .i64 x, .int .i64 y, .bool s] rfl rfl (World.news_of_block (cs := #[.int .i64 x, .int .i64 y, .bool s]) (t := 41) (fr := (0, 0)) (heap_alloc_new wx _)) (by simp [Value.oneCell']) (by decide) (by unfold maxLen; omega) (by omega) (by have := T4.box.lt; simp; omega) (wx.heap.size + 1) (by simp) ?_)
               intro g7 c7 w7 hown7 hgrow7 hat7 _))
          have HT7 := Lib.hid ((T4.on (below_alloc1 wx (.cells #[.int .i64 x, .int .i64 y, .bool s] 41))).snoc (d := (x, y, s)) hown7 hgrow7 (fun g e => by
            injection e with e
            subst e
            rcases hat7 with q | q
            · exact .inl q
            · right; rw [q, World.size_alloc]; exact Nat.le_refl _))
          clear hown7 hgrow7 hat7 T4 c0 c1 c2
          go_wp2
          go_roundw
          case rel => exact ⟨t + 1, by omega, by go_num, by rw [HPn.out]; exact HT7⟩
          case measure => (simp [intOf] <;> omega)
        · have HPn := Lib.hid (HO.out (decide_eq_false hp))
          have HT4 := Lib.hid T4
          have hp1 : (q == m) = false := by simp [hp]
          clear T4 c0 c1 c2
          go_wp2
          go_roundw
          case rel => exact ⟨t + 1, by omega, by go_num, by rw [HPn.out]; exact HT4⟩
          case measure => (simp [intOf] <;> omega)
      · obtain rfl : N = t := by omega
        have hown := HS.out.own
        obtain ⟨A2, c2, rfl⟩ := own_shape hown
        have HO2 := Lib.hid (Reg.own_base hown (Nat.le_succ _))
        have HB2 := HS.out.bel
        rw [HE.out _ rfl] at HO2 ⊢
        clear hown HS
        go_wp2
        go_ret
        exact ⟨A2, c2, rfl, HO2.out, HB2⟩
end Go.Proofs.Ytjfagpmklifjlaa.Frd

namespace Go.Proofs.Ytjfagpmklifjlaa.Nb
set_option linter.unusedVariables false
open Go.RowKit Go.Proofs.Ytjfagpmklifjlaa.Cell Go.Joins

def rowC (L : List (Int × Int)) : List Value := L.flatMap fun p => [.int .i64 p.1, .int .i64 p.2]
theorem rowC_snoc (L : List (Int × Int)) (p : Int × Int) : rowC (L ++ [p]) = rowC L ++ [.int .i64 p.1, .int .i64 p.2] := by unfold rowC; simp
def nbTo (x y : Int) (k : Nat) : List (Int × Int) := ((List.range k).filter fun (j : Nat) => nbB x y (atX (j : Int)) (atY (j : Int))).map fun (j : Nat) => (atX (j : Int), atY (j : Int))
theorem nbTo_length (x y : Int) (k : Nat) : (nbTo x y k).length ≤ k := by
 unfold nbTo; rw [List.length_map]; exact Nat.le_trans (List.length_filter_le _ _) (by simp)

theorem own_below {w w' : World} {base e size n : Nat} {v : Value} {xs : List Value} (h : w.ownsRow base e size v n xs) (hb : Below w.heap.size w w') : w'.ownsRow base e size v n xs :=
 h.kept (row := none) ⟨hb.os, hb.tape, hb.output, hb.size, fun i hi _ => hb.block i hi⟩ (by cases v <;> simp [Value.ownBlock] <;> (try (split <;> simp)))
theorem bx2 {T : TypeId} (x y : Int) (w w1 : World) (h : Below (w.alloc (.cells #[.int .i64 x, .int .i64 y] T)).heap.size (w.alloc (.cells #[.int .i64 x, .int .i64 y] T)) w1) :
  w1.cell? ⟨w.heap.size, 0, none⟩ = some (.int .i64 x) ∧ w1.cell? ⟨w.heap.size, 1, none⟩ = some (.int .i64 y) := by
 have hbl : (w.alloc (.cells #[.int .i64 x, .int .i64 y] T)).heap[w.heap.size]? = some (.cells #[.int .i64 x, .int .i64 y] T) := by
  show (w.heap.push _)[w.heap.size]? = _
  exact Array.getElem?_push_size
 exact ⟨by rw [h.cell (by simp)]; exact (cell_of_row _ _ 0 _ _ _ hbl).trans rfl, by rw [h.cell (by simp)]; exact (cell_of_row _ _ 1 _ _ _ hbl).trans rfl⟩

def NbPost (L : List (Int × Int)) (w : World) (e : Ending) (w' : World) : Prop :=
 ∃ (A : Option Addr) (cap : Nat), e = .returned (.slice A L.length cap) ∧ w'.ownsRow w.heap.size 38 2 (.slice A L.length cap) L.length (rowC L) ∧ Below w.heap.size w w'

theorem cellInfo : (Try.prog.info? 38).map (fun i => (i.zero, i.size, i.bytes)) = some (some (.agg #[.int .i64 0, .int .i64 0]), 2, 16) := by kernel_rfl

theorem own_base {w : World} {B B' e size n : Nat} {v : Value} {xs : List Value} (h : w.ownsRow B e size v n xs) (hB : B' ≤ B) : w.ownsRow B' e size v n xs := by
 refine ⟨h.1, ?_⟩
 rcases h.2 with h | ⟨g, cap, cur, a, b, c⟩
 ·exact .inl h
 ·exact .inr ⟨g, cap, cur, a, by omega, c⟩
end Go.Proofs.Ytjfagpmklifjlaa.Nb
