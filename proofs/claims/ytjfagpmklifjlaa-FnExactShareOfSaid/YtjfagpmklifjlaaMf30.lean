/- FrF in one text. -/
import Derived.Test.YtjfagpmklifjlaaMf29
import Derived.Test.YtjfagpmklifjlaaMf24
import Derived.Test.YtjfagpmklifjlaaMf25
import Derived.Test.YtjfagpmklifjlaaMf15
import Derived.Test.YtjfagpmklifjlaaMf19
import Derived.Test.YtjfagpmklifjlaaMf09
import Derived.Test.YtjfagpmklifjlaaMf17

namespace Go.Proofs.Ytjfagpmklifjlaa.Frd
set_option linter.unusedVariables false
set_option linter.unusedSimpArgs false
set_option maxRecDepth 100000
open Go.RowKit Go.Proofs.Ytjfagpmklifjlaa.Base Go.Proofs.Ytjfagpmklifjlaa.Pure Go.Proofs.Ytjfagpmklifjlaa.Cell Go.Proofs.Ytjfagpmklifjlaa.Cels Go.Proofs.Ytjfagpmklifjlaa.Dom Go.Proofs.Ytjfagpmklifjlaa.Dms Go.Proofs.Ytjfagpmklifjlaa.Til Go.Proofs.Ytjfagpmklifjlaa.Fr Go.Joins
open Go.Proofs.Ytjfagpmklifjlaa.Prof (iIsTileable)
open Go.Proofs.Ytjfagpmklifjlaa.Cnt (tilesR)
open Go.Proofs.Ytjfagpmklifjlaa.Reg hiding Yes add_none RC rc_start

def CloI (xs : List Int) (n : Nat) (w : World) (e : Ending) (w' : World) : Prop :=
 ∃ A cap, e = .returned (.slice A n cap) ∧ w'.ownsRow w.heap.size 3 1 (.slice A n cap) n (ints xs) ∧ Below w.heap.size w w'
theorem cloNil (w : World) : (binOp .eql 24 (.slice none 0 0) (.slice none 0 0)).run Try.prog w = .ok (.bool true) w := by kernel_rfl
theorem cloSome (a : Addr) (n c : Nat) (w : World) : (binOp .eql 24 (.slice (some a) n c) (.slice none 0 0)).run Try.prog w = .ok (.bool false) w := by kernel_rfl
set_option maxHeartbeats 1000000 in
theorem iCloneI (w : World) (A : Option Addr) (n cap B : Nat) (xs : List Int) (hx : xs.length = n) (hn : (n : Int) ≤ 1048576) (h : RowB w B A xs) (hB : B ≤ w.heap.size) (hcap : A = none → n = 0 ∧ cap = 0) :
  Calls Try.prog 46 #[.slice A n cap] w (CloI xs n w) := by
 obtain ⟨i0, hi, hz0, hz1, hz2⟩ := info_parts intInfo
 cases A with
 | none =>
  obtain ⟨rfl, rfl⟩ := hcap rfl
  have hL0 := List.eq_nil_of_length_eq_zero hx
  subst hL0
  have hq := cloNil w
  have HP := Lib.hid (show CloI [] 0 w (.returned (.slice none 0 0)) w from ⟨none, 0, rfl, World.ownsRow_nil w w.heap.size 3 1, Below.refl _ _⟩)
  clear hx hn h hB hcap
  go_enter Try.func46, Try.ntmps46
  go_wp2
  go_ret
  exact HP.out
 | some a =>
  have hq := cloSome a n cap w
  have HM := Lib.hid (World.ownsRow_made (base := w.heap.size) (e := 3) (size := 1) w #[] 0 (Nat.le_refl _) (by unfold maxLen; omega) rfl)
  have HB1 := Lib.hid (below_alloc1 w (.cells #[] 3))
  have HSrc := Lib.hid (rowB_src' (h.below HB1.out hB))
  have HLx := Lib.hid (show (ints xs).length = n * 1 by rw [ints_length, hx, Nat.mul_one])
  have HOne := Lib.hid (Reg.ints_oneCell xs)
  clear hx h hB hcap
  go_enter Try.func46, Try.ntmps46
  go_wp2_with (first
   | (at_builtin; refine wpList_append_own _ rfl _ _ 24 rfl w.heap.size 3 i0 (.int .i64 0) 1 8 Try.underlying24 hi hz0 hz1 hz2 rfl (by decide) (.slice (some ⟨w.heap.size, 0, none⟩) 0 0) 0 [] (by rfl) HM.out a n cap (ints xs) (by rfl) HLx.out HSrc.out HOne.out (by unfold maxLen; omega) (by omega) (by simp) ?_; intro v' w3 hown3 hgrow _; obtain ⟨A', cap', hv'⟩ := own_shape hown3; subst hv'))
  have HO3 := Lib.hid (show w3.ownsRow w.heap.size 3 1 (.slice A' n cap') n (ints xs) by simpa using hown3)
  have HB3 := Lib.hid (show Below w.heap.size w w3 from HB1.out.grown hgrow (by simp) (by simp [Value.ownBlock]))
  clear hown3 hgrow
  go_ret
  exact ⟨_, cap', rfl, HO3.out, HB3.out⟩
theorem rw2_start (w : World) (v : Value) : Below w.heap.size w ((w.alloc (.cells #[v] 26)).alloc (.cells #[.slice none 0 0] 26)) ∧
  Rg ((w.alloc (.cells #[v] 26)).alloc (.cells #[.slice none 0 0] 26)) w.heap.size v ∧
  Rg ((w.alloc (.cells #[v] 26)).alloc (.cells #[.slice none 0 0] 26)) (w.heap.size + 1) (.slice none 0 0) ∧
  ((w.alloc (.cells #[v] 26)).alloc (.cells #[.slice none 0 0] 26)).heap.size = w.heap.size + 2 := by
 have h1 := Rg.new w v
 have h2 := Rg.new (w.alloc (.cells #[v] 26)) (.slice none 0 0)
 rw [World.size_alloc] at h2
 exact ⟨below_alloc2 w _ _, (Below.heap_alloc _ _ _ (by simp)).trans h1, h2, by simp⟩
structure FS (w : World) (v : Value) (b : Nat) (ob : Option Obj) (g : Nat) (R : List Int) (W : World) : Prop where
 bel : Below w.heap.size w W
 box : Rg W w.heap.size v
 res : Rg W (w.heap.size + 1) (.slice none 0 0)
 lt : b < W.heap.size
 blk : W.heap[b]? = ob
 own : W.ownsRow (w.heap.size + 2) 3 1 (.slice (some ⟨g, 0, none⟩) 8 8) 8 (ints R)
 ne : g ≠ b
 low : w.heap.size + 2 ≤ g
section
variable {w W W' : World} {v : Value} {b g : Nat} {ob : Option Obj} {R : List Int}
theorem FS.on (h : FS w v b ob g R W) (hb : Below W.heap.size W W') : FS w v b ob g R W' :=
 ⟨h.bel.trans (hb.mono h.bel.size), h.box.on hb, h.res.on hb, Nat.lt_of_lt_of_le h.lt hb.size, (hb.block b h.lt).trans h.blk, Reg.own_below h.own hb (Nat.le_refl _), h.ne, h.low⟩
theorem FS.put (h : FS w v b ob g R W) (y : Nat) (z : Int) : FS w v b ob g (R.set y z) (W.setCell ⟨g, y, none⟩ (.int .i64 z)).drew := by
 have hl := h.low
 refine ⟨(h.bel.setCell (p := ⟨g, y, none⟩) (by show w.heap.size ≤ g; omega) _).drew, (Below.heap_setCell _ _ _ _ (by show w.heap.size ≠ g; omega)).trans h.box, (Below.heap_setCell _ _ _ _ (by show w.heap.size + 1 ≠ g; omega)).trans h.res, ?_, (Below.heap_setCell _ _ _ _ (by show b ≠ g; exact fun e => h.ne e.symm)).trans h.blk, ?_, h.ne, h.low⟩
 ·have := h.lt
  show b < (W.setCell ⟨g, y, none⟩ (.int .i64 z)).heap.size
  simp [World.setCell]; omega
 ·show (W.setCell ⟨g, y, none⟩ (.int .i64 z)).ownsRow (w.heap.size + 2) 3 1 _ 8 _
  rw [← ints_set]; exact (h.own.stored y (.int .i64 z)).1
end
theorem on_step {R : List Int} (h8 : R.length = 8) (x y : Nat) : R.set y (putB (rowD R y) x true) = withR R x y true := by
 unfold withR pad8
 rw [h8, Nat.sub_self, List.replicate_zero, List.append_nil]

set_option maxHeartbeats 4000000 in
theorem iFreeRegion (w : World) (A : Option Addr) (n cap B : Nat) (xs : List Int) (hx : xs.length = n) (hn : (n : Int) ≤ 1048576) (h : RowB w B A xs) (hB : B ≤ w.heap.size) (hcap : A = none → n = 0 ∧ cap = 0) :
  Calls Try.prog 14 #[.agg #[.slice A n cap]] w (RegPost (freeR xs) (freeR xs).length w) := by
 obtain ⟨i0, hi, hz0, hz1, hz2⟩ := info_parts intInfo
 have HT := Lib.hid (fun W (hb : Below w.heap.size w W) => iIsTileable W A n cap B xs hx (by omega) (h.below hb hB) (by have := hb.size; omega))
 have HCl := Lib.hid (fun W (hb : Below w.heap.size w W) => iCloneI W A n cap B xs hx hn (h.below hb hB) (by have := hb.size; omega) hcap)
 have HF := Lib.hid (fun W (hb : Below w.heap.size w W) => iForced W A n cap B xs hx hn (h.below hb hB) (by have := hb.size; omega) hcap)
 have hfl : (forcD xs).length ≤ 128 := by
  rw [← inT_all]
  exact Nat.le_trans (List.length_filter_le _ _) (by
   by_cases ok : okR xs
   ·rw [← poss_fits ok]; exact Nat.le_trans (List.length_filter_le _ _) (allD_len xs)
   ·unfold possD; rw [if_neg ok]; simp)
 have HU := Lib.hid (fun W (hb : Below w.heap.size w W) A' c' (hr : RowM W W.heap.size A' (forcD xs)) => iUncoveredOf W A n cap B xs hx (by omega) (h.below hb hB) (by have := hb.size; omega) A' (forcD xs).length c' W.heap.size (forcD xs) rfl (by omega) (fun d hd => by
  have := (second_in (forcD_ok d hd)).1
  unfold Sm; omega) hr (Nat.le_refl _))
 have HR0 := Lib.hid (rw2_start w (.slice A n cap))
 have HTl := Lib.hid (show ¬ 0 < tilesR xs → freeR xs = xs from fun q => if_neg q)
 have HTy := Lib.hid (show 0 < tilesR xs → freeR xs = onR rows0 (unc (forcD xs) (cellsR xs)) from fun q => by
  have ok : okR xs := Classical.byContradiction fun r => by rw [tiles_not r] at q; omega
  rw [free_rows ok]; exact if_pos q)
 have HSm := Lib.hid (unc_small (xs := xs) (F := forcD xs))
 have HUl := Lib.hid (show (unc (forcD xs) (cellsR xs)).length ≤ 64 from Nat.le_trans (unc_length _ _) (cellsR_length xs))
 have HX := Lib.hid hx
 unfold CloI at HCl
 unfold DmPost at HF
 unfold NbPost at HU
 generalize unc (forcD xs) (cellsR xs) = U at HU HTy HSm HUl
 generalize forcD xs = F at HF HU
 generalize freeR xs = R at HTl HTy ⊢
 generalize tilesR xs = m at HT HTl HTy
 clear hx hn h hB hcap hfl
 go_enter Try.func14, Try.ntmps14
 go_wp2_with fail
 generalize (w.alloc (.cells #[.slice A n cap] 26)).alloc (.cells #[.slice none 0 0] 26) = W0 at HR0 ⊢
 obtain ⟨B0, r0, s0, z0⟩ := HR0.out
 have c0 := r0.c0
 go_wp2_with fail
 refine (HT.out _ B0).mono ?_
 rintro e w1 ⟨rfl, hb1⟩
 have B1 := B0.trans (hb1.mono B0.size)
 have r1 := r0.on hb1
 have s1 := s0.on hb1
 have z1 := hb1.size
 clear HR0 B0 r0 s0 c0 hb1 HT
 by_cases hm : 0 < m
 ·have hm1 : decide (0 < m) = true := decide_eq_true hm
  have HE := Lib.hid (HTy.out hm)
  clear HTy HTl HCl
  have HMk := Lib.hid (fun W1 (hown : W1.ownsRow (w.heap.size + 2) 3 1 (.slice (some ⟨w1.heap.size, 0, none⟩) 8 8) 8 (madeCells (Value.int .i64 0).cells (8 * 1)).toList) (hg : w1.grownBy W1 none) => show W1.ownsRow (w.heap.size + 2) 3 1 (.slice (some ⟨w1.heap.size, 0, none⟩) 8 8) 8 (ints rows0) ∧ Below w1.heap.size w1 W1 from ⟨by
    rwa [show (Value.int .i64 0).cells = #[.int .i64 0] from rfl, Nat.mul_one, toList_madeCells_one] at hown, (Below.refl _ _).grown hg (Nat.le_refl _) (by simp)⟩)
  go_wp2_with (first | (at_make; refine wpList_make_full _ rfl _ _ 24 rfl (w.heap.size + 2) 3 i0 (.int .i64 0) 1 Try.underlying24 hi hz0 hz1 .i64 .i64 8 8 8 rfl rfl rfl rfl (by rw [hz2]; omega) (by unfold maxLen; omega) (by omega) ?_; intro W2 hown2 hg2; obtain ⟨hO2, hb2⟩ := HMk.out W2 hown2 hg2; have HO2 := Lib.hid hO2; clear hown2 hg2 hO2) | fail)
  have B2 := B1.trans (hb2.mono B1.size)
  have r2 := r1.on hb2
  have s2 := s1.on hb2
  have z2 := hb2.size
  have hl2 := (HO2.out.lt w1.heap.size rfl).2
  clear B1 r1 s1 hb2 HMk
  refine wp_region_noPanic ?_
  have B3 := B2.drew
  have r3 : Rg W2.drew w.heap.size (.slice A n cap) := r2
  have s3 : Rg W2.drew (w.heap.size + 1) (.slice none 0 0) := s2
  have HO3 := Lib.hid (show W2.drew.ownsRow (w.heap.size + 2) 3 1 (.slice (some ⟨w1.heap.size, 0, none⟩) 8 8) 8 (ints rows0) from HO2.out)
  have hl3 : w1.heap.size < W2.drew.heap.size := hl2
  refine wp_region_held_drew (S := fun w' => w'.cell? ⟨w.heap.size, 0, none⟩ = some (.slice A n cap)) (by kernel_rfl) (r3.c0) (fun hHeld => ?_)
  generalize W2.drew = W3 at B3 r3 s3 HO3 hl3 hHeld ⊢
  generalize hg : w1.heap.size = g at HO3 hl3 z1 ⊢
  clear B2 r2 s2 HO2 hg z2 hl2
  refine wpAnyH_take (i := 0) (v := ?_) rfl (by kernel_rfl) (by kernel_rfl) (by kernel_rfl) (fun _ _ _ h => h) (Or.inl ⟨by rfl, ?_⟩) (by assumption) ?_
  rotate_left
  ·(intro w' hS; (try dsimp only at hS); go_simp; try with_reducible rfl)
  try simp only [Act.put, List.getElem_toArray, List.getElem_cons_succ, List.getElem_cons_zero, List.setIfInBounds_toArray, List.set_cons_zero, List.set_cons_succ]
  refine wpAnyH_take (i := 1) (v := ?_) rfl (by kernel_rfl) (by kernel_rfl) (by kernel_rfl) (fun _ _ _ h => h) (Or.inl ⟨by rfl, ?_⟩) (by assumption) ?_
  rotate_left
  ·(intro w' hS; (try dsimp only at hS); go_simp; try with_reducible rfl)
  try simp only [Act.put, List.getElem_toArray, List.getElem_cons_succ, List.getElem_cons_zero, List.setIfInBounds_toArray, List.set_cons_zero, List.set_cons_succ]
  refine wpAnyH_take (i := 5) (v := ?_) rfl (by kernel_rfl) (by kernel_rfl) (by kernel_rfl) (fun _ _ _ h => h) (Or.inl ⟨by rfl, ?_⟩) (by assumption) ?_
  rotate_left
  ·(intro w' hS; (try dsimp only at hS); go_simp; try with_reducible rfl)
  try simp only [Act.put, List.getElem_toArray, List.getElem_cons_succ, List.getElem_cons_zero, List.setIfInBounds_toArray, List.set_cons_zero, List.set_cons_succ]
  refine wpAnyH_ready (rs := [2]) (by kernel_rfl) (by simp) ?_
  refine AllReadyH.cons rfl (fun K hK => ?_) AllReadyH.nil
  go_simp
  refine (HF.out _ B3).mono ?_
  rintro e wx ⟨A1, c1, rfl, _, hown1, hbx⟩
  have B3 := B3.trans (hbx.mono B3.size)
  have r3 := r3.on hbx
  have s3 := s3.on hbx
  have HO3 := Lib.hid (Reg.own_below HO3.out hbx (Nat.le_refl _))
  have hl3 := Nat.lt_of_lt_of_le hl3 hbx.size
  have HR1 := Lib.hid (rowM_own hown1)
  clear hown1 hbx
  go_wp2_with fail
  refine hK.out _ _ (r3.c0) (fun hHeld => ?_)
  clear hK K
  try simp only [Act.put, List.getElem_toArray, List.getElem_cons_succ, List.getElem_cons_zero, List.setIfInBounds_toArray, List.set_cons_zero, List.set_cons_succ]
  refine wpAnyH_ready (rs := [3]) (by kernel_rfl) (by simp) ?_
  refine AllReadyH.cons rfl (fun K hK => ?_) AllReadyH.nil
  go_simp
  refine (HU.out _ B3 _ _ HR1.out).mono ?_
  rintro e wx ⟨A2, c2, rfl, hown2, hbx⟩
  have hl4 := hl3
  have HT4 := Lib.hid (src_cells (z := w.heap.size) hown2 (by have := hbx.size; have := r3.lt; omega))
  have B3 := B3.trans (hbx.mono B3.size)
  have r3 := r3.on hbx
  have s3 := s3.on hbx
  have HO3 := Lib.hid (Reg.own_below HO3.out hbx (Nat.le_refl _))
  clear hown2 hbx
  go_wp2_with fail
  refine hK.out _ _ (r3.c0) (fun hHeld => ?_)
  clear hK K
  try simp only [Act.put, List.getElem_toArray, List.getElem_cons_succ, List.getElem_cons_zero, List.setIfInBounds_toArray, List.set_cons_zero, List.set_cons_succ]
  refine wpAnyH_take (i := 4) (v := ?_) rfl (by kernel_rfl) (by kernel_rfl) (by kernel_rfl) (fun _ _ _ h => h) (Or.inl ⟨by rfl, ?_⟩) (by assumption) ?_
  rotate_left
  ·(intro w' hS; (try dsimp only at hS); go_simp; try with_reducible rfl)
  try simp only [Act.put, List.getElem_toArray, List.getElem_cons_succ, List.getElem_cons_zero, List.setIfInBounds_toArray, List.set_cons_zero, List.set_cons_succ]
  refine wpAnyH_done (by kernel_rfl) ?_ _
  refine NoPanic.normal ?_
  obtain ⟨b, ob, hlb, hob, hsrc, hbz⟩ := HT4.out
  obtain ⟨off, hA1, hR1⟩ := hsrc
  have HA1 := Lib.hid hA1
  have HRd := Lib.hid hR1
  have HS := Lib.hid (show FS w (.slice A n cap) b ob g (onR rows0 (U.take 0)) wx from ⟨B3, r3, s3, hlb, hob, HO3.out, by omega, by omega⟩)
  clear hHeld HT4 B3 r3 s3 HO3 hl3 hl4 HR1 hA1 hR1 hlb hob hbz HF HU z0 z1
  obtain ⟨N, hN⟩ : ∃ N, N = U.length := ⟨_, rfl⟩
  rw [← hN] at HUl HA1 ⊢
  have HN := Lib.hid hN
  clear hN
  go_wp2_with fail
  go_loopw [19] (fun si wr => ∃ t : Nat, t ≤ N ∧ si = .int .i64 t ∧ Hid (FS w (.slice A n cap) b ob g (onR rows0 (U.take t)) wr)) (fun si _ => N - (intOf si).toNat)
  case atStart => exact ⟨0, Nat.zero_le _, rfl, HS⟩
  case round =>
   clear HS
   obtain ⟨t, ht, rfl, HS⟩ := hrel
   have hN64 := HUl.out
   by_cases hlt : t < N
   ·have hti : t < U.length := by rw [← HN.out]; exact hlt
    obtain rfl := HA1.out (by omega)
    obtain ⟨c0, c1⟩ := HRd.out _ HS.out.blk t hti
    have hsm := HSm.out U[t] (List.getElem_mem hti)
    have HStp := Lib.hid (onR_take (ys := rows0) hti)
    have HAll := Lib.hid (onR_all (U.take t) rows0_ok.1 rows0_ok.2 (fun p hp => HSm.out p (List.mem_of_mem_take hp)))
    generalize U[t] = p at c0 c1 hsm HStp
    obtain ⟨x0, y0⟩ := p
    simp only at c0 c1
    have hsm : (0 ≤ x0 ∧ x0 ≤ 7) ∧ 0 ≤ y0 ∧ y0 ≤ 7 := hsm
    obtain ⟨x, rfl⟩ : ∃ a : Nat, x0 = (a : Int) := ⟨x0.toNat, by omega⟩
    obtain ⟨y, rfl⟩ : ∃ a : Nat, y0 = (a : Int) := ⟨y0.toNat, by omega⟩
    have hx8 : x < 8 := by omega
    have hy8 : y < 8 := by omega
    have HStp2 := Lib.hid (show onR rows0 (U.take (t + 1)) = (onR rows0 (U.take t)).set y (putB (rowD (onR rows0 (U.take t)) y) x true) from by
     rw [HStp.out, on_step HAll.out.2.1]; rfl)
    have hr := rowD_ok HAll.out.1 y
    have hTab := table hr.1 hr.2 hx8
    obtain ⟨_, _, hor, _⟩ := hTab
    obtain ⟨hp1, hp2⟩ := pow_wrap hx8
    generalize hQ : onR rows0 (U.take t) = Q at HS HStp2 hr hor
    clear hQ HStp HAll hsm
    have S2 := HS.out.on (below_alloc1 wr (.cells #[.int .i64 (x : Int), .int .i64 (y : Int)] 38))
    have Z2 := At2.new wr (x : Int) (y : Int)
    have htN : (t : Int) < (N : Int) := by omega
    go_upto_region 7 with fail
    have hgz : g < wr.heap.size := (HS.out.own.lt g rfl).2
    generalize wr.alloc (.cells #[.int .i64 (x : Int), .int .i64 (y : Int)] 38) = W4 at S2 Z2 ⊢
    generalize wr.heap.size = zb at Z2 hgz ⊢
    clear c0 c1 HS
    obtain ⟨hrc, hrf⟩ := row_cell S2.own hy8
    have e0 := Z2.c0
    have e1 := Z2.c1
    have HS5 := Lib.hid (S2.put y (putB (rowD Q y) x true))
    rw [← HStp2.out] at HS5
    generalize rowD Q y = r at hrc hr hor HS5
    generalize putB r x true = z at hor HS5
    have hne : g ≠ zb := by omega
    clear S2 Z2 HStp2
    go_region
    generalize (W4.setCell ⟨g, y, none⟩ (.int .i64 z)).drew = W5 at HS5 ⊢
    clear hrc hrf e0 e1
    go_wp2
    go_roundw
    case rel => exact ⟨t + 1, by omega, by go_num, HS5⟩
    case measure => (simp [intOf] <;> omega)
   ·obtain rfl : N = t := by omega
    have S := HS.out
    rw [List.take_of_length_le (by rw [← HN.out]; exact Nat.le_refl _), ← HE.out] at S
    have hl8 : R.length = 8 := by have := S.own.1; rw [ints_length] at this; omega
    have c0 := S.res.c0
    have f0 : wr.frozen? ⟨w.heap.size + 1, 0, none⟩ = false := (cellAt S.res 0).2
    have hres := World.cell?_setCell_same wr ⟨w.heap.size + 1, 0, none⟩ (.slice (some ⟨g, 0, none⟩) 8 8) (u := .slice none 0 0) c0
    have HP := Lib.hid (show RegPost R R.length w (.returned (.agg #[.slice (some ⟨g, 0, none⟩) 8 8])) (wr.setCell ⟨w.heap.size + 1, 0, none⟩ (.slice (some ⟨g, 0, none⟩) 8 8)) from by
     rw [hl8]
     exact ⟨_, 8, rfl, own_base (ownsRow_setCell_below S.own (by show w.heap.size + 1 < w.heap.size + 2; omega) _) (by omega), S.bel.setCell (p := ⟨w.heap.size + 1, 0, none⟩) (by show w.heap.size ≤ w.heap.size + 1; omega) _⟩)
    clear S HS
    go_wp2
    exact bodyPost_ret (v := .agg #[.slice (some ⟨g, 0, none⟩) 8 8]) (by simp [results, Try.results14, go_sem, hres]) rfl HP.out
 ·have hm1 : decide (0 < m) = false := decide_eq_false hm
  have HE := Lib.hid (HTl.out (by omega))
  have c0 := r1.c0
  clear HTy HTl HF HU
  go_wp2_with fail
  refine (HCl.out _ B1).mono ?_
  rintro e w2 ⟨A1, c1, rfl, hown, hb2⟩
  have B2 := B1.trans (hb2.mono B1.size)
  have s2 := s1.on hb2
  have c0 := s2.c0
  have f0 : w2.frozen? ⟨w.heap.size + 1, 0, none⟩ = false := (cellAt s2 0).2
  have hres := World.cell?_setCell_same w2 ⟨w.heap.size + 1, 0, none⟩ (.slice A1 n c1) (u := .slice none 0 0) c0
  have HP := Lib.hid (show RegPost R R.length w (.returned (.agg #[.slice A1 n c1])) (w2.setCell ⟨w.heap.size + 1, 0, none⟩ (.slice A1 n c1)) from by
   rw [HE.out, HX.out]
   exact ⟨_, c1, rfl, own_base (ownsRow_setCell_below hown (by show w.heap.size + 1 < w1.heap.size; omega) _) (by omega), B2.setCell (p := ⟨w.heap.size + 1, 0, none⟩) (by show w.heap.size ≤ w.heap.size + 1; omega) _⟩)
  clear hown hb2 B1 r1 s1 s2
  go_wp2
  exact bodyPost_ret (v := .agg #[.slice A1 n c1]) (by simp [results, Try.results14, go_sem, hres]) rfl HP.out
end Go.Proofs.Ytjfagpmklifjlaa.Frd
