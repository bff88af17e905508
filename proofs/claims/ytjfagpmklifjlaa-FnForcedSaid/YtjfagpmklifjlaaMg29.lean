/- FrF, Draw0, DrawA in one text. -/
import Derived.Test.YtjfagpmklifjlaaMg20
import Derived.Test.YtjfagpmklifjlaaMg28
import Derived.Test.YtjfagpmklifjlaaMg18
import Derived.Test.YtjfagpmklifjlaaMg14
import Derived.Test.YtjfagpmklifjlaaMg08
import Derived.Test.YtjfagpmklifjlaaMg16
import Derived.Test.YtjfagpmklifjlaaRows
import Derived.Test.YtjfagpmklifjlaaMg00
import Derived.WalkKit
import Derived.WalkSpells
import Derived.WalkLawsBesides
import Derived.Lib.Hide
import Derived.OpenShut
import Derived.Laws.BitsAllLaws
import Derived.Laws.BitsLemmas
import Derived.Deep.QuietTactic
import Derived.BigQuiet

namespace Go.Proofs.Ytjfagpmklifjlaa.Frd
set_option linter.unusedVariables false
set_option linter.unusedSimpArgs false
set_option maxRecDepth 100000
open Go.RowKit Go.Proofs.Ytjfagpmklifjlaa.Base Go.Proofs.Ytjfagpmklifjlaa.Pure Go.Proofs.Ytjfagpmklifjlaa.Cell Go.Proofs.Ytjfagpmklifjlaa.Cels Go.Proofs.Ytjfagpmklifjlaa.Dom Go.Proofs.Ytjfagpmklifjlaa.Dms Go.Proofs.Ytjfagpmklifjlaa.Til Go.Proofs.Ytjfagpmklifjlaa.Fr Go.Joins
open Go.Proofs.Ytjfagpmklifjlaa.Prof (iIsTileable)
open Go.Proofs.Ytjfagpmklifjlaa.Cnt (tilesR)
open Go.Proofs.Ytjfagpmklifjlaa.Reg hiding RC rc_start

def CloI (xs : List Int) (n : Nat) (w : World) (e : Ending) (w' : World) : Prop :=
 ∃ A cap, e = .returned (.slice A n cap) ∧ w'.ownsRow w.heap.size 3 1 (.slice A n cap) n (ints xs) ∧ Below w.heap.size w w'
theorem cloNil (w : World) : (binOp .eql 24 (.slice none 0 0) (.slice none 0 0)).run Try.prog w = .ok (.bool true) w := by kernel_rfl
theorem cloSome (a : Addr) (n c : Nat) (w : World) : (binOp .eql 24 (.slice (some a) n c) (.slice none 0 0)).run Try.prog w = .ok (.bool false) w := by kernel_rfl
set_option maxHeartbeats 1000000 in
theorem iCloneI (w : World) (A : Option Addr) (n cap B : Nat) (xs : List Int) (hx : xs.length = n) (hn : (n : Int) ≤ 1048576) (h : RowB w B A xs) (hB : B ≤ w.heap.size) (hcap : A = none → n = 0 ∧ cap = 0) :
  Calls Try.prog 46 #[.slice A n cap] w (CloI xs n w) := by
 obtain ⟨i0, hi, hz0, hz1, hz2⟩ := info_parts intInfo
 cases A with
 | none =>
  obtain ⟨rfl, rfl⟩ := hcap rfl
  have hL0 := List.eq_nil_of_length_eq_zero hx
  subst hL0
  have hq := cloNil w
  have HP := Lib.hid (show CloI [] 0 w (.returned (.slice none 0 0)) w from ⟨none, 0, rfl, World.ownsRow_nil w w.heap.size 3 1, Below.refl _ _⟩)
  clear hx hn h hB hcap
  go_enter Try.func46, Try.ntmps46
  go_wp2
  go_ret
  exact HP.out
 | some a =>
  have hq := cloSome a n cap w
  have HM := Lib.hid (World.ownsRow_made (base := w.heap.size) (e := 3) (size := 1) w #[] 0 (Nat.le_refl _) (by unfold maxLen; omega) rfl)
  have HB1 := Lib.hid (below_alloc1 w (.cells #[] 3))
  have HSrc := Lib.hid (rowB_src' (h.below HB1.out hB))
  have HLx := Lib.hid (show (ints xs).length = n * 1 by rw [ints_length, hx, Nat.mul_one])
  have HOne := Lib.hid (Reg.ints_oneCell xs)
  clear hx h hB hcap
  go_enter Try.func46, Try.ntmps46
  go_wp2_with (first
   | (at_builtin; refine wpList_append_own _ rfl _ _ 24 rfl w.heap.size 3 i0 (.int .i64 0) 1 8 Try.underlying24 hi hz0 hz1 hz2 rfl (by decide) (.slice (some ⟨w.heap.size, 0, none⟩) 0 0) 0 [] (by rfl) HM.out a n cap (ints xs) (by rfl) HLx.out HSrc.out HOne.out (by unfold maxLen; omega) (by omega) (by simp) ?_; intro v' w3 hown3 hgrow _; obtain ⟨A', cap', hv'⟩ := own_shape hown3; subst hv'))
  have HO3 := Lib.hid (show w3.ownsRow w.heap.size 3 1 (.slice A' n cap') n (ints xs) by simpa using hown3)
  have HB3 := Lib.hid (show Below w.heap.size w w3 from HB1.out.grown hgrow (by simp) (by simp [Value.ownBlock]))
  clear hown3 hgrow
  go_ret
  exact ⟨_, cap', rfl, HO3.out, HB3.out⟩
theorem rw2_start (w : World) (v : Value) : Below w.heap.size w ((w.alloc (.cells #[v] 26)).alloc (.cells #[.slice none 0 0] 26)) ∧
  Rg ((w.alloc (.cells #[v] 26)).alloc (.cells #[.slice none 0 0] 26)) w.heap.size v ∧
  Rg ((w.alloc (.cells #[v] 26)).alloc (.cells #[.slice none 0 0] 26)) (w.heap.size + 1) (.slice none 0 0) ∧
  ((w.alloc (.cells #[v] 26)).alloc (.cells #[.slice none 0 0] 26)).heap.size = w.heap.size + 2 := by
 have h1 := Rg.new w v
 have h2 := Rg.new (w.alloc (.cells #[v] 26)) (.slice none 0 0)
 rw [World.size_alloc] at h2
 exact ⟨below_alloc2 w _ _, (Below.heap_alloc _ _ _ (by simp)).trans h1, h2, by simp⟩
structure FS (w : World) (v : Value) (b : Nat) (ob : Option Obj) (g : Nat) (R : List Int) (W : World) : Prop where
 bel : Below w.heap.size w W
 box : Rg W w.heap.size v
 res : Rg W (w.heap.size + 1) (.slice none 0 0)
 lt : b < W.heap.size
 blk : W.heap[b]? = ob
 own : W.ownsRow (w.heap.size + 2) 3 1 (.slice (some ⟨g, 0, none⟩) 8 8) 8 (ints R)
 ne : g ≠ b
 low : w.heap.size + 2 ≤ g
section
variable {w W W' : World} {v : Value} {b g : Nat} {ob : Option Obj} {R : List Int}
theorem FS.on (h : FS w v b ob g R W) (hb : Below W.heap.size W W') : FS w v b ob g R W' :=
 ⟨h.bel.trans (hb.mono h.bel.size), h.box.on hb, h.res.on hb, Nat.lt_of_lt_of_le h.lt hb.size, (hb.block b h.lt).trans h.blk, Reg.own_below h.own hb (Nat.le_refl _), h.ne, h.low⟩
theorem FS.put (h : FS w v b ob g R W) (y : Nat) (z : Int) : FS w v b ob g (R.set y z) (W.setCell ⟨g, y, none⟩ (.int .i64 z)).drew := by
 have hl := h.low
 refine ⟨(h.bel.setCell (p := ⟨g, y, none⟩) (by show w.heap.size ≤ g; omega) _).drew, (Below.heap_setCell _ _ _ _ (by show w.heap.size ≠ g; omega)).trans h.box, (Below.heap_setCell _ _ _ _ (by show w.heap.size + 1 ≠ g; omega)).trans h.res, ?_, (Below.heap_setCell _ _ _ _ (by show b ≠ g; exact fun e => h.ne e.symm)).trans h.blk, ?_, h.ne, h.low⟩
 ·have := h.lt
  show b < (W.setCell ⟨g, y, none⟩ (.int .i64 z)).heap.size
  simp [World.setCell]; omega
 ·show (W.setCell ⟨g, y, none⟩ (.int .i64 z)).ownsRow (w.heap.size + 2) 3 1 _ 8 _
  rw [← ints_set]; exact (h.own.stored y (.int .i64 z)).1
end
theorem on_step {R : List Int} (h8 : R.length = 8) (x y : Nat) : R.set y (putB (rowD R y) x true) = withR R x y true := by
 unfold withR pad8
 rw [h8, Nat.sub_self, List.replicate_zero, List.append_nil]

set_option maxHeartbeats 4000000 in
theorem iFreeRegion (w : World) (A : Option Addr) (n cap B : Nat) (xs : List Int) (hx : xs.length = n) (hn : (n : Int) ≤ 1048576) (h : RowB w B A xs) (hB : B ≤ w.heap.size) (hcap : A = none → n = 0 ∧ cap = 0) :
  Calls Try.prog 14 #[.agg #[.slice A n cap]] w (RegPost (freeR xs) (freeR xs).length w) := by
 obtain ⟨i0, hi, hz0, hz1, hz2⟩ := info_parts intInfo
 have HT := Lib.hid (fun W (hb : Below w.heap.size w W) => iIsTileable W A n cap B xs hx (by omega) (h.below hb hB) (by have := hb.size; omega))
 have HCl := Lib.hid (fun W (hb : Below w.heap.size w W) => iCloneI W A n cap B xs hx hn (h.below hb hB) (by have := hb.size; omega) hcap)
 have HF := Lib.hid (fun W (hb : Below w.heap.size w W) => iForced W A n cap B xs hx hn (h.below hb hB) (by have := hb.size; omega) hcap)
 have hfl : (forcD xs).length ≤ 128 := by
  rw [← inT_all]
  exact Nat.le_trans (List.length_filter_le _ _) (by
   by_cases ok : okR xs
   ·rw [← poss_fits ok]; exact Nat.le_trans (List.length_filter_le _ _) (allD_len xs)
   ·unfold possD; rw [if_neg ok]; simp)
 have HU := Lib.hid (fun W (hb : Below w.heap.size w W) A' c' (hr : RowM W W.heap.size A' (forcD xs)) => iUncoveredOf W A n cap B xs hx (by omega) (h.below hb hB) (by have := hb.size; omega) A' (forcD xs).length c' W.heap.size (forcD xs) rfl (by omega) (fun d hd => by
  have := (second_in (forcD_ok d hd)).1
  unfold Sm; omega) hr (Nat.le_refl _))
 have HR0 := Lib.hid (rw2_start w (.slice A n cap))
 have HTl := Lib.hid (show ¬ 0 < tilesR xs → freeR xs = xs from fun q => if_neg q)
 have HTy := Lib.hid (show 0 < tilesR xs → freeR xs = onR rows0 (unc (forcD xs) (cellsR xs)) from fun q => by
  have ok : okR xs := Classical.byContradiction fun r => by rw [tiles_not r] at q; omega
  rw [free_rows ok]; exact if_pos q)
 have HSm := Lib.hid (unc_small (xs := xs) (F := forcD xs))
 have HUl := Lib.hid (show (unc (forcD xs) (cellsR xs)).length ≤ 64 from Nat.le_trans (unc_length _ _) (cellsR_length xs))
 have HX := Lib.hid hx
 unfold CloI at HCl
 unfold DmPost at HF
 unfold NbPost at HU
 generalize unc (forcD xs) (cellsR xs) = U at HU HTy HSm HUl
 generalize forcD xs = F at HF HU
 generalize freeR xs = R at HTl HTy ⊢
 generalize tilesR xs = m at HT HTl HTy
 clear hx hn h hB hcap hfl
 go_enter Try.func14, Try.ntmps14
 go_wp2_with fail
 generalize (w.alloc (.cells #[.slice A n cap] 26)).alloc (.cells #[.slice none 0 0] 26) = W0 at HR0 ⊢
 obtain ⟨B0, r0, s0, z0⟩ := HR0.out
 have c0 := r0.c0
 go_wp2_with fail
 refine (HT.out _ B0).mono ?_
 rintro e w1 ⟨rfl, hb1⟩
 have B1 := B0.trans (hb1.mono B0.size)
 have r1 := r0.on hb1
 have s1 := s0.on hb1
 have z1 := hb1.size
 clear HR0 B0 r0 s0 c0 hb1 HT
 by_cases hm : 0 < m
 ·have hm1 : decide (0 < m) = true := decide_eq_true hm
  have HE := Lib.hid (HTy.out hm)
  clear HTy HTl HCl
  have HMk := Lib.hid (fun W1 (hown : W1.ownsRow (w.heap.size + 2) 3 1 (.slice (some ⟨w1.heap.size, 0, none⟩) 8 8) 8 (madeCells (Value.int .i64 0).cells (8 * 1)).toList) (hg : w1.grownBy W1 none) => show W1.ownsRow (w.heap.size + 2) 3 1 (.slice (some ⟨w1.heap.size, 0, none⟩) 8 8) 8 (ints rows0) ∧ Below w1.heap.size w1 W1 from ⟨by
    rwa [show (Value.int .i64 0).cells = #[.int .i64 0] from rfl, Nat.mul_one, toList_madeCells_one] at hown, (Below.refl _ _).grown hg (Nat.le_refl _) (by simp)⟩)
  go_wp2_with (first | (at_make; refine wpList_make_full _ rfl _ _ 24 rfl (w.heap.size + 2) 3 i0 (.int .i64 0) 1 Try.underlying24 hi hz0 hz1 .i64 .i64 8 8 8 rfl rfl rfl rfl (by rw [hz2]; omega) (by unfold maxLen; omega) (by omega) ?_; intro W2 hown2 hg2; obtain ⟨hO2, hb2⟩ := HMk.out W2 hown2 hg2; have HO2 := Lib.hid hO2; clear hown2 hg2 hO2) | fail)
  have B2 := B1.trans (hb2.mono B1.size)
  have r2 := r1.on hb2
  have s2 := s1.on hb2
  have z2 := hb2.size
  have hl2 := (HO2.out.lt w1.heap.size rfl).2
  clear B1 r1 s1 hb2 HMk
  refine wp_region_noPanic ?_
  have B3 := B2.drew
  have r3 : Rg W2.drew w.heap.size (.slice A n cap) := r2
  have s3 : Rg W2.drew (w.heap.size + 1) (.slice none 0 0) := s2
  have HO3 := Lib.hid (show W2.drew.ownsRow (w.heap.size + 2) 3 1 (.slice (some ⟨w1.heap.size, 0, none⟩) 8 8) 8 (ints rows0) from HO2.out)
  have hl3 : w1.heap.size < W2.drew.heap.size := hl2
  refine wp_region_held_drew (S := fun w' => w'.cell? ⟨w.heap.size, 0, none⟩ = some (.slice A n cap)) (by kernel_rfl) (r3.c0) (fun hHeld => ?_)
  generalize W2.drew = W3 at B3 r3 s3 HO3 hl3 hHeld ⊢
  generalize hg : w1.heap.size = g at HO3 hl3 z1 ⊢
  clear B2 r2 s2 HO2 hg z2 hl2
  refine wpAnyH_take (i := 0) (v := ?_) rfl (by kernel_rfl) (by kernel_rfl) (by kernel_rfl) (fun _ _ _ h => h) (Or.inl ⟨by rfl, ?_⟩) (by assumption) ?_
  rotate_left
  ·(intro w' hS; (try dsimp only at hS); go_simp; try with_reducible rfl)
  try simp only [Act.put, List.getElem_toArray, List.getElem_cons_succ, List.getElem_cons_zero, List.setIfInBounds_toArray, List.set_cons_zero, List.set_cons_succ]
  refine wpAnyH_take (i := 1) (v := ?_) rfl (by kernel_rfl) (by kernel_rfl) (by kernel_rfl) (fun _ _ _ h => h) (Or.inl ⟨by rfl, ?_⟩) (by assumption) ?_
  rotate_left
  ·(intro w' hS; (try dsimp only at hS); go_simp; try with_reducible rfl)
  try simp only [Act.put, List.getElem_toArray, List.getElem_cons_succ, List.getElem_cons_zero, List.setIfInBounds_toArray, List.set_cons_zero, List.set_cons_succ]
  refine wpAnyH_take (i := 5) (v := ?_) rfl (by kernel_rfl) (by kernel_rfl) (by kernel_rfl) (fun _ _ _ h => h) (Or.inl ⟨by rfl, ?_⟩) (by assumption) ?_
  rotate_left
  ·(intro w' hS; (try dsimp only at hS); go_simp; try with_reducible rfl)
  try simp only [Act.put, List.getElem_toArray, List.getElem_cons_succ, List.getElem_cons_zero, List.setIfInBounds_toArray, List.set_cons_zero, List.set_cons_succ]
  refine wpAnyH_ready (rs := [2]) (by kernel_rfl) (by simp) ?_
  refine AllReadyH.cons rfl (fun K hK => ?_) AllReadyH.nil
  go_simp
  refine (HF.out _ B3).mono ?_
  rintro e wx ⟨A1, c1, rfl, _, hown1, hbx⟩
  have B3 := B3.trans (hbx.mono B3.size)
  have r3 := r3.on hbx
  have s3 := s3.on hbx
  have HO3 := Lib.hid (Reg.own_below HO3.out hbx (Nat.le_refl _))
  have hl3 := Nat.lt_of_lt_of_le hl3 hbx.size
  have HR1 := Lib.hid (rowM_own hown1)
  clear hown1 hbx
  go_wp2_with fail
  refine hK.out _ _ (r3.c0) (fun hHeld => ?_)
  clear hK K
  try simp only [Act.put, List.getElem_toArray, List.getElem_cons_succ, List.getElem_cons_zero, List.setIfInBounds_toArray, List.set_cons_zero, List.set_cons_succ]
  refine wpAnyH_ready (rs := [3]) (by kernel_rfl) (by simp) ?_
  refine AllReadyH.cons rfl (fun K hK => ?_) AllReadyH.nil
  go_simp
  refine (HU.out _ B3 _ _ HR1.out).mono ?_
  rintro e wx ⟨A2, c2, rfl, hown2, hbx⟩
  have hl4 := hl3
  have HT4 := Lib.hid (src_cells (z := w.heap.size) hown2 (by have := hbx.size; have := r3.lt; omega))
  have B3 := B3.trans (hbx.mono B3.size)
  have r3 := r3.on hbx
  have s3 := s3.on hbx
  have HO3 := Lib.hid (Reg.own_below HO3.out hbx (Nat.le_refl _))
  clear hown2 hbx
  go_wp2_with fail
  refine hK.out _ _ (r3.c0) (fun hHeld => ?_)
  clear hK K
  try simp only [Act.put, List.getElem_toArray, List.getElem_cons_succ, List.getElem_cons_zero, List.setIfInBounds_toArray, List.set_cons_zero, List.set_cons_succ]
  refine wpAnyH_take (i := 4) (v := ?_) rfl (by kernel_rfl) (by kernel_rfl) (by kernel_rfl) (fun _ _ _ h => h) (Or.inl ⟨by rfl, ?_⟩) (by assumption) ?_
  rotate_left
  ·(intro w' hS; (try dsimp only at hS); go_simp; try with_reducible rfl)
  try simp only [Act.put, List.getElem_toArray, List.getElem_cons_succ, List.getElem_cons_zero, List.setIfInBounds_toArray, List.set_cons_zero, List.set_cons_succ]
  refine wpAnyH_done (by kernel_rfl) ?_ _
  refine NoPanic.normal ?_
  obtain ⟨b, ob, hlb, hob, hsrc, hbz⟩ := HT4.out
  obtain ⟨off, hA1, hR1⟩ := hsrc
  have HA1 := Lib.hid hA1
  have HRd := Lib.hid hR1
  have HS := Lib.hid (show FS w (.slice A n cap) b ob g (onR rows0 (U.take 0)) wx from ⟨B3, r3, s3, hlb, hob, HO3.out, by omega, by omega⟩)
  clear hHeld HT4 B3 r3 s3 HO3 hl3 hl4 HR1 hA1 hR1 hlb hob hbz HF HU z0 z1
  obtain ⟨N, hN⟩ : ∃ N, N = U.length := ⟨_, rfl⟩
  rw [← hN] at HUl HA1 ⊢
  have HN := Lib.hid hN
  clear hN
  go_wp2_with fail
  go_loopw [19] (fun si wr => ∃ t : Nat, t ≤ N ∧ si = .int .i64 t ∧ Hid (FS w (.slice A n cap) b ob g (onR rows0 (U.take t)) wr)) (fun si _ => N - (intOf si).toNat)
  case atStart => exact ⟨0, Nat.zero_le _, rfl, HS⟩
  case round =>
   clear HS
   obtain ⟨t, ht, rfl, HS⟩ := hrel
   have hN64 := HUl.out
   by_cases hlt : t < N
   ·have hti : t < U.length := by rw [← HN.out]; exact hlt
    obtain rfl := HA1.out (by omega)
    obtain ⟨c0, c1⟩ := HRd.out _ HS.out.blk t hti
    have hsm := HSm.out U[t] (List.getElem_mem hti)
    have HStp := Lib.hid (onR_take (ys := rows0) hti)
    have HAll := Lib.hid (onR_all (U.take t) rows0_ok.1 rows0_ok.2 (fun p hp => HSm.out p (List.mem_of_mem_take hp)))
    generalize U[t] = p at c0 c1 hsm HStp
    obtain ⟨x0, y0⟩ := p
    simp only at c0 c1
    have hsm : (0 ≤ x0 ∧ x0 ≤ 7) ∧ 0 ≤ y0 ∧ y0 ≤ 7 := hsm
    obtain ⟨x, rfl⟩ : ∃ a : Nat, x0 = (a : Int) := ⟨x0.toNat, by omega⟩
    obtain ⟨y, rfl⟩ : ∃ a : Nat, y0 = (a : Int) := ⟨y0.toNat, by omega⟩
    have hx8 : x < 8 := by omega
    have hy8 : y < 8 := by omega
    have HStp2 := Lib.hid (show onR rows0 (U.take (t + 1)) = (onR rows0 (U.take t)).set y (putB (rowD (onR rows0 (U.take t)) y) x true) from by
     rw [HStp.out, on_step HAll.out.2.1]; rfl)
    have hr := rowD_ok HAll.out.1 y
    have hTab := table hr.1 hr.2 hx8
    obtain ⟨_, _, hor, _⟩ := hTab
    obtain ⟨hp1, hp2⟩ := pow_wrap hx8
    generalize hQ : onR rows0 (U.take t) = Q at HS HStp2 hr hor
    clear hQ HStp HAll hsm
    have S2 := HS.out.on (below_alloc1 wr (.cells #[.int .i64 (x : Int), .int .i64 (y : Int)] 38))
    have Z2 := At2.new wr (x : Int) (y : Int)
    have htN : (t : Int) < (N : Int) := by omega
    go_upto_region 7 with fail
    have hgz : g < wr.heap.size := (HS.out.own.lt g rfl).2
    generalize wr.alloc (.cells #[.int .i64 (x : Int), .int .i64 (y : Int)] 38) = W4 at S2 Z2 ⊢
    generalize wr.heap.size = zb at Z2 hgz ⊢
    clear c0 c1 HS
    obtain ⟨hrc, hrf⟩ := row_cell S2.own hy8
    have e0 := Z2.c0
    have e1 := Z2.c1
    have HS5 := Lib.hid (S2.put y (putB (rowD Q y) x true))
    rw [← HStp2.out] at HS5
    generalize rowD Q y = r at hrc hr hor HS5
    generalize putB r x true = z at hor HS5
    have hne : g ≠ zb := by omega
    clear S2 Z2 HStp2
    go_region
    generalize (W4.setCell ⟨g, y, none⟩ (.int .i64 z)).drew = W5 at HS5 ⊢
    clear hrc hrf e0 e1
    go_wp2
    go_roundw
    case rel => exact ⟨t + 1, by omega, by go_num, HS5⟩
    case measure => (simp [intOf] <;> omega)
   ·obtain rfl : N = t := by omega
    have S := HS.out
    rw [List.take_of_length_le (by rw [← HN.out]; exact Nat.le_refl _), ← HE.out] at S
    have hl8 : R.length = 8 := by have := S.own.1; rw [ints_length] at this; omega
    have c0 := S.res.c0
    have f0 : wr.frozen? ⟨w.heap.size + 1, 0, none⟩ = false := (cellAt S.res 0).2
    have hres := World.cell?_setCell_same wr ⟨w.heap.size + 1, 0, none⟩ (.slice (some ⟨g, 0, none⟩) 8 8) (u := .slice none 0 0) c0
    have HP := Lib.hid (show RegPost R R.length w (.returned (.agg #[.slice (some ⟨g, 0, none⟩) 8 8])) (wr.setCell ⟨w.heap.size + 1, 0, none⟩ (.slice (some ⟨g, 0, none⟩) 8 8)) from by
     rw [hl8]
     exact ⟨_, 8, rfl, own_base (ownsRow_setCell_below S.own (by show w.heap.size + 1 < w.heap.size + 2; omega) _) (by omega), S.bel.setCell (p := ⟨w.heap.size + 1, 0, none⟩) (by show w.heap.size ≤ w.heap.size + 1; omega) _⟩)
    clear S HS
    go_wp2
    exact bodyPost_ret (v := .agg #[.slice (some ⟨g, 0, none⟩) 8 8]) (by simp [results, Try.results14, go_sem, hres]) rfl HP.out
 ·have hm1 : decide (0 < m) = false := decide_eq_false hm
  have HE := Lib.hid (HTl.out (by omega))
  have c0 := r1.c0
  clear HTy HTl HF HU
  go_wp2_with fail
  refine (HCl.out _ B1).mono ?_
  rintro e w2 ⟨A1, c1, rfl, hown, hb2⟩
  have B2 := B1.trans (hb2.mono B1.size)
  have s2 := s1.on hb2
  have c0 := s2.c0
  have f0 : w2.frozen? ⟨w.heap.size + 1, 0, none⟩ = false := (cellAt s2 0).2
  have hres := World.cell?_setCell_same w2 ⟨w.heap.size + 1, 0, none⟩ (.slice A1 n c1) (u := .slice none 0 0) c0
  have HP := Lib.hid (show RegPost R R.length w (.returned (.agg #[.slice A1 n c1])) (w2.setCell ⟨w.heap.size + 1, 0, none⟩ (.slice A1 n c1)) from by
   rw [HE.out, HX.out]
   exact ⟨_, c1, rfl, own_base (ownsRow_setCell_below hown (by show w.heap.size + 1 < w1.heap.size; omega) _) (by omega), B2.setCell (p := ⟨w.heap.size + 1, 0, none⟩) (by show w.heap.size ≤ w.heap.size + 1; omega) _⟩)
  clear hown hb2 B1 r1 s1 s2
  go_wp2
  exact bodyPost_ret (v := .agg #[.slice A1 n c1]) (by simp [results, Try.results14, go_sem, hres]) rfl HP.out
end Go.Proofs.Ytjfagpmklifjlaa.Frd

namespace Go.Proofs.Ytjfagpmklifjlaa.Draw
set_option linter.unusedVariables false
open Go.RowKit

def Rd (w : World) (B : Nat) (A : Option Addr) (len : Nat) : Prop :=
 ∃ (b off : Nat) (f : Nat → Int), (0 < len → b < B ∧ A = some ⟨b, off, none⟩) ∧ ∀ j, j < len → w.cell? ⟨b, off + j, none⟩ = some (.int .u8 (f j)) ∧ 0 ≤ f j ∧ f j ≤ 255
def Cur (w : World) (B g : Nat) (A : Option Addr) (len cap : Nat) : Prop :=
 B ≤ g ∧ len ≤ 1048576 ∧ Rd w B A len ∧ ∃ (i : Nat) (h : Int), i ≤ len ∧ w.heap[g]? = some (.cells #[.slice A len cap, .int .i64 i, .int .i64 h] 89 (0, 0))
def Drew (P : Int → Prop) (w : World) (B g : Nat) (A : Option Addr) (len cap : Nat) (e : Ending) (w' : World) : Prop :=
 ∃ x : Int, P x ∧ e = .returned (.int .i64 x) ∧ Cur w' B g A len cap ∧ w.grownBy w' (some g)

theorem grown_trans {a b c : World} {row : Option Nat} (h : a.grownBy b row) (k : b.grownBy c row) : a.grownBy c row :=
 ⟨k.os.trans h.os, k.tape.trans h.tape, k.output.trans h.output, Nat.le_trans h.size k.size, fun i hi hn => (k.block i (Nat.lt_of_lt_of_le hi h.size) hn).trans (h.block i hi hn)⟩
theorem grown_drewN {a b : World} {row : Option Nat} (h : a.grownBy b row) (n : Nat) : a.grownBy (b.drewN n) row := ⟨h.os, h.tape, h.output, h.size, h.block⟩
theorem Rd.grown {w w' : World} {B g : Nat} {A : Option Addr} {len : Nat} (h : Rd w B A len) (hB : B ≤ w.heap.size) (hg : B ≤ g) (hgr : w.grownBy w' (some g)) : Rd w' B A len := by
 obtain ⟨b, off, f, hA, hc⟩ := h
 refine ⟨b, off, f, hA, fun j hj => ⟨?_, (hc j hj).2⟩⟩
 have hb := (hA (by omega)).1
 have := World.cell?_of_block (w := w) (w' := w') (a := ⟨b, off + j, none⟩) (hgr.block b (by omega) (by intro he; injection he; omega))
 rw [this]; exact (hc j hj).1

theorem Rd.below {w w' : World} {B : Nat} {A : Option Addr} {len : Nat} (h : Rd w B A len) (hb : Below B w w') : Rd w' B A len := by
 obtain ⟨b, off, f, hA, hc⟩ := h
 exact ⟨b, off, f, hA, fun j hj => ⟨(hb.cell (p := ⟨b, off + j, none⟩) (hA (by omega)).1).trans (hc j hj).1, (hc j hj).2⟩⟩

theorem and255 (a : Int) : 0 ≤ bits .and .i64 a 255 ∧ bits .and .i64 a 255 ≤ 255 := by
 have h : (BitVec.ofInt 64 a &&& BitVec.ofInt 64 255).toNat ≤ 255 := by
  rw [BitVec.toNat_and]
  exact Nat.le_trans Nat.and_le_right (by decide)
 show 0 ≤ IntKind.i64.wrap ((BitVec.ofInt 64 a &&& BitVec.ofInt 64 255).toNat : Int) ∧ IntKind.i64.wrap ((BitVec.ofInt 64 a &&& BitVec.ofInt 64 255).toNat : Int) ≤ 255
 rw [IntKind.wrap_i64]
 omega

theorem set_cursor {w : World} {g k : Nat} {cs cs' : Array Value} {t : TypeId} {u : Value} (hbl : w.heap[g]? = some (.cells cs t (0, 0))) (hcs : cs.setIfInBounds k u = cs') :
  (w.setCell ⟨g, k, none⟩ u).heap[g]? = some (.cells cs' t (0, 0)) ∧ w.grownBy (w.setCell ⟨g, k, none⟩ u) (some g) := by
 subst hcs
 refine ⟨by simp [World.setCell, Array.getElem?_modify, hbl], rfl, rfl, rfl, by simp [World.setCell], fun j hj hne => Below.heap_setCell w _ u j (fun e => hne (by rw [e]))⟩

set_option maxHeartbeats 400000 in
theorem byte (w : World) (B g : Nat) (A : Option Addr) (len cap : Nat) (h0 : Cur w B g A len cap) :
  Calls Try.prog 91 #[.pointer (some ⟨g, 0, none⟩)] w (Drew (fun x => 0 ≤ x ∧ x ≤ 255) w B g A len cap) := by
 obtain ⟨hBg, hlen, hrd, i, h, hi, hbl⟩ := h0
 have hgs : g < w.heap.size := (Array.getElem?_eq_some_iff.1 hbl).1
 have hc2 : w.cell? ⟨g, 2, none⟩ = some (.int .i64 h) := (cell_of_row w g 2 _ _ _ hbl).trans rfl
 have hf2 : w.frozen? ⟨g, 2, none⟩ = false := by simp [World.frozen?, hbl]
 have HB := Lib.hid hbl
 clear hbl
 go_enter Try.func91, Try.ntmps91
 go_wp2_with fail
 generalize wrap64 (wrap64 (h * 6364136223846793005) + 1442695040888963407) = h2
 obtain ⟨hb2, hg2⟩ := set_cursor (k := 2) (u := .int .i64 h2) (cs' := #[.slice A len cap, .int .i64 i, .int .i64 h2]) HB.out rfl
 generalize w.setCell ⟨g, 2, none⟩ (.int .i64 h2) = W at hb2 hg2 ⊢
 clear HB hc2 hf2
 have hc0 : W.cell? ⟨g, 0, none⟩ = some (.slice A len cap) := (cell_of_row W g 0 _ _ _ hb2).trans rfl
 have hc1 : W.cell? ⟨g, 1, none⟩ = some (.int .i64 i) := (cell_of_row W g 1 _ _ _ hb2).trans rfl
 have hc2 : W.cell? ⟨g, 2, none⟩ = some (.int .i64 h2) := (cell_of_row W g 2 _ _ _ hb2).trans rfl
 have hf1 : W.frozen? ⟨g, 1, none⟩ = false := by simp [World.frozen?, hb2]
 have HB2 := Lib.hid hb2
 clear hb2
 have hrdW : Rd W B A len := hrd.grown (by omega) hBg hg2
 by_cases hlt : i < len
 ·obtain ⟨b, off, f, hA, hcode⟩ := hrdW
  obtain ⟨hb, rfl⟩ := hA (by omega)
  obtain ⟨hci, hf0, hf255⟩ := hcode i hlt
  clear hcode hA
  go_quiet (fail)
  go_wp2_with fail
  go_quiet (fail)
  go_wp2_with fail
  go_quiet (fail)
  go_wp2_with fail
  go_ret
  obtain ⟨hb3, hg3⟩ := set_cursor (w := W.drewN _) (k := 1) (u := .int .i64 ((i : Int) + 1)) (cs' := #[.slice (some ⟨b, off, none⟩) len cap, .int .i64 ((i + 1 : Nat) : Int), .int .i64 h2]) HB2.out rfl
  have hgw := grown_trans (grown_drewN hg2 _) hg3
  exact ⟨_, and255 _, rfl, ⟨hBg, hlen, hrd.grown (by omega) hBg hgw, i + 1, h2, by omega, hb3⟩, hgw⟩
 ·go_quiet (fail)
  go_wp2_with fail
  go_quiet (fail)
  go_wp2
  go_ret
  exact ⟨_, and255 _, rfl, ⟨hBg, hlen, hrdW, i, h2, hi, HB2.out⟩, grown_drewN (grown_drewN hg2 _) _⟩

def InBelow (n x : Int) : Prop := (n ≤ 0 → x = 0) ∧ (0 < n → 0 ≤ x ∧ x < n)
theorem grown_refl (w : World) (row : Option Nat) : w.grownBy w row := ⟨rfl, rfl, rfl, Nat.le_refl _, fun _ _ _ => rfl⟩
theorem emod_in (x n : Int) (hn : 0 < n) : InBelow n (x % n) :=
 ⟨fun h => by omega, fun _ => ⟨Int.emod_nonneg _ (by omega), Int.emod_lt_of_pos _ hn⟩⟩

set_option maxHeartbeats 400000 in
theorem below (w : World) (B g : Nat) (A : Option Addr) (len cap : Nat) (n : Int) (h0 : Cur w B g A len cap) :
  Calls Try.prog 72 #[.pointer (some ⟨g, 0, none⟩), .int .i64 n] w (Drew (InBelow n) w B g A len cap) := by
 have HC := Lib.hid h0
 clear h0
 by_cases h1 : n ≤ 0
 ·go_enter Try.func72, Try.ntmps72
  go_wp2
  go_ret
  exact ⟨0, ⟨fun _ => rfl, fun h => by omega⟩, rfl, HC.out, grown_refl _ _⟩
 ·have hne : (n == 0) = false := by simp; omega
  by_cases h2 : n ≤ 256
  ·go_enter Try.func72, Try.ntmps72
   go_wp2_with fail
   refine (byte w B g A len cap HC.out).mono ?_
   rintro e w1 ⟨x, ⟨x0, x1⟩, rfl, hc, hg⟩
   have HC1 := Lib.hid hc
   clear hc
   go_wp2
   go_ret
   exact ⟨_, emod_in _ _ h1, rfl, HC1.out, hg⟩
  ·go_enter Try.func72, Try.ntmps72
   go_wp2_with fail
   refine (byte w B g A len cap HC.out).mono ?_
   rintro e w1 ⟨x, ⟨x0, x1⟩, rfl, hc, hg1⟩
   have HC1 := Lib.hid hc
   clear hc
   go_wp2_with fail
   refine (byte w1 B g A len cap HC1.out).mono ?_
   rintro e w2 ⟨y, ⟨y0, y1⟩, rfl, hc, hg2⟩
   have HC2 := Lib.hid hc
   clear hc
   go_wp2_with fail
   refine (byte w2 B g A len cap HC2.out).mono ?_
   rintro e w3 ⟨z, ⟨z0, z1⟩, rfl, hc, hg3⟩
   have HC3 := Lib.hid hc
   clear hc
   go_wp2_with fail
   refine (byte w3 B g A len cap HC3.out).mono ?_
   rintro e w4 ⟨v, ⟨v0, v1⟩, rfl, hc, hg4⟩
   have HC4 := Lib.hid hc
   clear hc
   go_wp2
   go_ret
   exact ⟨_, emod_in _ _ h1, rfl, HC4.out, grown_trans hg1 (grown_trans hg2 (grown_trans hg3 hg4))⟩

theorem Cur.alloc {w : World} {B g : Nat} {A : Option Addr} {len cap : Nat} (h : Cur w B g A len cap) (o : Obj) : Cur (w.alloc o) B g A len cap := by
 obtain ⟨hBg, hlen, hrd, i, x, hi, hbl⟩ := h
 have hgs : g < w.heap.size := (Array.getElem?_eq_some_iff.1 hbl).1
 exact ⟨hBg, hlen, hrd.grown (by omega) hBg (World.grownBy_alloc w o (some g)), i, x, hi, (Below.heap_alloc w o g hgs).trans hbl⟩
theorem Cur.lt {w : World} {B g : Nat} {A : Option Addr} {len cap : Nat} (h : Cur w B g A len cap) : B ≤ g ∧ g < w.heap.size := by
 obtain ⟨hBg, _, _, i, x, _, hbl⟩ := h
 exact ⟨hBg, (Array.getElem?_eq_some_iff.1 hbl).1⟩

def Coded (w : World) (B : Nat) (A : Option Addr) (len : Nat) : Prop := len ≤ 1048576 ∧ Rd w B A len

def NewPost (w : World) (A : Option Addr) (len cap : Nat) (e : Ending) (w' : World) : Prop :=
 ∃ g, e = .returned (.pointer (some ⟨g, 0, none⟩)) ∧ Cur w' w.heap.size g A len cap ∧ Below w.heap.size w w'

set_option maxHeartbeats 400000 in
theorem new (w : World) (A : Option Addr) (len cap : Nat) (h0 : Coded w w.heap.size A len) :
  Calls Try.prog 40 #[.slice A len cap] w (NewPost w A len cap) := by
 obtain ⟨hlen, hrd⟩ := h0
 have HR := Lib.hid hrd
 obtain ⟨b, off, f, hA, hcode⟩ := hrd
 have HA := Lib.hid hA
 have HF := Lib.hid hcode
 clear hA hcode
 go_enter Try.func40, Try.ntmps40
 go_wp2_with fail
 go_loop [3, 4] (fun h i => ∃ (k : Nat) (x : Int), k ≤ len ∧ i = .int .i64 k ∧ h = .int .i64 x) (fun _ i => len - (intOf i).toNat)
 case atStart => exact ⟨0, _, Nat.zero_le _, rfl, rfl⟩
 case round =>
  obtain ⟨k, x, hk, rfl, rfl⟩ := hrel
  by_cases hlt : k < len
  ·obtain ⟨hc1, _, _⟩ := HF.out k hlt
   obtain ⟨hb, rfl⟩ := HA.out (by omega)
   by_cases h4 : (k : Int) < 4000
   ·go_wp2
    go_round
    case rel => exact ⟨k + 1, _, by omega, by go_num, rfl⟩
    case measure => simp [intOf]; omega
   ·go_wp2
    go_ret
    exact ⟨w.heap.size, rfl, ⟨Nat.le_refl _, hlen, HR.out.below ((Below.refl _ _).alloc (Nat.le_refl _) _), 0, x, Nat.zero_le _, heap_alloc_new _ _⟩, (Below.refl _ _).alloc (Nat.le_refl _) _⟩
  ·go_wp2
   go_ret
   exact ⟨w.heap.size, rfl, ⟨Nat.le_refl _, hlen, HR.out.below ((Below.refl _ _).alloc (Nat.le_refl _) _), 0, x, Nat.zero_le _, heap_alloc_new _ _⟩, (Below.refl _ _).alloc (Nat.le_refl _) _⟩

def IsRow (k : IntKind) (w : World) (a : Option Addr) (len cap : Nat) (zs : List Int) : Prop :=
 (a = none ∧ len = 0 ∧ cap = 0 ∧ zs = []) ∨
 ∃ x, a = some x ∧ len ≤ cap ∧ cap ≤ maxLen ∧ zs.length = cap ∧ (∀ i, i < zs.length → w.cell? (x.add i) = some (.int k (zs.getD i 0))) ∧ ∀ n ∈ zs, (Lit.int k n).wf = true
theorem add_none (b o j : Nat) : (⟨b, o, none⟩ : Addr).add j = ⟨b, o + j, none⟩ := by unfold Addr.add; split <;> simp_all
theorem coded_of_row {w : World} {a : Option Addr} {len cap : Nat} {zs : List Int} (h : IsRow .u8 w a len cap zs) (hl : len ≤ 1048576) : Coded w w.heap.size a len := by
 refine ⟨hl, ?_⟩
 rcases h with ⟨rfl, rfl, rfl, rfl⟩ | ⟨x, rfl, hlc, hcm, hz, hcell, hwf⟩
 ·exact ⟨0, 0, fun _ => 0, fun h => by omega, fun j hj => by omega⟩
 ·by_cases h0 : len = 0
  ·subst h0; exact ⟨0, 0, fun _ => 0, fun h => by omega, fun j hj => by omega⟩
  ·obtain ⟨b, off, spot⟩ := x
   have hc := hcell 0 (by omega)
   have hs : spot = none := by
    have h1 := World.cell?_spot hc
    simpa [Addr.add] using h1
   subst hs
   refine ⟨b, off, fun j => zs.getD j 0, fun _ => ⟨?_, rfl⟩, fun j hj => ?_⟩
   ·rw [add_none] at hc
    exact World.block_lt_of_cell? w _ hc
   ·have hc := hcell j (by omega)
    rw [add_none] at hc
    refine ⟨hc, ?_⟩
    have hj' : j < zs.length := by omega
    exact bounds_u8 (hwf (zs.getD j 0) (by simp [List.getElem?_eq_getElem hj']))

theorem big (w : World) (A : Option Addr) (len cap : Nat) (hl : len ≤ 9223372036854775807) :
  Calls Try.prog 9 #[.slice A len cap] w fun e w' => e = .returned (.bool (decide (1048576 < (len : Int)))) ∧ w = w' := by
 by_cases h : (1048576 : Int) < (len : Int)
 all_goals
  go_enter Try.func9, Try.ntmps9
  go_wp2
  go_ret
  exact ⟨by simp [h], rfl⟩
theorem row_len {k : IntKind} {w : World} {a : Option Addr} {len cap : Nat} {zs : List Int} (h : IsRow k w a len cap zs) : len ≤ 9223372036854775807 := by
 rcases h with ⟨_, rfl, _, _⟩ | ⟨_, _, h1, h2, _⟩
 ·omega
 ·unfold maxLen at h2; omega
end Go.Proofs.Ytjfagpmklifjlaa.Draw

namespace Go.Proofs.Ytjfagpmklifjlaa.Draw
set_option linter.unusedVariables false
open Go.RowKit

set_option maxRecDepth 100000 in
set_option maxHeartbeats 1000000 in
theorem at0 (w : World) (A : Option Addr) (len cap B : Nat) (h : len ≤ 1048576) (hr : Rd w B A len) :
  Calls Try.prog 19 #[.slice A len cap, .int .i64 0] w fun e w' => ∃ x : Int, (0 ≤ x ∧ x ≤ 255) ∧ e = .returned (.int .i64 x) ∧ w' = w := by
 by_cases h0 : len = 0
 ·subst h0
  go_enter Try.func19, Try.ntmps19
  go_wp2
  go_ret
  exact ⟨0, ⟨by omega, by omega⟩, rfl, rfl⟩
 ·obtain ⟨b, off, f, hA, hc⟩ := hr
  obtain ⟨hb, rfl⟩ := hA (by omega)
  obtain ⟨j, hj⟩ : ∃ j, j = 1 % len := ⟨_, rfl⟩
  have hjl : j < len := by rw [hj]; exact Nat.mod_lt _ (by omega)
  have hji : ((1 : Int) % (len : Int)) = (j : Int) := by rw [hj]; rfl
  obtain ⟨hcj, hf0, hf1⟩ := hc j hjl
  have hne : ((len : Int) == 0) = false := by simp; omega
  have hl0 : (len : Int) ≠ 0 := by omega
  have hl1 : (0 : Int) < (len : Int) := by omega
  have hb1 : (0 : Int) ≤ (j : Int) := by omega
  have hb2 : (j : Int) < (len : Int) := by omega
  clear hA hc hj
  generalize f j = v at hcj hf0 hf1
  go_enter Try.func19, Try.ntmps19
  go_wp2
  go_ret
  exact ⟨v, ⟨hf0, hf1⟩, by first | rfl | go_num, rfl⟩

end Go.Proofs.Ytjfagpmklifjlaa.Draw
