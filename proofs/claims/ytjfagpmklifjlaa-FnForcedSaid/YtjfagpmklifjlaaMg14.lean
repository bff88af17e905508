/- CtI, RegRc, CtS in one text. -/
import Derived.Test.YtjfagpmklifjlaaMg13
import Derived.Test.YtjfagpmklifjlaaMg06
import Derived.Test.YtjfagpmklifjlaaMg00
import Derived.Deep.RegionHeld3
import Derived.Deep.DeepAppendRoom
import Derived.Deep.RegionLaw
import Derived.BigRegion

namespace Go.Proofs.Ytjfagpmklifjlaa.Prof
set_option linter.unusedVariables false
set_option maxRecDepth 100000
set_option linter.unusedSimpArgs false
open Go.RowKit Go.Proofs.Ytjfagpmklifjlaa.Pure Go.Proofs.Ytjfagpmklifjlaa.Cell Go.Proofs.Ytjfagpmklifjlaa.Reg Go.Proofs.Ytjfagpmklifjlaa.Cnt Go.Joins
open Go.Maps (Keyed)

theorem wf_wrap {c : Int} (h : (Lit.int .i64 c).wf = true) : wrap64 c = c := by
 have h := bounds_i64 h
 unfold wrap64; omega
theorem last_at {w : World} {m : Nat} {Da : DataW Unit} {xs : List Int} {fr : Bool} (ho : Own w m Da) (h : CL xs fr Da) (e : Nat) (he : (Lit.int .i64 (e : Int)).wf = true) :
  (Instr.lookup 93 (.map (some m)) (.agg #[.int .i64 0, .int .i64 (e : Int)]) false).run Try.prog w = .ok (.int .i64 (if e < 65 then wrap64 (V (gR xs) fr e 64 0 0 0 : Int) else 0)) w := by
 have hk := key2 (a := 0) (b := (e : Int)) (by decide) he
 obtain ⟨st, w1, hwf, hl, _⟩ := own_raise ho hk
 rw [hl]
 congr 2
 by_cases q : e < 65
 ·rw [if_pos q]
  have hi : k2 0 (e : Int) = kI (256 * e) := by
   unfold kI
   rw [show 256 * e % 256 = 0 by omega, show 256 * e / 256 = e by omega]; rfl
  rw [hi] at hwf ⊢
  have := (h.2 e q).wrap
  rw [← this]
  exact (wf_wrap hwf).symm
 ·rw [if_neg q]
  congr 1
  refine at2_not ?_
  cases hh : Maps.has Da (k2 0 (e : Int)) with
  | false => rfl
  | true =>
   obtain ⟨i, hi, ei, _⟩ := h.1 _ hh
   obtain ⟨_, h2⟩ := k2_inj (by decide) he (wf_nat (by omega)) (wf_nat (by omega)) ei
   omega
theorem tiles_half {xs : List Int} (ho : okR xs) : (if (idxs xs).length / 2 < 65 then wrap64 (V (gR xs) false ((idxs xs).length / 2) 64 0 0 0 : Int) else 0) = tilesR xs := by
 have hl := idxs_len xs
 rw [if_pos (by omega), tilesR_ok ho, V_tiles (gR_out xs), idxs_cnt]
 by_cases q : (idxs xs).length = 2 * ((idxs xs).length / 2)
 ·rw [if_pos q]
 ·rw [if_neg q]
  have : tiles (gR xs) = 0 := by
   cases h : tiles (gR xs) with
   | zero => rfl
   | succ t => have := tiles_even (xs := xs) (by omega); omega
  rw [this]

set_option maxRecDepth 100000 in
set_option maxHeartbeats 4000000 in
theorem iCountTilings (w : World) (A : Option Addr) (n cap B : Nat) (xs : List Int) (hx : xs.length = n) (hn : (n : Int) ≤ 9223372036854775807) (h : RowB w B A xs) (hB : B ≤ w.heap.size) :
  Calls Try.prog 42 #[.agg #[.slice A n cap]] w (Num (tilesR xs) w) := by
 have T0 := Lib.hid (fun (T : TypeId) => rb_start (T := T) (.slice A n cap) w)
 have HOk := Lib.hid (fun W (hb : RB w (.slice A n cap) W) => iRegionOk W A n cap B xs hx hn (h.below hb.1 hB) (by have := hb.2.1; omega))
 have HCt := Lib.hid (fun W (hb : RB w (.slice A n cap) W) => iCountCells W A n cap B xs hx hn (h.below hb.1 hB) (by have := hb.2.1; omega))
 have HCl := Lib.hid (fun W (ho : okR xs) (hb : RB w (.slice A n cap) W) => iCountLists W A n cap B xs hx hn ho (h.below hb.1 hB) (by have := hb.2.1; omega) false)
 by_cases ho : okR xs
 ·rw [okRB_of ho] at HOk
  have HE := Lib.hid (tiles_half ho)
  have hl := idxs_len xs
  have hcn : countR xs = ((idxs xs).length : Int) := by unfold countR; rw [(cells_idx ho).1]
  rw [hcn] at HCt
  obtain ⟨e2, he2⟩ : ∃ e2, e2 = (idxs xs).length / 2 := ⟨_, rfl⟩
  rw [← he2] at HE
  have HLk := Lib.hid (fun W m Da (hO : Own W m Da) (hC : CL xs false Da) => last_at hO hC e2 (wf_nat (by omega)))
  have HW := Lib.hid (show IntKind.i64.wrap (((idxs xs).length : Int) / 2) = (e2 : Int) from by rw [wrap_is]; unfold wrap64; omega)
  clear he2
  have HCL := Lib.hid (fun W (hb : RB w (.slice A n cap) W) => HCl.out W ho hb)
  generalize (idxs xs).length = M at HCt HW hl
  generalize hT : tilesR xs = T at HE ⊢
  generalize (if e2 < 65 then wrap64 (V (gR xs) false e2 64 0 0 0 : Int) else 0) = T' at HE HLk
  clear hx hn h hB HCl ho hcn hT
  go_enter Try.func42, Try.ntmps42
  go_wp2_with fail
  refine (HOk.out _ (T0.out _)).mono ?_
  rintro e w1 ⟨rfl, hb1⟩
  have T1 := (T0.out 26).on hb1
  clear T0 HOk hb1
  go_wp2_with fail
  refine wp_region_noPanic ?_
  have T2 := T1.drew
  refine wp_region_held_drew (S := (fun w' => w'.cell? ⟨w.heap.size, 0, none⟩ = some (.slice A n cap))) (by kernel_rfl) (T2.2.2) (fun hHeld => ?_)
  generalize World.drew _ = WR at T2 hHeld ⊢
  clear T1
  refine wpAnyH_take (i := 0) (v := ?_) rfl (by kernel_rfl) (by kernel_rfl) (by kernel_rfl) (fun _ _ _ h => h) (Or.inl ⟨by rfl, ?_⟩) (by assumption) ?_
  rotate_left
  ·(intro w' hS; (try dsimp only at hS); go_simp; try with_reducible rfl)
  try simp only [Act.put, List.getElem_toArray, List.getElem_cons_succ, List.getElem_cons_zero, List.setIfInBounds_toArray, List.set_cons_zero, List.set_cons_succ]
  refine wpAnyH_take (i := 2) (v := ?_) rfl (by kernel_rfl) (by kernel_rfl) (by kernel_rfl) (fun _ _ _ h => h) (Or.inl ⟨by rfl, ?_⟩) (by assumption) ?_
  rotate_left
  ·(intro w' hS; (try dsimp only at hS); go_simp; try with_reducible rfl)
  try simp only [Act.put, List.getElem_toArray, List.getElem_cons_succ, List.getElem_cons_zero, List.setIfInBounds_toArray, List.set_cons_zero, List.set_cons_succ]
  refine wpAnyH_ready (rs := [1]) (by kernel_rfl) (by simp) ?_
  refine AllReadyH.cons rfl (fun K hK => ?_) AllReadyH.nil
  go_simp
  refine (HCL.out _ T2).mono ?_
  rintro e wx ⟨m, Da, rfl, O2, C2, hbx⟩
  have T2 := T2.on hbx
  clear hbx
  go_wp2_with fail
  refine hK.out _ _ (T2.2.2) (fun hHeld => ?_)
  clear hK K
  try simp only [Act.put, List.getElem_toArray, List.getElem_cons_succ, List.getElem_cons_zero, List.setIfInBounds_toArray, List.set_cons_zero, List.set_cons_succ]
  refine wpAnyH_ready (rs := [3]) (by kernel_rfl) (by simp) ?_
  refine AllReadyH.cons rfl (fun K hK => ?_) AllReadyH.nil
  go_simp
  refine (HCt.out _ T2).mono ?_
  rintro e wx ⟨rfl, hbx⟩
  have T2 := T2.on hbx
  have O2 := O2.on hbx
  clear hbx
  go_wp2_with fail
  refine hK.out _ _ (T2.2.2) (fun hHeld => ?_)
  clear hK K
  try simp only [Act.put, List.getElem_toArray, List.getElem_cons_succ, List.getElem_cons_zero, List.setIfInBounds_toArray, List.set_cons_zero, List.set_cons_succ]
  refine wpAnyH_take (i := 4) (v := ?_) rfl (by kernel_rfl) (by kernel_rfl) (by kernel_rfl) (fun _ _ _ h => h) (Or.inl ⟨by rfl, ?_⟩) (by assumption) ?_
  rotate_left
  ·(intro w' hS; (try dsimp only at hS); go_simp; try with_reducible rfl)
  try simp only [Act.put, List.getElem_toArray, List.getElem_cons_succ, List.getElem_cons_zero, List.setIfInBounds_toArray, List.set_cons_zero, List.set_cons_succ]
  refine wpAnyH_take (i := 5) (v := ?_) rfl (by kernel_rfl) (by kernel_rfl) (by kernel_rfl) (fun _ _ _ h => h) (Or.inl ⟨by rfl, ?_⟩) (by assumption) ?_
  rotate_left
  ·(intro w' hS; (try dsimp only at hS); go_simp; try with_reducible rfl)
  try simp only [Act.put, List.getElem_toArray, List.getElem_cons_succ, List.getElem_cons_zero, List.setIfInBounds_toArray, List.set_cons_zero, List.set_cons_succ]
  have hl1 := HLk.out _ _ _ O2 C2
  simp only [HW.out]
  refine wpAnyH_ready (rs := [6]) (by kernel_rfl) (by simp) ?_
  refine AllReadyH.cons rfl (fun K hK => ?_) AllReadyH.nil
  go_simp
  refine hK.out _ _ (T2.2.2) (fun hHeld => ?_)
  clear hK K
  try simp only [Act.put, List.getElem_toArray, List.getElem_cons_succ, List.getElem_cons_zero, List.setIfInBounds_toArray, List.set_cons_zero, List.set_cons_succ]
  refine wpAnyH_take (i := 7) (v := ?_) rfl (by kernel_rfl) (by kernel_rfl) (by kernel_rfl) (fun _ _ _ h => h) (Or.inl ⟨by rfl, ?_⟩) (by assumption) ?_
  rotate_left
  ·(intro w' hS; (try dsimp only at hS); go_simp; try with_reducible rfl)
  try simp only [Act.put, List.getElem_toArray, List.getElem_cons_succ, List.getElem_cons_zero, List.setIfInBounds_toArray, List.set_cons_zero, List.set_cons_succ]
  refine wpAnyH_done (by kernel_rfl) ?_ _
  refine NoPanic.normal ?_
  have HT := HE.out
  clear hHeld hl1
  go_wp2
  go_ret
  exact mkNum HT T2.1
 ·rw [okRB_not ho] at HOk
  have HE := Lib.hid (tilesR_not ho)
  clear hx hn h hB HCl HCt ho
  go_enter Try.func42, Try.ntmps42
  go_wp2_with fail
  refine (HOk.out _ (T0.out _)).mono ?_
  rintro e w1 ⟨rfl, hb1⟩
  have T1 := (T0.out 26).on hb1
  clear T0 HOk hb1
  go_wp2
  go_ret
  exact mkNum HE.out.symm T1.1
end Go.Proofs.Ytjfagpmklifjlaa.Prof

namespace Go.Proofs.Ytjfagpmklifjlaa.Reg
set_option linter.unusedVariables false
open Go.RowKit Go.Proofs.Ytjfagpmklifjlaa.Base Go.Proofs.Ytjfagpmklifjlaa.Pure Go.Proofs.Ytjfagpmklifjlaa.Cell Go.Joins

theorem row_value {k : Nat} (h1 : 1 ≤ k) (h8 : k ≤ 8) : wrap64 (wrap64 ((2 : Int) ^ k) - 1) = 2 ^ k - 1 := by
 have hcs : k = 1 ∨ k = 2 ∨ k = 3 ∨ k = 4 ∨ k = 5 ∨ k = 6 ∨ k = 7 ∨ k = 8 := by omega
 rcases hcs with rfl | rfl | rfl | rfl | rfl | rfl | rfl | rfl <;> (unfold wrap64; decide)

theorem row_value' {k : Nat} (h1 : 1 ≤ k) (h8 : k ≤ 8) : IntKind.i64.wrap (IntKind.i64.wrap ((2 : Int) ^ k) - 1) = 2 ^ k - 1 := by
 have hcs : k = 1 ∨ k = 2 ∨ k = 3 ∨ k = 4 ∨ k = 5 ∨ k = 6 ∨ k = 7 ∨ k = 8 := by omega
 rcases hcs with rfl | rfl | rfl | rfl | rfl | rfl | rfl | rfl <;> (rw [IntKind.wrap_i64, IntKind.wrap_i64]; decide)

theorem two_boxes (w : World) (o1 o2 : Obj) : ((w.alloc o1).alloc o2).heap[w.heap.size]? = some o1 ∧ ((w.alloc o1).alloc o2).heap[w.heap.size + 1]? = some o2 := by
 have h1 : (w.heap.push o1).size = w.heap.size + 1 := by simp
 constructor
 ·show ((w.heap.push o1).push o2)[_]? = _
  rw [Array.getElem?_push_lt (by simp)]
  simp
 ·show ((w.heap.push o1).push o2)[_]? = _
  rw [← h1]; exact Array.getElem?_push_size

def SR (w : World) (v : Value) (W : World) : Prop :=
 Below w.heap.size w W ∧ w.heap.size + 2 ≤ W.heap.size ∧ W.heap[w.heap.size]? = some (.cells #[.slice none 0 0] 26) ∧ W.heap[w.heap.size + 1]? = some (.cells #[v] 26)
theorem SR.grown {w W W' : World} {v : Value} {row : Option Nat} (h : SR w v W) (hg : W.grownBy W' row) (hr : ∀ k, row = some k → w.heap.size + 2 ≤ k) : SR w v W' := by
 obtain ⟨a, b, c, d⟩ := h
 have hz := hg.size
 refine ⟨a.grown hg (by omega) (fun k hk => by have := hr k hk; omega), by omega, ?_, ?_⟩
 ·rw [hg.block _ (by omega) (fun e => by have := hr _ e.symm; omega)]; exact c
 ·rw [hg.block _ (by omega) (fun e => by have := hr _ e.symm; omega)]; exact d
theorem SR.alloc {w W : World} {v : Value} (h : SR w v W) (o : Obj) : SR w v (W.alloc o) := h.grown (World.grownBy_alloc W o none) (by simp)
theorem SR.drew {w W : World} {v : Value} (h : SR w v W) : SR w v W.drew := ⟨h.1.drew, h.2⟩
theorem SR.store {w W : World} {v : Value} (h : SR w v W) (u : Value) : SR w u (W.setCell ⟨w.heap.size + 1, 0, none⟩ u) := by
 obtain ⟨a, b, c, d⟩ := h
 refine ⟨a.setCell (by show w.heap.size ≤ w.heap.size + 1; omega) _, by simpa [World.setCell] using b, ?_, ?_⟩
 ·exact (Below.heap_setCell W _ _ _ (by show w.heap.size ≠ w.heap.size + 1; omega)).trans c
 ·have := block_setCell d u (i := 0)
  rw [this]; rfl

set_option maxRecDepth 100000 in
set_option maxHeartbeats 2000000 in
theorem sRectIn (w : World) (k n : Nat) (h1 : 1 ≤ k) (h8 : k ≤ 8) (n1 : 1 ≤ n) (n8 : n ≤ 8) :
  Calls Try.prog 71 #[.int .i64 (k : Int), .int .i64 (n : Int)] w (RegPost (List.replicate n (2 ^ k - 1)) n w) := by
 obtain ⟨i0, hi, hz0, hz1, hz2⟩ := info_parts intInfo
 have hv := row_value h1 h8
 have HX := Lib.hid (row_value' h1 h8)
 obtain ⟨v, hvv⟩ : ∃ v, v = (2 : Int) ^ k - 1 := ⟨_, rfl⟩
 rw [← hvv] at hv HX ⊢
 clear hvv
 have HS := Lib.hid (show SR w (.slice none 0 0) ((w.alloc (.cells #[.slice none 0 0] 26)).alloc (.cells #[.slice none 0 0] 26)) from ⟨below_alloc2 w _ _, by simp, (two_boxes w _ _).1, (two_boxes w _ _).2⟩)
 have HI := Lib.hid (fun W => l01In (k : Int) 1 8 W)
 have HJ := Lib.hid (fun W => l01In (n : Int) 1 8 W)
 rw [inB_of (by omega)] at HI HJ
 go_enter Try.func71, Try.ntmps71
 go_wp2_with fail
 go_loopw [6] (fun i wr => ∃ (j : Nat) (u : Value), j ≤ n ∧ i = .int .i64 j ∧ wr.ownsRow (w.heap.size + 2) 3 1 u j (ints (List.replicate j v)) ∧ SR w u wr) (fun i _ => n - (intOf i).toNat)
 case atStart => exact ⟨0, .slice none 0 0, Nat.zero_le _, rfl, World.ownsRow_nil _ _ _ _, HS.out⟩
 case round =>
  clear HS
  obtain ⟨j, u, hj, rfl, hown, hs⟩ := hrel
  have hsz := hs.2.1
  by_cases hlt : j < n
  ·obtain ⟨c1, f1⟩ := cellAt hs.2.2.2 0
   have HSR := Lib.hid hs
   have HOwn := Lib.hid hown
   clear hown hs
   go_wp2_with fail
   refine (HI.out _).mono ?_
   rintro e w1 ⟨rfl, rfl⟩
   go_wp2_with fail
   refine (HJ.out _).mono ?_
   rintro e w2 ⟨rfl, rfl⟩
   have ca : ∀ o, (w2.alloc o).cell? ⟨w.heap.size + 1, 0, none⟩ = some u := fun o => (cellAt (HSR.out.alloc o).2.2.2 0).1.trans rfl
   have fa : ∀ o, (w2.alloc o).frozen? ⟨w.heap.size + 1, 0, none⟩ = false := fun o => (cellAt (HSR.out.alloc o).2.2.2 0).2
   go_wp2_with fail
   go_region_law (first | (refine step_append_lies _ (by rfl) _ _ _ (by rfl) (w.heap.size + 2) 3 i0 _ 1 8 Try.underlying24 hi hz0 hz1 hz2 rfl (by omega) u j (ints (List.replicate j v)) (by rfl) ((HOwn.out.alloc _).drew) ⟨w2.heap.size, 0, none⟩ 1 1 [.int .i64 (IntKind.i64.wrap (IntKind.i64.wrap (2 ^ k) - 1))] (by rfl) (by rfl) (World.news_of_block (cs := #[.int .i64 (IntKind.i64.wrap (IntKind.i64.wrap (2 ^ k) - 1))]) (t := 3) (fr := (0, 0)) (heap_alloc_new w2 _)) (by simp [Value.oneCell']) (by omega) (by unfold maxLen; omega) (by omega) (by simp; omega) (w2.heap.size + 1) (by simp) ?_; intro gg cap w3 hown3 hgrow hat hlt3; obtain ⟨d1, g1⟩ := cellAt (((HSR.out.alloc (.cells #[.int .i64 (IntKind.i64.wrap (IntKind.i64.wrap (2 ^ k) - 1))] 3)).drew.grown hgrow (fun q hq => (HOwn.out.lt q hq).1)).2.2.2) 0))
   all_goals
    have hX := HX.out
    rw [hX] at hown3 hgrow
    have hs4 := Lib.hid (((SR.drew (HSR.out.alloc _)).grown hgrow (fun q hq => (HOwn.out.lt q hq).1)).store (.slice (some ⟨gg, 0, none⟩) (j + 1) cap))
    have R := Lib.hid (show (w3.setCell ⟨w.heap.size + 1, 0, none⟩ (.slice (some ⟨gg, 0, none⟩) (j + 1) cap)).ownsRow (w.heap.size + 2) 3 1 (.slice (some ⟨gg, 0, none⟩) (j + 1) cap) (j + 1) (ints (List.replicate (j + 1) v)) by
     rw [List.replicate_succ' (n := j), ints_snoc]
     exact ownsRow_setCell_below hown3 (by show w.heap.size + 1 < w.heap.size + 2; omega) _)
    clear hown3 hgrow hat d1 g1 hX HOwn HSR ca fa c1 f1 hlt3
    go_wp2
    go_roundw
    case rel => exact ⟨j + 1, _, by omega, by go_num, R.out, hs4.out⟩
    case measure => (simp [intOf] <;> omega)
  ·obtain rfl : j = n := by omega
   obtain ⟨A, cap, rfl⟩ := own_shape hown
   obtain ⟨c1, f1⟩ := cellAt hs.2.2.2 0
   obtain ⟨c2, f2⟩ := cellAt hs.2.2.1 0
   have HSR := Lib.hid hs
   have HOwn := Lib.hid hown
   clear hown hs
   go_wp2
   have hres := World.cell?_setCell_same (w := wr) ⟨w.heap.size, 0, none⟩ (.slice A j cap) (u := .slice none 0 0) c2
   refine bodyPost_ret (v := .agg #[.slice A j cap]) (by simp [results, Try.results71, go_sem, hres]) rfl ⟨A, cap, rfl, ?_, HSR.out.1.setCell (Nat.le_refl _) _⟩
   exact own_base (ownsRow_setCell_below HOwn.out (by show w.heap.size < w.heap.size + 2; omega) _) (by omega)

set_option maxRecDepth 100000 in
set_option maxHeartbeats 2000000 in
theorem sRectOut (w : World) (a b : Int) (h : ¬ (1 ≤ a ∧ a ≤ 8 ∧ 1 ≤ b ∧ b ≤ 8)) :
  Calls Try.prog 71 #[.int .i64 a, .int .i64 b] w (RegPost [] 0 w) := by
 have HS := Lib.hid (show SR w (.slice none 0 0) ((w.alloc (.cells #[.slice none 0 0] 26)).alloc (.cells #[.slice none 0 0] 26)) from ⟨below_alloc2 w _ _, by simp, (two_boxes w _ _).1, (two_boxes w _ _).2⟩)
 have HI := Lib.hid (fun W => l01In a 1 8 W)
 have HJ := Lib.hid (fun W => l01In b 1 8 W)
 have HR := Lib.hid (fun (W : World) (hW : Below w.heap.size w W) => (show RegPost [] 0 w (.returned (.agg #[.slice none 0 0])) W from ⟨none, 0, rfl, World.ownsRow_nil _ _ _ _, hW⟩))
 have hab : inB a 1 8 = false ∨ inB a 1 8 = true ∧ inB b 1 8 = false := by
  by_cases k : 1 ≤ a ∧ a ≤ 8
  ·exact .inr ⟨inB_of k, inB_not fun q => h ⟨k.1, k.2, q.1, q.2⟩⟩
  ·exact .inl (inB_not k)
 generalize inB a 1 8 = x at HI hab
 generalize inB b 1 8 = y at HJ hab
 clear h
 go_enter Try.func71, Try.ntmps71
 go_wp2_with fail
 go_loopw [6] (fun i wr => i = .int .i64 0 ∧ SR w (.slice none 0 0) wr) (fun i _ => (intOf i).toNat)
 case atStart => exact ⟨rfl, HS.out⟩
 case round =>
  clear HS
  obtain ⟨rfl, hs⟩ := hrel
  obtain ⟨c1, f1⟩ := cellAt hs.2.2.2 0
  obtain ⟨c2, f2⟩ := cellAt hs.2.2.1 0
  have HSR := Lib.hid hs
  have hres := World.cell?_setCell_same (w := wr) ⟨w.heap.size, 0, none⟩ (.slice none 0 0) (u := .slice none 0 0) c2
  clear hs
  by_cases hb : 0 < b
  ·go_wp2_with fail
   refine (HI.out _).mono ?_
   rintro e w1 ⟨rfl, rfl⟩
   rcases hab with rfl | ⟨rfl, rfl⟩
   ·go_wp2
    refine bodyPost_ret (v := .agg #[.slice none 0 0]) (by simp [results, Try.results71, go_sem, hres]) rfl (HR.out _ (HSR.out.1.setCell (Nat.le_refl _) _))
   ·go_wp2_with fail
    refine (HJ.out _).mono ?_
    rintro e w2 ⟨rfl, rfl⟩
    go_wp2
    refine bodyPost_ret (v := .agg #[.slice none 0 0]) (by simp [results, Try.results71, go_sem, hres]) rfl (HR.out _ (HSR.out.1.setCell (Nat.le_refl _) _))
  ·go_wp2
   refine bodyPost_ret (v := .agg #[.slice none 0 0]) (by simp [results, Try.results71, go_sem, hres]) rfl (HR.out _ (HSR.out.1.setCell (Nat.le_refl _) _))

theorem rect_nat {a b : Int} (h : 1 ≤ a ∧ a ≤ 8 ∧ 1 ≤ b ∧ b ≤ 8) : ∃ k n : Nat, a = (k : Int) ∧ b = (n : Int) ∧ 1 ≤ k ∧ k ≤ 8 ∧ 1 ≤ n ∧ n ≤ 8 ∧ rectR a b = List.replicate n (2 ^ k - 1) := by
 refine ⟨a.toNat, b.toNat, by omega, by omega, by omega, by omega, by omega, by omega, ?_⟩
 rw [rectR_in h]
theorem sRectangle (w : World) (a b : Int) :
  Calls Try.prog 71 #[.int .i64 a, .int .i64 b] w (RegPost (rectR a b) (rectR a b).length w) := by
 by_cases h : 1 ≤ a ∧ a ≤ 8 ∧ 1 ≤ b ∧ b ≤ 8
 ·obtain ⟨k, n, rfl, rfl, h1, h2, h3, h4, he⟩ := rect_nat h
  rw [he, List.length_replicate]
  exact sRectIn w k n h1 h2 h3 h4
 ·rw [rectR_out h]
  exact sRectOut w a b h
end Go.Proofs.Ytjfagpmklifjlaa.Reg

namespace Go.Proofs.Ytjfagpmklifjlaa.Prof
set_option linter.unusedVariables false
set_option maxRecDepth 100000
set_option linter.unusedSimpArgs false
open Go.RowKit Go.Proofs.Ytjfagpmklifjlaa.Pure Go.Proofs.Ytjfagpmklifjlaa.Cell Go.Proofs.Ytjfagpmklifjlaa.Reg Go.Proofs.Ytjfagpmklifjlaa.Cnt Go.Joins

set_option maxRecDepth 100000 in
set_option maxHeartbeats 1000000 in
theorem iIsTileable (w : World) (A : Option Addr) (n cap B : Nat) (xs : List Int) (hx : xs.length = n) (hn : (n : Int) ≤ 9223372036854775807) (h : RowB w B A xs) (hB : B ≤ w.heap.size) :
  Calls Try.prog 45 #[.agg #[.slice A n cap]] w (Bol (decide (0 < tilesR xs)) w) := by
 have T0 := Lib.hid (fun (T : TypeId) => rb_start (T := T) (.slice A n cap) w)
 have HC := Lib.hid (fun W (hb : RB w (.slice A n cap) W) => iCountTilings W A n cap B xs hx hn (h.below hb.1 hB) (by have := hb.2.1; omega))
 clear hx hn h
 generalize tilesR xs = t at HC ⊢
 go_enter Try.func45, Try.ntmps45
 go_wp2_with fail
 refine (HC.out _ (T0.out _)).mono ?_
 rintro e w1 ⟨rfl, hb1⟩
 have T1 := (T0.out 26).on hb1
 clear T0 HC hb1
 go_wp2
 go_ret
 exact ⟨rfl, T1.1⟩
theorem rect_ok' {a b : Int} (h : 1 ≤ a ∧ a ≤ 8 ∧ 1 ≤ b ∧ b ≤ 8) : okR (rectR a b) := by
 have := rect_ok (a := a.toNat) (b := b.toNat) (by omega) (by omega)
 rwa [Int.toNat_of_nonneg (by omega), Int.toNat_of_nonneg (by omega)] at this
end Go.Proofs.Ytjfagpmklifjlaa.Prof
