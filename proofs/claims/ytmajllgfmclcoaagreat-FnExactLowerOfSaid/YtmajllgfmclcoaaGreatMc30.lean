/- Rpt, HgI, IEq, TfI in one text. -/
import Derived.Test.YtmajllgfmclcoaaGreatMc22
import Derived.Test.YtmajllgfmclcoaaGreatSrti
import Derived.Laws.CopyOwn
import Derived.Deep.LoopGhost
import Derived.Deep.RegionHeld3
import Derived.Deep.Cut
import Derived.Lib.Hide
import Derived.Lib.SmallJoins
import Derived.OwnWalk
import Derived.Laws.OwnMore
import Derived.Test.YtmajllgfmclcoaaGreatMc29
import Derived.Test.YtmajllgfmclcoaaGreatMc24
import Derived.Test.YtmajllgfmclcoaaGreatMc13
import Derived.Test.YtmajllgfmclcoaaGreatMc19
import Derived.Test.YtmajllgfmclcoaaGreatMc28

namespace Go.Proofs.YtmajllgfmclcoaaGreat.Rpt
set_option linter.unusedVariables false
set_option linter.unusedSimpArgs false
set_option maxRecDepth 100000
open Go.RowKit Go.Proofs.YtmajllgfmclcoaaGreat.Base Go.Proofs.YtmajllgfmclcoaaGreat.Wg Go.Joins
open Go.Proofs.YtmajllgfmclcoaaGreat.Reg (own_below own_base intInfo)

theorem iMul1 (n : Nat) (hn : n ≤ 2000000) (w : World) : Calls Tryz.prog 81 #[.int .u64 1, .int .u64 (n : Int)] w fun e w' => e = .returned (.tuple #[.int .u64 0, .int .u64 (n : Int)]) ∧ w' = w := by
 have h := Any.bits_Mul Tryz.mulU 1 n (by omega) (by omega) w
 rw [Nat.one_mul, Nat.div_eq_of_lt (by omega), Nat.mod_eq_of_lt (by omega)] at h
 exact h
def rowR (z : Int) (n k : Nat) : List Value := List.replicate k (.int .i64 z) ++ List.replicate (n - k) (.int .i64 0)
theorem rowR_length {z : Int} {n k : Nat} (h : k ≤ n) : (rowR z n k).length = n := by unfold rowR; rw [List.length_append, List.length_replicate, List.length_replicate]; omega
theorem rowR_at {z : Int} {n k i : Nat} (h : i < k) : (rowR z n k)[i]? = some (.int .i64 z) := by unfold rowR; rw [List.getElem?_append_left (by rw [List.length_replicate]; exact h), List.getElem?_replicate, if_pos h]
theorem rowR_put {z : Int} {n k c : Nat} (h : k + c ≤ n) : splice (rowR z n k) k (List.replicate c (.int .i64 z)) = rowR z n (k + c) := by
 unfold splice rowR
 rw [List.take_append_of_le_length (by simp), List.take_of_length_le (by simp), List.length_replicate, List.drop_append, List.drop_eq_nil_of_le (by simp), List.nil_append, List.length_replicate, show k + c - k = c by omega, List.drop_replicate, ← List.append_assoc, List.replicate_append_replicate, show n - k - c = n - (k + c) by omega]
theorem rowR_all (z : Int) (n : Nat) : rowR z n n = rowF n (fun _ => z) := by
 unfold rowR rowF
 rw [Nat.sub_self, List.replicate_zero, List.append_nil, List.map_const', List.length_range]
theorem rep_heap {W : World} {base b n : Nat} {xs : List Value} (h : W.ownsRow base 3 1 (.slice (some ⟨b, 0, none⟩) n n) n xs) : W.heap[b]? = some (.cells xs.toArray 3 (0, 0)) := by
 rcases h.2 with ⟨h', _⟩ | ⟨g', cap', cur, h', _, hg, hsz, hz2, hcs, htake⟩
 ·simp at h'
 ·simp only [Value.slice.injEq, Option.some.injEq, Addr.mk.injEq, and_true, true_and] at h'
  obtain ⟨rfl, rfl⟩ := h'
  rw [hg, ← htake, Nat.mul_one, List.take_of_length_le (by rw [Array.length_toList]; omega)]
theorem rep_own {W : World} {base b n : Nat} {xs : List Value} (hb : base ≤ b) (hl : xs.length = n) (hn : n ≤ 2000000) (h : W.heap[b]? = some (.cells xs.toArray 3 (0, 0))) : W.ownsRow base 3 1 (.slice (some ⟨b, 0, none⟩) n n) n xs :=
 ⟨by rw [hl, Nat.mul_one], .inr ⟨b, n, xs.toArray, rfl, hb, h, Nat.le_refl _, by unfold maxLen; omega, by simp [hl], by rw [Nat.mul_one, List.take_of_length_le (by simp [hl])]⟩⟩
theorem ints_size : (Tryz.prog.info? 3).map (·.size) = some 1 := by kernel_rfl
def RepP (z : Int) (n : Nat) (w : World) (e : Ending) (w' : World) : Prop := ∃ b, e = .returned (.slice (some ⟨b, 0, none⟩) n n) ∧ NumR w' w.heap.size b n (fun _ => z) ∧ Below w.heap.size w w'
set_option maxHeartbeats 4000000 in
theorem iRepeat (z : Int) (w : World) (g n : Nat) (h1 : 0 < n) (hn : n ≤ 300) (hg : g < w.heap.size) (hc : w.cell? ⟨g, 0, none⟩ = some (.int .i64 z)) :
  Calls Tryz.prog 63 #[.slice (some ⟨g, 0, none⟩) 1 1, .int .i64 (n : Int)] w (RepP z n w) := by
 obtain ⟨i0, hi, hz0, hz1, hz2⟩ := info_parts intInfo
 have HMu := Lib.hid (fun w => iMul1 n (by omega) w)
 have hwu : IntKind.u64.wrap (n : Int) = (n : Int) := by rw [IntKind.wrap_u64]; omega
 have hwi : IntKind.i64.wrap (n : Int) = (n : Int) := by rw [IntKind.wrap_i64]; omega
 have hneg : ¬ (n : Int) < 0 := by omega
 have hmax : ¬ (9223372036854775807 : Int) < (n : Int) := by omega
 have HS := Lib.hid ints_size
 have HG := Lib.hid hg
 have HC := Lib.hid hc
 clear hg hc
 go_enter Tryz.func63, Tryz.ntmps63
 go_wp2_with fail
 refine (HMu.out _).mono ?_
 rintro e w1 ⟨rfl, hw1⟩
 have hw1 := hw1.symm
 subst hw1
 clear HMu
 have HZ := Lib.hid (show (madeCells (Value.int .i64 0).cells (n * 1)).toList = rowR z n 0 by
  rw [show (Value.int .i64 0).cells = #[.int .i64 0] from rfl, Nat.mul_one, toList_madeCells_one]; unfold rowR; simp)
 go_upto_region 7 with (at_make; go_loud (refine wpList_make_full _ rfl _ _ 22 rfl w.heap.size 3 i0 (.int .i64 0) 1 Tryz.underlying22 hi hz0 hz1 .i64 .i64 (n : Int) (n : Int) n rfl rfl rfl rfl (by rw [hz2]; omega) (by unfold maxLen; omega) (by omega) ?_; intro w2 hown2 hg2))
 have HB2 := Lib.hid (show Below w.heap.size w w2 from (Below.refl _ _).grown hg2 (by omega) (by simp))
 rw [HZ.out] at hown2
 have HH2 := Lib.hid (rep_heap hown2)
 clear hown2 hg2 HZ
 have HC2 := Lib.hid (show w2.cell? ⟨g, 0, none⟩ = some (.int .i64 z) from (HB2.out.cell (p := ⟨g, 0, none⟩) HG.out).trans HC.out)
 obtain ⟨b, hbz⟩ : ∃ b, w.heap.size = b := ⟨_, rfl⟩
 rw [hbz] at HH2 ⊢
 have HBz := Lib.hid hbz
 clear hbz hwu hwi
 have hone : ((1 : Nat) : Int) = 1 := rfl
 have HSrc := Lib.hid (show ∀ (j : Nat) (v : Value), [Value.int .i64 z][j]? = some v → w2.cell? ((⟨g, 0, none⟩ : Addr).add j) = some v from fun j v hj => by
  rcases j with _ | j
  ·simp at hj; subst hj; rw [Base.add_plain]; exact HC2.out
  ·simp at hj)
 have HP := Lib.hid (show splice (rowR z n 0) 0 [Value.int .i64 z] = rowR z n (0 + 1) from rowR_put (z := z) (c := 1) (by omega))
 have HLn := Lib.hid (rowR_length (z := z) (n := n) (k := 0) (Nat.zero_le _))
 have HMin := Lib.hid (show [Value.int .i64 z].length = Nat.min 1 n from (Nat.min_eq_left (show 1 ≤ n from h1)).symm)
 go_wp2_with ((with_reducible change wpList _ _ _ (_ :: _) _ _); (refine wpList_copy_splice rfl _ _ 22 22 rfl 3 Tryz.underlying22 HS.out (some ⟨b, 0, none⟩) (some ⟨g, 0, none⟩) n n 1 1 rfl rfl b 0 (rowR z n 0) 3 HH2.out [.int .i64 z] HMin.out (fun _ => ⟨rfl, ⟨g, 0, none⟩, rfl, HSrc.out⟩) (by rw [HLn.out]; show 0 + 1 ≤ n; omega) (by simp [Value.oneCell']) w.heap.size w HB2.out (by have := HBz.out; omega) ?_; intro w3 HH3 hb3))
 rw [HP.out] at HH3
 have HB3 := Lib.hid hb3
 clear hb3 HH2 HSrc HP HLn HMin HC2 HB2 HC HG
 go_loopw [8] (fun v wr => ∃ k : Nat, 0 < k ∧ k ≤ n ∧ v = .int .i64 k ∧ Hid (wr.heap[b]? = some (.cells (rowR z n k).toArray 3 (0, 0))) ∧ Hid (Below w.heap.size w wr)) (fun v _ => n - (intOf v).toNat)
 case atStart => exact ⟨0 + 1, by omega, by omega, rfl, HH3, HB3⟩
 case round =>
  clear HH3 HB3
  obtain ⟨k, hk0, hk, rfl, HH, HB⟩ := hrel
  by_cases hlt : k < n
  ·obtain ⟨c, hc⟩ : ∃ c, c = min k (n - k) := ⟨_, rfl⟩
   have hc0 : 0 < c := by omega
   have hkc : k + c ≤ n := by omega
   have HK := Lib.hid (rowR_put (z := z) hkc)
   have HLn := Lib.hid (show k + (List.replicate c (Value.int .i64 z)).length ≤ (rowR z n k).length by rw [rowR_length (z := z) hk, List.length_replicate]; exact hkc)
   have HMin := Lib.hid (show (List.replicate c (Value.int .i64 z)).length = Nat.min k (n - k) by rw [List.length_replicate, hc])
   have HC1 := Lib.hid (show ∀ v ∈ List.replicate c (Value.int .i64 z), v.oneCell' = true from fun v hv => by rw [List.eq_of_mem_replicate hv]; rfl)
   have HSrc := Lib.hid (show ∀ W : World, W.heap[b]? = some (.cells (rowR z n k).toArray 3 (0, 0)) → ∀ (j : Nat) (v : Value), (List.replicate c (Value.int .i64 z))[j]? = some v → W.cell? ((⟨b, 0, none⟩ : Addr).add j) = some v from fun W hW j v hj => by
    have hjc : j < c := by have := (List.getElem?_eq_some_iff.1 hj).1; rw [List.length_replicate] at this; exact this
    rw [List.getElem?_replicate, if_pos hjc] at hj
    rw [Base.add_plain, ← hj, ← rowR_at (z := z) (n := n) (k := k) (i := j) (by omega)]
    unfold World.cell?
    rw [show W.heap[(⟨b, j, none⟩ : Addr).block]? = _ from hW]
    simp)
   obtain ⟨X, hX⟩ : ∃ X, X = List.replicate c (Value.int .i64 z) := ⟨_, rfl⟩
   have HX := Lib.hid (show X.length = c by rw [hX, List.length_replicate])
   rw [← hX] at HK HLn HMin HC1 HSrc
   clear hX
   have HBz2 := Lib.hid (show w.heap.size ≤ b from by have := HBz.out; omega)
   have hknI : (k : Int) < (n : Int) := by omega
   have hknE : (k : Int) ≤ (n : Int) := by omega
   have hkne : ¬ n = k := by omega
   have hwrap : IntKind.i64.wrap ((k : Int) + (c : Int)) = ((k + c : Nat) : Int) := by rw [IntKind.wrap_i64]; omega
   clear hc
   go_upto_region 9 with fail
   refine wp_region_noPanic ?_
   refine wp_region_held_drew (S := fun _ => True) (by kernel_rfl) trivial (fun hHeld => ?_)
   refine wpAnyH_take (i := 0) (v := ?_) rfl (by kernel_rfl) (by kernel_rfl) (by kernel_rfl) (fun _ _ _ h => h) (Or.inl ⟨by rfl, ?_⟩) (by assumption) ?_
   rotate_left
   ·(intro w' hS; (try dsimp only at hS); go_simp; try with_reducible rfl)
   try simp only [Act.put, List.getElem_toArray, List.getElem_cons_succ, List.getElem_cons_zero, List.setIfInBounds_toArray, List.set_cons_zero, List.set_cons_succ]
   refine wpAnyH_take (i := 1) (v := ?_) rfl (by kernel_rfl) (by kernel_rfl) (by kernel_rfl) (fun _ _ _ h => h) (Or.inl ⟨by rfl, ?_⟩) (by assumption) ?_
   rotate_left
   ·(intro w' hS; (try dsimp only at hS); go_simp; try with_reducible rfl)
   try simp only [Act.put, List.getElem_toArray, List.getElem_cons_succ, List.getElem_cons_zero, List.setIfInBounds_toArray, List.set_cons_zero, List.set_cons_succ]
   refine wpAnyH_take (i := 2) (v := ?_) rfl (by kernel_rfl) (by kernel_rfl) (by kernel_rfl) (fun _ _ _ h => h) (Or.inl ⟨by rfl, ?_⟩) (by assumption) ?_
   rotate_left
   ·(intro w' hS; (try dsimp only at hS); go_simp; try with_reducible rfl)
   try simp only [Act.put, List.getElem_toArray, List.getElem_cons_succ, List.getElem_cons_zero, List.setIfInBounds_toArray, List.set_cons_zero, List.set_cons_succ]
   refine wpAnyH_take (i := 3) (v := ?_) rfl (by kernel_rfl) (by kernel_rfl) (by kernel_rfl) (fun _ _ _ h => h) (Or.inl ⟨by rfl, ?_⟩) (by assumption) ?_
   rotate_left
   ·(intro w' hS; (try dsimp only at hS); go_simp; try with_reducible rfl)
   try simp only [Act.put, List.getElem_toArray, List.getElem_cons_succ, List.getElem_cons_zero, List.setIfInBounds_toArray, List.set_cons_zero, List.set_cons_succ]
   refine wpAnyH_take (i := 4) (v := ?_) rfl (by kernel_rfl) (by kernel_rfl) (by kernel_rfl) (fun _ _ _ h => h) (Or.inl ⟨by rfl, ?_⟩) (by assumption) ?_
   rotate_left
   ·(intro w' hS; (try dsimp only at hS); go_simp; try with_reducible rfl)
   try simp only [Act.put, List.getElem_toArray, List.getElem_cons_succ, List.getElem_cons_zero, List.setIfInBounds_toArray, List.set_cons_zero, List.set_cons_succ]
   refine wpAnyH_take (i := 5) (v := ?_) rfl (by kernel_rfl) (by kernel_rfl) (by kernel_rfl) (fun _ _ _ h => h) (Or.inl ⟨by rfl, ?_⟩) (by assumption) ?_
   rotate_left
   ·(intro w' hS; (try dsimp only at hS); go_simp; try with_reducible rfl)
   try simp only [Act.put, List.getElem_toArray, List.getElem_cons_succ, List.getElem_cons_zero, List.setIfInBounds_toArray, List.set_cons_zero, List.set_cons_succ]
   refine wpAnyH_take (i := 6) (v := ?_) rfl (by kernel_rfl) (by kernel_rfl) (by kernel_rfl) (fun _ _ _ h => h) (Or.inl ⟨by rfl, ?_⟩) (by assumption) ?_
   rotate_left
   ·(intro w' hS; (try dsimp only at hS); go_simp; try with_reducible rfl)
   try simp only [Act.put, List.getElem_toArray, List.getElem_cons_succ, List.getElem_cons_zero, List.setIfInBounds_toArray, List.set_cons_zero, List.set_cons_succ]
   refine wpAnyH_ready (rs := [7]) (by kernel_rfl) (by simp) ?_
   refine AllReadyH.cons rfl (fun K hK => ?_) AllReadyH.nil
   refine step_copy_splice (by rfl) (.tmp 41) (.tmp 44) 22 22 (by rfl) 3 Tryz.underlying22 HS.out (some ⟨b, k, none⟩) (some ⟨b, 0, none⟩) (n - k) _ k _ (by rfl) (by rfl) b k (rowR z n k) 3 HH.out X HMin.out (fun _ => ⟨rfl, ⟨b, 0, none⟩, rfl, HSrc.out wr.drew HH.out⟩) HLn.out HC1.out w.heap.size w HB.out.drew HBz2.out ?_
   intro w4 HH4 hb4
   rw [HK.out] at HH4
   rw [HX.out]
   have HB4 := Lib.hid hb4
   clear hb4 HSrc HC1 HMin HLn HK HX HH HB
   refine hK.out _ _ trivial (fun hHeld => ?_)
   clear hK K
   try simp only [Act.put, List.getElem_toArray, List.getElem_cons_succ, List.getElem_cons_zero, List.setIfInBounds_toArray, List.set_cons_zero, List.set_cons_succ]
   refine wpAnyH_take (i := 8) (v := ?_) rfl (by kernel_rfl) (by kernel_rfl) (by kernel_rfl) (fun _ _ _ h => h) (Or.inl ⟨by rfl, ?_⟩) (by assumption) ?_
   rotate_left
   ·(intro w' hS; (try dsimp only at hS); go_simp; try with_reducible rfl)
   try simp only [Act.put, List.getElem_toArray, List.getElem_cons_succ, List.getElem_cons_zero, List.setIfInBounds_toArray, List.set_cons_zero, List.set_cons_succ]
   refine wpAnyH_take (i := 9) (v := ?_) rfl (by kernel_rfl) (by kernel_rfl) (by kernel_rfl) (fun _ _ _ h => h) (Or.inl ⟨by rfl, ?_⟩) (by assumption) ?_
   rotate_left
   ·(intro w' hS; (try dsimp only at hS); go_simp; try with_reducible rfl)
   try simp only [Act.put, List.getElem_toArray, List.getElem_cons_succ, List.getElem_cons_zero, List.setIfInBounds_toArray, List.set_cons_zero, List.set_cons_succ]
   refine wpAnyH_done (by kernel_rfl) ?_ _
   refine NoPanic.normal ?_
   clear hHeld
   go_wp2
   go_roundw
   case rel => exact ⟨k + c, by omega, hkc, by go_num, HH4, HB4⟩
   case measure => (simp [intOf] <;> omega)
  ·obtain rfl : k = n := by omega
   have HF := Lib.hid (show RepP z k w (.returned (.slice (some ⟨b, 0, none⟩) k k)) wr from ⟨b, rfl, by
    unfold NumR
    rw [← rowR_all]
    exact rep_own (by have := HBz.out; omega) (rowR_length (Nat.le_refl _)) (by omega) HH.out, HB.out⟩)
   clear HH HB
   go_wp2
   go_ret
   exact HF.out
end Go.Proofs.YtmajllgfmclcoaaGreat.Rpt

namespace Go.Proofs.YtmajllgfmclcoaaGreat.Cor
set_option linter.unusedVariables false
set_option linter.unusedSimpArgs false
set_option maxRecDepth 100000
open Go.RowKit Go.Proofs.YtmajllgfmclcoaaGreat.Pure Go.Proofs.YtmajllgfmclcoaaGreat.Dms Go.Proofs.YtmajllgfmclcoaaGreat.Til Go.Proofs.YtmajllgfmclcoaaGreat.Hgt Go.Joins
open Go.Proofs.YtmajllgfmclcoaaGreat.Cels (rowC RowC rowC_own rowC_at)
open Go.Proofs.YtmajllgfmclcoaaGreat.Reg (ints RowIn rowIn_new Apart apart_of_below RowB)
open Go.Proofs.YtmajllgfmclcoaaGreat.Flo (simB iIsSimple)
open Go.Proofs.YtmajllgfmclcoaaGreat.Rpt (iRepeat rep_heap rep_own)

theorem rowF_ints (z : Int) (n : Nat) : Wg.rowF n (fun _ => z) = ints (List.replicate n z) := by
 unfold Wg.rowF Reg.ints
 simp [List.map_const']
theorem cell_cor (w : World) (x y : Int) (W : World) (e : W = (w.alloc (.cells #[.int .i64 x, .int .i64 y] 60)).alloc (.cells #[.int .i64 x, .int .i64 y] 82)) : AtC W (w.heap.size + 1) x y ∧ Below w.heap.size w W := by
 subst e
 refine ⟨?_, below_alloc2 w _ _⟩
 have k := AtC.new (w.alloc (.cells #[.int .i64 x, .int .i64 y] 60)) x y
 simpa using k
set_option maxHeartbeats 4000000 in
theorem iHeightsOf (w : World) (A : Option Addr) (n cap B : Nat) (xs : List Int) (hx : xs.length = n) (hn : (n : Int) ≤ 9223372036854775807) (h : RowB w B A xs) (hB : B ≤ w.heap.size)
  (A' : Option Addr) (n' cap' B' : Nat) (L : List Dm) (hL : L.length = n') (hn' : (n' : Int) ≤ 9223372036854775807) (hf : Fits L) (h' : RowM w B' A' L) (hB' : B' ≤ w.heap.size) (hcap : n' ≤ cap') :
  Calls Tryz.prog 46 #[.agg #[.slice A n cap], .slice A' n' cap'] w (HgtP xs L w) := by
 have HS := Lib.hid (r1_start w (.slice A n cap))
 have HSim := Lib.hid (fun W (hb : Below w.heap.size w W) => iIsSimple W A n cap B xs hx hn (h.below hb hB) (by have := hb.size; omega))
 have HTil := Lib.hid (fun W (hb : Below w.heap.size w W) => iIsTiling W A n cap B xs hx hn (h.below hb hB) (by have := hb.size; omega) A' n' cap' B' L hL hn' hf (h'.below hb hB') (by have := hb.size; omega) hcap)
 have HCl := Lib.hid (fun W (hb : Below w.heap.size w W) => Reg.iCellsOf W A n cap B xs hx hn (h.below hb hB) (by have := hb.size; omega))
 have HSp := Lib.hid (fun (ht : tilB xs L = true) (F : Nat → Int) hF W b v (hb : Below w.heap.size w W) (hbb : w.heap.size ≤ b) (k : List Int) x y hv hs hst hH ex ey => iSpread A' n' cap' xs L hL hn' hf ht F hF (unH k) W b v k x y (Nat.le_refl _) hv hs hst hH ((h'.below hb hB').mono (by omega)) ex ey)
 clear hx hn h hB hL hn' h' hB' hf hcap
 go_enter Tryz.func46, Tryz.ntmps46
 go_wp2_with fail
 refine (HSim.out _ HS.out.1).mono ?_
 rintro e w1 ⟨rfl, hb1⟩
 have S1 := HS.out.on hb1
 have c0 := S1.2.c0
 clear HS hb1 HSim
 have HEm := Lib.hid (fun (hno : ¬ (simB xs = true ∧ tilB xs L = true)) W (hb : Below w.heap.size w W) => show HgtP xs L w (.returned (.slice none 0 0)) W from
  ⟨[], none, 0, 0, .inr ⟨hno, rfl⟩, rfl, rfl, ⟨rfl, .inl ⟨rfl, rfl⟩⟩, hb⟩)
 cases hs : simB xs with
 | false =>
  have HE := HEm.out (by rw [hs]; simp)
  clear HEm hs
  go_wp2
  go_ret
  exact HE _ S1.1
 | true =>
  go_wp2_with fail
  refine (HTil.out _ S1.1).mono ?_
  rintro e w2 ⟨rfl, hb2⟩
  have S2 := S1.on hb2
  have c0 := S2.2.c0
  clear S1 hb2 HTil
  cases ht : tilB xs L with
  | false =>
   have HE := HEm.out (by rw [ht]; simp)
   clear HEm hs ht
   go_wp2
   go_ret
   exact HE _ S2.1
  | true =>
   clear HEm
   obtain ⟨ok, hp1, hone⟩ := sim_parts hs
   obtain ⟨f, hf⟩ := hts_ex hs ht
   obtain ⟨cx0, cy0, hcell⟩ := cell_ex ok hp1
   obtain ⟨hl1, hl2, hl3⟩ := lc_ex hcell
   obtain ⟨x, y, t, hcs⟩ : ∃ x y t, cellsR xs = (x, y) :: t := by
    have hm := mem_cells.2 hcell
    cases q : cellsR xs with
    | nil => rw [q] at hm; cases hm
    | cons c t => exact ⟨c.1, c.2, t, rfl⟩
   obtain ⟨hrg, hlc⟩ := first_lc ok hcs
   rw [hcs] at HCl
   have hv_x : x = ((lc xs % 9 : Nat) : Int) := by omega
   have hv_y : y = ((lc xs / 9 : Nat) : Int) := by omega
   have HIx := Lib.hid (fun W => iIndexN (lc xs) hl1 hv_x hv_y W)
   have HSpr := Lib.hid (fun W b (hb : Below w.heap.size w W) (hbb : w.heap.size ≤ b) (hH : Hw W b (row0 xs)) => HSp.out ht (hv xs f) (hv_step hf) W b (lc xs) hb hbb (row0 xs) x y hl1 (row0_hs hl1 hl2 (hv_zero xs f)) ((row0_st hl1).2 rfl) hH hv_x hv_y)
   have HFn := Lib.hid (fun (h : List Int) (s : Sx xs (xL L) (yL L) (hv xs f) (row0 xs) h (lc xs)) => show hgtR xs L h ∧ h.length = 81 from ⟨.inl ⟨hs, s.row ok hp1 ht hf hl1 hl2⟩, s.hs.len⟩)
   have H0 := Lib.hid (show (List.replicate 81 (-1000 : Int)).set (lc xs) 0 = row0 xs from rfl)
   have hcI : ((lc xs : Nat) : Int) < 81 := by omega
   have HL1 := Lib.hid hl1
   clear HSp hcell hl3 hl2 hs ht hone hf hp1 ok hcs hlc hrg hv_x hv_y hl1
   generalize row0 xs = h0 at HSpr HFn H0
   generalize lc xs = c at HIx HSpr HFn H0 hcI HL1
   go_upto_region 3 with fail
   have hba := below_alloc1 w2 (.cells #[.int .i64 (-1000)] 3)
   have hw2 : w.heap.size < w2.heap.size := (Array.getElem?_eq_some_iff.1 S2.2).1
   go_wp2_with fail
   refine (iRepeat (-1000) _ w2.heap.size 81 (by omega) (by omega) (by simp) (by simp)).mono ?_
   rintro e w3 ⟨b, rfl, hnum, hb3⟩
   have hH3 : Hw w3 b (List.replicate 81 (-1000)) := by
    have := rep_heap hnum
    rw [rowF_ints] at this
    exact this
   have hbb : w2.heap.size < b := by have := hnum.lt.1; simp at this; omega
   have S3 := S2.on (hba.trans (hb3.mono (by simp)))
   clear hnum hb3 hba S2 c0
   have c0 := S3.2.c0
   have hwb : w.heap.size < b := by omega
   go_wp2_with fail
   refine (HCl.out w3 S3.1).mono ?_
   rintro e w4 ⟨A2, cap2, rfl, hown, hb4⟩
   have S4 := S3.on hb4
   have hH4 := hH3.on hb4
   have hrc := rowC_own hown
   obtain ⟨bc, off, hA2, hcc⟩ := hrc
   obtain ⟨rfl, hbc⟩ := hA2 (by simp)
   obtain ⟨d0, d1⟩ := hcc 0 (x, y) rfl
   simp only [Nat.zero_mul, Nat.add_zero] at d0 d1
   have hlI : (0 : Int) < (((x, y) :: t).length : Int) := by rw [List.length_cons]; omega
   generalize ((x, y) :: t).length = m at hlI ⊢
   clear hown hb4 hcc hA2 S3 hH3 c0
   go_upto_region 6 with fail
   obtain ⟨k1, k2⟩ := cell_cor w4 x y _ rfl
   have S5 := S4.1.trans (k2.mono S4.1.size)
   have hH5 := hH4.on k2
   have hq5 : b < w4.heap.size := hH4.lt
   generalize (w4.alloc (.cells #[.int .i64 x, .int .i64 y] 60)).alloc (.cells #[.int .i64 x, .int .i64 y] 82) = w5 at k1 S5 hH5 ⊢
   have hqc : b ≠ w4.heap.size + 1 := by omega
   generalize w4.heap.size + 1 = qc at k1 hqc ⊢
   clear S4 hH4 k2 d0 d1
   have d0 := k1.c0
   have d1 := k1.c1
   go_wp2_with fail
   refine (HIx.out w5).mono ?_
   rintro e w6 ⟨rfl, hb6⟩
   have k1 := k1.on hb6
   have S6 := S5.trans (hb6.mono S5.size)
   have hH6 := hH5.on hb6
   clear hb6 S5 hH5 d0 d1
   have d0 := k1.c0
   have d1 := k1.c1
   have hz := hH6.cell (v := c) (x := -1000) (by rw [List.getElem?_replicate, if_pos HL1.out])
   have hzf := hH6.frozen c
   go_upto_region 7 with fail
   have hH7 := hH6.set (v := c) (by rw [List.length_replicate]; exact HL1.out) 0
   rw [H0.out] at hH7
   have k1 := k1.far (p := b) (i := c) (v := .int .i64 0) hqc.symm
   have S7 := S6.setCell (p := ⟨b, c, none⟩) (by show w.heap.size ≤ b; omega) (.int .i64 0)
   clear d0 d1 S6 hH6 hz hzf
   generalize w6.setCell ⟨b, c, none⟩ (.int .i64 0) = w7 at hH7 k1 S7 ⊢
   have d0 := k1.c0
   have d1 := k1.c1
   go_wp2_with fail
   refine (HSpr.out w7 b S7 (by omega) hH7).mono ?_
   rintro e w8 ⟨rfl, h', hs', hH8, ha⟩
   have HF := Lib.hid (HFn.out h' hs')
   have HO := Lib.hid (rep_own (base := w.heap.size) (b := b) (n := 81) (xs := ints h') (by omega) (by unfold Reg.ints; rw [List.length_map]; exact HF.out.2) (by omega) hH8)
   have HB := Lib.hid (S7.trans (ha.below (B := w.heap.size) (by omega) S7.size))
   clear d0 d1 k1 S7 hH7 hs' hH8 ha
   go_wp2
   go_ret
   exact ⟨h', some ⟨b, 0, none⟩, 81, 81, HF.out.1, HF.out.2, rfl, HO.out, HB.out⟩
end Go.Proofs.YtmajllgfmclcoaaGreat.Cor

namespace Go.Proofs.YtmajllgfmclcoaaGreat.Cor
set_option linter.unusedVariables false
set_option linter.unusedSimpArgs false
set_option maxRecDepth 100000
open Go.RowKit Go.Proofs.YtmajllgfmclcoaaGreat.Hgt Go.Joins
open Go.Proofs.YtmajllgfmclcoaaGreat.Reg (ints RowB rowB_own own_below own_base)

set_option maxHeartbeats 1000000 in
theorem iEqualI (w : World) (A A' : Option Addr) (n m cap cap' : Nat) (B B' : Nat) (xs ys : List Int) (hx : xs.length = n) (hy : ys.length = m) (hl : (n : Int) ≤ 9223372036854775807) (h1 : RowB w B A xs) (h2 : RowB w B' A' ys) :
  Calls Tryz.prog 48 #[.slice A n cap, .slice A' m cap'] w fun e w' => e = .returned (.bool (decide (xs = ys))) ∧ ∃ q, w' = w.drewN q := by
 obtain ⟨b, off, hA, hc⟩ := h1
 obtain ⟨b', off', hA', hc'⟩ := h2
 by_cases hnm : n = m
 rotate_left
 ·have hne : decide (xs = ys) = false := decide_eq_false (fun e => hnm (by rw [← hx, ← hy, e]))
  rw [hne]
  have hnn : (((n : Nat) : Int) != ((m : Nat) : Int)) = true := by simp; omega
  clear hA hA' hc hc' hx hy hne
  go_enter Tryz.func48, Tryz.ntmps48
  go_wp2
  go_ret
  exact ⟨rfl, 0, rfl⟩
 subst hnm
 have H1 := Lib.hid hA
 have H2 := Lib.hid hA'
 have H3 := Lib.hid hc
 have H4 := Lib.hid hc'
 have HX := Lib.hid hx
 have HY := Lib.hid hy
 have HT : Hid (xs = ys → decide (xs = ys) = true) := Lib.hid (fun h => decide_eq_true h)
 have HF : Hid (¬ xs = ys → decide (xs = ys) = false) := Lib.hid (fun h => decide_eq_false h)
 generalize decide (xs = ys) = r at HT HF ⊢
 clear hA hA' hc hc' hx hy
 have hnn : (((n : Nat) : Int) != ((n : Nat) : Int)) = false := by simp
 go_enter Tryz.func48, Tryz.ntmps48
 go_wp2_with fail
 go_loopw [5, 13] (fun _ i wr => ∃ k : Nat, k ≤ n ∧ i = .int .i64 k ∧ Hid (xs.take k = ys.take k) ∧ ∃ q, wr = w.drewN q) (fun _ i _ => n - (intOf i).toNat)
 case atStart => exact ⟨0, Nat.zero_le _, rfl, Lib.hid rfl, 0, rfl⟩
 case round =>
  obtain ⟨k, hk, rfl, hs, q, rfl⟩ := hrel
  by_cases hlt : k < n
  ·have hkx : k < xs.length := by have := HX.out; omega
   have hky : k < ys.length := by have := HY.out; omega
   obtain ⟨rfl, _⟩ := H1.out (by omega)
   obtain ⟨rfl, _⟩ := H2.out (by omega)
   have hx := H3.out k xs[k] (List.getElem?_eq_getElem hkx)
   have hy := H4.out k ys[k] (List.getElem?_eq_getElem hky)
   have HS := Lib.hid (fun e => same_take hs.out hkx hky e)
   have HN := Lib.hid (show xs[k] ≠ ys[k] → ¬ xs = ys from fun h e => h (by subst e; rfl))
   clear hs
   generalize xs[k] = t at hx HS HN
   generalize ys[k] = u at hy HS HN
   by_cases hq : t = u
   ·subst hq
    have hq : (t != t) = false := by simp
    go_wp2_with fail
    go_quiet (fail)
    go_wp2
    go_roundw
    case rel => exact ⟨k + 1, by omega, by go_num, Lib.hid (HS.out trivial), _, by first | rfl | rw [World.drewN_drewN]⟩
    case measure => (simp [intOf] <;> omega)
   ·have hr := HF.out (HN.out hq)
    subst hr
    have hq' : (t != u) = true := by simpa using hq
    go_wp2_with fail
    go_quiet (fail)
    go_wp2
    go_ret
    exact ⟨rfl, _, by first | rfl | rw [World.drewN_drewN]⟩
  ·have hr := HT.out (by
    have e := hs.out
    rw [List.take_of_length_le (by have := HX.out; omega), List.take_of_length_le (by have := HY.out; omega)] at e
    exact e)
   subst hr
   clear hs
   go_wp2
   go_ret
   exact ⟨rfl, q, rfl⟩
end Go.Proofs.YtmajllgfmclcoaaGreat.Cor

namespace Go.Proofs.YtmajllgfmclcoaaGreat.Cor
set_option linter.unusedVariables false
set_option linter.unusedSimpArgs false
set_option maxRecDepth 100000
open Go.RowKit Go.Proofs.YtmajllgfmclcoaaGreat.Cell Go.Proofs.YtmajllgfmclcoaaGreat.Dms Go.Proofs.YtmajllgfmclcoaaGreat.Til Go.Proofs.YtmajllgfmclcoaaGreat.Hgt Go.Joins
open Go.Proofs.YtmajllgfmclcoaaGreat.Reg (ints RowB rowB_own own_below own_base)

def TfP (xs hs : List Int) (w : World) (e : Ending) (w' : World) : Prop :=
 ∃ (M : List Dm) (ok : Bool) (A : Option Addr) (n c : Nat), tfR xs hs M ok ∧ M.length = n ∧ e = .returned (.tuple #[.slice A n c, .bool ok]) ∧ w'.ownsRow w.heap.size 43 3 (.slice A n c) n (rowM M) ∧ n ≤ c ∧ Below w.heap.size w w'
theorem sort_fits (C : List Dm) : Fits (sortM C) := ok_fits (fun e he => (((sortM_good C).2 e).1 he).2)
set_option maxHeartbeats 2000000 in
theorem iTilingFrom (w : World) (A : Option Addr) (n cap B : Nat) (xs : List Int) (hx : xs.length = n) (hn : (n : Int) ≤ 9223372036854775807) (h : RowB w B A xs) (hB : B ≤ w.heap.size)
  (A' : Option Addr) (n' cap' B' : Nat) (hs : List Int) (hh : hs.length = n') (hn' : (n' : Int) ≤ 9223372036854775807) (h' : RowB w B' A' hs) (hB' : B' ≤ w.heap.size)
  (iSort : ∀ (W : World) (A1 : Option Addr) (n c : Nat) (L : List Dm), L.length = n → (n : Int) ≤ 1048576 → Fits L → RowM W W.heap.size A1 L → Calls Tryz.prog 71 #[.slice A1 n c] W (DmPost (sortM L) (sortM L).length W)) :
  Calls Tryz.prog 31 #[.agg #[.slice A n cap], .slice A' n' cap'] w (TfP xs hs w) := by
 have HS := Lib.hid (r1_start w (.slice A n cap))
 have HNo := Lib.hid (fun W (hb : Below w.heap.size w W) (ht : tfR xs hs [] false) => show TfP xs hs w (.returned (.tuple #[.slice none 0 0, .bool false])) W from ⟨[], false, none, 0, 0, ht, rfl, rfl, ⟨rfl, .inl ⟨rfl, rfl⟩⟩, Nat.le_refl _, hb⟩)
 by_cases h81 : n' = 81
 rotate_left
 ·have hne : ((n' : Int) != 81) = true := by simp; omega
  have HT := Lib.hid (tf_short (xs := xs) (hs := hs) (by rw [hh]; exact h81))
  clear hx hn h hB hh hn' h' hB' iSort h81
  go_enter Tryz.func31, Tryz.ntmps31
  go_wp2
  exact bodyPost_ret (v := .tuple #[.slice none 0 0, .bool false]) (by simp [results, Tryz.results31, go_sem]) rfl (HNo.out _ HS.out.1 HT.out)
 ·subst h81
  have HDv := Lib.hid (fun W (hb : Below w.heap.size w W) => iDivided W A' cap' B' hs hh (h'.below hb hB') (by have := hb.size; omega) A n cap B xs hx hn (h.below hb hB) (by have := hb.size; omega) iSort)
  have HHg := Lib.hid (fun W (hb : Below w.heap.size w W) A1 m c1 (L : List Dm) (hL : L.length = m) (hm : m ≤ 1000000) hf (hr : RowM W W.heap.size A1 L) hcp => iHeightsOf W A n cap B xs hx hn (h.below hb hB) (by have := hb.size; omega) A1 m c1 W.heap.size L hL (by omega) hf hr (Nat.le_refl _) hcp)
  have HEq := Lib.hid (fun W (hb : Below w.heap.size w W) A1 m c1 (ys : List Int) (hy : ys.length = m) (hm : m ≤ 1000000) (hr : RowB W W.heap.size A1 ys) => iEqualI W A1 A' m 81 c1 cap' W.heap.size B' ys hs hy hh (by omega) hr (h'.below hb hB'))
  have HYs := Lib.hid (fun M h (hr : hgtR xs M h) (e : h = hs) => tf_yes (xs := xs) (hs := hs) (M := M) hh hr e)
  clear hx hn h hB hh hn' h' hB' iSort
  go_enter Tryz.func31, Tryz.ntmps31
  go_wp2_with fail
  have c0 := HS.out.2.c0
  refine (HDv.out _ HS.out.1).mono ?_
  rintro e w2 ⟨C, hC, hCl, A2, c2, rfl, hle, hown, hb2⟩
  have hbz := HS.out.1.size
  have S2 := HS.out.on hb2
  have HC := Lib.hid hC
  have HO2 := Lib.hid hown
  have HB2 := Lib.hid hb2
  have HF2 := Lib.hid (sort_fits C)
  have HLe := Lib.hid hle
  clear hC hown hle HS HDv c0
  obtain ⟨M, hM⟩ : ∃ M, sortM C = M := ⟨_, rfl⟩
  have HM := Lib.hid hM
  rw [hM] at HO2 HF2 HLe ⊢
  have hml : M.length ≤ 1000000 := by rw [← hM]; have := sortM_length C; omega
  obtain ⟨m, hm⟩ : ∃ m, M.length = m := ⟨_, rfl⟩
  have HMl := Lib.hid hm
  rw [hm] at HO2 HLe hml ⊢
  clear hM hm hb2 hCl
  have c0 := S2.2.c0
  go_wp2_with fail
  refine (HHg.out _ S2.1 _ _ _ M HMl.out hml HF2.out (rowM_own HO2.out) HLe.out).mono ?_
  rintro e w3 ⟨h3, A3, n3, c3, hr3, hl3, rfl, hown3, hb3⟩
  have S3 := S2.on hb3
  have HR3 := Lib.hid hr3
  have h3l : n3 ≤ 1000000 := by have := hgtR_len hr3; omega
  have HE3 := Lib.hid (HEq.out w3 S3.1 A3 n3 c3 h3 hl3 h3l (rowB_own hown3))
  have HO3 := Lib.hid (own_base (own_below HO2.out hb3 (Nat.le_refl _)) hbz)
  clear hr3 hl3 hown3 hb3 S2 c0 HO2
  have HRM := Lib.hid (show ∀ M', M' = M → True from fun _ _ => trivial)
  clear HRM
  go_wp2_with fail
  refine HE3.out.mono ?_
  rintro e w4 ⟨rfl, q, rfl⟩
  have HB4 := Lib.hid (drewBelow S3.1 q)
  have HO4 := Lib.hid (show (w3.drewN q).ownsRow w.heap.size 43 3 (.slice A2 m c2) m (rowM M) from own_below HO3.out (drewBelow (Below.refl _ _) q) (Nat.le_refl _))
  clear S3 HE3 HEq HHg hbz
  by_cases hq : h3 = hs
  ·have HTy := Lib.hid (HYs.out M h3 HR3.out hq)
   rw [decide_eq_true hq]
   clear hq HYs
   go_wp2
   exact bodyPost_ret (v := .tuple #[.slice A2 m c2, .bool true]) (by simp [results, Tryz.results31, go_sem]) rfl ⟨M, true, A2, m, c2, HTy.out, HMl.out, rfl, HO4.out, HLe.out, HB4.out⟩
  ·have HTn := Lib.hid (tf_no HC.out (by rw [HM.out]; exact HR3.out) hq)
   rw [decide_eq_false hq]
   clear hq HYs
   go_wp2
   exact bodyPost_ret (v := .tuple #[.slice none 0 0, .bool false]) (by simp [results, Tryz.results31, go_sem]) rfl (HNo.out _ HB4.out HTn.out)
end Go.Proofs.YtmajllgfmclcoaaGreat.Cor
