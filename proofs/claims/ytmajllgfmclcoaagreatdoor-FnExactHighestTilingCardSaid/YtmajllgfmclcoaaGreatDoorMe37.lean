/- Rpt in one text. -/
import Derived.Test.YtmajllgfmclcoaaGreatDoorMe36
import Derived.Test.YtmajllgfmclcoaaGreatDoorSrti
import Derived.Laws.CopyOwn
import Derived.Deep.LoopGhost
import Derived.Deep.RegionHeld3
import Derived.Deep.Cut
import Derived.Lib.Hide
import Derived.Lib.SmallJoins
import Derived.OwnWalk
import Derived.Laws.OwnMore

namespace Go.Proofs.YtmajllgfmclcoaaGreatDoor.Rpt
set_option linter.unusedVariables false
set_option linter.unusedSimpArgs false
set_option maxRecDepth 100000
open Go.RowKit Go.Proofs.YtmajllgfmclcoaaGreatDoor.Base Go.Proofs.YtmajllgfmclcoaaGreatDoor.Wg Go.Joins
open Go.Proofs.YtmajllgfmclcoaaGreatDoor.Reg (own_below own_base intInfo)

theorem iMul1 (n : Nat) (hn : n ≤ 2000000) (w : World) : Calls Tryz.prog 117 #[.int .u64 1, .int .u64 (n : Int)] w fun e w' => e = .returned (.tuple #[.int .u64 0, .int .u64 (n : Int)]) ∧ w' = w := by
 have h := Any.bits_Mul Tryz.mulU 1 n (by omega) (by omega) w
 rw [Nat.one_mul, Nat.div_eq_of_lt (by omega), Nat.mod_eq_of_lt (by omega)] at h
 exact h
def rowR (z : Int) (n k : Nat) : List Value := List.replicate k (.int .i64 z) ++ List.replicate (n - k) (.int .i64 0)
theorem rowR_length {z : Int} {n k : Nat} (h : k ≤ n) : (rowR z n k).length = n := by unfold rowR; rw [List.length_append, List.length_replicate, List.length_replicate]; omega
theorem rowR_at {z : Int} {n k i : Nat} (h : i < k) : (rowR z n k)[i]? = some (.int .i64 z) := by unfold rowR; rw [List.getElem?_append_left (by rw [List.length_replicate]; exact h), List.getElem?_replicate, if_pos h]
theorem rowR_put {z : Int} {n k c : Nat} (h : k + c ≤ n) : splice (rowR z n k) k (List.replicate c (.int .i64 z)) = rowR z n (k + c) := by
 unfold splice rowR
 rw [List.take_append_of_le_length (by simp), List.take_of_length_le (by simp), List.length_replicate, List.drop_append, List.drop_eq_nil_of_le (by simp), List.nil_append, List.length_replicate, show k + c - k = c by omega, List.drop_replicate, ← List.append_assoc, List.replicate_append_replicate, show n - k - c = n - (k + c) by omega]
theorem rowR_all (z : Int) (n : Nat) : rowR z n n = rowF n (fun _ => z) := by
 unfold rowR rowF
 rw [Nat.sub_self, List.replicate_zero, List.append_nil, List.map_const', List.length_range]
theorem rep_heap {W : World} {base b n : Nat} {xs : List Value} (h : W.ownsRow base 3 1 (.slice (some ⟨b, 0, none⟩) n n) n xs) : W.heap[b]? = some (.cells xs.toArray 3 (0, 0)) := by
 rcases h.2 with ⟨h', _⟩ | ⟨g', cap', cur, h', _, hg, hsz, hz2, hcs, htake⟩
 ·simp at h'
 ·simp only [Value.slice.injEq, Option.some.injEq, Addr.mk.injEq, and_true, true_and] at h'
  obtain ⟨rfl, rfl⟩ := h'
  rw [hg, ← htake, Nat.mul_one, List.take_of_length_le (by rw [Array.length_toList]; omega)]
theorem rep_own {W : World} {base b n : Nat} {xs : List Value} (hb : base ≤ b) (hl : xs.length = n) (hn : n ≤ 2000000) (h : W.heap[b]? = some (.cells xs.toArray 3 (0, 0))) : W.ownsRow base 3 1 (.slice (some ⟨b, 0, none⟩) n n) n xs :=
 ⟨by rw [hl, Nat.mul_one], .inr ⟨b, n, xs.toArray, rfl, hb, h, Nat.le_refl _, by unfold maxLen; omega, by simp [hl], by rw [Nat.mul_one, List.take_of_length_le (by simp [hl])]⟩⟩
theorem ints_size : (Tryz.prog.info? 3).map (·.size) = some 1 := by kernel_rfl
def RepP (z : Int) (n : Nat) (w : World) (e : Ending) (w' : World) : Prop := ∃ b, e = .returned (.slice (some ⟨b, 0, none⟩) n n) ∧ NumR w' w.heap.size b n (fun _ => z) ∧ Below w.heap.size w w'
set_option maxHeartbeats 4000000 in
theorem iRepeat (z : Int) (w : World) (g n : Nat) (h1 : 0 < n) (hn : n ≤ 300) (hg : g < w.heap.size) (hc : w.cell? ⟨g, 0, none⟩ = some (.int .i64 z)) :
  Calls Tryz.prog 81 #[.slice (some ⟨g, 0, none⟩) 1 1, .int .i64 (n : Int)] w (RepP z n w) := by
 obtain ⟨i0, hi, hz0, hz1, hz2⟩ := info_parts intInfo
 have HMu := Lib.hid (fun w => iMul1 n (by omega) w)
 have hwu : IntKind.u64.wrap (n : Int) = (n : Int) := by rw [IntKind.wrap_u64]; omega
 have hwi : IntKind.i64.wrap (n : Int) = (n : Int) := by rw [IntKind.wrap_i64]; omega
 have hneg : ¬ (n : Int) < 0 := by omega
 have hmax : ¬ (9223372036854775807 : Int) < (n : Int) := by omega
 have HS := Lib.hid ints_size
 have HG := Lib.hid hg
 have HC := Lib.hid hc
 clear hg hc
 go_enter Tryz.func81, Tryz.ntmps81
 go_wp2_with fail
 refine (HMu.out _).mono ?_
 rintro e w1 ⟨rfl, hw1⟩
 have hw1 := hw1.symm
 subst hw1
 clear HMu
 have HZ := Lib.hid (show (madeCells (Value.int .i64 0).cells (n * 1)).toList = rowR z n 0 by
  rw [show (Value.int .i64 0).cells = #[.int .i64 0] from rfl, Nat.mul_one, toList_madeCells_one]; unfold rowR; simp)
 go_upto_region 7 with (at_make; go_loud (refine wpList_make_full _ rfl _ _ 24 rfl w.heap.size 3 i0 (.int .i64 0) 1 Tryz.underlying24 hi hz0 hz1 .i64 .i64 (n : Int) (n : Int) n rfl rfl rfl rfl (by rw [hz2]; omega) (by unfold maxLen; omega) (by omega) ?_; intro w2 hown2 hg2))
 have HB2 := Lib.hid (show Below w.heap.size w w2 from (Below.refl _ _).grown hg2 (by omega) (by simp))
 rw [HZ.out] at hown2
 have HH2 := Lib.hid (rep_heap hown2)
 clear hown2 hg2 HZ
 have HC2 := Lib.hid (show w2.cell? ⟨g, 0, none⟩ = some (.int .i64 z) from (HB2.out.cell (p := ⟨g, 0, none⟩) HG.out).trans HC.out)
 obtain ⟨b, hbz⟩ : ∃ b, w.heap.size = b := ⟨_, rfl⟩
 rw [hbz] at HH2 ⊢
 have HBz := Lib.hid hbz
 clear hbz hwu hwi
 have hone : ((1 : Nat) : Int) = 1 := rfl
 have HSrc := Lib.hid (show ∀ (j : Nat) (v : Value), [Value.int .i64 z][j]? = some v → w2.cell? ((⟨g, 0, none⟩ : Addr).add j) = some v from fun j v hj => by
  rcases j with _ | j
  ·simp at hj; subst hj; rw [Base.add_plain]; exact HC2.out
  ·simp at hj)
 have HP := Lib.hid (show splice (rowR z n 0) 0 [Value.int .i64 z] = rowR z n (0 + 1) from rowR_put (z := z) (c := 1) (by omega))
 have HLn := Lib.hid (rowR_length (z := z) (n := n) (k := 0) (Nat.zero_le _))
 have HMin := Lib.hid (show [Value.int .i64 z].length = Nat.min 1 n from (Nat.min_eq_left (show 1 ≤ n from h1)).symm)
 go_wp2_with ((with_reducible change wpList _ _ _ (_ :: _) _ _); (refine wpList_copy_splice rfl _ _ 24 24 rfl 3 Tryz.underlying24 HS.out (some ⟨b, 0, none⟩) (some ⟨g, 0, none⟩) n n 1 1 rfl rfl b 0 (rowR z n 0) 3 HH2.out [.int .i64 z] HMin.out (fun _ => ⟨rfl, ⟨g, 0, none⟩, rfl, HSrc.out⟩) (by rw [HLn.out]; show 0 + 1 ≤ n; omega) (by simp [Value.oneCell']) w.heap.size w HB2.out (by have := HBz.out; omega) ?_; intro w3 HH3 hb3))
 rw [HP.out] at HH3
 have HB3 := Lib.hid hb3
 clear hb3 HH2 HSrc HP HLn HMin HC2 HB2 HC HG
 go_loopw [8] (fun v wr => ∃ k : Nat, 0 < k ∧ k ≤ n ∧ v = .int .i64 k ∧ Hid (wr.heap[b]? = some (.cells (rowR z n k).toArray 3 (0, 0))) ∧ Hid (Below w.heap.size w wr)) (fun v _ => n - (intOf v).toNat)
 case atStart => exact ⟨0 + 1, by omega, by omega, rfl, HH3, HB3⟩
 case round =>
  clear HH3 HB3
  obtain ⟨k, hk0, hk, rfl, HH, HB⟩ := hrel
  by_cases hlt : k < n
  ·obtain ⟨c, hc⟩ : ∃ c, c = min k (n - k) := ⟨_, rfl⟩
   have hc0 : 0 < c := by omega
   have hkc : k + c ≤ n := by omega
   have HK := Lib.hid (rowR_put (z := z) hkc)
   have HLn := Lib.hid (show k + (List.replicate c (Value.int .i64 z)).length ≤ (rowR z n k).length by rw [rowR_length (z := z) hk, List.length_replicate]; exact hkc)
   have HMin := Lib.hid (show (List.replicate c (Value.int .i64 z)).length = Nat.min k (n - k) by rw [List.length_replicate, hc])
   have HC1 := Lib.hid (show ∀ v ∈ List.replicate c (Value.int .i64 z), v.oneCell' = true from fun v hv => by rw [List.eq_of_mem_replicate hv]; rfl)
   have HSrc := Lib.hid (show ∀ W : World, W.heap[b]? = some (.cells (rowR z n k).toArray 3 (0, 0)) → ∀ (j : Nat) (v : Value), (List.replicate c (Value.int .i64 z))[j]? = some v → W.cell? ((⟨b, 0, none⟩ : Addr).add j) = some v from fun W hW j v hj => by
    have hjc : j < c := by have := (List.getElem?_eq_some_iff.1 hj).1; rw [List.length_replicate] at this; exact this
    rw [List.getElem?_replicate, if_pos hjc] at hj
    rw [Base.add_plain, ← hj, ← rowR_at (z := z) (n := n) (k := k) (i := j) (by omega)]
    unfold World.cell?
    rw [show W.heap[(⟨b, j, none⟩ : Addr).block]? = _ from hW]
    simp)
   obtain ⟨X, hX⟩ : ∃ X, X = List.replicate c (Value.int .i64 z) := ⟨_, rfl⟩
   have HX := Lib.hid (show X.length = c by rw [hX, List.length_replicate])
   rw [← hX] at HK HLn HMin HC1 HSrc
   clear hX
   have HBz2 := Lib.hid (show w.heap.size ≤ b from by have := HBz.out; omega)
   have hknI : (k : Int) < (n : Int) := by omega
   have hknE : (k : Int) ≤ (n : Int) := by omega
   have hkne : ¬ n = k := by omega
   have hwrap : IntKind.i64.wrap ((k : Int) + (c : Int)) = ((k + c : Nat) : Int) := by rw [IntKind.wrap_i64]; omega
   clear hc
   go_upto_region 9 with fail
   refine wp_region_noPanic ?_
   refine wp_region_held_drew (S := fun _ => True) (by kernel_rfl) trivial (fun hHeld => ?_)
   refine wpAnyH_take (i := 0) (v := ?_) rfl (by kernel_rfl) (by kernel_rfl) (by kernel_rfl) (fun _ _ _ h => h) (Or.inl ⟨by rfl, ?_⟩) (by assumption) ?_
   rotate_left
   ·(intro w' hS; (try dsimp only at hS); go_simp; try with_reducible rfl)
   try simp only [Act.put, List.getElem_toArray, List.getElem_cons_succ, List.getElem_cons_zero, List.setIfInBounds_toArray, List.set_cons_zero, List.set_cons_succ]
   refine wpAnyH_take (i := 1) (v := ?_) rfl (by kernel_rfl) (by kernel_rfl) (by kernel_rfl) (fun _ _ _ h => h) (Or.inl ⟨by rfl, ?_⟩) (by assumption) ?_
   rotate_left
   ·(intro w' hS; (try dsimp only at hS); go_simp; try with_reducible rfl)
   try simp only [Act.put, List.getElem_toArray, List.getElem_cons_succ, List.getElem_cons_zero, List.setIfInBounds_toArray, List.set_cons_zero, List.set_cons_succ]
   refine wpAnyH_take (i := 2) (v := ?_) rfl (by kernel_rfl) (by kernel_rfl) (by kernel_rfl) (fun _ _ _ h => h) (Or.inl ⟨by rfl, ?_⟩) (by assumption) ?_
   rotate_left
   ·(intro w' hS; (try dsimp only at hS); go_simp; try with_reducible rfl)
   try simp only [Act.put, List.getElem_toArray, List.getElem_cons_succ, List.getElem_cons_zero, List.setIfInBounds_toArray, List.set_cons_zero, List.set_cons_succ]
   refine wpAnyH_take (i := 3) (v := ?_) rfl (by kernel_rfl) (by kernel_rfl) (by kernel_rfl) (fun _ _ _ h => h) (Or.inl ⟨by rfl, ?_⟩) (by assumption) ?_
   rotate_left
   ·(intro w' hS; (try dsimp only at hS); go_simp; try with_reducible rfl)
   try simp only [Act.put, List.getElem_toArray, List.getElem_cons_succ, List.getElem_cons_zero, List.setIfInBounds_toArray, List.set_cons_zero, List.set_cons_succ]
   refine wpAnyH_take (i := 4) (v := ?_) rfl (by kernel_rfl) (by kernel_rfl) (by kernel_rfl) (fun _ _ _ h => h) (Or.inl ⟨by rfl, ?_⟩) (by assumption) ?_
   rotate_left
   ·(intro w' hS; (try dsimp only at hS); go_simp; try with_reducible rfl)
   try simp only [Act.put, List.getElem_toArray, List.getElem_cons_succ, List.getElem_cons_zero, List.setIfInBounds_toArray, List.set_cons_zero, List.set_cons_succ]
   refine wpAnyH_take (i := 5) (v := ?_) rfl (by kernel_rfl) (by kernel_rfl) (by kernel_rfl) (fun _ _ _ h => h) (Or.inl ⟨by rfl, ?_⟩) (by assumption) ?_
   rotate_left
   ·(intro w' hS; (try dsimp only at hS); go_simp; try with_reducible rfl)
   try simp only [Act.put, List.getElem_toArray, List.getElem_cons_succ, List.getElem_cons_zero, List.setIfInBounds_toArray, List.set_cons_zero, List.set_cons_succ]
   refine wpAnyH_take (i := 6) (v := ?_) rfl (by kernel_rfl) (by kernel_rfl) (by kernel_rfl) (fun _ _ _ h => h) (Or.inl ⟨by rfl, ?_⟩) (by assumption) ?_
   rotate_left
   ·(intro w' hS; (try dsimp only at hS); go_simp; try with_reducible rfl)
   try simp only [Act.put, List.getElem_toArray, List.getElem_cons_succ, List.getElem_cons_zero, List.setIfInBounds_toArray, List.set_cons_zero, List.set_cons_succ]
   refine wpAnyH_ready (rs := [7]) (by kernel_rfl) (by simp) ?_
   refine AllReadyH.cons rfl (fun K hK => ?_) AllReadyH.nil
   refine step_copy_splice (by rfl) (.tmp 41) (.tmp 44) 24 24 (by rfl) 3 Tryz.underlying24 HS.out (some ⟨b, k, none⟩) (some ⟨b, 0, none⟩) (n - k) _ k _ (by rfl) (by rfl) b k (rowR z n k) 3 HH.out X HMin.out (fun _ => ⟨rfl, ⟨b, 0, none⟩, rfl, HSrc.out wr.drew HH.out⟩) HLn.out HC1.out w.heap.size w HB.out.drew HBz2.out ?_
   intro w4 HH4 hb4
   rw [HK.out] at HH4
   rw [HX.out]
   have HB4 := Lib.hid hb4
   clear hb4 HSrc HC1 HMin HLn HK HX HH HB
   refine hK.out _ _ trivial (fun hHeld => ?_)
   clear hK K
   try simp only [Act.put, List.getElem_toArray, List.getElem_cons_succ, List.getElem_cons_zero, List.setIfInBounds_toArray, List.set_cons_zero, List.set_cons_succ]
   refine wpAnyH_take (i := 8) (v := ?_) rfl (by kernel_rfl) (by kernel_rfl) (by kernel_rfl) (fun _ _ _ h => h) (Or.inl ⟨by rfl, ?_⟩) (by assumption) ?_
   rotate_left
   ·(intro w' hS; (try dsimp only at hS); go_simp; try with_reducible rfl)
   try simp only [Act.put, List.getElem_toArray, List.getElem_cons_succ, List.getElem_cons_zero, List.setIfInBounds_toArray, List.set_cons_zero, List.set_cons_succ]
   refine wpAnyH_take (i := 9) (v := ?_) rfl (by kernel_rfl) (by kernel_rfl) (by kernel_rfl) (fun _ _ _ h => h) (Or.inl ⟨by rfl, ?_⟩) (by assumption) ?_
   rotate_left
   ·(intro w' hS; (try dsimp only at hS); go_simp; try with_reducible rfl)
   try simp only [Act.put, List.getElem_toArray, List.getElem_cons_succ, List.getElem_cons_zero, List.setIfInBounds_toArray, List.set_cons_zero, List.set_cons_succ]
   refine wpAnyH_done (by kernel_rfl) ?_ _
   refine NoPanic.normal ?_
   clear hHeld
   go_wp2
   go_roundw
   case rel => exact ⟨k + c, by omega, hkc, by go_num, HH4, HB4⟩
   case measure => (simp [intOf] <;> omega)
  ·obtain rfl : k = n := by omega
   have HF := Lib.hid (show RepP z k w (.returned (.slice (some ⟨b, 0, none⟩) k k)) wr from ⟨b, rfl, by
    unfold NumR
    rw [← rowR_all]
    exact rep_own (by have := HBz.out; omega) (rowR_length (Nat.le_refl _)) (by omega) HH.out, HB.out⟩)
   clear HH HB
   go_wp2
   go_ret
   exact HF.out
end Go.Proofs.YtmajllgfmclcoaaGreatDoor.Rpt
