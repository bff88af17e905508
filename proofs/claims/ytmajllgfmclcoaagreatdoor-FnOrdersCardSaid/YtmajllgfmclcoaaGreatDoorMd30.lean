/- Rpt, TilS, RegCn in one text. -/
import Derived.Test.YtmajllgfmclcoaaGreatDoorMd29
import Derived.Test.YtmajllgfmclcoaaGreatDoorSrti
import Derived.Laws.CopyOwn
import Derived.Deep.LoopGhost
import Derived.Deep.RegionHeld3
import Derived.Deep.Cut
import Derived.Lib.Hide
import Derived.Lib.SmallJoins
import Derived.OwnWalk
import Derived.Laws.OwnMore
import Derived.Test.YtmajllgfmclcoaaGreatDoorMd20
import Derived.Test.YtmajllgfmclcoaaGreatDoorMd13
set_option linter.unusedVariables false
set_option linter.unusedSimpArgs false
set_option maxRecDepth 100000
namespace Go.Proofs.YtmajllgfmclcoaaGreatDoor.Rpt
open Go.RowKit Base Wg Go.Joins
open Reg (own_below own_base intInfo)
theorem iMul1 (n : Nat) (hn : n ≤ 2000000) (w : World) : Calls Tryz.prog 117 #[.int .u64 1, .int .u64 (n : Int)] w fun e w' => e = .returned (.tuple #[.int .u64 0, .int .u64 (n : Int)]) ∧ w' = w := by
 have h := Any.bits_Mul Tryz.mulU 1 n (by omega) (by omega) w
 rw [Nat.one_mul, Nat.div_eq_of_lt (by omega), Nat.mod_eq_of_lt (by omega)] at h
 exact h
def rowR (z : Int) (n k : Nat) : List Value := List.replicate k (.int .i64 z) ++ List.replicate (n - k) (.int .i64 0)
theorem rowR_length {z : Int} {n k : Nat} (h : k ≤ n) : (rowR z n k).length = n := by unfold rowR; rw [List.length_append, List.length_replicate, List.length_replicate]; omega
theorem rowR_at {z : Int} {n k i : Nat} (h : i < k) : (rowR z n k)[i]? = some (.int .i64 z) := by unfold rowR; rw [List.getElem?_append_left (by rw [List.length_replicate]; exact h), List.getElem?_replicate, if_pos h]
theorem rowR_put {z : Int} {n k c : Nat} (h : k + c ≤ n) : splice (rowR z n k) k (List.replicate c (.int .i64 z)) = rowR z n (k + c) := by
 unfold splice rowR
 rw [List.take_append_of_le_length (by simp), List.take_of_length_le (by simp), List.length_replicate, List.drop_append, List.drop_eq_nil_of_le (by simp), List.nil_append, List.length_replicate, show k + c - k = c by omega, List.drop_replicate, ← List.append_assoc, List.replicate_append_replicate, show n - k - c = n - (k + c) by omega]
theorem rowR_all (z : Int) (n : Nat) : rowR z n n = rowF n (fun _ => z) := by
 unfold rowR rowF
 rw [Nat.sub_self, List.replicate_zero, List.append_nil, List.map_const', List.length_range]
theorem rep_heap {W : World} {base b n : Nat} {xs : List Value} (h : W.ownsRow base 3 1 (.slice (some ⟨b, 0, none⟩) n n) n xs) : W.heap[b]? = some (.cells xs.toArray 3 (0, 0)) := by
 rcases h.2 with ⟨h', _⟩ | ⟨g', cap', cur, h', _, hg, hsz, hz2, hcs, htake⟩
 ·simp at h'
 ·simp only [Value.slice.injEq, Option.some.injEq, Addr.mk.injEq, and_true, true_and] at h'
  obtain ⟨rfl, rfl⟩ := h'
  rw [hg, ← htake, Nat.mul_one, List.take_of_length_le (by rw [Array.length_toList]; omega)]
theorem rep_own {W : World} {base b n : Nat} {xs : List Value} (hb : base ≤ b) (hl : xs.length = n) (hn : n ≤ 2000000) (h : W.heap[b]? = some (.cells xs.toArray 3 (0, 0))) : W.ownsRow base 3 1 (.slice (some ⟨b, 0, none⟩) n n) n xs :=
 ⟨by rw [hl, Nat.mul_one], .inr ⟨b, n, xs.toArray, rfl, hb, h, Nat.le_refl _, by unfold maxLen; omega, by simp [hl], by rw [Nat.mul_one, List.take_of_length_le (by simp [hl])]⟩⟩
theorem ints_size : (Tryz.prog.info? 3).map (·.size) = some 1 := by kernel_rfl
def RepP (z : Int) (n : Nat) (w : World) (e : Ending) (w' : World) : Prop := ∃ b, e = .returned (.slice (some ⟨b, 0, none⟩) n n) ∧ NumR w' w.heap.size b n (fun _ => z) ∧ Below w.heap.size w w'
set_option maxHeartbeats 4000000 in
theorem iRepeat (z : Int) (w : World) (g n : Nat) (h1 : 0 < n) (hn : n ≤ 300) (hg : g < w.heap.size) (hc : w.cell? ⟨g, 0, none⟩ = some (.int .i64 z)) :
  Calls Tryz.prog 81 #[.slice (some ⟨g, 0, none⟩) 1 1, .int .i64 (n : Int)] w (RepP z n w) := by
 obtain ⟨i0, hi, hz0, hz1, hz2⟩ := info_parts intInfo
 have HMu := Lh (fun w => iMul1 n (by omega) w)
 have hwu : IntKind.u64.wrap (n : Int) = (n : Int) := by rw [IntKind.wrap_u64]; omega
 have hwi : IntKind.i64.wrap (n : Int) = (n : Int) := by rw [IntKind.wrap_i64]; omega
 have hneg : ¬ (n : Int) < 0 := by omega
 have hmax : ¬ (9223372036854775807 : Int) < (n : Int) := by omega
 have HS := Lh ints_size
 have HG := Lh hg
 have HC := Lh hc
 clear hg hc
 go_enter Tryz.func81, Tryz.ntmps81
 go_wp2_with fail
 refine (HMu.out _).mono ?_
 rintro e w1 ⟨rfl, hw1⟩
 have hw1 := hw1.symm
 subst hw1
 clear HMu
 have HZ := Lh (show (madeCells (Value.int .i64 0).cells (n * 1)).toList = rowR z n 0 by
  rw [show (Value.int .i64 0).cells = #[.int .i64 0] from rfl, Nat.mul_one, toList_madeCells_one]; unfold rowR; simp)
 go_upto_region 7 with (at_make; go_loud (refine wpList_make_full _ rfl _ _ 24 rfl w.heap.size 3 i0 (.int .i64 0) 1 Tryz.underlying24 hi hz0 hz1 .i64 .i64 (n : Int) (n : Int) n rfl rfl rfl rfl (by rw [hz2]; omega) (by unfold maxLen; omega) (by omega) ?_; intro w2 hown2 hg2))
 have HB2 := Lh (show Below w.heap.size w w2 from (Below.refl _ _).grown hg2 (by omega) (by simp))
 rw [HZ.out] at hown2
 have HH2 := Lh (rep_heap hown2)
 clear hown2 hg2 HZ
 have HC2 := Lh (show w2.cell? ⟨g, 0, none⟩ = some (.int .i64 z) from (HB2.out.cell (p := ⟨g, 0, none⟩) HG.out).trans HC.out)
 obtain ⟨b, hbz⟩ : ∃ b, w.heap.size = b := ⟨_, rfl⟩
 rw [hbz] at HH2 ⊢
 have HBz := Lh hbz
 clear hbz hwu hwi
 have hone : ((1 : Nat) : Int) = 1 := rfl
 have HSrc := Lh (show ∀ (j : Nat) (v : Value), [Value.int .i64 z][j]? = some v → w2.cell? ((⟨g, 0, none⟩ : Addr).add j) = some v from fun j v hj => by
  rcases j with _ | j
  ·simp at hj; subst hj; rw [Base.add_plain]; exact HC2.out
  ·simp at hj)
 have HP := Lh (show splice (rowR z n 0) 0 [Value.int .i64 z] = rowR z n (0 + 1) from rowR_put (z := z) (c := 1) (by omega))
 have HLn := Lh (rowR_length (z := z) (n := n) (k := 0) (Nat.zero_le _))
 have HMin := Lh (show [Value.int .i64 z].length = Nat.min 1 n from (Nat.min_eq_left (show 1 ≤ n from h1)).symm)
 go_wp2_with ((with_reducible change wpList _ _ _ (_ :: _) _ _); (refine wpList_copy_splice rfl _ _ 24 24 rfl 3 Tryz.underlying24 HS.out (some ⟨b, 0, none⟩) (some ⟨g, 0, none⟩) n n 1 1 rfl rfl b 0 (rowR z n 0) 3 HH2.out [.int .i64 z] HMin.out (fun _ => ⟨rfl, ⟨g, 0, none⟩, rfl, HSrc.out⟩) (by rw [HLn.out]; show 0 + 1 ≤ n; omega) (by simp [Value.oneCell']) w.heap.size w HB2.out (by have := HBz.out; omega) ?_; intro w3 HH3 hb3))
 rw [HP.out] at HH3
 have HB3 := Lh hb3
 clear hb3 HH2 HSrc HP HLn HMin HC2 HB2 HC HG
 go_loopw [8] (fun v wr => ∃ k : Nat, 0 < k ∧ k ≤ n ∧ v = .int .i64 k ∧ Hid (wr.heap[b]? = some (.cells (rowR z n k).toArray 3 (0, 0))) ∧ Hid (Below w.heap.size w wr)) (fun v _ => n - (intOf v).toNat)
 case atStart => exact ⟨0 + 1, by omega, by omega, rfl, HH3, HB3⟩
 case round =>
  clear HH3 HB3
  obtain ⟨k, hk0, hk, rfl, HH, HB⟩ := hrel
  by_cases hlt : k < n
  ·obtain ⟨c, hc⟩ : ∃ c, c = min k (n - k) := ⟨_, rfl⟩
   have hc0 : 0 < c := by omega
   have hkc : k + c ≤ n := by omega
   have HK := Lh (rowR_put (z := z) hkc)
   have HLn := Lh (show k + (List.replicate c (Value.int .i64 z)).length ≤ (rowR z n k).length by rw [rowR_length (z := z) hk, List.length_replicate]; exact hkc)
   have HMin := Lh (show (List.replicate c (Value.int .i64 z)).length = Nat.min k (n - k) by rw [List.length_replicate, hc])
   have HC1 := Lh (show ∀ v ∈ List.replicate c (Value.int .i64 z), v.oneCell' = true from fun v hv => by rw [List.eq_of_mem_replicate hv]; rfl)
   have HSrc := Lh (show ∀ W : World, W.heap[b]? = some (.cells (rowR z n k).toArray 3 (0, 0)) → ∀ (j : Nat) (v : Value), (List.replicate c (Value.int .i64 z))[j]? = some v → W.cell? ((⟨b, 0, none⟩ : Addr).add j) = some v from fun W hW j v hj => by
    have hjc : j < c := by have := (List.getElem?_eq_some_iff.1 hj).1; rw [List.length_replicate] at this; exact this
    rw [List.getElem?_replicate, if_pos hjc] at hj
    rw [Base.add_plain, ← hj, ← rowR_at (z := z) (n := n) (k := k) (i := j) (by omega)]
    unfold World.cell?
    rw [show W.heap[(⟨b, j, none⟩ : Addr).block]? = _ from hW]
    simp)
   obtain ⟨X, hX⟩ : ∃ X, X = List.replicate c (Value.int .i64 z) := ⟨_, rfl⟩
   have HX := Lh (show X.length = c by rw [hX, List.length_replicate])
   rw [← hX] at HK HLn HMin HC1 HSrc
   clear hX
   have HBz2 := Lh (show w.heap.size ≤ b from by have := HBz.out; omega)
   have hknI : (k : Int) < (n : Int) := by omega
   have hknE : (k : Int) ≤ (n : Int) := by omega
   have hkne : ¬ n = k := by omega
   have hwrap : IntKind.i64.wrap ((k : Int) + (c : Int)) = ((k + c : Nat) : Int) := by rw [IntKind.wrap_i64]; omega
   clear hc
   go_upto_region 9 with fail
   refine wp_region_noPanic ?_
   refine wp_region_held_drew (S := fun _ => True) (by kernel_rfl) trivial (fun hHeld => ?_)
   refine tk 0 ?_; try simp only [Act.put, zk]
   refine tk 1 ?_; try simp only [Act.put, zk]
   refine tk 2 ?_; try simp only [Act.put, zk]
   refine tk 3 ?_; try simp only [Act.put, zk]
   refine tk 4 ?_; try simp only [Act.put, zk]
   refine tk 5 ?_; try simp only [Act.put, zk]
   refine tk 6 ?_; try simp only [Act.put, zk]
   refine tr 7 fun K hK => ?_
   refine step_copy_splice (by rfl) (.tmp 41) (.tmp 44) 24 24 (by rfl) 3 Tryz.underlying24 HS.out (some ⟨b, k, none⟩) (some ⟨b, 0, none⟩) (n - k) _ k _ (by rfl) (by rfl) b k (rowR z n k) 3 HH.out X HMin.out (fun _ => ⟨rfl, ⟨b, 0, none⟩, rfl, HSrc.out wr.drew HH.out⟩) HLn.out HC1.out w.heap.size w HB.out.drew HBz2.out ?_
   intro w4 HH4 hb4
   rw [HK.out] at HH4
   rw [HX.out]
   have HB4 := Lh hb4
   clear hb4 HSrc HC1 HMin HLn HK HX HH HB
   refine hK.out _ _ trivial (fun hHeld => ?_)
   clear hK K
   try simp only [Act.put, zk]
   refine tk 8 ?_; try simp only [Act.put, zk]
   refine tk 9 ?_; try simp only [Act.put, zk]
   refine wpAnyH_done (by kernel_rfl) (NoPanic.normal ?_) _
   clear hHeld
   go_wp2
   go_roundw
   case rel => exact ⟨k + c, by omega, hkc, by go_num, HH4, HB4⟩
   case measure => (simp [intOf] <;> omega)
  ·obtain rfl : k = n := by omega
   have HF := Lh (show RepP z k w (.returned (.slice (some ⟨b, 0, none⟩) k k)) wr from ⟨b, rfl, by
    unfold NumR
    rw [← rowR_all]
    exact rep_own (by have := HBz.out; omega) (rowR_length NR) (by omega) HH.out, HB.out⟩)
   clear HH HB
   go_wp2
   go_ret
   exact HF.out
end Go.Proofs.YtmajllgfmclcoaaGreatDoor.Rpt
namespace Go.Proofs.YtmajllgfmclcoaaGreatDoor.Til
open Go.RowKit Go.Proofs.YtmajllgfmclcoaaGreatDoor.Pure Go.Proofs.YtmajllgfmclcoaaGreatDoor.Cell CellF Dom Dms Go.Joins
open Reg hiding add_none RC rc_start
def rowU (M : List Dm) : List Value := (List.range 64).map fun (j : Nat) => Value.bool (anyM M ((j % 8 : Nat) : Int) ((j / 8 : Nat) : Int))
theorem rowU_length (M : List Dm) : (rowU M).length = 64 := by unfold rowU; simp
theorem rowU_nil : rowU [] = List.replicate 64 (.bool false) := by unfold rowU anyM; rfl
theorem idx_nat {x y : Int} (h : Ok x y) : ∃ k : Nat, k < 64 ∧ indexN x y = (k : Int) ∧ ((k % 8 : Nat) : Int) = x ∧ ((k / 8 : Nat) : Int) = y := by
 have hi := index_of h
 obtain ⟨x0, x7, y0, y7⟩ := h
 exact ⟨(y * 8 + x).toNat, by omega, by rw [hi]; omega, by omega, by omega⟩
theorem rowU_at (M : List Dm) {k : Nat} (hk : k < 64) : (rowU M)[k]? = some (.bool (anyM M ((k % 8 : Nat) : Int) ((k / 8 : Nat) : Int))) := by unfold rowU; simp [List.getElem?_range hk]
theorem rowU_put (M : List Dm) (d : Dm) (hd : okM d = true) {k1 k2 : Nat} (h1 : k1 < 64) (h2 : k2 < 64) (e1 : ((k1 % 8 : Nat) : Int) = d.1) (e2 : ((k1 / 8 : Nat) : Int) = d.2.1) (e3 : ((k2 % 8 : Nat) : Int) = sx d.1 d.2.2) (e4 : ((k2 / 8 : Nat) : Int) = sy d.2.1 d.2.2) :
  ((rowU M).set k1 (.bool true)).set k2 (.bool true) = rowU (M ++ [d]) := by
 apply List.ext_getElem?
 intro j
 by_cases hj : j < 64
 ·rw [rowU_at _ hj, anyM_snoc]
  have hcov : covM d ((j % 8 : Nat) : Int) ((j / 8 : Nat) : Int) = (decide (j = k1) || decide (j = k2)) := by
   unfold covM covP
   rw [hd, Bool.true_and, ← e3, ← e4, ← e1, ← e2, Bool.eq_iff_iff]
   simp only [Bool.or_eq_true, eqB_iff, decide_eq_true_eq]
   omega
  rw [hcov]
  by_cases c2 : j = k2
  ·subst c2
   rw [List.getElem?_set_self (by rw [List.length_set, rowU_length]; exact hj)]
   simp
  ·rw [List.getElem?_set_ne (by omega)]
   by_cases c1 : j = k1
   ·subst c1
    rw [List.getElem?_set_self (by rw [rowU_length]; exact hj)]
    simp
   ·rw [List.getElem?_set_ne (by omega), rowU_at _ hj]
    simp [c1, c2]
 ·rw [List.getElem?_eq_none (by rw [List.length_set, List.length_set, rowU_length]; omega), List.getElem?_eq_none (by rw [rowU_length]; omega)]
def prevB (M : List Dm) (d : Dm) : Bool := match M.getLast? with | none => true | some p => befM p d
theorem stepB_eq (xs : List Int) (M : List Dm) (d : Dm) : stepB xs M d = (prevB M d && ((hasB xs d.1 d.2.1 && !anyM M d.1 d.2.1) && (hasB xs (sx d.1 d.2.2) (sy d.2.1 d.2.2) && !anyM M (sx d.1 d.2.2) (sy d.2.1 d.2.2)))) := rfl
theorem prevB_0 {L : List Dm} {d : Dm} : prevB (L.take 0) d = true := rfl
theorem prevB_s {L : List Dm} {k : Nat} (hk : k < L.length) (h0 : 0 < k) (d : Dm) : prevB (L.take k) d = befM (L[k - 1]'(by omega)) d := by
 unfold prevB
 have : (L.take k).getLast? = some (L[k - 1]'(by omega)) := by
  rw [List.getLast?_eq_getElem?, List.length_take, Nat.min_eq_left (by omega), List.getElem?_take, if_pos (by omega)]
  exact List.getElem?_eq_getElem _
 rw [this]
def US (w : World) (v : Value) (M : List Dm) (W : World) : Prop := R1 w v W ∧ W.ownsRow (w.heap.size + 1) 4 1 (.slice (some ⟨w.heap.size + 1, 0, none⟩) 64 64) 64 (rowU M)
section
variable {w W W' : World} {v : Value} {M : List Dm}
theorem US.on (h : US w v M W) (hb : Below W.heap.size W W') : US w v M W' := ⟨h.1.on hb, Reg.own_below h.2 hb NR⟩
theorem US.drew (h : US w v M W) : US w v M W.drew := ⟨h.1.drew, h.2⟩
theorem US.cell (h : US w v M W) {k : Nat} (hk : k < 64) : W.cell? ⟨w.heap.size + 1, k, none⟩ = some (.bool (anyM M ((k % 8 : Nat) : Int) ((k / 8 : Nat) : Int))) := (h.2.cellAt k (by omega)).trans (rowU_at M hk)
theorem US.froz (h : US w v M W) (k : Nat) : W.frozen? ⟨w.heap.size + 1, k, none⟩ = false := h.2.frozenAt k
theorem Rg.far {W : World} {p q i : Nat} {v u : Value} (h : Rg W q v) (hp : q ≠ p) : Rg (W.setCell ⟨p, i, none⟩ u) q v := (Below.heap_setCell W ⟨p, i, none⟩ u q hp).trans h
theorem R1.put (h : R1 w v W) (k : Nat) (u : Value) : R1 w v (W.setCell ⟨w.heap.size + 1, k, none⟩ u) := ⟨h.1.setCell (p := ⟨w.heap.size + 1, k, none⟩) (by show _ ≤ w.heap.size + 1; omega) _, h.2.far (by omega)⟩
end
def UT (w : World) (v : Value) (cs : List Value) (W : World) : Prop := R1 w v W ∧ W.ownsRow (w.heap.size + 1) 4 1 (.slice (some ⟨w.heap.size + 1, 0, none⟩) 64 64) 64 cs
theorem UT.on {w W W' : World} {v : Value} {cs : List Value} (h : UT w v cs W) (hb : Below W.heap.size W W') : UT w v cs W' := ⟨h.1.on hb, Reg.own_below h.2 hb NR⟩
theorem UT.put {w W : World} {v : Value} {cs : List Value} (h : UT w v cs W) (k : Nat) (u : Value) : UT w v (cs.set k u) (W.setCell ⟨w.heap.size + 1, k, none⟩ u) := ⟨h.1.put k u, (h.2.stored k u).1⟩
theorem UT.cell {w W : World} {v : Value} {cs : List Value} (h : UT w v cs W) (hc : cs.length = 64) {k : Nat} (hk : k < 64) : ∃ u, W.cell? ⟨w.heap.size + 1, k, none⟩ = some u := ⟨cs[k]'(by omega), (h.2.cellAt k (by omega)).trans (List.getElem?_eq_getElem (by omega))⟩
theorem UT.froz {w W : World} {v : Value} {cs : List Value} (h : UT w v cs W) (k : Nat) : W.frozen? ⟨w.heap.size + 1, k, none⟩ = false := h.2.frozenAt k
theorem boolInfo : (Tryz.prog.info? 4).map (fun i => (i.zero, i.size, i.bytes)) = some (some (.bool false), 1, 1) := by kernel_rfl
set_option maxRecDepth 100000 in
set_option maxHeartbeats 4000000 in
theorem sIsPartial (w : World) (A : Option Addr) (n cap B : Nat) (xs : List Int) (hx : xs.length = n) (hn : (n : Int) ≤ 9223372036854775807) (h : RowB w B A xs) (hB : B ≤ w.heap.size)
  (A' : Option Addr) (n' cap' B' : Nat) (L : List Dm) (hL : L.length = n') (hn' : (n' : Int) ≤ 9223372036854775807) (h' : RowM w B' A' L) (hB' : B' ≤ w.heap.size) :
  Calls Tryz.prog 39 #[.agg #[.slice A n cap], .slice A' n' cap'] w (Bol (partB xs L) w) := by
 obtain ⟨i0, hi, hz0, hz1, hz2⟩ := info_parts boolInfo
 obtain ⟨b0, off, hA, hR⟩ := h'.at
 have HS := Lh (r1_start w (.slice A n cap))
 have HO := Lh (fun W (hb : Below w.heap.size w W) => sRegionOk W A n cap B xs hx hn (h.below hb hB) (by have := hb.size; omega))
 have HH := Lh (fun W (hb : Below w.heap.size w W) x y => sHasCell W A n cap B xs hx hn (h.below hb hB) (by have := hb.size; omega) x y)
 have HW := Lh (fun W (hb : Below w.heap.size w W) (j : Nat) (hj : j < L.length) (h0 : 0 < L.length) => (show _ ∧ _ ∧ _ from ⟨(hb.cell (p := ⟨b0, off + j * 3, none⟩) (by have := (hA h0).2; show b0 < _; omega)).trans (hR j hj).1, (hb.cell (p := ⟨b0, off + j * 3 + 1, none⟩) (by have := (hA h0).2; show b0 < _; omega)).trans (hR j hj).2.1, (hb.cell (p := ⟨b0, off + j * 3 + 2, none⟩) (by have := (hA h0).2; show b0 < _; omega)).trans (hR j hj).2.2⟩))
 have HA := Lh (fun h0 => (hA h0).1)
 have HL := Lh hL
 have HY := Lh (fun (hg : Go1 xs L L.length) => (show partB xs L = okRB xs from by
  cases ho : okRB xs with
  | true => exact part_yes ho hg
  | false => exact part_not ho))
 have HN := Lh (fun k (hk : k < L.length) hs => part_no (xs := xs) (L := L) (k := k) hk hs)
 generalize partB xs L = r at HY HN ⊢
 clear hx h hB hL h' hB' hA hR
 go_enter Tryz.func39, Tryz.ntmps39
 go_wp2_with (first
  | (at_make; refine wpList_make_full _ rfl _ _ 82 rfl (w.heap.size + 1) 4 i0 (.bool false) 1 Tryz.underlying82 hi hz0 hz1 .i64 .i64 64 64 64 rfl rfl rfl rfl (by rw [hz2]; omega) (by unfold maxLen; omega) (by simp) ?_; intro w1 hown1 hg1))
 have T0 : US w (.slice A n cap) [] w1 := by
  have hT := HS.out
  have hs0 : (w.alloc (.cells #[.slice A n cap] 26)).heap.size = w.heap.size + 1 := by simp
  refine ⟨⟨hT.1.grown hg1 (by omega) (by simp), (hg1.block _ hT.2.lt (by simp)).trans hT.2⟩, ?_⟩
  rw [hs0, show (Value.bool false).cells = #[.bool false] from rfl, Nat.mul_one, toList_madeCells_one] at hown1
  rw [rowU_nil]
  exact hown1
 have hsz : (w.alloc (.cells #[.slice A n cap] 26)).heap.size = w.heap.size + 1 := by simp
 try rw [hsz]
 clear hown1 hg1 HS hi hz0 hz1 hz2 hsz
 go_wp2_with fail
 go_loopw [6] (fun i wr => ∃ j : Nat, j ≤ n' ∧ i = .int .i64 j ∧ US w (.slice A n cap) (L.take j) wr ∧ Hid (Go1 xs L j)) (fun i _ => n' - (intOf i).toNat)
 case atStart => exact ⟨0, Nat.zero_le _, rfl, T0, Lh (Go1.zero _ _)⟩
 case round =>
  clear T0
  obtain ⟨j, hj, rfl, T0, hM⟩ := hrel
  by_cases hlt : j < n'
  ·have hjL : j < L.length := by have := HL.out; omega
   obtain rfl := HA.out (by omega)
   have HWj := Lh (fun W hb => HW.out W hb j hjL (by omega))
   have HWp := Lh (fun W hb (h0 : 0 < j) => HW.out W hb (j - 1) (by omega) (by omega))
   have HD := Lh (stpAt_of (xs := xs) hjL)
   have HPs := Lh (fun (h0 : 0 < j) => prevB_s hjL h0 L[j])
   have HT := Lh (show L.take (j + 1) = L.take j ++ [L[j]] from List.take_succ_eq_append_getElem hjL)
   generalize L[j] = d at HWj HD HT HPs
   obtain ⟨x, y, b⟩ := d
   have HSp := Lh (stepB_eq xs (L.take j) (x, y, b))
   have HSo := Lh (fun h => stepB_ok (xs := xs) (M := L.take j) (d := (x, y, b)) h)
   have HDo := Lh (fun W => sDominoOk x y b W)
   have HU := Lh (fun hd W => sCellsUnder_ok x y b hd W)
   have HRU := Lh (fun hd {k1 k2} h1 h2 e1 e2 e3 e4 => rowU_put (L.take j) (x, y, b) hd (k1 := k1) (k2 := k2) h1 h2 e1 e2 e3 e4)
   have HOk := Lh (fun (h : domB x y b = true) => (show Ok x y ∧ Ok (sx x b) (sy y b) from by
    unfold domB at h; simp only [Bool.and_eq_true, okB_iff] at h; exact h))
   have HNj := Lh (fun hs => HN.out j hjL hs)
   generalize hM0 : L.take j = M at T0 HD HT HSp HSo HRU
   generalize stepB xs M (x, y, b) = t at HD HSp HSo
   simp only [okM] at HRU HSo HWj HSp
   generalize domB x y b = p at HDo HU HRU HOk HSo
   generalize sx x b = u at HU HRU HOk HSp
   generalize sy y b = v at HU HRU HOk HSp
   cases p with
   | false =>
    have HE := Lh (show stpAt xs L j = false by rw [HD.out]; cases t with
     | false => rfl
     | true => have := HSo.out rfl; cases this)
    have HWc := HWj.out
    clear HWp HPs HT HSp HSo HU HRU HOk HD hM0
    go_upto_region 5 with fail
    refine wp_region_noPanic ?_
    refine wp_region_held_drew (S := (fun w' => w'.cell? ⟨b0, off + j * 3, none⟩ = some (.int .i64 x) ∧ w'.cell? ⟨b0, off + j * 3 + 1, none⟩ = some (.int .i64 y) ∧ w'.cell? ⟨b0, off + j * 3 + 2, none⟩ = some (.bool b))) (by kernel_rfl) (HWc _ T0.drew.1.1) (fun hHeld => ?_)
    refine tka 0 ?_; try simp only [Act.put, zk]
    refine tka 1 ?_; try simp only [Act.put, zk]
    refine tka 2 ?_; try simp only [Act.put, zk]
    refine tka 3 ?_; try simp only [Act.put, zk]
    refine tr 4 fun K hK => ?_
    go_simp
    refine (HDo.out _).mono ?_
    rintro e wx ⟨rfl, hb1⟩
    have T1 := T0.drew.on hb1
    clear T0 hb1 HDo
    go_wp2_with fail
    refine hK.out _ _ (HWc _ T1.1.1) (fun hHeld => ?_)
    clear hK K
    try simp only [Act.put, zk]
    refine tka 5 ?_; try simp only [Act.put, zk]
    refine tka 6 ?_; try simp only [Act.put, zk]
    refine tu 7 ?_; try simp only [Act.put, zk]
    refine tu 8 ?_; try simp only [Act.put, zk]
    refine tu 9 ?_; try simp only [Act.put, zk]
    refine tu 10 ?_; try simp only [Act.put, zk]
    refine tu 11 ?_; try simp only [Act.put, zk]
    refine tu 12 ?_; try simp only [Act.put, zk]
    refine tu 13 ?_; try simp only [Act.put, zk]
    refine tu 14 ?_; try simp only [Act.put, zk]
    refine tu 15 ?_; try simp only [Act.put, zk]
    refine tu 16 ?_; try simp only [Act.put, zk]
    refine tu 17 ?_; try simp only [Act.put, zk]
    refine tu 18 ?_; try simp only [Act.put, zk]
    refine tu 19 ?_; try simp only [Act.put, zk]
    refine tu 20 ?_; try simp only [Act.put, zk]
    refine tu 21 ?_; try simp only [Act.put, zk]
    refine tka 22 ?_; try simp only [Act.put, zk]
    refine wpAnyH_done (by kernel_rfl) (NoPanic.normal ?_) _
    clear hHeld HWc HWj
    go_wp2
    go_ret
    exact mkBol (by rw [HNj.out HE.out]) T1.1.1
   | true =>
    obtain ⟨hO1, hO2⟩ := HOk.out (by first | rfl | trivial)
    obtain ⟨k1, hk1, ei1, ex1, ey1⟩ := idx_nat hO1
    obtain ⟨k2, hk2, ei2, ex2, ey2⟩ := idx_nat hO2
    have HR := Lh (HRU.out (by first | rfl | trivial) hk1 hk2 ex1 ey1 ex2 ey2)
    have HI1 := Lh (fun W => ei1 ▸ sCellIndex x y W)
    have HI2 := Lh (fun W => ei2 ▸ sCellIndex u v W)
    have HX1 := Lh (fun W (hT : US w (.slice A n cap) M W) => by have := hT.cell hk1; rw [ex1, ey1] at this; exact this)
    have HX2 := Lh (fun W (hT : US w (.slice A n cap) M W) => by have := hT.cell hk2; rw [ex2, ey2] at this; exact this)
    have HH1 := Lh (fun W hb => HH.out W hb x y)
    have HH2 := Lh (fun W hb => HH.out W hb u v)
    try simp only at HSp
    generalize hasB xs x y = s1 at HH1 HSp
    generalize hasB xs u v = s2 at HH2 HSp
    generalize anyM M x y = a1 at HX1 HSp
    generalize anyM M u v = a2 at HX2 HSp
    have HUt := Lh (fun W => HU.out (by first | rfl | trivial) W)
    have hkk1 : (k1 : Int) < 64 := by omega
    have hkk2 : (k2 : Int) < 64 := by omega
    have HK1 := Lh hk1
    have HK2 := Lh hk2
    clear HRU HSo HU HOk hO1 hO2 ei1 ei2 ex1 ey1 ex2 ey2 hk1 hk2
    rcases Nat.eq_zero_or_pos j with hj0 | hj0
    ·have HP : prevB M (x, y, b) = true := by rw [← hM0, hj0]; exact prevB_0
     rw [HP] at HSp
     clear HP HPs HWp
     have HWc := HWj.out
     have HJ0 := Lh hj0
     have hdec : decide (0 < (j : Int)) = false := decide_eq_false (by omega)
     have hdec2 : ¬ (0 < (j : Int)) := by omega
     have hdec3 : (0 < j) = False := by simp; omega
     clear hj0
     go_upto_region 5 with fail
     refine wp_region_noPanic ?_
     refine wp_region_held_drew (S := (fun w' => w'.cell? ⟨b0, off + j * 3, none⟩ = some (.int .i64 x) ∧ w'.cell? ⟨b0, off + j * 3 + 1, none⟩ = some (.int .i64 y) ∧ w'.cell? ⟨b0, off + j * 3 + 2, none⟩ = some (.bool b))) (by kernel_rfl) (HWc _ T0.drew.1.1) (fun hHeld => ?_)
     refine tka 0 ?_; try simp only [Act.put, zk]
     refine tka 1 ?_; try simp only [Act.put, zk]
     refine tka 2 ?_; try simp only [Act.put, zk]
     refine tka 3 ?_; try simp only [Act.put, zk]
     refine tr 4 fun K hK => ?_
     go_simp
     refine (HDo.out _).mono ?_
     rintro e wx ⟨rfl, hb1⟩
     have T1 := T0.drew.on hb1
     clear T0 hb1 HDo
     go_wp2_with fail
     refine hK.out _ _ (HWc _ T1.1.1) (fun hHeld => ?_)
     clear hK K
     try simp only [Act.put, zk]
     refine tka 5 ?_; try simp only [Act.put, zk]
     refine tka 6 ?_; try simp only [Act.put, zk]
     refine tka 7 ?_; try simp only [Act.put, zk]
     refine tka 8 ?_; try simp only [Act.put, zk]
     refine tka 9 ?_; try simp only [Act.put, zk]
     refine tu 10 ?_; try simp only [Act.put, zk]
     refine tu 11 ?_; try simp only [Act.put, zk]
     refine tu 12 ?_; try simp only [Act.put, zk]
     refine tu 13 ?_; try simp only [Act.put, zk]
     refine tu 14 ?_; try simp only [Act.put, zk]
     refine tu 15 ?_; try simp only [Act.put, zk]
     refine tu 16 ?_; try simp only [Act.put, zk]
     refine tu 17 ?_; try simp only [Act.put, zk]
     refine tu 18 ?_; try simp only [Act.put, zk]
     refine tu 19 ?_; try simp only [Act.put, zk]
     refine tu 20 ?_; try simp only [Act.put, zk]
     refine tka 21 ?_; try simp only [Act.put, zk]
     refine tka 22 ?_; try simp only [Act.put, zk]
     refine wpAnyH_done (by kernel_rfl) (NoPanic.normal ?_) _
     clear hHeld hdec hdec2 hdec3
     obtain ⟨c0, c1, c2⟩ := HWc _ T1.1.1
     go_wp2_with fail
     refine (HUt.out _).mono ?_
     rintro e w2 ⟨rfl, hb2⟩
     have T2 := T1.on hb2
     clear c0 c1 c2 T1 hb2 HUt HWc
     go_upto_region 8 with fail
     obtain ⟨q1, q2, q3⟩ := at2_two w2 x y u v
     have T3 := T2.on q3
     have hq0 : w2.heap.size ≠ w.heap.size + 1 ∧ w2.heap.size + 1 ≠ w.heap.size + 1 := by
      have := (T2.2.lt (w.heap.size + 1) rfl).2
      omega
     generalize (w2.alloc (.cells #[.int .i64 x, .int .i64 y] 79)).alloc (.cells #[.int .i64 u, .int .i64 v] 79) = W at q1 q2 T3 ⊢
     clear T2 q3
     have c0 := q1.c0
     have c1 := q1.c1
     have c2 := T3.1.2.c0
     go_wp2_with fail
     refine (HH1.out _ T3.1.1).mono ?_
     rintro e w3 ⟨rfl, hb3⟩
     have T4 := T3.on hb3
     have q1 := q1.on hb3
     have q2 := q2.on hb3
     clear c0 c1 c2 hb3 T3 HH1
     cases s1 with
     | false =>
      have HE := Lh (show stpAt xs L j = false by rw [HD.out, HSp.out]; rfl)
      go_wp2
      go_ret
      exact mkBol (by rw [HNj.out HE.out]) T4.1.1
     | true =>
      have c0 := q2.c0
      have c1 := q2.c1
      have c2 := T4.1.2.c0
      go_wp2_with fail
      refine (HH2.out _ T4.1.1).mono ?_
      rintro e w4 ⟨rfl, hb4⟩
      have T5 := T4.on hb4
      have q1 := q1.on hb4
      have q2 := q2.on hb4
      clear c0 c1 c2 hb4 T4 HH2
      cases s2 with
      | false =>
       have HE := Lh (show stpAt xs L j = false by rw [HD.out, HSp.out]; simp)
       go_wp2
       go_ret
       exact mkBol (by rw [HNj.out HE.out]) T5.1.1
      | true =>
       have c0 := q1.c0
       have c1 := q1.c1
       go_wp2_with fail
       refine (HI1.out _).mono ?_
       rintro e w5 ⟨rfl, hb5⟩
       have T6 := T5.on hb5
       have q1 := q1.on hb5
       have q2 := q2.on hb5
       have d0 := HX1.out _ T6
       clear c0 c1 hb5 T5
       cases a1 with
       | true =>
        have HE := Lh (show stpAt xs L j = false by rw [HD.out, HSp.out]; rfl)
        go_wp2
        go_ret
        exact mkBol (by rw [HNj.out HE.out]) T6.1.1
       | false =>
        have c0 := q2.c0
        have c1 := q2.c1
        go_wp2_with fail
        refine (HI2.out _).mono ?_
        rintro e w6 ⟨rfl, hb6⟩
        have T7 := T6.on hb6
        have q1 := q1.on hb6
        have q2 := q2.on hb6
        clear d0
        have d0 := HX2.out _ T7
        clear c0 c1 hb6 T6
        cases a2 with
        | true =>
         have HE := Lh (show stpAt xs L j = false by rw [HD.out, HSp.out]; rfl)
         go_wp2
         go_ret
         exact mkBol (by rw [HNj.out HE.out]) T7.1.1
        | false =>
         have HE := Lh (show stpAt xs L j = true by rw [HD.out, HSp.out]; rfl)
         have c0 := q1.c0
         have c1 := q1.c1
         go_wp2_with fail
         refine (HI1.out _).mono ?_
         rintro e w7 ⟨rfl, hb7⟩
         have T8 : UT w (.slice A n cap) (rowU M) w7 := T7.on hb7
         have q2 := q2.on hb7
         clear c0 c1 d0 hb7 T7 q1
         obtain ⟨z1, hz1⟩ := T8.cell (rowU_length M) HK1.out
         have hf1 := T8.froz k1
         have T9 := T8.put k1 (.bool true)
         have q2 := q2.far (i := k1) (v := .bool true) hq0.2
         clear T8
         go_upto_region 11 with fail
         generalize w7.setCell ⟨w.heap.size + 1, k1, none⟩ (.bool true) = W7 at T9 q2 ⊢
         have c0 := q2.c0
         have c1 := q2.c1
         clear hz1 hf1
         go_wp2_with fail
         refine (HI2.out _).mono ?_
         rintro e w8 ⟨rfl, hb8⟩
         have T10 := T9.on hb8
         clear c0 c1 hb8 T9 q2
         obtain ⟨z2, hz2⟩ := T10.cell (by rw [List.length_set, rowU_length]) HK2.out
         have hf2 := T10.froz k2
         have T11 := T10.put k2 (.bool true)
         rw [HR.out] at T11
         clear T10
         have HT11 := Lh T11
         have HM := Lh (hM.out.succ HE.out)
         clear T11 hM
         go_wp2
         go_roundw
         case rel => exact ⟨j + 1, by omega, by go_num, by rw [HT.out]; exact HT11.out, HM⟩
         case measure => (simp [intOf] <;> omega)
    ·have HP := HPs.out hj0
     rw [hM0] at HP
     have hpl : j - 1 < L.length := by omega
     obtain ⟨jp, hjp⟩ : ∃ jp, jp = j - 1 := ⟨_, rfl⟩
     have HP : prevB M (x, y, b) = befM (L[jp]'(by omega)) (x, y, b) := by subst hjp; exact HP
     have HWq : ∀ W, Below w.heap.size w W → W.cell? ⟨b0, off + jp * 3, none⟩ = some (.int .i64 (L[jp]'(by omega)).1) ∧ W.cell? ⟨b0, off + jp * 3 + 1, none⟩ = some (.int .i64 (L[jp]'(by omega)).2.1) ∧ W.cell? ⟨b0, off + jp * 3 + 2, none⟩ = some (.bool (L[jp]'(by omega)).2.2) := fun W hb => HW.out W hb jp (by omega) (by omega)
     generalize L[jp]'(by omega) = dp at HP HWq
     obtain ⟨xp, yp, bp⟩ := dp
     simp only at HWq
     have HBf := Lh (fun W => sIsBefore xp yp bp x y b W)
     rw [HP] at HSp
     simp only [befM] at HSp
     generalize befB xp yp bp x y b = tb at HBf HSp
     have HWc : ∀ W, Below w.heap.size w W → _ := fun W hb => (show _ ∧ _ ∧ _ ∧ _ ∧ _ ∧ _ from ⟨(HWj.out W hb).1, (HWj.out W hb).2.1, (HWj.out W hb).2.2, HWq W hb⟩)
     have hwr : IntKind.i64.wrap ((j : Int) - 1) = (jp : Int) := by rw [IntKind.wrap_i64]; omega
     have hjpn : (jp : Int) < (n' : Int) := by omega
     have hdec : decide ((j : Int) > 0) = true := decide_eq_true (by omega)
     have hdec2 : (j : Int) > 0 := by omega
     have HQ := Lh HWq
     clear HP HPs HWp HWq hpl hjp
     go_upto_region 5 with fail
     refine wp_region_noPanic ?_
     refine wp_region_held_drew (S := (fun w' => w'.cell? ⟨b0, off + j * 3, none⟩ = some (.int .i64 x) ∧ w'.cell? ⟨b0, off + j * 3 + 1, none⟩ = some (.int .i64 y) ∧ w'.cell? ⟨b0, off + j * 3 + 2, none⟩ = some (.bool b) ∧ w'.cell? ⟨b0, off + jp * 3, none⟩ = some (.int .i64 xp) ∧ w'.cell? ⟨b0, off + jp * 3 + 1, none⟩ = some (.int .i64 yp) ∧ w'.cell? ⟨b0, off + jp * 3 + 2, none⟩ = some (.bool bp))) (by kernel_rfl) (HWc _ T0.drew.1.1) (fun hHeld => ?_)
     refine tka 0 ?_; try simp only [Act.put, zk]
     refine tka 1 ?_; try simp only [Act.put, zk]
     refine tka 2 ?_; try simp only [Act.put, zk]
     refine tka 3 ?_; try simp only [Act.put, zk]
     refine tr 4 fun K hK => ?_
     go_simp
     refine (HDo.out _).mono ?_
     rintro e wx ⟨rfl, hb1⟩
     have T1 := T0.drew.on hb1
     clear T0 hb1 HDo
     go_wp2_with fail
     refine hK.out _ _ (HWc _ T1.1.1) (fun hHeld => ?_)
     clear hK K
     try simp only [Act.put, zk]
     refine tka 5 ?_; try simp only [Act.put, zk]
     refine tka 6 ?_; try simp only [Act.put, zk]
     refine tka 7 ?_; try simp only [Act.put, zk]
     refine tka 8 ?_; try simp only [Act.put, zk]
     refine tka 9 ?_; try simp only [Act.put, zk]
     refine tka 10 ?_; try simp only [Act.put, zk]
     refine tka 11 ?_; try simp only [Act.put, zk]
     refine tka 12 ?_; try simp only [Act.put, zk]
     refine tka 13 ?_; try simp only [Act.put, zk]
     refine tka 14 ?_; try simp only [Act.put, zk]
     refine tka 15 ?_; try simp only [Act.put, zk]
     refine tka 16 ?_; try simp only [Act.put, zk]
     refine tka 17 ?_; try simp only [Act.put, zk]
     refine tka 18 ?_; try simp only [Act.put, zk]
     refine tr 19 fun K hK => ?_
     go_simp
     refine (HBf.out _).mono ?_
     rintro e wx ⟨rfl, hb2⟩
     have T2 := T1.on hb2
     clear T1 hb2 HBf
     go_wp2_with fail
     refine hK.out _ _ (HWc _ T2.1.1) (fun hHeld => ?_)
     clear hK K
     try simp only [Act.put, zk]
     refine tka 20 ?_; try simp only [Act.put, zk]
     refine tka 21 ?_; try simp only [Act.put, zk]
     refine tka 22 ?_; try simp only [Act.put, zk]
     refine wpAnyH_done (by kernel_rfl) (NoPanic.normal ?_) _
     clear hHeld hdec hdec2 hwr hjpn HQ HWc
     have T1 := T2
     clear T2
     cases tb with
     | false =>
      have HE := Lh (show stpAt xs L j = false by rw [HD.out, HSp.out]; rfl)
      go_wp2
      go_ret
      exact mkBol (by rw [HNj.out HE.out]) T1.1.1
     | true =>
      have HWc := HWj.out
      obtain ⟨c0, c1, c2⟩ := HWc _ T1.1.1
      go_wp2_with fail
      refine (HUt.out _).mono ?_
      rintro e w2 ⟨rfl, hb2⟩
      have T2 := T1.on hb2
      clear c0 c1 c2 T1 hb2 HUt HWc
      go_upto_region 8 with fail
      obtain ⟨q1, q2, q3⟩ := at2_two w2 x y u v
      have T3 := T2.on q3
      have hq0 : w2.heap.size ≠ w.heap.size + 1 ∧ w2.heap.size + 1 ≠ w.heap.size + 1 := by
       have := (T2.2.lt (w.heap.size + 1) rfl).2
       omega
      generalize (w2.alloc (.cells #[.int .i64 x, .int .i64 y] 79)).alloc (.cells #[.int .i64 u, .int .i64 v] 79) = W at q1 q2 T3 ⊢
      clear T2 q3
      have c0 := q1.c0
      have c1 := q1.c1
      have c2 := T3.1.2.c0
      go_wp2_with fail
      refine (HH1.out _ T3.1.1).mono ?_
      rintro e w3 ⟨rfl, hb3⟩
      have T4 := T3.on hb3
      have q1 := q1.on hb3
      have q2 := q2.on hb3
      clear c0 c1 c2 hb3 T3 HH1
      cases s1 with
      | false =>
       have HE := Lh (show stpAt xs L j = false by rw [HD.out, HSp.out]; rfl)
       go_wp2
       go_ret
       exact mkBol (by rw [HNj.out HE.out]) T4.1.1
      | true =>
       have c0 := q2.c0
       have c1 := q2.c1
       have c2 := T4.1.2.c0
       go_wp2_with fail
       refine (HH2.out _ T4.1.1).mono ?_
       rintro e w4 ⟨rfl, hb4⟩
       have T5 := T4.on hb4
       have q1 := q1.on hb4
       have q2 := q2.on hb4
       clear c0 c1 c2 hb4 T4 HH2
       cases s2 with
       | false =>
        have HE := Lh (show stpAt xs L j = false by rw [HD.out, HSp.out]; simp)
        go_wp2
        go_ret
        exact mkBol (by rw [HNj.out HE.out]) T5.1.1
       | true =>
        have c0 := q1.c0
        have c1 := q1.c1
        go_wp2_with fail
        refine (HI1.out _).mono ?_
        rintro e w5 ⟨rfl, hb5⟩
        have T6 := T5.on hb5
        have q1 := q1.on hb5
        have q2 := q2.on hb5
        have d0 := HX1.out _ T6
        clear c0 c1 hb5 T5
        cases a1 with
        | true =>
         have HE := Lh (show stpAt xs L j = false by rw [HD.out, HSp.out]; rfl)
         go_wp2
         go_ret
         exact mkBol (by rw [HNj.out HE.out]) T6.1.1
        | false =>
         have c0 := q2.c0
         have c1 := q2.c1
         go_wp2_with fail
         refine (HI2.out _).mono ?_
         rintro e w6 ⟨rfl, hb6⟩
         have T7 := T6.on hb6
         have q1 := q1.on hb6
         have q2 := q2.on hb6
         clear d0
         have d0 := HX2.out _ T7
         clear c0 c1 hb6 T6
         cases a2 with
         | true =>
          have HE := Lh (show stpAt xs L j = false by rw [HD.out, HSp.out]; rfl)
          go_wp2
          go_ret
          exact mkBol (by rw [HNj.out HE.out]) T7.1.1
         | false =>
          have HE := Lh (show stpAt xs L j = true by rw [HD.out, HSp.out]; rfl)
          have c0 := q1.c0
          have c1 := q1.c1
          go_wp2_with fail
          refine (HI1.out _).mono ?_
          rintro e w7 ⟨rfl, hb7⟩
          have T8 : UT w (.slice A n cap) (rowU M) w7 := T7.on hb7
          have q2 := q2.on hb7
          clear c0 c1 d0 hb7 T7 q1
          obtain ⟨z1, hz1⟩ := T8.cell (rowU_length M) HK1.out
          have hf1 := T8.froz k1
          have T9 := T8.put k1 (.bool true)
          have q2 := q2.far (i := k1) (v := .bool true) hq0.2
          clear T8
          go_upto_region 11 with fail
          generalize w7.setCell ⟨w.heap.size + 1, k1, none⟩ (.bool true) = W7 at T9 q2 ⊢
          have c0 := q2.c0
          have c1 := q2.c1
          clear hz1 hf1
          go_wp2_with fail
          refine (HI2.out _).mono ?_
          rintro e w8 ⟨rfl, hb8⟩
          have T10 := T9.on hb8
          clear c0 c1 hb8 T9 q2
          obtain ⟨z2, hz2⟩ := T10.cell (by rw [List.length_set, rowU_length]) HK2.out
          have hf2 := T10.froz k2
          have T11 := T10.put k2 (.bool true)
          rw [HR.out] at T11
          clear T10
          have HT11 := Lh T11
          have HM := Lh (hM.out.succ HE.out)
          clear T11 hM
          go_wp2
          go_roundw
          case rel => exact ⟨j + 1, by omega, by go_num, by rw [HT.out]; exact HT11.out, HM⟩
          case measure => (simp [intOf] <;> omega)
  ·obtain rfl : j = n' := by omega
   have HE := Lh (HY.out (by rw [HL.out]; exact hM.out))
   have T1 := T0.1
   have c0 := T1.2.c0
   clear T0
   go_wp2_with fail
   refine (HO.out _ T1.1).mono ?_
   rintro e w2 ⟨rfl, hb2⟩
   have hb := T1.1.trans (hb2.mono T1.1.size)
   clear c0 T1 hb2
   go_wp2
   go_ret
   exact mkBol (by rw [HE.out]) hb
end Go.Proofs.YtmajllgfmclcoaaGreatDoor.Til
namespace Go.Proofs.YtmajllgfmclcoaaGreatDoor.Reg
open Go.RowKit Go.Proofs.YtmajllgfmclcoaaGreatDoor.Pure Go.Proofs.YtmajllgfmclcoaaGreatDoor.Cell Go.Joins
def countR (xs : List Int) : Int := ((cellsR xs).length : Int)
set_option maxHeartbeats 400000 in
theorem sCountCells (w : World) (A : Option Addr) (n cap B : Nat) (xs : List Int) (hx : xs.length = n) (hn : (n : Int) ≤ 9223372036854775807) (h : RowB w B A xs) (hB : B ≤ w.heap.size) :
  Calls Tryz.prog 40 #[.agg #[.slice A n cap]] w (Num (countR xs) w) := by
 have HC := Lh (fun W (hb : Below w.heap.size w W) => sCellsOf W A n cap B xs hx hn (h.below hb hB) (by have := hb.size; omega))
 have HB := Lh (fun (o1 : Obj) => below_alloc1 w o1)
 have HE := Lh (show countR xs = ((cellsR xs).length : Int) from rfl)
 clear hx hn h
 generalize cellsR xs = L at HC HE
 go_enter Tryz.func40, Tryz.ntmps40
 go_wp2_with fail
 refine (HC.out _ (HB.out _)).mono ?_
 rintro e w1 ⟨A1, cap1, rfl, _, hb1⟩
 have hb := (HB.out (.cells #[.slice A n cap] 26)).trans (hb1.mono (by simp))
 clear hb1
 go_wp2
 go_ret
 exact mkNum HE.out.symm hb
end Go.Proofs.YtmajllgfmclcoaaGreatDoor.Reg
