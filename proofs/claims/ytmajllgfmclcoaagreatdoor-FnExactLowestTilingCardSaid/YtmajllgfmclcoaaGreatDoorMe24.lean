/- TilI, TilJ, HgR in one text. -/
import Derived.Test.YtmajllgfmclcoaaGreatDoorMe23
import Derived.Deep.RegionHeld3
import Derived.Test.YtmajllgfmclcoaaGreatDoorMe10
import Derived.Test.YtmajllgfmclcoaaGreatDoorMe22
import Derived.Test.YtmajllgfmclcoaaGreatDoorMe00

namespace Go.Proofs.YtmajllgfmclcoaaGreatDoor.Til
set_option linter.unusedVariables false
set_option linter.unusedSimpArgs false
open Go.RowKit Go.Proofs.YtmajllgfmclcoaaGreatDoor.Pure Go.Proofs.YtmajllgfmclcoaaGreatDoor.Cell Go.Proofs.YtmajllgfmclcoaaGreatDoor.Dom Go.Proofs.YtmajllgfmclcoaaGreatDoor.Dms Go.Joins
open Go.Proofs.YtmajllgfmclcoaaGreatDoor.Reg hiding Yes

def Rg (W : World) (q : Nat) (v : Value) : Prop := W.heap[q]? = some (.cells #[v] 26)
theorem Rg.on {W W' : World} {q : Nat} {v : Value} (h : Rg W q v) (hb : Below W.heap.size W W') : Rg W' q v := (hb.block q (Array.getElem?_eq_some_iff.1 h).1).trans h
theorem Rg.c0 {W : World} {q : Nat} {v : Value} (h : Rg W q v) : W.cell? ⟨q, 0, none⟩ = some v := (cell_of_row _ _ 0 _ _ _ h).trans rfl
theorem Rg.lt {W : World} {q : Nat} {v : Value} (h : Rg W q v) : q < W.heap.size := (Array.getElem?_eq_some_iff.1 h).1
theorem Rg.new (W : World) (v : Value) : Rg (W.alloc (.cells #[v] 26)) W.heap.size v := heap_alloc_new W _
def RC (w : World) (v : Value) (x y : Int) (W : World) : Prop := Below w.heap.size w W ∧ Rg W w.heap.size v ∧ At2 W (w.heap.size + 1) x y
def RD (w : World) (v : Value) (x y : Int) (b : Bool) (W : World) : Prop := Below w.heap.size w W ∧ Rg W w.heap.size v ∧ At3 63 W (w.heap.size + 1) x y b
theorem rc_start (w : World) (v : Value) (x y : Int) : RC w v x y ((w.alloc (.cells #[v] 26)).alloc (.cells #[.int .i64 x, .int .i64 y] 79)) := by
 have h1 := Rg.new w v
 have hb := below_alloc1 w (.cells #[v] 26)
 have hz : (w.alloc (.cells #[v] 26)).heap.size = w.heap.size + 1 := by simp
 generalize w.alloc (.cells #[v] 26) = W at h1 hb hz ⊢
 have h2 := At2.new W x y
 rw [hz] at h2
 exact ⟨hb.alloc hb.size _, h1.on (below_alloc1 W _), h2⟩
theorem rd_start (w : World) (v : Value) (x y : Int) (b : Bool) : RD w v x y b ((w.alloc (.cells #[v] 26)).alloc (.cells #[.int .i64 x, .int .i64 y, .bool b] 63)) := by
 have h1 := Rg.new w v
 have hb := below_alloc1 w (.cells #[v] 26)
 have hz : (w.alloc (.cells #[v] 26)).heap.size = w.heap.size + 1 := by simp
 generalize w.alloc (.cells #[v] 26) = W at h1 hb hz ⊢
 have h2 := At3.new 63 W x y b
 rw [hz] at h2
 exact ⟨hb.alloc hb.size _, h1.on (below_alloc1 W _), h2⟩
section
variable {w W W' : World} {v : Value} {x y : Int} {b : Bool}
theorem RC.on (h : RC w v x y W) (hb : Below W.heap.size W W') : RC w v x y W' := ⟨h.1.trans (hb.mono h.1.size), h.2.1.on hb, h.2.2.on hb⟩
theorem RD.on (h : RD w v x y b W) (hb : Below W.heap.size W W') : RD w v x y b W' := ⟨h.1.trans (hb.mono h.1.size), h.2.1.on hb, h.2.2.on hb⟩
theorem RD.drew (h : RD w v x y b W) : RD w v x y b W.drew := ⟨h.1.drew, h.2⟩
end
theorem RowM.take {w : World} {B : Nat} {A : Option Addr} {L : List Dm} (h : RowM w B A L) (k : Nat) : RowM w B A (L.take k) := by
 obtain ⟨b, off, h1, h2⟩ := h
 refine ⟨b, off, fun h0 => h1 (by rw [List.length_take] at h0; omega), fun j d hd => h2 j d ?_⟩
 rw [List.getElem?_take] at hd
 split at hd
 ·exact hd
 ·cases hd
theorem Fits.take {L : List Dm} (h : Fits L) (k : Nat) : Fits (L.take k) := fun d hd => h d (List.mem_of_mem_take hd)

set_option maxHeartbeats 1000000 in
theorem iFree (w : World) (A : Option Addr) (n cap B : Nat) (xs : List Int) (hx : xs.length = n) (hn : (n : Int) ≤ 9223372036854775807) (h : RowB w B A xs) (hB : B ≤ w.heap.size)
  (A' : Option Addr) (n' cap' B' : Nat) (L : List Dm) (hL : L.length = n') (hn' : (n' : Int) ≤ 9223372036854775807) (hf : Fits L) (h' : RowM w B' A' L) (hB' : B' ≤ w.heap.size) (x y : Int) :
  Calls Tryz.prog 148 #[.agg #[.slice A n cap], .slice A' n' cap', .agg #[.int .i64 x, .int .i64 y]] w (Bol (hasB xs x y && !anyM L x y) w) := by
 have HH := Lib.hid (fun W (hb : Below w.heap.size w W) => iHasCell W A n cap B xs hx hn (h.below hb hB) (by have := hb.size; omega) x y)
 have HA := Lib.hid (fun W (hb : Below w.heap.size w W) => iDominoAt W A' n' cap' B' L hL hn' hf (h'.below hb hB') (by have := hb.size; omega) x y)
 have HN := Lib.hid (atI_neg (L := L) (x := x) (y := y))
 have HS := Lib.hid (rc_start w (.slice A n cap) x y)
 generalize hasB xs x y = p at HH ⊢
 generalize atI L x y = q at HA HN
 generalize anyM L x y = r at HN ⊢
 clear hx hn h hB hL hn' hf h' hB'
 go_enter Tryz.func148, Tryz.ntmps148
 go_wp2_with fail
 have T0 := HS.out
 refine (HH.out _ T0.1).mono ?_
 rintro e w1 ⟨rfl, hb1⟩
 have T1 := T0.on hb1
 have c0 := T1.2.2.c0
 have c1 := T1.2.2.c1
 clear T0 HS hb1 HH
 cases p with
 | false =>
  go_wp2
  go_ret
  exact mkBol rfl T1.1
 | true =>
  go_wp2_with fail
  refine (HA.out _ T1.1).mono ?_
  rintro e w2 ⟨rfl, hb2⟩
  have hb := T1.1.trans (hb2.mono T1.1.size)
  clear T1 c0 c1 hb2 HA
  by_cases hq : q < 0
  ·have HR := Lib.hid (show r = false by have := HN.out; rw [decide_eq_true hq] at this; simpa using this.symm)
   go_wp2
   go_ret
   exact mkBol (by rw [HR.out]; rfl) hb
  ·have HR := Lib.hid (show r = true by have := HN.out; rw [decide_eq_false hq] at this; simpa using this.symm)
   go_wp2
   go_ret
   exact mkBol (by rw [HR.out, decide_eq_false (by omega)]; rfl) hb

set_option maxHeartbeats 2000000 in
theorem iCanFollow0 (w : World) (A : Option Addr) (n cap B : Nat) (xs : List Int) (hx : xs.length = n) (hn : (n : Int) ≤ 9223372036854775807) (h : RowB w B A xs) (hB : B ≤ w.heap.size)
  (A' : Option Addr) (cap' : Nat) (x y : Int) (b : Bool) (hx1 : Sm x) (hy1 : Sm y) :
  Calls Tryz.prog 136 #[.agg #[.slice A n cap], .slice A' 0 cap', .agg #[.int .i64 x, .int .i64 y, .bool b]] w (Bol (stepB xs [] (x, y, b)) w) := by
 have HF := Lib.hid (fun W (hb : Below w.heap.size w W) x y => iFree W A n cap B xs hx hn (h.below hb hB) (by have := hb.size; omega) A' 0 cap' 0 [] rfl (by omega) (fun d hd => by simp at hd) ⟨0, 0, fun h => by simp at h, fun j u hu => by simp at hu⟩ (Nat.zero_le _) x y)
 have HC := Lib.hid (fun W => iCells x y b hx1 hy1 W)
 have HS := Lib.hid (rd_start w (.slice A n cap) x y b)
 have HV := Lib.hid (show stepB xs [] (x, y, b) = (true && ((hasB xs x y && !anyM [] x y) && (hasB xs (sx x b) (sy y b) && !anyM [] (sx x b) (sy y b)))) from rfl)
 have HF1 := Lib.hid (fun W hb => HF.out W hb x y)
 have HF2 := Lib.hid (fun W hb => HF.out W hb (sx x b) (sy y b))
 generalize stepB xs [] (x, y, b) = r at HV ⊢
 generalize (hasB xs x y && !anyM [] x y) = r1 at HF1 HV
 generalize (hasB xs (sx x b) (sy y b) && !anyM [] (sx x b) (sy y b)) = r2 at HF2 HV
 generalize sx x b = p at HC HF2
 generalize sy y b = q at HC HF2
 clear HF hx hn h hB hx1 hy1
 go_enter Tryz.func136, Tryz.ntmps136
 go_upto_region 1 with fail
 have T0 := HS.out
 generalize World.alloc _ (.cells #[.int .i64 x, .int .i64 y, .bool b] 63) = W at T0 ⊢
 clear HS
 refine wp_region_noPanic ?_
 refine wp_region_held_drew (S := fun _ => True) (by kernel_rfl) trivial (fun hHeld => ?_)
 refine wpAnyH_take (i := 0) (v := ?_) rfl (by kernel_rfl) (by kernel_rfl) (by kernel_rfl) (fun _ _ _ h => h) (Or.inl ⟨by rfl, ?_⟩) (by assumption) ?_
 rotate_left
 ·(intro w' hS; (try dsimp only at hS); go_simp; try with_reducible rfl)
 try simp only [Act.put, List.getElem_toArray, List.getElem_cons_succ, List.getElem_cons_zero, List.setIfInBounds_toArray, List.set_cons_zero, List.set_cons_succ]
 refine wpAnyH_take (i := 1) (v := ?_) rfl (by kernel_rfl) (by kernel_rfl) (by kernel_rfl) (fun _ _ _ h => h) (Or.inl ⟨by rfl, ?_⟩) (by assumption) ?_
 rotate_left
 ·(intro w' hS; (try dsimp only at hS); go_simp; try with_reducible rfl)
 try simp only [Act.put, List.getElem_toArray, List.getElem_cons_succ, List.getElem_cons_zero, List.setIfInBounds_toArray, List.set_cons_zero, List.set_cons_succ]
 refine wpAnyH_take (i := 2) (v := ?_) rfl (by kernel_rfl) (by kernel_rfl) (by kernel_rfl) (fun _ _ _ h => h) (Or.inl ⟨by rfl, ?_⟩) (by assumption) ?_
 rotate_left
 ·(intro w' hS; (try dsimp only at hS); go_simp; try with_reducible rfl)
 try simp only [Act.put, List.getElem_toArray, List.getElem_cons_succ, List.getElem_cons_zero, List.setIfInBounds_toArray, List.set_cons_zero, List.set_cons_succ]
 refine wpAnyH_take (i := 3) (v := ?_) rfl (by kernel_rfl) (by kernel_rfl) (by kernel_rfl) (fun _ _ _ h => h) (Or.inl ⟨by rfl, ?_⟩) (by assumption) ?_
 rotate_left
 ·(intro w' hS; (try dsimp only at hS); go_simp; try with_reducible rfl)
 try simp only [Act.put, List.getElem_toArray, List.getElem_cons_succ, List.getElem_cons_zero, List.setIfInBounds_toArray, List.set_cons_zero, List.set_cons_succ]
 refine wpAnyH_take (i := 4) (v := undef) rfl (by kernel_rfl) (by kernel_rfl) (by kernel_rfl) (fun _ _ _ h => h) (Or.inr ⟨by rfl, rfl⟩) (by assumption) ?_
 try simp only [Act.put, List.getElem_toArray, List.getElem_cons_succ, List.getElem_cons_zero, List.setIfInBounds_toArray, List.set_cons_zero, List.set_cons_succ]
 refine wpAnyH_take (i := 5) (v := undef) rfl (by kernel_rfl) (by kernel_rfl) (by kernel_rfl) (fun _ _ _ h => h) (Or.inr ⟨by rfl, rfl⟩) (by assumption) ?_
 try simp only [Act.put, List.getElem_toArray, List.getElem_cons_succ, List.getElem_cons_zero, List.setIfInBounds_toArray, List.set_cons_zero, List.set_cons_succ]
 refine wpAnyH_take (i := 6) (v := undef) rfl (by kernel_rfl) (by kernel_rfl) (by kernel_rfl) (fun _ _ _ h => h) (Or.inr ⟨by rfl, rfl⟩) (by assumption) ?_
 try simp only [Act.put, List.getElem_toArray, List.getElem_cons_succ, List.getElem_cons_zero, List.setIfInBounds_toArray, List.set_cons_zero, List.set_cons_succ]
 refine wpAnyH_take (i := 7) (v := undef) rfl (by kernel_rfl) (by kernel_rfl) (by kernel_rfl) (fun _ _ _ h => h) (Or.inr ⟨by rfl, rfl⟩) (by assumption) ?_
 try simp only [Act.put, List.getElem_toArray, List.getElem_cons_succ, List.getElem_cons_zero, List.setIfInBounds_toArray, List.set_cons_zero, List.set_cons_succ]
 refine wpAnyH_take (i := 8) (v := undef) rfl (by kernel_rfl) (by kernel_rfl) (by kernel_rfl) (fun _ _ _ h => h) (Or.inr ⟨by rfl, rfl⟩) (by assumption) ?_
 try simp only [Act.put, List.getElem_toArray, List.getElem_cons_succ, List.getElem_cons_zero, List.setIfInBounds_toArray, List.set_cons_zero, List.set_cons_succ]
 refine wpAnyH_take (i := 9) (v := undef) rfl (by kernel_rfl) (by kernel_rfl) (by kernel_rfl) (fun _ _ _ h => h) (Or.inr ⟨by rfl, rfl⟩) (by assumption) ?_
 try simp only [Act.put, List.getElem_toArray, List.getElem_cons_succ, List.getElem_cons_zero, List.setIfInBounds_toArray, List.set_cons_zero, List.set_cons_succ]
 refine wpAnyH_take (i := 10) (v := undef) rfl (by kernel_rfl) (by kernel_rfl) (by kernel_rfl) (fun _ _ _ h => h) (Or.inr ⟨by rfl, rfl⟩) (by assumption) ?_
 try simp only [Act.put, List.getElem_toArray, List.getElem_cons_succ, List.getElem_cons_zero, List.setIfInBounds_toArray, List.set_cons_zero, List.set_cons_succ]
 refine wpAnyH_take (i := 11) (v := undef) rfl (by kernel_rfl) (by kernel_rfl) (by kernel_rfl) (fun _ _ _ h => h) (Or.inr ⟨by rfl, rfl⟩) (by assumption) ?_
 try simp only [Act.put, List.getElem_toArray, List.getElem_cons_succ, List.getElem_cons_zero, List.setIfInBounds_toArray, List.set_cons_zero, List.set_cons_succ]
 refine wpAnyH_take (i := 12) (v := undef) rfl (by kernel_rfl) (by kernel_rfl) (by kernel_rfl) (fun _ _ _ h => h) (Or.inr ⟨by rfl, rfl⟩) (by assumption) ?_
 try simp only [Act.put, List.getElem_toArray, List.getElem_cons_succ, List.getElem_cons_zero, List.setIfInBounds_toArray, List.set_cons_zero, List.set_cons_succ]
 refine wpAnyH_take (i := 13) (v := ?_) rfl (by kernel_rfl) (by kernel_rfl) (by kernel_rfl) (fun _ _ _ h => h) (Or.inl ⟨by rfl, ?_⟩) (by assumption) ?_
 rotate_left
 ·(intro w' hS; (try dsimp only at hS); go_simp; try with_reducible rfl)
 try simp only [Act.put, List.getElem_toArray, List.getElem_cons_succ, List.getElem_cons_zero, List.setIfInBounds_toArray, List.set_cons_zero, List.set_cons_succ]
 refine wpAnyH_done (by kernel_rfl) ?_ _
 refine NoPanic.normal ?_
 have T1 := T0.drew
 generalize W.drew = W1 at T1 ⊢
 have d0 := T1.2.2.c0
 have d1 := T1.2.2.c1
 have d2 := T1.2.2.c2
 go_wp2_with fail
 refine (HC.out _).mono ?_
 rintro e w2 ⟨rfl, hb2⟩
 have T2 := T1.on hb2
 clear d0 d1 d2 hb2 HC T1
 go_upto_region 4 with fail
 obtain ⟨k1, k2, k3⟩ := at2_two w2 x y p q
 have T3 := T2.on k3
 generalize (w2.alloc (.cells #[.int .i64 x, .int .i64 y] 79)).alloc (.cells #[.int .i64 p, .int .i64 q] 79) = W2 at k1 k2 T3 ⊢
 have c0 := k1.c0
 have c1 := k1.c1
 have c2 := T3.2.1.c0
 clear k1 k3 T2
 go_wp2_with fail
 refine (HF1.out _ T3.1).mono ?_
 rintro e w3 ⟨rfl, hb3⟩
 have T4 := T3.on hb3
 have k2 := k2.on hb3
 have d0 := k2.c0
 have d1 := k2.c1
 have d2 := T4.2.1.c0
 clear c0 c1 c2 hb3 T3 HF1
 cases r1 with
 | false =>
  go_wp2
  go_ret
  exact mkBol (by rw [HV.out]; rfl) T4.1
 | true =>
  go_wp2_with fail
  refine (HF2.out _ T4.1).mono ?_
  rintro e w4 ⟨rfl, hb4⟩
  have hb := T4.1.trans (hb4.mono T4.1.size)
  clear d0 d1 d2 hb4 HF2 T4
  go_wp2
  go_ret
  exact mkBol (by rw [HV.out]; rfl) hb
set_option maxHeartbeats 2000000 in
theorem iCanFollow1 (w : World) (A : Option Addr) (n cap B : Nat) (xs : List Int) (hx : xs.length = n) (hn : (n : Int) ≤ 9223372036854775807) (h : RowB w B A xs) (hB : B ≤ w.heap.size)
  (A' : Option Addr) (n' cap' B' : Nat) (L : List Dm) (hL : L.length = n') (hn' : (n' : Int) ≤ 9223372036854775807) (hf : Fits L) (h' : RowM w B' A' L) (hB' : B' ≤ w.heap.size) (h0 : 0 < n') (x y : Int) (b : Bool) (hx1 : Sm x) (hy1 : Sm y) :
  Calls Tryz.prog 136 #[.agg #[.slice A n cap], .slice A' n' cap', .agg #[.int .i64 x, .int .i64 y, .bool b]] w (Bol (stepB xs L (x, y, b)) w) := by
 have HF := Lib.hid (fun W (hb : Below w.heap.size w W) x y => iFree W A n cap B xs hx hn (h.below hb hB) (by have := hb.size; omega) A' n' cap' B' L hL hn' hf (h'.below hb hB') (by have := hb.size; omega) x y)
 have HC := Lib.hid (fun W => iCells x y b hx1 hy1 W)
 have HS := Lib.hid (rd_start w (.slice A n cap) x y b)
 obtain ⟨k, hk⟩ : ∃ k, k = n' - 1 := ⟨_, rfl⟩
 have hl : k < L.length := by omega
 obtain ⟨b0, off, hA, hR⟩ := h'.at
 obtain ⟨rfl, hbB⟩ := hA (by omega)
 have hR := hR k hl
 have hlast : L.getLast? = some L[k] := by rw [List.getLast?_eq_getElem?, hL, ← hk]; exact List.getElem?_eq_getElem hl
 have hfl := hf L[k] (List.getElem_mem hl)
 generalize L[k] = d at hR hlast hfl
 obtain ⟨u, v, c⟩ := d
 have HI := Lib.hid (fun W => iIsBefore u v c x y b hfl.1 hfl.2 hx1 hy1 W)
 have HV := Lib.hid (show stepB xs L (x, y, b) = (befB u v c x y b && ((hasB xs x y && !anyM L x y) && (hasB xs (sx x b) (sy y b) && !anyM L (sx x b) (sy y b)))) by unfold stepB; rw [hlast]; rfl)
 have HF1 := Lib.hid (fun W hb => HF.out W hb x y)
 have HF2 := Lib.hid (fun W hb => HF.out W hb (sx x b) (sy y b))
 generalize stepB xs L (x, y, b) = r at HV ⊢
 generalize (hasB xs x y && !anyM L x y) = r1 at HF1 HV
 generalize (hasB xs (sx x b) (sy y b) && !anyM L (sx x b) (sy y b)) = r2 at HF2 HV
 generalize sx x b = p at HC HF2
 generalize sy y b = q at HC HF2
 generalize befB u v c x y b = t at HI HV
 have HW := Lib.hid (fun W (hb : Below w.heap.size w W) => (show _ ∧ _ ∧ _ from ⟨(hb.cell (p := ⟨b0, off + k * 3, none⟩) (by show b0 < _; omega)).trans hR.1, (hb.cell (p := ⟨b0, off + k * 3 + 1, none⟩) (by show b0 < _; omega)).trans hR.2.1, (hb.cell (p := ⟨b0, off + k * 3 + 2, none⟩) (by show b0 < _; omega)).trans hR.2.2⟩))
 simp only at HW
 have HG := Lib.hid (show ((n' : Int) > 0) by omega)
 have hsub : IntKind.i64.wrap ((n' : Int) - 1) = (k : Int) := by rw [IntKind.wrap_i64]; omega
 have hkn : (k : Int) < (n' : Int) := by omega
 have hdec : decide ((n' : Int) > 0) = true := decide_eq_true HG.out
 clear HF hx hn h hB hx1 hy1 hA hR hlast hfl hf h' hbB hB' hl hk hL
 go_enter Tryz.func136, Tryz.ntmps136
 go_upto_region 1 with fail
 have T0 := HS.out
 generalize World.alloc _ (.cells #[.int .i64 x, .int .i64 y, .bool b] 63) = W at T0 ⊢
 clear HS
 refine wp_region_noPanic ?_
 refine wp_region_held_drew (S := (fun w' => w'.cell? ⟨w.heap.size + 1, 0, none⟩ = some (.int .i64 x) ∧ w'.cell? ⟨w.heap.size + 1, 1, none⟩ = some (.int .i64 y) ∧ w'.cell? ⟨w.heap.size + 1, 2, none⟩ = some (.bool b) ∧ w'.cell? ⟨b0, off + k * 3, none⟩ = some (.int .i64 u) ∧ w'.cell? ⟨b0, off + k * 3 + 1, none⟩ = some (.int .i64 v) ∧ w'.cell? ⟨b0, off + k * 3 + 2, none⟩ = some (.bool c))) (by kernel_rfl) (⟨T0.drew.2.2.c0, T0.drew.2.2.c1, T0.drew.2.2.c2, HW.out _ T0.drew.1⟩) (fun hHeld => ?_)
 refine wpAnyH_take (i := 0) (v := ?_) rfl (by kernel_rfl) (by kernel_rfl) (by kernel_rfl) (fun _ _ _ h => h) (Or.inl ⟨by rfl, ?_⟩) (by assumption) ?_
 rotate_left
 ·(intro w' hS; (try dsimp only at hS); go_simp; try with_reducible rfl)
 try simp only [Act.put, List.getElem_toArray, List.getElem_cons_succ, List.getElem_cons_zero, List.setIfInBounds_toArray, List.set_cons_zero, List.set_cons_succ]
 refine wpAnyH_take (i := 1) (v := ?_) rfl (by kernel_rfl) (by kernel_rfl) (by kernel_rfl) (fun _ _ _ h => h) (Or.inl ⟨by rfl, ?_⟩) (by assumption) ?_
 rotate_left
 ·(intro w' hS; (try dsimp only at hS); go_simp; try with_reducible rfl)
 try simp only [Act.put, List.getElem_toArray, List.getElem_cons_succ, List.getElem_cons_zero, List.setIfInBounds_toArray, List.set_cons_zero, List.set_cons_succ]
 refine wpAnyH_take (i := 2) (v := ?_) rfl (by kernel_rfl) (by kernel_rfl) (by kernel_rfl) (fun _ _ _ h => h) (Or.inl ⟨by rfl, ?_⟩) (by assumption) ?_
 rotate_left
 ·(intro w' hS; (try dsimp only at hS); go_simp; try with_reducible rfl)
 try simp only [Act.put, List.getElem_toArray, List.getElem_cons_succ, List.getElem_cons_zero, List.setIfInBounds_toArray, List.set_cons_zero, List.set_cons_succ]
 refine wpAnyH_take (i := 3) (v := ?_) rfl (by kernel_rfl) (by kernel_rfl) (by kernel_rfl) (fun _ _ _ h => h) (Or.inl ⟨by rfl, ?_⟩) (by assumption) ?_
 rotate_left
 ·(intro w' hS; (try dsimp only at hS); go_simp; try with_reducible rfl)
 try simp only [Act.put, List.getElem_toArray, List.getElem_cons_succ, List.getElem_cons_zero, List.setIfInBounds_toArray, List.set_cons_zero, List.set_cons_succ]
 refine wpAnyH_take (i := 4) (v := ?_) rfl (by kernel_rfl) (by kernel_rfl) (by kernel_rfl) (fun _ _ _ h => h) (Or.inl ⟨by rfl, ?_⟩) (by assumption) ?_
 rotate_left
 ·(intro w' hS; (try dsimp only at hS); go_simp; try with_reducible rfl)
 try simp only [Act.put, List.getElem_toArray, List.getElem_cons_succ, List.getElem_cons_zero, List.setIfInBounds_toArray, List.set_cons_zero, List.set_cons_succ]
 refine wpAnyH_take (i := 5) (v := ?_) rfl (by kernel_rfl) (by kernel_rfl) (by kernel_rfl) (fun _ _ _ h => h) (Or.inl ⟨by rfl, ?_⟩) (by assumption) ?_
 rotate_left
 ·(intro w' hS; (try dsimp only at hS); go_simp; try with_reducible rfl)
 try simp only [Act.put, List.getElem_toArray, List.getElem_cons_succ, List.getElem_cons_zero, List.setIfInBounds_toArray, List.set_cons_zero, List.set_cons_succ]
 refine wpAnyH_take (i := 6) (v := ?_) rfl (by kernel_rfl) (by kernel_rfl) (by kernel_rfl) (fun _ _ _ h => h) (Or.inl ⟨by rfl, ?_⟩) (by assumption) ?_
 rotate_left
 ·(intro w' hS; (try dsimp only at hS); go_simp; try with_reducible rfl)
 try simp only [Act.put, List.getElem_toArray, List.getElem_cons_succ, List.getElem_cons_zero, List.setIfInBounds_toArray, List.set_cons_zero, List.set_cons_succ]
 refine wpAnyH_take (i := 7) (v := ?_) rfl (by kernel_rfl) (by kernel_rfl) (by kernel_rfl) (fun _ _ _ h => h) (Or.inl ⟨by rfl, ?_⟩) (by assumption) ?_
 rotate_left
 ·(intro w' hS; (try dsimp only at hS); go_simp; try with_reducible rfl)
 try simp only [Act.put, List.getElem_toArray, List.getElem_cons_succ, List.getElem_cons_zero, List.setIfInBounds_toArray, List.set_cons_zero, List.set_cons_succ]
 refine wpAnyH_take (i := 8) (v := ?_) rfl (by kernel_rfl) (by kernel_rfl) (by kernel_rfl) (fun _ _ _ h => h) (Or.inl ⟨by rfl, ?_⟩) (by assumption) ?_
 rotate_left
 ·(intro w' hS; (try dsimp only at hS); go_simp; try with_reducible rfl)
 try simp only [Act.put, List.getElem_toArray, List.getElem_cons_succ, List.getElem_cons_zero, List.setIfInBounds_toArray, List.set_cons_zero, List.set_cons_succ]
 refine wpAnyH_take (i := 9) (v := ?_) rfl (by kernel_rfl) (by kernel_rfl) (by kernel_rfl) (fun _ _ _ h => h) (Or.inl ⟨by rfl, ?_⟩) (by assumption) ?_
 rotate_left
 ·(intro w' hS; (try dsimp only at hS); go_simp; try with_reducible rfl)
 try simp only [Act.put, List.getElem_toArray, List.getElem_cons_succ, List.getElem_cons_zero, List.setIfInBounds_toArray, List.set_cons_zero, List.set_cons_succ]
 refine wpAnyH_take (i := 10) (v := ?_) rfl (by kernel_rfl) (by kernel_rfl) (by kernel_rfl) (fun _ _ _ h => h) (Or.inl ⟨by rfl, ?_⟩) (by assumption) ?_
 rotate_left
 ·(intro w' hS; (try dsimp only at hS); go_simp; try with_reducible rfl)
 try simp only [Act.put, List.getElem_toArray, List.getElem_cons_succ, List.getElem_cons_zero, List.setIfInBounds_toArray, List.set_cons_zero, List.set_cons_succ]
 refine wpAnyH_ready (rs := [11]) (by kernel_rfl) (by simp) ?_
 refine AllReadyH.cons rfl (fun K hK => ?_) AllReadyH.nil
 go_simp
 refine (HI.out _).mono ?_
 rintro e wx ⟨rfl, hb1⟩
 have T1 := T0.drew.on hb1
 clear T0 hb1 HI
 go_wp2_with fail
 refine hK.out _ _ (⟨T1.2.2.c0, T1.2.2.c1, T1.2.2.c2, HW.out _ T1.1⟩) (fun hHeld => ?_)
 clear hK K
 try simp only [Act.put, List.getElem_toArray, List.getElem_cons_succ, List.getElem_cons_zero, List.setIfInBounds_toArray, List.set_cons_zero, List.set_cons_succ]
 refine wpAnyH_take (i := 12) (v := ?_) rfl (by kernel_rfl) (by kernel_rfl) (by kernel_rfl) (fun _ _ _ h => h) (Or.inl ⟨by rfl, ?_⟩) (by assumption) ?_
 rotate_left
 ·(intro w' hS; (try dsimp only at hS); go_simp; try with_reducible rfl)
 try simp only [Act.put, List.getElem_toArray, List.getElem_cons_succ, List.getElem_cons_zero, List.setIfInBounds_toArray, List.set_cons_zero, List.set_cons_succ]
 refine wpAnyH_take (i := 13) (v := ?_) rfl (by kernel_rfl) (by kernel_rfl) (by kernel_rfl) (fun _ _ _ h => h) (Or.inl ⟨by rfl, ?_⟩) (by assumption) ?_
 rotate_left
 ·(intro w' hS; (try dsimp only at hS); go_simp; try with_reducible rfl)
 try simp only [Act.put, List.getElem_toArray, List.getElem_cons_succ, List.getElem_cons_zero, List.setIfInBounds_toArray, List.set_cons_zero, List.set_cons_succ]
 refine wpAnyH_done (by kernel_rfl) ?_ _
 refine NoPanic.normal ?_
 clear hHeld
 generalize wx = W1 at T1 ⊢
 cases t with
 | false =>
  go_wp2
  go_ret
  exact mkBol (by rw [HV.out]; rfl) T1.1
 | true =>
  have d0 := T1.2.2.c0
  have d1 := T1.2.2.c1
  have d2 := T1.2.2.c2
  go_wp2_with fail
  refine (HC.out _).mono ?_
  rintro e w2 ⟨rfl, hb2⟩
  have T2 := T1.on hb2
  clear d0 d1 d2 hb2 HC T1
  go_upto_region 4 with fail
  obtain ⟨k1, k2, k3⟩ := at2_two w2 x y p q
  have T3 := T2.on k3
  generalize (w2.alloc (.cells #[.int .i64 x, .int .i64 y] 79)).alloc (.cells #[.int .i64 p, .int .i64 q] 79) = W2 at k1 k2 T3 ⊢
  have c0 := k1.c0
  have c1 := k1.c1
  have c2 := T3.2.1.c0
  clear k1 k3 T2
  go_wp2_with fail
  refine (HF1.out _ T3.1).mono ?_
  rintro e w3 ⟨rfl, hb3⟩
  have T4 := T3.on hb3
  have k2 := k2.on hb3
  have d0 := k2.c0
  have d1 := k2.c1
  have d2 := T4.2.1.c0
  clear c0 c1 c2 hb3 T3 HF1
  cases r1 with
  | false =>
   go_wp2
   go_ret
   exact mkBol (by rw [HV.out]; rfl) T4.1
  | true =>
   go_wp2_with fail
   refine (HF2.out _ T4.1).mono ?_
   rintro e w4 ⟨rfl, hb4⟩
   have hb := T4.1.trans (hb4.mono T4.1.size)
   clear d0 d1 d2 hb4 HF2 T4
   go_wp2
   go_ret
   exact mkBol (by rw [HV.out]; rfl) hb
end Go.Proofs.YtmajllgfmclcoaaGreatDoor.Til

namespace Go.Proofs.YtmajllgfmclcoaaGreatDoor.Til
set_option linter.unusedVariables false
set_option linter.unusedSimpArgs false
open Go.RowKit Go.Proofs.YtmajllgfmclcoaaGreatDoor.Pure Go.Proofs.YtmajllgfmclcoaaGreatDoor.Cell Go.Proofs.YtmajllgfmclcoaaGreatDoor.Dom Go.Proofs.YtmajllgfmclcoaaGreatDoor.Dms Go.Joins
open Go.Proofs.YtmajllgfmclcoaaGreatDoor.Reg hiding Yes RC rc_start

theorem iCanFollow (w : World) (A : Option Addr) (n cap B : Nat) (xs : List Int) (hx : xs.length = n) (hn : (n : Int) ≤ 9223372036854775807) (h : RowB w B A xs) (hB : B ≤ w.heap.size)
  (A' : Option Addr) (n' cap' B' : Nat) (L : List Dm) (hL : L.length = n') (hn' : (n' : Int) ≤ 9223372036854775807) (hf : Fits L) (h' : RowM w B' A' L) (hB' : B' ≤ w.heap.size) (x y : Int) (b : Bool) (hx1 : Sm x) (hy1 : Sm y) :
  Calls Tryz.prog 136 #[.agg #[.slice A n cap], .slice A' n' cap', .agg #[.int .i64 x, .int .i64 y, .bool b]] w (Bol (stepB xs L (x, y, b)) w) := by
 rcases Nat.eq_zero_or_pos n' with h0 | h0
 ·subst h0
  obtain rfl : L = [] := List.eq_nil_of_length_eq_zero hL
  exact iCanFollow0 w A n cap B xs hx hn h hB A' cap' x y b hx1 hy1
 ·exact iCanFollow1 w A n cap B xs hx hn h hB A' n' cap' B' L hL hn' hf h' hB' h0 x y b hx1 hy1
def Go1 (xs : List Int) (L : List Dm) (k : Nat) : Prop := ∀ j, j < k → stpAt xs L j = true
theorem Go1.zero (xs : List Int) (L : List Dm) : Go1 xs L 0 := fun j h => by omega
theorem Go1.succ {xs : List Int} {L : List Dm} {k : Nat} (h : Go1 xs L k) (hs : stpAt xs L k = true) : Go1 xs L (k + 1) := by
 intro j hj
 by_cases e : j = k
 ·subst e; exact hs
 ·exact h j (by omega)
def R1 (w : World) (v : Value) (W : World) : Prop := Below w.heap.size w W ∧ Rg W w.heap.size v
theorem r1_start (w : World) (v : Value) : R1 w v (w.alloc (.cells #[v] 26)) := ⟨below_alloc1 w _, Rg.new w v⟩
theorem R1.on {w W W' : World} {v : Value} (h : R1 w v W) (hb : Below W.heap.size W W') : R1 w v W' := ⟨h.1.trans (hb.mono h.1.size), h.2.on hb⟩
theorem R1.drew {w W : World} {v : Value} (h : R1 w v W) : R1 w v W.drew := ⟨h.1.drew, h.2⟩

set_option maxRecDepth 100000 in
set_option maxHeartbeats 2000000 in
theorem iIsPartial (w : World) (A : Option Addr) (n cap B : Nat) (xs : List Int) (hx : xs.length = n) (hn : (n : Int) ≤ 9223372036854775807) (h : RowB w B A xs) (hB : B ≤ w.heap.size)
  (A' : Option Addr) (n' cap' B' : Nat) (L : List Dm) (hL : L.length = n') (hn' : (n' : Int) ≤ 9223372036854775807) (hf : Fits L) (h' : RowM w B' A' L) (hB' : B' ≤ w.heap.size) (hcap : n' ≤ cap') :
  Calls Tryz.prog 115 #[.agg #[.slice A n cap], .slice A' n' cap'] w (Bol (partB xs L) w) := by
 obtain ⟨b0, off, hA, hR⟩ := h'.at
 have HS := Lib.hid (r1_start w (.slice A n cap))
 have HO := Lib.hid (fun W (hb : Below w.heap.size w W) => iRegionOk W A n cap B xs hx hn (h.below hb hB) (by have := hb.size; omega))
 have HF := Lib.hid (fun W (hb : Below w.heap.size w W) j (hj : j < n') (hjL : j < L.length) => iCanFollow W A n cap B xs hx hn (h.below hb hB) (by have := hb.size; omega) A' j cap' B' (L.take j) (by rw [List.length_take]; omega) (by omega) (Fits.take hf j) (RowM.take (h'.below hb hB') j) (by have := hb.size; omega) L[j].1 L[j].2.1 L[j].2.2 (hf _ (List.getElem_mem hjL)).1 (hf _ (List.getElem_mem hjL)).2)
 have HW := Lib.hid (fun W (hb : Below w.heap.size w W) (j : Nat) (hj : j < L.length) (h0 : 0 < L.length) => (show _ ∧ _ ∧ _ from ⟨(hb.cell (p := ⟨b0, off + j * 3, none⟩) (by have := (hA h0).2; show b0 < _; omega)).trans (hR j hj).1, (hb.cell (p := ⟨b0, off + j * 3 + 1, none⟩) (by have := (hA h0).2; show b0 < _; omega)).trans (hR j hj).2.1, (hb.cell (p := ⟨b0, off + j * 3 + 2, none⟩) (by have := (hA h0).2; show b0 < _; omega)).trans (hR j hj).2.2⟩))
 have HA := Lib.hid (fun h0 => (hA h0).1)
 have HL := Lib.hid hL
 have HY := Lib.hid (fun (ho : okRB xs = true) (hg : Go1 xs L L.length) => part_yes ho hg)
 have HN := Lib.hid (fun k (hk : k < L.length) hs => part_no (xs := xs) (L := L) (k := k) hk hs)
 have HX := Lib.hid (part_not (xs := xs) (L := L))
 generalize partB xs L = r at HY HN HX ⊢
 clear hx h hB hL hf h' hB' hA hR
 go_enter Tryz.func115, Tryz.ntmps115
 go_wp2_with fail
 have T0 := HS.out
 refine (HO.out _ T0.1).mono ?_
 rintro e w1 ⟨rfl, hb1⟩
 have T1 := T0.on hb1
 clear T0 HS hb1 HO
 cases ho : okRB xs with
 | false =>
  have HE := Lib.hid (HX.out ho)
  clear HX HY HN ho
  go_wp2
  go_ret
  exact mkBol (by rw [HE.out]) T1.1
 | true =>
  have HY := Lib.hid (fun hg => HY.out ho hg)
  clear ho HX
  go_wp2_with fail
  go_loopw [12] (fun i wr => ∃ j : Nat, j ≤ n' ∧ i = .int .i64 j ∧ R1 w (.slice A n cap) wr ∧ Hid (Go1 xs L j)) (fun i _ => n' - (intOf i).toNat)
  case atStart => exact ⟨0, Nat.zero_le _, rfl, T1, Lib.hid (Go1.zero _ _)⟩
  case round =>
   clear T1
   obtain ⟨j, hj, rfl, hT, hM⟩ := hrel
   by_cases hlt : j < n'
   ·have hjL : j < L.length := by have := HL.out; omega
    obtain rfl := HA.out (by omega)
    obtain ⟨c0, c1, c2⟩ := HW.out _ hT.1 j hjL (by omega)
    have HD := Lib.hid (stpAt_of (xs := xs) hjL)
    have HFj := Lib.hid (fun W hb => HF.out W hb j hlt hjL)
    generalize L[j] = d at c0 c1 c2 HD HFj
    obtain ⟨u, v, b⟩ := d
    simp only at c0 c1 c2 HFj
    generalize stepB xs (L.take j) (u, v, b) = t at HFj HD
    have HNj := Lib.hid (fun hs => HN.out j hjL hs)
    have hjc : (j : Int) ≤ (cap' : Int) := by omega
    have HT := Lib.hid hT
    clear hT
    go_upto_region 6 with fail
    have k1 := At3.new 63 wr u v b
    have T1 := HT.out.on (below_alloc1 wr (.cells #[.int .i64 u, .int .i64 v, .bool b] 63))
    generalize wr.heap.size = p at k1 ⊢
    generalize wr.alloc (.cells #[.int .i64 u, .int .i64 v, .bool b] 63) = W at k1 T1 ⊢
    clear HT c0 c1 c2
    refine wp_region_noPanic ?_
    refine wp_region_held_drew (S := (fun w' => w'.cell? ⟨p, 0, none⟩ = some (.int .i64 u) ∧ w'.cell? ⟨p, 1, none⟩ = some (.int .i64 v) ∧ w'.cell? ⟨p, 2, none⟩ = some (.bool b) ∧ w'.cell? ⟨w.heap.size, 0, none⟩ = some (.slice A n cap))) (by kernel_rfl) (⟨k1.c0, k1.c1, k1.c2, T1.drew.2.c0⟩) (fun hHeld => ?_)
    refine wpAnyH_take (i := 0) (v := ?_) rfl (by kernel_rfl) (by kernel_rfl) (by kernel_rfl) (fun _ _ _ h => h) (Or.inl ⟨by rfl, ?_⟩) (by assumption) ?_
    rotate_left
    ·(intro w' hS; (try dsimp only at hS); go_simp; try with_reducible rfl)
    try simp only [Act.put, List.getElem_toArray, List.getElem_cons_succ, List.getElem_cons_zero, List.setIfInBounds_toArray, List.set_cons_zero, List.set_cons_succ]
    refine wpAnyH_take (i := 1) (v := ?_) rfl (by kernel_rfl) (by kernel_rfl) (by kernel_rfl) (fun _ _ _ h => h) (Or.inl ⟨by rfl, ?_⟩) (by assumption) ?_
    rotate_left
    ·(intro w' hS; (try dsimp only at hS); go_simp; try with_reducible rfl)
    try simp only [Act.put, List.getElem_toArray, List.getElem_cons_succ, List.getElem_cons_zero, List.setIfInBounds_toArray, List.set_cons_zero, List.set_cons_succ]
    refine wpAnyH_take (i := 2) (v := ?_) rfl (by kernel_rfl) (by kernel_rfl) (by kernel_rfl) (fun _ _ _ h => h) (Or.inl ⟨by rfl, ?_⟩) (by assumption) ?_
    rotate_left
    ·(intro w' hS; (try dsimp only at hS); go_simp; try with_reducible rfl)
    try simp only [Act.put, List.getElem_toArray, List.getElem_cons_succ, List.getElem_cons_zero, List.setIfInBounds_toArray, List.set_cons_zero, List.set_cons_succ]
    refine wpAnyH_take (i := 3) (v := ?_) rfl (by kernel_rfl) (by kernel_rfl) (by kernel_rfl) (fun _ _ _ h => h) (Or.inl ⟨by rfl, ?_⟩) (by assumption) ?_
    rotate_left
    ·(intro w' hS; (try dsimp only at hS); go_simp; try with_reducible rfl)
    try simp only [Act.put, List.getElem_toArray, List.getElem_cons_succ, List.getElem_cons_zero, List.setIfInBounds_toArray, List.set_cons_zero, List.set_cons_succ]
    refine wpAnyH_take (i := 4) (v := ?_) rfl (by kernel_rfl) (by kernel_rfl) (by kernel_rfl) (fun _ _ _ h => h) (Or.inl ⟨by rfl, ?_⟩) (by assumption) ?_
    rotate_left
    ·(intro w' hS; (try dsimp only at hS); go_simp; try with_reducible rfl)
    try simp only [Act.put, List.getElem_toArray, List.getElem_cons_succ, List.getElem_cons_zero, List.setIfInBounds_toArray, List.set_cons_zero, List.set_cons_succ]
    refine wpAnyH_ready (rs := [5]) (by kernel_rfl) (by simp) ?_
    refine AllReadyH.cons rfl (fun K hK => ?_) AllReadyH.nil
    go_simp
    refine (HFj.out _ T1.drew.1).mono ?_
    rintro e wx ⟨rfl, hb1⟩
    have T2 := T1.drew.on hb1
    have k2 := (show At3 63 W.drew p u v b from k1).on hb1
    clear T1 k1 hb1 HFj
    go_wp2_with fail
    refine hK.out _ _ (⟨k2.c0, k2.c1, k2.c2, T2.2.c0⟩) (fun hHeld => ?_)
    clear hK K
    try simp only [Act.put, List.getElem_toArray, List.getElem_cons_succ, List.getElem_cons_zero, List.setIfInBounds_toArray, List.set_cons_zero, List.set_cons_succ]
    refine wpAnyH_take (i := 6) (v := ?_) rfl (by kernel_rfl) (by kernel_rfl) (by kernel_rfl) (fun _ _ _ h => h) (Or.inl ⟨by rfl, ?_⟩) (by assumption) ?_
    rotate_left
    ·(intro w' hS; (try dsimp only at hS); go_simp; try with_reducible rfl)
    try simp only [Act.put, List.getElem_toArray, List.getElem_cons_succ, List.getElem_cons_zero, List.setIfInBounds_toArray, List.set_cons_zero, List.set_cons_succ]
    refine wpAnyH_done (by kernel_rfl) ?_ _
    refine NoPanic.normal ?_
    clear hHeld k2
    cases t with
    | false =>
     have HE := Lib.hid (HNj.out HD.out)
     go_wp2
     go_ret
     exact mkBol (by rw [HE.out]) T2.1
    | true =>
     have HM := Lib.hid (hM.out.succ HD.out)
     clear hM HNj HD
     go_wp2
     go_roundw
     case rel => exact ⟨j + 1, by omega, by go_num, T2, HM⟩
     case measure => (simp [intOf] <;> omega)
   ·obtain rfl : j = n' := by omega
    have HE := Lib.hid (HY.out (by rw [HL.out]; exact hM.out))
    go_wp2
    go_ret
    exact mkBol (by rw [HE.out]) hT.1
end Go.Proofs.YtmajllgfmclcoaaGreatDoor.Til

namespace Go.Proofs.YtmajllgfmclcoaaGreatDoor.Hgt
set_option linter.unusedVariables false
set_option linter.unusedSimpArgs false
open Go.RowKit Go.Proofs.YtmajllgfmclcoaaGreatDoor.Pure Go.Proofs.YtmajllgfmclcoaaGreatDoor.Dms Go.Proofs.YtmajllgfmclcoaaGreatDoor.Til Go.Joins
open Go.Proofs.YtmajllgfmclcoaaGreatDoor.Reg (ints)
open Go.Proofs.YtmajllgfmclcoaaGreatDoor.Flo (simB)

def hgtR (xs : List Int) (L : List Dm) (h : List Int) : Prop := (simB xs = true ∧ Row9 xs L h) ∨ (¬ (simB xs = true ∧ tilB xs L = true) ∧ h = [])
def HgtP (xs : List Int) (L : List Dm) (w : World) (e : Ending) (w' : World) : Prop :=
 ∃ (h : List Int) (A : Option Addr) (n cap : Nat), hgtR xs L h ∧ h.length = n ∧ e = .returned (.slice A n cap) ∧ w'.ownsRow w.heap.size 3 1 (.slice A n cap) n (ints h) ∧ Below w.heap.size w w'
theorem first_lc {xs : List Int} (ok : okR xs) {x y : Int} {t : List (Int × Int)} (h : cellsR xs = (x, y) :: t) : (0 ≤ x ∧ x ≤ 7 ∧ 0 ≤ y ∧ y ≤ 7) ∧ ((lc xs : Nat) : Int) = y * 9 + x := by
 have hb : hasB xs x y = true := mem_cells.1 (h ▸ List.mem_cons_self ..)
 obtain ⟨_, x0, x7, y0, y7, _⟩ := hasB_iff.1 hb
 have hl : ∀ x' y', hasB xs x' y' = true → y * 8 + x ≤ y' * 8 + x' := fun x' y' hc => by
  have hm := mem_cells.2 hc
  have hi := cells_inc xs
  rw [h] at hm hi
  rcases List.mem_cons.1 hm with e | e
  ·injection e with e1 e2; omega
  ·have := (List.pairwise_cons.1 hi).1 _ e
   simp only at this
   omega
 refine ⟨⟨x0, x7, y0, y7⟩, ?_⟩
 obtain ⟨a, ha⟩ : ∃ a : Nat, (a : Int) = x := ⟨x.toNat, by omega⟩
 obtain ⟨b, hb'⟩ : ∃ b : Nat, (b : Int) = y := ⟨y.toNat, by omega⟩
 have e : lc xs = 9 * b + a := by
  refine lc_of (by omega) (crn_any.2 ⟨0, by omega, ?_⟩) (fun v hv => ?_)
  ·rw [show (((9 * b + a) % 9 : Nat) : Int) - ((0 % 2 : Nat) : Int) = x by omega, show (((9 * b + a) / 9 : Nat) : Int) - ((0 / 2 : Nat) : Int) = y by omega]
   exact hb
  ·cases q : crnB xs v with
   | false => rfl
   | true =>
    obtain ⟨i, hi, hc⟩ := crn_any.1 q
    obtain ⟨_, c0, c7, d0, d7, _⟩ := hasB_iff.1 hc
    have := hl _ _ hc
    omega
 rw [e]; omega
end Go.Proofs.YtmajllgfmclcoaaGreatDoor.Hgt
