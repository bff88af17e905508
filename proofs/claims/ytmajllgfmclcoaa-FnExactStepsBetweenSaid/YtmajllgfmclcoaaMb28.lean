/- TilI in one text. -/
import Derived.Test.YtmajllgfmclcoaaMb27
import Derived.Deep.RegionHeld3

namespace Go.Proofs.Ytmajllgfmclcoaa.Til
set_option linter.unusedVariables false
set_option linter.unusedSimpArgs false
open Go.RowKit Go.Proofs.Ytmajllgfmclcoaa.Pure Go.Proofs.Ytmajllgfmclcoaa.Cell Go.Proofs.Ytmajllgfmclcoaa.Dom Go.Proofs.Ytmajllgfmclcoaa.Dms Go.Joins
open Go.Proofs.Ytmajllgfmclcoaa.Reg hiding Yes

def Rg (W : World) (q : Nat) (v : Value) : Prop := W.heap[q]? = some (.cells #[v] 29)
theorem Rg.on {W W' : World} {q : Nat} {v : Value} (h : Rg W q v) (hb : Below W.heap.size W W') : Rg W' q v := (hb.block q (Array.getElem?_eq_some_iff.1 h).1).trans h
theorem Rg.c0 {W : World} {q : Nat} {v : Value} (h : Rg W q v) : W.cell? ⟨q, 0, none⟩ = some v := (cell_of_row _ _ 0 _ _ _ h).trans rfl
theorem Rg.lt {W : World} {q : Nat} {v : Value} (h : Rg W q v) : q < W.heap.size := (Array.getElem?_eq_some_iff.1 h).1
theorem Rg.new (W : World) (v : Value) : Rg (W.alloc (.cells #[v] 29)) W.heap.size v := heap_alloc_new W _
def RC (w : World) (v : Value) (x y : Int) (W : World) : Prop := Below w.heap.size w W ∧ Rg W w.heap.size v ∧ At2 W (w.heap.size + 1) x y
def RD (w : World) (v : Value) (x y : Int) (b : Bool) (W : World) : Prop := Below w.heap.size w W ∧ Rg W w.heap.size v ∧ At3 41 W (w.heap.size + 1) x y b
theorem rc_start (w : World) (v : Value) (x y : Int) : RC w v x y ((w.alloc (.cells #[v] 29)).alloc (.cells #[.int .i64 x, .int .i64 y] 56)) := by
 have h1 := Rg.new w v
 have hb := below_alloc1 w (.cells #[v] 29)
 have hz : (w.alloc (.cells #[v] 29)).heap.size = w.heap.size + 1 := by simp
 generalize w.alloc (.cells #[v] 29) = W at h1 hb hz ⊢
 have h2 := At2.new W x y
 rw [hz] at h2
 exact ⟨hb.alloc hb.size _, h1.on (below_alloc1 W _), h2⟩
theorem rd_start (w : World) (v : Value) (x y : Int) (b : Bool) : RD w v x y b ((w.alloc (.cells #[v] 29)).alloc (.cells #[.int .i64 x, .int .i64 y, .bool b] 41)) := by
 have h1 := Rg.new w v
 have hb := below_alloc1 w (.cells #[v] 29)
 have hz : (w.alloc (.cells #[v] 29)).heap.size = w.heap.size + 1 := by simp
 generalize w.alloc (.cells #[v] 29) = W at h1 hb hz ⊢
 have h2 := At3.new 41 W x y b
 rw [hz] at h2
 exact ⟨hb.alloc hb.size _, h1.on (below_alloc1 W _), h2⟩
section
variable {w W W' : World} {v : Value} {x y : Int} {b : Bool}
theorem RC.on (h : RC w v x y W) (hb : Below W.heap.size W W') : RC w v x y W' := ⟨h.1.trans (hb.mono h.1.size), h.2.1.on hb, h.2.2.on hb⟩
theorem RD.on (h : RD w v x y b W) (hb : Below W.heap.size W W') : RD w v x y b W' := ⟨h.1.trans (hb.mono h.1.size), h.2.1.on hb, h.2.2.on hb⟩
theorem RD.drew (h : RD w v x y b W) : RD w v x y b W.drew := ⟨h.1.drew, h.2⟩
end
theorem RowM.take {w : World} {B : Nat} {A : Option Addr} {L : List Dm} (h : RowM w B A L) (k : Nat) : RowM w B A (L.take k) := by
 obtain ⟨b, off, h1, h2⟩ := h
 refine ⟨b, off, fun h0 => h1 (by rw [List.length_take] at h0; omega), fun j d hd => h2 j d ?_⟩
 rw [List.getElem?_take] at hd
 split at hd
 ·exact hd
 ·cases hd
theorem Fits.take {L : List Dm} (h : Fits L) (k : Nat) : Fits (L.take k) := fun d hd => h d (List.mem_of_mem_take hd)

set_option maxHeartbeats 1000000 in
theorem iFree (w : World) (A : Option Addr) (n cap B : Nat) (xs : List Int) (hx : xs.length = n) (hn : (n : Int) ≤ 9223372036854775807) (h : RowB w B A xs) (hB : B ≤ w.heap.size)
  (A' : Option Addr) (n' cap' B' : Nat) (L : List Dm) (hL : L.length = n') (hn' : (n' : Int) ≤ 9223372036854775807) (hf : Fits L) (h' : RowM w B' A' L) (hB' : B' ≤ w.heap.size) (x y : Int) :
  Calls Try.prog 89 #[.agg #[.slice A n cap], .slice A' n' cap', .agg #[.int .i64 x, .int .i64 y]] w (Bol (hasB xs x y && !anyM L x y) w) := by
 have HH := Lib.hid (fun W (hb : Below w.heap.size w W) => iHasCell W A n cap B xs hx hn (h.below hb hB) (by have := hb.size; omega) x y)
 have HA := Lib.hid (fun W (hb : Below w.heap.size w W) => iDominoAt W A' n' cap' B' L hL hn' hf (h'.below hb hB') (by have := hb.size; omega) x y)
 have HN := Lib.hid (atI_neg (L := L) (x := x) (y := y))
 have HS := Lib.hid (rc_start w (.slice A n cap) x y)
 generalize hasB xs x y = p at HH ⊢
 generalize atI L x y = q at HA HN
 generalize anyM L x y = r at HN ⊢
 clear hx hn h hB hL hn' hf h' hB'
 go_enter Try.func89, Try.ntmps89
 go_wp2_with fail
 have T0 := HS.out
 refine (HH.out _ T0.1).mono ?_
 rintro e w1 ⟨rfl, hb1⟩
 have T1 := T0.on hb1
 have c0 := T1.2.2.c0
 have c1 := T1.2.2.c1
 clear T0 HS hb1 HH
 cases p with
 | false =>
  go_wp2
  go_ret
  exact mkBol rfl T1.1
 | true =>
  go_wp2_with fail
  refine (HA.out _ T1.1).mono ?_
  rintro e w2 ⟨rfl, hb2⟩
  have hb := T1.1.trans (hb2.mono T1.1.size)
  clear T1 c0 c1 hb2 HA
  by_cases hq : q < 0
  ·have HR := Lib.hid (show r = false by have := HN.out; rw [decide_eq_true hq] at this; simpa using this.symm)
   go_wp2
   go_ret
   exact mkBol (by rw [HR.out]; rfl) hb
  ·have HR := Lib.hid (show r = true by have := HN.out; rw [decide_eq_false hq] at this; simpa using this.symm)
   go_wp2
   go_ret
   exact mkBol (by rw [HR.out, decide_eq_false (by omega)]; rfl) hb

set_option maxHeartbeats 2000000 in
theorem iCanFollow0 (w : World) (A : Option Addr) (n cap B : Nat) (xs : List Int) (hx : xs.length = n) (hn : (n : Int) ≤ 9223372036854775807) (h : RowB w B A xs) (hB : B ≤ w.heap.size)
  (A' : Option Addr) (cap' : Nat) (x y : Int) (b : Bool) (hx1 : Sm x) (hy1 : Sm y) :
  Calls Try.prog 75 #[.agg #[.slice A n cap], .slice A' 0 cap', .agg #[.int .i64 x, .int .i64 y, .bool b]] w (Bol (stepB xs [] (x, y, b)) w) := by
 have HF := Lib.hid (fun W (hb : Below w.heap.size w W) x y => iFree W A n cap B xs hx hn (h.below hb hB) (by have := hb.size; omega) A' 0 cap' 0 [] rfl (by omega) (fun d hd => by simp at hd) ⟨0, 0, fun h => by simp at h, fun j u hu => by simp at hu⟩ (Nat.zero_le _) x y)
 have HC := Lib.hid (fun W => iCells x y b hx1 hy1 W)
 have HS := Lib.hid (rd_start w (.slice A n cap) x y b)
 have HV := Lib.hid (show stepB xs [] (x, y, b) = (true && ((hasB xs x y && !anyM [] x y) && (hasB xs (sx x b) (sy y b) && !anyM [] (sx x b) (sy y b)))) from rfl)
 have HF1 := Lib.hid (fun W hb => HF.out W hb x y)
 have HF2 := Lib.hid (fun W hb => HF.out W hb (sx x b) (sy y b))
 generalize stepB xs [] (x, y, b) = r at HV ⊢
 generalize (hasB xs x y && !anyM [] x y) = r1 at HF1 HV
 generalize (hasB xs (sx x b) (sy y b) && !anyM [] (sx x b) (sy y b)) = r2 at HF2 HV
 generalize sx x b = p at HC HF2
 generalize sy y b = q at HC HF2
 clear HF hx hn h hB hx1 hy1
 go_enter Try.func75, Try.ntmps75
 go_upto_region 1 with fail
 have T0 := HS.out
 generalize World.alloc _ (.cells #[.int .i64 x, .int .i64 y, .bool b] 41) = W at T0 ⊢
 clear HS
 refine wp_region_noPanic ?_
 refine wp_region_held_drew (S := fun _ => True) (by kernel_rfl) trivial (fun hHeld => ?_)
 refine wpAnyH_take (i := 0) (v := ?_) rfl (by kernel_rfl) (by kernel_rfl) (by kernel_rfl) (fun _ _ _ h => h) (Or.inl ⟨by rfl, ?_⟩) (by assumption) ?_
 rotate_left
 ·(intro w' hS; (try dsimp only at hS); go_simp; try with_reducible rfl)
 try simp only [Act.put, List.getElem_toArray, List.getElem_cons_succ, List.getElem_cons_zero, List.setIfInBounds_toArray, List.set_cons_zero, List.set_cons_succ]
 refine wpAnyH_take (i := 1) (v := ?_) rfl (by kernel_rfl) (by kernel_rfl) (by kernel_rfl) (fun _ _ _ h => h) (Or.inl ⟨by rfl, ?_⟩) (by assumption) ?_
 rotate_left
 ·(intro w' hS; (try dsimp only at hS); go_simp; try with_reducible rfl)
 try simp only [Act.put, List.getElem_toArray, List.getElem_cons_succ, List.getElem_cons_zero, List.setIfInBounds_toArray, List.set_cons_zero, List.set_cons_succ]
 refine wpAnyH_take (i := 2) (v := ?_) rfl (by kernel_rfl) (by kernel_rfl) (by kernel_rfl) (fun _ _ _ h => h) (Or.inl ⟨by rfl, ?_⟩) (by assumption) ?_
 rotate_left
 ·(intro w' hS; (try dsimp only at hS); go_simp; try with_reducible rfl)
 try simp only [Act.put, List.getElem_toArray, List.getElem_cons_succ, List.getElem_cons_zero, List.setIfInBounds_toArray, List.set_cons_zero, List.set_cons_succ]
 refine wpAnyH_take (i := 3) (v := ?_) rfl (by kernel_rfl) (by kernel_rfl) (by kernel_rfl) (fun _ _ _ h => h) (Or.inl ⟨by rfl, ?_⟩) (by assumption) ?_
 rotate_left
 ·(intro w' hS; (try dsimp only at hS); go_simp; try with_reducible rfl)
 try simp only [Act.put, List.getElem_toArray, List.getElem_cons_succ, List.getElem_cons_zero, List.setIfInBounds_toArray, List.set_cons_zero, List.set_cons_succ]
 refine wpAnyH_take (i := 4) (v := undef) rfl (by kernel_rfl) (by kernel_rfl) (by kernel_rfl) (fun _ _ _ h => h) (Or.inr ⟨by rfl, rfl⟩) (by assumption) ?_
 try simp only [Act.put, List.getElem_toArray, List.getElem_cons_succ, List.getElem_cons_zero, List.setIfInBounds_toArray, List.set_cons_zero, List.set_cons_succ]
 refine wpAnyH_take (i := 5) (v := undef) rfl (by kernel_rfl) (by kernel_rfl) (by kernel_rfl) (fun _ _ _ h => h) (Or.inr ⟨by rfl, rfl⟩) (by assumption) ?_
 try simp only [Act.put, List.getElem_toArray, List.getElem_cons_succ, List.getElem_cons_zero, List.setIfInBounds_toArray, List.set_cons_zero, List.set_cons_succ]
 refine wpAnyH_take (i := 6) (v := undef) rfl (by kernel_rfl) (by kernel_rfl) (by kernel_rfl) (fun _ _ _ h => h) (Or.inr ⟨by rfl, rfl⟩) (by assumption) ?_
 try simp only [Act.put, List.getElem_toArray, List.getElem_cons_succ, List.getElem_cons_zero, List.setIfInBounds_toArray, List.set_cons_zero, List.set_cons_succ]
 refine wpAnyH_take (i := 7) (v := undef) rfl (by kernel_rfl) (by kernel_rfl) (by kernel_rfl) (fun _ _ _ h => h) (Or.inr ⟨by rfl, rfl⟩) (by assumption) ?_
 try simp only [Act.put, List.getElem_toArray, List.getElem_cons_succ, List.getElem_cons_zero, List.setIfInBounds_toArray, List.set_cons_zero, List.set_cons_succ]
 refine wpAnyH_take (i := 8) (v := undef) rfl (by kernel_rfl) (by kernel_rfl) (by kernel_rfl) (fun _ _ _ h => h) (Or.inr ⟨by rfl, rfl⟩) (by assumption) ?_
 try simp only [Act.put, List.getElem_toArray, List.getElem_cons_succ, List.getElem_cons_zero, List.setIfInBounds_toArray, List.set_cons_zero, List.set_cons_succ]
 refine wpAnyH_take (i := 9) (v := undef) rfl (by kernel_rfl) (by kernel_rfl) (by kernel_rfl) (fun _ _ _ h => h) (Or.inr ⟨by rfl, rfl⟩) (by assumption) ?_
 try simp only [Act.put, List.getElem_toArray, List.getElem_cons_succ, List.getElem_cons_zero, List.setIfInBounds_toArray, List.set_cons_zero, List.set_cons_succ]
 refine wpAnyH_take (i := 10) (v := undef) rfl (by kernel_rfl) (by kernel_rfl) (by kernel_rfl) (fun _ _ _ h => h) (Or.inr ⟨by rfl, rfl⟩) (by assumption) ?_
 try simp only [Act.put, List.getElem_toArray, List.getElem_cons_succ, List.getElem_cons_zero, List.setIfInBounds_toArray, List.set_cons_zero, List.set_cons_succ]
 refine wpAnyH_take (i := 11) (v := undef) rfl (by kernel_rfl) (by kernel_rfl) (by kernel_rfl) (fun _ _ _ h => h) (Or.inr ⟨by rfl, rfl⟩) (by assumption) ?_
 try simp only [Act.put, List.getElem_toArray, List.getElem_cons_succ, List.getElem_cons_zero, List.setIfInBounds_toArray, List.set_cons_zero, List.set_cons_succ]
 refine wpAnyH_take (i := 12) (v := undef) rfl (by kernel_rfl) (by kernel_rfl) (by kernel_rfl) (fun _ _ _ h => h) (Or.inr ⟨by rfl, rfl⟩) (by assumption) ?_
 try simp only [Act.put, List.getElem_toArray, List.getElem_cons_succ, List.getElem_cons_zero, List.setIfInBounds_toArray, List.set_cons_zero, List.set_cons_succ]
 refine wpAnyH_take (i := 13) (v := ?_) rfl (by kernel_rfl) (by kernel_rfl) (by kernel_rfl) (fun _ _ _ h => h) (Or.inl ⟨by rfl, ?_⟩) (by assumption) ?_
 rotate_left
 ·(intro w' hS; (try dsimp only at hS); go_simp; try with_reducible rfl)
 try simp only [Act.put, List.getElem_toArray, List.getElem_cons_succ, List.getElem_cons_zero, List.setIfInBounds_toArray, List.set_cons_zero, List.set_cons_succ]
 refine wpAnyH_done (by kernel_rfl) ?_ _
 refine NoPanic.normal ?_
 have T1 := T0.drew
 generalize W.drew = W1 at T1 ⊢
 have d0 := T1.2.2.c0
 have d1 := T1.2.2.c1
 have d2 := T1.2.2.c2
 go_wp2_with fail
 refine (HC.out _).mono ?_
 rintro e w2 ⟨rfl, hb2⟩
 have T2 := T1.on hb2
 clear d0 d1 d2 hb2 HC T1
 go_upto_region 4 with fail
 obtain ⟨k1, k2, k3⟩ := at2_two w2 x y p q
 have T3 := T2.on k3
 generalize (w2.alloc (.cells #[.int .i64 x, .int .i64 y] 56)).alloc (.cells #[.int .i64 p, .int .i64 q] 56) = W2 at k1 k2 T3 ⊢
 have c0 := k1.c0
 have c1 := k1.c1
 have c2 := T3.2.1.c0
 clear k1 k3 T2
 go_wp2_with fail
 refine (HF1.out _ T3.1).mono ?_
 rintro e w3 ⟨rfl, hb3⟩
 have T4 := T3.on hb3
 have k2 := k2.on hb3
 have d0 := k2.c0
 have d1 := k2.c1
 have d2 := T4.2.1.c0
 clear c0 c1 c2 hb3 T3 HF1
 cases r1 with
 | false =>
  go_wp2
  go_ret
  exact mkBol (by rw [HV.out]; rfl) T4.1
 | true =>
  go_wp2_with fail
  refine (HF2.out _ T4.1).mono ?_
  rintro e w4 ⟨rfl, hb4⟩
  have hb := T4.1.trans (hb4.mono T4.1.size)
  clear d0 d1 d2 hb4 HF2 T4
  go_wp2
  go_ret
  exact mkBol (by rw [HV.out]; rfl) hb
set_option maxHeartbeats 2000000 in
theorem iCanFollow1 (w : World) (A : Option Addr) (n cap B : Nat) (xs : List Int) (hx : xs.length = n) (hn : (n : Int) ≤ 9223372036854775807) (h : RowB w B A xs) (hB : B ≤ w.heap.size)
  (A' : Option Addr) (n' cap' B' : Nat) (L : List Dm) (hL : L.length = n') (hn' : (n' : Int) ≤ 9223372036854775807) (hf : Fits L) (h' : RowM w B' A' L) (hB' : B' ≤ w.heap.size) (h0 : 0 < n') (x y : Int) (b : Bool) (hx1 : Sm x) (hy1 : Sm y) :
  Calls Try.prog 75 #[.agg #[.slice A n cap], .slice A' n' cap', .agg #[.int .i64 x, .int .i64 y, .bool b]] w (Bol (stepB xs L (x, y, b)) w) := by
 have HF := Lib.hid (fun W (hb : Below w.heap.size w W) x y => iFree W A n cap B xs hx hn (h.below hb hB) (by have := hb.size; omega) A' n' cap' B' L hL hn' hf (h'.below hb hB') (by have := hb.size; omega) x y)
 have HC := Lib.hid (fun W => iCells x y b hx1 hy1 W)
 have HS := Lib.hid (rd_start w (.slice A n cap) x y b)
 obtain ⟨k, hk⟩ : ∃ k, k = n' - 1 := ⟨_, rfl⟩
 have hl : k < L.length := by omega
 obtain ⟨b0, off, hA, hR⟩ := h'.at
 obtain ⟨rfl, hbB⟩ := hA (by omega)
 have hR := hR k hl
 have hlast : L.getLast? = some L[k] := by rw [List.getLast?_eq_getElem?, hL, ← hk]; exact List.getElem?_eq_getElem hl
 have hfl := hf L[k] (List.getElem_mem hl)
 generalize L[k] = d at hR hlast hfl
 obtain ⟨u, v, c⟩ := d
 have HI := Lib.hid (fun W => iIsBefore u v c x y b hfl.1 hfl.2 hx1 hy1 W)
 have HV := Lib.hid (show stepB xs L (x, y, b) = (befB u v c x y b && ((hasB xs x y && !anyM L x y) && (hasB xs (sx x b) (sy y b) && !anyM L (sx x b) (sy y b)))) by unfold stepB; rw [hlast]; rfl)
 have HF1 := Lib.hid (fun W hb => HF.out W hb x y)
 have HF2 := Lib.hid (fun W hb => HF.out W hb (sx x b) (sy y b))
 generalize stepB xs L (x, y, b) = r at HV ⊢
 generalize (hasB xs x y && !anyM L x y) = r1 at HF1 HV
 generalize (hasB xs (sx x b) (sy y b) && !anyM L (sx x b) (sy y b)) = r2 at HF2 HV
 generalize sx x b = p at HC HF2
 generalize sy y b = q at HC HF2
 generalize befB u v c x y b = t at HI HV
 have HW := Lib.hid (fun W (hb : Below w.heap.size w W) => (show _ ∧ _ ∧ _ from ⟨(hb.cell (p := ⟨b0, off + k * 3, none⟩) (by show b0 < _; omega)).trans hR.1, (hb.cell (p := ⟨b0, off + k * 3 + 1, none⟩) (by show b0 < _; omega)).trans hR.2.1, (hb.cell (p := ⟨b0, off + k * 3 + 2, none⟩) (by show b0 < _; omega)).trans hR.2.2⟩))
 simp only at HW
 have HG := Lib.hid (show ((n' : Int) > 0) by omega)
 have hsub : IntKind.i64.wrap ((n' : Int) - 1) = (k : Int) := by rw [IntKind.wrap_i64]; omega
 have hkn : (k : Int) < (n' : Int) := by omega
 have hdec : decide ((n' : Int) > 0) = true := decide_eq_true HG.out
 clear HF hx hn h hB hx1 hy1 hA hR hlast hfl hf h' hbB hB' hl hk hL
 go_enter Try.func75, Try.ntmps75
 go_upto_region 1 with fail
 have T0 := HS.out
 generalize World.alloc _ (.cells #[.int .i64 x, .int .i64 y, .bool b] 41) = W at T0 ⊢
 clear HS
 refine wp_region_noPanic ?_
 refine wp_region_held_drew (S := (fun w' => w'.cell? ⟨w.heap.size + 1, 0, none⟩ = some (.int .i64 x) ∧ w'.cell? ⟨w.heap.size + 1, 1, none⟩ = some (.int .i64 y) ∧ w'.cell? ⟨w.heap.size + 1, 2, none⟩ = some (.bool b) ∧ w'.cell? ⟨b0, off + k * 3, none⟩ = some (.int .i64 u) ∧ w'.cell? ⟨b0, off + k * 3 + 1, none⟩ = some (.int .i64 v) ∧ w'.cell? ⟨b0, off + k * 3 + 2, none⟩ = some (.bool c))) (by kernel_rfl) (⟨T0.drew.2.2.c0, T0.drew.2.2.c1, T0.drew.2.2.c2, HW.out _ T0.drew.1⟩) (fun hHeld => ?_)
 refine wpAnyH_take (i := 0) (v := ?_) rfl (by kernel_rfl) (by kernel_rfl) (by kernel_rfl) (fun _ _ _ h => h) (Or.inl ⟨by rfl, ?_⟩) (by assumption) ?_
 rotate_left
 ·(intro w' hS; (try dsimp only at hS); go_simp; try with_reducible rfl)
 try simp only [Act.put, List.getElem_toArray, List.getElem_cons_succ, List.getElem_cons_zero, List.setIfInBounds_toArray, List.set_cons_zero, List.set_cons_succ]
 refine wpAnyH_take (i := 1) (v := ?_) rfl (by kernel_rfl) (by kernel_rfl) (by kernel_rfl) (fun _ _ _ h => h) (Or.inl ⟨by rfl, ?_⟩) (by assumption) ?_
 rotate_left
 ·(intro w' hS; (try dsimp only at hS); go_simp; try with_reducible rfl)
 try simp only [Act.put, List.getElem_toArray, List.getElem_cons_succ, List.getElem_cons_zero, List.setIfInBounds_toArray, List.set_cons_zero, List.set_cons_succ]
 refine wpAnyH_take (i := 2) (v := ?_) rfl (by kernel_rfl) (by kernel_rfl) (by kernel_rfl) (fun _ _ _ h => h) (Or.inl ⟨by rfl, ?_⟩) (by assumption) ?_
 rotate_left
 ·(intro w' hS; (try dsimp only at hS); go_simp; try with_reducible rfl)
 try simp only [Act.put, List.getElem_toArray, List.getElem_cons_succ, List.getElem_cons_zero, List.setIfInBounds_toArray, List.set_cons_zero, List.set_cons_succ]
 refine wpAnyH_take (i := 3) (v := ?_) rfl (by kernel_rfl) (by kernel_rfl) (by kernel_rfl) (fun _ _ _ h => h) (Or.inl ⟨by rfl, ?_⟩) (by assumption) ?_
 rotate_left
 ·(intro w' hS; (try dsimp only at hS); go_simp; try with_reducible rfl)
 try simp only [Act.put, List.getElem_toArray, List.getElem_cons_succ, List.getElem_cons_zero, List.setIfInBounds_toArray, List.set_cons_zero, List.set_cons_succ]
 refine wpAnyH_take (i := 4) (v := ?_) rfl (by kernel_rfl) (by kernel_rfl) (by kernel_rfl) (fun _ _ _ h => h) (Or.inl ⟨by rfl, ?_⟩) (by assumption) ?_
 rotate_left
 ·(intro w' hS; (try dsimp only at hS); go_simp; try with_reducible rfl)
 try simp only [Act.put, List.getElem_toArray, List.getElem_cons_succ, List.getElem_cons_zero, List.setIfInBounds_toArray, List.set_cons_zero, List.set_cons_succ]
 refine wpAnyH_take (i := 5) (v := ?_) rfl (by kernel_rfl) (by kernel_rfl) (by kernel_rfl) (fun _ _ _ h => h) (Or.inl ⟨by rfl, ?_⟩) (by assumption) ?_
 rotate_left
 ·(intro w' hS; (try dsimp only at hS); go_simp; try with_reducible rfl)
 try simp only [Act.put, List.getElem_toArray, List.getElem_cons_succ, List.getElem_cons_zero, List.setIfInBounds_toArray, List.set_cons_zero, List.set_cons_succ]
 refine wpAnyH_take (i := 6) (v := ?_) rfl (by kernel_rfl) (by kernel_rfl) (by kernel_rfl) (fun _ _ _ h => h) (Or.inl ⟨by rfl, ?_⟩) (by assumption) ?_
 rotate_left
 ·(intro w' hS; (try dsimp only at hS); go_simp; try with_reducible rfl)
 try simp only [Act.put, List.getElem_toArray, List.getElem_cons_succ, List.getElem_cons_zero, List.setIfInBounds_toArray, List.set_cons_zero, List.set_cons_succ]
 refine wpAnyH_take (i := 7) (v := ?_) rfl (by kernel_rfl) (by kernel_rfl) (by kernel_rfl) (fun _ _ _ h => h) (Or.inl ⟨by rfl, ?_⟩) (by assumption) ?_
 rotate_left
 ·(intro w' hS; (try dsimp only at hS); go_simp; try with_reducible rfl)
 try simp only [Act.put, List.getElem_toArray, List.getElem_cons_succ, List.getElem_cons_zero, List.setIfInBounds_toArray, List.set_cons_zero, List.set_cons_succ]
 refine wpAnyH_take (i := 8) (v := ?_) rfl (by kernel_rfl) (by kernel_rfl) (by kernel_rfl) (fun _ _ _ h => h) (Or.inl ⟨by rfl, ?_⟩) (by assumption) ?_
 rotate_left
 ·(intro w' hS; (try dsimp only at hS); go_simp; try with_reducible rfl)
 try simp only [Act.put, List.getElem_toArray, List.getElem_cons_succ, List.getElem_cons_zero, List.setIfInBounds_toArray, List.set_cons_zero, List.set_cons_succ]
 refine wpAnyH_take (i := 9) (v := ?_) rfl (by kernel_rfl) (by kernel_rfl) (by kernel_rfl) (fun _ _ _ h => h) (Or.inl ⟨by rfl, ?_⟩) (by assumption) ?_
 rotate_left
 ·(intro w' hS; (try dsimp only at hS); go_simp; try with_reducible rfl)
 try simp only [Act.put, List.getElem_toArray, List.getElem_cons_succ, List.getElem_cons_zero, List.setIfInBounds_toArray, List.set_cons_zero, List.set_cons_succ]
 refine wpAnyH_take (i := 10) (v := ?_) rfl (by kernel_rfl) (by kernel_rfl) (by kernel_rfl) (fun _ _ _ h => h) (Or.inl ⟨by rfl, ?_⟩) (by assumption) ?_
 rotate_left
 ·(intro w' hS; (try dsimp only at hS); go_simp; try with_reducible rfl)
 try simp only [Act.put, List.getElem_toArray, List.getElem_cons_succ, List.getElem_cons_zero, List.setIfInBounds_toArray, List.set_cons_zero, List.set_cons_succ]
 refine wpAnyH_ready (rs := [11]) (by kernel_rfl) (by simp) ?_
 refine AllReadyH.cons rfl (fun K hK => ?_) AllReadyH.nil
 go_simp
 refine (HI.out _).mono ?_
 rintro e wx ⟨rfl, hb1⟩
 have T1 := T0.drew.on hb1
 clear T0 hb1 HI
 go_wp2_with fail
 refine hK.out _ _ (⟨T1.2.2.c0, T1.2.2.c1, T1.2.2.c2, HW.out _ T1.1⟩) (fun hHeld => ?_)
 clear hK K
 try simp only [Act.put, List.getElem_toArray, List.getElem_cons_succ, List.getElem_cons_zero, List.setIfInBounds_toArray, List.set_cons_zero, List.set_cons_succ]
 refine wpAnyH_take (i := 12) (v := ?_) rfl (by kernel_rfl) (by kernel_rfl) (by kernel_rfl) (fun _ _ _ h => h) (Or.inl ⟨by rfl, ?_⟩) (by assumption) ?_
 rotate_left
 ·(intro w' hS; (try dsimp only at hS); go_simp; try with_reducible rfl)
 try simp only [Act.put, List.getElem_toArray, List.getElem_cons_succ, List.getElem_cons_zero, List.setIfInBounds_toArray, List.set_cons_zero, List.set_cons_succ]
 refine wpAnyH_take (i := 13) (v := ?_) rfl (by kernel_rfl) (by kernel_rfl) (by kernel_rfl) (fun _ _ _ h => h) (Or.inl ⟨by rfl, ?_⟩) (by assumption) ?_
 rotate_left
 ·(intro w' hS; (try dsimp only at hS); go_simp; try with_reducible rfl)
 try simp only [Act.put, List.getElem_toArray, List.getElem_cons_succ, List.getElem_cons_zero, List.setIfInBounds_toArray, List.set_cons_zero, List.set_cons_succ]
 refine wpAnyH_done (by kernel_rfl) ?_ _
 refine NoPanic.normal ?_
 clear hHeld
 generalize wx = W1 at T1 ⊢
 cases t with
 | false =>
  go_wp2
  go_ret
  exact mkBol (by rw [HV.out]; rfl) T1.1
 | true =>
  have d0 := T1.2.2.c0
  have d1 := T1.2.2.c1
  have d2 := T1.2.2.c2
  go_wp2_with fail
  refine (HC.out _).mono ?_
  rintro e w2 ⟨rfl, hb2⟩
  have T2 := T1.on hb2
  clear d0 d1 d2 hb2 HC T1
  go_upto_region 4 with fail
  obtain ⟨k1, k2, k3⟩ := at2_two w2 x y p q
  have T3 := T2.on k3
  generalize (w2.alloc (.cells #[.int .i64 x, .int .i64 y] 56)).alloc (.cells #[.int .i64 p, .int .i64 q] 56) = W2 at k1 k2 T3 ⊢
  have c0 := k1.c0
  have c1 := k1.c1
  have c2 := T3.2.1.c0
  clear k1 k3 T2
  go_wp2_with fail
  refine (HF1.out _ T3.1).mono ?_
  rintro e w3 ⟨rfl, hb3⟩
  have T4 := T3.on hb3
  have k2 := k2.on hb3
  have d0 := k2.c0
  have d1 := k2.c1
  have d2 := T4.2.1.c0
  clear c0 c1 c2 hb3 T3 HF1
  cases r1 with
  | false =>
   go_wp2
   go_ret
   exact mkBol (by rw [HV.out]; rfl) T4.1
  | true =>
   go_wp2_with fail
   refine (HF2.out _ T4.1).mono ?_
   rintro e w4 ⟨rfl, hb4⟩
   have hb := T4.1.trans (hb4.mono T4.1.size)
   clear d0 d1 d2 hb4 HF2 T4
   go_wp2
   go_ret
   exact mkBol (by rw [HV.out]; rfl) hb
end Go.Proofs.Ytmajllgfmclcoaa.Til
