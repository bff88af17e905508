/- TilJ, HgR, JnB, JnC, JnD, JnF, JoP, Iss in one text. -/
import Derived.Test.YtmajllgfmclcoaaMb28
import Derived.Test.YtmajllgfmclcoaaMb10
import Derived.Test.YtmajllgfmclcoaaMb26
import Derived.Test.YtmajllgfmclcoaaMb25
import Derived.Test.YtmajllgfmclcoaaMb09
import Derived.Test.YtmajllgfmclcoaaMb00

namespace Go.Proofs.Ytmajllgfmclcoaa.Til
set_option linter.unusedVariables false
set_option linter.unusedSimpArgs false
open Go.RowKit Go.Proofs.Ytmajllgfmclcoaa.Pure Go.Proofs.Ytmajllgfmclcoaa.Cell Go.Proofs.Ytmajllgfmclcoaa.Dom Go.Proofs.Ytmajllgfmclcoaa.Dms Go.Joins
open Go.Proofs.Ytmajllgfmclcoaa.Reg hiding Yes RC rc_start

theorem iCanFollow (w : World) (A : Option Addr) (n cap B : Nat) (xs : List Int) (hx : xs.length = n) (hn : (n : Int) ≤ 9223372036854775807) (h : RowB w B A xs) (hB : B ≤ w.heap.size)
  (A' : Option Addr) (n' cap' B' : Nat) (L : List Dm) (hL : L.length = n') (hn' : (n' : Int) ≤ 9223372036854775807) (hf : Fits L) (h' : RowM w B' A' L) (hB' : B' ≤ w.heap.size) (x y : Int) (b : Bool) (hx1 : Sm x) (hy1 : Sm y) :
  Calls Try.prog 75 #[.agg #[.slice A n cap], .slice A' n' cap', .agg #[.int .i64 x, .int .i64 y, .bool b]] w (Bol (stepB xs L (x, y, b)) w) := by
 rcases Nat.eq_zero_or_pos n' with h0 | h0
 ·subst h0
  obtain rfl : L = [] := List.eq_nil_of_length_eq_zero hL
  exact iCanFollow0 w A n cap B xs hx hn h hB A' cap' x y b hx1 hy1
 ·exact iCanFollow1 w A n cap B xs hx hn h hB A' n' cap' B' L hL hn' hf h' hB' h0 x y b hx1 hy1
def Go1 (xs : List Int) (L : List Dm) (k : Nat) : Prop := ∀ j, j < k → stpAt xs L j = true
theorem Go1.zero (xs : List Int) (L : List Dm) : Go1 xs L 0 := fun j h => by omega
theorem Go1.succ {xs : List Int} {L : List Dm} {k : Nat} (h : Go1 xs L k) (hs : stpAt xs L k = true) : Go1 xs L (k + 1) := by
 intro j hj
 by_cases e : j = k
 ·subst e; exact hs
 ·exact h j (by omega)
def R1 (w : World) (v : Value) (W : World) : Prop := Below w.heap.size w W ∧ Rg W w.heap.size v
theorem r1_start (w : World) (v : Value) : R1 w v (w.alloc (.cells #[v] 29)) := ⟨below_alloc1 w _, Rg.new w v⟩
theorem R1.on {w W W' : World} {v : Value} (h : R1 w v W) (hb : Below W.heap.size W W') : R1 w v W' := ⟨h.1.trans (hb.mono h.1.size), h.2.on hb⟩
theorem R1.drew {w W : World} {v : Value} (h : R1 w v W) : R1 w v W.drew := ⟨h.1.drew, h.2⟩

set_option maxRecDepth 100000 in
set_option maxHeartbeats 2000000 in
theorem iIsPartial (w : World) (A : Option Addr) (n cap B : Nat) (xs : List Int) (hx : xs.length = n) (hn : (n : Int) ≤ 9223372036854775807) (h : RowB w B A xs) (hB : B ≤ w.heap.size)
  (A' : Option Addr) (n' cap' B' : Nat) (L : List Dm) (hL : L.length = n') (hn' : (n' : Int) ≤ 9223372036854775807) (hf : Fits L) (h' : RowM w B' A' L) (hB' : B' ≤ w.heap.size) (hcap : n' ≤ cap') :
  Calls Try.prog 63 #[.agg #[.slice A n cap], .slice A' n' cap'] w (Bol (partB xs L) w) := by
 obtain ⟨b0, off, hA, hR⟩ := h'.at
 have HS := Lib.hid (r1_start w (.slice A n cap))
 have HO := Lib.hid (fun W (hb : Below w.heap.size w W) => iRegionOk W A n cap B xs hx hn (h.below hb hB) (by have := hb.size; omega))
 have HF := Lib.hid (fun W (hb : Below w.heap.size w W) j (hj : j < n') (hjL : j < L.length) => iCanFollow W A n cap B xs hx hn (h.below hb hB) (by have := hb.size; omega) A' j cap' B' (L.take j) (by rw [List.length_take]; omega) (by omega) (Fits.take hf j) (RowM.take (h'.below hb hB') j) (by have := hb.size; omega) L[j].1 L[j].2.1 L[j].2.2 (hf _ (List.getElem_mem hjL)).1 (hf _ (List.getElem_mem hjL)).2)
 have HW := Lib.hid (fun W (hb : Below w.heap.size w W) (j : Nat) (hj : j < L.length) (h0 : 0 < L.length) => (show _ ∧ _ ∧ _ from ⟨(hb.cell (p := ⟨b0, off + j * 3, none⟩) (by have := (hA h0).2; show b0 < _; omega)).trans (hR j hj).1, (hb.cell (p := ⟨b0, off + j * 3 + 1, none⟩) (by have := (hA h0).2; show b0 < _; omega)).trans (hR j hj).2.1, (hb.cell (p := ⟨b0, off + j * 3 + 2, none⟩) (by have := (hA h0).2; show b0 < _; omega)).trans (hR j hj).2.2⟩))
 have HA := Lib.hid (fun h0 => (hA h0).1)
 have HL := Lib.hid hL
 have HY := Lib.hid (fun (ho : okRB xs = true) (hg : Go1 xs L L.length) => part_yes ho hg)
 have HN := Lib.hid (fun k (hk : k < L.length) hs => part_no (xs := xs) (L := L) (k := k) hk hs)
 have HX := Lib.hid (part_not (xs := xs) (L := L))
 generalize partB xs L = r at HY HN HX ⊢
 clear hx h hB hL hf h' hB' hA hR
 go_enter Try.func63, Try.ntmps63
 go_wp2_with fail
 have T0 := HS.out
 refine (HO.out _ T0.1).mono ?_
 rintro e w1 ⟨rfl, hb1⟩
 have T1 := T0.on hb1
 clear T0 HS hb1 HO
 cases ho : okRB xs with
 | false =>
  have HE := Lib.hid (HX.out ho)
  clear HX HY HN ho
  go_wp2
  go_ret
  exact mkBol (by rw [HE.out]) T1.1
 | true =>
  have HY := Lib.hid (fun hg => HY.out ho hg)
  clear ho HX
  go_wp2_with fail
  go_loopw [12] (fun i wr => ∃ j : Nat, j ≤ n' ∧ i = .int .i64 j ∧ R1 w (.slice A n cap) wr ∧ Hid (Go1 xs L j)) (fun i _ => n' - (intOf i).toNat)
  case atStart => exact ⟨0, Nat.zero_le _, rfl, T1, Lib.hid (Go1.zero _ _)⟩
  case round =>
   clear T1
   obtain ⟨j, hj, rfl, hT, hM⟩ := hrel
   by_cases hlt : j < n'
   ·have hjL : j < L.length := by have := HL.out; omega
    obtain rfl := HA.out (by omega)
    obtain ⟨c0, c1, c2⟩ := HW.out _ hT.1 j hjL (by omega)
    have HD := Lib.hid (stpAt_of (xs := xs) hjL)
    have HFj := Lib.hid (fun W hb => HF.out W hb j hlt hjL)
    generalize L[j] = d at c0 c1 c2 HD HFj
    obtain ⟨u, v, b⟩ := d
    simp only at c0 c1 c2 HFj
    generalize stepB xs (L.take j) (u, v, b) = t at HFj HD
    have HNj := Lib.hid (fun hs => HN.out j hjL hs)
    have hjc : (j : Int) ≤ (cap' : Int) := by omega
    have HT := Lib.hid hT
    clear hT
    go_upto_region 6 with fail
    have k1 := At3.new 41 wr u v b
    have T1 := HT.out.on (below_alloc1 wr (.cells #[.int .i64 u, .int .i64 v, .bool b] 41))
    generalize wr.heap.size = p at k1 ⊢
    generalize wr.alloc (.cells #[.int .i64 u, .int .i64 v, .bool b] 41) = W at k1 T1 ⊢
    clear HT c0 c1 c2
    refine wp_region_noPanic ?_
    refine wp_region_held_drew (S := (fun w' => w'.cell? ⟨p, 0, none⟩ = some (.int .i64 u) ∧ w'.cell? ⟨p, 1, none⟩ = some (.int .i64 v) ∧ w'.cell? ⟨p, 2, none⟩ = some (.bool b) ∧ w'.cell? ⟨w.heap.size, 0, none⟩ = some (.slice A n cap))) (by kernel_rfl) (⟨k1.c0, k1.c1, k1.c2, T1.drew.2.c0⟩) (fun hHeld => ?_)
    refine wpAnyH_take (i := 0) (v := ?_) rfl (by kernel_rfl) (by kernel_rfl) (by kernel_rfl) (fun _ _ _ h => h) (Or.inl ⟨by rfl, ?_⟩) (by assumption) ?_
    rotate_left
    ·(intro w' hS; (try dsimp only at hS); go_simp; try with_reducible rfl)
    try simp only [Act.put, List.getElem_toArray, List.getElem_cons_succ, List.getElem_cons_zero, List.setIfInBounds_toArray, List.set_cons_zero, List.set_cons_succ]
    refine wpAnyH_take (i := 1) (v := ?_) rfl (by kernel_rfl) (by kernel_rfl) (by kernel_rfl) (fun _ _ _ h => h) (Or.inl ⟨by rfl, ?_⟩) (by assumption) ?_
    rotate_left
    ·(intro w' hS; (try dsimp only at hS); go_simp; try with_reducible rfl)
    try simp only [Act.put, List.getElem_toArray, List.getElem_cons_succ, List.getElem_cons_zero, List.setIfInBounds_toArray, List.set_cons_zero, List.set_cons_succ]
    refine wpAnyH_take (i := 2) (v := ?_) rfl (by kernel_rfl) (by kernel_rfl) (by kernel_rfl) (fun _ _ _ h => h) (Or.inl ⟨by rfl, ?_⟩) (by assumption) ?_
    rotate_left
    ·(intro w' hS; (try dsimp only at hS); go_simp; try with_reducible rfl)
    try simp only [Act.put, List.getElem_toArray, List.getElem_cons_succ, List.getElem_cons_zero, List.setIfInBounds_toArray, List.set_cons_zero, List.set_cons_succ]
    refine wpAnyH_take (i := 3) (v := ?_) rfl (by kernel_rfl) (by kernel_rfl) (by kernel_rfl) (fun _ _ _ h => h) (Or.inl ⟨by rfl, ?_⟩) (by assumption) ?_
    rotate_left
    ·(intro w' hS; (try dsimp only at hS); go_simp; try with_reducible rfl)
    try simp only [Act.put, List.getElem_toArray, List.getElem_cons_succ, List.getElem_cons_zero, List.setIfInBounds_toArray, List.set_cons_zero, List.set_cons_succ]
    refine wpAnyH_take (i := 4) (v := ?_) rfl (by kernel_rfl) (by kernel_rfl) (by kernel_rfl) (fun _ _ _ h => h) (Or.inl ⟨by rfl, ?_⟩) (by assumption) ?_
    rotate_left
    ·(intro w' hS; (try dsimp only at hS); go_simp; try with_reducible rfl)
    try simp only [Act.put, List.getElem_toArray, List.getElem_cons_succ, List.getElem_cons_zero, List.setIfInBounds_toArray, List.set_cons_zero, List.set_cons_succ]
    refine wpAnyH_ready (rs := [5]) (by kernel_rfl) (by simp) ?_
    refine AllReadyH.cons rfl (fun K hK => ?_) AllReadyH.nil
    go_simp
    refine (HFj.out _ T1.drew.1).mono ?_
    rintro e wx ⟨rfl, hb1⟩
    have T2 := T1.drew.on hb1
    have k2 := (show At3 41 W.drew p u v b from k1).on hb1
    clear T1 k1 hb1 HFj
    go_wp2_with fail
    refine hK.out _ _ (⟨k2.c0, k2.c1, k2.c2, T2.2.c0⟩) (fun hHeld => ?_)
    clear hK K
    try simp only [Act.put, List.getElem_toArray, List.getElem_cons_succ, List.getElem_cons_zero, List.setIfInBounds_toArray, List.set_cons_zero, List.set_cons_succ]
    refine wpAnyH_take (i := 6) (v := ?_) rfl (by kernel_rfl) (by kernel_rfl) (by kernel_rfl) (fun _ _ _ h => h) (Or.inl ⟨by rfl, ?_⟩) (by assumption) ?_
    rotate_left
    ·(intro w' hS; (try dsimp only at hS); go_simp; try with_reducible rfl)
    try simp only [Act.put, List.getElem_toArray, List.getElem_cons_succ, List.getElem_cons_zero, List.setIfInBounds_toArray, List.set_cons_zero, List.set_cons_succ]
    refine wpAnyH_done (by kernel_rfl) ?_ _
    refine NoPanic.normal ?_
    clear hHeld k2
    cases t with
    | false =>
     have HE := Lib.hid (HNj.out HD.out)
     go_wp2
     go_ret
     exact mkBol (by rw [HE.out]) T2.1
    | true =>
     have HM := Lib.hid (hM.out.succ HD.out)
     clear hM HNj HD
     go_wp2
     go_roundw
     case rel => exact ⟨j + 1, by omega, by go_num, T2, HM⟩
     case measure => (simp [intOf] <;> omega)
   ·obtain rfl : j = n' := by omega
    have HE := Lib.hid (HY.out (by rw [HL.out]; exact hM.out))
    go_wp2
    go_ret
    exact mkBol (by rw [HE.out]) hT.1
end Go.Proofs.Ytmajllgfmclcoaa.Til

namespace Go.Proofs.Ytmajllgfmclcoaa.Hgt
set_option linter.unusedVariables false
set_option linter.unusedSimpArgs false
open Go.RowKit Go.Proofs.Ytmajllgfmclcoaa.Pure Go.Proofs.Ytmajllgfmclcoaa.Dms Go.Proofs.Ytmajllgfmclcoaa.Til Go.Joins
open Go.Proofs.Ytmajllgfmclcoaa.Reg (ints)
open Go.Proofs.Ytmajllgfmclcoaa.Flo (simB)

def hgtR (xs : List Int) (L : List Dm) (h : List Int) : Prop := (simB xs = true ∧ Row9 xs L h) ∨ (¬ (simB xs = true ∧ tilB xs L = true) ∧ h = [])
theorem hgtR_uniq {xs : List Int} {L : List Dm} {h h' : List Int} (k : hgtR xs L h) (k' : hgtR xs L h') : h = h' := by
 rcases k with ⟨a, b⟩ | ⟨a, b⟩ <;> rcases k' with ⟨c, d⟩ | ⟨c, d⟩
 ·exact row_uniq b d
 ·exact absurd ⟨a, b.til⟩ c
 ·exact absurd ⟨c, d.til⟩ a
 ·rw [b, d]
def HgtP (xs : List Int) (L : List Dm) (w : World) (e : Ending) (w' : World) : Prop :=
 ∃ (h : List Int) (A : Option Addr) (n cap : Nat), hgtR xs L h ∧ h.length = n ∧ e = .returned (.slice A n cap) ∧ w'.ownsRow w.heap.size 3 1 (.slice A n cap) n (ints h) ∧ Below w.heap.size w w'
theorem first_lc {xs : List Int} (ok : okR xs) {x y : Int} {t : List (Int × Int)} (h : cellsR xs = (x, y) :: t) : (0 ≤ x ∧ x ≤ 7 ∧ 0 ≤ y ∧ y ≤ 7) ∧ ((lc xs : Nat) : Int) = y * 9 + x := by
 have hb : hasB xs x y = true := mem_cells.1 (h ▸ List.mem_cons_self ..)
 obtain ⟨_, x0, x7, y0, y7, _⟩ := hasB_iff.1 hb
 have hl : ∀ x' y', hasB xs x' y' = true → y * 8 + x ≤ y' * 8 + x' := fun x' y' hc => by
  have hm := mem_cells.2 hc
  have hi := cells_inc xs
  rw [h] at hm hi
  rcases List.mem_cons.1 hm with e | e
  ·injection e with e1 e2; omega
  ·have := (List.pairwise_cons.1 hi).1 _ e
   simp only at this
   omega
 refine ⟨⟨x0, x7, y0, y7⟩, ?_⟩
 obtain ⟨a, ha⟩ : ∃ a : Nat, (a : Int) = x := ⟨x.toNat, by omega⟩
 obtain ⟨b, hb'⟩ : ∃ b : Nat, (b : Int) = y := ⟨y.toNat, by omega⟩
 have e : lc xs = 9 * b + a := by
  refine lc_of (by omega) (crn_any.2 ⟨0, by omega, ?_⟩) (fun v hv => ?_)
  ·rw [show (((9 * b + a) % 9 : Nat) : Int) - ((0 % 2 : Nat) : Int) = x by omega, show (((9 * b + a) / 9 : Nat) : Int) - ((0 / 2 : Nat) : Int) = y by omega]
   exact hb
  ·cases q : crnB xs v with
   | false => rfl
   | true =>
    obtain ⟨i, hi, hc⟩ := crn_any.1 q
    obtain ⟨_, c0, c7, d0, d7, _⟩ := hasB_iff.1 hc
    have := hl _ _ hc
    omega
 rw [e]; omega
end Go.Proofs.Ytmajllgfmclcoaa.Hgt

namespace Go.Proofs.Ytmajllgfmclcoaa.Hgt
set_option linter.unusedVariables false
set_option linter.unusedSimpArgs false
open Go.RowKit Go.Joins
open Go.Proofs.Ytmajllgfmclcoaa.Flo (simB)

def minR (hs gs : List Int) : List Int := List.zipWith min hs gs
def maxR (hs gs : List Int) : List Int := List.zipWith max hs gs
def ht (hs : List Int) (k : Nat) : Int := hs[k]?.getD 0
def leH (hs gs : List Int) : Prop := ∀ k, k < 81 → ht hs k ≤ ht gs k
theorem ht_zw (m : Int → Int → Int) {hs gs : List Int} (h1 : hs.length = 81) (h2 : gs.length = 81) {k : Nat} (hk : k < 81) : ht (List.zipWith m hs gs) k = m (ht hs k) (ht gs k) := by
 unfold ht
 rw [List.getElem?_eq_getElem (by simp; omega), List.getElem?_eq_getElem (by omega), List.getElem?_eq_getElem (by omega)]
 simp
theorem ht_ext {hs gs : List Int} (h1 : hs.length = 81) (h2 : gs.length = 81) (h : ∀ k, k < 81 → ht hs k = ht gs k) : hs = gs :=
 List.ext_getElem (by omega) fun i p q => by
  have e := h i (by omega)
  unfold ht at e
  rw [List.getElem?_eq_getElem p, List.getElem?_eq_getElem q] at e
  exact e
theorem min_eq {hs gs : List Int} (h1 : hs.length = 81) (h2 : gs.length = 81) : minR hs gs = hs ↔ leH hs gs := by
 constructor
 ·intro e k hk
  have a := ht_zw min h1 h2 hk
  unfold minR at e
  rw [e] at a; omega
 ·intro h
  refine ht_ext (by unfold minR; simp; omega) h1 fun k hk => ?_
  have := h k hk
  unfold minR; rw [ht_zw min h1 h2 hk]; omega
end Go.Proofs.Ytmajllgfmclcoaa.Hgt

namespace Go.Proofs.Ytmajllgfmclcoaa.Hgt
set_option linter.unusedVariables false
set_option linter.unusedSimpArgs false
set_option maxRecDepth 100000
open Go.RowKit Go.Joins
open Go.Proofs.Ytmajllgfmclcoaa.Flo (simB)

def dst (hs gs : List Int) (k : Nat) : Nat := ((List.range k).map fun i => (ht hs i - ht gs i).natAbs).sum
theorem dst_zero (hs gs : List Int) : dst hs gs 0 = 0 := rfl
theorem dst_step (hs gs : List Int) (k : Nat) : dst hs gs (k + 1) = dst hs gs k + (ht hs k - ht gs k).natAbs := by
 unfold dst
 rw [List.range_succ, List.map_append, List.sum_append]
 simp
end Go.Proofs.Ytmajllgfmclcoaa.Hgt

namespace Go.Proofs.Ytmajllgfmclcoaa.Hgt
set_option linter.unusedVariables false
set_option linter.unusedSimpArgs false
open Go.RowKit Go.Proofs.Ytmajllgfmclcoaa.Dms Go.Joins
open Go.Proofs.Ytmajllgfmclcoaa.Flo (simB)

theorem hgtR_row {xs : List Int} {L : List Dm} {hs : List Int} (r : hgtR xs L hs) : (hs = [] ∧ hs.length = 0) ∨ (hs.length = 81 ∧ hs ≠ [] ∧ simB xs = true ∧ Row9 xs L hs) := by
 rcases r with ⟨a, b⟩ | ⟨_, rfl⟩
 ·have l := b.len
  exact .inr ⟨l, fun e => by rw [e] at l; simp at l, a, b⟩
 ·exact .inl ⟨rfl, rfl⟩
def belR (xs : List Int) (L M : List Dm) (b : Bool) : Prop := ∃ hs gs, hgtR xs L hs ∧ hgtR xs M gs ∧ (b = true ↔ hs ≠ [] ∧ gs ≠ [] ∧ leH hs gs)
theorem belR_uniq {xs : List Int} {L M : List Dm} {b b' : Bool} (h : belR xs L M b) (h' : belR xs L M b') : b = b' := by
 obtain ⟨hs, gs, a, c, d⟩ := h
 obtain ⟨hs', gs', a', c', d'⟩ := h'
 obtain rfl := hgtR_uniq a a'
 obtain rfl := hgtR_uniq c c'
 rw [Bool.eq_iff_iff, d, d']
def stepR (xs : List Int) (L M : List Dm) (n : Int) : Prop :=
 ∃ hs gs, hgtR xs L hs ∧ hgtR xs M gs ∧ (((hs = [] ∨ gs = []) ∧ n = -1) ∨ ((hs ≠ [] ∧ gs ≠ []) ∧ n = ((dst hs gs 81 / 4 : Nat) : Int)))
theorem stepR_uniq {xs : List Int} {L M : List Dm} {n n' : Int} (h : stepR xs L M n) (h' : stepR xs L M n') : n = n' := by
 obtain ⟨hs, gs, a, c, d⟩ := h
 obtain ⟨hs', gs', a', c', d'⟩ := h'
 obtain rfl := hgtR_uniq a a'
 obtain rfl := hgtR_uniq c c'
 rcases d with ⟨n, rfl⟩ | ⟨n, rfl⟩ <;> rcases d' with ⟨n', rfl⟩ | ⟨n', rfl⟩
 ·rfl
 ·rcases n with n | n
  ·exact absurd n n'.1
  ·exact absurd n n'.2
 ·rcases n' with q | q
  ·exact absurd q n.1
  ·exact absurd q n.2
 ·rfl
theorem dst_bd {xs : List Int} {L M : List Dm} {hs gs : List Int} (r : Row9 xs L hs) (q : Row9 xs M gs) : ∀ k, k < 81 → (ht hs k = -1000 ∨ (-80 ≤ ht hs k ∧ ht hs k ≤ 80)) ∧ (ht gs k = -1000 ∨ (-80 ≤ ht gs k ∧ ht gs k ≤ 80)) := fun k hk => by
 have l1 := r.len
 have l2 := q.len
 have b1 := r.bd hs[k] (List.getElem_mem (by omega))
 have b2 := q.bd gs[k] (List.getElem_mem (by omega))
 unfold ht
 rw [List.getElem?_eq_getElem (by omega), List.getElem?_eq_getElem (by omega)]
 exact ⟨b1, b2⟩
theorem dst_small {hs gs : List Int} (b : ∀ k, k < 81 → (ht hs k = -1000 ∨ (-80 ≤ ht hs k ∧ ht hs k ≤ 80)) ∧ (ht gs k = -1000 ∨ (-80 ≤ ht gs k ∧ ht gs k ≤ 80))) : ∀ k, k ≤ 81 → dst hs gs k ≤ 2000 * k
 | 0, _ => Nat.le_refl _
 | k + 1, hk => by
  rw [dst_step]
  have := dst_small b k (by omega)
  have := b k (by omega)
  omega
end Go.Proofs.Ytmajllgfmclcoaa.Hgt

namespace Go.Proofs.Ytmajllgfmclcoaa.Hgt
set_option linter.unusedVariables false
set_option linter.unusedSimpArgs false
open Go.RowKit Go.Proofs.Ytmajllgfmclcoaa.Dms Go.Joins
open Go.Proofs.Ytmajllgfmclcoaa.Flo (simB)

theorem nh_same {xs : List Int} {L M : List Dm} {hs gs : List Int} (r : Row9 xs L hs) (q : Row9 xs M gs) : ∀ k, k < 81 → (ht hs k = -1000 ↔ ht gs k = -1000) := fun k hk => by
 obtain ⟨f, hf, rfl, bf⟩ := r.f
 obtain ⟨g, hg, rfl, bg⟩ := q.f
 unfold ht
 rw [row_at xs f hk, row_at xs g hk]
 by_cases c : crnB xs k = true
 ·rw [if_pos c, if_pos c]
  have := bf k hk c
  have := bg k hk c
  simp only [Option.getD_some]
  omega
 ·rw [if_neg c, if_neg c]
theorem ht_at {hs : List Int} {k : Nat} (hk : k < hs.length) : ht hs k = hs[k] := by
 unfold ht
 rw [List.getElem?_eq_getElem hk]; rfl
theorem high_low {xs : List Int} {L M : List Dm} {hs gs : List Int} (r : Row9 xs L hs) (q : Row9 xs M gs) :
  ∀ k : Nat, k ≤ 81 → -80 * (k : Int) ≤ sumH (minR hs gs) k ∧ sumH (minR hs gs) k ≤ 80 * k ∧ -80 * (k : Int) ≤ sumH (maxR hs gs) k ∧ sumH (maxR hs gs) k ≤ 80 * k ∧ sumH (maxR hs gs) k = sumH (minR hs gs) k + (dst hs gs k : Nat)
 | 0, _ => by
  rw [dst_zero]
  simp [sumH]
 | k + 1, hk => by
  obtain ⟨a, a', b, b', e⟩ := high_low r q k (by omega)
  have l1 := r.len
  have l2 := q.len
  have n := nh_same r q k (by omega)
  have d := dst_bd r q k (by omega)
  have h1 : k < (minR hs gs).length := by unfold minR; rw [List.length_zipWith]; omega
  have h2 : k < (maxR hs gs).length := by unfold maxR; rw [List.length_zipWith]; omega
  rw [sumH_step h1, sumH_step h2, dst_step]
  have m1 : (minR hs gs)[k] = min (ht hs k) (ht gs k) := by rw [← ht_at h1]; exact ht_zw min l1 l2 (by omega)
  have m2 : (maxR hs gs)[k] = max (ht hs k) (ht gs k) := by rw [← ht_at h2]; exact ht_zw max l1 l2 (by omega)
  rw [m1, m2]
  generalize ht hs k = x at *
  generalize ht gs k = y at *
  unfold wrap64
  split <;> split <;> omega
theorem high_low81 {xs : List Int} {L M : List Dm} {hs gs : List Int} (r : Row9 xs L hs) (q : Row9 xs M gs) : sumH (maxR hs gs) 81 - sumH (minR hs gs) 81 = (dst hs gs 81 : Nat) ∧ dst hs gs 81 ≤ 12960 ∧ -6480 ≤ sumH (minR hs gs) 81 ∧ sumH (minR hs gs) 81 ≤ 6480 := by
 obtain ⟨a, a', b, b', e⟩ := high_low r q 81 (Nat.le_refl _)
 omega
end Go.Proofs.Ytmajllgfmclcoaa.Hgt

namespace Go.Proofs.Ytmajllgfmclcoaa.Jn
set_option linter.unusedVariables false
set_option linter.unusedSimpArgs false
set_option maxRecDepth 100000
open Go.RowKit Go.Proofs.Ytmajllgfmclcoaa.Dms Go.Proofs.Ytmajllgfmclcoaa.Hgt Go.Joins
open Go.Proofs.Ytmajllgfmclcoaa.Flo (simB)
open Go.Proofs.Ytmajllgfmclcoaa.Reg (ints)

def BelP (xs : List Int) (L M : List Dm) (w : World) (e : Ending) (w' : World) : Prop := ∃ b : Bool, e = .returned (.bool b) ∧ belR xs L M b ∧ Below w.heap.size w w'
def StpP (xs : List Int) (L M : List Dm) (w : World) (e : Ending) (w' : World) : Prop := ∃ d : Int, e = .returned (.int .i64 d) ∧ stepR xs L M d ∧ Below w.heap.size w w'
structure Two (xs : List Int) (L M : List Dm) (hs gs : List Int) : Prop where
  lh : hs.length = 81
  lg : gs.length = 81
  nh : hs ≠ []
  ng : gs ≠ []
  rh : Row9 xs L hs
  rg : Row9 xs M gs
theorem rows_two {xs : List Int} {L M : List Dm} {hs gs : List Int} (a : hgtR xs L hs) (b : hgtR xs M gs) : (hs = [] ∨ gs = []) ∨ Two xs L M hs gs := by
  rcases hgtR_row a with ⟨e, _⟩ | ⟨l1, n1, _, r1⟩
  · exact .inl (.inl e)
  · rcases hgtR_row b with ⟨e, _⟩ | ⟨l2, n2, _, r2⟩
    · exact .inl (.inr e)
    · exact .inr ⟨l1, l2, n1, n2, r1, r2⟩
section
variable {xs : List Int} {L M : List Dm} {hs gs : List Int}
theorem bel_no (a : hgtR xs L hs) (b : hgtR xs M gs) (h : hs = [] ∨ gs = []) : belR xs L M false :=
  ⟨hs, gs, a, b, by constructor
                    · intro e; cases e
                    · intro ⟨n1, n2, _⟩; rcases h with h | h
                      · exact absurd h n1
                      · exact absurd h n2⟩
theorem bel_of (a : hgtR xs L hs) (b : hgtR xs M gs) (t : Two xs L M hs gs) {q : Bool} (h : q = true ↔ leH hs gs) : belR xs L M q :=
  ⟨hs, gs, a, b, h.trans ⟨fun e => ⟨t.nh, t.ng, e⟩, fun e => e.2.2⟩⟩
theorem bel_yes (a : hgtR xs L hs) (b : hgtR xs M gs) (t : Two xs L M hs gs) (h : leH hs gs) : belR xs L M true := bel_of a b t ⟨fun _ => h, fun _ => rfl⟩
theorem bel_not (a : hgtR xs L hs) (b : hgtR xs M gs) (t : Two xs L M hs gs) {k : Nat} (hk : k < 81) (h : ht gs k < ht hs k) : belR xs L M false :=
  bel_of a b t ⟨fun e => (by cases e), fun e => (by have := e k hk; omega)⟩
theorem bel_min (a : hgtR xs L hs) (b : hgtR xs M gs) (t : Two xs L M hs gs) : belR xs L M (decide (List.zipWith min hs gs = hs)) :=
  bel_of a b t (by rw [decide_eq_true_eq]; exact min_eq t.lh t.lg)
theorem stp_no (a : hgtR xs L hs) (b : hgtR xs M gs) (h : hs = [] ∨ gs = []) : stepR xs L M (-1) := ⟨hs, gs, a, b, .inl ⟨h, rfl⟩⟩
theorem div_four (q : Nat) : (q : Int) / 4 = ((q / 4 : Nat) : Int) := by omega
theorem stp_of (a : hgtR xs L hs) (b : hgtR xs M gs) (t : Two xs L M hs gs) {d : Nat} (h : d = dst hs gs 81) : stepR xs L M ((d : Int) / 4) := ⟨hs, gs, a, b, .inr ⟨⟨t.nh, t.ng⟩, h ▸ div_four d⟩⟩
theorem zw_len (m : Int → Int → Int) (l1 : hs.length = 81) (l2 : gs.length = 81) : (List.zipWith m hs gs).length = 81 := by rw [List.length_zipWith]; omega
theorem zw_take (m : Int → Int → Int) {k : Nat} (l1 : hs.length = 81) (l2 : gs.length = 81) (hk : k < 81) : (List.zipWith m hs gs).take (k + 1) = (List.zipWith m hs gs).take k ++ [m (hs[k]'(by omega)) (gs[k]'(by omega))] := by
  rw [List.take_succ_eq_append_getElem (by rw [zw_len m l1 l2]; exact hk), List.getElem_zipWith]
theorem zw_all (m : Int → Int → Int) (l1 : hs.length = 81) (l2 : gs.length = 81) : (List.zipWith m hs gs).take 81 = List.zipWith m hs gs := List.take_of_length_le (by rw [zw_len m l1 l2]; exact Nat.le_refl _)
end
end Go.Proofs.Ytmajllgfmclcoaa.Jn

namespace Go.Proofs.Ytmajllgfmclcoaa.Wg
set_option linter.unusedVariables false
set_option linter.unusedSimpArgs false
open Go.RowKit Go.Joins
open Go.Proofs.Ytmajllgfmclcoaa.Reg (own_below own_base)

def natV (l : List Nat) : List Value := l.map fun n : Nat => Value.int .i64 (n : Int)
theorem natV_length (l : List Nat) : (natV l).length = l.length := by unfold natV; simp
theorem natV_snoc (l : List Nat) (n : Nat) : natV (l ++ [n]) = natV l ++ [.int .i64 (n : Int)] := by unfold natV; simp
theorem natV_at {l : List Nat} {i v : Nat} (h : l[i]? = some v) : (natV l)[i]? = some (.int .i64 (v : Int)) := by unfold natV; rw [List.getElem?_map, h]; rfl
def rowF (n : Nat) (a : Nat → Int) : List Value := (List.range n).map fun i => Value.int .i64 (a i)
theorem rowF_at {n : Nat} {a : Nat → Int} {i : Nat} (h : i < n) : (rowF n a)[i]? = some (.int .i64 (a i)) := by unfold rowF; rw [List.getElem?_map, List.getElem?_range h]; rfl
def NumR (W : World) (base b n : Nat) (a : Nat → Int) : Prop := W.ownsRow base 3 1 (.slice (some ⟨b, 0, none⟩) n n) n (rowF n a)
section
variable {W W' : World} {base b n : Nat} {a : Nat → Int}
theorem NumR.lt (h : NumR W base b n a) : base ≤ b ∧ b < W.heap.size := World.ownsRow.lt h b rfl
theorem NumR.cell (h : NumR W base b n a) {i : Nat} (hi : i < n) : W.cell? ⟨b, i, none⟩ = some (.int .i64 (a i)) := (World.ownsRow.cellAt h i (by omega)).trans (rowF_at hi)
end
def RdN (w : World) (B : Nat) (A : Option Addr) (l : List Nat) : Prop := ∃ b, (0 < l.length → A = some ⟨b, 0, none⟩ ∧ b < B) ∧ ∀ (i : Nat) (hi : i < l.length), w.cell? ⟨b, i, none⟩ = some (.int .i64 ((l[i] : Nat) : Int))
theorem rdN_own {w : World} {base n cap : Nat} {A : Option Addr} {l : List Nat} (h : w.ownsRow base 3 1 (.slice A n cap) n (natV l)) : RdN w w.heap.size A l := by
 have hl : l.length = n := by have := h.1; rw [natV_length] at this; omega
 rcases h.2 with ⟨q, h0⟩ | ⟨g, cap', cur, q, hb, hg, _⟩
 ·have h00 : n = 0 := h0
  exact ⟨0, fun h1 => by omega, fun i hi => by omega⟩
 ·injection q with q1 _ q3
  subst q1; subst q3
  refine ⟨g, fun _ => ⟨rfl, (World.ownsRow.lt h g rfl).2⟩, fun i hi => ?_⟩
  exact (World.ownsRow.cellAt h i (by omega)).trans (natV_at (List.getElem?_eq_getElem hi))
end Go.Proofs.Ytmajllgfmclcoaa.Wg
