/- TilS in one text. -/
import Derived.Test.YtmajllgfmclcoaaGreatDoorMe24
import Derived.Laws.OwnMore

namespace Go.Proofs.YtmajllgfmclcoaaGreatDoor.Til
set_option linter.unusedVariables false
set_option linter.unusedSimpArgs false
open Go.RowKit Go.Proofs.YtmajllgfmclcoaaGreatDoor.Pure Go.Proofs.YtmajllgfmclcoaaGreatDoor.Cell Go.Proofs.YtmajllgfmclcoaaGreatDoor.CellF Go.Proofs.YtmajllgfmclcoaaGreatDoor.Dom Go.Proofs.YtmajllgfmclcoaaGreatDoor.Dms Go.Joins
open Go.Proofs.YtmajllgfmclcoaaGreatDoor.Reg hiding Yes RC rc_start

def rowU (M : List Dm) : List Value := (List.range 64).map fun (j : Nat) => Value.bool (anyM M ((j % 8 : Nat) : Int) ((j / 8 : Nat) : Int))
theorem rowU_length (M : List Dm) : (rowU M).length = 64 := by unfold rowU; simp
theorem rowU_nil : rowU [] = List.replicate 64 (.bool false) := by unfold rowU anyM; rfl
theorem idx_nat {x y : Int} (h : Ok x y) : ∃ k : Nat, k < 64 ∧ indexN x y = (k : Int) ∧ ((k % 8 : Nat) : Int) = x ∧ ((k / 8 : Nat) : Int) = y := by
 have hi := index_of h
 obtain ⟨x0, x7, y0, y7⟩ := h
 exact ⟨(y * 8 + x).toNat, by omega, by rw [hi]; omega, by omega, by omega⟩
theorem rowU_at (M : List Dm) {k : Nat} (hk : k < 64) : (rowU M)[k]? = some (.bool (anyM M ((k % 8 : Nat) : Int) ((k / 8 : Nat) : Int))) := by unfold rowU; simp [List.getElem?_range hk]
theorem rowU_put (M : List Dm) (d : Dm) (hd : okM d = true) {k1 k2 : Nat} (h1 : k1 < 64) (h2 : k2 < 64) (e1 : ((k1 % 8 : Nat) : Int) = d.1) (e2 : ((k1 / 8 : Nat) : Int) = d.2.1) (e3 : ((k2 % 8 : Nat) : Int) = sx d.1 d.2.2) (e4 : ((k2 / 8 : Nat) : Int) = sy d.2.1 d.2.2) :
  ((rowU M).set k1 (.bool true)).set k2 (.bool true) = rowU (M ++ [d]) := by
 apply List.ext_getElem?
 intro j
 by_cases hj : j < 64
 ·rw [rowU_at _ hj, anyM_snoc]
  have hcov : covM d ((j % 8 : Nat) : Int) ((j / 8 : Nat) : Int) = (decide (j = k1) || decide (j = k2)) := by
   unfold covM covP
   rw [hd, Bool.true_and, ← e3, ← e4, ← e1, ← e2, Bool.eq_iff_iff]
   simp only [Bool.or_eq_true, eqB_iff, decide_eq_true_eq]
   omega
  rw [hcov]
  by_cases c2 : j = k2
  ·subst c2
   rw [List.getElem?_set_self (by rw [List.length_set, rowU_length]; exact hj)]
   simp
  ·rw [List.getElem?_set_ne (by omega)]
   by_cases c1 : j = k1
   ·subst c1
    rw [List.getElem?_set_self (by rw [rowU_length]; exact hj)]
    simp
   ·rw [List.getElem?_set_ne (by omega), rowU_at _ hj]
    simp [c1, c2]
 ·rw [List.getElem?_eq_none (by rw [List.length_set, List.length_set, rowU_length]; omega), List.getElem?_eq_none (by rw [rowU_length]; omega)]
def prevB (M : List Dm) (d : Dm) : Bool := match M.getLast? with | none => true | some p => befM p d
theorem stepB_eq (xs : List Int) (M : List Dm) (d : Dm) : stepB xs M d = (prevB M d && ((hasB xs d.1 d.2.1 && !anyM M d.1 d.2.1) && (hasB xs (sx d.1 d.2.2) (sy d.2.1 d.2.2) && !anyM M (sx d.1 d.2.2) (sy d.2.1 d.2.2)))) := rfl
theorem prevB_0 {L : List Dm} {d : Dm} : prevB (L.take 0) d = true := rfl
theorem prevB_s {L : List Dm} {k : Nat} (hk : k < L.length) (h0 : 0 < k) (d : Dm) : prevB (L.take k) d = befM (L[k - 1]'(by omega)) d := by
 unfold prevB
 have : (L.take k).getLast? = some (L[k - 1]'(by omega)) := by
  rw [List.getLast?_eq_getElem?, List.length_take, Nat.min_eq_left (by omega), List.getElem?_take, if_pos (by omega)]
  exact List.getElem?_eq_getElem _
 rw [this]
def US (w : World) (v : Value) (M : List Dm) (W : World) : Prop := R1 w v W ∧ W.ownsRow (w.heap.size + 1) 4 1 (.slice (some ⟨w.heap.size + 1, 0, none⟩) 64 64) 64 (rowU M)
section
variable {w W W' : World} {v : Value} {M : List Dm}
theorem US.on (h : US w v M W) (hb : Below W.heap.size W W') : US w v M W' := ⟨h.1.on hb, Reg.own_below h.2 hb (Nat.le_refl _)⟩
theorem US.drew (h : US w v M W) : US w v M W.drew := ⟨h.1.drew, h.2⟩
theorem US.cell (h : US w v M W) {k : Nat} (hk : k < 64) : W.cell? ⟨w.heap.size + 1, k, none⟩ = some (.bool (anyM M ((k % 8 : Nat) : Int) ((k / 8 : Nat) : Int))) := (h.2.cellAt k (by omega)).trans (rowU_at M hk)
theorem US.froz (h : US w v M W) (k : Nat) : W.frozen? ⟨w.heap.size + 1, k, none⟩ = false := h.2.frozenAt k
theorem Rg.far {W : World} {p q i : Nat} {v u : Value} (h : Rg W q v) (hp : q ≠ p) : Rg (W.setCell ⟨p, i, none⟩ u) q v := (Below.heap_setCell W ⟨p, i, none⟩ u q hp).trans h
theorem R1.put (h : R1 w v W) (k : Nat) (u : Value) : R1 w v (W.setCell ⟨w.heap.size + 1, k, none⟩ u) := ⟨h.1.setCell (p := ⟨w.heap.size + 1, k, none⟩) (by show _ ≤ w.heap.size + 1; omega) _, h.2.far (by omega)⟩
end
def UT (w : World) (v : Value) (cs : List Value) (W : World) : Prop := R1 w v W ∧ W.ownsRow (w.heap.size + 1) 4 1 (.slice (some ⟨w.heap.size + 1, 0, none⟩) 64 64) 64 cs
theorem UT.on {w W W' : World} {v : Value} {cs : List Value} (h : UT w v cs W) (hb : Below W.heap.size W W') : UT w v cs W' := ⟨h.1.on hb, Reg.own_below h.2 hb (Nat.le_refl _)⟩
theorem UT.put {w W : World} {v : Value} {cs : List Value} (h : UT w v cs W) (k : Nat) (u : Value) : UT w v (cs.set k u) (W.setCell ⟨w.heap.size + 1, k, none⟩ u) := ⟨h.1.put k u, (h.2.stored k u).1⟩
theorem UT.cell {w W : World} {v : Value} {cs : List Value} (h : UT w v cs W) (hc : cs.length = 64) {k : Nat} (hk : k < 64) : ∃ u, W.cell? ⟨w.heap.size + 1, k, none⟩ = some u := ⟨cs[k]'(by omega), (h.2.cellAt k (by omega)).trans (List.getElem?_eq_getElem (by omega))⟩
theorem UT.froz {w W : World} {v : Value} {cs : List Value} (h : UT w v cs W) (k : Nat) : W.frozen? ⟨w.heap.size + 1, k, none⟩ = false := h.2.frozenAt k

theorem boolInfo : (Tryz.prog.info? 4).map (fun i => (i.zero, i.size, i.bytes)) = some (some (.bool false), 1, 1) := by kernel_rfl

set_option maxRecDepth 100000 in
set_option maxHeartbeats 4000000 in
theorem sIsPartial (w : World) (A : Option Addr) (n cap B : Nat) (xs : List Int) (hx : xs.length = n) (hn : (n : Int) ≤ 9223372036854775807) (h : RowB w B A xs) (hB : B ≤ w.heap.size)
  (A' : Option Addr) (n' cap' B' : Nat) (L : List Dm) (hL : L.length = n') (hn' : (n' : Int) ≤ 9223372036854775807) (h' : RowM w B' A' L) (hB' : B' ≤ w.heap.size) :
  Calls Tryz.prog 39 #[.agg #[.slice A n cap], .slice A' n' cap'] w (Bol (partB xs L) w) := by
 obtain ⟨i0, hi, hz0, hz1, hz2⟩ := info_parts boolInfo
 obtain ⟨b0, off, hA, hR⟩ := h'.at
 have HS := Lib.hid (r1_start w (.slice A n cap))
 have HO := Lib.hid (fun W (hb : Below w.heap.size w W) => sRegionOk W A n cap B xs hx hn (h.below hb hB) (by have := hb.size; omega))
 have HH := Lib.hid (fun W (hb : Below w.heap.size w W) x y => sHasCell W A n cap B xs hx hn (h.below hb hB) (by have := hb.size; omega) x y)
 have HW := Lib.hid (fun W (hb : Below w.heap.size w W) (j : Nat) (hj : j < L.length) (h0 : 0 < L.length) => (show _ ∧ _ ∧ _ from ⟨(hb.cell (p := ⟨b0, off + j * 3, none⟩) (by have := (hA h0).2; show b0 < _; omega)).trans (hR j hj).1, (hb.cell (p := ⟨b0, off + j * 3 + 1, none⟩) (by have := (hA h0).2; show b0 < _; omega)).trans (hR j hj).2.1, (hb.cell (p := ⟨b0, off + j * 3 + 2, none⟩) (by have := (hA h0).2; show b0 < _; omega)).trans (hR j hj).2.2⟩))
 have HA := Lib.hid (fun h0 => (hA h0).1)
 have HL := Lib.hid hL
 have HY := Lib.hid (fun (hg : Go1 xs L L.length) => (show partB xs L = okRB xs from by
  cases ho : okRB xs with
  | true => exact part_yes ho hg
  | false => exact part_not ho))
 have HN := Lib.hid (fun k (hk : k < L.length) hs => part_no (xs := xs) (L := L) (k := k) hk hs)
 generalize partB xs L = r at HY HN ⊢
 clear hx h hB hL h' hB' hA hR
 go_enter Tryz.func39, Tryz.ntmps39
 go_wp2_with (first
  | (at_make; refine wpList_make_full _ rfl _ _ 82 rfl (w.heap.size + 1) 4 i0 (.bool false) 1 Tryz.underlying82 hi hz0 hz1 .i64 .i64 64 64 64 rfl rfl rfl rfl (by rw [hz2]; omega) (by unfold maxLen; omega) (by simp) ?_; intro w1 hown1 hg1))
 have T0 : US w (.slice A n cap) [] w1 := by
  have hT := HS.out
  have hs0 : (w.alloc (.cells #[.slice A n cap] 26)).heap.size = w.heap.size + 1 := by simp
  refine ⟨⟨hT.1.grown hg1 (by omega) (by simp), (hg1.block _ hT.2.lt (by simp)).trans hT.2⟩, ?_⟩
  rw [hs0, show (Value.bool false).cells = #[.bool false] from rfl, Nat.mul_one, toList_madeCells_one] at hown1
  rw [rowU_nil]
  exact hown1
 have hsz : (w.alloc (.cells #[.slice A n cap] 26)).heap.size = w.heap.size + 1 := by simp
 try rw [hsz]
 clear hown1 hg1 HS hi hz0 hz1 hz2 hsz
 go_wp2_with fail
 go_loopw [6] (fun i wr => ∃ j : Nat, j ≤ n' ∧ i = .int .i64 j ∧ US w (.slice A n cap) (L.take j) wr ∧ Hid (Go1 xs L j)) (fun i _ => n' - (intOf i).toNat)
 case atStart => exact ⟨0, Nat.zero_le _, rfl, T0, Lib.hid (Go1.zero _ _)⟩
 case round =>
  clear T0
  obtain ⟨j, hj, rfl, T0, hM⟩ := hrel
  by_cases hlt : j < n'
  ·have hjL : j < L.length := by have := HL.out; omega
   obtain rfl := HA.out (by omega)
   have HWj := Lib.hid (fun W hb => HW.out W hb j hjL (by omega))
   have HWp := Lib.hid (fun W hb (h0 : 0 < j) => HW.out W hb (j - 1) (by omega) (by omega))
   have HD := Lib.hid (stpAt_of (xs := xs) hjL)
   have HPs := Lib.hid (fun (h0 : 0 < j) => prevB_s hjL h0 L[j])
   have HT := Lib.hid (show L.take (j + 1) = L.take j ++ [L[j]] from List.take_succ_eq_append_getElem hjL)
   generalize L[j] = d at HWj HD HT HPs
   obtain ⟨x, y, b⟩ := d
   have HSp := Lib.hid (stepB_eq xs (L.take j) (x, y, b))
   have HSo := Lib.hid (fun h => stepB_ok (xs := xs) (M := L.take j) (d := (x, y, b)) h)
   have HDo := Lib.hid (fun W => sDominoOk x y b W)
   have HU := Lib.hid (fun hd W => sCellsUnder_ok x y b hd W)
   have HRU := Lib.hid (fun hd {k1 k2} h1 h2 e1 e2 e3 e4 => rowU_put (L.take j) (x, y, b) hd (k1 := k1) (k2 := k2) h1 h2 e1 e2 e3 e4)
   have HOk := Lib.hid (fun (h : domB x y b = true) => (show Ok x y ∧ Ok (sx x b) (sy y b) from by
    unfold domB at h; simp only [Bool.and_eq_true, okB_iff] at h; exact h))
   have HNj := Lib.hid (fun hs => HN.out j hjL hs)
   generalize hM0 : L.take j = M at T0 HD HT HSp HSo HRU
   generalize stepB xs M (x, y, b) = t at HD HSp HSo
   simp only [okM] at HRU HSo HWj HSp
   generalize domB x y b = p at HDo HU HRU HOk HSo
   generalize sx x b = u at HU HRU HOk HSp
   generalize sy y b = v at HU HRU HOk HSp
   cases p with
   | false =>
    have HE := Lib.hid (show stpAt xs L j = false by rw [HD.out]; cases t with
     | false => rfl
     | true => have := HSo.out rfl; cases this)
    have HWc := HWj.out
    clear HWp HPs HT HSp HSo HU HRU HOk HD hM0
    go_upto_region 5 with fail
    refine wp_region_noPanic ?_
    refine wp_region_held_drew (S := (fun w' => w'.cell? ⟨b0, off + j * 3, none⟩ = some (.int .i64 x) ∧ w'.cell? ⟨b0, off + j * 3 + 1, none⟩ = some (.int .i64 y) ∧ w'.cell? ⟨b0, off + j * 3 + 2, none⟩ = some (.bool b))) (by kernel_rfl) (HWc _ T0.drew.1.1) (fun hHeld => ?_)
    refine wpAnyH_take (i := 0) (v := ?_) rfl (by kernel_rfl) (by kernel_rfl) (by kernel_rfl) (fun _ _ _ h => h) (Or.inl ⟨(by as_aux_lemma => kernel_rfl), ?_⟩) (by assumption) ?_
    rotate_left
    ·(intro w' hS; (try dsimp only at hS); go_simp; try with_reducible rfl)
    try simp only [Act.put, List.getElem_toArray, List.getElem_cons_succ, List.getElem_cons_zero, List.setIfInBounds_toArray, List.set_cons_zero, List.set_cons_succ]
    refine wpAnyH_take (i := 1) (v := ?_) rfl (by kernel_rfl) (by kernel_rfl) (by kernel_rfl) (fun _ _ _ h => h) (Or.inl ⟨(by as_aux_lemma => kernel_rfl), ?_⟩) (by assumption) ?_
    rotate_left
    ·(intro w' hS; (try dsimp only at hS); go_simp; try with_reducible rfl)
    try simp only [Act.put, List.getElem_toArray, List.getElem_cons_succ, List.getElem_cons_zero, List.setIfInBounds_toArray, List.set_cons_zero, List.set_cons_succ]
    refine wpAnyH_take (i := 2) (v := ?_) rfl (by kernel_rfl) (by kernel_rfl) (by kernel_rfl) (fun _ _ _ h => h) (Or.inl ⟨(by as_aux_lemma => kernel_rfl), ?_⟩) (by assumption) ?_
    rotate_left
    ·(intro w' hS; (try dsimp only at hS); go_simp; try with_reducible rfl)
    try simp only [Act.put, List.getElem_toArray, List.getElem_cons_succ, List.getElem_cons_zero, List.setIfInBounds_toArray, List.set_cons_zero, List.set_cons_succ]
    refine wpAnyH_take (i := 3) (v := ?_) rfl (by kernel_rfl) (by kernel_rfl) (by kernel_rfl) (fun _ _ _ h => h) (Or.inl ⟨(by as_aux_lemma => kernel_rfl), ?_⟩) (by assumption) ?_
    rotate_left
    ·(intro w' hS; (try dsimp only at hS); go_simp; try with_reducible rfl)
    try simp only [Act.put, List.getElem_toArray, List.getElem_cons_succ, List.getElem_cons_zero, List.setIfInBounds_toArray, List.set_cons_zero, List.set_cons_succ]
    refine wpAnyH_ready (rs := [4]) (by kernel_rfl) (by simp) ?_
    refine AllReadyH.cons rfl (fun K hK => ?_) AllReadyH.nil
    go_simp
    refine (HDo.out _).mono ?_
    rintro e wx ⟨rfl, hb1⟩
    have T1 := T0.drew.on hb1
    clear T0 hb1 HDo
    go_wp2_with fail
    refine hK.out _ _ (HWc _ T1.1.1) (fun hHeld => ?_)
    clear hK K
    try simp only [Act.put, List.getElem_toArray, List.getElem_cons_succ, List.getElem_cons_zero, List.setIfInBounds_toArray, List.set_cons_zero, List.set_cons_succ]
    refine wpAnyH_take (i := 5) (v := ?_) rfl (by kernel_rfl) (by kernel_rfl) (by kernel_rfl) (fun _ _ _ h => h) (Or.inl ⟨(by as_aux_lemma => kernel_rfl), ?_⟩) (by assumption) ?_
    rotate_left
    ·(intro w' hS; (try dsimp only at hS); go_simp; try with_reducible rfl)
    try simp only [Act.put, List.getElem_toArray, List.getElem_cons_succ, List.getElem_cons_zero, List.setIfInBounds_toArray, List.set_cons_zero, List.set_cons_succ]
    refine wpAnyH_take (i := 6) (v := ?_) rfl (by kernel_rfl) (by kernel_rfl) (by kernel_rfl) (fun _ _ _ h => h) (Or.inl ⟨(by as_aux_lemma => kernel_rfl), ?_⟩) (by assumption) ?_
    rotate_left
    ·(intro w' hS; (try dsimp only at hS); go_simp; try with_reducible rfl)
    try simp only [Act.put, List.getElem_toArray, List.getElem_cons_succ, List.getElem_cons_zero, List.setIfInBounds_toArray, List.set_cons_zero, List.set_cons_succ]
    refine wpAnyH_take (i := 7) (v := undef) rfl (by kernel_rfl) (by kernel_rfl) (by kernel_rfl) (fun _ _ _ h => h) (Or.inr ⟨(by as_aux_lemma => kernel_rfl), rfl⟩) (by assumption) ?_
    try simp only [Act.put, List.getElem_toArray, List.getElem_cons_succ, List.getElem_cons_zero, List.setIfInBounds_toArray, List.set_cons_zero, List.set_cons_succ]
    refine wpAnyH_take (i := 8) (v := undef) rfl (by kernel_rfl) (by kernel_rfl) (by kernel_rfl) (fun _ _ _ h => h) (Or.inr ⟨(by as_aux_lemma => kernel_rfl), rfl⟩) (by assumption) ?_
    try simp only [Act.put, List.getElem_toArray, List.getElem_cons_succ, List.getElem_cons_zero, List.setIfInBounds_toArray, List.set_cons_zero, List.set_cons_succ]
    refine wpAnyH_take (i := 9) (v := undef) rfl (by kernel_rfl) (by kernel_rfl) (by kernel_rfl) (fun _ _ _ h => h) (Or.inr ⟨(by as_aux_lemma => kernel_rfl), rfl⟩) (by assumption) ?_
    try simp only [Act.put, List.getElem_toArray, List.getElem_cons_succ, List.getElem_cons_zero, List.setIfInBounds_toArray, List.set_cons_zero, List.set_cons_succ]
    refine wpAnyH_take (i := 10) (v := undef) rfl (by kernel_rfl) (by kernel_rfl) (by kernel_rfl) (fun _ _ _ h => h) (Or.inr ⟨(by as_aux_lemma => kernel_rfl), rfl⟩) (by assumption) ?_
    try simp only [Act.put, List.getElem_toArray, List.getElem_cons_succ, List.getElem_cons_zero, List.setIfInBounds_toArray, List.set_cons_zero, List.set_cons_succ]
    refine wpAnyH_take (i := 11) (v := undef) rfl (by kernel_rfl) (by kernel_rfl) (by kernel_rfl) (fun _ _ _ h => h) (Or.inr ⟨(by as_aux_lemma => kernel_rfl), rfl⟩) (by assumption) ?_
    try simp only [Act.put, List.getElem_toArray, List.getElem_cons_succ, List.getElem_cons_zero, List.setIfInBounds_toArray, List.set_cons_zero, List.set_cons_succ]
    refine wpAnyH_take (i := 12) (v := undef) rfl (by kernel_rfl) (by kernel_rfl) (by kernel_rfl) (fun _ _ _ h => h) (Or.inr ⟨(by as_aux_lemma => kernel_rfl), rfl⟩) (by assumption) ?_
    try simp only [Act.put, List.getElem_toArray, List.getElem_cons_succ, List.getElem_cons_zero, List.setIfInBounds_toArray, List.set_cons_zero, List.set_cons_succ]
    refine wpAnyH_take (i := 13) (v := undef) rfl (by kernel_rfl) (by kernel_rfl) (by kernel_rfl) (fun _ _ _ h => h) (Or.inr ⟨(by as_aux_lemma => kernel_rfl), rfl⟩) (by assumption) ?_
    try simp only [Act.put, List.getElem_toArray, List.getElem_cons_succ, List.getElem_cons_zero, List.setIfInBounds_toArray, List.set_cons_zero, List.set_cons_succ]
    refine wpAnyH_take (i := 14) (v := undef) rfl (by kernel_rfl) (by kernel_rfl) (by kernel_rfl) (fun _ _ _ h => h) (Or.inr ⟨(by as_aux_lemma => kernel_rfl), rfl⟩) (by assumption) ?_
    try simp only [Act.put, List.getElem_toArray, List.getElem_cons_succ, List.getElem_cons_zero, List.setIfInBounds_toArray, List.set_cons_zero, List.set_cons_succ]
    refine wpAnyH_take (i := 15) (v := undef) rfl (by kernel_rfl) (by kernel_rfl) (by kernel_rfl) (fun _ _ _ h => h) (Or.inr ⟨(by as_aux_lemma => kernel_rfl), rfl⟩) (by assumption) ?_
    try simp only [Act.put, List.getElem_toArray, List.getElem_cons_succ, List.getElem_cons_zero, List.setIfInBounds_toArray, List.set_cons_zero, List.set_cons_succ]
    refine wpAnyH_take (i := 16) (v := undef) rfl (by kernel_rfl) (by kernel_rfl) (by kernel_rfl) (fun _ _ _ h => h) (Or.inr ⟨(by as_aux_lemma => kernel_rfl), rfl⟩) (by assumption) ?_
    try simp only [Act.put, List.getElem_toArray, List.getElem_cons_succ, List.getElem_cons_zero, List.setIfInBounds_toArray, List.set_cons_zero, List.set_cons_succ]
    refine wpAnyH_take (i := 17) (v := undef) rfl (by kernel_rfl) (by kernel_rfl) (by kernel_rfl) (fun _ _ _ h => h) (Or.inr ⟨(by as_aux_lemma => kernel_rfl), rfl⟩) (by assumption) ?_
    try simp only [Act.put, List.getElem_toArray, List.getElem_cons_succ, List.getElem_cons_zero, List.setIfInBounds_toArray, List.set_cons_zero, List.set_cons_succ]
    refine wpAnyH_take (i := 18) (v := undef) rfl (by kernel_rfl) (by kernel_rfl) (by kernel_rfl) (fun _ _ _ h => h) (Or.inr ⟨(by as_aux_lemma => kernel_rfl), rfl⟩) (by assumption) ?_
    try simp only [Act.put, List.getElem_toArray, List.getElem_cons_succ, List.getElem_cons_zero, List.setIfInBounds_toArray, List.set_cons_zero, List.set_cons_succ]
    refine wpAnyH_take (i := 19) (v := undef) rfl (by kernel_rfl) (by kernel_rfl) (by kernel_rfl) (fun _ _ _ h => h) (Or.inr ⟨(by as_aux_lemma => kernel_rfl), rfl⟩) (by assumption) ?_
    try simp only [Act.put, List.getElem_toArray, List.getElem_cons_succ, List.getElem_cons_zero, List.setIfInBounds_toArray, List.set_cons_zero, List.set_cons_succ]
    refine wpAnyH_take (i := 20) (v := undef) rfl (by kernel_rfl) (by kernel_rfl) (by kernel_rfl) (fun _ _ _ h => h) (Or.inr ⟨(by as_aux_lemma => kernel_rfl), rfl⟩) (by assumption) ?_
    try simp only [Act.put, List.getElem_toArray, List.getElem_cons_succ, List.getElem_cons_zero, List.setIfInBounds_toArray, List.set_cons_zero, List.set_cons_succ]
    refine wpAnyH_take (i := 21) (v := undef) rfl (by kernel_rfl) (by kernel_rfl) (by kernel_rfl) (fun _ _ _ h => h) (Or.inr ⟨(by as_aux_lemma => kernel_rfl), rfl⟩) (by assumption) ?_
    try simp only [Act.put, List.getElem_toArray, List.getElem_cons_succ, List.getElem_cons_zero, List.setIfInBounds_toArray, List.set_cons_zero, List.set_cons_succ]
    refine wpAnyH_take (i := 22) (v := ?_) rfl (by kernel_rfl) (by kernel_rfl) (by kernel_rfl) (fun _ _ _ h => h) (Or.inl ⟨(by as_aux_lemma => kernel_rfl), ?_⟩) (by assumption) ?_
    rotate_left
    ·(intro w' hS; (try dsimp only at hS); go_simp; try with_reducible rfl)
    try simp only [Act.put, List.getElem_toArray, List.getElem_cons_succ, List.getElem_cons_zero, List.setIfInBounds_toArray, List.set_cons_zero, List.set_cons_succ]
    refine wpAnyH_done (by kernel_rfl) ?_ _
    refine NoPanic.normal ?_
    clear hHeld HWc HWj
    go_wp2
    go_ret
    exact mkBol (by rw [HNj.out HE.out]) T1.1.1
   | true =>
    obtain ⟨hO1, hO2⟩ := HOk.out (by first | rfl | trivial)
    obtain ⟨k1, hk1, ei1, ex1, ey1⟩ := idx_nat hO1
    obtain ⟨k2, hk2, ei2, ex2, ey2⟩ := idx_nat hO2
    have HR := Lib.hid (HRU.out (by first | rfl | trivial) hk1 hk2 ex1 ey1 ex2 ey2)
    have HI1 := Lib.hid (fun W => ei1 ▸ sCellIndex x y W)
    have HI2 := Lib.hid (fun W => ei2 ▸ sCellIndex u v W)
    have HX1 := Lib.hid (fun W (hT : US w (.slice A n cap) M W) => by have := hT.cell hk1; rw [ex1, ey1] at this; exact this)
    have HX2 := Lib.hid (fun W (hT : US w (.slice A n cap) M W) => by have := hT.cell hk2; rw [ex2, ey2] at this; exact this)
    have HH1 := Lib.hid (fun W hb => HH.out W hb x y)
    have HH2 := Lib.hid (fun W hb => HH.out W hb u v)
    try simp only at HSp
    generalize hasB xs x y = s1 at HH1 HSp
    generalize hasB xs u v = s2 at HH2 HSp
    generalize anyM M x y = a1 at HX1 HSp
    generalize anyM M u v = a2 at HX2 HSp
    have HUt := Lib.hid (fun W => HU.out (by first | rfl | trivial) W)
    have hkk1 : (k1 : Int) < 64 := by omega
    have hkk2 : (k2 : Int) < 64 := by omega
    have HK1 := Lib.hid hk1
    have HK2 := Lib.hid hk2
    clear HRU HSo HU HOk hO1 hO2 ei1 ei2 ex1 ey1 ex2 ey2 hk1 hk2
    rcases Nat.eq_zero_or_pos j with hj0 | hj0
    ·have HP : prevB M (x, y, b) = true := by rw [← hM0, hj0]; exact prevB_0
     rw [HP] at HSp
     clear HP HPs HWp
     have HWc := HWj.out
     have HJ0 := Lib.hid hj0
     have hdec : decide (0 < (j : Int)) = false := decide_eq_false (by omega)
     have hdec2 : ¬ (0 < (j : Int)) := by omega
     have hdec3 : (0 < j) = False := by simp; omega
     clear hj0
     go_upto_region 5 with fail
     refine wp_region_noPanic ?_
     refine wp_region_held_drew (S := (fun w' => w'.cell? ⟨b0, off + j * 3, none⟩ = some (.int .i64 x) ∧ w'.cell? ⟨b0, off + j * 3 + 1, none⟩ = some (.int .i64 y) ∧ w'.cell? ⟨b0, off + j * 3 + 2, none⟩ = some (.bool b))) (by kernel_rfl) (HWc _ T0.drew.1.1) (fun hHeld => ?_)
     refine wpAnyH_take (i := 0) (v := ?_) rfl (by kernel_rfl) (by kernel_rfl) (by kernel_rfl) (fun _ _ _ h => h) (Or.inl ⟨(by as_aux_lemma => kernel_rfl), ?_⟩) (by assumption) ?_
     rotate_left
     ·(intro w' hS; (try dsimp only at hS); go_simp; try with_reducible rfl)
     try simp only [Act.put, List.getElem_toArray, List.getElem_cons_succ, List.getElem_cons_zero, List.setIfInBounds_toArray, List.set_cons_zero, List.set_cons_succ]
     refine wpAnyH_take (i := 1) (v := ?_) rfl (by kernel_rfl) (by kernel_rfl) (by kernel_rfl) (fun _ _ _ h => h) (Or.inl ⟨(by as_aux_lemma => kernel_rfl), ?_⟩) (by assumption) ?_
     rotate_left
     ·(intro w' hS; (try dsimp only at hS); go_simp; try with_reducible rfl)
     try simp only [Act.put, List.getElem_toArray, List.getElem_cons_succ, List.getElem_cons_zero, List.setIfInBounds_toArray, List.set_cons_zero, List.set_cons_succ]
     refine wpAnyH_take (i := 2) (v := ?_) rfl (by kernel_rfl) (by kernel_rfl) (by kernel_rfl) (fun _ _ _ h => h) (Or.inl ⟨(by as_aux_lemma => kernel_rfl), ?_⟩) (by assumption) ?_
     rotate_left
     ·(intro w' hS; (try dsimp only at hS); go_simp; try with_reducible rfl)
     try simp only [Act.put, List.getElem_toArray, List.getElem_cons_succ, List.getElem_cons_zero, List.setIfInBounds_toArray, List.set_cons_zero, List.set_cons_succ]
     refine wpAnyH_take (i := 3) (v := ?_) rfl (by kernel_rfl) (by kernel_rfl) (by kernel_rfl) (fun _ _ _ h => h) (Or.inl ⟨(by as_aux_lemma => kernel_rfl), ?_⟩) (by assumption) ?_
     rotate_left
     ·(intro w' hS; (try dsimp only at hS); go_simp; try with_reducible rfl)
     try simp only [Act.put, List.getElem_toArray, List.getElem_cons_succ, List.getElem_cons_zero, List.setIfInBounds_toArray, List.set_cons_zero, List.set_cons_succ]
     refine wpAnyH_ready (rs := [4]) (by kernel_rfl) (by simp) ?_
     refine AllReadyH.cons rfl (fun K hK => ?_) AllReadyH.nil
     go_simp
     refine (HDo.out _).mono ?_
     rintro e wx ⟨rfl, hb1⟩
     have T1 := T0.drew.on hb1
     clear T0 hb1 HDo
     go_wp2_with fail
     refine hK.out _ _ (HWc _ T1.1.1) (fun hHeld => ?_)
     clear hK K
     try simp only [Act.put, List.getElem_toArray, List.getElem_cons_succ, List.getElem_cons_zero, List.setIfInBounds_toArray, List.set_cons_zero, List.set_cons_succ]
     refine wpAnyH_take (i := 5) (v := ?_) rfl (by kernel_rfl) (by kernel_rfl) (by kernel_rfl) (fun _ _ _ h => h) (Or.inl ⟨(by as_aux_lemma => kernel_rfl), ?_⟩) (by assumption) ?_
     rotate_left
     ·(intro w' hS; (try dsimp only at hS); go_simp; try with_reducible rfl)
     try simp only [Act.put, List.getElem_toArray, List.getElem_cons_succ, List.getElem_cons_zero, List.setIfInBounds_toArray, List.set_cons_zero, List.set_cons_succ]
     refine wpAnyH_take (i := 6) (v := ?_) rfl (by kernel_rfl) (by kernel_rfl) (by kernel_rfl) (fun _ _ _ h => h) (Or.inl ⟨(by as_aux_lemma => kernel_rfl), ?_⟩) (by assumption) ?_
     rotate_left
     ·(intro w' hS; (try dsimp only at hS); go_simp; try with_reducible rfl)
     try simp only [Act.put, List.getElem_toArray, List.getElem_cons_succ, List.getElem_cons_zero, List.setIfInBounds_toArray, List.set_cons_zero, List.set_cons_succ]
     refine wpAnyH_take (i := 7) (v := ?_) rfl (by kernel_rfl) (by kernel_rfl) (by kernel_rfl) (fun _ _ _ h => h) (Or.inl ⟨(by as_aux_lemma => kernel_rfl), ?_⟩) (by assumption) ?_
     rotate_left
     ·(intro w' hS; (try dsimp only at hS); go_simp; try with_reducible rfl)
     try simp only [Act.put, List.getElem_toArray, List.getElem_cons_succ, List.getElem_cons_zero, List.setIfInBounds_toArray, List.set_cons_zero, List.set_cons_succ]
     refine wpAnyH_take (i := 8) (v := ?_) rfl (by kernel_rfl) (by kernel_rfl) (by kernel_rfl) (fun _ _ _ h => h) (Or.inl ⟨(by as_aux_lemma => kernel_rfl), ?_⟩) (by assumption) ?_
     rotate_left
     ·(intro w' hS; (try dsimp only at hS); go_simp; try with_reducible rfl)
     try simp only [Act.put, List.getElem_toArray, List.getElem_cons_succ, List.getElem_cons_zero, List.setIfInBounds_toArray, List.set_cons_zero, List.set_cons_succ]
     refine wpAnyH_take (i := 9) (v := ?_) rfl (by kernel_rfl) (by kernel_rfl) (by kernel_rfl) (fun _ _ _ h => h) (Or.inl ⟨(by as_aux_lemma => kernel_rfl), ?_⟩) (by assumption) ?_
     rotate_left
     ·(intro w' hS; (try dsimp only at hS); go_simp; try with_reducible rfl)
     try simp only [Act.put, List.getElem_toArray, List.getElem_cons_succ, List.getElem_cons_zero, List.setIfInBounds_toArray, List.set_cons_zero, List.set_cons_succ]
     refine wpAnyH_take (i := 10) (v := undef) rfl (by kernel_rfl) (by kernel_rfl) (by kernel_rfl) (fun _ _ _ h => h) (Or.inr ⟨(by as_aux_lemma => kernel_rfl), rfl⟩) (by assumption) ?_
     try simp only [Act.put, List.getElem_toArray, List.getElem_cons_succ, List.getElem_cons_zero, List.setIfInBounds_toArray, List.set_cons_zero, List.set_cons_succ]
     refine wpAnyH_take (i := 11) (v := undef) rfl (by kernel_rfl) (by kernel_rfl) (by kernel_rfl) (fun _ _ _ h => h) (Or.inr ⟨(by as_aux_lemma => kernel_rfl), rfl⟩) (by assumption) ?_
     try simp only [Act.put, List.getElem_toArray, List.getElem_cons_succ, List.getElem_cons_zero, List.setIfInBounds_toArray, List.set_cons_zero, List.set_cons_succ]
     refine wpAnyH_take (i := 12) (v := undef) rfl (by kernel_rfl) (by kernel_rfl) (by kernel_rfl) (fun _ _ _ h => h) (Or.inr ⟨(by as_aux_lemma => kernel_rfl), rfl⟩) (by assumption) ?_
     try simp only [Act.put, List.getElem_toArray, List.getElem_cons_succ, List.getElem_cons_zero, List.setIfInBounds_toArray, List.set_cons_zero, List.set_cons_succ]
     refine wpAnyH_take (i := 13) (v := undef) rfl (by kernel_rfl) (by kernel_rfl) (by kernel_rfl) (fun _ _ _ h => h) (Or.inr ⟨(by as_aux_lemma => kernel_rfl), rfl⟩) (by assumption) ?_
     try simp only [Act.put, List.getElem_toArray, List.getElem_cons_succ, List.getElem_cons_zero, List.setIfInBounds_toArray, List.set_cons_zero, List.set_cons_succ]
     refine wpAnyH_take (i := 14) (v := undef) rfl (by kernel_rfl) (by kernel_rfl) (by kernel_rfl) (fun _ _ _ h => h) (Or.inr ⟨(by as_aux_lemma => kernel_rfl), rfl⟩) (by assumption) ?_
     try simp only [Act.put, List.getElem_toArray, List.getElem_cons_succ, List.getElem_cons_zero, List.setIfInBounds_toArray, List.set_cons_zero, List.set_cons_succ]
     refine wpAnyH_take (i := 15) (v := undef) rfl (by kernel_rfl) (by kernel_rfl) (by kernel_rfl) (fun _ _ _ h => h) (Or.inr ⟨(by as_aux_lemma => kernel_rfl), rfl⟩) (by assumption) ?_
     try simp only [Act.put, List.getElem_toArray, List.getElem_cons_succ, List.getElem_cons_zero, List.setIfInBounds_toArray, List.set_cons_zero, List.set_cons_succ]
     refine wpAnyH_take (i := 16) (v := undef) rfl (by kernel_rfl) (by kernel_rfl) (by kernel_rfl) (fun _ _ _ h => h) (Or.inr ⟨(by as_aux_lemma => kernel_rfl), rfl⟩) (by assumption) ?_
     try simp only [Act.put, List.getElem_toArray, List.getElem_cons_succ, List.getElem_cons_zero, List.setIfInBounds_toArray, List.set_cons_zero, List.set_cons_succ]
     refine wpAnyH_take (i := 17) (v := undef) rfl (by kernel_rfl) (by kernel_rfl) (by kernel_rfl) (fun _ _ _ h => h) (Or.inr ⟨(by as_aux_lemma => kernel_rfl), rfl⟩) (by assumption) ?_
     try simp only [Act.put, List.getElem_toArray, List.getElem_cons_succ, List.getElem_cons_zero, List.setIfInBounds_toArray, List.set_cons_zero, List.set_cons_succ]
     refine wpAnyH_take (i := 18) (v := undef) rfl (by kernel_rfl) (by kernel_rfl) (by kernel_rfl) (fun _ _ _ h => h) (Or.inr ⟨(by as_aux_lemma => kernel_rfl), rfl⟩) (by assumption) ?_
     try simp only [Act.put, List.getElem_toArray, List.getElem_cons_succ, List.getElem_cons_zero, List.setIfInBounds_toArray, List.set_cons_zero, List.set_cons_succ]
     refine wpAnyH_take (i := 19) (v := undef) rfl (by kernel_rfl) (by kernel_rfl) (by kernel_rfl) (fun _ _ _ h => h) (Or.inr ⟨(by as_aux_lemma => kernel_rfl), rfl⟩) (by assumption) ?_
     try simp only [Act.put, List.getElem_toArray, List.getElem_cons_succ, List.getElem_cons_zero, List.setIfInBounds_toArray, List.set_cons_zero, List.set_cons_succ]
     refine wpAnyH_take (i := 20) (v := undef) rfl (by kernel_rfl) (by kernel_rfl) (by kernel_rfl) (fun _ _ _ h => h) (Or.inr ⟨(by as_aux_lemma => kernel_rfl), rfl⟩) (by assumption) ?_
     try simp only [Act.put, List.getElem_toArray, List.getElem_cons_succ, List.getElem_cons_zero, List.setIfInBounds_toArray, List.set_cons_zero, List.set_cons_succ]
     refine wpAnyH_take (i := 21) (v := ?_) rfl (by kernel_rfl) (by kernel_rfl) (by kernel_rfl) (fun _ _ _ h => h) (Or.inl ⟨(by as_aux_lemma => kernel_rfl), ?_⟩) (by assumption) ?_
     rotate_left
     ·(intro w' hS; (try dsimp only at hS); go_simp; try with_reducible rfl)
     try simp only [Act.put, List.getElem_toArray, List.getElem_cons_succ, List.getElem_cons_zero, List.setIfInBounds_toArray, List.set_cons_zero, List.set_cons_succ]
     refine wpAnyH_take (i := 22) (v := ?_) rfl (by kernel_rfl) (by kernel_rfl) (by kernel_rfl) (fun _ _ _ h => h) (Or.inl ⟨(by as_aux_lemma => kernel_rfl), ?_⟩) (by assumption) ?_
     rotate_left
     ·(intro w' hS; (try dsimp only at hS); go_simp; try with_reducible rfl)
     try simp only [Act.put, List.getElem_toArray, List.getElem_cons_succ, List.getElem_cons_zero, List.setIfInBounds_toArray, List.set_cons_zero, List.set_cons_succ]
     refine wpAnyH_done (by kernel_rfl) ?_ _
     refine NoPanic.normal ?_
     clear hHeld hdec hdec2 hdec3
     obtain ⟨c0, c1, c2⟩ := HWc _ T1.1.1
     go_wp2_with fail
     refine (HUt.out _).mono ?_
     rintro e w2 ⟨rfl, hb2⟩
     have T2 := T1.on hb2
     clear c0 c1 c2 T1 hb2 HUt HWc
     go_upto_region 8 with fail
     obtain ⟨q1, q2, q3⟩ := at2_two w2 x y u v
     have T3 := T2.on q3
     have hq0 : w2.heap.size ≠ w.heap.size + 1 ∧ w2.heap.size + 1 ≠ w.heap.size + 1 := by
      have := (T2.2.lt (w.heap.size + 1) rfl).2
      omega
     generalize (w2.alloc (.cells #[.int .i64 x, .int .i64 y] 79)).alloc (.cells #[.int .i64 u, .int .i64 v] 79) = W at q1 q2 T3 ⊢
     clear T2 q3
     have c0 := q1.c0
     have c1 := q1.c1
     have c2 := T3.1.2.c0
     go_wp2_with fail
     refine (HH1.out _ T3.1.1).mono ?_
     rintro e w3 ⟨rfl, hb3⟩
     have T4 := T3.on hb3
     have q1 := q1.on hb3
     have q2 := q2.on hb3
     clear c0 c1 c2 hb3 T3 HH1
     cases s1 with
     | false =>
      have HE := Lib.hid (show stpAt xs L j = false by rw [HD.out, HSp.out]; rfl)
      go_wp2
      go_ret
      exact mkBol (by rw [HNj.out HE.out]) T4.1.1
     | true =>
      have c0 := q2.c0
      have c1 := q2.c1
      have c2 := T4.1.2.c0
      go_wp2_with fail
      refine (HH2.out _ T4.1.1).mono ?_
      rintro e w4 ⟨rfl, hb4⟩
      have T5 := T4.on hb4
      have q1 := q1.on hb4
      have q2 := q2.on hb4
      clear c0 c1 c2 hb4 T4 HH2
      cases s2 with
      | false =>
       have HE := Lib.hid (show stpAt xs L j = false by rw [HD.out, HSp.out]; simp)
       go_wp2
       go_ret
       exact mkBol (by rw [HNj.out HE.out]) T5.1.1
      | true =>
       have c0 := q1.c0
       have c1 := q1.c1
       go_wp2_with fail
       refine (HI1.out _).mono ?_
       rintro e w5 ⟨rfl, hb5⟩
       have T6 := T5.on hb5
       have q1 := q1.on hb5
       have q2 := q2.on hb5
       have d0 := HX1.out _ T6
       clear c0 c1 hb5 T5
       cases a1 with
       | true =>
        have HE := Lib.hid (show stpAt xs L j = false by rw [HD.out, HSp.out]; rfl)
        go_wp2
        go_ret
        exact mkBol (by rw [HNj.out HE.out]) T6.1.1
       | false =>
        have c0 := q2.c0
        have c1 := q2.c1
        go_wp2_with fail
        refine (HI2.out _).mono ?_
        rintro e w6 ⟨rfl, hb6⟩
        have T7 := T6.on hb6
        have q1 := q1.on hb6
        have q2 := q2.on hb6
        clear d0
        have d0 := HX2.out _ T7
        clear c0 c1 hb6 T6
        cases a2 with
        | true =>
         have HE := Lib.hid (show stpAt xs L j = false by rw [HD.out, HSp.out]; rfl)
         go_wp2
         go_ret
         exact mkBol (by rw [HNj.out HE.out]) T7.1.1
        | false =>
         have HE := Lib.hid (show stpAt xs L j = true by rw [HD.out, HSp.out]; rfl)
         have c0 := q1.c0
         have c1 := q1.c1
         go_wp2_with fail
         refine (HI1.out _).mono ?_
         rintro e w7 ⟨rfl, hb7⟩
         have T8 : UT w (.slice A n cap) (rowU M) w7 := T7.on hb7
         have q2 := q2.on hb7
         clear c0 c1 d0 hb7 T7 q1
         obtain ⟨z1, hz1⟩ := T8.cell (rowU_length M) HK1.out
         have hf1 := T8.froz k1
         have T9 := T8.put k1 (.bool true)
         have q2 := q2.far (i := k1) (v := .bool true) hq0.2
         clear T8
         go_upto_region 11 with fail
         generalize w7.setCell ⟨w.heap.size + 1, k1, none⟩ (.bool true) = W7 at T9 q2 ⊢
         have c0 := q2.c0
         have c1 := q2.c1
         clear hz1 hf1
         go_wp2_with fail
         refine (HI2.out _).mono ?_
         rintro e w8 ⟨rfl, hb8⟩
         have T10 := T9.on hb8
         clear c0 c1 hb8 T9 q2
         obtain ⟨z2, hz2⟩ := T10.cell (by rw [List.length_set, rowU_length]) HK2.out
         have hf2 := T10.froz k2
         have T11 := T10.put k2 (.bool true)
         rw [HR.out] at T11
         clear T10
         have HT11 := Lib.hid T11
         have HM := Lib.hid (hM.out.succ HE.out)
         clear T11 hM
         go_wp2
         go_roundw
         case rel => exact ⟨j + 1, by omega, by go_num, by rw [HT.out]; exact HT11.out, HM⟩
         case measure => (simp [intOf] <;> omega)
    ·have HP := HPs.out hj0
     rw [hM0] at HP
     have hpl : j - 1 < L.length := by omega
     obtain ⟨jp, hjp⟩ : ∃ jp, jp = j - 1 := ⟨_, rfl⟩
     have HP : prevB M (x, y, b) = befM (L[jp]'(by omega)) (x, y, b) := by subst hjp; exact HP
     have HWq : ∀ W, Below w.heap.size w W → W.cell? ⟨b0, off + jp * 3, none⟩ = some (.int .i64 (L[jp]'(by omega)).1) ∧ W.cell? ⟨b0, off + jp * 3 + 1, none⟩ = some (.int .i64 (L[jp]'(by omega)).2.1) ∧ W.cell? ⟨b0, off + jp * 3 + 2, none⟩ = some (.bool (L[jp]'(by omega)).2.2) := fun W hb => HW.out W hb jp (by omega) (by omega)
     generalize L[jp]'(by omega) = dp at HP HWq
     obtain ⟨xp, yp, bp⟩ := dp
     simp only at HWq
     have HBf := Lib.hid (fun W => sIsBefore xp yp bp x y b W)
     rw [HP] at HSp
     simp only [befM] at HSp
     generalize befB xp yp bp x y b = tb at HBf HSp
     have HWc : ∀ W, Below w.heap.size w W → _ := fun W hb => (show _ ∧ _ ∧ _ ∧ _ ∧ _ ∧ _ from ⟨(HWj.out W hb).1, (HWj.out W hb).2.1, (HWj.out W hb).2.2, HWq W hb⟩)
     have hwr : IntKind.i64.wrap ((j : Int) - 1) = (jp : Int) := by rw [IntKind.wrap_i64]; omega
     have hjpn : (jp : Int) < (n' : Int) := by omega
     have hdec : decide ((j : Int) > 0) = true := decide_eq_true (by omega)
     have hdec2 : (j : Int) > 0 := by omega
     have HQ := Lib.hid HWq
     clear HP HPs HWp HWq hpl hjp
     go_upto_region 5 with fail
     refine wp_region_noPanic ?_
     refine wp_region_held_drew (S := (fun w' => w'.cell? ⟨b0, off + j * 3, none⟩ = some (.int .i64 x) ∧ w'.cell? ⟨b0, off + j * 3 + 1, none⟩ = some (.int .i64 y) ∧ w'.cell? ⟨b0, off + j * 3 + 2, none⟩ = some (.bool b) ∧ w'.cell? ⟨b0, off + jp * 3, none⟩ = some (.int .i64 xp) ∧ w'.cell? ⟨b0, off + jp * 3 + 1, none⟩ = some (.int .i64 yp) ∧ w'.cell? ⟨b0, off + jp * 3 + 2, none⟩ = some (.bool bp))) (by kernel_rfl) (HWc _ T0.drew.1.1) (fun hHeld => ?_)
     refine wpAnyH_take (i := 0) (v := ?_) rfl (by kernel_rfl) (by kernel_rfl) (by kernel_rfl) (fun _ _ _ h => h) (Or.inl ⟨(by as_aux_lemma => kernel_rfl), ?_⟩) (by assumption) ?_
     rotate_left
     ·(intro w' hS; (try dsimp only at hS); go_simp; try with_reducible rfl)
     try simp only [Act.put, List.getElem_toArray, List.getElem_cons_succ, List.getElem_cons_zero, List.setIfInBounds_toArray, List.set_cons_zero, List.set_cons_succ]
     refine wpAnyH_take (i := 1) (v := ?_) rfl (by kernel_rfl) (by kernel_rfl) (by kernel_rfl) (fun _ _ _ h => h) (Or.inl ⟨(by as_aux_lemma => kernel_rfl), ?_⟩) (by assumption) ?_
     rotate_left
     ·(intro w' hS; (try dsimp only at hS); go_simp; try with_reducible rfl)
     try simp only [Act.put, List.getElem_toArray, List.getElem_cons_succ, List.getElem_cons_zero, List.setIfInBounds_toArray, List.set_cons_zero, List.set_cons_succ]
     refine wpAnyH_take (i := 2) (v := ?_) rfl (by kernel_rfl) (by kernel_rfl) (by kernel_rfl) (fun _ _ _ h => h) (Or.inl ⟨(by as_aux_lemma => kernel_rfl), ?_⟩) (by assumption) ?_
     rotate_left
     ·(intro w' hS; (try dsimp only at hS); go_simp; try with_reducible rfl)
     try simp only [Act.put, List.getElem_toArray, List.getElem_cons_succ, List.getElem_cons_zero, List.setIfInBounds_toArray, List.set_cons_zero, List.set_cons_succ]
     refine wpAnyH_take (i := 3) (v := ?_) rfl (by kernel_rfl) (by kernel_rfl) (by kernel_rfl) (fun _ _ _ h => h) (Or.inl ⟨(by as_aux_lemma => kernel_rfl), ?_⟩) (by assumption) ?_
     rotate_left
     ·(intro w' hS; (try dsimp only at hS); go_simp; try with_reducible rfl)
     try simp only [Act.put, List.getElem_toArray, List.getElem_cons_succ, List.getElem_cons_zero, List.setIfInBounds_toArray, List.set_cons_zero, List.set_cons_succ]
     refine wpAnyH_ready (rs := [4]) (by kernel_rfl) (by simp) ?_
     refine AllReadyH.cons rfl (fun K hK => ?_) AllReadyH.nil
     go_simp
     refine (HDo.out _).mono ?_
     rintro e wx ⟨rfl, hb1⟩
     have T1 := T0.drew.on hb1
     clear T0 hb1 HDo
     go_wp2_with fail
     refine hK.out _ _ (HWc _ T1.1.1) (fun hHeld => ?_)
     clear hK K
     try simp only [Act.put, List.getElem_toArray, List.getElem_cons_succ, List.getElem_cons_zero, List.setIfInBounds_toArray, List.set_cons_zero, List.set_cons_succ]
     refine wpAnyH_take (i := 5) (v := ?_) rfl (by kernel_rfl) (by kernel_rfl) (by kernel_rfl) (fun _ _ _ h => h) (Or.inl ⟨(by as_aux_lemma => kernel_rfl), ?_⟩) (by assumption) ?_
     rotate_left
     ·(intro w' hS; (try dsimp only at hS); go_simp; try with_reducible rfl)
     try simp only [Act.put, List.getElem_toArray, List.getElem_cons_succ, List.getElem_cons_zero, List.setIfInBounds_toArray, List.set_cons_zero, List.set_cons_succ]
     refine wpAnyH_take (i := 6) (v := ?_) rfl (by kernel_rfl) (by kernel_rfl) (by kernel_rfl) (fun _ _ _ h => h) (Or.inl ⟨(by as_aux_lemma => kernel_rfl), ?_⟩) (by assumption) ?_
     rotate_left
     ·(intro w' hS; (try dsimp only at hS); go_simp; try with_reducible rfl)
     try simp only [Act.put, List.getElem_toArray, List.getElem_cons_succ, List.getElem_cons_zero, List.setIfInBounds_toArray, List.set_cons_zero, List.set_cons_succ]
     refine wpAnyH_take (i := 7) (v := ?_) rfl (by kernel_rfl) (by kernel_rfl) (by kernel_rfl) (fun _ _ _ h => h) (Or.inl ⟨(by as_aux_lemma => kernel_rfl), ?_⟩) (by assumption) ?_
     rotate_left
     ·(intro w' hS; (try dsimp only at hS); go_simp; try with_reducible rfl)
     try simp only [Act.put, List.getElem_toArray, List.getElem_cons_succ, List.getElem_cons_zero, List.setIfInBounds_toArray, List.set_cons_zero, List.set_cons_succ]
     refine wpAnyH_take (i := 8) (v := ?_) rfl (by kernel_rfl) (by kernel_rfl) (by kernel_rfl) (fun _ _ _ h => h) (Or.inl ⟨(by as_aux_lemma => kernel_rfl), ?_⟩) (by assumption) ?_
     rotate_left
     ·(intro w' hS; (try dsimp only at hS); go_simp; try with_reducible rfl)
     try simp only [Act.put, List.getElem_toArray, List.getElem_cons_succ, List.getElem_cons_zero, List.setIfInBounds_toArray, List.set_cons_zero, List.set_cons_succ]
     refine wpAnyH_take (i := 9) (v := ?_) rfl (by kernel_rfl) (by kernel_rfl) (by kernel_rfl) (fun _ _ _ h => h) (Or.inl ⟨(by as_aux_lemma => kernel_rfl), ?_⟩) (by assumption) ?_
     rotate_left
     ·(intro w' hS; (try dsimp only at hS); go_simp; try with_reducible rfl)
     try simp only [Act.put, List.getElem_toArray, List.getElem_cons_succ, List.getElem_cons_zero, List.setIfInBounds_toArray, List.set_cons_zero, List.set_cons_succ]
     refine wpAnyH_take (i := 10) (v := ?_) rfl (by kernel_rfl) (by kernel_rfl) (by kernel_rfl) (fun _ _ _ h => h) (Or.inl ⟨(by as_aux_lemma => kernel_rfl), ?_⟩) (by assumption) ?_
     rotate_left
     ·(intro w' hS; (try dsimp only at hS); go_simp; try with_reducible rfl)
     try simp only [Act.put, List.getElem_toArray, List.getElem_cons_succ, List.getElem_cons_zero, List.setIfInBounds_toArray, List.set_cons_zero, List.set_cons_succ]
     refine wpAnyH_take (i := 11) (v := ?_) rfl (by kernel_rfl) (by kernel_rfl) (by kernel_rfl) (fun _ _ _ h => h) (Or.inl ⟨(by as_aux_lemma => kernel_rfl), ?_⟩) (by assumption) ?_
     rotate_left
     ·(intro w' hS; (try dsimp only at hS); go_simp; try with_reducible rfl)
     try simp only [Act.put, List.getElem_toArray, List.getElem_cons_succ, List.getElem_cons_zero, List.setIfInBounds_toArray, List.set_cons_zero, List.set_cons_succ]
     refine wpAnyH_take (i := 12) (v := ?_) rfl (by kernel_rfl) (by kernel_rfl) (by kernel_rfl) (fun _ _ _ h => h) (Or.inl ⟨(by as_aux_lemma => kernel_rfl), ?_⟩) (by assumption) ?_
     rotate_left
     ·(intro w' hS; (try dsimp only at hS); go_simp; try with_reducible rfl)
     try simp only [Act.put, List.getElem_toArray, List.getElem_cons_succ, List.getElem_cons_zero, List.setIfInBounds_toArray, List.set_cons_zero, List.set_cons_succ]
     refine wpAnyH_take (i := 13) (v := ?_) rfl (by kernel_rfl) (by kernel_rfl) (by kernel_rfl) (fun _ _ _ h => h) (Or.inl ⟨(by as_aux_lemma => kernel_rfl), ?_⟩) (by assumption) ?_
     rotate_left
     ·(intro w' hS; (try dsimp only at hS); go_simp; try with_reducible rfl)
     try simp only [Act.put, List.getElem_toArray, List.getElem_cons_succ, List.getElem_cons_zero, List.setIfInBounds_toArray, List.set_cons_zero, List.set_cons_succ]
     refine wpAnyH_take (i := 14) (v := ?_) rfl (by kernel_rfl) (by kernel_rfl) (by kernel_rfl) (fun _ _ _ h => h) (Or.inl ⟨(by as_aux_lemma => kernel_rfl), ?_⟩) (by assumption) ?_
     rotate_left
     ·(intro w' hS; (try dsimp only at hS); go_simp; try with_reducible rfl)
     try simp only [Act.put, List.getElem_toArray, List.getElem_cons_succ, List.getElem_cons_zero, List.setIfInBounds_toArray, List.set_cons_zero, List.set_cons_succ]
     refine wpAnyH_take (i := 15) (v := ?_) rfl (by kernel_rfl) (by kernel_rfl) (by kernel_rfl) (fun _ _ _ h => h) (Or.inl ⟨(by as_aux_lemma => kernel_rfl), ?_⟩) (by assumption) ?_
     rotate_left
     ·(intro w' hS; (try dsimp only at hS); go_simp; try with_reducible rfl)
     try simp only [Act.put, List.getElem_toArray, List.getElem_cons_succ, List.getElem_cons_zero, List.setIfInBounds_toArray, List.set_cons_zero, List.set_cons_succ]
     refine wpAnyH_take (i := 16) (v := ?_) rfl (by kernel_rfl) (by kernel_rfl) (by kernel_rfl) (fun _ _ _ h => h) (Or.inl ⟨(by as_aux_lemma => kernel_rfl), ?_⟩) (by assumption) ?_
     rotate_left
     ·(intro w' hS; (try dsimp only at hS); go_simp; try with_reducible rfl)
     try simp only [Act.put, List.getElem_toArray, List.getElem_cons_succ, List.getElem_cons_zero, List.setIfInBounds_toArray, List.set_cons_zero, List.set_cons_succ]
     refine wpAnyH_take (i := 17) (v := ?_) rfl (by kernel_rfl) (by kernel_rfl) (by kernel_rfl) (fun _ _ _ h => h) (Or.inl ⟨(by as_aux_lemma => kernel_rfl), ?_⟩) (by assumption) ?_
     rotate_left
     ·(intro w' hS; (try dsimp only at hS); go_simp; try with_reducible rfl)
     try simp only [Act.put, List.getElem_toArray, List.getElem_cons_succ, List.getElem_cons_zero, List.setIfInBounds_toArray, List.set_cons_zero, List.set_cons_succ]
     refine wpAnyH_take (i := 18) (v := ?_) rfl (by kernel_rfl) (by kernel_rfl) (by kernel_rfl) (fun _ _ _ h => h) (Or.inl ⟨(by as_aux_lemma => kernel_rfl), ?_⟩) (by assumption) ?_
     rotate_left
     ·(intro w' hS; (try dsimp only at hS); go_simp; try with_reducible rfl)
     try simp only [Act.put, List.getElem_toArray, List.getElem_cons_succ, List.getElem_cons_zero, List.setIfInBounds_toArray, List.set_cons_zero, List.set_cons_succ]
     refine wpAnyH_ready (rs := [19]) (by kernel_rfl) (by simp) ?_
     refine AllReadyH.cons rfl (fun K hK => ?_) AllReadyH.nil
     go_simp
     refine (HBf.out _).mono ?_
     rintro e wx ⟨rfl, hb2⟩
     have T2 := T1.on hb2
     clear T1 hb2 HBf
     go_wp2_with fail
     refine hK.out _ _ (HWc _ T2.1.1) (fun hHeld => ?_)
     clear hK K
     try simp only [Act.put, List.getElem_toArray, List.getElem_cons_succ, List.getElem_cons_zero, List.setIfInBounds_toArray, List.set_cons_zero, List.set_cons_succ]
     refine wpAnyH_take (i := 20) (v := ?_) rfl (by kernel_rfl) (by kernel_rfl) (by kernel_rfl) (fun _ _ _ h => h) (Or.inl ⟨(by as_aux_lemma => kernel_rfl), ?_⟩) (by assumption) ?_
     rotate_left
     ·(intro w' hS; (try dsimp only at hS); go_simp; try with_reducible rfl)
     try simp only [Act.put, List.getElem_toArray, List.getElem_cons_succ, List.getElem_cons_zero, List.setIfInBounds_toArray, List.set_cons_zero, List.set_cons_succ]
     refine wpAnyH_take (i := 21) (v := ?_) rfl (by kernel_rfl) (by kernel_rfl) (by kernel_rfl) (fun _ _ _ h => h) (Or.inl ⟨(by as_aux_lemma => kernel_rfl), ?_⟩) (by assumption) ?_
     rotate_left
     ·(intro w' hS; (try dsimp only at hS); go_simp; try with_reducible rfl)
     try simp only [Act.put, List.getElem_toArray, List.getElem_cons_succ, List.getElem_cons_zero, List.setIfInBounds_toArray, List.set_cons_zero, List.set_cons_succ]
     refine wpAnyH_take (i := 22) (v := ?_) rfl (by kernel_rfl) (by kernel_rfl) (by kernel_rfl) (fun _ _ _ h => h) (Or.inl ⟨(by as_aux_lemma => kernel_rfl), ?_⟩) (by assumption) ?_
     rotate_left
     ·(intro w' hS; (try dsimp only at hS); go_simp; try with_reducible rfl)
     try simp only [Act.put, List.getElem_toArray, List.getElem_cons_succ, List.getElem_cons_zero, List.setIfInBounds_toArray, List.set_cons_zero, List.set_cons_succ]
     refine wpAnyH_done (by kernel_rfl) ?_ _
     refine NoPanic.normal ?_
     clear hHeld hdec hdec2 hwr hjpn HQ HWc
     have T1 := T2
     clear T2
     cases tb with
     | false =>
      have HE := Lib.hid (show stpAt xs L j = false by rw [HD.out, HSp.out]; rfl)
      go_wp2
      go_ret
      exact mkBol (by rw [HNj.out HE.out]) T1.1.1
     | true =>
      have HWc := HWj.out
      obtain ⟨c0, c1, c2⟩ := HWc _ T1.1.1
      go_wp2_with fail
      refine (HUt.out _).mono ?_
      rintro e w2 ⟨rfl, hb2⟩
      have T2 := T1.on hb2
      clear c0 c1 c2 T1 hb2 HUt HWc
      go_upto_region 8 with fail
      obtain ⟨q1, q2, q3⟩ := at2_two w2 x y u v
      have T3 := T2.on q3
      have hq0 : w2.heap.size ≠ w.heap.size + 1 ∧ w2.heap.size + 1 ≠ w.heap.size + 1 := by
       have := (T2.2.lt (w.heap.size + 1) rfl).2
       omega
      generalize (w2.alloc (.cells #[.int .i64 x, .int .i64 y] 79)).alloc (.cells #[.int .i64 u, .int .i64 v] 79) = W at q1 q2 T3 ⊢
      clear T2 q3
      have c0 := q1.c0
      have c1 := q1.c1
      have c2 := T3.1.2.c0
      go_wp2_with fail
      refine (HH1.out _ T3.1.1).mono ?_
      rintro e w3 ⟨rfl, hb3⟩
      have T4 := T3.on hb3
      have q1 := q1.on hb3
      have q2 := q2.on hb3
      clear c0 c1 c2 hb3 T3 HH1
      cases s1 with
      | false =>
       have HE := Lib.hid (show stpAt xs L j = false by rw [HD.out, HSp.out]; rfl)
       go_wp2
       go_ret
       exact mkBol (by rw [HNj.out HE.out]) T4.1.1
      | true =>
       have c0 := q2.c0
       have c1 := q2.c1
       have c2 := T4.1.2.c0
       go_wp2_with fail
       refine (HH2.out _ T4.1.1).mono ?_
       rintro e w4 ⟨rfl, hb4⟩
       have T5 := T4.on hb4
       have q1 := q1.on hb4
       have q2 := q2.on hb4
       clear c0 c1 c2 hb4 T4 HH2
       cases s2 with
       | false =>
        have HE := Lib.hid (show stpAt xs L j = false by rw [HD.out, HSp.out]; simp)
        go_wp2
        go_ret
        exact mkBol (by rw [HNj.out HE.out]) T5.1.1
       | true =>
        have c0 := q1.c0
        have c1 := q1.c1
        go_wp2_with fail
        refine (HI1.out _).mono ?_
        rintro e w5 ⟨rfl, hb5⟩
        have T6 := T5.on hb5
        have q1 := q1.on hb5
        have q2 := q2.on hb5
        have d0 := HX1.out _ T6
        clear c0 c1 hb5 T5
        cases a1 with
        | true =>
         have HE := Lib.hid (show stpAt xs L j = false by rw [HD.out, HSp.out]; rfl)
         go_wp2
         go_ret
         exact mkBol (by rw [HNj.out HE.out]) T6.1.1
        | false =>
         have c0 := q2.c0
         have c1 := q2.c1
         go_wp2_with fail
         refine (HI2.out _).mono ?_
         rintro e w6 ⟨rfl, hb6⟩
         have T7 := T6.on hb6
         have q1 := q1.on hb6
         have q2 := q2.on hb6
         clear d0
         have d0 := HX2.out _ T7
         clear c0 c1 hb6 T6
         cases a2 with
         | true =>
          have HE := Lib.hid (show stpAt xs L j = false by rw [HD.out, HSp.out]; rfl)
          go_wp2
          go_ret
          exact mkBol (by rw [HNj.out HE.out]) T7.1.1
         | false =>
          have HE := Lib.hid (show stpAt xs L j = true by rw [HD.out, HSp.out]; rfl)
          have c0 := q1.c0
          have c1 := q1.c1
          go_wp2_with fail
          refine (HI1.out _).mono ?_
          rintro e w7 ⟨rfl, hb7⟩
          have T8 : UT w (.slice A n cap) (rowU M) w7 := T7.on hb7
          have q2 := q2.on hb7
          clear c0 c1 d0 hb7 T7 q1
          obtain ⟨z1, hz1⟩ := T8.cell (rowU_length M) HK1.out
          have hf1 := T8.froz k1
          have T9 := T8.put k1 (.bool true)
          have q2 := q2.far (i := k1) (v := .bool true) hq0.2
          clear T8
          go_upto_region 11 with fail
          generalize w7.setCell ⟨w.heap.size + 1, k1, none⟩ (.bool true) = W7 at T9 q2 ⊢
          have c0 := q2.c0
          have c1 := q2.c1
          clear hz1 hf1
          go_wp2_with fail
          refine (HI2.out _).mono ?_
          rintro e w8 ⟨rfl, hb8⟩
          have T10 := T9.on hb8
          clear c0 c1 hb8 T9 q2
          obtain ⟨z2, hz2⟩ := T10.cell (by rw [List.length_set, rowU_length]) HK2.out
          have hf2 := T10.froz k2
          have T11 := T10.put k2 (.bool true)
          rw [HR.out] at T11
          clear T10
          have HT11 := Lib.hid T11
          have HM := Lib.hid (hM.out.succ HE.out)
          clear T11 hM
          go_wp2
          go_roundw
          case rel => exact ⟨j + 1, by omega, by go_num, by rw [HT.out]; exact HT11.out, HM⟩
          case measure => (simp [intOf] <;> omega)
  ·obtain rfl : j = n' := by omega
   have HE := Lib.hid (HY.out (by rw [HL.out]; exact hM.out))
   have T1 := T0.1
   have c0 := T1.2.c0
   clear T0
   go_wp2_with fail
   refine (HO.out _ T1.1).mono ?_
   rintro e w2 ⟨rfl, hb2⟩
   have hb := T1.1.trans (hb2.mono T1.1.size)
   clear c0 T1 hb2
   go_wp2
   go_ret
   exact mkBol (by rw [HE.out]) hb
end Go.Proofs.YtmajllgfmclcoaaGreatDoor.Til
