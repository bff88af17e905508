/- TilJ, HgR, Cor in one text. -/
import Derived.Test.YtieophdbhnpncaaMp38
import Derived.Test.YtieophdbhnpncaaMp22
import Derived.Test.YtieophdbhnpncaaMp36
import Derived.Test.YtieophdbhnpncaaMp01
import Derived.Deep.RegionHeld3
import Derived.Deep.Cut
import Derived.Lib.Hide

/- IsPartial, the program's. -/
namespace Go.Proofs.Ytieophdbhnpncaa.Til
set_option linter.unusedVariables false
set_option linter.unusedSimpArgs false
open Go.RowKit Go.Proofs.Ytieophdbhnpncaa.Base Go.Proofs.Ytieophdbhnpncaa.Pure Go.Proofs.Ytieophdbhnpncaa.Cell Go.Proofs.Ytieophdbhnpncaa.Cels Go.Proofs.Ytieophdbhnpncaa.Dom Go.Proofs.Ytieophdbhnpncaa.Dms Go.Joins
open Go.Proofs.Ytieophdbhnpncaa.Reg hiding Yes add_none RC rc_start

theorem iCanFollow (w : World) (A : Option Addr) (n cap B : Nat) (xs : List Int) (hx : xs.length = n) (hn : (n : Int) ≤ 9223372036854775807) (h : RowB w B A xs) (hB : B ≤ w.heap.size)
    (A' : Option Addr) (n' cap' B' : Nat) (L : List Dm) (hL : L.length = n') (hn' : (n' : Int) ≤ 9223372036854775807) (hf : Fits L) (h' : RowM w B' A' L) (hB' : B' ≤ w.heap.size) (x y : Int) (b : Bool) (hx1 : Sm x) (hy1 : Sm y) :
    Calls Try.prog 74 #[.agg #[.slice A n cap], .slice A' n' cap', .agg #[.int .i64 x, .int .i64 y, .bool b]] w (Bol (stepB xs L (x, y, b)) w) := by
  rcases Nat.eq_zero_or_pos n' with h0 | h0
  · subst h0
    obtain rfl : L = [] := List.eq_nil_of_length_eq_zero hL
    exact iCanFollow0 w A n cap B xs hx hn h hB A' cap' x y b hx1 hy1
  · exact iCanFollow1 w A n cap B xs hx hn h hB A' n' cap' B' L hL hn' hf h' hB' h0 x y b hx1 hy1
/-- the first k dominoes may follow. -/
def Go1 (xs : List Int) (L : List Dm) (k : Nat) : Prop := ∀ j, j < k → stpAt xs L j = true
theorem Go1.zero (xs : List Int) (L : List Dm) : Go1 xs L 0 := fun j h => by omega
theorem Go1.succ {xs : List Int} {L : List Dm} {k : Nat} (h : Go1 xs L k) (hs : stpAt xs L k = true) : Go1 xs L (k + 1) := by
  intro j hj
  by_cases e : j = k
  · subst e; exact hs
  · exact h j (by omega)
/-- a region's box. -/
def R1 (w : World) (v : Value) (W : World) : Prop := Below w.heap.size w W ∧ Rg W w.heap.size v
theorem r1_start (w : World) (v : Value) : R1 w v (w.alloc (.cells #[v] 31)) := ⟨below_alloc1 w _, Rg.new w v⟩
theorem R1.on {w W W' : World} {v : Value} (h : R1 w v W) (hb : Below W.heap.size W W') : R1 w v W' := ⟨h.1.trans (hb.mono h.1.size), h.2.on hb⟩
theorem R1.drew {w W : World} {v : Value} (h : R1 w v W) : R1 w v W.drew := ⟨h.1.drew, h.2⟩

set_option maxRecDepth 100000 in
set_option maxHeartbeats 2000000 in
theorem iIsPartial (w : World) (A : Option Addr) (n cap B : Nat) (xs : List Int) (hx : xs.length = n) (hn : (n : Int) ≤ 9223372036854775807) (h : RowB w B A xs) (hB : B ≤ w.heap.size)
    (A' : Option Addr) (n' cap' B' : Nat) (L : List Dm) (hL : L.length = n') (hn' : (n' : Int) ≤ 9223372036854775807) (hf : Fits L) (h' : RowM w B' A' L) (hB' : B' ≤ w.heap.size) (hcap : n' ≤ cap') :
    Calls Try.prog 60 #[.agg #[.slice A n cap], .slice A' n' cap'] w (Bol (partB xs L) w) := by
  obtain ⟨b0, off, hA, hR⟩ := h'.at
  have HS := Lib.hid (r1_start w (.slice A n cap))
  have HO := Lib.hid (fun W (hb : Below w.heap.size w W) => iRegionOk W A n cap B xs hx hn (h.below hb hB) (by have := hb.size; omega))
  have HF := Lib.hid (fun W (hb : Below w.heap.size w W) j (hj : j < n') (hjL : j < L.length) => iCanFollow W A n cap B xs hx hn (h.below hb hB) (by have := hb.size; omega) A' j cap' B' (L.take j) (by rw [List.length_take]; omega) (by omega) (Fits.take hf j) (RowM.take (h'.below hb hB') j) (by have := hb.size; omega) L[j].1 L[j].2.1 L[j].2.2 (hf _ (List.getElem_mem hjL)).1 (hf _ (List.getElem_mem hjL)).2)
  have HW := Lib.hid (fun W (hb : Below w.heap.size w W) (j : Nat) (hj : j < L.length) (h0 : 0 < L.length) => (show _ ∧ _ ∧ _ from ⟨(hb.cell (p := ⟨b0, off + j * 3, none⟩) (by have := (hA h0).2; show b0 < _; omega)).trans (hR j hj).1, (hb.cell (p := ⟨b0, off + j * 3 + 1, none⟩) (by have := (hA h0).2; show b0 < _; omega)).trans (hR j hj).2.1, (hb.cell (p := ⟨b0, off + j * 3 + 2, none⟩) (by have := (hA h0).2; show b0 < _; omega)).trans (hR j hj).2.2⟩))
  have HA := Lib.hid (fun h0 => (hA h0).1)
  have HL := Lib.hid hL
  have HY := Lib.hid (fun (ho : okRB xs = true) (hg : Go1 xs L L.length) => part_yes ho hg)
  have HN := Lib.hid (fun k (hk : k < L.length) hs => part_no (xs := xs) (L := L) (k := k) hk hs)
  have HX := Lib.hid (part_not (xs := xs) (L := L))
  generalize partB xs L = r at HY HN HX ⊢
  clear hx h hB hL hf h' hB' hA hR
  go_enter Try.func60, Try.ntmps60
  go_wp2_with fail
  have T0 := HS.out
  refine (HO.out _ T0.1).mono ?_
  rintro e w1 ⟨rfl, hb1⟩
  have T1 := T0.on hb1
  clear T0 HS hb1 HO
  cases ho : okRB xs with
  | false =>
    have HE := Lib.hid (HX.out ho)
    clear HX HY HN ho
    go_wp2
    go_ret
    exact mkBol (by rw [HE.out]) T1.1
  | true =>
    have HY := Lib.hid (fun hg => HY.out ho hg)
    clear ho HX
    go_wp2_with fail
    go_loopw [12] (fun i wr => ∃ j : Nat, j ≤ n' ∧ i = .int .i64 j ∧ R1 w (.slice A n cap) wr ∧ Hid (Go1 xs L j)) (fun i _ => n' - (intOf i).toNat)
    case atStart => exact ⟨0, Nat.zero_le _, rfl, T1, Lib.hid (Go1.zero _ _)⟩
    case round =>
      clear T1
      obtain ⟨j, hj, rfl, hT, hM⟩ := hrel
      by_cases hlt : j < n'
      · have hjL : j < L.length := by have := HL.out; omega
        obtain rfl := HA.out (by omega)
        obtain ⟨c0, c1, c2⟩ := HW.out _ hT.1 j hjL (by omega)
        have HD := Lib.hid (stpAt_of (xs := xs) hjL)
        have HFj := Lib.hid (fun W hb => HF.out W hb j hlt hjL)
        generalize L[j] = d at c0 c1 c2 HD HFj
        obtain ⟨u, v, b⟩ := d
        simp only at c0 c1 c2 HFj
        generalize stepB xs (L.take j) (u, v, b) = t at HFj HD
        have HNj := Lib.hid (fun hs => HN.out j hjL hs)
        have hjc : (j : Int) ≤ (cap' : Int) := by omega
        have HT := Lib.hid hT
        clear hT
        go_upto_region 6 with fail
        have k1 := At3.new 63 wr u v b
        have T1 := HT.out.on (below_alloc1 wr (.cells #[.int .i64 u, .int .i64 v, .bool b] 63))
        generalize wr.heap.size = p at k1 ⊢
        generalize wr.alloc (.cells #[.int .i64 u, .int .i64 v, .bool b] 63) = W at k1 T1 ⊢
        clear HT c0 c1 c2
        refine wp_region_noPanic ?_
        refine wp_region_held_drew (S := (fun w' => w'.cell? ⟨p, 0, none⟩ = some (.int .i64 u) ∧ w'.cell? ⟨p, 1, none⟩ = some (.int .i64 v) ∧ w'.cell? ⟨p, 2, none⟩ = some (.bool b) ∧ w'.cell? ⟨w.heap.size, 0, none⟩ = some (.slice A n cap))) (by kernel_rfl) (⟨k1.c0, k1.c1, k1.c2, T1.drew.2.c0⟩) (fun hHeld => ?_)
        refine wpAnyH_take (i := 0) (v := ?_) rfl (by kernel_rfl) (by kernel_rfl) (by kernel_rfl) (fun _ _ _ h => h) (Or.inl ⟨by rfl, ?_⟩) (by assumption) ?_
        rotate_left
        · (intro w' hS; (try dsimp only at hS); go_simp; try with_reducible rfl)
        try simp only [Act.put, List.getElem_toArray, List.getElem_cons_succ, List.getElem_cons_zero, List.setIfInBounds_toArray, List.set_cons_zero, List.set_cons_succ]
        refine wpAnyH_take (i := 1) (v := ?_) rfl (by kernel_rfl) (by kernel_rfl) (by kernel_rfl) (fun _ _ _ h => h) (Or.inl ⟨by rfl, ?_⟩) (by assumption) ?_
        rotate_left
        · (intro w' hS; (try dsimp only at hS); go_simp; try with_reducible rfl)
        try simp only [Act.put, List.getElem_toArray, List.getElem_cons_succ, List.getElem_cons_zero, List.setIfInBounds_toArray, List.set_cons_zero, List.set_cons_succ]
        refine wpAnyH_take (i := 2) (v := ?_) rfl (by kernel_rfl) (by kernel_rfl) (by kernel_rfl) (fun _ _ _ h => h) (Or.inl ⟨by rfl, ?_⟩) (by assumption) ?_
        rotate_left
        · (intro w' hS; (try dsimp only at hS); go_simp; try with_reducible rfl)
        try simp only [Act.put, List.getElem_toArray, List.getElem_cons_succ, List.getElem_cons_zero, List.setIfInBounds_toArray, List.set_cons_zero, List.set_cons_succ]
        refine wpAnyH_take (i := 3) (v := ?_) rfl (by kernel_rfl) (by kernel_rfl) (by kernel_rfl) (fun _ _ _ h => h) (Or.inl ⟨by rfl, ?_⟩) (by assumption) ?_
        rotate_left
        · (intro w' hS; (try dsimp only at hS); go_simp; try with_reducible rfl)
        try simp only [Act.put, List.getElem_toArray, List.getElem_cons_succ, List.getElem_cons_zero, List.setIfInBounds_toArray, List.set_cons_zero, List.set_cons_succ]
        refine wpAnyH_take (i := 4) (v := ?_) rfl (by kernel_rfl) (by kernel_rfl) (by kernel_rfl) (fun _ _ _ h => h) (Or.inl ⟨by rfl, ?_⟩) (by assumption) ?_
        rotate_left
        · (intro w' hS; (try dsimp only at hS); go_simp; try with_reducible rfl)
        try simp only [Act.put, List.getElem_toArray, List.getElem_cons_succ, List.getElem_cons_zero, List.setIfInBounds_toArray, List.set_cons_zero, List.set_cons_succ]
        refine wpAnyH_ready (rs := [5]) (by kernel_rfl) (by simp) ?_
        refine AllReadyH.cons rfl (fun K hK => ?_) AllReadyH.nil
        go_simp
        refine (HFj.out _ T1.drew.1).mono ?_
        rintro e wx ⟨rfl, hb1⟩
        have T2 := T1.drew.on hb1
        have k2 := (show At3 63 W.drew p u v b from k1).on hb1
        clear T1 k1 hb1 HFj
        go_wp2_with fail
        refine hK.out _ _ (⟨k2.c0, k2.c1, k2.c2, T2.2.c0⟩) (fun hHeld => ?_)
        clear hK K
        try simp only [Act.put, List.getElem_toArray, List.getElem_cons_succ, List.getElem_cons_zero, List.setIfInBounds_toArray, List.set_cons_zero, List.set_cons_succ]
        refine wpAnyH_take (i := 6) (v := ?_) rfl (by kernel_rfl) (by kernel_rfl) (by kernel_rfl) (fun _ _ _ h => h) (Or.inl ⟨by rfl, ?_⟩) (by assumption) ?_
        rotate_left
        · (intro w' hS; (try dsimp only at hS); go_simp; try with_reducible rfl)
        try simp only [Act.put, List.getElem_toArray, List.getElem_cons_succ, List.getElem_cons_zero, List.setIfInBounds_toArray, List.set_cons_zero, List.set_cons_succ]
        refine wpAnyH_done (by kernel_rfl) ?_ _
        refine NoPanic.normal ?_
        clear hHeld k2
        cases t with
        | false =>
          have HE := Lib.hid (HNj.out HD.out)
          go_wp2
          go_ret
          exact mkBol (by rw [HE.out]) T2.1
        | true =>
          have HM := Lib.hid (hM.out.succ HD.out)
          clear hM HNj HD
          go_wp2
          go_roundw
          case rel => exact ⟨j + 1, by omega, by go_num, T2, HM⟩
          case measure => (simp [intOf] <;> omega)
      · obtain rfl : j = n' := by omega
        have HE := Lib.hid (HY.out (by rw [HL.out]; exact hM.out))
        go_wp2
        go_ret
        exact mkBol (by rw [HE.out]) hT.1
end Go.Proofs.Ytieophdbhnpncaa.Til

/- What HeightsOf answers; the first cell has the least corner: no program here but the answer's memory. -/
namespace Go.Proofs.Ytieophdbhnpncaa.Hgt
set_option linter.unusedVariables false
set_option linter.unusedSimpArgs false
open Go.RowKit Go.Proofs.Ytieophdbhnpncaa.Base Go.Proofs.Ytieophdbhnpncaa.Pure Go.Proofs.Ytieophdbhnpncaa.Cell Go.Proofs.Ytieophdbhnpncaa.Dom Go.Proofs.Ytieophdbhnpncaa.Dms Go.Proofs.Ytieophdbhnpncaa.Til Go.Joins
open Go.Proofs.Ytieophdbhnpncaa.Reg (ints)
open Go.Proofs.Ytieophdbhnpncaa.Flo (simB)

/-- what HeightsOf answers. -/
def hgtR (xs : List Int) (L : List Dm) (h : List Int) : Prop := (simB xs = true ∧ Row9 xs L h) ∨ (¬ (simB xs = true ∧ tilB xs L = true) ∧ h = [])
theorem hgtR_uniq {xs : List Int} {L : List Dm} {h h' : List Int} (k : hgtR xs L h) (k' : hgtR xs L h') : h = h' := by
  rcases k with ⟨a, b⟩ | ⟨a, b⟩ <;> rcases k' with ⟨c, d⟩ | ⟨c, d⟩
  · exact row_uniq b d
  · exact absurd ⟨a, b.til⟩ c
  · exact absurd ⟨c, d.til⟩ a
  · rw [b, d]
theorem hgtR_len {xs : List Int} {L : List Dm} {h : List Int} (k : hgtR xs L h) : h.length ≤ 81 := by
  rcases k with ⟨_, b⟩ | ⟨_, rfl⟩
  · rw [b.len]; omega
  · simp
def HgtP (xs : List Int) (L : List Dm) (w : World) (e : Ending) (w' : World) : Prop :=
  ∃ (h : List Int) (A : Option Addr) (n cap : Nat), hgtR xs L h ∧ h.length = n ∧ e = .returned (.slice A n cap) ∧ w'.ownsRow w.heap.size 3 1 (.slice A n cap) n (ints h) ∧ Below w.heap.size w w'
/-- the first cell has the least corner. -/
theorem first_lc {xs : List Int} (ok : okR xs) {x y : Int} {t : List (Int × Int)} (h : cellsR xs = (x, y) :: t) : (0 ≤ x ∧ x ≤ 7 ∧ 0 ≤ y ∧ y ≤ 7) ∧ ((lc xs : Nat) : Int) = y * 9 + x := by
  have hb : hasB xs x y = true := mem_cells.1 (h ▸ List.mem_cons_self ..)
  obtain ⟨_, x0, x7, y0, y7, _⟩ := hasB_iff.1 hb
  have hl : ∀ x' y', hasB xs x' y' = true → y * 8 + x ≤ y' * 8 + x' := fun x' y' hc => by
    have hm := mem_cells.2 hc
    have hi := cells_inc xs
    rw [h] at hm hi
    rcases List.mem_cons.1 hm with e | e
    · injection e with e1 e2; omega
    · have := (List.pairwise_cons.1 hi).1 _ e
      simp only at this
      omega
  refine ⟨⟨x0, x7, y0, y7⟩, ?_⟩
  obtain ⟨a, ha⟩ : ∃ a : Nat, (a : Int) = x := ⟨x.toNat, by omega⟩
  obtain ⟨b, hb'⟩ : ∃ b : Nat, (b : Int) = y := ⟨y.toNat, by omega⟩
  have e : lc xs = 9 * b + a := by
    refine lc_of (by omega) (crn_any.2 ⟨0, by omega, ?_⟩) (fun v hv => ?_)
    · rw [show (((9 * b + a) % 9 : Nat) : Int) - ((0 % 2 : Nat) : Int) = x by omega, show (((9 * b + a) / 9 : Nat) : Int) - ((0 / 2 : Nat) : Int) = y by omega]
      exact hb
    · cases q : crnB xs v with
      | false => rfl
      | true =>
        obtain ⟨i, hi, hc⟩ := crn_any.1 q
        obtain ⟨_, c0, c7, d0, d7, _⟩ := hasB_iff.1 hc
        have := hl _ _ hc
        omega
  rw [e]; omega
end Go.Proofs.Ytieophdbhnpncaa.Hgt

/- The program's corners: in the range, their index, the cell to the left of a way, both cells beside it. -/
namespace Go.Proofs.Ytieophdbhnpncaa.Cor
set_option linter.unusedVariables false
set_option linter.unusedSimpArgs false
set_option maxRecDepth 100000
open Go.RowKit Go.Proofs.Ytieophdbhnpncaa.Base Go.Proofs.Ytieophdbhnpncaa.Cell Go.Proofs.Ytieophdbhnpncaa.Dom Go.Proofs.Ytieophdbhnpncaa.Hgt Go.Joins

/-- a corner lies in block q. -/
def AtC (W : World) (q : Nat) (x y : Int) : Prop := W.heap[q]? = some (.cells #[.int .i64 x, .int .i64 y] 48)
theorem AtC.on {W W' : World} {q : Nat} {x y : Int} (h : AtC W q x y) (hb : Below W.heap.size W W') : AtC W' q x y := (hb.block q (Array.getElem?_eq_some_iff.1 h).1).trans h
theorem AtC.c0 {W : World} {q : Nat} {x y : Int} (h : AtC W q x y) : W.cell? ⟨q, 0, none⟩ = some (.int .i64 x) := (cell_of_row _ _ 0 _ _ _ h).trans rfl
theorem AtC.c1 {W : World} {q : Nat} {x y : Int} (h : AtC W q x y) : W.cell? ⟨q, 1, none⟩ = some (.int .i64 y) := (cell_of_row _ _ 1 _ _ _ h).trans rfl
theorem AtC.lt {W : World} {q : Nat} {x y : Int} (h : AtC W q x y) : q < W.heap.size := (Array.getElem?_eq_some_iff.1 h).1
theorem AtC.new (W : World) (x y : Int) : AtC (W.alloc (.cells #[.int .i64 x, .int .i64 y] 48)) W.heap.size x y := heap_alloc_new W _
theorem AtC.drew {W : World} {q : Nat} {x y : Int} (h : AtC W q x y) : AtC W.drew q x y := h
theorem AtC.far {W : World} {p q i : Nat} {x y : Int} {v : Value} (h : AtC W q x y) (hp : q ≠ p) : AtC (W.setCell ⟨p, i, none⟩ v) q x y := (Below.heap_setCell W ⟨p, i, none⟩ v q hp).trans h
theorem AtC.far2 {W : World} {p q : Nat} {x y : Int} {u v : Value} (h : AtC W q x y) (hp : q ≠ p) : AtC ((W.setCell ⟨p, 0, none⟩ u).setCell ⟨p, 1, none⟩ v) q x y := (h.far hp).far hp

set_option maxHeartbeats 400000 in
theorem iInRange (x y : Int) (w : World) :
    Calls Try.prog 26 #[.agg #[.int .i64 x, .int .i64 y]] w (Bol (inC (x, y)) w) := by
  have H : ∀ (b : Bool) (W : World), (b = true ↔ 0 ≤ x ∧ x < 9 ∧ 0 ≤ y ∧ y < 9) → Below w.heap.size w W → Bol (inC (x, y)) w (.returned (.bool b)) W := fun b W h hb => mkBol (by rw [Bool.eq_iff_iff, inC_iff]; exact h) hb
  have HH := Lib.hid H
  clear H
  go_enter Try.func26, Try.ntmps26
  go_wp2
  all_goals
    go_ret
    refine HH.out _ _ ?_ (below_alloc1 _ _)
    simp
    try omega
set_option maxHeartbeats 400000 in
theorem iIndex (x y : Int) (h : 0 ≤ x ∧ x ≤ 8 ∧ 0 ≤ y ∧ y ≤ 8) (w : World) :
    Calls Try.prog 43 #[.agg #[.int .i64 x, .int .i64 y]] w (Num (y * 9 + x) w) := by
  have H : ∀ (z : Int) (W : World), z = y * 9 + x → Below w.heap.size w W → Num (y * 9 + x) w (.returned (.int .i64 z)) W := fun z W e hb => ⟨by rw [e], hb⟩
  have HH := Lib.hid H
  have HV := Lib.hid h
  clear H h
  go_enter Try.func43, Try.ntmps43
  go_wp2
  go_ret
  refine HH.out _ _ ?_ (below_alloc1 _ _)
  have hv := HV.out
  first
  | rfl
  | (simp only [IntKind.wrap_i64]; unfold wrap64; omega)
  | (simp only [IntKind.wrap_i64]; omega)
  | (unfold wrap64; omega)
/-- an ending with a cell. -/
def CelP (x y : Int) (w : World) (e : Ending) (w' : World) : Prop := e = .returned (.agg #[.int .i64 x, .int .i64 y]) ∧ Below w.heap.size w w'
theorem at3_cor (w : World) (a b c d X Y : Int) (W : World) (e : W = ((w.alloc (.cells #[.int .i64 a, .int .i64 b] 48)).alloc (.cells #[.int .i64 c, .int .i64 d] 48)).alloc (.cells #[.int .i64 X, .int .i64 Y] 54)) :
    At2 W (w.heap.size + 1 + 1) X Y ∧ Below w.heap.size w W := by
  subst e
  refine ⟨?_, below_alloc3 w _ _ _⟩
  have k := At2.new ((w.alloc (.cells #[.int .i64 a, .int .i64 b] 48)).alloc (.cells #[.int .i64 c, .int .i64 d] 48)) X Y
  simpa using k
set_option maxHeartbeats 1000000 in
theorem iLeft (px py qx qy : Int) (hp : 0 ≤ px ∧ px ≤ 8 ∧ 0 ≤ py ∧ py ≤ 8) (hq : 0 ≤ qx ∧ qx ≤ 8 ∧ 0 ≤ qy ∧ qy ≤ 8) (w : World) :
    Calls Try.prog 29 #[.agg #[.int .i64 px, .int .i64 py], .agg #[.int .i64 qx, .int .i64 qy]] w (CelP (clX px py qx qy) (clY px py qx qy) w) := by
  have e1 : wrap64 (py - 1) = py - 1 := by unfold wrap64; omega
  have e2 : wrap64 (qx - 1) = qx - 1 := by unfold wrap64; omega
  have HX := Lib.hid (show clX px py qx qy = if px < qx then px else if qx < px then qx else if py < qy then px else qx - 1 from rfl)
  have HY := Lib.hid (show clY px py qx qy = if px < qx then py - 1 else if qx < px then qy else if py < qy then py else qy from rfl)
  generalize clX px py qx qy = m at HX ⊢
  generalize clY px py qx qy = n at HY ⊢
  clear hp hq
  by_cases h1 : px < qx
  · obtain ⟨rfl, rfl⟩ : m = px ∧ n = py - 1 := by rw [HX.out, HY.out, if_pos h1, if_pos h1]; exact ⟨rfl, rfl⟩
    have K := Lib.hid (at3_cor w m py qx qy m (py - 1) _ rfl)
    clear HX HY
    go_enter Try.func29, Try.ntmps29
    go_wp2
    have r0 := K.out.1.c0
    have r1 := K.out.1.c1
    refine bodyPost_ret (v := .agg #[.int .i64 m, .int .i64 (py - 1)]) ?_ rfl ⟨rfl, K.out.2⟩
    simp [results, Try.results29, go_sem, r0, r1]
  by_cases h2 : qx < px
  · obtain ⟨rfl, rfl⟩ : m = qx ∧ n = qy := by rw [HX.out, HY.out, if_neg h1, if_neg h1, if_pos h2, if_pos h2]; exact ⟨rfl, rfl⟩
    have K := Lib.hid (at3_cor w px py m n m n _ rfl)
    clear HX HY
    go_enter Try.func29, Try.ntmps29
    go_wp2
    have r0 := K.out.1.c0
    have r1 := K.out.1.c1
    refine bodyPost_ret (v := .agg #[.int .i64 m, .int .i64 n]) ?_ rfl ⟨rfl, K.out.2⟩
    simp [results, Try.results29, go_sem, r0, r1]
  by_cases h3 : py < qy
  · obtain ⟨rfl, rfl⟩ : m = px ∧ n = py := by rw [HX.out, HY.out, if_neg h1, if_neg h1, if_neg h2, if_neg h2, if_pos h3, if_pos h3]; exact ⟨rfl, rfl⟩
    have K := Lib.hid (at3_cor w m n qx qy m n _ rfl)
    clear HX HY
    go_enter Try.func29, Try.ntmps29
    go_wp2
    have r0 := K.out.1.c0
    have r1 := K.out.1.c1
    refine bodyPost_ret (v := .agg #[.int .i64 m, .int .i64 n]) ?_ rfl ⟨rfl, K.out.2⟩
    simp [results, Try.results29, go_sem, r0, r1]
  · obtain ⟨rfl, rfl⟩ : m = qx - 1 ∧ n = qy := by rw [HX.out, HY.out, if_neg h1, if_neg h1, if_neg h2, if_neg h2, if_neg h3, if_neg h3]; exact ⟨rfl, rfl⟩
    have K := Lib.hid (at3_cor w px py qx n (qx - 1) n _ rfl)
    clear HX HY
    go_enter Try.func29, Try.ntmps29
    go_wp2
    have r0 := K.out.1.c0
    have r1 := K.out.1.c1
    refine bodyPost_ret (v := .agg #[.int .i64 (qx - 1), .int .i64 n]) ?_ rfl ⟨rfl, K.out.2⟩
    simp [results, Try.results29, go_sem, r0, r1]
/-- two corners' boxes and two cells' boxes behind them. -/
structure Fb (w : World) (a b c d m n u v : Int) (W : World) : Prop where
  bel : Below w.heap.size w W
  k1 : AtC W w.heap.size a b
  k2 : AtC W (w.heap.size + 1) c d
  k3 : At2 W (w.heap.size + 1 + 1) m n
  k4 : At2 W (w.heap.size + 1 + 1 + 1) u v
theorem fb_start (a b c d : Int) (w : World) : Fb w a b c d 0 0 0 0 ((((w.alloc (.cells #[.int .i64 a, .int .i64 b] 48)).alloc (.cells #[.int .i64 c, .int .i64 d] 48)).alloc (.cells #[.int .i64 0, .int .i64 0] 54)).alloc (.cells #[.int .i64 0, .int .i64 0] 54)) := by
  have h0 := AtC.new w a b
  have b0 := below_alloc1 w (.cells #[.int .i64 a, .int .i64 b] 48)
  have e0 : (w.alloc (.cells #[.int .i64 a, .int .i64 b] 48)).heap.size = w.heap.size + 1 := by simp
  generalize w.alloc (.cells #[.int .i64 a, .int .i64 b] 48) = W0 at h0 b0 e0 ⊢
  have h1 := AtC.new W0 c d
  have b1 := below_alloc1 W0 (.cells #[.int .i64 c, .int .i64 d] 48)
  have e1 : (W0.alloc (.cells #[.int .i64 c, .int .i64 d] 48)).heap.size = w.heap.size + 1 + 1 := by simp [e0]
  generalize W0.alloc (.cells #[.int .i64 c, .int .i64 d] 48) = W1 at h1 b1 e1 ⊢
  have h2 := At2.new W1 0 0
  have b2 := below_alloc1 W1 (.cells #[.int .i64 0, .int .i64 0] 54)
  have e2 : (W1.alloc (.cells #[.int .i64 0, .int .i64 0] 54)).heap.size = w.heap.size + 1 + 1 + 1 := by simp [e1]
  generalize W1.alloc (.cells #[.int .i64 0, .int .i64 0] 54) = W2 at h2 b2 e2 ⊢
  have h3 := At2.new W2 0 0
  have b3 := below_alloc1 W2 (.cells #[.int .i64 0, .int .i64 0] 54)
  generalize W2.alloc (.cells #[.int .i64 0, .int .i64 0] 54) = W3 at h3 b3 ⊢
  rw [e0] at h1
  rw [e1] at h2
  rw [e2] at h3
  exact ⟨((b0.trans (b1.mono (by omega))).trans (b2.mono (by omega))).trans (b3.mono (by omega)), ((h0.on b1).on b2).on b3, (h1.on b2).on b3, h2.on b3, h3⟩
section
variable {w W W' : World} {a b c d m n u v : Int}
theorem Fb.drew (h : Fb w a b c d m n u v W) : Fb w a b c d m n u v W.drew := ⟨h.bel.drew, h.k1, h.k2, h.k3, h.k4⟩
theorem Fb.on (h : Fb w a b c d m n u v W) (hb : Below W.heap.size W W') : Fb w a b c d m n u v W' := ⟨h.bel.trans (hb.mono h.bel.size), h.k1.on hb, h.k2.on hb, h.k3.on hb, h.k4.on hb⟩
theorem Fb.put1 (h : Fb w a b c d m n u v W) (x y : Int) : Fb w a b c d x y u v ((W.setCell ⟨w.heap.size + 1 + 1, 0, none⟩ (.int .i64 x)).setCell ⟨w.heap.size + 1 + 1, 1, none⟩ (.int .i64 y)) :=
  ⟨(h.bel.setCell (p := ⟨w.heap.size + 1 + 1, 0, none⟩) (by show w.heap.size ≤ w.heap.size + 1 + 1; omega) _).setCell (p := ⟨w.heap.size + 1 + 1, 1, none⟩) (by show w.heap.size ≤ w.heap.size + 1 + 1; omega) _, h.k1.far2 (by omega), h.k2.far2 (by omega), h.k3.put, h.k4.far2 (by omega)⟩
theorem Fb.put2 (h : Fb w a b c d m n u v W) (x y : Int) : Fb w a b c d m n x y ((W.setCell ⟨w.heap.size + 1 + 1 + 1, 0, none⟩ (.int .i64 x)).setCell ⟨w.heap.size + 1 + 1 + 1, 1, none⟩ (.int .i64 y)) :=
  ⟨(h.bel.setCell (p := ⟨w.heap.size + 1 + 1 + 1, 0, none⟩) (by show w.heap.size ≤ w.heap.size + 1 + 1 + 1; omega) _).setCell (p := ⟨w.heap.size + 1 + 1 + 1, 1, none⟩) (by show w.heap.size ≤ w.heap.size + 1 + 1 + 1; omega) _, h.k1.far2 (by omega), h.k2.far2 (by omega), h.k3.far2 (by omega), h.k4.put⟩
end
set_option maxHeartbeats 2000000 in
theorem iBeside (px py qx qy : Int) (hp : 0 ≤ px ∧ px ≤ 8 ∧ 0 ≤ py ∧ py ≤ 8) (hq : 0 ≤ qx ∧ qx ≤ 8 ∧ 0 ≤ qy ∧ qy ≤ 8) (w : World) :
    Calls Try.prog 78 #[.agg #[.int .i64 px, .int .i64 py], .agg #[.int .i64 qx, .int .i64 qy]] w (Cel2 (clX px py qx qy) (clY px py qx qy) (clX qx qy px py) (clY qx qy px py) w) := by
  have HL := Lib.hid (fun W => iLeft px py qx qy hp hq W)
  have HR := Lib.hid (fun W => iLeft qx qy px py hq hp W)
  generalize clX px py qx qy = m at HL ⊢
  generalize clY px py qx qy = n at HL ⊢
  generalize clX qx qy px py = u at HR ⊢
  generalize clY qx qy px py = v at HR ⊢
  have T0 := Lib.hid (fb_start px py qx qy w)
  clear hp hq
  go_enter Try.func78, Try.ntmps78
  go_upto_region 1 with fail
  have T1 := T0.out.drew
  clear T0
  refine wp_region_noPanic ?_
  refine wp_region_held_drew (S := (fun w' => w'.cell? ⟨w.heap.size, 0, none⟩ = some (.int .i64 px) ∧ w'.cell? ⟨w.heap.size, 1, none⟩ = some (.int .i64 py) ∧ w'.cell? ⟨w.heap.size + 1, 0, none⟩ = some (.int .i64 qx) ∧ w'.cell? ⟨w.heap.size + 1, 1, none⟩ = some (.int .i64 qy))) (by kernel_rfl) (⟨T1.k1.c0, T1.k1.c1, T1.k2.c0, T1.k2.c1⟩) (fun hHeld => ?_)
  generalize World.drew _ = WR at T1 hHeld ⊢
  refine wpAnyH_take (i := 0) (v := ?_) rfl (by kernel_rfl) (by kernel_rfl) (by kernel_rfl) (fun _ _ _ h => h) (Or.inl ⟨by rfl, ?_⟩) (by assumption) ?_
  rotate_left
  · (intro w' hS; (try dsimp only at hS); go_simp; try with_reducible rfl)
  try simp only [Act.put, List.getElem_toArray, List.getElem_cons_succ, List.getElem_cons_zero, List.setIfInBounds_toArray, List.set_cons_zero, List.set_cons_succ]
  refine wpAnyH_take (i := 1) (v := ?_) rfl (by kernel_rfl) (by kernel_rfl) (by kernel_rfl) (fun _ _ _ h => h) (Or.inl ⟨by rfl, ?_⟩) (by assumption) ?_
  rotate_left
  · (intro w' hS; (try dsimp only at hS); go_simp; try with_reducible rfl)
  try simp only [Act.put, List.getElem_toArray, List.getElem_cons_succ, List.getElem_cons_zero, List.setIfInBounds_toArray, List.set_cons_zero, List.set_cons_succ]
  refine wpAnyH_take (i := 3) (v := ?_) rfl (by kernel_rfl) (by kernel_rfl) (by kernel_rfl) (fun _ _ _ h => h) (Or.inl ⟨by rfl, ?_⟩) (by assumption) ?_
  rotate_left
  · (intro w' hS; (try dsimp only at hS); go_simp; try with_reducible rfl)
  try simp only [Act.put, List.getElem_toArray, List.getElem_cons_succ, List.getElem_cons_zero, List.setIfInBounds_toArray, List.set_cons_zero, List.set_cons_succ]
  refine wpAnyH_take (i := 4) (v := ?_) rfl (by kernel_rfl) (by kernel_rfl) (by kernel_rfl) (fun _ _ _ h => h) (Or.inl ⟨by rfl, ?_⟩) (by assumption) ?_
  rotate_left
  · (intro w' hS; (try dsimp only at hS); go_simp; try with_reducible rfl)
  try simp only [Act.put, List.getElem_toArray, List.getElem_cons_succ, List.getElem_cons_zero, List.setIfInBounds_toArray, List.set_cons_zero, List.set_cons_succ]
  refine wpAnyH_ready (rs := [2]) (by kernel_rfl) (by simp) ?_
  refine AllReadyH.cons rfl (fun K hK => ?_) AllReadyH.nil
  go_simp
  refine (HL.out _).mono ?_
  rintro e wx ⟨rfl, hbx⟩
  have T1 := T1.on hbx
  clear hbx
  go_wp2_with fail
  refine hK.out _ _ (⟨T1.k1.c0, T1.k1.c1, T1.k2.c0, T1.k2.c1⟩) (fun hHeld => ?_)
  clear hK K
  try simp only [Act.put, List.getElem_toArray, List.getElem_cons_succ, List.getElem_cons_zero, List.setIfInBounds_toArray, List.set_cons_zero, List.set_cons_succ]
  refine wpAnyH_ready (rs := [5]) (by kernel_rfl) (by simp) ?_
  refine AllReadyH.cons rfl (fun K hK => ?_) AllReadyH.nil
  go_simp
  refine (HR.out _).mono ?_
  rintro e wx ⟨rfl, hbx⟩
  have T1 := T1.on hbx
  clear hbx
  go_wp2_with fail
  refine hK.out _ _ (⟨T1.k1.c0, T1.k1.c1, T1.k2.c0, T1.k2.c1⟩) (fun hHeld => ?_)
  clear hK K
  try simp only [Act.put, List.getElem_toArray, List.getElem_cons_succ, List.getElem_cons_zero, List.setIfInBounds_toArray, List.set_cons_zero, List.set_cons_succ]
  refine wpAnyH_ready (rs := [6]) (by kernel_rfl) (by simp) ?_
  refine AllReadyH.cons rfl (fun K hK => ?_) AllReadyH.nil
  have c2 := T1.k3.f0
  have c3 := T1.k3.f1
  have c4 := T1.k3.c0
  have c5 := T1.k3.c1
  have T1 := T1.put1 m n
  go_simp
  refine hK.out _ _ (⟨T1.k1.c0, T1.k1.c1, T1.k2.c0, T1.k2.c1⟩) (fun hHeld => ?_)
  clear hK K
  try simp only [Act.put, List.getElem_toArray, List.getElem_cons_succ, List.getElem_cons_zero, List.setIfInBounds_toArray, List.set_cons_zero, List.set_cons_succ]
  refine wpAnyH_ready (rs := [7]) (by kernel_rfl) (by simp) ?_
  refine AllReadyH.cons rfl (fun K hK => ?_) AllReadyH.nil
  clear c2 c3 c4 c5
  have c2 := T1.k4.f0
  have c3 := T1.k4.f1
  have c4 := T1.k4.c0
  have c5 := T1.k4.c1
  have T1 := T1.put2 u v
  go_simp
  refine hK.out _ _ (⟨T1.k1.c0, T1.k1.c1, T1.k2.c0, T1.k2.c1⟩) (fun hHeld => ?_)
  clear hK K
  try simp only [Act.put, List.getElem_toArray, List.getElem_cons_succ, List.getElem_cons_zero, List.setIfInBounds_toArray, List.set_cons_zero, List.set_cons_succ]
  refine wpAnyH_done (by kernel_rfl) ?_ _
  refine NoPanic.normal ?_
  clear hHeld c2 c3 c4 c5
  go_wp2
  have r0 := T1.k3.c0
  have r1 := T1.k3.c1
  have r2 := T1.k4.c0
  have r3 := T1.k4.c1
  refine bodyPost_ret (v := .tuple #[.agg #[.int .i64 m, .int .i64 n], .agg #[.int .i64 u, .int .i64 v]]) ?_ rfl (mkCel2 rfl rfl rfl rfl T1.bel)
  simp [results, Try.results78, go_sem, r0, r1, r2, r3]
end Go.Proofs.Ytieophdbhnpncaa.Cor
