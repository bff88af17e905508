/- TilJ, HgR in one text. -/
import Derived.Test.YtieophdbhnpncaaGreatMt26
import Derived.Test.YtieophdbhnpncaaGreatMt10
import Derived.Test.YtieophdbhnpncaaGreatMt24

/- IsPartial, the program's. -/
namespace Go.Proofs.YtieophdbhnpncaaGreat.Til
set_option linter.unusedVariables false
set_option linter.unusedSimpArgs false
open Go.RowKit Go.Proofs.YtieophdbhnpncaaGreat.Base Go.Proofs.YtieophdbhnpncaaGreat.Pure Go.Proofs.YtieophdbhnpncaaGreat.Cell Go.Proofs.YtieophdbhnpncaaGreat.Cels Go.Proofs.YtieophdbhnpncaaGreat.Dom Go.Proofs.YtieophdbhnpncaaGreat.Dms Go.Joins
open Go.Proofs.YtieophdbhnpncaaGreat.Reg hiding Yes add_none RC rc_start

theorem iCanFollow (w : World) (A : Option Addr) (n cap B : Nat) (xs : List Int) (hx : xs.length = n) (hn : (n : Int) ≤ 9223372036854775807) (h : RowB w B A xs) (hB : B ≤ w.heap.size)
    (A' : Option Addr) (n' cap' B' : Nat) (L : List Dm) (hL : L.length = n') (hn' : (n' : Int) ≤ 9223372036854775807) (hf : Fits L) (h' : RowM w B' A' L) (hB' : B' ≤ w.heap.size) (x y : Int) (b : Bool) (hx1 : Sm x) (hy1 : Sm y) :
    Calls Tryz.prog 90 #[.agg #[.slice A n cap], .slice A' n' cap', .agg #[.int .i64 x, .int .i64 y, .bool b]] w (Bol (stepB xs L (x, y, b)) w) := by
  rcases Nat.eq_zero_or_pos n' with h0 | h0
  · subst h0
    obtain rfl : L = [] := List.eq_nil_of_length_eq_zero hL
    exact iCanFollow0 w A n cap B xs hx hn h hB A' cap' x y b hx1 hy1
  · exact iCanFollow1 w A n cap B xs hx hn h hB A' n' cap' B' L hL hn' hf h' hB' h0 x y b hx1 hy1
/-- the first k dominoes may follow. -/
def Go1 (xs : List Int) (L : List Dm) (k : Nat) : Prop := ∀ j, j < k → stpAt xs L j = true
theorem Go1.zero (xs : List Int) (L : List Dm) : Go1 xs L 0 := fun j h => by omega
theorem Go1.succ {xs : List Int} {L : List Dm} {k : Nat} (h : Go1 xs L k) (hs : stpAt xs L k = true) : Go1 xs L (k + 1) := by
  intro j hj
  by_cases e : j = k
  · subst e; exact hs
  · exact h j (by omega)
/-- a region's box. -/
def R1 (w : World) (v : Value) (W : World) : Prop := Below w.heap.size w W ∧ Rg W w.heap.size v
theorem r1_start (w : World) (v : Value) : R1 w v (w.alloc (.cells #[v] 26)) := ⟨below_alloc1 w _, Rg.new w v⟩
theorem R1.on {w W W' : World} {v : Value} (h : R1 w v W) (hb : Below W.heap.size W W') : R1 w v W' := ⟨h.1.trans (hb.mono h.1.size), h.2.on hb⟩
theorem R1.drew {w W : World} {v : Value} (h : R1 w v W) : R1 w v W.drew := ⟨h.1.drew, h.2⟩

set_option maxRecDepth 100000 in
set_option maxHeartbeats 2000000 in
theorem iIsPartial (w : World) (A : Option Addr) (n cap B : Nat) (xs : List Int) (hx : xs.length = n) (hn : (n : Int) ≤ 9223372036854775807) (h : RowB w B A xs) (hB : B ≤ w.heap.size)
    (A' : Option Addr) (n' cap' B' : Nat) (L : List Dm) (hL : L.length = n') (hn' : (n' : Int) ≤ 9223372036854775807) (hf : Fits L) (h' : RowM w B' A' L) (hB' : B' ≤ w.heap.size) (hcap : n' ≤ cap') :
    Calls Tryz.prog 60 #[.agg #[.slice A n cap], .slice A' n' cap'] w (Bol (partB xs L) w) := by
  obtain ⟨b0, off, hA, hR⟩ := h'.at
  have HS := Lib.hid (r1_start w (.slice A n cap))
  have HO := Lib.hid (fun W (hb : Below w.heap.size w W) => iRegionOk W A n cap B xs hx hn (h.below hb hB) (by have := hb.size; omega))
  have HF := Lib.hid (fun W (hb : Below w.heap.size w W) j (hj : j < n') (hjL : j < L.length) => iCanFollow W A n cap B xs hx hn (h.below hb hB) (by have := hb.size; omega) A' j cap' B' (L.take j) (by rw [List.length_take]; omega) (by omega) (Fits.take hf j) (RowM.take (h'.below hb hB') j) (by have := hb.size; omega) L[j].1 L[j].2.1 L[j].2.2 (hf _ (List.getElem_mem hjL)).1 (hf _ (List.getElem_mem hjL)).2)
  have HW := Lib.hid (fun W (hb : Below w.heap.size w W) (j : Nat) (hj : j < L.length) (h0 : 0 < L.length) => (show _ ∧ _ ∧ _ from ⟨(hb.cell (p := ⟨b0, off + j * 3, none⟩) (by have := (hA h0).2; show b0 < _; omega)).trans (hR j hj).1, (hb.cell (p := ⟨b0, off + j * 3 + 1, none⟩) (by have := (hA h0).2; show b0 < _; omega)).trans (hR j hj).2.1, (hb.cell (p := ⟨b0, off + j * 3 + 2, none⟩) (by have := (hA h0).2; show b0 < _; omega)).trans (hR j hj).2.2⟩))
  have HA := Lib.hid (fun h0 => (hA h0).1)
  have HL := Lib.hid hL
  have HY := Lib.hid (fun (ho : okRB xs = true) (hg : Go1 xs L L.length) => part_yes ho hg)
  have HN := Lib.hid (fun k (hk : k < L.length) hs => part_no (xs := xs) (L := L) (k := k) hk hs)
  have HX := Lib.hid (part_not (xs := xs) (L := L))
  generalize partB xs L = r at HY HN HX ⊢
  clear hx h hB hL hf h' hB' hA hR
  go_enter Tryz.func60, Tryz.ntmps60
  go_wp2_with fail
  have T0 := HS.out
  refine (HO.out _ T0.1).mono ?_
  rintro e w1 ⟨rfl, hb1⟩
  have T1 := T0.on hb1
  clear T0 HS hb1 HO
  cases ho : okRB xs with
  | false =>
    have HE := Lib.hid (HX.out ho)
    clear HX HY HN ho
    go_wp2
    go_ret
    exact mkBol (by rw [HE.out]) T1.1
  | true =>
    have HY := Lib.hid (fun hg => HY.out ho hg)
    clear ho HX
    go_wp2_with fail
    go_loopw [12] (fun i wr => ∃ j : Nat, j ≤ n' ∧ i = .int .i64 j ∧ R1 w (.slice A n cap) wr ∧ Hid (Go1 xs L j)) (fun i _ => n' - (intOf i).toNat)
    case atStart => exact ⟨0, Nat.zero_le _, rfl, T1, Lib.hid (Go1.zero _ _)⟩
    case round =>
      clear T1
      obtain ⟨j, hj, rfl, hT, hM⟩ := hrel
      by_cases hlt : j < n'
      · have hjL : j < L.length := by have := HL.out; omega
        obtain rfl := HA.out (by omega)
        obtain ⟨c0, c1, c2⟩ := HW.out _ hT.1 j hjL (by omega)
        have HD := Lib.hid (stpAt_of (xs := xs) hjL)
        have HFj := Lib.hid (fun W hb => HF.out W hb j hlt hjL)
        generalize L[j] = d at c0 c1 c2 HD HFj
        obtain ⟨u, v, b⟩ := d
        simp only at c0 c1 c2 HFj
        generalize stepB xs (L.take j) (u, v, b) = t at HFj HD
        have HNj := Lib.hid (fun hs => HN.out j hjL hs)
        have hjc : (j : Int) ≤ (cap' : Int) := by omega
        have HT := Lib.hid hT
        clear hT
        go_upto_region 6 with fail
        have k1 := At3.new 67 wr u v b
        have T1 := HT.out.on (below_alloc1 wr (.cells #[.int .i64 u, .int .i64 v, .bool b] 67))
        generalize wr.heap.size = p at k1 ⊢
        generalize wr.alloc (.cells #[.int .i64 u, .int .i64 v, .bool b] 67) = W at k1 T1 ⊢
        clear HT c0 c1 c2
        refine wp_region_noPanic ?_
        refine wp_region_held_drew (S := (fun w' => w'.cell? ⟨p, 0, none⟩ = some (.int .i64 u) ∧ w'.cell? ⟨p, 1, none⟩ = some (.int .i64 v) ∧ w'.cell? ⟨p, 2, none⟩ = some (.bool b) ∧ w'.cell? ⟨w.heap.size, 0, none⟩ = some (.slice A n cap))) (by kernel_rfl) (⟨k1.c0, k1.c1, k1.c2, T1.drew.2.c0⟩) (fun hHeld => ?_)
        refine wpAnyH_take (i := 0) (v := ?_) rfl (by kernel_rfl) (by kernel_rfl) (by kernel_rfl) (fun _ _ _ h => h) (Or.inl ⟨by rfl, ?_⟩) (by assumption) ?_
        rotate_left
        · (intro w' hS; (try dsimp only at hS); go_simp; try with_reducible rfl)
        try simp only [Act.put, List.getElem_toArray, List.getElem_cons_succ, List.getElem_cons_zero, List.setIfInBounds_toArray, List.set_cons_zero, List.set_cons_succ]
        refine wpAnyH_take (i := 1) (v := ?_) rfl (by kernel_rfl) (by kernel_rfl) (by kernel_rfl) (fun _ _ _ h => h) (Or.inl ⟨by rfl, ?_⟩) (by assumption) ?_
        rotate_left
        · (intro w' hS; (try dsimp only at hS); go_simp; try with_reducible rfl)
        try simp only [Act.put, List.getElem_toArray, List.getElem_cons_succ, List.getElem_cons_zero, List.setIfInBounds_toArray, List.set_cons_zero, List.set_cons_succ]
        refine wpAnyH_take (i := 2) (v := ?_) rfl (by kernel_rfl) (by kernel_rfl) (by kernel_rfl) (fun _ _ _ h => h) (Or.inl ⟨by rfl, ?_⟩) (by assumption) ?_
        rotate_left
        · (intro w' hS; (try dsimp only at hS); go_simp; try with_reducible rfl)
        try simp only [Act.put, List.getElem_toArray, List.getElem_cons_succ, List.getElem_cons_zero, List.setIfInBounds_toArray, List.set_cons_zero, List.set_cons_succ]
        refine wpAnyH_take (i := 3) (v := ?_) rfl (by kernel_rfl) (by kernel_rfl) (by kernel_rfl) (fun _ _ _ h => h) (Or.inl ⟨by rfl, ?_⟩) (by assumption) ?_
        rotate_left
        · (intro w' hS; (try dsimp only at hS); go_simp; try with_reducible rfl)
        try simp only [Act.put, List.getElem_toArray, List.getElem_cons_succ, List.getElem_cons_zero, List.setIfInBounds_toArray, List.set_cons_zero, List.set_cons_succ]
        refine wpAnyH_take (i := 4) (v := ?_) rfl (by kernel_rfl) (by kernel_rfl) (by kernel_rfl) (fun _ _ _ h => h) (Or.inl ⟨by rfl, ?_⟩) (by assumption) ?_
        rotate_left
        · (intro w' hS; (try dsimp only at hS); go_simp; try with_reducible rfl)
        try simp only [Act.put, List.getElem_toArray, List.getElem_cons_succ, List.getElem_cons_zero, List.setIfInBounds_toArray, List.set_cons_zero, List.set_cons_succ]
        refine wpAnyH_ready (rs := [5]) (by kernel_rfl) (by simp) ?_
        refine AllReadyH.cons rfl (fun K hK => ?_) AllReadyH.nil
        go_simp
        refine (HFj.out _ T1.drew.1).mono ?_
        rintro e wx ⟨rfl, hb1⟩
        have T2 := T1.drew.on hb1
        have k2 := (show At3 67 W.drew p u v b from k1).on hb1
        clear T1 k1 hb1 HFj
        go_wp2_with fail
        refine hK.out _ _ (⟨k2.c0, k2.c1, k2.c2, T2.2.c0⟩) (fun hHeld => ?_)
        clear hK K
        try simp only [Act.put, List.getElem_toArray, List.getElem_cons_succ, List.getElem_cons_zero, List.setIfInBounds_toArray, List.set_cons_zero, List.set_cons_succ]
        refine wpAnyH_take (i := 6) (v := ?_) rfl (by kernel_rfl) (by kernel_rfl) (by kernel_rfl) (fun _ _ _ h => h) (Or.inl ⟨by rfl, ?_⟩) (by assumption) ?_
        rotate_left
        · (intro w' hS; (try dsimp only at hS); go_simp; try with_reducible rfl)
        try simp only [Act.put, List.getElem_toArray, List.getElem_cons_succ, List.getElem_cons_zero, List.setIfInBounds_toArray, List.set_cons_zero, List.set_cons_succ]
        refine wpAnyH_done (by kernel_rfl) ?_ _
        refine NoPanic.normal ?_
        clear hHeld k2
        cases t with
        | false =>
          have HE := Lib.hid (HNj.out HD.out)
          go_wp2
          go_ret
          exact mkBol (by rw [HE.out]) T2.1
        | true =>
          have HM := Lib.hid (hM.out.succ HD.out)
          clear hM HNj HD
          go_wp2
          go_roundw
          case rel => exact ⟨j + 1, by omega, by go_num, T2, HM⟩
          case measure => (simp [intOf] <;> omega)
      · obtain rfl : j = n' := by omega
        have HE := Lib.hid (HY.out (by rw [HL.out]; exact hM.out))
        go_wp2
        go_ret
        exact mkBol (by rw [HE.out]) hT.1
end Go.Proofs.YtieophdbhnpncaaGreat.Til

/- What HeightsOf answers; the first cell has the least corner: no program here but the answer's memory. -/
namespace Go.Proofs.YtieophdbhnpncaaGreat.Hgt
set_option linter.unusedVariables false
set_option linter.unusedSimpArgs false
open Go.RowKit Go.Proofs.YtieophdbhnpncaaGreat.Base Go.Proofs.YtieophdbhnpncaaGreat.Pure Go.Proofs.YtieophdbhnpncaaGreat.Cell Go.Proofs.YtieophdbhnpncaaGreat.Dom Go.Proofs.YtieophdbhnpncaaGreat.Dms Go.Proofs.YtieophdbhnpncaaGreat.Til Go.Joins
open Go.Proofs.YtieophdbhnpncaaGreat.Reg (ints)
open Go.Proofs.YtieophdbhnpncaaGreat.Flo (simB)

/-- what HeightsOf answers. -/
def hgtR (xs : List Int) (L : List Dm) (h : List Int) : Prop := (simB xs = true ∧ Row9 xs L h) ∨ (¬ (simB xs = true ∧ tilB xs L = true) ∧ h = [])
theorem hgtR_len {xs : List Int} {L : List Dm} {h : List Int} (k : hgtR xs L h) : h.length ≤ 81 := by
  rcases k with ⟨_, b⟩ | ⟨_, rfl⟩
  · rw [b.len]; omega
  · simp
def HgtP (xs : List Int) (L : List Dm) (w : World) (e : Ending) (w' : World) : Prop :=
  ∃ (h : List Int) (A : Option Addr) (n cap : Nat), hgtR xs L h ∧ h.length = n ∧ e = .returned (.slice A n cap) ∧ w'.ownsRow w.heap.size 3 1 (.slice A n cap) n (ints h) ∧ Below w.heap.size w w'
/-- the first cell has the least corner. -/
theorem first_lc {xs : List Int} (ok : okR xs) {x y : Int} {t : List (Int × Int)} (h : cellsR xs = (x, y) :: t) : (0 ≤ x ∧ x ≤ 7 ∧ 0 ≤ y ∧ y ≤ 7) ∧ ((lc xs : Nat) : Int) = y * 9 + x := by
  have hb : hasB xs x y = true := mem_cells.1 (h ▸ List.mem_cons_self ..)
  obtain ⟨_, x0, x7, y0, y7, _⟩ := hasB_iff.1 hb
  have hl : ∀ x' y', hasB xs x' y' = true → y * 8 + x ≤ y' * 8 + x' := fun x' y' hc => by
    have hm := mem_cells.2 hc
    have hi := cells_inc xs
    rw [h] at hm hi
    rcases List.mem_cons.1 hm with e | e
    · injection e with e1 e2; omega
    · have := (List.pairwise_cons.1 hi).1 _ e
      simp only at this
      omega
  refine ⟨⟨x0, x7, y0, y7⟩, ?_⟩
  obtain ⟨a, ha⟩ : ∃ a : Nat, (a : Int) = x := ⟨x.toNat, by omega⟩
  obtain ⟨b, hb'⟩ : ∃ b : Nat, (b : Int) = y := ⟨y.toNat, by omega⟩
  have e : lc xs = 9 * b + a := by
    refine lc_of (by omega) (crn_any.2 ⟨0, by omega, ?_⟩) (fun v hv => ?_)
    · rw [show (((9 * b + a) % 9 : Nat) : Int) - ((0 % 2 : Nat) : Int) = x by omega, show (((9 * b + a) / 9 : Nat) : Int) - ((0 / 2 : Nat) : Int) = y by omega]
      exact hb
    · cases q : crnB xs v with
      | false => rfl
      | true =>
        obtain ⟨i, hi, hc⟩ := crn_any.1 q
        obtain ⟨_, c0, c7, d0, d7, _⟩ := hasB_iff.1 hc
        have := hl _ _ hc
        omega
  rw [e]; omega
end Go.Proofs.YtieophdbhnpncaaGreat.Hgt
