/- SameCells, the model's: cell by cell. -/
import Derived.Test.YtgngeebafpabdaaRegSm
namespace Go.Proofs.Ytgngeebafpabdaa.Reg
set_option linter.unusedVariables false
set_option linter.unusedSimpArgs false
open Go.RowKit Go.Proofs.Ytgngeebafpabdaa.Base Go.Proofs.Ytgngeebafpabdaa.Pure Go.Proofs.Ytgngeebafpabdaa.Cell Go.Joins

theorem bits_table : ∀ r : Fin 256, ((r.val : Nat) : Int) = (if bitB ((r.val : Nat) : Int) 0 then 1 else 0) + (if bitB ((r.val : Nat) : Int) 1 then 2 else 0) + (if bitB ((r.val : Nat) : Int) 2 then 4 else 0) + (if bitB ((r.val : Nat) : Int) 3 then 8 else 0) +
    (if bitB ((r.val : Nat) : Int) 4 then 16 else 0) + (if bitB ((r.val : Nat) : Int) 5 then 32 else 0) + (if bitB ((r.val : Nat) : Int) 6 then 64 else 0) + (if bitB ((r.val : Nat) : Int) 7 then 128 else 0) := by decide +kernel
theorem bits_sum {r : Int} (h0 : 0 ≤ r) (h1 : r ≤ 255) : r = (if bitB r 0 then 1 else 0) + (if bitB r 1 then 2 else 0) + (if bitB r 2 then 4 else 0) + (if bitB r 3 then 8 else 0) +
    (if bitB r 4 then 16 else 0) + (if bitB r 5 then 32 else 0) + (if bitB r 6 then 64 else 0) + (if bitB r 7 then 128 else 0) := by
  have h := bits_table ⟨r.toNat, by omega⟩
  have e : ((r.toNat : Nat) : Int) = r := Int.toNat_of_nonneg h0
  simp only [e] at h
  exact h
theorem bits_eq {r s : Int} (h0 : 0 ≤ r) (h1 : r ≤ 255) (k0 : 0 ≤ s) (k1 : s ≤ 255) (h : ∀ k, k < 8 → bitB r k = bitB s k) : r = s := by
  rw [bits_sum h0 h1, bits_sum k0 k1, h 0 (by omega), h 1 (by omega), h 2 (by omega), h 3 (by omega), h 4 (by omega), h 5 (by omega), h 6 (by omega), h 7 (by omega)]
/-- the cells of the first k indexes are the same. -/
def CellsSame (a b : List Int) (k : Nat) : Prop := ∀ j, j < k → bitB (rowD a (j / 8)) (j % 8) = bitB (rowD b (j / 8)) (j % 8)
theorem CellsSame.zero (a b : List Int) : CellsSame a b 0 := fun z hz => by omega
theorem CellsSame.next {a b : List Int} {y : Nat} (h : CellsSame a b y) (k : bitB (rowD a (y / 8)) (y % 8) = bitB (rowD b (y / 8)) (y % 8)) : CellsSame a b (y + 1) := by
  intro z hz
  by_cases e : z = y
  · subst e; exact k
  · exact h z (by omega)
theorem CellsSame.all {a b : List Int} (ha : okR a) (hb : okR b) (h : CellsSame a b 64) : sameR a b = true := by
  refine sameR_iff.2 ⟨ha, hb, fun y hy => ?_⟩
  refine bits_eq (rowD_ok ha y).1 (rowD_ok ha y).2 (rowD_ok hb y).1 (rowD_ok hb y).2 fun k hk => ?_
  have := h (y * 8 + k) (by omega)
  rwa [show (y * 8 + k) / 8 = y by omega, show (y * 8 + k) % 8 = k by omega] at this
theorem CellsSame.no {a b : List Int} {k : Nat} (hk : k < 64) (h : bitB (rowD a (k / 8)) (k % 8) ≠ bitB (rowD b (k / 8)) (k % 8)) : sameR a b = false :=
  same_no_row (y := k / 8) (by omega) fun e => h (by rw [e])

/-- two parameters' boxes, and a cell's. -/
def RQ (w : World) (v u : Value) (q : Nat) (x y : Int) (W : World) : Prop :=
  Below w.heap.size w W ∧ w.heap.size + 2 ≤ W.heap.size ∧ W.cell? ⟨w.heap.size, 0, none⟩ = some v ∧ W.cell? ⟨w.heap.size + 1, 0, none⟩ = some u ∧ W.cell? ⟨q, 0, none⟩ = some (.int .i64 x) ∧ W.cell? ⟨q, 1, none⟩ = some (.int .i64 y) ∧ q < W.heap.size
theorem rq_start {T : TypeId} {w W : World} {v u : Value} (x y : Int) (h : RR w v u W) : RQ w v u W.heap.size x y (W.alloc (.cells #[.int .i64 x, .int .i64 y] T)) := by
  obtain ⟨a, b, c, d⟩ := h.on (below_alloc1 W (.cells #[.int .i64 x, .int .i64 y] T))
  have e := heap_alloc_new W (.cells #[.int .i64 x, .int .i64 y] T)
  exact ⟨a, b, c, d, (cell_of_row _ _ 0 _ _ _ e).trans rfl, (cell_of_row _ _ 1 _ _ _ e).trans rfl, by simp⟩
theorem RQ.rr {w W : World} {v u : Value} {q : Nat} {x y : Int} (h : RQ w v u q x y W) : RR w v u W := ⟨h.1, h.2.1, h.2.2.1, h.2.2.2.1⟩
theorem RQ.on {w W W' : World} {v u : Value} {q : Nat} {x y : Int} (h : RQ w v u q x y W) (hb : Below W.heap.size W W') : RQ w v u q x y W' := by
  obtain ⟨a, b, c, d⟩ := h.rr.on hb
  obtain ⟨_, _, _, _, e, f, g⟩ := h
  exact ⟨a, b, c, d, (hb.cell (by show q < _; omega)).trans e, (hb.cell (by show q < _; omega)).trans f, by have := hb.size; omega⟩
theorem RQ.drew {w W : World} {v u : Value} {q : Nat} {x y : Int} (h : RQ w v u q x y W) : RQ w v u q x y W.drew := ⟨h.1.drew, h.2⟩

set_option maxRecDepth 100000 in
set_option maxHeartbeats 4000000 in
theorem sSameCells (w : World) (A : Option Addr) (n cap B : Nat) (xs : List Int) (hx : xs.length = n) (hn : (n : Int) ≤ 9223372036854775807) (h : RowB w B A xs) (hB : B ≤ w.heap.size)
    (A' : Option Addr) (n' cap' B' : Nat) (ys : List Int) (hx' : ys.length = n') (hn' : (n' : Int) ≤ 9223372036854775807) (h' : RowB w B' A' ys) (hB' : B' ≤ w.heap.size) :
    Calls Try.prog 40 #[.agg #[.slice A n cap], .agg #[.slice A' n' cap']] w (Bol (sameR xs ys) w) := by
  have T0 := Lib.hid (fun T T' => rr_start (T := T) (T' := T') (.slice A n cap) (.slice A' n' cap') w)
  have HOa := Lib.hid (fun W (hr : RR w (.slice A n cap) (.slice A' n' cap') W) => sRegionOk W A n cap B xs hx hn (h.below hr.1 hB) (by have := hr.2.1; omega))
  have HOb := Lib.hid (fun W (hr : RR w (.slice A n cap) (.slice A' n' cap') W) => sRegionOk W A' n' cap' B' ys hx' hn' (h'.below hr.1 hB') (by have := hr.2.1; omega))
  have HHa := Lib.hid (fun (ho : okR xs) W (hr : RR w (.slice A n cap) (.slice A' n' cap') W) x y hx8 hy8 => sHas W A n cap B xs hx ho (h.below hr.1 hB) (by have := hr.2.1; omega) x y hx8 hy8)
  have HHb := Lib.hid (fun (ho : okR ys) W (hr : RR w (.slice A n cap) (.slice A' n' cap') W) x y hx8 hy8 => sHas W A' n' cap' B' ys hx' ho (h'.below hr.1 hB') (by have := hr.2.1; omega) x y hx8 hy8)
  clear hx hn h hB hx' hn' h' hB'
  go_enter Try.func40, Try.ntmps40
  go_wp2_with fail
  have T1 := T0.out 26 26
  refine (HOa.out _ T1).mono ?_
  rintro e w1 ⟨rfl, hb1⟩
  have T2 := T1.on hb1
  clear T0 T1 hb1 HOa
  by_cases ho : okR xs
  · rw [okRB_of ho]
    obtain ⟨_, _, c0, c1⟩ := id T2
    go_wp2_with fail
    refine (HOb.out _ T2).mono ?_
    rintro e w2 ⟨rfl, hb2⟩
    have T3 := T2.on hb2
    clear T2 c0 c1 hb2 HOb
    by_cases ho' : okR ys
    · rw [okRB_of ho']
      have HAll := Lib.hid (fun (k : CellsSame xs ys 64) => k.all ho ho')
      have HHa := Lib.hid (HHa.out ho)
      have HHb := Lib.hid (HHb.out ho')
      clear ho ho'
      go_wp2_with fail
      go_loopw [5] (fun i wr => ∃ k : Nat, k ≤ 64 ∧ i = .int .i64 k ∧ Hid (CellsSame xs ys k) ∧ RR w (.slice A n cap) (.slice A' n' cap') wr) (fun i _ => 64 - (intOf i).toNat)
      case atStart => exact ⟨0, Nat.zero_le _, rfl, Lib.hid (CellsSame.zero _ _), T3⟩
      case round =>
        clear T3
        obtain ⟨k, hk, rfl, HT, T4⟩ := hrel
        by_cases hlt : k < 64
        · go_wp2_with fail
          refine (sCellAt k _).mono ?_
          rintro e w3 ⟨rfl, hb3⟩
          have T5 := T4.on hb3
          clear T4 hb3
          have hat : atX (k : Int) = ((k % 8 : Nat) : Int) ∧ atY (k : Int) = ((k / 8 : Nat) : Int) := by
            obtain ⟨a, b, _⟩ := at_in (n := (k : Int)) (by omega) (by omega)
            rw [a, b]; constructor <;> omega
          rw [hat.1, hat.2]
          have HCa := Lib.hid (fun W (hr : RQ w (.slice A n cap) (.slice A' n' cap') w3.heap.size ((k % 8 : Nat) : Int) ((k / 8 : Nat) : Int) W) => HHa.out W hr.rr (k % 8) (k / 8) (by omega) (by omega))
          have HCb := Lib.hid (fun W (hr : RQ w (.slice A n cap) (.slice A' n' cap') w3.heap.size ((k % 8 : Nat) : Int) ((k / 8 : Nat) : Int) W) => HHb.out W hr.rr (k % 8) (k / 8) (by omega) (by omega))
          have hcs : bitB (rowD xs (k / 8)) (k % 8) = bitB (rowD ys (k / 8)) (k % 8) ∧ Hid (CellsSame xs ys (k + 1)) ∨ bitB (rowD xs (k / 8)) (k % 8) ≠ bitB (rowD ys (k / 8)) (k % 8) ∧ Hid (sameR xs ys = false) := by
            by_cases q : bitB (rowD xs (k / 8)) (k % 8) = bitB (rowD ys (k / 8)) (k % 8)
            · exact .inl ⟨q, Lib.hid (HT.out.next q)⟩
            · exact .inr ⟨q, Lib.hid (CellsSame.no hlt q)⟩
          generalize bitB (rowD xs (k / 8)) (k % 8) = ra at HCa hcs
          generalize bitB (rowD ys (k / 8)) (k % 8) = rb at HCb hcs
          have hne : ra = rb ∧ Hid (CellsSame xs ys (k + 1)) ∨ ra = (!rb) ∧ Hid (sameR xs ys = false) := by
            rcases hcs with ⟨rfl, k⟩ | ⟨q, k⟩
            · exact .inl ⟨rfl, k⟩
            · exact .inr ⟨by cases ra <;> cases rb <;> simp_all, k⟩
          clear hcs HT hat HHa HHb
          have S0 := Lib.hid (fun T => rq_start (T := T) ((k % 8 : Nat) : Int) ((k / 8 : Nat) : Int) T5)
          clear T5
          generalize ((k % 8 : Nat) : Int) = u at S0 HCa HCb ⊢
          generalize ((k / 8 : Nat) : Int) = v at S0 HCa HCb ⊢
          go_wp2_with fail
          have T6 := S0.out 29
          generalize w3.alloc (.cells #[.int .i64 u, .int .i64 v] 29) = W3 at T6 ⊢
          clear S0
          generalize w3.heap.size = q at T6 HCa HCb ⊢
          have hq1 : (rb != rb) = false := by simp
          have hq2 : ((!rb) != rb) = true := by cases rb <;> rfl
          rcases hne with ⟨rfl, HN⟩ | ⟨rfl, HN⟩
          all_goals
            refine wp_region_noPanic ?_
            refine wp_region_held_drew (S := (fun w' => Below w.heap.size w w' ∧ w.heap.size + 2 ≤ w'.heap.size ∧ w'.cell? ⟨w.heap.size, 0, none⟩ = some (.slice A n cap) ∧ w'.cell? ⟨w.heap.size + 1, 0, none⟩ = some (.slice A' n' cap') ∧ w'.cell? ⟨q, 0, none⟩ = some (.int .i64 u) ∧ w'.cell? ⟨q, 1, none⟩ = some (.int .i64 v) ∧ q < w'.heap.size)) (by kernel_rfl) (RQ.drew T6) (fun hHeld => ?_)
            refine wpAnyH_take (i := 0) (v := ?_) rfl (by kernel_rfl) (by kernel_rfl) (by kernel_rfl) (fun _ _ _ h => h) (Or.inl ⟨by rfl, ?_⟩) (by assumption) ?_
            rotate_left
            · (intro w' hS; (try dsimp only at hS); go_simp; try with_reducible rfl)
            try simp only [Act.put, List.getElem_toArray, List.getElem_cons_succ, List.getElem_cons_zero, List.setIfInBounds_toArray, List.set_cons_zero, List.set_cons_succ]
            refine wpAnyH_take (i := 1) (v := ?_) rfl (by kernel_rfl) (by kernel_rfl) (by kernel_rfl) (fun _ _ _ h => h) (Or.inl ⟨by rfl, ?_⟩) (by assumption) ?_
            rotate_left
            · (intro w' hS; (try dsimp only at hS); go_simp; try with_reducible rfl)
            try simp only [Act.put, List.getElem_toArray, List.getElem_cons_succ, List.getElem_cons_zero, List.setIfInBounds_toArray, List.set_cons_zero, List.set_cons_succ]
            refine wpAnyH_take (i := 3) (v := ?_) rfl (by kernel_rfl) (by kernel_rfl) (by kernel_rfl) (fun _ _ _ h => h) (Or.inl ⟨by rfl, ?_⟩) (by assumption) ?_
            rotate_left
            · (intro w' hS; (try dsimp only at hS); go_simp; try with_reducible rfl)
            try simp only [Act.put, List.getElem_toArray, List.getElem_cons_succ, List.getElem_cons_zero, List.setIfInBounds_toArray, List.set_cons_zero, List.set_cons_succ]
            refine wpAnyH_take (i := 4) (v := ?_) rfl (by kernel_rfl) (by kernel_rfl) (by kernel_rfl) (fun _ _ _ h => h) (Or.inl ⟨by rfl, ?_⟩) (by assumption) ?_
            rotate_left
            · (intro w' hS; (try dsimp only at hS); go_simp; try with_reducible rfl)
            try simp only [Act.put, List.getElem_toArray, List.getElem_cons_succ, List.getElem_cons_zero, List.setIfInBounds_toArray, List.set_cons_zero, List.set_cons_succ]
            refine wpAnyH_ready (rs := [2]) (by kernel_rfl) (by simp) ?_
            refine AllReadyH.cons rfl (fun K hK => ?_) AllReadyH.nil
            go_simp
            refine (HCa.out _ (by assumption)).mono ?_
            rintro e wx ⟨rfl, hbx⟩
            go_wp2_with fail
            refine hK.out _ _ (RQ.on (by assumption) hbx) (fun hHeld => ?_)
            clear hK K
            try simp only [Act.put, List.getElem_toArray, List.getElem_cons_succ, List.getElem_cons_zero, List.setIfInBounds_toArray, List.set_cons_zero, List.set_cons_succ]
            refine wpAnyH_ready (rs := [5]) (by kernel_rfl) (by simp) ?_
            refine AllReadyH.cons rfl (fun K hK => ?_) AllReadyH.nil
            go_simp
            refine (HCb.out _ (by assumption)).mono ?_
            rintro e wx ⟨rfl, hbx⟩
            go_wp2_with fail
            refine hK.out _ _ (RQ.on (by assumption) hbx) (fun hHeld => ?_)
            clear hK K
            try simp only [Act.put, List.getElem_toArray, List.getElem_cons_succ, List.getElem_cons_zero, List.setIfInBounds_toArray, List.set_cons_zero, List.set_cons_succ]
            refine wpAnyH_take (i := 6) (v := ?_) rfl (by kernel_rfl) (by kernel_rfl) (by kernel_rfl) (fun _ _ _ h => h) (Or.inl ⟨by rfl, ?_⟩) (by assumption) ?_
            rotate_left
            · (intro w' hS; (try dsimp only at hS); go_simp; try with_reducible rfl)
            try simp only [Act.put, List.getElem_toArray, List.getElem_cons_succ, List.getElem_cons_zero, List.setIfInBounds_toArray, List.set_cons_zero, List.set_cons_succ]
            refine wpAnyH_done (by kernel_rfl) ?_ _
            refine NoPanic.normal ?_
          · have T7 : RR w (.slice A n cap) (.slice A' n' cap') wx := (show RQ w (.slice A n cap) (.slice A' n' cap') q u v wx by assumption).rr
            clear HCa HCb T6
            go_wp2
            go_roundw
            case rel => exact ⟨k + 1, by omega, by go_num, HN, T7⟩
            case measure => (simp [intOf] <;> omega)
          · have hb := (show RQ w (.slice A n cap) (.slice A' n' cap') q u v wx by assumption).1
            clear HCa HCb T6
            go_wp2
            go_ret
            exact mkBol HN.out.symm hb
        · obtain rfl : k = 64 := by omega
          have HN := Lib.hid (HAll.out HT.out)
          have hb := T4.1
          clear T4
          go_wp2
          go_ret
          exact mkBol HN.out.symm hb
    · rw [okRB_not ho']
      have HN := Lib.hid (same_no_right (a := xs) ho')
      have hb := T3.1
      clear ho ho' T3
      go_wp2
      go_ret
      exact mkBol HN.out.symm hb
  · rw [okRB_not ho]
    have HN := Lib.hid (same_no_left (b := ys) ho)
    have hb := T2.1
    clear ho T2
    go_wp2
    go_ret
    exact mkBol HN.out.symm hb
end Go.Proofs.Ytgngeebafpabdaa.Reg
