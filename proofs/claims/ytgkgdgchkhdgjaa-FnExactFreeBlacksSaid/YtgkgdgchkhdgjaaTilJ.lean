/- IsPartial, the program's. -/
import Derived.Test.YtgkgdgchkhdgjaaTilI
import Derived.Test.YtgkgdgchkhdgjaaRegOk
namespace Go.Proofs.Ytgkgdgchkhdgjaa.Til
set_option linter.unusedVariables false
set_option linter.unusedSimpArgs false
open Go.RowKit Go.Proofs.Ytgkgdgchkhdgjaa.Base Go.Proofs.Ytgkgdgchkhdgjaa.Pure Go.Proofs.Ytgkgdgchkhdgjaa.Cell Go.Proofs.Ytgkgdgchkhdgjaa.Cels Go.Proofs.Ytgkgdgchkhdgjaa.Dom Go.Proofs.Ytgkgdgchkhdgjaa.Dms Go.Joins
open Go.Proofs.Ytgkgdgchkhdgjaa.Reg hiding Yes add_none RC rc_start

theorem iCanFollow (w : World) (A : Option Addr) (n cap B : Nat) (xs : List Int) (hx : xs.length = n) (hn : (n : Int) ≤ 9223372036854775807) (h : RowB w B A xs) (hB : B ≤ w.heap.size)
    (A' : Option Addr) (n' cap' B' : Nat) (L : List Dm) (hL : L.length = n') (hn' : (n' : Int) ≤ 9223372036854775807) (hf : Fits L) (h' : RowM w B' A' L) (hB' : B' ≤ w.heap.size) (x y : Int) (b : Bool) (hx1 : Sm x) (hy1 : Sm y) :
    Calls Try.prog 61 #[.agg #[.slice A n cap], .slice A' n' cap', .agg #[.int .i64 x, .int .i64 y, .bool b]] w (Bol (stepB xs L (x, y, b)) w) := by
  rcases Nat.eq_zero_or_pos n' with h0 | h0
  · subst h0
    obtain rfl : L = [] := List.eq_nil_of_length_eq_zero hL
    exact iCanFollow0 w A n cap B xs hx hn h hB A' cap' x y b hx1 hy1
  · exact iCanFollow1 w A n cap B xs hx hn h hB A' n' cap' B' L hL hn' hf h' hB' h0 x y b hx1 hy1
/-- the first k dominoes may follow. -/
def Go1 (xs : List Int) (L : List Dm) (k : Nat) : Prop := ∀ j, j < k → stpAt xs L j = true
theorem Go1.zero (xs : List Int) (L : List Dm) : Go1 xs L 0 := fun j h => by omega
theorem Go1.succ {xs : List Int} {L : List Dm} {k : Nat} (h : Go1 xs L k) (hs : stpAt xs L k = true) : Go1 xs L (k + 1) := by
  intro j hj
  by_cases e : j = k
  · subst e; exact hs
  · exact h j (by omega)
/-- a region's box. -/
def R1 (w : World) (v : Value) (W : World) : Prop := Below w.heap.size w W ∧ Rg W w.heap.size v
theorem r1_start (w : World) (v : Value) : R1 w v (w.alloc (.cells #[v] 29)) := ⟨below_alloc1 w _, Rg.new w v⟩
theorem R1.on {w W W' : World} {v : Value} (h : R1 w v W) (hb : Below W.heap.size W W') : R1 w v W' := ⟨h.1.trans (hb.mono h.1.size), h.2.on hb⟩
theorem R1.drew {w W : World} {v : Value} (h : R1 w v W) : R1 w v W.drew := ⟨h.1.drew, h.2⟩

set_option maxRecDepth 100000 in
set_option maxHeartbeats 2000000 in
theorem iIsPartial (w : World) (A : Option Addr) (n cap B : Nat) (xs : List Int) (hx : xs.length = n) (hn : (n : Int) ≤ 9223372036854775807) (h : RowB w B A xs) (hB : B ≤ w.heap.size)
    (A' : Option Addr) (n' cap' B' : Nat) (L : List Dm) (hL : L.length = n') (hn' : (n' : Int) ≤ 9223372036854775807) (hf : Fits L) (h' : RowM w B' A' L) (hB' : B' ≤ w.heap.size) (hcap : n' ≤ cap') :
    Calls Try.prog 27 #[.agg #[.slice A n cap], .slice A' n' cap'] w (Bol (partB xs L) w) := by
  obtain ⟨b0, off, hA, hR⟩ := h'.at
  have HS := Lib.hid (r1_start w (.slice A n cap))
  have HO := Lib.hid (fun W (hb : Below w.heap.size w W) => iRegionOk W A n cap B xs hx hn (h.below hb hB) (by have := hb.size; omega))
  have HF := Lib.hid (fun W (hb : Below w.heap.size w W) j (hj : j < n') (hjL : j < L.length) => iCanFollow W A n cap B xs hx hn (h.below hb hB) (by have := hb.size; omega) A' j cap' B' (L.take j) (by rw [List.length_take]; omega) (by omega) (Fits.take hf j) (RowM.take (h'.below hb hB') j) (by have := hb.size; omega) L[j].1 L[j].2.1 L[j].2.2 (hf _ (List.getElem_mem hjL)).1 (hf _ (List.getElem_mem hjL)).2)
  have HW := Lib.hid (fun W (hb : Below w.heap.size w W) (j : Nat) (hj : j < L.length) (h0 : 0 < L.length) => (show _ ∧ _ ∧ _ from ⟨(hb.cell (p := ⟨b0, off + j * 3, none⟩) (by have := (hA h0).2; show b0 < _; omega)).trans (hR j hj).1, (hb.cell (p := ⟨b0, off + j * 3 + 1, none⟩) (by have := (hA h0).2; show b0 < _; omega)).trans (hR j hj).2.1, (hb.cell (p := ⟨b0, off + j * 3 + 2, none⟩) (by have := (hA h0).2; show b0 < _; omega)).trans (hR j hj).2.2⟩))
  have HA := Lib.hid (fun h0 => (hA h0).1)
  have HL := Lib.hid hL
  have HY := Lib.hid (fun (ho : okRB xs = true) (hg : Go1 xs L L.length) => part_yes ho hg)
  have HN := Lib.hid (fun k (hk : k < L.length) hs => part_no (xs := xs) (L := L) (k := k) hk hs)
  have HX := Lib.hid (part_not (xs := xs) (L := L))
  generalize partB xs L = r at HY HN HX ⊢
  clear hx h hB hL hf h' hB' hA hR
  go_enter Try.func27, Try.ntmps27
  go_wp2_with fail
  have T0 := HS.out
  refine (HO.out _ T0.1).mono ?_
  rintro e w1 ⟨rfl, hb1⟩
  have T1 := T0.on hb1
  clear T0 HS hb1 HO
  cases ho : okRB xs with
  | false =>
    have HE := Lib.hid (HX.out ho)
    clear HX HY HN ho
    go_wp2
    go_ret
    exact mkBol (by rw [HE.out]) T1.1
  | true =>
    have HY := Lib.hid (fun hg => HY.out ho hg)
    clear ho HX
    go_wp2_with fail
    go_loopw [12] (fun i wr => ∃ j : Nat, j ≤ n' ∧ i = .int .i64 j ∧ R1 w (.slice A n cap) wr ∧ Hid (Go1 xs L j)) (fun i _ => n' - (intOf i).toNat)
    case atStart => exact ⟨0, Nat.zero_le _, rfl, T1, Lib.hid (Go1.zero _ _)⟩
    case round =>
      clear T1
      obtain ⟨j, hj, rfl, hT, hM⟩ := hrel
      by_cases hlt : j < n'
      · have hjL : j < L.length := by have := HL.out; omega
        obtain rfl := HA.out (by omega)
        obtain ⟨c0, c1, c2⟩ := HW.out _ hT.1 j hjL (by omega)
        have HD := Lib.hid (stpAt_of (xs := xs) hjL)
        have HFj := Lib.hid (fun W hb => HF.out W hb j hlt hjL)
        generalize L[j] = d at c0 c1 c2 HD HFj
        obtain ⟨u, v, b⟩ := d
        simp only at c0 c1 c2 HFj
        generalize stepB xs (L.take j) (u, v, b) = t at HFj HD
        have HNj := Lib.hid (fun hs => HN.out j hjL hs)
        have hjc : (j : Int) ≤ (cap' : Int) := by omega
        have HT := Lib.hid hT
        clear hT
        go_upto_region 6 with fail
        have k1 := At3.new 82 wr u v b
        have T1 := HT.out.on (below_alloc1 wr (.cells #[.int .i64 u, .int .i64 v, .bool b] 82))
        generalize wr.heap.size = p at k1 ⊢
        generalize wr.alloc (.cells #[.int .i64 u, .int .i64 v, .bool b] 82) = W at k1 T1 ⊢
        clear HT c0 c1 c2
        refine wp_region_noPanic ?_
        refine wp_region_held_drew (S := (fun w' => w'.cell? ⟨p, 0, none⟩ = some (.int .i64 u) ∧ w'.cell? ⟨p, 1, none⟩ = some (.int .i64 v) ∧ w'.cell? ⟨p, 2, none⟩ = some (.bool b) ∧ w'.cell? ⟨w.heap.size, 0, none⟩ = some (.slice A n cap))) (by kernel_rfl) (⟨k1.c0, k1.c1, k1.c2, T1.drew.2.c0⟩) (fun hHeld => ?_)
        refine wpAnyH_take (i := 0) (v := ?_) rfl (by kernel_rfl) (by kernel_rfl) (by kernel_rfl) (fun _ _ _ h => h) (Or.inl ⟨by rfl, ?_⟩) (by assumption) ?_
        rotate_left
        · (intro w' hS; (try dsimp only at hS); go_simp; try with_reducible rfl)
        try simp only [Act.put, List.getElem_toArray, List.getElem_cons_succ, List.getElem_cons_zero, List.setIfInBounds_toArray, List.set_cons_zero, List.set_cons_succ]
        refine wpAnyH_take (i := 1) (v := ?_) rfl (by kernel_rfl) (by kernel_rfl) (by kernel_rfl) (fun _ _ _ h => h) (Or.inl ⟨by rfl, ?_⟩) (by assumption) ?_
        rotate_left
        · (intro w' hS; (try dsimp only at hS); go_simp; try with_reducible rfl)
        try simp only [Act.put, List.getElem_toArray, List.getElem_cons_succ, List.getElem_cons_zero, List.setIfInBounds_toArray, List.set_cons_zero, List.set_cons_succ]
        refine wpAnyH_take (i := 2) (v := ?_) rfl (by kernel_rfl) (by kernel_rfl) (by kernel_rfl) (fun _ _ _ h => h) (Or.inl ⟨by rfl, ?_⟩) (by assumption) ?_
        rotate_left
        · (intro w' hS; (try dsimp only at hS); go_simp; try with_reducible rfl)
        try simp only [Act.put, List.getElem_toArray, List.getElem_cons_succ, List.getElem_cons_zero, List.setIfInBounds_toArray, List.set_cons_zero, List.set_cons_succ]
        refine wpAnyH_take (i := 3) (v := ?_) rfl (by kernel_rfl) (by kernel_rfl) (by kernel_rfl) (fun _ _ _ h => h) (Or.inl ⟨by rfl, ?_⟩) (by assumption) ?_
        rotate_left
        · (intro w' hS; (try dsimp only at hS); go_simp; try with_reducible rfl)
        try simp only [Act.put, List.getElem_toArray, List.getElem_cons_succ, List.getElem_cons_zero, List.setIfInBounds_toArray, List.set_cons_zero, List.set_cons_succ]
        refine wpAnyH_take (i := 4) (v := ?_) rfl (by kernel_rfl) (by kernel_rfl) (by kernel_rfl) (fun _ _ _ h => h) (Or.inl ⟨by rfl, ?_⟩) (by assumption) ?_
        rotate_left
        · (intro w' hS; (try dsimp only at hS); go_simp; try with_reducible rfl)
        try simp only [Act.put, List.getElem_toArray, List.getElem_cons_succ, List.getElem_cons_zero, List.setIfInBounds_toArray, List.set_cons_zero, List.set_cons_succ]
        refine wpAnyH_ready (rs := [5]) (by kernel_rfl) (by simp) ?_
        refine AllReadyH.cons rfl (fun K hK => ?_) AllReadyH.nil
        go_simp
        refine (HFj.out _ T1.drew.1).mono ?_
        rintro e wx ⟨rfl, hb1⟩
        have T2 := T1.drew.on hb1
        have k2 := (show At3 82 W.drew p u v b from k1).on hb1
        clear T1 k1 hb1 HFj
        go_wp2_with fail
        refine hK.out _ _ (⟨k2.c0, k2.c1, k2.c2, T2.2.c0⟩) (fun hHeld => ?_)
        clear hK K
        try simp only [Act.put, List.getElem_toArray, List.getElem_cons_succ, List.getElem_cons_zero, List.setIfInBounds_toArray, List.set_cons_zero, List.set_cons_succ]
        refine wpAnyH_take (i := 6) (v := ?_) rfl (by kernel_rfl) (by kernel_rfl) (by kernel_rfl) (fun _ _ _ h => h) (Or.inl ⟨by rfl, ?_⟩) (by assumption) ?_
        rotate_left
        · (intro w' hS; (try dsimp only at hS); go_simp; try with_reducible rfl)
        try simp only [Act.put, List.getElem_toArray, List.getElem_cons_succ, List.getElem_cons_zero, List.setIfInBounds_toArray, List.set_cons_zero, List.set_cons_succ]
        refine wpAnyH_done (by kernel_rfl) ?_ _
        refine NoPanic.normal ?_
        clear hHeld k2
        cases t with
        | false =>
          have HE := Lib.hid (HNj.out HD.out)
          go_wp2
          go_ret
          exact mkBol (by rw [HE.out]) T2.1
        | true =>
          have HM := Lib.hid (hM.out.succ HD.out)
          clear hM HNj HD
          go_wp2
          go_roundw
          case rel => exact ⟨j + 1, by omega, by go_num, T2, HM⟩
          case measure => (simp [intOf] <;> omega)
      · obtain rfl : j = n' := by omega
        have HE := Lib.hid (HY.out (by rw [HL.out]; exact hM.out))
        go_wp2
        go_ret
        exact mkBol (by rw [HE.out]) hT.1
end Go.Proofs.Ytgkgdgchkhdgjaa.Til
