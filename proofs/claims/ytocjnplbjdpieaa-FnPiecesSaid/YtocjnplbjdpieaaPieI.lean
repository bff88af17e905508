/- PieceOf: the program's function lists the piece of a cell. -/
import Derived.Test.YtocjnplbjdpieaaFlC
namespace Go.Proofs.Ytocjnplbjdpieaa.Flo
set_option linter.unusedVariables false
open Go.RowKit Go.Proofs.Ytocjnplbjdpieaa.Base Go.Proofs.Ytocjnplbjdpieaa.Pure Go.Proofs.Ytocjnplbjdpieaa.Euler Go.Proofs.Ytocjnplbjdpieaa.Bal Go.Proofs.Ytocjnplbjdpieaa.Cell Go.Proofs.Ytocjnplbjdpieaa.Reg Go.Proofs.Ytocjnplbjdpieaa.Cels Go.Joins

/-- the piece of a cell, empty if the region doesn't have it. -/
def pieceR (xs : List Int) (x y : Int) : List (Int × Int) := if hasB xs x y then pieceTo xs (8 * y.toNat + x.toNat) 64 else []
theorem pieceR_length (xs : List Int) (x y : Int) : (pieceR xs x y).length ≤ 64 := by
  unfold pieceR
  split
  · exact pieceTo_length _ _ _
  · simp
theorem plC_io (j : Nat) : plC (io j) = cellI j := by
  unfold plC io cellI
  exact Prod.ext (by simp only; omega) (by simp only; omega)
/-- the place of a cell. -/
def pOf (p : Int × Int) : Nat := 10 * (p.2.toNat + 1) + (p.1.toNat + 1)
theorem pOf_cellI (j : Nat) : pOf (cellI j) = io j := by unfold pOf cellI io; simp only; omega
/-- what is found among the first k cells. -/
def resTo (M : Nat → Bool) (L : List (Int × Int)) (k : Nat) : List (Int × Int) := (L.take k).filter fun p => M (pOf p)
theorem resTo_length (M : Nat → Bool) (L : List (Int × Int)) (k : Nat) : (resTo M L k).length ≤ k := by
  unfold resTo
  exact Nat.le_trans (List.length_filter_le _ _) (by rw [List.length_take]; omega)
theorem cells_at {xs : List Int} {k : Nat} (hk : k < (cellsR xs).length) : ∃ j, j < 64 ∧ (cellsR xs)[k]? = some (cellI j) := by
  have hm : (cellsR xs)[k] ∈ cellsR xs := List.getElem_mem hk
  rw [List.getElem?_eq_getElem hk]
  generalize (cellsR xs)[k] = q at hm ⊢
  unfold cellsR at hm
  split at hm
  · unfold cellsTo at hm
    obtain ⟨j, hj, e⟩ := List.mem_map.1 hm
    exact ⟨j, List.mem_range.1 (List.mem_filter.1 hj).1, congrArg some e.symm⟩
  · cases hm
theorem res_step {xs : List Int} {M : Nat → Bool} {k : Nat} (hk : k < (cellsR xs).length) : ∃ u, u < 100 ∧ (cellsR xs)[k]? = some (plC u) ∧ (M u = true ∧ resTo M (cellsR xs) (k + 1) = resTo M (cellsR xs) k ++ [plC u] ∨ M u = false ∧ resTo M (cellsR xs) (k + 1) = resTo M (cellsR xs) k) := by
  obtain ⟨j, hj, e⟩ := cells_at hk
  refine ⟨io j, (io_lt hj).1, by rw [plC_io]; exact e, ?_⟩
  have e2 : (cellsR xs)[k] = cellI j := by rw [List.getElem?_eq_getElem hk] at e; exact Option.some.inj e
  have e3 : resTo M (cellsR xs) (k + 1) = resTo M (cellsR xs) k ++ (if M (io j) then [plC (io j)] else []) := by
    unfold resTo
    rw [List.take_succ_eq_append_getElem hk, List.filter_append, e2, plC_io]
    congr 1
    rw [List.filter_cons, pOf_cellI]
    rfl
  cases q : M (io j)
  · exact .inr ⟨rfl, by rw [e3, q]; simp⟩
  · exact .inl ⟨rfl, by rw [e3, q]; simp⟩
theorem res_all {xs : List Int} (ho : okR xs) {a : Nat} {M : Nat → Bool} (h : ∀ i, i < 64 → M (io i) = (bitI xs i && sameP xs a i)) : resTo M (cellsR xs) (cellsR xs).length = pieceTo xs a 64 := by
  unfold resTo
  rw [List.take_length, cellsR_ok ho]
  unfold cellsTo pieceTo
  show List.filter _ (List.map cellI _) = List.map cellI _
  rw [List.filter_map, List.filter_filter]
  congr 1
  refine List.filter_congr (fun j hj => ?_)
  show ((M (pOf (cellI j))) && bitI xs j) = (bitI xs j && sameP xs a j)
  rw [pOf_cellI, h j (List.mem_range.1 hj)]
  cases bitI xs j <;> cases sameP xs a j <;> rfl
theorem has_index {xs : List Int} {x y : Int} (h : hasB xs x y = true) : ∃ a, a < 64 ∧ a = 8 * y.toNat + x.toNat ∧ x = (plC (io a)).1 ∧ y = (plC (io a)).2 ∧ bitI xs a = true := by
  obtain ⟨ho, x0, x7, y0, y7, b⟩ := hasB_iff.1 h
  refine ⟨8 * y.toNat + x.toNat, by omega, rfl, ?_, ?_, ?_⟩
  · rw [plC_io]; unfold cellI; simp only; omega
  · rw [plC_io]; unfold cellI; simp only; omega
  · unfold bitI
    rw [show (8 * y.toNat + x.toNat) / 8 = y.toNat by omega, show (8 * y.toNat + x.toNat) % 8 = x.toNat by omega]
    exact b

set_option maxRecDepth 100000 in
set_option maxHeartbeats 4000000 in
theorem iPieceOf (w : World) (A : Option Addr) (n cap B : Nat) (xs : List Int) (hx : xs.length = n) (hn : (n : Int) ≤ 9223372036854775807) (h : RowB w B A xs) (hB : B ≤ w.heap.size) (x y : Int) :
    Calls Try.prog 19 #[.agg #[.slice A n cap], .agg #[.int .i64 x, .int .i64 y]] w (NbPost (pieceR xs x y) w) := by
  obtain ⟨i0, hi, hz0, hz1, hz2⟩ := info_parts cellInfo
  have T0 := Lib.hid (fun T T' => rc_start (T := T) (T' := T') (.slice A n cap) x y w)
  have HH := Lib.hid (fun W (hb : Below w.heap.size w W) => iHasCell W A n cap B xs hx hn (h.below hb hB) (by have := hb.size; omega) x y)
  have HC := Lib.hid (fun W (hb : Below w.heap.size w W) => iCellsOf W A n cap B xs hx hn (h.below hb hB) (by have := hb.size; omega))
  cases hhas : hasB xs x y with
  | false =>
    have HE := Lib.hid (show pieceR xs x y = [] by unfold pieceR; rw [hhas]; rfl)
    rw [hhas] at HH
    clear hhas hx hn h HC
    go_enter Try.func19, Try.ntmps19
    go_wp2_with fail
    have T1 := T0.out 26 34
    refine (HH.out _ T1.1).mono ?_
    rintro e w1 ⟨rfl, hb1⟩
    have hbw := (T1.on hb1).1
    clear T0 T1 hb1 HH
    go_wp2
    go_ret
    rw [HE.out]
    exact ⟨none, 0, rfl, ⟨rfl, .inl ⟨rfl, rfl⟩⟩, hbw⟩
  | true =>
    obtain ⟨ho, _⟩ := hasB_iff.1 hhas
    obtain ⟨a, ha, hae, hax, hay, hbit⟩ := has_index hhas
    have HE := Lib.hid (show ∀ M', Spr xs true (fun _ => false) (io a) M' → pieceR xs x y = resTo M' (cellsR xs) (cellsR xs).length by
      intro M' hs
      unfold pieceR
      rw [if_pos hhas, ← hae]
      exact (res_all ho (fun i hi => Spr.piece ha hbit hs hi)).symm)
    have HSp := Lib.hid (fun W b (hb : Below w.heap.size w W) (hbb : w.heap.size ≤ b) (hM : Mks W b (fun _ => false)) => spread A n cap xs hx hn ho true (openN (fun _ => false)) W b (io a) (fun _ => false) x y (Nat.le_refl _) (io_lt ha).1 rfl (by unfold clsF; rw [cR_io xs ha, hbit]; rfl) hM ((h.below hb hB).mono (by omega)) hax hay)
    have HSt := Lib.hid (fun M (k : Nat) (hk : k < (cellsR xs).length) => res_step (xs := xs) (M := M) hk)
    have HL := cellsR_length xs
    rw [hhas] at HH
    clear hhas hx hn h ho ha hae hax hay hbit
    generalize cellsR xs = L at HC HE HSt HL
    go_enter Try.func19, Try.ntmps19
    go_wp2_with fail
    have T1 := T0.out 26 34
    refine (HH.out _ T1.1).mono ?_
    rintro e w1 ⟨rfl, hb1⟩
    have T2 := T1.on hb1
    clear T0 T1 hb1 HH
    have T3 := T2.on (below_alloc1 w1 (.cells Try.zeroCells63 63))
    have HM := Lib.hid (mks_new w1)
    obtain ⟨hb3, hsz3, cr, cx, cy⟩ := id T3
    have hsz1 : w.heap.size + 2 ≤ w1.heap.size := T2.2.1
    clear T2
    go_wp2_with fail
    refine (HSp.out _ w1.heap.size hb3 (by omega) HM.out).mono ?_
    rintro e w2 ⟨rfl, M', hs, hM, ha⟩
    have HE' := Lib.hid (HE.out M' hs)
    have hlt := HM.out.lt
    have hw2 : Below w.heap.size w w2 := hb3.trans (ha.below (by omega) (by omega))
    have hcr : w2.cell? ⟨w.heap.size, 0, none⟩ = some (.slice A n cap) := (ha.cell (by show w.heap.size < _; omega) (.inl (by show w.heap.size < w1.heap.size; omega))).trans cr
    have hm2 := hM.lt
    generalize w1.heap.size = bm at hM hm2 ⊢
    clear T3 HM hb3 hsz3 cr cx cy hsz1 hs ha hlt HSp HE
    go_wp2_with fail
    refine (HC.out _ hw2).mono ?_
    rintro e w3 ⟨A1, cap1, rfl, hown, hb3⟩
    have hw3 := hw2.trans (hb3.mono hw2.size)
    have HM3 := Lib.hid (hM.on hb3)
    have HR3 := Lib.hid (rowC_own hown)
    have HA3 := Lib.hid (fun (b off : Nat) (e : A1 = some ⟨b, off, none⟩) => (hown.lt b (by rw [e]; rfl)).2)
    obtain ⟨m, hm⟩ : ∃ m, m = L.length := ⟨_, rfl⟩
    have hbm : bm < w3.heap.size := by have := hb3.size; omega
    have HNil := Lib.hid (World.ownsRow_nil w3 w3.heap.size 34 2)
    have HW3 := Lib.hid hw3
    have HRl := Lib.hid (fun k => resTo_length M' L k)
    have HR0 := Lib.hid (show resTo M' L 0 = [] from rfl)
    have HSt' := Lib.hid (fun k hk => HSt.out M' k hk)
    rw [← hm] at HSt' HL HE' ⊢
    clear hM hm2 hown hb3 hw2 hw3 hcr HC HSt hm
    go_wp2_with fail
    go_loopw [6, 19] (fun s i wr => ∃ k : Nat, k ≤ m ∧ i = .int .i64 k ∧ wr.ownsRow w3.heap.size 34 2 s (resTo M' L k).length (rowC (resTo M' L k)) ∧ Below w3.heap.size w3 wr) (fun _ i _ => m - (intOf i).toNat)
    case atStart => exact ⟨0, Nat.zero_le _, rfl, by rw [HR0.out]; exact HNil.out, Below.refl _ _⟩
    case round =>
      clear HNil HR0
      obtain ⟨k, hk, rfl, hown, hb⟩ := hrel
      have HO := Lib.hid hown
      by_cases hlt : k < m
      · obtain ⟨u, hu, hLk, hstep⟩ := HSt'.out k hlt
        obtain ⟨q, off, h1, h2⟩ := HR3.out.below hb (fun b off e => HA3.out b off e)
        obtain ⟨rfl, hqb⟩ := h1 (by rcases Nat.eq_zero_or_pos L.length with h0 | h0; rw [List.eq_nil_of_length_eq_zero h0] at hLk; simp at hLk; exact h0)
        obtain ⟨c0, c1⟩ := h2 k _ hLk
        obtain ⟨x', hx'⟩ : ∃ x', x' = (plC u).1 := ⟨_, rfl⟩
        obtain ⟨y', hy'⟩ : ∃ y', y' = (plC u).2 := ⟨_, rfl⟩
        rw [← hx'] at c0
        rw [← hy'] at c1
        have HX := Lib.hid (And.intro hx' hy')
        have HStep := Lib.hid hstep
        have hbs := hb.size
        clear h1 h2 hLk hstep hx' hy' hown
        go_wp2_with fail
        refine (mHas' _ bm M' (HM3.out.below (hb.trans ((below_alloc1 wr _).mono hbs)) hbm) u hu x' y' HX.out.1 HX.out.2).mono ?_
        rintro e w4 ⟨rfl, hb4⟩
        have hbl := heap_alloc_new wr (.cells #[.int .i64 x', .int .i64 y'] 34)
        have hn0 : w4.cell? ⟨wr.heap.size, 0, none⟩ = some (.int .i64 x') := (hb4.cell (by simp)).trans ((cell_of_row _ _ 0 _ _ _ hbl).trans rfl)
        have hn1 : w4.cell? ⟨wr.heap.size, 1, none⟩ = some (.int .i64 y') := (hb4.cell (by simp)).trans ((cell_of_row _ _ 1 _ _ _ hbl).trans rfl)
        have hE : Below wr.heap.size wr w4 := (below_alloc1 wr _).trans (hb4.mono (by simp))
        have hz : wr.heap.size < w4.heap.size := by have := hb4.size; simp at this; omega
        have HO2 := Lib.hid (own_below HO.out hE (Nat.le_refl _))
        have hb' := hb.trans (hE.mono hbs)
        have HLk := Lib.hid (HRl.out k)
        have HXv := Lib.hid (show plC u = (x', y') from Prod.ext HX.out.1.symm HX.out.2.symm)
        clear hbl hb4 hE HO c0 c1 hb
        rcases HStep.out with ⟨hMu, hN⟩ | ⟨hMu, hN⟩
        · have HN := Lib.hid hN
          rw [hMu]
          clear hN hMu HStep
          go_wp2_with (first
            | (at_builtin; refine wpList_append_own _ rfl _ _ 31 rfl w3.heap.size 34 i0 (.agg #[.int .i64 0, .int .i64 0]) 2 16 Try.underlying31 hi hz0 hz1 hz2 rfl (by decide) _ (resTo M' L k).length (rowC (resTo M' L k)) rfl (HO2.out.alloc _) ⟨w4.heap.size, 0, none⟩ 1 1 [.int .i64 x', .int .i64 y'] rfl rfl (World.news_of_block (cs := #[.int .i64 x', .int .i64 y']) (t := 34) (fr := (0, 0)) (heap_alloc_new w4 _)) (by simp [Value.oneCell']) (by have := HLk.out; unfold maxLen; omega) (by have := HLk.out; omega) (by simp; omega) ?_; intro v2 w5 hown5 hgrow _))
          have hb5 : Below w3.heap.size w3 w5 := (hb'.alloc (by omega) _).grown hgrow (by simp; omega) (fun g hg => (HO2.out.lt g hg).1)
          have R := Lib.hid (show w5.ownsRow w3.heap.size 34 2 v2 (resTo M' L (k + 1)).length (rowC (resTo M' L (k + 1))) by
            rw [HN.out, rowC_snoc, List.length_append, HXv.out]; exact hown5)
          clear hown5 hgrow
          go_wp2
          go_roundw
          case rel => exact ⟨k + 1, by omega, by go_num, R.out, hb5⟩
          case measure => (simp [intOf] <;> omega)
        · have HN := Lib.hid hN
          rw [hMu]
          clear hN hMu HStep
          go_wp2
          go_roundw
          case rel => exact ⟨k + 1, by omega, by go_num, by rw [HN.out]; exact HO2.out, hb'⟩
          case measure => (simp [intOf] <;> omega)
      · obtain rfl : k = m := by omega
        obtain ⟨A', cap', rfl⟩ := own_shape hown
        have hbe := HW3.out.trans (hb.mono HW3.out.size)
        clear hown hb
        go_wp2
        go_ret
        rw [HE'.out]
        exact ⟨A', cap', rfl, own_base HO.out HW3.out.size, hbe⟩
end Go.Proofs.Ytocjnplbjdpieaa.Flo
