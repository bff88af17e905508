/- SPcs, SHoP in one text. -/
import Derived.Test.YtmajllgfmclcoaaGreatDoorMd15
import Derived.Test.YtmajllgfmclcoaaGreatDoorMd14
import Derived.Test.YtmajllgfmclcoaaGreatDoorMd13
set_option linter.unusedVariables false
set_option linter.unusedSimpArgs false
namespace Go.Proofs.YtmajllgfmclcoaaGreatDoor.Flo
open Go.RowKit Go.Proofs.YtmajllgfmclcoaaGreatDoor.Pure Euler Bal Go.Proofs.YtmajllgfmclcoaaGreatDoor.Cell Reg Cels Go.Joins
theorem anyH_stronger {P : Program} {md : Region.Mode} {ops : Array Oper} {Q : Exit → Act → World → Prop} {S S' : World → Prop} (hS : ∀ w, S' w → S w) : ∀ (fuel : Nat) (listed : Array Bool) (a : Act) (w : World), wpAnyH P md ops Q S' fuel listed a w → wpAnyH P md ops Q S fuel listed a w
 | 0, _, _, _, h => h
 | fuel + 1, _, _, _, h => ⟨h.1, fun i hi => wpOp_mono (fun a' w' h' => ⟨hS _ h'.1, anyH_stronger hS fuel _ a' w' h'.2⟩) (h.2 i hi)⟩
def firstP (xs : List Int) (p : Int × Int) : Bool := leastI xs (8 * p.2.toNat + p.1.toNat)
theorem firstP_at (xs : List Int) (j : Nat) : firstP xs (cellI j) = leastI xs j := by
 unfold firstP cellI
 simp only
 rw [show 8 * ((j / 8 : Nat) : Int).toNat + ((j % 8 : Nat) : Int).toNat = j by omega]
def firstTo (xs : List Int) (L : List (Int × Int)) (k : Nat) : Nat := ((L.take k).filter (firstP xs)).length
theorem first_step {xs : List Int} (ho : okR xs) {k : Nat} (hk : k < (cellsR xs).length) : ∃ j m, (cellsR xs)[k]? = some (cellI j) ∧ j < 64 ∧ hasB xs (cellI j).1 (cellI j).2 = true ∧ (pieceR xs (cellI j).1 (cellI j).2)[0]? = some (cellI m) ∧
  (m = j ∧ firstTo xs (cellsR xs) (k + 1) = firstTo xs (cellsR xs) k + 1 ∨ cellI m ≠ cellI j ∧ firstTo xs (cellsR xs) (k + 1) = firstTo xs (cellsR xs) k) := by
 have hm : (cellsR xs)[k] ∈ cellsR xs := List.getElem_mem hk
 obtain ⟨j, hj, hb, e⟩ : ∃ j, j < 64 ∧ bitI xs j = true ∧ (cellsR xs)[k] = cellI j := by
  generalize (cellsR xs)[k] = q at hm
  rw [cellsR_ok ho] at hm
  unfold cellsTo at hm
  obtain ⟨j, hj, e⟩ := List.mem_map.1 hm
  obtain ⟨h1, h2⟩ := List.mem_filter.1 hj
  exact ⟨j, List.mem_range.1 h1, h2, e.symm⟩
 have hh : hasB xs (cellI j).1 (cellI j).2 = true := by
  unfold cellI
  simp only
  rw [has_at ho (by omega) (by omega)]
  exact hb
 obtain ⟨m, hm64, hp, hml⟩ := piece_first hj hb
 have hpr : pieceR xs (cellI j).1 (cellI j).2 = pieceTo xs j 64 := by
  unfold pieceR
  rw [if_pos hh]
  unfold cellI
  simp only
  rw [show 8 * ((j / 8 : Nat) : Int).toNat + ((j % 8 : Nat) : Int).toNat = j by omega]
 have hst : firstTo xs (cellsR xs) (k + 1) = firstTo xs (cellsR xs) k + (if leastI xs j then 1 else 0) := by
  unfold firstTo
  rw [List.take_succ_eq_append_getElem hk, List.filter_append, List.length_append, e, List.filter_cons, firstP_at]
  cases leastI xs j <;> rfl
 refine ⟨j, m, by rw [List.getElem?_eq_getElem hk, e], hj, hh, by rw [hpr]; exact hp, ?_⟩
 by_cases hmj : m = j
 ·left; exact ⟨hmj, by rw [hst, if_pos (hml.1 hmj)]⟩
 ·right
  refine ⟨fun q => hmj (cellI_inj q), ?_⟩
  have : leastI xs j = false := by
   cases q : leastI xs j
   ·rfl
   ·exact absurd (hml.2 q) hmj
  rw [hst, this]; simp
theorem first_all {xs : List Int} (ho : okR xs) : firstTo xs (cellsR xs) (cellsR xs).length = pcsN xs := by
 unfold firstTo pcsN
 rw [List.take_length, if_pos ho, cellsR_ok ho]
 unfold cellsTo piecesN
 show (List.filter (firstP xs) (List.map cellI _)).length = _
 rw [List.filter_map, List.length_map, List.filter_filter, ← filter_cnt]
 congr 1
 refine List.filter_congr (fun j _ => ?_)
 show (firstP xs (cellI j) && bitI xs j) = (bitI xs j && leastI xs j)
 rw [firstP_at, Bool.and_comm]
theorem firstTo_le (xs : List Int) (L : List (Int × Int)) (k : Nat) : firstTo xs L k ≤ k := by
 unfold firstTo
 exact Nat.le_trans (List.length_filter_le _ _) (by rw [List.length_take]; omega)
set_option maxRecDepth 100000 in
set_option maxHeartbeats 4000000 in
theorem sCountPieces (w : World) (A : Option Addr) (n cap B : Nat) (xs : List Int) (hx : xs.length = n) (hn : (n : Int) ≤ 9223372036854775807) (h : RowB w B A xs) (hB : B ≤ w.heap.size) :
  Calls Tryz.prog 94 #[.agg #[.slice A n cap]] w (Num ((pcsN xs : Nat) : Int) w) := by
 have HC := Lh (fun W (hb : Below w.heap.size w W) => sCellsOf W A n cap B xs hx hn (h.below hb hB) (by have := hb.size; omega))
 have HP := Lh (fun W (hb : Below w.heap.size w W) x y => sPieceOf W A n cap B xs hx hn (h.below hb hB) (by have := hb.size; omega) x y)
 have T0 := Lh (fun T => rb_start (T := T) (.slice A n cap) w)
 have HL := cellsR_length xs
 clear hx hn h
 have HF : Hid (∀ k, k < (cellsR xs).length → okR xs ∧ ∃ j m, (cellsR xs)[k]? = some (cellI j) ∧ j < 64 ∧ hasB xs (cellI j).1 (cellI j).2 = true ∧ (pieceR xs (cellI j).1 (cellI j).2)[0]? = some (cellI m) ∧
  (m = j ∧ firstTo xs (cellsR xs) (k + 1) = firstTo xs (cellsR xs) k + 1 ∨ cellI m ≠ cellI j ∧ firstTo xs (cellsR xs) (k + 1) = firstTo xs (cellsR xs) k)) := Lh (fun k hk => by
   have ho : okR xs := by
    by_cases ho : okR xs
    ·exact ho
    ·rw [cellsR_not ho] at hk; exact absurd hk (by simp)
   exact ⟨ho, first_step ho hk⟩)
 have HE := Lh (show ((pcsN xs : Nat) : Int) = ((firstTo xs (cellsR xs) (cellsR xs).length : Nat) : Int) by
  by_cases ho : okR xs
  ·rw [first_all ho]
  ·unfold pcsN firstTo; rw [if_neg ho, cellsR_not ho]; rfl)
 have HFl := Lh (fun k => firstTo_le xs (cellsR xs) k)
 generalize cellsR xs = L at HC HF HE HL HFl
 go_enter Tryz.func94, Tryz.ntmps94
 go_wp2_with fail
 have T1 := T0.out 26
 clear T0
 refine (HC.out _ T1.1).mono ?_
 rintro e w1 ⟨A1, cap1, rfl, hown, hb1⟩
 have T2 := T1.on hb1
 obtain ⟨m, hm⟩ : ∃ m, m = L.length := ⟨_, rfl⟩
 rw [← hm] at HF HE HL hown ⊢
 have HRow := Lh (rowIn_new hown)
 generalize (w.alloc (.cells #[.slice A n cap] 26)).heap.size = lo at HRow
 generalize w1.heap.size = hi at HRow
 clear hown hb1 T1 HC hm
 go_wp2_with fail
 go_loopw [3, 5] (fun s i wr => ∃ k : Nat, k ≤ m ∧ i = .int .i64 k ∧ s = .int .i64 ((firstTo xs L k : Nat) : Int) ∧ RB w (.slice A n cap) wr ∧ RowIn wr lo hi 79 2 (.slice A1 m cap1) m (rowC L)) (fun _ i _ => m - (intOf i).toNat)
 case atStart => exact ⟨0, Nat.zero_le _, rfl, by unfold firstTo; rfl, T2, HRow.out⟩
 case round =>
  clear T2 HRow
  obtain ⟨k, hk, rfl, rfl, T, hrow⟩ := hrel
  have hle := HFl.out k
  by_cases hlt : k < m
  ·obtain ⟨ho, j, f, hLk, hj, hhas, hp0, hst⟩ := HF.out k hlt
   obtain ⟨nb, c', hv1, _, _⟩ := hrow.1.form (by omega)
   injection hv1 with hA2 hm2 hc2
   subst hA2
   subst hc2
   obtain ⟨hr1, hr2⟩ := rowC_at L k _ hLk
   have HCl := Lh (fun W (h : RowIn W lo hi 79 2 (.slice (some ⟨nb, 0, none⟩) m cap1) m (rowC L)) => And.intro (own_cell h.1 hr1) (own_cell h.1 hr2))
   have HPc := Lh (fun W (hb : Below w.heap.size w W) => HP.out W hb (cellI j).1 (cellI j).2)
   have HP0 := Lh (fun (W : World) (g c : Nat) (h : W.ownsRow 0 79 2 (.slice (some ⟨g, 0, none⟩) (pieceR xs (cellI j).1 (cellI j).2).length c) (pieceR xs (cellI j).1 (cellI j).2).length (rowC (pieceR xs (cellI j).1 (cellI j).2))) => by
    obtain ⟨q1, q2⟩ := rowC_at _ 0 _ hp0
    exact And.intro (own_cell h q1) (own_cell h q2))
   have hpl : 0 < (pieceR xs (cellI j).1 (cellI j).2).length := by
    rcases Nat.eq_zero_or_pos (pieceR xs (cellI j).1 (cellI j).2).length with q | q
    ·rw [List.eq_nil_of_length_eq_zero q] at hp0; simp at hp0
    ·exact q
   have hst' : ((cellI f).1 = (cellI j).1 ∧ (cellI f).2 = (cellI j).2) ∧ Hid (firstTo xs L (k + 1) = firstTo xs L k + 1) ∨ ¬ ((cellI f).1 = (cellI j).1 ∧ (cellI f).2 = (cellI j).2) ∧ Hid (firstTo xs L (k + 1) = firstTo xs L k) := by
    rcases hst with ⟨a, b⟩ | ⟨a, b⟩
    ·subst a; exact .inl ⟨⟨rfl, rfl⟩, Lh b⟩
    ·exact .inr ⟨fun q => a (Prod.ext q.1 q.2), Lh b⟩
   generalize pieceR xs (cellI j).1 (cellI j).2 = PL at HPc HP0 hpl
   generalize (cellI j).1 = x at HCl HPc HP0 hst'
   generalize (cellI j).2 = y at HCl HPc HP0 hst'
   generalize (cellI f).1 = x0 at HP0 hst'
   generalize (cellI f).2 = y0 at HP0 hst'
   generalize firstTo xs L k = fc at hst' hle ⊢
   have HT := Lh T
   have HRw := Lh hrow
   clear hst hp0 hhas hj hLk hr1 hr2 T hrow ho
   have HS := Lh (fun W (h1 : RB w (.slice A n cap) W) (h2 : RowIn W lo hi 79 2 (.slice (some ⟨nb, 0, none⟩) m cap1) m (rowC L)) => show (RB w (.slice A n cap) W ∧ RowIn W lo hi 79 2 (.slice (some ⟨nb, 0, none⟩) m cap1) m (rowC L)) ∧ W.cell? ⟨w.heap.size, 0, none⟩ = some (.slice A n cap) ∧ W.cell? ⟨nb, k * 2, none⟩ = some (.int .i64 x) ∧ W.cell? ⟨nb, k * 2 + 1, none⟩ = some (.int .i64 y) from ⟨⟨h1, h2⟩, h1.2.2, (HCl.out W h2).1, (HCl.out W h2).2⟩)
   go_wp2_with fail
   refine wp_region_noPanic ?_
   refine wp_region_held_drew (S := (fun W => (RB w (.slice A n cap) W ∧ RowIn W lo hi 79 2 (.slice (some ⟨nb, 0, none⟩) m cap1) m (rowC L)) ∧ W.cell? ⟨w.heap.size, 0, none⟩ = some (.slice A n cap) ∧ W.cell? ⟨nb, k * 2, none⟩ = some (.int .i64 x) ∧ W.cell? ⟨nb, k * 2 + 1, none⟩ = some (.int .i64 y))) (by kernel_rfl) (HS.out _ HT.out.drew HRw.out.drew) (fun hHeld => ?_)
   refine tk 0 ?_; try simp only [Act.put, zk]
   refine tk 1 ?_; try simp only [Act.put, zk]
   refine tk 2 ?_; try simp only [Act.put, zk]
   refine tk 3 ?_; try simp only [Act.put, zk]
   refine tk 4 ?_; try simp only [Act.put, zk]
   refine tk 8 ?_; try simp only [Act.put, zk]
   refine tk 9 ?_; try simp only [Act.put, zk]
   refine tk 10 ?_; try simp only [Act.put, zk]
   refine tk 11 ?_; try simp only [Act.put, zk]
   refine tr 5 fun K hK => ?_
   go_simp
   refine (HPc.out _ hHeld.1.1.1).mono ?_
   rintro e wx ⟨Ap, cp, rfl, hownp, hbx⟩
   obtain ⟨gp, cp2, hvp, _, _⟩ := hownp.form hpl
   injection hvp with hAp hmp hcp
   subst hAp
   subst hcp
   obtain ⟨q0, q1⟩ := HP0.out _ _ _ (own_base hownp (Nat.zero_le _))
   go_wp2_with fail
   refine hK.out _ _ (HS.out _ (hHeld.1.1.on hbx) (hHeld.1.2.on hbx)) (fun hHeld => ?_)
   clear hK K
   try simp only [Act.put, zk]
   refine anyH_stronger (S' := (fun W => ((RB w (.slice A n cap) W ∧ RowIn W lo hi 79 2 (.slice (some ⟨nb, 0, none⟩) m cap1) m (rowC L)) ∧ W.cell? ⟨w.heap.size, 0, none⟩ = some (.slice A n cap) ∧ W.cell? ⟨nb, k * 2, none⟩ = some (.int .i64 x) ∧ W.cell? ⟨nb, k * 2 + 1, none⟩ = some (.int .i64 y)) ∧ W.cell? ⟨gp, 0, none⟩ = some (.int .i64 x0) ∧ W.cell? ⟨gp, 1, none⟩ = some (.int .i64 y0))) (fun _ h => h.1) _ _ _ _ ?_
   have hHeld2 := And.intro hHeld (And.intro q0 q1)
   clear hHeld q0 q1 hownp
   refine tk 6 ?_; try simp only [Act.put, zk]
   refine tk 7 ?_; try simp only [Act.put, zk]
   have hfk : (fc : Int) ≤ 64 := by omega
   rcases hst' with ⟨⟨h1, h2⟩, HN⟩ | ⟨hne, HN⟩
   ·subst h1
    subst h2
    refine wpAnyH_take (i := 12) (v := .bool true) rfl (by kernel_rfl) (by kernel_rfl) (by kernel_rfl) (fun _ _ _ h => h) (Or.inl ⟨by rfl, ?_⟩) (by assumption) ?_
    ·(intro w' hS; (try dsimp only at hS); go_simp; try (simp))
    try simp only [Act.put, zk]
    refine wpAnyH_done (by kernel_rfl) (NoPanic.normal ?_) _
    have hend := hHeld2.1.1
    clear hHeld2 HS HCl HPc HP0
    go_wp2
    go_roundw
    case rel => exact ⟨k + 1, by omega, by go_num, by rw [HN.out]; go_num, hend.1, hend.2⟩
    case measure => (simp [intOf] <;> omega)
   ·by_cases h1 : x0 = x
    ·have h2 : y0 ≠ y := fun q => hne ⟨h1, q⟩
     refine wpAnyH_take (i := 12) (v := .bool false) rfl (by kernel_rfl) (by kernel_rfl) (by kernel_rfl) (fun _ _ _ h => h) (Or.inl ⟨by rfl, ?_⟩) (by assumption) ?_
     ·(intro w' hS; (try dsimp only at hS); go_simp; try (rw [if_pos h1, if_neg h2]))
     try simp only [Act.put, zk]
     refine wpAnyH_done (by kernel_rfl) (NoPanic.normal ?_) _
     have hend := hHeld2.1.1
     clear hHeld2 HS HCl HPc HP0
     go_wp2
     go_roundw
     case rel => exact ⟨k + 1, by omega, by go_num, by rw [HN.out], hend.1, hend.2⟩
     case measure => (simp [intOf] <;> omega)
    ·clear hne
     refine wpAnyH_take (i := 12) (v := .bool false) rfl (by kernel_rfl) (by kernel_rfl) (by kernel_rfl) (fun _ _ _ h => h) (Or.inl ⟨by rfl, ?_⟩) (by assumption) ?_
     ·(intro w' hS; (try dsimp only at hS); go_simp; try (rw [if_neg h1]))
     try simp only [Act.put, zk]
     refine wpAnyH_done (by kernel_rfl) (NoPanic.normal ?_) _
     have hend := hHeld2.1.1
     clear hHeld2 HS HCl HPc HP0
     go_wp2
     go_roundw
     case rel => exact ⟨k + 1, by omega, by go_num, by rw [HN.out], hend.1, hend.2⟩
     case measure => (simp [intOf] <;> omega)
  ·obtain rfl : k = m := by omega
   have hb := T.1
   clear T hrow
   go_wp2
   go_ret
   exact mkNum HE.out.symm hb
end Go.Proofs.YtmajllgfmclcoaaGreatDoor.Flo
namespace Go.Proofs.YtmajllgfmclcoaaGreatDoor.Flo
open Go.RowKit Reg Go.Joins
def one01 (b : Bool) : Int := if b then 1 else 0
def markF (M : Nat → Bool) : List Value := rowF 100 fun v => .int .i64 (one01 (M v))
theorem markF_put (M : Nat → Bool) (p : Nat) : (markF M).set p (.int .i64 1) = markF (putM M p) := by
 unfold markF
 rw [rowF_set]
 refine rowF_same (fun i hi => ?_)
 unfold putM
 by_cases e : i = p
 ·subst e; simp [one01]
 ·have : (i == p) = false := by rw [beq_eq_false_iff_ne]; exact e
  rw [if_neg e, this, Bool.or_false]
theorem mark_zero : (madeCells (Value.int .i64 0).cells (100 * 1)).toList = markF (fun _ => false) := by kernel_rfl
def plI (L : List Nat) : List Int := L.map fun (v : Nat) => (v : Int)
theorem plI_at {L : List Nat} {k u : Nat} (h : L[k]? = some u) : (ints (plI L))[k]? = some (.int .i64 (u : Int)) := Reg.ints_at (by unfold plI; rw [List.getElem?_map, h]; rfl)
theorem plI_snoc (L : List Nat) (p : Nat) : ints (plI (L ++ [p])) = ints (plI L) ++ [.int .i64 (p : Int)] := by unfold plI ints; simp
def PO (W1 : World) (sb : Nat) (M : Nat → Bool) (W : World) : Prop :=
 Below sb W1 W ∧ sb < W.heap.size ∧ RowIn W sb (sb + 1) 3 1 (.slice (some ⟨sb, 0, none⟩) 100 100) 100 (markF M)
section
variable {W1 W W' : World} {sb : Nat} {M : Nat → Bool}
theorem PO.on (h : PO W1 sb M W) (hb : Below W.heap.size W W') : PO W1 sb M W' := by
 obtain ⟨a, b, c⟩ := h
 have hz := hb.size
 exact ⟨a.trans (hb.mono (by omega)), by omega, c.on hb⟩
theorem PO.drew (h : PO W1 sb M W) : PO W1 sb M W.drew := ⟨h.1.drew, h.2⟩
theorem PO.cell (h : PO W1 sb M W) {v : Nat} (hv : v < 100) : W.cell? ⟨sb, v, none⟩ = some (.int .i64 (one01 (M v))) := own_cell h.2.2.1 (rowF_at _ hv)
theorem PO.frozen (h : PO W1 sb M W) (v : Nat) : W.frozen? ⟨sb, v, none⟩ = false := h.2.2.1.frozenAt v
end
def PH (W1 : World) (sb lb : Nat) (M : Nat → Bool) (L : List Nat) (lg lc : Nat) (W : World) : Prop :=
 PO W1 sb M W ∧ sb + 1 ≤ lb ∧ lb ≤ W.heap.size ∧ W.ownsRow lb 3 1 (.slice (some ⟨lg, 0, none⟩) L.length lc) L.length (ints (plI L))
section
variable {W1 W W' : World} {sb lb : Nat} {M : Nat → Bool} {L : List Nat} {lg lc : Nat}
theorem PH.on (h : PH W1 sb lb M L lg lc W) (hb : Below W.heap.size W W') : PH W1 sb lb M L lg lc W' := by
 obtain ⟨a, b, c, e⟩ := h
 have hz := hb.size
 exact ⟨a.on hb, b, by omega, own_below e hb NR⟩
theorem PH.lg_lt (h : PH W1 sb lb M L lg lc W) : lb ≤ lg ∧ lg < W.heap.size := h.2.2.2.lt lg rfl
theorem PH.list (h : PH W1 sb lb M L lg lc W) {k u : Nat} (hk : L[k]? = some u) : W.cell? ⟨lg, k, none⟩ = some (.int .i64 (u : Int)) := own_cell h.2.2.2 (plI_at hk)
theorem PH.mark (h : PH W1 sb lb M L lg lc W) (p : Nat) : PH W1 sb lb (putM M p) L lg lc (W.setCell ⟨sb, p, none⟩ (.int .i64 1)) := by
 obtain ⟨⟨a, s, d⟩, b, c, e⟩ := h
 obtain ⟨hst, _⟩ := d.1.stored p (.int .i64 1)
 rw [markF_put] at hst
 exact ⟨⟨a.setCell NR _, by rw [setCell_size]; exact s, ⟨hst, d.2⟩⟩, b, by rw [setCell_size]; exact c, ownsRow_setCell_below e (by show sb < lb; omega) _⟩
theorem PH.app {lg' lc' p : Nat} (h : PH W1 sb lb M L lg lc W) (ho : W'.ownsRow lb 3 1 (.slice (some ⟨lg', 0, none⟩) (L.length + 1) lc') (L.length + 1) (ints (plI L) ++ [.int .i64 (p : Int)])) (hg : W.grownBy W' (some lg)) : PH W1 sb lb M (L ++ [p]) lg' lc' W' := by
 have hl := h.lg_lt
 obtain ⟨⟨a, s, d⟩, b, c, e⟩ := h
 have hz := hg.size
 refine ⟨⟨a.grown hg (by omega) (fun g hg' => by cases hg'; omega), by omega, ⟨d.1.kept hg (.inr (by intro q; simp [Value.ownBlock] at q; omega)), d.2⟩⟩, b, by omega, ?_⟩
 rw [List.length_append, plI_snoc]
 exact ho
theorem own_oneI {e : TypeId} (W : World) (x : Value) : (W.alloc (.cells #[x] e)).ownsRow W.heap.size e 1 (.slice (some ⟨W.heap.size, 0, none⟩) 1 1) 1 [x] :=
 ⟨rfl, .inr ⟨W.heap.size, 1, #[x], rfl, Nat.le_refl _, heap_alloc_new W _, Nat.le_refl _, by unfold maxLen; omega, rfl, rfl⟩⟩
theorem ph_start (h : PO W1 sb M W) (p : Nat) : PH W1 sb W.heap.size (putM M p) [p] W.heap.size 1 ((W.setCell ⟨sb, p, none⟩ (.int .i64 1)).alloc (.cells #[.int .i64 (p : Int)] 3)) := by
 obtain ⟨a, s, d⟩ := h
 obtain ⟨hst, _⟩ := d.1.stored p (.int .i64 1)
 rw [markF_put] at hst
 have hz := setCell_size W ⟨sb, p, none⟩ (.int .i64 1)
 have ho := own_oneI (e := 3) (W.setCell ⟨sb, p, none⟩ (.int .i64 1)) (.int .i64 (p : Int))
 rw [hz] at ho
 refine ⟨⟨(a.setCell NR _).alloc (by rw [hz]; have := a.size; omega) _, by simp [hz]; omega, ⟨hst.alloc _, d.2⟩⟩, by omega, by simp [hz], ho⟩
end
theorem way_in {u d r : Nat} (hu : u < 100) (hr : r < 3) : inTo u (3 * d + r) = true ↔ (0 ≤ ((u % 10 : Nat) : Int) + ((r : Int) - 1) ∧ ((u % 10 : Nat) : Int) + ((r : Int) - 1) ≤ 9) ∧ (0 ≤ ((u / 10 : Nat) : Int) + ((d : Int) - 1) ∧ ((u / 10 : Nat) : Int) + ((d : Int) - 1) ≤ 9) := by
 unfold inTo
 simp only [Bool.and_eq_true, decide_eq_true_eq, show (3 * d + r) / 3 = d by omega, show (3 * d + r) % 3 = r by omega]
 omega
theorem way_to {u d r : Nat} (hu : u < 100) (hr : r < 3) (h : inTo u (3 * d + r) = true) : ((toP u (3 * d + r) : Nat) : Int) = (((u / 10 : Nat) : Int) + ((d : Int) - 1)) * 10 + (((u % 10 : Nat) : Int) + ((r : Int) - 1)) ∧ plC (toP u (3 * d + r)) = (((u % 10 : Nat) : Int) + ((r : Int) - 1) - 1, ((u / 10 : Nat) : Int) + ((d : Int) - 1) - 1) ∧ toP u (3 * d + r) < 100 := by
 have hi := (way_in hu hr).1 h
 have e : ((toP u (3 * d + r) : Nat) : Int) = (((u / 10 : Nat) : Int) + ((d : Int) - 1)) * 10 + (((u % 10 : Nat) : Int) + ((r : Int) - 1)) := by
  unfold toP
  rw [show (3 * d + r) / 3 = d by omega, show (3 * d + r) % 3 = r by omega]
  omega
 refine ⟨e, ?_, by omega⟩
 unfold plC
 exact Prod.ext (by simp only; omega) (by simp only; omega)
theorem way_join {u d r : Nat} (hd : d < 3) (hr : r < 3) (h : inTo u (3 * d + r) = true) : toP u (3 * d + r) ∈ joinF false u := by
 show toP u (3 * d + r) ∈ ringTo u 9
 unfold ringTo
 exact List.mem_map_of_mem (List.mem_filter.2 ⟨List.mem_range.2 (by omega), h⟩)
end Go.Proofs.YtmajllgfmclcoaaGreatDoor.Flo
