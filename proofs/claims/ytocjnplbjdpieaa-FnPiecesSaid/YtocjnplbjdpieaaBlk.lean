/- More black cells than white ones: the program's functions and the model's. -/
import Derived.Test.YtocjnplbjdpieaaRegCl
import Derived.Test.YtocjnplbjdpieaaCellF
namespace Go.Proofs.Ytocjnplbjdpieaa.Flo
set_option linter.unusedVariables false
open Go.RowKit Go.Proofs.Ytocjnplbjdpieaa.Base Go.Proofs.Ytocjnplbjdpieaa.Pure Go.Proofs.Ytocjnplbjdpieaa.Cell Go.Proofs.Ytocjnplbjdpieaa.CellF Go.Proofs.Ytocjnplbjdpieaa.Reg Go.Proofs.Ytocjnplbjdpieaa.Cels Go.Joins

/-- black cells minus white ones, of the first k of a list. -/
def excTo (L : List (Int × Int)) : Nat → Int
  | 0 => 0
  | k + 1 => if blackB (L.getD k (0, 0)).1 (L.getD k (0, 0)).2 then excTo L k + 1 else excTo L k - 1
theorem excTo_le (L : List (Int × Int)) : ∀ k : Nat, -(k : Int) ≤ excTo L k ∧ excTo L k ≤ k
  | 0 => ⟨Int.le_refl _, Int.le_refl _⟩
  | k + 1 => by
    have := excTo_le L k
    unfold excTo
    split <;> omega
theorem excTo_step {L : List (Int × Int)} {k : Nat} {p : Int × Int} (h : L[k]? = some p) : blackB p.1 p.2 = true ∧ excTo L (k + 1) = excTo L k + 1 ∨ blackB p.1 p.2 = false ∧ excTo L (k + 1) = excTo L k - 1 := by
  have e : L.getD k (0, 0) = p := by simp [List.getD, h]
  cases q : blackB p.1 p.2
  · exact .inr ⟨rfl, by show (if blackB (L.getD k (0, 0)).1 (L.getD k (0, 0)).2 then _ else _) = _; rw [e, q]; rfl⟩
  · exact .inl ⟨rfl, by show (if blackB (L.getD k (0, 0)).1 (L.getD k (0, 0)).2 then _ else _) = _; rw [e, q]; rfl⟩
def excR (xs : List Int) : Int := excTo (cellsR xs) (cellsR xs).length
theorem excR_le (xs : List Int) : -64 ≤ excR xs ∧ excR xs ≤ 64 := by
  have h1 := excTo_le (cellsR xs) (cellsR xs).length
  have h2 := cellsR_length xs
  unfold excR
  omega
def balB (xs : List Int) : Bool := decide (okR xs ∧ excR xs = 0)
theorem balB_iff {xs : List Int} : balB xs = true ↔ okR xs ∧ excR xs = 0 := by unfold balB; simp

set_option maxRecDepth 100000 in
set_option maxHeartbeats 2000000 in
theorem iBlackExcess (w : World) (A : Option Addr) (n cap B : Nat) (xs : List Int) (hx : xs.length = n) (hn : (n : Int) ≤ 9223372036854775807) (h : RowB w B A xs) (hB : B ≤ w.heap.size) :
    Calls Try.prog 23 #[.agg #[.slice A n cap]] w (Num (excR xs) w) := by
  have HC := Lib.hid (fun W (hb : Below w.heap.size w W) => iCellsOf W A n cap B xs hx hn (h.below hb hB) (by have := hb.size; omega))
  have T0 := Lib.hid (fun T => rb_start (T := T) (.slice A n cap) w)
  have HE := Lib.hid (show excR xs = excTo (cellsR xs) (cellsR xs).length from rfl)
  have HL := cellsR_length xs
  clear hx hn h
  generalize cellsR xs = L at HC HE HL
  go_enter Try.func23, Try.ntmps23
  go_wp2_with fail
  have T1 := T0.out 26
  clear T0
  refine (HC.out _ T1.1).mono ?_
  rintro e w1 ⟨A1, cap1, rfl, hown, hb1⟩
  have hb := T1.1.trans (hb1.mono T1.1.size)
  have HO := Lib.hid hown
  obtain ⟨m, hm⟩ : ∃ m, m = L.length := ⟨_, rfl⟩
  rw [← hm] at HO HE HL ⊢
  clear hown hb1 HC T1
  go_wp2_with fail
  go_loopw [3, 9] (fun s i wr => ∃ k : Nat, k ≤ m ∧ i = .int .i64 k ∧ s = .int .i64 (excTo L k) ∧ Below w.heap.size w wr ∧ RowC wr A1 L ∧ (∀ b off : Nat, A1 = some ⟨b, off, none⟩ → b < w1.heap.size) ∧ w1.heap.size ≤ wr.heap.size) (fun _ i _ => m - (intOf i).toNat)
  case atStart => exact ⟨0, Nat.zero_le _, rfl, rfl, hb, rowC_own HO.out, (fun b off e => (HO.out.lt b (by rw [e]; rfl)).2), Nat.le_refl _⟩
  case round =>
    clear hb HO
    obtain ⟨k, hk, rfl, rfl, hb, hrow, hA, hsz⟩ := hrel
    by_cases hlt : k < m
    · have hlt' : k < L.length := by omega
      obtain ⟨q, off, h1, h2⟩ := id hrow
      obtain ⟨rfl, hqb⟩ := h1 (by omega)
      obtain ⟨c0, c1⟩ := h2 k L[k] (List.getElem?_eq_getElem hlt')
      have hst := excTo_step (List.getElem?_eq_getElem hlt')
      have HRow := Lib.hid hrow
      have HA := Lib.hid hA
      have hle := excTo_le L k
      have hq1 := hA q off rfl
      generalize L[k].1 = x at c0 c1 hst
      generalize L[k].2 = y at c0 c1 hst
      generalize excTo L k = ex at hst hle ⊢
      clear h1 h2 hrow hA
      go_wp2_with fail
      refine (iIsBlack x y _).mono ?_
      rintro e w2 ⟨rfl, hb2⟩
      have hb12 : Below wr.heap.size wr w2 := (below_alloc1 wr _).trans (hb2.mono (by simp))
      have hb' := hb.trans (hb12.mono hb.size)
      have hz2 := hb12.size
      have HRow2 := Lib.hid (HRow.out.below hb12 (fun b o e => by have := HA.out b o e; omega))
      clear hb2 hb12 HRow c0 c1
      rcases hst with ⟨hbk, hst⟩ | ⟨hbk, hst⟩
      · rw [hbk]
        clear hbk
        go_wp2
        go_roundw
        case rel => exact ⟨k + 1, by omega, by go_num, by rw [hst], hb', HRow2.out, HA.out, by omega⟩
        case measure => (simp [intOf] <;> omega)
      · rw [hbk]
        clear hbk
        go_wp2
        go_roundw
        case rel => exact ⟨k + 1, by omega, by go_num, by rw [hst], hb', HRow2.out, HA.out, by omega⟩
        case measure => (simp [intOf] <;> omega)
    · obtain rfl : k = m := by omega
      clear hrow hA
      go_wp2
      go_ret
      exact mkNum HE.out.symm hb

set_option maxRecDepth 100000 in
set_option maxHeartbeats 2000000 in
theorem sBlackExcess (w : World) (A : Option Addr) (n cap B : Nat) (xs : List Int) (hx : xs.length = n) (hn : (n : Int) ≤ 9223372036854775807) (h : RowB w B A xs) (hB : B ≤ w.heap.size) :
    Calls Try.prog 25 #[.agg #[.slice A n cap]] w (Num (excR xs) w) := by
  have HC := Lib.hid (fun W (hb : Below w.heap.size w W) => sCellsOf W A n cap B xs hx hn (h.below hb hB) (by have := hb.size; omega))
  have T0 := Lib.hid (fun T => rb_start (T := T) (.slice A n cap) w)
  have HE := Lib.hid (show excR xs = excTo (cellsR xs) (cellsR xs).length from rfl)
  have HL := cellsR_length xs
  clear hx hn h
  generalize cellsR xs = L at HC HE HL
  go_enter Try.func25, Try.ntmps25
  go_wp2_with fail
  have T1 := T0.out 26
  clear T0
  refine (HC.out _ T1.1).mono ?_
  rintro e w1 ⟨A1, cap1, rfl, hown, hb1⟩
  have hb := T1.1.trans (hb1.mono T1.1.size)
  have HO := Lib.hid hown
  obtain ⟨m, hm⟩ : ∃ m, m = L.length := ⟨_, rfl⟩
  rw [← hm] at HO HE HL ⊢
  clear hown hb1 HC T1
  go_wp2_with fail
  go_loopw [3, 5] (fun s i wr => ∃ k : Nat, k ≤ m ∧ i = .int .i64 k ∧ s = .int .i64 (excTo L k) ∧ Below w.heap.size w wr ∧ RowC wr A1 L ∧ (∀ b off : Nat, A1 = some ⟨b, off, none⟩ → b < w1.heap.size) ∧ w1.heap.size ≤ wr.heap.size) (fun _ i _ => m - (intOf i).toNat)
  case atStart => exact ⟨0, Nat.zero_le _, rfl, rfl, hb, rowC_own HO.out, (fun b off e => (HO.out.lt b (by rw [e]; rfl)).2), Nat.le_refl _⟩
  case round =>
    clear hb HO
    obtain ⟨k, hk, rfl, rfl, hb, hrow, hA, hsz⟩ := hrel
    by_cases hlt : k < m
    · have hlt' : k < L.length := by omega
      obtain ⟨q, off, h1, h2⟩ := id hrow
      obtain ⟨rfl, hqb⟩ := h1 (by omega)
      obtain ⟨c0, c1⟩ := h2 k L[k] (List.getElem?_eq_getElem hlt')
      have hst := excTo_step (List.getElem?_eq_getElem hlt')
      have HRow := Lib.hid hrow
      have HA := Lib.hid hA
      have hle := excTo_le L k
      have hq1 := hA q off rfl
      generalize L[k].1 = x at c0 c1 hst
      generalize L[k].2 = y at c0 c1 hst
      generalize excTo L k = ex at hst hle ⊢
      clear h1 h2 hrow hA
      go_wp2_with fail
      refine (sIsBlack x y _).mono ?_
      rintro e w2 ⟨rfl, hb2⟩
      have hb' := hb.trans (hb2.mono hb.size)
      have hz2 := hb2.size
      have HRow2 := Lib.hid (HRow.out.below hb2 (fun b o e => by have := HA.out b o e; omega))
      clear hb2 HRow c0 c1
      rcases hst with ⟨hbk, hst⟩ | ⟨hbk, hst⟩
      · rw [hbk]
        clear hbk
        go_wp2
        go_roundw
        case rel => exact ⟨k + 1, by omega, by go_num, by rw [hst], hb', HRow2.out, HA.out, by omega⟩
        case measure => (simp [intOf] <;> omega)
      · rw [hbk]
        clear hbk
        go_wp2
        go_roundw
        case rel => exact ⟨k + 1, by omega, by go_num, by rw [hst], hb', HRow2.out, HA.out, by omega⟩
        case measure => (simp [intOf] <;> omega)
    · obtain rfl : k = m := by omega
      clear hrow hA
      go_wp2
      go_ret
      exact mkNum HE.out.symm hb

set_option maxRecDepth 100000 in
set_option maxHeartbeats 1000000 in
theorem iIsBalanced (w : World) (A : Option Addr) (n cap B : Nat) (xs : List Int) (hx : xs.length = n) (hn : (n : Int) ≤ 9223372036854775807) (h : RowB w B A xs) (hB : B ≤ w.heap.size) :
    Calls Try.prog 22 #[.agg #[.slice A n cap]] w (Bol (balB xs) w) := by
  have HOk := Lib.hid (fun W (hb : Below w.heap.size w W) => iRegionOk W A n cap B xs hx hn (h.below hb hB) (by have := hb.size; omega))
  have HEx := Lib.hid (fun W (hb : Below w.heap.size w W) => iBlackExcess W A n cap B xs hx hn (h.below hb hB) (by have := hb.size; omega))
  have T0 := Lib.hid (fun T => rb_start (T := T) (.slice A n cap) w)
  have HV := Lib.hid (show balB xs = (okRB xs && decide (excR xs = 0)) by rw [Bool.eq_iff_iff, balB_iff]; simp [okRB_iff])
  clear hx hn h
  generalize excR xs = ex at HEx HV
  go_enter Try.func22, Try.ntmps22
  go_wp2_with fail
  have T1 := T0.out 26
  clear T0
  refine (HOk.out _ T1.1).mono ?_
  rintro e w1 ⟨rfl, hb1⟩
  have T2 := T1.on hb1
  clear T1 hb1 HOk
  obtain ⟨hbw, _, c0⟩ := id T2
  cases hok : okRB xs with
  | false =>
    rw [hok] at HV
    clear hok T2 HEx
    go_wp2
    go_ret
    exact mkBol (by rw [HV.out]; rfl) hbw
  | true =>
    rw [hok] at HV
    clear hok
    go_wp2_with fail
    refine (HEx.out _ hbw).mono ?_
    rintro e w2 ⟨rfl, hb2⟩
    have hb := (T2.on hb2).1
    clear hb2 HEx T2 c0 hbw
    by_cases h0 : ex = 0
    · subst h0
      go_wp2
      go_ret
      exact mkBol (by rw [HV.out]; rfl) hb
    · go_wp2
      go_ret
      exact mkBol (by rw [HV.out]; simp [h0]) hb

set_option maxRecDepth 100000 in
set_option maxHeartbeats 1000000 in
theorem sIsBalanced (w : World) (A : Option Addr) (n cap B : Nat) (xs : List Int) (hx : xs.length = n) (hn : (n : Int) ≤ 9223372036854775807) (h : RowB w B A xs) (hB : B ≤ w.heap.size) :
    Calls Try.prog 28 #[.agg #[.slice A n cap]] w (Bol (balB xs) w) := by
  have HOk := Lib.hid (fun W (hb : Below w.heap.size w W) => sRegionOk W A n cap B xs hx hn (h.below hb hB) (by have := hb.size; omega))
  have HEx := Lib.hid (fun W (hb : Below w.heap.size w W) => sBlackExcess W A n cap B xs hx hn (h.below hb hB) (by have := hb.size; omega))
  have T0 := Lib.hid (fun T => rb_start (T := T) (.slice A n cap) w)
  have HV := Lib.hid (show balB xs = (okRB xs && decide (excR xs = 0)) by rw [Bool.eq_iff_iff, balB_iff]; simp [okRB_iff])
  clear hx hn h
  generalize excR xs = ex at HEx HV
  go_enter Try.func28, Try.ntmps28
  go_wp2_with fail
  have T1 := T0.out 26
  clear T0
  refine (HOk.out _ T1.1).mono ?_
  rintro e w1 ⟨rfl, hb1⟩
  have T2 := T1.on hb1
  clear T1 hb1 HOk
  obtain ⟨hbw, _, c0⟩ := id T2
  cases hok : okRB xs with
  | false =>
    rw [hok] at HV
    clear hok T2 HEx
    go_wp2
    go_ret
    exact mkBol (by rw [HV.out]; rfl) hbw
  | true =>
    rw [hok] at HV
    clear hok
    go_wp2_with fail
    refine (HEx.out _ hbw).mono ?_
    rintro e w2 ⟨rfl, hb2⟩
    have hb := (T2.on hb2).1
    clear hb2 HEx T2 c0 hbw
    by_cases h0 : ex = 0
    · subst h0
      go_wp2
      go_ret
      exact mkBol (by rw [HV.out]; rfl) hb
    · go_wp2
      go_ret
      exact mkBol (by rw [HV.out]; simp [h0]) hb
end Go.Proofs.Ytocjnplbjdpieaa.Flo
