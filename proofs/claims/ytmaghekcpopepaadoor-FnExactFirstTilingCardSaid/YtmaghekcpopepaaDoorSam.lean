/- SameDominoes: the program's and the model's: the same dominoes in the same order. -/
import Derived.Test.YtmaghekcpopepaaDoorMgTil
namespace Go.Proofs.YtmaghekcpopepaaDoor.Sam
set_option linter.unusedVariables false
set_option linter.unusedSimpArgs false
open Go.RowKit Go.Proofs.YtmaghekcpopepaaDoor.Base Go.Proofs.YtmaghekcpopepaaDoor.Pure Go.Proofs.YtmaghekcpopepaaDoor.Cell Go.Proofs.YtmaghekcpopepaaDoor.Dom Go.Proofs.YtmaghekcpopepaaDoor.Dms Go.Proofs.YtmaghekcpopepaaDoor.Til Go.Joins
open Go.Proofs.YtmaghekcpopepaaDoor.Reg hiding Yes add_none

def sameD (L M : List Dm) : Bool := decide (L = M)
theorem sameD_len {L M : List Dm} (h : L.length ≠ M.length) : sameD L M = false := by unfold sameD; rw [decide_eq_false_iff_not]; rintro rfl; exact h rfl
theorem sameD_no {L M : List Dm} {k : Nat} (h1 : k < L.length) (h2 : k < M.length) (h : L[k] ≠ M[k]) : sameD L M = false := by unfold sameD; rw [decide_eq_false_iff_not]; rintro rfl; exact h rfl
theorem sameD_yes {L M : List Dm} (hl : L.length = M.length) (h : ∀ j (h1 : j < L.length) (h2 : j < M.length), L[j] = M[j]) : sameD L M = true := by
  unfold sameD; rw [decide_eq_true_eq]; exact List.ext_getElem hl (fun i h1 h2 => h i h1 h2)

set_option maxRecDepth 100000 in
set_option maxHeartbeats 1000000 in
theorem sSame (w : World) (A A' : Option Addr) (n n' cap cap' B B' : Nat) (L M : List Dm) (hx : L.length = n) (hx' : M.length = n') (hl : (n : Int) ≤ 9223372036854775807) (hl' : (n' : Int) ≤ 9223372036854775807) (h1 : RowM w B A L) (h2 : RowM w B' A' M) (hB : B ≤ w.heap.size) (hB' : B' ≤ w.heap.size) :
    Calls Tryd.prog 52 #[.slice A n cap, .slice A' n' cap'] w (Bol (sameD L M) w) := by
  obtain ⟨b, off, hA, hc⟩ := h1.at
  obtain ⟨b', off', hA', hc'⟩ := h2.at
  have H1 := Lib.hid hA
  have H2 := Lib.hid hA'
  have H3 := Lib.hid hc
  have H4 := Lib.hid hc'
  have HX := Lib.hid hx
  have HX' := Lib.hid hx'
  have HN := Lib.hid (fun h => sameD_len (L := L) (M := M) h)
  have HNo := Lib.hid (fun k h1 h2 h => sameD_no (L := L) (M := M) (k := k) h1 h2 h)
  have HY := Lib.hid (fun hl h => sameD_yes (L := L) (M := M) hl h)
  clear hA hA' hc hc' h1 h2 hx hx'
  generalize sameD L M = r at HN HNo HY ⊢
  by_cases hnn : n = n'
  · subst hnn
    have hne : (((n : Nat) : Int) != ((n : Nat) : Int)) = false := by simp
    go_enter Tryd.func52, Tryd.ntmps52
    go_wp2_with fail
    go_loopw [5] (fun i wr => ∃ k : Nat, k ≤ n ∧ i = .int .i64 k ∧ Below w.heap.size w wr ∧ Hid (∀ j (h1 : j < L.length) (h2 : j < M.length), j < k → L[j] = M[j])) (fun i _ => n - (intOf i).toNat)
    case atStart => exact ⟨0, Nat.zero_le _, rfl, Below.refl _ _, Lib.hid (fun j _ _ h => by omega)⟩
    case round =>
      obtain ⟨k, hk, rfl, hb, hs⟩ := hrel
      have hbs := hb.size
      by_cases hlt : k < n
      · have hkx : k < L.length := by have := HX.out; omega
        have hkx' : k < M.length := by have := HX'.out; omega
        obtain ⟨rfl, hbw⟩ := H1.out (by omega)
        obtain ⟨rfl, hbw'⟩ := H2.out (by omega)
        obtain ⟨c1, c2, c3⟩ := H3.out k hkx
        obtain ⟨d1, d2, d3⟩ := H4.out k hkx'
        have c1' := (hb.cell (p := ⟨b, off + k * 3, none⟩) (by show b < _; omega)).trans c1
        have c2' := (hb.cell (p := ⟨b, off + k * 3 + 1, none⟩) (by show b < _; omega)).trans c2
        have c3' := (hb.cell (p := ⟨b, off + k * 3 + 2, none⟩) (by show b < _; omega)).trans c3
        have d1' := (hb.cell (p := ⟨b', off' + k * 3, none⟩) (by show b' < _; omega)).trans d1
        have d2' := (hb.cell (p := ⟨b', off' + k * 3 + 1, none⟩) (by show b' < _; omega)).trans d2
        have d3' := (hb.cell (p := ⟨b', off' + k * 3 + 2, none⟩) (by show b' < _; omega)).trans d3
        clear c1 c2 c3 d1 d2 d3
        have HNk := Lib.hid (HNo.out k hkx hkx')
        have HSk := Lib.hid (show L[k] = M[k] → Hid (∀ j (h1 : j < L.length) (h2 : j < M.length), j < k + 1 → L[j] = M[j]) from fun e => Lib.hid (fun j h1 h2 h => by
          by_cases q : j = k
          · subst q; exact e
          · exact hs.out j h1 h2 (by omega)))
        generalize L[k] = d at c1' c2' c3' HNk HSk
        generalize M[k] = f at d1' d2' d3' HNk HSk
        obtain ⟨x, y, bb⟩ := d
        obtain ⟨x', y', bb'⟩ := f
        simp only at c1' c2' c3' d1' d2' d3'
        have hb2 : Below w.heap.size w wr.drew := hb.drew
        by_cases q : x = x' ∧ y = y' ∧ bb = bb'
        · obtain ⟨rfl, rfl, rfl⟩ := q
          have hs2 := HSk.out rfl
          clear HSk HNk hs
          go_wp2_with fail
          go_region
          go_wp2
          go_roundw
          case rel => exact ⟨k + 1, by omega, by go_num, hb2, hs2⟩
          case measure => (simp [intOf] <;> omega)
        · have hr : r = false := HNk.out (by intro e; injection e with e1 e2; injection e2 with e2 e3; exact q ⟨e1, e2, e3⟩)
          clear HSk HNk hs
          by_cases e1 : x = x'
          · subst e1
            by_cases e2 : y = y'
            · subst e2
              have e3 : ¬ bb = bb' := fun e => q ⟨rfl, rfl, e⟩
              clear q
              go_wp2_with fail
              go_region
              go_wp2
              go_ret
              exact mkBol hr.symm hb2
            · clear q
              go_wp2_with fail
              go_region
              go_wp2
              go_ret
              exact mkBol hr.symm hb2
          · clear q
            go_wp2_with fail
            go_region
            go_wp2
            go_ret
            exact mkBol hr.symm hb2
      · obtain rfl : k = n := by omega
        have hr : r = true := HY.out (by rw [HX.out, HX'.out]) (fun j h1 h2 => hs.out j h1 h2 (by have := HX.out; omega))
        go_wp2
        go_ret
        exact mkBol hr.symm hb
  · have hne : (((n : Nat) : Int) != ((n' : Nat) : Int)) = true := by simp; omega
    have hr : r = false := HN.out (by rw [HX.out, HX'.out]; exact hnn)
    go_enter Tryd.func52, Tryd.ntmps52
    go_wp2
    go_ret
    exact mkBol hr.symm (Below.refl _ _)
set_option maxRecDepth 100000 in
set_option maxHeartbeats 1000000 in
theorem iEqual (w : World) (A A' : Option Addr) (n n' cap cap' B B' : Nat) (L M : List Dm) (hx : L.length = n) (hx' : M.length = n') (hl : (n : Int) ≤ 9223372036854775807) (hl' : (n' : Int) ≤ 9223372036854775807) (h1 : RowM w B A L) (h2 : RowM w B' A' M) (hB : B ≤ w.heap.size) (hB' : B' ≤ w.heap.size) :
    Calls Tryd.prog 37 #[.slice A n cap, .slice A' n' cap'] w (Bol (sameD L M) w) := by
  obtain ⟨b, off, hA, hc⟩ := h1.at
  obtain ⟨b', off', hA', hc'⟩ := h2.at
  have H1 := Lib.hid hA
  have H2 := Lib.hid hA'
  have H3 := Lib.hid hc
  have H4 := Lib.hid hc'
  have HX := Lib.hid hx
  have HX' := Lib.hid hx'
  have HN := Lib.hid (fun h => sameD_len (L := L) (M := M) h)
  have HNo := Lib.hid (fun k h1 h2 h => sameD_no (L := L) (M := M) (k := k) h1 h2 h)
  have HY := Lib.hid (fun hl h => sameD_yes (L := L) (M := M) hl h)
  clear hA hA' hc hc' h1 h2 hx hx'
  generalize sameD L M = r at HN HNo HY ⊢
  by_cases hnn : n = n'
  · subst hnn
    have hne : (((n : Nat) : Int) != ((n : Nat) : Int)) = false := by simp
    go_enter Tryd.func37, Tryd.ntmps37
    go_wp2_with fail
    go_loopw [13] (fun i wr => ∃ k : Nat, k ≤ n ∧ i = .int .i64 k ∧ Below w.heap.size w wr ∧ Hid (∀ j (h1 : j < L.length) (h2 : j < M.length), j < k → L[j] = M[j])) (fun i _ => n - (intOf i).toNat)
    case atStart => exact ⟨0, Nat.zero_le _, rfl, Below.refl _ _, Lib.hid (fun j _ _ h => by omega)⟩
    case round =>
      obtain ⟨k, hk, rfl, hb, hs⟩ := hrel
      have hbs := hb.size
      by_cases hlt : k < n
      · have hkx : k < L.length := by have := HX.out; omega
        have hkx' : k < M.length := by have := HX'.out; omega
        obtain ⟨rfl, hbw⟩ := H1.out (by omega)
        obtain ⟨rfl, hbw'⟩ := H2.out (by omega)
        obtain ⟨c1, c2, c3⟩ := H3.out k hkx
        obtain ⟨d1, d2, d3⟩ := H4.out k hkx'
        have c1' := (hb.cell (p := ⟨b, off + k * 3, none⟩) (by show b < _; omega)).trans c1
        have c2' := (hb.cell (p := ⟨b, off + k * 3 + 1, none⟩) (by show b < _; omega)).trans c2
        have c3' := (hb.cell (p := ⟨b, off + k * 3 + 2, none⟩) (by show b < _; omega)).trans c3
        have d1' := (hb.cell (p := ⟨b', off' + k * 3, none⟩) (by show b' < _; omega)).trans d1
        have d2' := (hb.cell (p := ⟨b', off' + k * 3 + 1, none⟩) (by show b' < _; omega)).trans d2
        have d3' := (hb.cell (p := ⟨b', off' + k * 3 + 2, none⟩) (by show b' < _; omega)).trans d3
        clear c1 c2 c3 d1 d2 d3
        have HNk := Lib.hid (HNo.out k hkx hkx')
        have HSk := Lib.hid (show L[k] = M[k] → Hid (∀ j (h1 : j < L.length) (h2 : j < M.length), j < k + 1 → L[j] = M[j]) from fun e => Lib.hid (fun j h1 h2 h => by
          by_cases q : j = k
          · subst q; exact e
          · exact hs.out j h1 h2 (by omega)))
        generalize L[k] = d at c1' c2' c3' HNk HSk
        generalize M[k] = f at d1' d2' d3' HNk HSk
        obtain ⟨x, y, bb⟩ := d
        obtain ⟨x', y', bb'⟩ := f
        simp only at c1' c2' c3' d1' d2' d3'
        have hb2 : Below w.heap.size w wr.drew := hb.drew
        by_cases q : x = x' ∧ y = y' ∧ bb = bb'
        · obtain ⟨rfl, rfl, rfl⟩ := q
          have hs2 := HSk.out rfl
          clear HSk HNk hs
          go_wp2_with fail
          go_region
          go_wp2
          go_roundw
          case rel => exact ⟨k + 1, by omega, by go_num, hb2, hs2⟩
          case measure => (simp [intOf] <;> omega)
        · have hr : r = false := HNk.out (by intro e; injection e with e1 e2; injection e2 with e2 e3; exact q ⟨e1, e2, e3⟩)
          clear HSk HNk hs
          by_cases e1 : x = x'
          · subst e1
            by_cases e2 : y = y'
            · subst e2
              have e3 : ¬ bb = bb' := fun e => q ⟨rfl, rfl, e⟩
              clear q
              go_wp2_with fail
              go_region
              go_wp2
              go_ret
              exact mkBol hr.symm hb2
            · clear q
              go_wp2_with fail
              go_region
              go_wp2
              go_ret
              exact mkBol hr.symm hb2
          · clear q
            go_wp2_with fail
            go_region
            go_wp2
            go_ret
            exact mkBol hr.symm hb2
      · obtain rfl : k = n := by omega
        have hr : r = true := HY.out (by rw [HX.out, HX'.out]) (fun j h1 h2 => hs.out j h1 h2 (by have := HX.out; omega))
        go_wp2
        go_ret
        exact mkBol hr.symm hb
  · have hne : (((n : Nat) : Int) != ((n' : Nat) : Int)) = true := by simp; omega
    have hr : r = false := HN.out (by rw [HX.out, HX'.out]; exact hnn)
    go_enter Tryd.func37, Tryd.ntmps37
    go_wp2
    go_ret
    exact mkBol hr.symm (Below.refl _ _)
theorem iSame (w : World) (A A' : Option Addr) (n n' cap cap' B B' : Nat) (L M : List Dm) (hx : L.length = n) (hx' : M.length = n') (hl : (n : Int) ≤ 9223372036854775807) (hl' : (n' : Int) ≤ 9223372036854775807) (h1 : RowM w B A L) (h2 : RowM w B' A' M) (hB : B ≤ w.heap.size) (hB' : B' ≤ w.heap.size) :
    Calls Tryd.prog 12 #[.slice A n cap, .slice A' n' cap'] w (Bol (sameD L M) w) := by
  have HE := Lib.hid (iEqual w A A' n n' cap cap' B B' L M hx hx' hl hl' h1 h2 hB hB')
  generalize sameD L M = r at HE ⊢
  clear hx hx' hl hl' h1 h2 hB hB'
  go_enter Tryd.func12, Tryd.ntmps12
  go_wp2_with fail
  refine HE.out.mono ?_
  rintro e w1 ⟨rfl, hb1⟩
  go_wp2
  go_ret
  exact mkBol rfl hb1
end Go.Proofs.YtmaghekcpopepaaDoor.Sam
