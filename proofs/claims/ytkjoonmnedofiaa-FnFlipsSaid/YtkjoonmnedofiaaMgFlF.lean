/- Sam, DrawK, FlF in one text. -/
import Derived.Test.YtkjoonmnedofiaaTilM
import Derived.Test.YtkjoonmnedofiaaMgDrw
import Derived.Test.YtkjoonmnedofiaaCellB
import Derived.Test.YtkjoonmnedofiaaFlpL
import Derived.Test.YtkjoonmnedofiaaMgFAl
import Derived.Test.YtkjoonmnedofiaaMgKin
import Derived.Test.YtkjoonmnedofiaaMgDrQ
import Derived.Test.YtkjoonmnedofiaaMgTiT

/- SameDominoes: the program's and the model's: the same dominoes in the same order. -/
namespace Go.Proofs.Ytkjoonmnedofiaa.Sam
set_option linter.unusedVariables false
set_option linter.unusedSimpArgs false
open Go.RowKit Go.Proofs.Ytkjoonmnedofiaa.Base Go.Proofs.Ytkjoonmnedofiaa.Pure Go.Proofs.Ytkjoonmnedofiaa.Cell Go.Proofs.Ytkjoonmnedofiaa.Dom Go.Proofs.Ytkjoonmnedofiaa.Dms Go.Proofs.Ytkjoonmnedofiaa.Til Go.Joins
open Go.Proofs.Ytkjoonmnedofiaa.Reg hiding Yes add_none

def sameD (L M : List Dm) : Bool := decide (L = M)
theorem sameD_len {L M : List Dm} (h : L.length ≠ M.length) : sameD L M = false := by unfold sameD; rw [decide_eq_false_iff_not]; rintro rfl; exact h rfl
theorem sameD_no {L M : List Dm} {k : Nat} (h1 : k < L.length) (h2 : k < M.length) (h : L[k] ≠ M[k]) : sameD L M = false := by unfold sameD; rw [decide_eq_false_iff_not]; rintro rfl; exact h rfl
theorem sameD_yes {L M : List Dm} (hl : L.length = M.length) (h : ∀ j (h1 : j < L.length) (h2 : j < M.length), L[j] = M[j]) : sameD L M = true := by
  unfold sameD; rw [decide_eq_true_eq]; exact List.ext_getElem hl (fun i h1 h2 => h i h1 h2)

set_option maxRecDepth 100000 in
set_option maxHeartbeats 1000000 in
theorem sSame (w : World) (A A' : Option Addr) (n n' cap cap' B B' : Nat) (L M : List Dm) (hx : L.length = n) (hx' : M.length = n') (hl : (n : Int) ≤ 9223372036854775807) (hl' : (n' : Int) ≤ 9223372036854775807) (h1 : RowM w B A L) (h2 : RowM w B' A' M) (hB : B ≤ w.heap.size) (hB' : B' ≤ w.heap.size) :
    Calls Try.prog 20 #[.slice A n cap, .slice A' n' cap'] w (Bol (sameD L M) w) := by
  obtain ⟨b, off, hA, hc⟩ := h1.at
  obtain ⟨b', off', hA', hc'⟩ := h2.at
  have H1 := Lib.hid hA
  have H2 := Lib.hid hA'
  have H3 := Lib.hid hc
  have H4 := Lib.hid hc'
  have HX := Lib.hid hx
  have HX' := Lib.hid hx'
  have HN := Lib.hid (fun h => sameD_len (L := L) (M := M) h)
  have HNo := Lib.hid (fun k h1 h2 h => sameD_no (L := L) (M := M) (k := k) h1 h2 h)
  have HY := Lib.hid (fun hl h => sameD_yes (L := L) (M := M) hl h)
  clear hA hA' hc hc' h1 h2 hx hx'
  generalize sameD L M = r at HN HNo HY ⊢
  by_cases hnn : n = n'
  · subst hnn
    have hne : (((n : Nat) : Int) != ((n : Nat) : Int)) = false := by simp
    go_enter Try.func20, Try.ntmps20
    go_wp2_with fail
    go_loopw [5] (fun i wr => ∃ k : Nat, k ≤ n ∧ i = .int .i64 k ∧ Below w.heap.size w wr ∧ Hid (∀ j (h1 : j < L.length) (h2 : j < M.length), j < k → L[j] = M[j])) (fun i _ => n - (intOf i).toNat)
    case atStart => exact ⟨0, Nat.zero_le _, rfl, Below.refl _ _, Lib.hid (fun j _ _ h => by omega)⟩
    case round =>
      obtain ⟨k, hk, rfl, hb, hs⟩ := hrel
      have hbs := hb.size
      by_cases hlt : k < n
      · have hkx : k < L.length := by have := HX.out; omega
        have hkx' : k < M.length := by have := HX'.out; omega
        obtain ⟨rfl, hbw⟩ := H1.out (by omega)
        obtain ⟨rfl, hbw'⟩ := H2.out (by omega)
        obtain ⟨c1, c2, c3⟩ := H3.out k hkx
        obtain ⟨d1, d2, d3⟩ := H4.out k hkx'
        have c1' := (hb.cell (p := ⟨b, off + k * 3, none⟩) (by show b < _; omega)).trans c1
        have c2' := (hb.cell (p := ⟨b, off + k * 3 + 1, none⟩) (by show b < _; omega)).trans c2
        have c3' := (hb.cell (p := ⟨b, off + k * 3 + 2, none⟩) (by show b < _; omega)).trans c3
        have d1' := (hb.cell (p := ⟨b', off' + k * 3, none⟩) (by show b' < _; omega)).trans d1
        have d2' := (hb.cell (p := ⟨b', off' + k * 3 + 1, none⟩) (by show b' < _; omega)).trans d2
        have d3' := (hb.cell (p := ⟨b', off' + k * 3 + 2, none⟩) (by show b' < _; omega)).trans d3
        clear c1 c2 c3 d1 d2 d3
        have HNk := Lib.hid (HNo.out k hkx hkx')
        have HSk := Lib.hid (show L[k] = M[k] → Hid (∀ j (h1 : j < L.length) (h2 : j < M.length), j < k + 1 → L[j] = M[j]) from fun e => Lib.hid (fun j h1 h2 h => by
          by_cases q : j = k
          · subst q; exact e
          · exact hs.out j h1 h2 (by omega)))
        generalize L[k] = d at c1' c2' c3' HNk HSk
        generalize M[k] = f at d1' d2' d3' HNk HSk
        obtain ⟨x, y, bb⟩ := d
        obtain ⟨x', y', bb'⟩ := f
        simp only at c1' c2' c3' d1' d2' d3'
        have hb2 : Below w.heap.size w wr.drew := hb.drew
        by_cases q : x = x' ∧ y = y' ∧ bb = bb'
        · obtain ⟨rfl, rfl, rfl⟩ := q
          have hs2 := HSk.out rfl
          clear HSk HNk hs
          go_wp2_with fail
          go_region
          go_wp2
          go_roundw
          case rel => exact ⟨k + 1, by omega, by go_num, hb2, hs2⟩
          case measure => (simp [intOf] <;> omega)
        · have hr : r = false := HNk.out (by intro e; injection e with e1 e2; injection e2 with e2 e3; exact q ⟨e1, e2, e3⟩)
          clear HSk HNk hs
          by_cases e1 : x = x'
          · subst e1
            by_cases e2 : y = y'
            · subst e2
              have e3 : ¬ bb = bb' := fun e => q ⟨rfl, rfl, e⟩
              clear q
              go_wp2_with fail
              go_region
              go_wp2
              go_ret
              exact mkBol hr.symm hb2
            · clear q
              go_wp2_with fail
              go_region
              go_wp2
              go_ret
              exact mkBol hr.symm hb2
          · clear q
            go_wp2_with fail
            go_region
            go_wp2
            go_ret
            exact mkBol hr.symm hb2
      · obtain rfl : k = n := by omega
        have hr : r = true := HY.out (by rw [HX.out, HX'.out]) (fun j h1 h2 => hs.out j h1 h2 (by have := HX.out; omega))
        go_wp2
        go_ret
        exact mkBol hr.symm hb
  · have hne : (((n : Nat) : Int) != ((n' : Nat) : Int)) = true := by simp; omega
    have hr : r = false := HN.out (by rw [HX.out, HX'.out]; exact hnn)
    go_enter Try.func20, Try.ntmps20
    go_wp2
    go_ret
    exact mkBol hr.symm (Below.refl _ _)
end Go.Proofs.Ytkjoonmnedofiaa.Sam

/- A number out of a code, at any place below 64, as the laws take it. -/
namespace Go.Proofs.Ytkjoonmnedofiaa.Draw
set_option linter.unusedVariables false
open Go.RowKit Go.Proofs.Ytkjoonmnedofiaa.Base Go.Proofs.Ytkjoonmnedofiaa.Cell

set_option maxRecDepth 100000 in
set_option maxHeartbeats 1000000 in
theorem atK (w : World) (A : Option Addr) (len cap B : Nat) (h : len ≤ 1048576) (hr : Rd w B A len) (k : Nat) (hk : k < 64) :
    Calls Try.prog 14 #[.slice A len cap, .int .i64 (k : Int)] w fun e w' => ∃ x : Int, (0 ≤ x ∧ x ≤ 255) ∧ e = .returned (.int .i64 x) ∧ w' = w := by
  by_cases h0 : len = 0
  · subst h0
    go_enter Try.func14, Try.ntmps14
    go_wp2
    go_ret
    exact ⟨0, ⟨by omega, by omega⟩, rfl, rfl⟩
  · obtain ⟨b, off, f, hA, hc⟩ := hr
    obtain ⟨hb, rfl⟩ := hA (by omega)
    obtain ⟨j, hj⟩ : ∃ j, j = (k * 5 + 1) % len := ⟨_, rfl⟩
    have hjl : j < len := by rw [hj]; exact Nat.mod_lt _ (by omega)
    obtain ⟨m, hm⟩ : ∃ m : Int, m = (k : Int) * 5 := ⟨_, rfl⟩
    have hw1 : IntKind.i64.wrap ((k : Int) * 5) = m := by rw [IntKind.wrap_i64]; omega
    have hw2 : IntKind.i64.wrap (m + 1) = m + 1 := by rw [IntKind.wrap_i64]; omega
    have hji : ((m + 1) % (len : Int)) = (j : Int) := by rw [hj, hm]; rfl
    have hm0 : 0 ≤ m := by omega
    have hm1 : m ≤ 1000 := by omega
    obtain ⟨hcj, hf0, hf1⟩ := hc j hjl
    have hne : ((len : Int) == 0) = false := by simp; omega
    have hl0 : (len : Int) ≠ 0 := by omega
    have hl1 : (0 : Int) < (len : Int) := by omega
    have hb1 : (0 : Int) ≤ (j : Int) := by omega
    have hb2 : (j : Int) < (len : Int) := by omega
    clear hA hc hj hm hk
    generalize f j = v at hcj hf0 hf1
    go_enter Try.func14, Try.ntmps14
    go_wp2
    go_ret
    exact ⟨v, ⟨hf0, hf1⟩, by first | rfl | go_num, rfl⟩
end Go.Proofs.Ytkjoonmnedofiaa.Draw

/- FnFlips: a flip twice is nothing, and a tiling stays a tiling: for whatever code, the law returns true. -/
namespace Go.Proofs.Ytkjoonmnedofiaa.Flp
set_option linter.unusedVariables false
set_option linter.unusedSimpArgs false
set_option maxRecDepth 100000
open Go.RowKit Go.Proofs.Ytkjoonmnedofiaa.Base Go.Proofs.Ytkjoonmnedofiaa.Pure Go.Proofs.Ytkjoonmnedofiaa.Cell Go.Proofs.Ytkjoonmnedofiaa.Cels Go.Proofs.Ytkjoonmnedofiaa.Dom Go.Proofs.Ytkjoonmnedofiaa.Dms Go.Proofs.Ytkjoonmnedofiaa.Til Go.Joins
open Go.Proofs.Ytkjoonmnedofiaa.Draw (IsRow big row_len coded_of_row atK)
open Go.Proofs.Ytkjoonmnedofiaa.Tile (drawTiling)
open Go.Proofs.Ytkjoonmnedofiaa.Sam (sameD sSame)
open Go.Proofs.Ytkjoonmnedofiaa.Reg hiding Yes add_none RC rc_start

/-- the law's state: the region in its box, the tiling. -/
structure FF (w : World) (pr : Nat) (va : Value) (Ar : Option Addr) (xs : List Int) (Al : Option Addr) (L : List Dm) (W : World) : Prop where
  bel : Below w.heap.size w W
  box : Rg W pr va
  row : RowB W W.heap.size Ar xs
  lst : RowM W W.heap.size Al L
section
variable {w W W' : World} {pr : Nat} {va : Value} {Ar : Option Addr} {xs : List Int} {Al : Option Addr} {L : List Dm}
theorem row_on {A : Option Addr} {M : List Dm} (h : RowM W W.heap.size A M) (hb : Below W.heap.size W W') : RowM W' W'.heap.size A M := (h.below hb (Nat.le_refl _)).mono hb.size
theorem FF.on (k : FF w pr va Ar xs Al L W) (hb : Below W.heap.size W W') : FF w pr va Ar xs Al L W' :=
  ⟨k.bel.trans (hb.mono k.bel.size), k.box.on hb, (k.row.below hb (Nat.le_refl _)).mono hb.size, row_on k.lst hb⟩
end
/-- the same, with the cell in its box. -/
structure FG (w : World) (pr : Nat) (va : Value) (Ar : Option Addr) (xs : List Int) (Al : Option Addr) (L : List Dm) (pc : Nat) (x y : Int) (W : World) : Prop where
  ff : FF w pr va Ar xs Al L W
  cel : At2 W pc x y
theorem FG.on {w W W' : World} {pr : Nat} {va : Value} {Ar : Option Addr} {xs : List Int} {Al : Option Addr} {L : List Dm} {pc : Nat} {x y : Int} (k : FG w pr va Ar xs Al L pc x y W) (hb : Below W.heap.size W W') : FG w pr va Ar xs Al L pc x y W' := ⟨k.ff.on hb, k.cel.on hb⟩
/-- a list of that size and a bool. -/
def FlN (M : List Dm) (n : Nat) (b : Bool) (w : World) (e : Ending) (w' : World) : Prop := ∃ A cap, e = .returned (.tuple #[.slice A n cap, .bool b]) ∧ RowM w' w'.heap.size A M ∧ Below w.heap.size w w'
theorem fln_of {M : List Dm} {n : Nat} {b : Bool} {w : World} {e : Ending} {w' : World} (hn : M.length = n) (h : FlPost M b w e w') : FlN M n b w e w' := by
  subst hn
  obtain ⟨A, cap, h1, h2, h3, h4⟩ := h
  exact ⟨A, cap, h1, rowM_own h3, h4⟩
theorem fits_til {xs : List Int} {L : List Dm} (h : tilB xs L = true) : Fits L := by
  have hp : partB xs L = true := by unfold tilB at h; rw [Bool.and_eq_true] at h; exact h.1
  intro d hd
  exact fits_ok (Grd.part_valid hp d hd)
theorem down_one : downR [((0 : Int), (0 : Int), true)] = 1 := by decide +kernel

set_option maxHeartbeats 8000000 in
theorem flips_law (A : Option Addr) (len cap : Nat) (zs : List Int) (w : World) (h0 : IsRow .u8 w A len cap zs) :
    Calls Try.prog 3 #[.slice A len cap] w fun e w' => e = .returned (.bool true) ∧ Below w.heap.size w w' := by
  have hlen := row_len h0
  by_cases hbig : (1048576 : Int) < (len : Int)
  · go_enter Try.func3, Try.ntmps3
    go_wp2_with fail
    refine (big w A len cap hlen).mono ?_
    rintro e w' ⟨rfl, rfl⟩
    go_wp2
    go_ret
    exact ⟨rfl, Below.refl _ _⟩
  · have HC := Lib.hid (coded_of_row h0 (by omega))
    have HAt := Lib.hid (fun W (hb : Below w.heap.size w W) k (hk : k < 64) => atK W A len cap w.heap.size HC.out.1 (HC.out.2.below hb) k hk)
    have HBg := Lib.hid hbig
    clear h0
    go_enter Try.func3, Try.ntmps3
    go_wp2_with fail
    refine (big w A len cap hlen).mono ?_
    rintro e w' ⟨rfl, rfl⟩
    go_wp2_with fail
    clear hbig hlen
    refine (drawTiling w A len cap HC.out).mono ?_
    rintro e w1 ⟨xs, Ar, n, cr, L, Al, cl, HO, HX, rfl, hown, hownL, hb1⟩
    have hB1 := hb1.alloc hb1.size (.cells #[.slice Ar n cr] 26)
    have hb2 := below_alloc1 w1 (.cells #[.slice Ar n cr] 26)
    have R1 := Rg.new w1 (.slice Ar n cr)
    have Q1 := ((rowB_own hown).below hb2 (Nat.le_refl _)).mono hb2.size
    have K1 := row_on (rowM_own hownL) hb2
    have hl32 := HO.out.2.2
    obtain ⟨l, hl⟩ : ∃ l, L.length = l := ⟨_, rfl⟩
    rw [hl] at hl32
    rw [hl]
    clear hown hb1 HC hownL hb2
    go_upto_region 4 with fail
    generalize w1.alloc (.cells #[.slice Ar n cr] 26) = W1 at hB1 R1 Q1 K1 ⊢
    generalize w1.heap.size = pr at R1 ⊢
    have F1 := Lib.hid (⟨hB1, R1, Q1, K1⟩ : FF w pr (.slice Ar n cr) Ar xs Al L W1)
    clear hB1 R1 Q1 K1
    have hn8 : n ≤ 8 := by have := HO.out.1.1; have := HX.out; omega
    have hnI : (n : Int) ≤ 9223372036854775807 := by omega
    have hlI : (l : Int) ≤ 9223372036854775807 := by omega
    have hlS : (l : Int) ≤ 1048576 := by omega
    have HFt := Lib.hid (fits_til HO.out.2.1)
    have HSf := Lib.hid (fun W (q : RowM W W.heap.size Al L) => sFlipsOf W Al l cl W.heap.size L hl hlI q (Nat.le_refl _))
    have HIf := Lib.hid (fun W (q : RowM W W.heap.size Al L) => iFlipsOf W Al l cl W.heap.size L hl hlI q (Nat.le_refl _))
    have HCf := Lib.hid (fun W (q : RowM W W.heap.size Al L) x y => iCanFlip W Al l cl W.heap.size L hl hlI q (Nat.le_refl _) x y)
    have HDi := Lib.hid (fun W (q : RowM W W.heap.size Al L) => iCountDown W Al l cl W.heap.size L hl hlS q (Nat.le_refl _))
    have HDs := Lib.hid (fun W (q : RowM W W.heap.size Al L) => sCountDown W Al l cl W.heap.size L hl hlS q (Nat.le_refl _))
    have HNo := Lib.hid (fun h x y => flips_none (L := L) h x y)
    have HYe := Lib.hid (fun c (h : c ∈ flipsR L) => flips_all HO.out.2.1 (flips_can h))
    have HCa := Lib.hid (fun c (h : c ∈ flipsR L) => flips_can h)
    have hsl := flipsTo_length L 64
    rw [flipsTo_all] at hsl
    unfold Cels.NbPost at HSf HIf
    have HL := Lib.hid hl
    obtain ⟨S, hS⟩ : ∃ S, flipsR L = S := ⟨_, rfl⟩
    rw [hS] at HSf HIf HNo HYe HCa hsl
    obtain ⟨s, hs⟩ : ∃ s, S.length = s := ⟨_, rfl⟩
    rw [hs] at HSf HIf hsl
    have HS := Lib.hid hs
    clear hl hS hs
    go_wp2_with fail
    refine (HSf.out _ F1.out.lst).mono ?_
    rintro e w2 ⟨Af, cf, rfl, hown, hb2⟩
    have F2 := Lib.hid (F1.out.on hb2)
    have RF := rowC_own hown
    have hf2 : Below w2.heap.size w2 w2 := Below.refl _ _
    clear hown hb2 F1 HSf
    go_wp2_with fail
    refine (HIf.out _ F2.out.lst).mono ?_
    rintro e w3 ⟨Ag, cg, rfl, _, hb3⟩
    have F3 := Lib.hid (F2.out.on hb3)
    obtain ⟨bf, of, hA, hR⟩ := RF
    have HA := Lib.hid (fun h0 => hA h0)
    have HR := Lib.hid (fun j p hp h0 => show _ ∧ _ from ⟨(hb3.cell (p := ⟨bf, of + j * 2, none⟩) (hA h0).2).trans (hR j p hp).1, (hb3.cell (p := ⟨bf, of + j * 2 + 1, none⟩) (hA h0).2).trans (hR j p hp).2⟩)
    have hbs := hb3.size
    clear hb3 F2 HIf hA hR hf2
    have hss : ((s : Int) != (s : Int)) = false := by simp
    by_cases hs0 : s = 0
    · have he0 : ((s : Int) == 0) = true := by rw [hs0]; rfl
      have hS0 := List.eq_nil_of_length_eq_zero (HS.out.trans hs0)
      have HNf := Lib.hid (fun x y => HNo.out hS0 x y)
      have HCg := Lib.hid (fun W q x y => HNf.out x y ▸ HCf.out W q x y)
      generalize downR L = dn at HDi HDs
      have hdd : ((dn : Int) == (dn : Int)) = true := by simp
      clear HYe HCa HA HR hs0 HNo HNf HCf
      go_wp2_with fail
      refine (HAt.out _ F3.out.bel 0 (by omega)).mono ?_
      rintro e wx ⟨x0, ⟨hx0, hx1⟩, rfl, hw⟩
      have hw := hw.symm
      subst hw
      go_wp2_with fail
      refine (HAt.out _ F3.out.bel 1 (by omega)).mono ?_
      rintro e wx ⟨x1, ⟨hy0, hy1⟩, rfl, hw⟩
      have hw := hw.symm
      subst hw
      go_wp2_with fail
      refine (HCg.out _ F3.out.lst _ _).mono ?_
      rintro e w4 ⟨rfl, hb4⟩
      have F4 := Lib.hid (F3.out.on hb4)
      clear hb4 F3 HCg
      go_wp2_with fail
      refine (HDi.out _ F4.out.lst).mono ?_
      rintro e w5 ⟨rfl, hb5⟩
      have F5 := Lib.hid (F4.out.on hb5)
      clear hb5 F4 HDi
      go_wp2_with fail
      refine (HDs.out _ F5.out.lst).mono ?_
      rintro e w6 ⟨rfl, hb6⟩
      have F6 := Lib.hid (F5.out.on hb6)
      clear hb6 F5 HDs
      have hb7 := below_alloc1 w6 (.cells #[.int .i64 0, .int .i64 0, .bool true] 38)
      have F7 := Lib.hid (F6.out.on hb7)
      have H1 := Lib.hid (down_one ▸ iCountDown (w6.alloc (.cells #[.int .i64 0, .int .i64 0, .bool true] 38)) (some ⟨w6.heap.size, 0, none⟩) 1 1 (w6.heap.size + 1) [(0, 0, true)] rfl (by omega) ⟨w6.heap.size, 0, fun _ => ⟨rfl, by omega⟩, fun j d hd => by
        rcases j with _ | j
        · simp at hd; subst hd
          have k := heap_alloc_new w6 (.cells #[.int .i64 0, .int .i64 0, .bool true] 38)
          exact ⟨(cell_of_row _ _ 0 _ _ _ k).trans rfl, (cell_of_row _ _ 1 _ _ _ k).trans rfl, (cell_of_row _ _ 2 _ _ _ k).trans rfl⟩
        · simp at hd⟩ (by simp))
      clear hb7 F6
      go_wp2_with fail
      generalize w6.alloc (.cells #[.int .i64 0, .int .i64 0, .bool true] 38) = W7 at F7 H1 ⊢
      refine H1.out.mono ?_
      rintro e w8 ⟨rfl, hb8⟩
      have F8 := Lib.hid (F7.out.on hb8).bel
      clear hb8 F7 H1
      go_wp2
      go_ret
      exact ⟨rfl, F8.out⟩
    · have he0 : ((s : Int) == 0) = false := by rw [beq_eq_false_iff_ne]; omega
      have hl0 : (s : Int) ≠ 0 := by omega
      have hl1 : (0 : Int) < (s : Int) := by omega
      have hs1 : 0 < S.length := by rw [HS.out]; omega
      obtain ⟨rfl, hbf⟩ := HA.out hs1
      clear HNo HA
      go_wp2_with fail
      refine (HAt.out _ F3.out.bel 0 (by omega)).mono ?_
      rintro e wx ⟨x0, ⟨hx0, hx1⟩, rfl, hw⟩
      have hw := hw.symm
      subst hw
      obtain ⟨j, hj⟩ : ∃ j : Nat, x0 % (s : Int) = (j : Int) := ⟨(x0 % (s : Int)).toNat, by have := Int.emod_nonneg x0 hl0; omega⟩
      have hjs : j < s := by have := Int.emod_lt_of_pos x0 hl1; omega
      have hjS : j < S.length := by rw [HS.out]; exact hjs
      have hjI : (j : Int) < (s : Int) := by omega
      obtain ⟨c0, c1⟩ := HR.out j S[j] (List.getElem?_eq_getElem hjS) hs1
      have hmem : S[j] ∈ S := List.getElem_mem hjS
      generalize S[j] = c at c0 c1 hmem
      obtain ⟨x, y⟩ := c
      simp only at c0 c1
      obtain ⟨p1, p2, p3, p4, p5, p6⟩ := HYe.out (x, y) hmem
      have hcan := HCa.out (x, y) hmem
      simp only at p1 p2 p3 p4 p5 p6 hcan
      have hXl := flip_len L x y
      rw [HL.out] at hXl
      have hXf := fits_til p1
      have hall : allL L [(x, y), (x, y)] = L ∧ allB L [(x, y), (x, y)] = true := by unfold allL allB; rw [p6]; exact ⟨rfl, rfl⟩
      have HF1 := Lib.hid (fun W (q : RowM W W.heap.size Al L) => show Calls _ _ _ W (FlPost (flipL L x y) true W) from hcan ▸ iFlipAt W Al l cl W.heap.size L HL.out hlS HFt.out q (Nat.le_refl _) x y)
      have HCb := Lib.hid (fun W (q : RowM W W.heap.size Al L) => show Calls _ _ _ W (Bol true W) from hcan ▸ HCf.out W q x y)
      have HAl := Lib.hid (fun W (q : RowM W W.heap.size Al L) A2 c2 (q2 : Go.Proofs.Ytkjoonmnedofiaa.Def.RowK W W.heap.size A2 [(x, y), (x, y)]) => show Calls _ _ _ W (FlN L l true W) from (iFlipAll W Al l cl W.heap.size L HL.out hlS HFt.out q (Nat.le_refl _) A2 2 c2 W.heap.size [(x, y), (x, y)] rfl (by omega) q2 (Nat.le_refl _)).mono fun e w' h => fln_of HL.out (by rw [hall.1, hall.2] at h; exact h))
      have hdl : downR L ≤ l := by have := downTo_le L l; unfold downTo at this; rw [List.take_of_length_le (by rw [HL.out]; exact Nat.le_refl _)] at this; exact this
      obtain ⟨X, hX⟩ : ∃ X, flipL L x y = X := ⟨_, rfl⟩
      rw [hX] at p1 p2 p3 p4 p5 hXl hXf HF1
      clear hX
      obtain ⟨lx, hlx⟩ : ∃ lx, X.length = lx := ⟨_, rfl⟩
      rw [hlx] at hXl
      have HF1 := Lib.hid (fun W q => show Calls _ _ _ W (FlN X lx true W) from (HF1.out W q).mono fun e w' h => fln_of hlx h)
      have hdx : downR X ≤ lx := by have := downTo_le X lx; unfold downTo at this; rw [List.take_of_length_le (by rw [hlx]; exact Nat.le_refl _)] at this; exact this
      have HF2 := Lib.hid (fun W A' c' (q : RowM W W.heap.size A' X) => show Calls _ _ _ W (FlN L l true W) from (iFlipAt W A' lx c' W.heap.size X hlx (by omega) hXf q (Nat.le_refl _) x y).mono fun e w' h => fln_of HL.out (by rw [p3, p2] at h; exact h))
      have HDx := Lib.hid (fun W A' c' (q : RowM W W.heap.size A' X) => iCountDown W A' lx c' W.heap.size X hlx (by omega) q (Nat.le_refl _))
      have HIs := Lib.hid (fun W (k : RowB W W.heap.size Ar xs) A' c' (q : RowM W W.heap.size A' X) => show Calls _ _ _ W (Bol true W) from p1 ▸ sIsTiling W Ar n cr W.heap.size xs HX.out hnI k (Nat.le_refl _) A' lx c' W.heap.size X hlx (by omega) q (Nat.le_refl _))
      have HSl := Lib.hid (fun W (q : RowM W W.heap.size Al L) A' c' (q2 : RowM W W.heap.size A' L) => show Calls _ _ _ W (Bol true W) from (show sameD L L = true by unfold sameD; simp) ▸ sSame W A' Al l l c' cl W.heap.size W.heap.size L L HL.out HL.out hlI hlI q2 q (Nat.le_refl _) (Nat.le_refl _))
      have HSx := Lib.hid (fun W (q : RowM W W.heap.size Al L) A' c' (q2 : RowM W W.heap.size A' X) => show Calls _ _ _ W (Bol false W) from (show sameD X L = false by unfold sameD; simp [p4]) ▸ sSame W A' Al lx l c' cl W.heap.size W.heap.size X L hlx HL.out (by omega) hlI q2 q (Nat.le_refl _) (Nat.le_refl _))
      generalize downR L = dl at HDi p5 hdl
      generalize downR X = dx at HDx p5 hdx
      obtain ⟨d, hd, hdd⟩ : ∃ d : Int, IntKind.i64.wrap ((dx : Int) - (dl : Int)) = d ∧ IntKind.i64.wrap (d * d) = 4 := by
        refine ⟨(dx : Int) - (dl : Int), by rw [IntKind.wrap_i64]; omega, ?_⟩
        rcases p5 with h | h <;> (rw [h]; rfl)
      clear HYe HCa HR HCf HDs HS hmem hcan p1 p2 p3 p4 p5 p6 hall hXf hXl hlx hdl hdx hl32 HFt HL hs1 hjS
      have hbx := below_alloc1 w3 (.cells #[.int .i64 x, .int .i64 y] 35)
      have G0 := Lib.hid (⟨F3.out.on hbx, At2.new w3 x y⟩ : FG w pr (.slice Ar n cr) Ar xs Al L w3.heap.size x y (w3.alloc (.cells #[.int .i64 x, .int .i64 y] 35)))
      clear hbx
      go_upto_region 10 with fail
      clear c0 c1 F3
      generalize w3.alloc (.cells #[.int .i64 x, .int .i64 y] 35) = W4 at G0 ⊢
      generalize w3.heap.size = pc at G0 ⊢
      have c0 := G0.out.cel.c0
      have c1 := G0.out.cel.c1
      go_wp2_with fail
      refine (HF1.out _ G0.out.ff.lst).mono ?_
      rintro e w5 ⟨A5, c5, rfl, k5, hb5⟩
      have G5 := Lib.hid (G0.out.on hb5)
      clear hb5 G0 HF1 c0 c1
      have c0 := G5.out.cel.c0
      have c1 := G5.out.cel.c1
      go_wp2_with fail
      refine (HF2.out _ _ _ k5).mono ?_
      rintro e w6 ⟨A6, c6, rfl, k6, hb6⟩
      have G6 := Lib.hid (G5.out.on hb6)
      have k5 := row_on k5 hb6
      clear hb6 G5 HF2 c0 c1
      go_wp2_with fail
      refine (HDx.out _ _ _ k5).mono ?_
      rintro e w7 ⟨rfl, hb7⟩
      have G7 := Lib.hid (G6.out.on hb7)
      have k5 := row_on k5 hb7
      have k6 := row_on k6 hb7
      clear hb7 G6 HDx
      go_wp2_with fail
      refine (HDi.out _ G7.out.ff.lst).mono ?_
      rintro e w8 ⟨rfl, hb8⟩
      have G8 := Lib.hid (G7.out.on hb8)
      have k5 := row_on k5 hb8
      have k6 := row_on k6 hb8
      clear hb8 G7 HDi
      have c0 := G8.out.cel.c0
      have c1 := G8.out.cel.c1
      have hb9 := below_alloc1 w8 (.cells #[.int .i64 x, .int .i64 y, .int .i64 x, .int .i64 y] 35)
      have G9 := Lib.hid (G8.out.on hb9)
      have k5 := row_on k5 hb9
      have k6 := row_on k6 hb9
      have q9 : Go.Proofs.Ytkjoonmnedofiaa.Def.RowK (w8.alloc (.cells #[.int .i64 x, .int .i64 y, .int .i64 x, .int .i64 y] 35)) (w8.alloc (.cells #[.int .i64 x, .int .i64 y, .int .i64 x, .int .i64 y] 35)).heap.size (some ⟨w8.heap.size, 0, none⟩) [(x, y), (x, y)] := by
        have k := heap_alloc_new w8 (.cells #[.int .i64 x, .int .i64 y, .int .i64 x, .int .i64 y] 35)
        refine ⟨w8.heap.size, 0, fun _ => ⟨rfl, by simp⟩, fun j p hp => ?_⟩
        rcases j with _ | _ | j
        · simp at hp; subst hp
          exact ⟨(cell_of_row _ _ 0 _ _ _ k).trans rfl, (cell_of_row _ _ 1 _ _ _ k).trans rfl⟩
        · simp at hp; subst hp
          exact ⟨(cell_of_row _ _ 2 _ _ _ k).trans rfl, (cell_of_row _ _ 3 _ _ _ k).trans rfl⟩
        · simp at hp
      have HQ9 := Lib.hid q9
      clear hb9 q9
      go_wp2_with fail
      clear c0 c1
      generalize w8.alloc (.cells #[.int .i64 x, .int .i64 y, .int .i64 x, .int .i64 y] 35) = W9 at G9 k5 k6 HQ9 ⊢
      refine (HAl.out _ G9.out.ff.lst _ _ HQ9.out).mono ?_
      rintro e w10 ⟨A10, c10, rfl, k10, hb10⟩
      have G10 := Lib.hid (G9.out.on hb10)
      have k5 := row_on k5 hb10
      have k6 := row_on k6 hb10
      clear hb10 G9 HAl HQ9 G8
      have c2 := G10.out.ff.box.c0
      go_wp2_with fail
      refine (HIs.out _ G10.out.ff.row _ _ k5).mono ?_
      rintro e w11 ⟨rfl, hb11⟩
      have G11 := Lib.hid (G10.out.on hb11)
      have k5 := row_on k5 hb11
      have k6 := row_on k6 hb11
      have k10 := row_on k10 hb11
      clear hb11 G10 HIs c2
      go_wp2_with fail
      refine (HSl.out _ G11.out.ff.lst _ _ k6).mono ?_
      rintro e w12 ⟨rfl, hb12⟩
      have G12 := Lib.hid (G11.out.on hb12)
      have k5 := row_on k5 hb12
      have k10 := row_on k10 hb12
      clear hb12 G11 k6
      go_wp2_with fail
      refine (HSl.out _ G12.out.ff.lst _ _ k10).mono ?_
      rintro e w13 ⟨rfl, hb13⟩
      have G13 := Lib.hid (G12.out.on hb13)
      have k5 := row_on k5 hb13
      clear hb13 G12 k10
      go_wp2_with fail
      refine (HSx.out _ G13.out.ff.lst _ _ k5).mono ?_
      rintro e w14 ⟨rfl, hb14⟩
      have G14 := Lib.hid (G13.out.on hb14)
      clear hb14 G13 k5
      have c0 := G14.out.cel.c0
      have c1 := G14.out.cel.c1
      go_wp2_with fail
      refine (HCb.out _ G14.out.ff.lst).mono ?_
      rintro e w15 ⟨rfl, hb15⟩
      have HE := Lib.hid (G14.out.on hb15).ff.bel
      clear hb15 G14 HCb c0 c1
      go_wp2
      go_ret
      exact ⟨rfl, HE.out⟩
end Go.Proofs.Ytkjoonmnedofiaa.Flp
