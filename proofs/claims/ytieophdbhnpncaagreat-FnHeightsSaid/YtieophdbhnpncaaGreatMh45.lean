/- FlmC, Sam, DrawK in one text. -/
import Derived.Test.YtieophdbhnpncaaGreatMh38
import Derived.Test.YtieophdbhnpncaaGreatMh15
import Derived.Test.YtieophdbhnpncaaGreatMh28
import Derived.Test.YtieophdbhnpncaaGreatMh25
import Derived.Test.YtieophdbhnpncaaGreatMh00

namespace Go.Proofs.YtieophdbhnpncaaGreat.Flp
set_option linter.unusedVariables false
set_option linter.unusedSimpArgs false
set_option maxRecDepth 100000
open Go.RowKit Go.Proofs.YtieophdbhnpncaaGreat.Base Go.Proofs.YtieophdbhnpncaaGreat.Cell Go.Proofs.YtieophdbhnpncaaGreat.Cels Go.Proofs.YtieophdbhnpncaaGreat.Dom Go.Proofs.YtieophdbhnpncaaGreat.Dms Go.Joins
open Go.Proofs.YtieophdbhnpncaaGreat.Reg (at_nat own_below own_base)

def flipsTo (L : List Dm) (k : Nat) : List (Int × Int) := ((List.range k).filter fun k => canB L ((k % 8 : Nat) : Int) ((k / 8 : Nat) : Int)).map fun k => (((k % 8 : Nat) : Int), ((k / 8 : Nat) : Int))
theorem flipsTo_all (L : List Dm) : flipsTo L 64 = flipsR L := rfl
theorem flipsTo_length (L : List Dm) (k : Nat) : (flipsTo L k).length ≤ k := by
 unfold flipsTo; rw [List.length_map]; exact Nat.le_trans (List.length_filter_le _ _) (by rw [List.length_range]; exact Nat.le_refl _)
theorem flipsTo_yes {L : List Dm} {k : Nat} (h : canB L ((k % 8 : Nat) : Int) ((k / 8 : Nat) : Int) = true) : flipsTo L (k + 1) = flipsTo L k ++ [(((k % 8 : Nat) : Int), ((k / 8 : Nat) : Int))] := by
 unfold flipsTo; rw [List.range_succ, List.filter_append, List.map_append, List.filter_cons, if_pos h]; rfl
theorem flipsTo_no {L : List Dm} {k : Nat} (h : canB L ((k % 8 : Nat) : Int) ((k / 8 : Nat) : Int) = false) : flipsTo L (k + 1) = flipsTo L k := by
 unfold flipsTo; rw [List.range_succ, List.filter_append, List.map_append, List.filter_cons, if_neg (by rw [h]; simp), List.filter_nil, List.map_nil, List.append_nil]
set_option maxHeartbeats 2000000 in
theorem sFlipsOf (w : World) (A : Option Addr) (n cap B : Nat) (L : List Dm) (hL : L.length = n) (hn : (n : Int) ≤ 9223372036854775807) (h : RowM w B A L) (hB : B ≤ w.heap.size) :
  Calls Tryz.prog 10 #[.slice A n cap] w (NbPost (flipsR L) w) := by
 obtain ⟨i0, hi, hz0, hz1, hz2⟩ := info_parts cellInfo
 have HM := Lib.hid (World.ownsRow_made (e := 38) (size := 2) w #[] 0 (Nat.le_refl _) (by unfold maxLen; omega) rfl)
 have HKd := Lib.hid (fun W (hb : Below w.heap.size w W) x y => sKind W A n cap B L hL hn (h.below hb hB) (by have := hb.size; omega) x y)
 clear hL h hB
 go_enter Tryz.func10, Tryz.ntmps10
 go_wp2_with fail
 have HW1 := Lib.hid (below_alloc1 w (.cells #[] 38))
 go_loopw [3, 4] (fun v i wr => ∃ k : Nat, k ≤ 64 ∧ i = .int .i64 k ∧ wr.ownsRow w.heap.size 38 2 v (flipsTo L k).length (rowC (flipsTo L k)) ∧ Below w.heap.size w wr) (fun _ i _ => 64 - (intOf i).toNat)
 case atStart => exact ⟨0, Nat.zero_le _, rfl, by simpa [flipsTo, rowC] using HM.out, HW1.out⟩
 case round =>
  clear HW1 HM
  obtain ⟨k, hk, rfl, hown, hb⟩ := hrel
  have hbs := hb.size
  by_cases hlt : k < 64
  ·go_wp2_with fail
   refine (sCellAt k _).mono ?_
   rintro e w1 ⟨rfl, hb1⟩
   have hown1 := own_below hown hb1 (Nat.le_refl _)
   have hbb := hb.trans (hb1.mono hbs)
   have hb1s := hbb.size
   have HOwn := Lib.hid hown1
   have HBB := Lib.hid hbb
   obtain ⟨hax, hay⟩ := at_nat hlt
   rw [hax, hay]
   have HKx := Lib.hid (HKd.out _ (hbb.alloc hbb.size (.cells #[.int .i64 ((k % 8 : Nat) : Int), .int .i64 ((k / 8 : Nat) : Int)] 38)) ((k % 8 : Nat) : Int) ((k / 8 : Nat) : Int))
   have hn' : 0 < kindN L ((k % 8 : Nat) : Int) ((k / 8 : Nat) : Int) ∧ flipsTo L (k + 1) = flipsTo L k ++ [(((k % 8 : Nat) : Int), ((k / 8 : Nat) : Int))] ∨ kindN L ((k % 8 : Nat) : Int) ((k / 8 : Nat) : Int) = 0 ∧ flipsTo L (k + 1) = flipsTo L k := by
    rcases Nat.eq_zero_or_pos (kindN L ((k % 8 : Nat) : Int) ((k / 8 : Nat) : Int)) with h0 | h0
    ·exact .inr ⟨h0, flipsTo_no (by unfold canB; rw [h0]; rfl)⟩
    ·exact .inl ⟨h0, flipsTo_yes (decide_eq_true h0)⟩
   have HN' := Lib.hid hn'
   clear hown hb hb1 hown1 hbb hbs hax hay hn'
   generalize kindN L ((k % 8 : Nat) : Int) ((k / 8 : Nat) : Int) = kk at HKx HN'
   generalize ((k % 8 : Nat) : Int) = u at HKx HN' ⊢
   generalize ((k / 8 : Nat) : Int) = v' at HKx HN' ⊢
   go_wp2_with fail
   refine HKx.out.mono ?_
   rintro e w2 ⟨rfl, hb2⟩
   clear HKx
   have hcc : w2.cell? ⟨w1.heap.size, 0, none⟩ = some (.int .i64 u) ∧ w2.cell? ⟨w1.heap.size, 1, none⟩ = some (.int .i64 v') := by
    have hbl := heap_alloc_new w1 (.cells #[.int .i64 u, .int .i64 v'] 38)
    exact ⟨(hb2.cell (by simp)).trans ((cell_of_row _ _ 0 _ _ _ hbl).trans rfl), (hb2.cell (by simp)).trans ((cell_of_row _ _ 1 _ _ _ hbl).trans rfl)⟩
   obtain ⟨hc2, hc3⟩ := hcc
   have hD : Below w.heap.size w w2 := (HBB.out.alloc hb1s _).trans (hb2.mono (by simp; omega))
   have hE : Below w1.heap.size w1 w2 := (below_alloc1 w1 _).trans (hb2.mono (by simp))
   have HOwn2 := Lib.hid (own_below HOwn.out hE (Nat.le_refl _))
   have hzz : w1.heap.size < w2.heap.size := by have := hb2.size; simp at this; omega
   have HD := Lib.hid hD
   clear hD hE hb2
   rcases HN'.out with ⟨hkk, hN⟩ | ⟨rfl, hN⟩
   ·have HN := Lib.hid hN
    clear hN HN'
    have HL := Lib.hid (flipsTo_length L k)
    go_wp2_with (first
     | (at_builtin; refine wpList_append_own _ rfl _ _ 34 rfl w.heap.size 38 i0 (.agg #[.int .i64 0, .int .i64 0]) 2 16 Tryz.underlying34 hi hz0 hz1 hz2 rfl (by decide) _ (flipsTo L k).length (rowC (flipsTo L k)) rfl (HOwn2.out.alloc _) ⟨w2.heap.size, 0, none⟩ 1 1 [.int .i64 u, .int .i64 v'] rfl rfl (World.news_of_block (cs := #[.int .i64 u, .int .i64 v']) (t := 38) (fr := (0, 0)) (heap_alloc_new w2 _)) (by simp [Value.oneCell']) (by have := HL.out; unfold maxLen; omega) (by have := HL.out; omega) (by simp; omega) ?_; intro v2 w3 hown3 hgrow _))
    have hb3 : Below w.heap.size w w3 := (HD.out.alloc (by omega) _).grown hgrow (by simp; omega) (fun g hg => (HOwn2.out.lt g hg).1)
    have R := Lib.hid (show w3.ownsRow w.heap.size 38 2 v2 (flipsTo L (k + 1)).length (rowC (flipsTo L (k + 1))) by
     rw [HN.out, rowC_snoc, List.length_append]; exact hown3)
    clear hown3 hgrow
    go_wp2
    go_roundw
    case rel => exact ⟨k + 1, by omega, by go_num, R.out, hb3⟩
    case measure => (simp [intOf] <;> omega)
   ·have HN := Lib.hid hN
    clear hN HN'
    go_wp2
    go_roundw
    case rel => exact ⟨k + 1, by omega, by go_num, by rw [HN.out]; exact HOwn2.out, HD.out⟩
    case measure => (simp [intOf] <;> omega)
  ·obtain rfl : k = 64 := by omega
   obtain ⟨A, cap, rfl⟩ := own_shape hown
   rw [flipsTo_all] at hown ⊢
   have HOwn := Lib.hid hown
   clear hown
   go_wp2
   go_ret
   exact ⟨A, cap, rfl, HOwn.out, hb⟩
end Go.Proofs.YtieophdbhnpncaaGreat.Flp

namespace Go.Proofs.YtieophdbhnpncaaGreat.Sam
set_option linter.unusedVariables false
set_option linter.unusedSimpArgs false
open Go.RowKit Go.Proofs.YtieophdbhnpncaaGreat.Cell Go.Proofs.YtieophdbhnpncaaGreat.Dms Go.Joins
open Go.Proofs.YtieophdbhnpncaaGreat.Reg hiding add_none

def sameD (L M : List Dm) : Bool := decide (L = M)
theorem sameD_len {L M : List Dm} (h : L.length ≠ M.length) : sameD L M = false := by unfold sameD; rw [decide_eq_false_iff_not]; rintro rfl; exact h rfl
theorem sameD_no {L M : List Dm} {k : Nat} (h1 : k < L.length) (h2 : k < M.length) (h : L[k] ≠ M[k]) : sameD L M = false := by unfold sameD; rw [decide_eq_false_iff_not]; rintro rfl; exact h rfl
theorem sameD_yes {L M : List Dm} (hl : L.length = M.length) (h : ∀ j (h1 : j < L.length) (h2 : j < M.length), L[j] = M[j]) : sameD L M = true := by
 unfold sameD; rw [decide_eq_true_eq]; exact List.ext_getElem hl (fun i h1 h2 => h i h1 h2)

set_option maxRecDepth 100000 in
set_option maxHeartbeats 1000000 in
theorem sSame (w : World) (A A' : Option Addr) (n n' cap cap' B B' : Nat) (L M : List Dm) (hx : L.length = n) (hx' : M.length = n') (hl : (n : Int) ≤ 9223372036854775807) (hl' : (n' : Int) ≤ 9223372036854775807) (h1 : RowM w B A L) (h2 : RowM w B' A' M) (hB : B ≤ w.heap.size) (hB' : B' ≤ w.heap.size) :
  Calls Tryz.prog 9 #[.slice A n cap, .slice A' n' cap'] w (Bol (sameD L M) w) := by
 obtain ⟨b, off, hA, hc⟩ := h1.at
 obtain ⟨b', off', hA', hc'⟩ := h2.at
 have H1 := Lib.hid hA
 have H2 := Lib.hid hA'
 have H3 := Lib.hid hc
 have H4 := Lib.hid hc'
 have HX := Lib.hid hx
 have HX' := Lib.hid hx'
 have HN := Lib.hid (fun h => sameD_len (L := L) (M := M) h)
 have HNo := Lib.hid (fun k h1 h2 h => sameD_no (L := L) (M := M) (k := k) h1 h2 h)
 have HY := Lib.hid (fun hl h => sameD_yes (L := L) (M := M) hl h)
 clear hA hA' hc hc' h1 h2 hx hx'
 generalize sameD L M = r at HN HNo HY ⊢
 by_cases hnn : n = n'
 ·subst hnn
  have hne : (((n : Nat) : Int) != ((n : Nat) : Int)) = false := by simp
  go_enter Tryz.func9, Tryz.ntmps9
  go_wp2_with fail
  go_loopw [5] (fun i wr => ∃ k : Nat, k ≤ n ∧ i = .int .i64 k ∧ Below w.heap.size w wr ∧ Hid (∀ j (h1 : j < L.length) (h2 : j < M.length), j < k → L[j] = M[j])) (fun i _ => n - (intOf i).toNat)
  case atStart => exact ⟨0, Nat.zero_le _, rfl, Below.refl _ _, Lib.hid (fun j _ _ h => by omega)⟩
  case round =>
   obtain ⟨k, hk, rfl, hb, hs⟩ := hrel
   have hbs := hb.size
   by_cases hlt : k < n
   ·have hkx : k < L.length := by have := HX.out; omega
    have hkx' : k < M.length := by have := HX'.out; omega
    obtain ⟨rfl, hbw⟩ := H1.out (by omega)
    obtain ⟨rfl, hbw'⟩ := H2.out (by omega)
    obtain ⟨c1, c2, c3⟩ := H3.out k hkx
    obtain ⟨d1, d2, d3⟩ := H4.out k hkx'
    have c1' := (hb.cell (p := ⟨b, off + k * 3, none⟩) (by show b < _; omega)).trans c1
    have c2' := (hb.cell (p := ⟨b, off + k * 3 + 1, none⟩) (by show b < _; omega)).trans c2
    have c3' := (hb.cell (p := ⟨b, off + k * 3 + 2, none⟩) (by show b < _; omega)).trans c3
    have d1' := (hb.cell (p := ⟨b', off' + k * 3, none⟩) (by show b' < _; omega)).trans d1
    have d2' := (hb.cell (p := ⟨b', off' + k * 3 + 1, none⟩) (by show b' < _; omega)).trans d2
    have d3' := (hb.cell (p := ⟨b', off' + k * 3 + 2, none⟩) (by show b' < _; omega)).trans d3
    clear c1 c2 c3 d1 d2 d3
    have HNk := Lib.hid (HNo.out k hkx hkx')
    have HSk := Lib.hid (show L[k] = M[k] → Hid (∀ j (h1 : j < L.length) (h2 : j < M.length), j < k + 1 → L[j] = M[j]) from fun e => Lib.hid (fun j h1 h2 h => by
     by_cases q : j = k
     ·subst q; exact e
     ·exact hs.out j h1 h2 (by omega)))
    generalize L[k] = d at c1' c2' c3' HNk HSk
    generalize M[k] = f at d1' d2' d3' HNk HSk
    obtain ⟨x, y, bb⟩ := d
    obtain ⟨x', y', bb'⟩ := f
    simp only at c1' c2' c3' d1' d2' d3'
    have hb2 : Below w.heap.size w wr.drew := hb.drew
    by_cases q : x = x' ∧ y = y' ∧ bb = bb'
    ·obtain ⟨rfl, rfl, rfl⟩ := q
     have hs2 := HSk.out rfl
     clear HSk HNk hs
     go_wp2_with fail
     go_region
     go_wp2
     go_roundw
     case rel => exact ⟨k + 1, by omega, by go_num, hb2, hs2⟩
     case measure => (simp [intOf] <;> omega)
    ·have hr : r = false := HNk.out (by intro e; injection e with e1 e2; injection e2 with e2 e3; exact q ⟨e1, e2, e3⟩)
     clear HSk HNk hs
     by_cases e1 : x = x'
     ·subst e1
      by_cases e2 : y = y'
      ·subst e2
       have e3 : ¬ bb = bb' := fun e => q ⟨rfl, rfl, e⟩
       clear q
       go_wp2_with fail
       go_region
       go_wp2
       go_ret
       exact mkBol hr.symm hb2
      ·clear q
       go_wp2_with fail
       go_region
       go_wp2
       go_ret
       exact mkBol hr.symm hb2
     ·clear q
      go_wp2_with fail
      go_region
      go_wp2
      go_ret
      exact mkBol hr.symm hb2
   ·obtain rfl : k = n := by omega
    have hr : r = true := HY.out (by rw [HX.out, HX'.out]) (fun j h1 h2 => hs.out j h1 h2 (by have := HX.out; omega))
    go_wp2
    go_ret
    exact mkBol hr.symm hb
 ·have hne : (((n : Nat) : Int) != ((n' : Nat) : Int)) = true := by simp; omega
  have hr : r = false := HN.out (by rw [HX.out, HX'.out]; exact hnn)
  go_enter Tryz.func9, Tryz.ntmps9
  go_wp2
  go_ret
  exact mkBol hr.symm (Below.refl _ _)
end Go.Proofs.YtieophdbhnpncaaGreat.Sam

namespace Go.Proofs.YtieophdbhnpncaaGreat.Draw
set_option linter.unusedVariables false
open Go.RowKit

set_option maxRecDepth 100000 in
set_option maxHeartbeats 1000000 in
theorem atK (w : World) (A : Option Addr) (len cap B : Nat) (h : len ≤ 1048576) (hr : Rd w B A len) (k : Nat) (hk : k < 64) :
  Calls Tryz.prog 14 #[.slice A len cap, .int .i64 (k : Int)] w fun e w' => ∃ x : Int, (0 ≤ x ∧ x ≤ 255) ∧ e = .returned (.int .i64 x) ∧ w' = w := by
 by_cases h0 : len = 0
 ·subst h0
  go_enter Tryz.func14, Tryz.ntmps14
  go_wp2
  go_ret
  exact ⟨0, ⟨by omega, by omega⟩, rfl, rfl⟩
 ·obtain ⟨b, off, f, hA, hc⟩ := hr
  obtain ⟨hb, rfl⟩ := hA (by omega)
  obtain ⟨j, hj⟩ : ∃ j, j = (k * 5 + 1) % len := ⟨_, rfl⟩
  have hjl : j < len := by rw [hj]; exact Nat.mod_lt _ (by omega)
  obtain ⟨m, hm⟩ : ∃ m : Int, m = (k : Int) * 5 := ⟨_, rfl⟩
  have hw1 : IntKind.i64.wrap ((k : Int) * 5) = m := by rw [IntKind.wrap_i64]; omega
  have hw2 : IntKind.i64.wrap (m + 1) = m + 1 := by rw [IntKind.wrap_i64]; omega
  have hji : ((m + 1) % (len : Int)) = (j : Int) := by rw [hj, hm]; rfl
  have hm0 : 0 ≤ m := by omega
  have hm1 : m ≤ 1000 := by omega
  obtain ⟨hcj, hf0, hf1⟩ := hc j hjl
  have hne : ((len : Int) == 0) = false := by simp; omega
  have hl0 : (len : Int) ≠ 0 := by omega
  have hl1 : (0 : Int) < (len : Int) := by omega
  have hb1 : (0 : Int) ≤ (j : Int) := by omega
  have hb2 : (j : Int) < (len : Int) := by omega
  clear hA hc hj hm hk
  generalize f j = v at hcj hf0 hf1
  go_enter Tryz.func14, Tryz.ntmps14
  go_wp2
  go_ret
  exact ⟨v, ⟨hf0, hf1⟩, by first | rfl | go_num, rfl⟩
end Go.Proofs.YtieophdbhnpncaaGreat.Draw
