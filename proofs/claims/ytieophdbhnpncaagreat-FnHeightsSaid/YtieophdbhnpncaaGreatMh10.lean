/- RegOk, RegHas in one text. -/
import Derived.Test.YtieophdbhnpncaaGreatMh09
import Derived.Test.YtieophdbhnpncaaGreatMh00
import Derived.Deep.RegionHeld3

namespace Go.Proofs.YtieophdbhnpncaaGreat.Reg
set_option linter.unusedVariables false
open Go.RowKit Go.Proofs.YtieophdbhnpncaaGreat.Pure Go.Proofs.YtieophdbhnpncaaGreat.Cell Go.Joins

def InTo (xs : List Int) (k : Nat) : Prop := ∀ x ∈ xs.take k, 0 ≤ x ∧ x ≤ 255
theorem InTo.zero (xs : List Int) : InTo xs 0 := fun x hx => by simp at hx
theorem InTo.next {xs : List Int} {k : Nat} (h : InTo xs k) (hk : k < xs.length) (h0 : 0 ≤ xs[k]) (h1 : xs[k] ≤ 255) : InTo xs (k + 1) := by
 intro x hx
 rw [List.take_succ_eq_append_getElem hk, List.mem_append, List.mem_singleton] at hx
 rcases hx with hx | rfl
 ·exact h x hx
 ·exact ⟨h0, h1⟩
theorem InTo.all {xs : List Int} {k : Nat} (h : InTo xs k) (hk : k = xs.length) : ∀ x ∈ xs, 0 ≤ x ∧ x ≤ 255 := by
 subst hk
 unfold InTo at h
 rwa [List.take_length] at h
theorem not_ok_at {xs : List Int} {k : Nat} (hk : k < xs.length) (h : ¬ (0 ≤ xs[k] ∧ xs[k] ≤ 255)) : okRB xs = false := okRB_not fun ho => h (ho.2 _ (List.getElem_mem hk))
set_option maxRecDepth 100000 in
set_option maxHeartbeats 1000000 in
theorem iRegionOk (w : World) (A : Option Addr) (n cap B : Nat) (xs : List Int) (hx : xs.length = n) (hn : (n : Int) ≤ 9223372036854775807) (h : RowB w B A xs) (hB : B ≤ w.heap.size) :
  Calls Tryz.prog 56 #[.agg #[.slice A n cap]] w (Bol (okRB xs) w) := by
 obtain ⟨b, off, hA, hc⟩ := h
 have HA := Lib.hid hA
 have HC := Lib.hid hc
 have HX := Lib.hid hx
 clear hA hc hx
 have HBw := Lib.hid (fun (o : Obj) => below_alloc1 w o)
 go_enter Tryz.func56, Tryz.ntmps56
 by_cases h8 : (n : Int) ≤ 8
 ·go_wp2_with fail
  go_loop [12] (fun i => ∃ k : Nat, k ≤ n ∧ i = .int .i64 k ∧ Hid (InTo xs k)) (fun i => n - (intOf i).toNat)
  case atStart => exact ⟨0, Nat.zero_le _, rfl, Lib.hid (InTo.zero xs)⟩
  case round =>
   obtain ⟨k, hk, rfl, HI⟩ := hrel
   by_cases hlt : k < n
   ·have hkx : k < xs.length := by have := HX.out; omega
    obtain ⟨rfl, hbw⟩ := HA.out (by omega)
    have hc1 : (w.alloc (.cells #[.slice (some ⟨b, off, none⟩) n cap] 26)).cell? ⟨b, off + k, none⟩ = some (.int .i64 xs[k]) :=
     ((HBw.out _).cell (p := ⟨b, off + k, none⟩) (by show b < _; omega)).trans (HC.out k xs[k] (List.getElem?_eq_getElem hkx))
    have HNx := Lib.hid (fun h0 h1 => HI.out.next hkx h0 h1)
    have HNo := Lib.hid (fun h => not_ok_at hkx h)
    generalize xs[k] = x at hc1 HNx HNo
    by_cases h0 : 0 ≤ x
    ·by_cases h1 : x ≤ 255
     ·go_wp2
      go_round
      case rel => exact ⟨k + 1, by omega, by go_num, Lib.hid (HNx.out h0 h1)⟩
      case measure => (simp [intOf] <;> omega)
     ·have HR := Lib.hid (HNo.out (fun h => h1 h.2))
      go_wp2
      go_ret
      exact mkBol (by rw [HR.out]) (HBw.out _)
    ·have HR := Lib.hid (HNo.out (fun h => h0 h.1))
     go_wp2
     go_ret
     exact mkBol (by rw [HR.out]) (HBw.out _)
   ·obtain rfl : k = n := by omega
    have HR := Lib.hid (show okRB xs = true from okRB_of ⟨by have := HX.out; omega, HI.out.all (by rw [HX.out])⟩)
    go_wp2
    go_ret
    exact mkBol (by rw [HR.out]) (HBw.out _)
 ·have HR := Lib.hid (show okRB xs = false from okRB_not fun ho => by have := ho.1; have := HX.out; omega)
  go_wp2
  go_ret
  exact mkBol (by rw [HR.out]) (HBw.out _)

set_option maxRecDepth 100000 in
set_option maxHeartbeats 1000000 in
theorem sRegionOk (w : World) (A : Option Addr) (n cap B : Nat) (xs : List Int) (hx : xs.length = n) (hn : (n : Int) ≤ 9223372036854775807) (h : RowB w B A xs) (hB : B ≤ w.heap.size) :
  Calls Tryz.prog 46 #[.agg #[.slice A n cap]] w (Bol (okRB xs) w) := by
 obtain ⟨b, off, hA, hc⟩ := h
 have HA := Lib.hid hA
 have HC := Lib.hid hc
 have HX := Lib.hid hx
 clear hA hc hx
 have HBw := Lib.hid (fun (o : Obj) => below_alloc1 w o)
 go_enter Tryz.func46, Tryz.ntmps46
 go_wp2_with fail
 go_loop [3] (fun i => ∃ k : Nat, k ≤ n ∧ i = .int .i64 k ∧ Hid (InTo xs k)) (fun i => n - (intOf i).toNat)
 case atStart => exact ⟨0, Nat.zero_le _, rfl, Lib.hid (InTo.zero xs)⟩
 case round =>
  obtain ⟨k, hk, rfl, HI⟩ := hrel
  by_cases hlt : k < n
  ·have hkx : k < xs.length := by have := HX.out; omega
   obtain ⟨rfl, hbw⟩ := HA.out (by omega)
   have hc1 : (w.alloc (.cells #[.slice (some ⟨b, off, none⟩) n cap] 26)).cell? ⟨b, off + k, none⟩ = some (.int .i64 xs[k]) :=
    ((HBw.out _).cell (p := ⟨b, off + k, none⟩) (by show b < _; omega)).trans (HC.out k xs[k] (List.getElem?_eq_getElem hkx))
   have HNx := Lib.hid (fun h0 h1 => HI.out.next hkx h0 h1)
   have HNo := Lib.hid (fun h => not_ok_at hkx h)
   generalize xs[k] = x at hc1 HNx HNo
   go_wp2_with fail
   refine (l01In x 0 255 _).mono ?_
   rintro e w1 ⟨rfl, rfl⟩
   by_cases h0 : 0 ≤ x ∧ x ≤ 255
   ·rw [inB_of h0]
    go_wp2
    go_round
    case rel => exact ⟨k + 1, by omega, by go_num, Lib.hid (HNx.out h0.1 h0.2)⟩
    case measure => (simp [intOf] <;> omega)
   ·rw [inB_not h0]
    have HR := Lib.hid (HNo.out h0)
    go_wp2
    go_ret
    exact mkBol (by rw [HR.out]) (HBw.out _)
  ·obtain rfl : k = n := by omega
   by_cases h8 : (k : Int) ≤ 8
   ·have HR := Lib.hid (show okRB xs = true from okRB_of ⟨by have := HX.out; omega, HI.out.all (by rw [HX.out])⟩)
    go_wp2
    go_ret
    exact mkBol (by rw [HR.out]) (HBw.out _)
   ·have HR := Lib.hid (show okRB xs = false from okRB_not fun ho => by have := ho.1; have := HX.out; omega)
    go_wp2
    go_ret
    exact mkBol (by rw [HR.out]) (HBw.out _)
end Go.Proofs.YtieophdbhnpncaaGreat.Reg

namespace Go.Proofs.YtieophdbhnpncaaGreat.Reg
set_option linter.unusedVariables false
open Go.RowKit Go.Proofs.YtieophdbhnpncaaGreat.Pure Go.Proofs.YtieophdbhnpncaaGreat.Cell Go.Joins

def kindN (r : Int) (k : Nat) : Int := if bitB r k then 1 else 0
theorem kindN_no {r : Int} {k : Nat} (h : bitB r k = false) : kindN r k = 0 := by unfold kindN; rw [h]; rfl
theorem kindN_yes {r : Int} {k : Nat} (h : bitB r k = true) : kindN r k = 1 := by unfold kindN; rw [h]; rfl

set_option maxHeartbeats 1000000 in
theorem iKindAt (r : Int) (k : Nat) (h0 : 0 ≤ r) (h1 : r ≤ 255) (hk : k < 8) (w : World) :
  Calls Tryz.prog 63 #[.int .i64 r, .int .i64 (k : Int)] w fun e w' => e = .returned (.int .i64 (kindN r k)) ∧ w' = w := by
 cases hb : bitB r k with
 | false =>
  have hz := and_no h0 h1 hk hb
  have HK := Lib.hid (kindN_no hb)
  clear hb h0 h1
  have hcs : k = 0 ∨ k = 1 ∨ k = 2 ∨ k = 3 ∨ k = 4 ∨ k = 5 ∨ k = 6 ∨ k = 7 := by omega
  clear hk
  rcases hcs with rfl | rfl | rfl | rfl | rfl | rfl | rfl | rfl
  all_goals
   simp only [Int.reducePow] at hz
   go_enter Tryz.func63, Tryz.ntmps63
   go_wp2
   go_ret
   exact ⟨by rw [HK.out]; rfl, rfl⟩
 | true =>
  have hz := and_yes h0 h1 hk hb
  have HK := Lib.hid (kindN_yes hb)
  clear hb h0 h1
  have hcs : k = 0 ∨ k = 1 ∨ k = 2 ∨ k = 3 ∨ k = 4 ∨ k = 5 ∨ k = 6 ∨ k = 7 := by omega
  clear hk
  rcases hcs with rfl | rfl | rfl | rfl | rfl | rfl | rfl | rfl
  all_goals
   simp only [Int.reducePow] at hz
   go_enter Tryz.func63, Tryz.ntmps63
   go_wp2
   go_ret
   exact ⟨by rw [HK.out]; rfl, rfl⟩

set_option maxRecDepth 100000 in
set_option maxHeartbeats 1000000 in
theorem iRowAt (w : World) (A : Option Addr) (n cap B : Nat) (xs : List Int) (hx : xs.length = n) (hn : (n : Int) ≤ 9223372036854775807) (h : RowB w B A xs) (hB : B ≤ w.heap.size) (y : Nat) :
  Calls Tryz.prog 95 #[.agg #[.slice A n cap], .int .i64 (y : Int)] w (Num (rowD xs y) w) := by
 obtain ⟨b, off, hA, hc⟩ := h
 have HBw := Lib.hid (fun (o : Obj) => below_alloc1 w o)
 by_cases hlt : y < n
 ·have hkx : y < xs.length := by omega
  obtain ⟨rfl, hbw⟩ := hA (by omega)
  have hc1 : (w.alloc (.cells #[.slice (some ⟨b, off, none⟩) n cap] 26)).cell? ⟨b, off + y, none⟩ = some (.int .i64 xs[y]) :=
   ((HBw.out _).cell (p := ⟨b, off + y, none⟩) (by show b < _; omega)).trans (hc y xs[y] (List.getElem?_eq_getElem hkx))
  have HR := Lib.hid (rowD_at (List.getElem?_eq_getElem hkx))
  generalize xs[y] = r at hc1 HR
  clear hA hc hx hkx
  go_enter Tryz.func95, Tryz.ntmps95
  go_wp2
  go_ret
  exact mkNum (by rw [HR.out]) (HBw.out _)
 ·have HR := Lib.hid (rowD_out (xs := xs) (y := y) (by omega))
  clear hA hc hx
  go_enter Tryz.func95, Tryz.ntmps95
  go_wp2
  go_ret
  exact mkNum (by rw [HR.out]) (HBw.out _)

set_option maxRecDepth 100000 in
set_option maxHeartbeats 4000000 in
theorem sHas (w : World) (A : Option Addr) (n cap B : Nat) (xs : List Int) (hx : xs.length = n) (ho : okR xs) (h : RowB w B A xs) (hB : B ≤ w.heap.size) (x y : Nat) (hx8 : x < 8) (hy8 : y < 8) :
  Calls Tryz.prog 74 #[.agg #[.slice A n cap], .agg #[.int .i64 (x : Int), .int .i64 (y : Int)]] w (Bol (bitB (rowD xs y) x) w) := by
 obtain ⟨b, off, hA, hc⟩ := h
 have HBw := Lib.hid (fun (o o' : Obj) => below_alloc2 w o o')
 have hn8 : n ≤ 8 := by have := ho.1; omega
 have HR := Lib.hid (rowD_ok ho y)
 by_cases hlt : y < n
 ·have hkx : y < xs.length := by omega
  obtain ⟨rfl, hbw⟩ := hA (by omega)
  have hc1 : ∀ W, Below w.heap.size w W → W.cell? ⟨b, off + y, none⟩ = some (.int .i64 (rowD xs y)) := fun W hW =>
   (hW.cell (p := ⟨b, off + y, none⟩) (by show b < _; omega)).trans (by rw [rowD_at (List.getElem?_eq_getElem hkx)]; exact hc y xs[y] (List.getElem?_eq_getElem hkx))
  have HC := Lib.hid (fun (o o' : Obj) => hc1 _ (HBw.out o o'))
  clear hA hc hx hkx hc1 ho
  generalize rowD xs y = r at HC HR ⊢
  obtain ⟨r0, r1⟩ := HR.out
  cases hb : bitB r x with
  | false =>
   have hz := shr_no r0 r1 hx8 hb
   clear hb r0 r1 HR
   have hcs : x = 0 ∨ x = 1 ∨ x = 2 ∨ x = 3 ∨ x = 4 ∨ x = 5 ∨ x = 6 ∨ x = 7 := by omega
   clear hx8
   rcases hcs with rfl | rfl | rfl | rfl | rfl | rfl | rfl | rfl
   all_goals
    have hcell := HC.out
    (try simp only [Int.reducePow, Int.pow_zero, Int.ediv_one] at hz)
    go_enter Tryz.func74, Tryz.ntmps74
    go_wp2_with fail
    go_quiet (fail)
    go_wp2
    go_ret
    exact mkBol rfl (drewN_below (HBw.out _ _) _)
  | true =>
   have hz := shr_yes r0 r1 hx8 hb
   clear hb r0 r1 HR
   have hcs : x = 0 ∨ x = 1 ∨ x = 2 ∨ x = 3 ∨ x = 4 ∨ x = 5 ∨ x = 6 ∨ x = 7 := by omega
   clear hx8
   rcases hcs with rfl | rfl | rfl | rfl | rfl | rfl | rfl | rfl
   all_goals
    have hcell := HC.out
    (try simp only [Int.reducePow, Int.pow_zero, Int.ediv_one] at hz)
    go_enter Tryz.func74, Tryz.ntmps74
    go_wp2_with fail
    go_quiet (fail)
    go_wp2
    go_ret
    exact mkBol rfl (drewN_below (HBw.out _ _) _)
 ·have hE := Lib.hid (show bitB (rowD xs y) x = false by rw [rowD_out (by omega)]; exact bitB_zero x)
  clear hA hc hx ho HR hx8
  go_enter Tryz.func74, Tryz.ntmps74
  go_wp2_with fail
  go_quiet (fail)
  go_wp2
  go_ret
  exact mkBol hE.out.symm (drewN_below (HBw.out _ _) _)
end Go.Proofs.YtieophdbhnpncaaGreat.Reg
