/- RegOk, RegHas, CelM in one text. -/
import Derived.Test.YtmenmepdmojnfaaGreatDoorMx06
import Derived.Test.YtmenmepdmojnfaaGreatDoorMx01
import Derived.Deep.RegionHeld3
import Derived.OwnWalk
import Derived.Laws.AppendOwn
import Derived.Deep.AppendLies
import Derived.Laws.OwnMore

namespace Go.Proofs.YtmenmepdmojnfaaGreatDoor.Reg
set_option linter.unusedVariables false
open Go.RowKit Go.Proofs.YtmenmepdmojnfaaGreatDoor.Pure Go.Proofs.YtmenmepdmojnfaaGreatDoor.Cell Go.Joins

def InTo (xs : List Int) (k : Nat) : Prop := ∀ x ∈ xs.take k, 0 ≤ x ∧ x ≤ 255
theorem InTo.zero (xs : List Int) : InTo xs 0 := fun x hx => by simp at hx
theorem InTo.next {xs : List Int} {k : Nat} (h : InTo xs k) (hk : k < xs.length) (h0 : 0 ≤ xs[k]) (h1 : xs[k] ≤ 255) : InTo xs (k + 1) := by
 intro x hx
 rw [List.take_succ_eq_append_getElem hk, List.mem_append, List.mem_singleton] at hx
 rcases hx with hx | rfl
 ·exact h x hx
 ·exact ⟨h0, h1⟩
theorem InTo.all {xs : List Int} {k : Nat} (h : InTo xs k) (hk : k = xs.length) : ∀ x ∈ xs, 0 ≤ x ∧ x ≤ 255 := by
 subst hk
 unfold InTo at h
 rwa [List.take_length] at h
theorem not_ok_at {xs : List Int} {k : Nat} (hk : k < xs.length) (h : ¬ (0 ≤ xs[k] ∧ xs[k] ≤ 255)) : okRB xs = false := okRB_not fun ho => h (ho.2 _ (List.getElem_mem hk))
set_option maxRecDepth 100000 in
set_option maxHeartbeats 1000000 in
theorem iRegionOk (w : World) (A : Option Addr) (n cap B : Nat) (xs : List Int) (hx : xs.length = n) (hn : (n : Int) ≤ 9223372036854775807) (h : RowB w B A xs) (hB : B ≤ w.heap.size) :
  Calls Tryz.prog 90 #[.agg #[.slice A n cap]] w (Bol (okRB xs) w) := by
 obtain ⟨b, off, hA, hc⟩ := h
 have HA := Lib.hid hA
 have HC := Lib.hid hc
 have HX := Lib.hid hx
 clear hA hc hx
 have HBw := Lib.hid (fun (o : Obj) => below_alloc1 w o)
 go_enter Tryz.func90, Tryz.ntmps90
 by_cases h8 : (n : Int) ≤ 8
 ·go_wp2_with fail
  go_loop [12] (fun i => ∃ k : Nat, k ≤ n ∧ i = .int .i64 k ∧ Hid (InTo xs k)) (fun i => n - (intOf i).toNat)
  case atStart => exact ⟨0, Nat.zero_le _, rfl, Lib.hid (InTo.zero xs)⟩
  case round =>
   obtain ⟨k, hk, rfl, HI⟩ := hrel
   by_cases hlt : k < n
   ·have hkx : k < xs.length := by have := HX.out; omega
    obtain ⟨rfl, hbw⟩ := HA.out (by omega)
    have hc1 : (w.alloc (.cells #[.slice (some ⟨b, off, none⟩) n cap] 26)).cell? ⟨b, off + k, none⟩ = some (.int .i64 xs[k]) :=
     ((HBw.out _).cell (p := ⟨b, off + k, none⟩) (by show b < _; omega)).trans (HC.out k xs[k] (List.getElem?_eq_getElem hkx))
    have HNx := Lib.hid (fun h0 h1 => HI.out.next hkx h0 h1)
    have HNo := Lib.hid (fun h => not_ok_at hkx h)
    generalize xs[k] = x at hc1 HNx HNo
    by_cases h0 : 0 ≤ x
    ·by_cases h1 : x ≤ 255
     ·go_wp2
      go_round
      case rel => exact ⟨k + 1, by omega, by go_num, Lib.hid (HNx.out h0 h1)⟩
      case measure => (simp [intOf] <;> omega)
     ·have HR := Lib.hid (HNo.out (fun h => h1 h.2))
      go_wp2
      go_ret
      exact mkBol (by rw [HR.out]) (HBw.out _)
    ·have HR := Lib.hid (HNo.out (fun h => h0 h.1))
     go_wp2
     go_ret
     exact mkBol (by rw [HR.out]) (HBw.out _)
   ·obtain rfl : k = n := by omega
    have HR := Lib.hid (show okRB xs = true from okRB_of ⟨by have := HX.out; omega, HI.out.all (by rw [HX.out])⟩)
    go_wp2
    go_ret
    exact mkBol (by rw [HR.out]) (HBw.out _)
 ·have HR := Lib.hid (show okRB xs = false from okRB_not fun ho => by have := ho.1; have := HX.out; omega)
  go_wp2
  go_ret
  exact mkBol (by rw [HR.out]) (HBw.out _)

set_option maxRecDepth 100000 in
set_option maxHeartbeats 1000000 in
theorem sRegionOk (w : World) (A : Option Addr) (n cap B : Nat) (xs : List Int) (hx : xs.length = n) (hn : (n : Int) ≤ 9223372036854775807) (h : RowB w B A xs) (hB : B ≤ w.heap.size) :
  Calls Tryz.prog 44 #[.agg #[.slice A n cap]] w (Bol (okRB xs) w) := by
 obtain ⟨b, off, hA, hc⟩ := h
 have HA := Lib.hid hA
 have HC := Lib.hid hc
 have HX := Lib.hid hx
 clear hA hc hx
 have HBw := Lib.hid (fun (o : Obj) => below_alloc1 w o)
 go_enter Tryz.func44, Tryz.ntmps44
 go_wp2_with fail
 go_loop [3] (fun i => ∃ k : Nat, k ≤ n ∧ i = .int .i64 k ∧ Hid (InTo xs k)) (fun i => n - (intOf i).toNat)
 case atStart => exact ⟨0, Nat.zero_le _, rfl, Lib.hid (InTo.zero xs)⟩
 case round =>
  obtain ⟨k, hk, rfl, HI⟩ := hrel
  by_cases hlt : k < n
  ·have hkx : k < xs.length := by have := HX.out; omega
   obtain ⟨rfl, hbw⟩ := HA.out (by omega)
   have hc1 : (w.alloc (.cells #[.slice (some ⟨b, off, none⟩) n cap] 26)).cell? ⟨b, off + k, none⟩ = some (.int .i64 xs[k]) :=
    ((HBw.out _).cell (p := ⟨b, off + k, none⟩) (by show b < _; omega)).trans (HC.out k xs[k] (List.getElem?_eq_getElem hkx))
   have HNx := Lib.hid (fun h0 h1 => HI.out.next hkx h0 h1)
   have HNo := Lib.hid (fun h => not_ok_at hkx h)
   generalize xs[k] = x at hc1 HNx HNo
   go_wp2_with fail
   refine (l01In x 0 255 _).mono ?_
   rintro e w1 ⟨rfl, rfl⟩
   by_cases h0 : 0 ≤ x ∧ x ≤ 255
   ·rw [inB_of h0]
    go_wp2
    go_round
    case rel => exact ⟨k + 1, by omega, by go_num, Lib.hid (HNx.out h0.1 h0.2)⟩
    case measure => (simp [intOf] <;> omega)
   ·rw [inB_not h0]
    have HR := Lib.hid (HNo.out h0)
    go_wp2
    go_ret
    exact mkBol (by rw [HR.out]) (HBw.out _)
  ·obtain rfl : k = n := by omega
   by_cases h8 : (k : Int) ≤ 8
   ·have HR := Lib.hid (show okRB xs = true from okRB_of ⟨by have := HX.out; omega, HI.out.all (by rw [HX.out])⟩)
    go_wp2
    go_ret
    exact mkBol (by rw [HR.out]) (HBw.out _)
   ·have HR := Lib.hid (show okRB xs = false from okRB_not fun ho => by have := ho.1; have := HX.out; omega)
    go_wp2
    go_ret
    exact mkBol (by rw [HR.out]) (HBw.out _)
end Go.Proofs.YtmenmepdmojnfaaGreatDoor.Reg

namespace Go.Proofs.YtmenmepdmojnfaaGreatDoor.Reg
set_option linter.unusedVariables false
open Go.RowKit Go.Proofs.YtmenmepdmojnfaaGreatDoor.Pure Go.Proofs.YtmenmepdmojnfaaGreatDoor.Cell Go.Joins

def kindN (r : Int) (k : Nat) : Int := if bitB r k then 1 else 0
theorem kindN_no {r : Int} {k : Nat} (h : bitB r k = false) : kindN r k = 0 := by unfold kindN; rw [h]; rfl
theorem kindN_yes {r : Int} {k : Nat} (h : bitB r k = true) : kindN r k = 1 := by unfold kindN; rw [h]; rfl

set_option maxHeartbeats 1000000 in
theorem iKindAt (r : Int) (k : Nat) (h0 : 0 ≤ r) (h1 : r ≤ 255) (hk : k < 8) (w : World) :
  Calls Tryz.prog 131 #[.int .i64 r, .int .i64 (k : Int)] w fun e w' => e = .returned (.int .i64 (kindN r k)) ∧ w' = w := by
 cases hb : bitB r k with
 | false =>
  have hz := and_no h0 h1 hk hb
  have HK := Lib.hid (kindN_no hb)
  clear hb h0 h1
  have hcs : k = 0 ∨ k = 1 ∨ k = 2 ∨ k = 3 ∨ k = 4 ∨ k = 5 ∨ k = 6 ∨ k = 7 := by omega
  clear hk
  rcases hcs with rfl | rfl | rfl | rfl | rfl | rfl | rfl | rfl
  all_goals
   simp only [Int.reducePow] at hz
   go_enter Tryz.func131, Tryz.ntmps131
   go_wp2
   go_ret
   exact ⟨by rw [HK.out]; rfl, rfl⟩
 | true =>
  have hz := and_yes h0 h1 hk hb
  have HK := Lib.hid (kindN_yes hb)
  clear hb h0 h1
  have hcs : k = 0 ∨ k = 1 ∨ k = 2 ∨ k = 3 ∨ k = 4 ∨ k = 5 ∨ k = 6 ∨ k = 7 := by omega
  clear hk
  rcases hcs with rfl | rfl | rfl | rfl | rfl | rfl | rfl | rfl
  all_goals
   simp only [Int.reducePow] at hz
   go_enter Tryz.func131, Tryz.ntmps131
   go_wp2
   go_ret
   exact ⟨by rw [HK.out]; rfl, rfl⟩

set_option maxRecDepth 100000 in
set_option maxHeartbeats 4000000 in
theorem sHas (w : World) (A : Option Addr) (n cap B : Nat) (xs : List Int) (hx : xs.length = n) (ho : okR xs) (h : RowB w B A xs) (hB : B ≤ w.heap.size) (x y : Nat) (hx8 : x < 8) (hy8 : y < 8) :
  Calls Tryz.prog 72 #[.agg #[.slice A n cap], .agg #[.int .i64 (x : Int), .int .i64 (y : Int)]] w (Bol (bitB (rowD xs y) x) w) := by
 obtain ⟨b, off, hA, hc⟩ := h
 have HBw := Lib.hid (fun (o o' : Obj) => below_alloc2 w o o')
 have hn8 : n ≤ 8 := by have := ho.1; omega
 have HR := Lib.hid (rowD_ok ho y)
 by_cases hlt : y < n
 ·have hkx : y < xs.length := by omega
  obtain ⟨rfl, hbw⟩ := hA (by omega)
  have hc1 : ∀ W, Below w.heap.size w W → W.cell? ⟨b, off + y, none⟩ = some (.int .i64 (rowD xs y)) := fun W hW =>
   (hW.cell (p := ⟨b, off + y, none⟩) (by show b < _; omega)).trans (by rw [rowD_at (List.getElem?_eq_getElem hkx)]; exact hc y xs[y] (List.getElem?_eq_getElem hkx))
  have HC := Lib.hid (fun (o o' : Obj) => hc1 _ (HBw.out o o'))
  clear hA hc hx hkx hc1 ho
  generalize rowD xs y = r at HC HR ⊢
  obtain ⟨r0, r1⟩ := HR.out
  cases hb : bitB r x with
  | false =>
   have hz := shr_no r0 r1 hx8 hb
   clear hb r0 r1 HR
   have hcs : x = 0 ∨ x = 1 ∨ x = 2 ∨ x = 3 ∨ x = 4 ∨ x = 5 ∨ x = 6 ∨ x = 7 := by omega
   clear hx8
   rcases hcs with rfl | rfl | rfl | rfl | rfl | rfl | rfl | rfl
   all_goals
    have hcell := HC.out
    (try simp only [Int.reducePow, Int.pow_zero, Int.ediv_one] at hz)
    go_enter Tryz.func72, Tryz.ntmps72
    go_wp2_with fail
    go_quiet (fail)
    go_wp2
    go_ret
    exact mkBol rfl (drewN_below (HBw.out _ _) _)
  | true =>
   have hz := shr_yes r0 r1 hx8 hb
   clear hb r0 r1 HR
   have hcs : x = 0 ∨ x = 1 ∨ x = 2 ∨ x = 3 ∨ x = 4 ∨ x = 5 ∨ x = 6 ∨ x = 7 := by omega
   clear hx8
   rcases hcs with rfl | rfl | rfl | rfl | rfl | rfl | rfl | rfl
   all_goals
    have hcell := HC.out
    (try simp only [Int.reducePow, Int.pow_zero, Int.ediv_one] at hz)
    go_enter Tryz.func72, Tryz.ntmps72
    go_wp2_with fail
    go_quiet (fail)
    go_wp2
    go_ret
    exact mkBol rfl (drewN_below (HBw.out _ _) _)
 ·have hE := Lib.hid (show bitB (rowD xs y) x = false by rw [rowD_out (by omega)]; exact bitB_zero x)
  clear hA hc hx ho HR hx8
  go_enter Tryz.func72, Tryz.ntmps72
  go_wp2_with fail
  go_quiet (fail)
  go_wp2
  go_ret
  exact mkBol hE.out.symm (drewN_below (HBw.out _ _) _)
end Go.Proofs.YtmenmepdmojnfaaGreatDoor.Reg

namespace Go.Proofs.YtmenmepdmojnfaaGreatDoor.Cels
set_option linter.unusedVariables false
open Go.RowKit Go.Proofs.YtmenmepdmojnfaaGreatDoor.Base Go.Proofs.YtmenmepdmojnfaaGreatDoor.Cell Go.Joins

def rowC (L : List (Int × Int)) : List Value := L.flatMap fun p => [.int .i64 p.1, .int .i64 p.2]
theorem rowC_snoc (L : List (Int × Int)) (p : Int × Int) : rowC (L ++ [p]) = rowC L ++ [.int .i64 p.1, .int .i64 p.2] := by unfold rowC; simp
theorem rowC_length (L : List (Int × Int)) : (rowC L).length = L.length * 2 := by
 induction L with
 | nil => rfl
 | cons p L ih => unfold rowC at ih ⊢; simp [ih]; omega
def NbPost (L : List (Int × Int)) (w : World) (e : Ending) (w' : World) : Prop :=
 ∃ (A : Option Addr) (cap : Nat), e = .returned (.slice A L.length cap) ∧ w'.ownsRow w.heap.size 67 2 (.slice A L.length cap) L.length (rowC L) ∧ Below w.heap.size w w'

theorem cellInfo : (Tryz.prog.info? 67).map (fun i => (i.zero, i.size, i.bytes)) = some (some (.agg #[.int .i64 0, .int .i64 0]), 2, 16) := by kernel_rfl

theorem rowC_at (L : List (Int × Int)) : ∀ (j : Nat) (p : Int × Int), L[j]? = some p → (rowC L)[j * 2]? = some (.int .i64 p.1) ∧ (rowC L)[j * 2 + 1]? = some (.int .i64 p.2) := by
 induction L with
 | nil => intro j p h; simp at h
 | cons q L ih =>
  intro j p h
  have e : rowC (q :: L) = .int .i64 q.1 :: .int .i64 q.2 :: rowC L := rfl
  rw [e]
  cases j with
  | zero => simp at h; subst h; exact ⟨rfl, rfl⟩
  | succ j =>
   have h' : L[j]? = some p := by simpa using h
   rw [show (j + 1) * 2 = j * 2 + 1 + 1 from by omega]
   exact ih j p h'
def RowC (w : World) (A : Option Addr) (L : List (Int × Int)) : Prop :=
 ∃ b off : Nat, (0 < L.length → A = some ⟨b, off, none⟩ ∧ b < w.heap.size) ∧ ∀ j p, L[j]? = some p → w.cell? ⟨b, off + j * 2, none⟩ = some (.int .i64 p.1) ∧ w.cell? ⟨b, off + j * 2 + 1, none⟩ = some (.int .i64 p.2)
theorem rowC_own {w : World} {base e n cap : Nat} {A : Option Addr} {L : List (Int × Int)} (h : w.ownsRow base e 2 (.slice A n cap) n (rowC L)) : RowC w A L := by
 have hn : L.length = n := by have := h.1; rw [rowC_length] at this; omega
 by_cases h0 : L.length = 0
 ·have : L = [] := List.eq_nil_of_length_eq_zero h0
  subst this
  exact ⟨0, 0, fun h => by simp at h, fun j u hu => by simp at hu⟩
 ·obtain ⟨g, c, hv, _, hlt⟩ := h.form (by omega)
  injection hv with hA
  subst hA
  refine ⟨g, 0, fun _ => ⟨rfl, hlt⟩, fun j p hp => ?_⟩
  obtain ⟨h1, h2⟩ := rowC_at L j p hp
  have c1 := h.cells (g := g) rfl _ _ h1
  have c2 := h.cells (g := g) rfl _ _ h2
  rw [add_plain] at c1 c2
  simp only [Nat.zero_add]
  exact ⟨c1, c2⟩
theorem RowC.below {w w' : World} {B : Nat} {A : Option Addr} {L : List (Int × Int)} (h : RowC w A L) (hb : Below B w w') (hB : ∀ b off : Nat, A = some ⟨b, off, none⟩ → b < B) : RowC w' A L := by
 obtain ⟨b, off, h1, h2⟩ := h
 refine ⟨b, off, fun hl => ⟨(h1 hl).1, Nat.lt_of_lt_of_le (h1 hl).2 hb.size⟩, fun j p hp => ?_⟩
 have hl : 0 < L.length := by
  rcases Nat.eq_zero_or_pos L.length with h0 | h0
  ·rw [List.eq_nil_of_length_eq_zero h0] at hp; simp at hp
  ·exact h0
 rw [hb.cell (p := ⟨b, off + j * 2, none⟩) (hB b off (h1 hl).1), hb.cell (p := ⟨b, off + j * 2 + 1, none⟩) (hB b off (h1 hl).1)]
 exact h2 j p hp

set_option maxRecDepth 100000 in
set_option maxHeartbeats 1000000 in
theorem eqCells (w : World) (A A' : Option Addr) (cap cap' : Nat) (L : List (Int × Int)) (hl : L.length ≤ 1048576) (h1 : RowC w A L) (h2 : RowC w A' L) :
  Calls Tryz.prog 34 #[.slice A L.length cap, .slice A' L.length cap'] w (Bol true w) := by
 obtain ⟨b, off, hA, hc⟩ := h1
 obtain ⟨b', off', hA', hc'⟩ := h2
 have H1 := Lib.hid hA
 have H2 := Lib.hid hA'
 have H3 := Lib.hid hc
 have H4 := Lib.hid hc'
 clear hA hA' hc hc'
 have hnn : (((L.length : Nat) : Int) != ((L.length : Nat) : Int)) = false := by simp
 go_enter Tryz.func34, Tryz.ntmps34
 go_wp2_with fail
 go_loopw [5] (fun i wr => ∃ k : Nat, k ≤ L.length ∧ i = .int .i64 k ∧ Below w.heap.size w wr) (fun i _ => L.length - (intOf i).toNat)
 case atStart => exact ⟨0, Nat.zero_le _, rfl, Below.refl _ _⟩
 case round =>
  obtain ⟨k, hk, rfl, hb⟩ := hrel
  have hbs := hb.size
  by_cases hlt : k < L.length
  ·obtain ⟨rfl, hbw⟩ := H1.out (by omega)
   obtain ⟨rfl, hbw'⟩ := H2.out (by omega)
   obtain ⟨c1, c2⟩ := H3.out k L[k] (List.getElem?_eq_getElem hlt)
   obtain ⟨d1, d2⟩ := H4.out k L[k] (List.getElem?_eq_getElem hlt)
   have c1' := (hb.cell (p := ⟨b, off + k * 2, none⟩) hbw).trans c1
   have c2' := (hb.cell (p := ⟨b, off + k * 2 + 1, none⟩) hbw).trans c2
   have d1' := (hb.cell (p := ⟨b', off' + k * 2, none⟩) hbw').trans d1
   have d2' := (hb.cell (p := ⟨b', off' + k * 2 + 1, none⟩) hbw').trans d2
   clear c1 c2 d1 d2
   generalize L[k].1 = x at c1' c2' d1' d2'
   generalize L[k].2 = y at c1' c2' d1' d2'
   have HE := Lib.hid (show eqB x y x y = true from eqB_iff.2 ⟨rfl, rfl⟩)
   go_wp2_with fail
   go_region_held3 (fun w' => w'.cell? ⟨b, off + k * 2, none⟩ = some (.int .i64 x) ∧ w'.cell? ⟨b, off + k * 2 + 1, none⟩ = some (.int .i64 y) ∧ w'.cell? ⟨b', off' + k * 2, none⟩ = some (.int .i64 x) ∧ w'.cell? ⟨b', off' + k * 2 + 1, none⟩ = some (.int .i64 y))
    (first | go_keep | exact ⟨(hbx.cell (by simp; omega)).trans c1', (hbx.cell (by simp; omega)).trans c2', (hbx.cell (by simp; omega)).trans d1', (hbx.cell (by simp; omega)).trans d2'⟩)
    (first | (go_at_call 60; refine (eqCell x y x y _).mono ?_; rintro e wx ⟨rfl, hbx⟩))
   have hb2 : Below w.heap.size w wx := hb.drew.trans (hbx.mono hbs)
   rw [HE.out]
   clear c1' c2' d1' d2' hbx HE
   go_wp2
   go_roundw
   case rel => exact ⟨k + 1, by omega, by go_num, hb2⟩
   case measure => (simp [intOf] <;> omega)
  ·go_wp2
   go_ret
   exact mkBol rfl hb

def marksC (k n : Nat) : List (Int × Int) := (List.range n).map fun j => (((k + 2 * j : Nat) : Int), ((k + 2 * j + 1 : Nat) : Int))
theorem marksC_length (k n : Nat) : (marksC k n).length = n := by unfold marksC; simp
theorem marksC_at (k n j : Nat) (h : j < n) : (marksC k n)[j]? = some (((k + 2 * j : Nat) : Int), ((k + 2 * j + 1 : Nat) : Int)) := by unfold marksC; simp [List.getElem?_range h]
theorem rowC_app (L M : List (Int × Int)) : rowC (L ++ M) = rowC L ++ rowC M := by unfold rowC; simp
theorem rowC_put (L : List (Int × Int)) (p q : Int × Int) (M : List (Int × Int)) (j : Nat) (hj : L.length = j) :
  ((rowC (L ++ p :: M)).set (j * 2) (.int .i64 q.1)).set (j * 2 + 1) (.int .i64 q.2) = rowC (L ++ q :: M) := by
 have hl : (rowC L).length = j * 2 := by rw [rowC_length, hj]
 rw [rowC_app, rowC_app, List.set_append_right _ _ (by omega), List.set_append_right _ _ (by omega), hl, Nat.sub_self, show j * 2 + 1 - j * 2 = 1 from by omega]
 rfl
theorem marksC_step (k j n : Nat) (L : List (Int × Int)) (hL : L.length = n) (hj : j < n) :
  ((rowC (marksC k j ++ L.drop j)).set (j * 2) (.int .i64 ((k + 2 * j : Nat) : Int))).set (j * 2 + 1) (.int .i64 ((k + 2 * j + 1 : Nat) : Int)) = rowC (marksC k (j + 1) ++ L.drop (j + 1)) := by
 rw [List.drop_eq_getElem_cons (by omega), rowC_put (marksC k j) L[j] (((k + 2 * j : Nat) : Int), ((k + 2 * j + 1 : Nat) : Int)) _ j (marksC_length k j)]
 congr 1
 unfold marksC
 rw [List.range_succ, List.map_append, List.append_assoc]
 rfl

set_option maxRecDepth 100000 in
set_option maxHeartbeats 1000000 in
theorem markCells (w : World) (base k n cap : Nat) (A : Option Addr) (L : List (Int × Int)) (hn : k + 2 * n ≤ 1000000) (hown : w.ownsRow base 67 2 (.slice A n cap) n (rowC L)) (hbase : base ≤ w.heap.size) :
  Calls Tryz.prog 35 #[.slice A n cap, .int .i64 (k : Int)] w fun e w' => e = .returned (.int .i64 ((k + 2 * n : Nat) : Int)) ∧ w'.ownsRow base 67 2 (.slice A n cap) n (rowC (marksC k n)) ∧ Below base w w' := by
 have hx : L.length = n := by have := hown.1; rw [rowC_length] at this; omega
 have HX := Lib.hid hx
 have HN := Lib.hid hn
 clear hx
 have HO := Lib.hid hown
 clear hown
 go_enter Tryz.func35, Tryz.ntmps35
 go_wp2_with fail
 go_loopw [1, 5] (fun m i wr => ∃ j : Nat, j ≤ n ∧ i = .int .i64 j ∧ m = .int .i64 ((k + 2 * j : Nat) : Int) ∧ wr.ownsRow base 67 2 (.slice A n cap) n (rowC (marksC k j ++ L.drop j)) ∧ Below base w wr) (fun _ i _ => n - (intOf i).toNat)
 case atStart => exact ⟨0, Nat.zero_le _, rfl, rfl, by simpa [marksC] using HO.out, Below.refl _ _⟩
 case round =>
  obtain ⟨j, hj, rfl, rfl, hown, hb⟩ := hrel
  have hbs := hb.size
  by_cases hlt : j < n
  ·obtain ⟨g, c, hv, hg1, hg2⟩ := hown.form (by omega)
   injection hv with hA hn1 hc1
   subst hA
   subst hc1
   have hlen : (rowC (marksC k j ++ L.drop j)).length = n * 2 := hown.1
   have hu1 : ∃ u, wr.cell? ⟨g, j * 2, none⟩ = some u := by
    rw [hown.cellAt (j * 2) (by omega)]; exact ⟨_, List.getElem?_eq_getElem (by omega)⟩
   have hu2 : ∃ u, wr.cell? ⟨g, j * 2 + 1, none⟩ = some u := by
    rw [hown.cellAt (j * 2 + 1) (by omega)]; exact ⟨_, List.getElem?_eq_getElem (by omega)⟩
   obtain ⟨u1, hu1⟩ := hu1
   obtain ⟨u2, hu2⟩ := hu2
   have hf1 := hown.frozenAt (j * 2)
   have hf2 := hown.frozenAt (j * 2 + 1)
   obtain ⟨hst, _⟩ := hown.stored (j * 2) (.int .i64 ((k + 2 * j : Nat) : Int))
   obtain ⟨hst, _⟩ := hst.stored (j * 2 + 1) (.int .i64 ((k + 2 * j + 1 : Nat) : Int))
   rw [marksC_step k j n L HX.out hlt] at hst
   have R := Lib.hid hst
   have hb3 : Below base w ((wr.setCell ⟨g, j * 2, none⟩ (.int .i64 ((k + 2 * j : Nat) : Int))).setCell ⟨g, j * 2 + 1, none⟩ (.int .i64 ((k + 2 * j + 1 : Nat) : Int))) := (hb.setCell hg1 _).setCell hg1 _
   have HB := Lib.hid hb3
   have hm : ((k + 2 * j : Nat) : Int) ≤ 1000000 := by omega
   clear hown hst hb3 hlen
   go_wp2
   go_roundw
   case rel => exact ⟨j + 1, by omega, by go_num, by go_num, R.out, HB.out⟩
   case measure => (simp [intOf] <;> omega)
  ·obtain rfl : j = n := by omega
   have R := Lib.hid (show wr.ownsRow base 67 2 (.slice A j cap) j (rowC (marksC k j)) by
    have e : marksC k j ++ L.drop j = marksC k j := by rw [List.drop_eq_nil_of_le (by rw [HX.out]; omega), List.append_nil]
    rw [e] at hown; exact hown)
   clear hown
   go_wp2
   go_ret
   exact ⟨by go_num, R.out, hb⟩

set_option maxRecDepth 100000 in
set_option maxHeartbeats 1000000 in
theorem heldCells (w : World) (k n cap : Nat) (A : Option Addr) (hn : k + 2 * n ≤ 1000000) (hr : RowC w A (marksC k n)) :
  Calls Tryz.prog 36 #[.slice A n cap, .int .i64 (k : Int)] w fun e w' => e = .returned (.int .i64 ((k + 2 * n : Nat) : Int)) ∧ w' = w := by
 obtain ⟨b, off, hA, hc⟩ := hr
 have HA := Lib.hid hA
 have HC := Lib.hid hc
 clear hA hc
 go_enter Tryz.func36, Tryz.ntmps36
 go_wp2_with fail
 go_loopw [1, 5] (fun m i wr => ∃ j : Nat, j ≤ n ∧ i = .int .i64 j ∧ m = .int .i64 ((k + 2 * j : Nat) : Int) ∧ wr = w) (fun _ i _ => n - (intOf i).toNat)
 case atStart => exact ⟨0, Nat.zero_le _, rfl, rfl, rfl⟩
 case round =>
  obtain ⟨j, hj, rfl, rfl, rfl⟩ := hrel
  by_cases hlt : j < n
  ·obtain ⟨rfl, hbw⟩ := HA.out (by rw [marksC_length]; omega)
   obtain ⟨hc1, hc2⟩ := HC.out j _ (marksC_at k n j hlt)
   have hm : ((k + 2 * j : Nat) : Int) ≤ 1000000 := by omega
   go_wp2
   go_roundw
   case rel => exact ⟨j + 1, by omega, by go_num, by go_num, trivial⟩
   case measure => (simp [intOf] <;> omega)
  ·obtain rfl : j = n := by omega
   go_wp2
   go_ret
   exact ⟨by go_num, rfl⟩
theorem mark1 (w : World) (base n cap : Nat) (A : Option Addr) (L : List (Int × Int)) (m : Int) (hm : m = ((1 + 2 * n : Nat) : Int)) (hn : n ≤ 400000) (hown : w.ownsRow base 67 2 (.slice A n cap) n (rowC L)) (hbase : base ≤ w.heap.size) :
  Calls Tryz.prog 35 #[.slice A n cap, .int .i64 1] w fun e w' => e = .returned (.int .i64 m) ∧ w'.ownsRow base 67 2 (.slice A n cap) n (rowC (marksC 1 n)) ∧ Below base w w' := by
 subst hm
 exact markCells w base 1 n cap A L (by omega) hown hbase
theorem held1 (w : World) (n cap : Nat) (A : Option Addr) (m : Int) (hm : m = ((1 + 2 * n : Nat) : Int)) (hn : n ≤ 400000) (hr : RowC w A (marksC 1 n)) :
  Calls Tryz.prog 36 #[.slice A n cap, .int .i64 1] w fun e w' => e = .returned (.int .i64 m) ∧ w' = w := by
 subst hm
 exact heldCells w 1 n cap A (by omega) hr
theorem eqRows (w : World) (A A' : Option Addr) (n cap cap' : Nat) (L : List (Int × Int)) (hn : L.length = n) (hl : n ≤ 1048576) (h1 : RowC w A L) (h2 : RowC w A' L) :
  Calls Tryz.prog 34 #[.slice A n cap, .slice A' n cap'] w (Bol true w) := by
 subst hn
 exact eqCells w A A' cap cap' L hl h1 h2

end Go.Proofs.YtmenmepdmojnfaaGreatDoor.Cels
