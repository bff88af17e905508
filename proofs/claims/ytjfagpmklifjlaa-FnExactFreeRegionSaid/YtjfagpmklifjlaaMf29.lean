/- RegBox, LFrP, LFrF, FrV in one text. -/
import Derived.Test.YtjfagpmklifjlaaMf28
import Derived.Test.YtjfagpmklifjlaaMf08
import Derived.Test.YtjfagpmklifjlaaMf24
import Derived.Test.YtjfagpmklifjlaaMf18

namespace Go.Proofs.Ytjfagpmklifjlaa.Reg
set_option linter.unusedVariables false
open Go.RowKit Go.Joins

def BoxAt (W : World) (B H p : Nat) (va : Value) (n : Nat) (ys : List Value) : Prop :=
 W.heap[p]? = some (.cells #[va] 26) ∧ B ≤ p ∧ p < H ∧ H ≤ W.heap.size ∧ ∃ lo hi, B ≤ lo ∧ lo ≤ hi ∧ hi ≤ H ∧ RowIn W lo hi 3 1 va n ys ∧ (p < lo ∨ hi ≤ p)
theorem own_range {W : World} {B e size n : Nat} {v : Value} {xs : List Value} (h : W.ownsRow B e size v n xs) (hB : B ≤ W.heap.size) : ∃ lo hi, B ≤ lo ∧ lo ≤ hi ∧ hi ≤ lo + 1 ∧ hi ≤ W.heap.size ∧ RowIn W lo hi e size v n xs := by
 rcases h.2 with ⟨rfl, rfl⟩ | ⟨g, cap, cur, rfl, hg, hgg, rest⟩
 ·exact ⟨B, B, Nat.le_refl _, Nat.le_refl _, by omega, hB, ⟨h.1, .inl ⟨rfl, rfl⟩⟩, fun g hg => by simp [Value.ownBlock] at hg⟩
 ·have hl := (Array.getElem?_eq_some_iff.1 hgg).1
  exact ⟨g, g + 1, hg, by omega, by omega, by omega, ⟨h.1, .inr ⟨g, cap, cur, rfl, Nat.le_refl _, hgg, rest⟩⟩, fun q hq => by simp [Value.ownBlock] at hq; omega⟩
section
variable {W W' : World} {B H p : Nat} {va : Value} {n : Nat} {ys : List Value}
theorem BoxAt.cell (h : BoxAt W B H p va n ys) : W.cell? ⟨p, 0, none⟩ = some va := (cellAt h.1 0).1.trans rfl
theorem BoxAt.own (h : BoxAt W B H p va n ys) : W.ownsRow B 3 1 va n ys := by
 obtain ⟨_, _, _, _, lo, hi, h1, h2, h3, h4, _⟩ := h
 exact own_base h4.1 h1
theorem BoxAt.on (h : BoxAt W B H p va n ys) (hb : Below W.heap.size W W') : BoxAt W' B H p va n ys := by
 obtain ⟨a, b, c, d, lo, hi, h1, h2, h3, h4, h5⟩ := h
 have := hb.size
 exact ⟨(hb.block p (by omega)).trans a, b, c, by omega, lo, hi, h1, h2, h3, h4.on hb, h5⟩
theorem BoxAt.drew (h : BoxAt W B H p va n ys) : BoxAt W.drew B H p va n ys := h
theorem BoxAt.far {B' H' : Nat} (h : BoxAt W B H p va n ys) (ha : Apart B' H' W W') (hd : H ≤ B' ∨ H' ≤ B) : BoxAt W' B H p va n ys := by
 obtain ⟨a, b, c, d, lo, hi, h1, h2, h3, h4, h5⟩ := h
 have := ha.size
 exact ⟨(ha.block p (by omega) (by omega)).trans a, b, c, by omega, lo, hi, h1, h2, h3, h4.apart ha (by omega), h5⟩
theorem BoxAt.row {A : Option Addr} {cap : Nat} {xs : List Int} (h : BoxAt W B H p (.slice A n cap) n (ints xs)) : RowB W W.heap.size A xs := rowB_own h.own
theorem box_last (ho : W.ownsRow B 3 1 va n ys) (hB : B ≤ W.heap.size) : BoxAt (W.alloc (.cells #[va] 26)) B (W.alloc (.cells #[va] 26)).heap.size W.heap.size va n ys := by
 obtain ⟨lo, hi, h1, h2, h3, h4, h5⟩ := own_range ho hB
 exact ⟨heap_alloc_new W _, hB, by simp, Nat.le_refl _, lo, hi, h1, h2, by simp; omega, h5.on (below_alloc1 W _), .inr h4⟩
end
theorem markBox (W : World) (B H p n cap : Nat) (A : Option Addr) (xs : List Int) (m : Int) (hm : m = ((1 + n : Nat) : Int)) (hn : (n : Int) ≤ 9000000) (hr : BoxAt W B H p (.slice A n cap) n (ints xs)) :
  Calls Try.prog 29 #[.agg #[.slice A n cap], .int .i64 1] W fun e w' => e = .returned (.int .i64 m) ∧ BoxAt w' B H p (.slice A n cap) n (ints (marksI 1 n)) ∧ Apart B H W w' := by
 obtain ⟨a, b, c, d, lo, hi, h1, h2, h3, h4, h5⟩ := hr
 refine (markReg1 W lo hi n cap A xs m hm hn h4).mono ?_
 rintro e w' ⟨rfl, hr', ha⟩
 have hz := ha.size
 exact ⟨rfl, ⟨(ha.block p (by omega) h5).trans a, b, c, by omega, lo, hi, h1, h2, h3, hr', h5⟩, ⟨ha.os, ha.tape, ha.output, ha.size, fun k hk hkr => ha.block k hk (by omega)⟩⟩

section
variable {W7 W W' : World} {g : Nat} {v : Value} {x y : Int} {px : Nat} {vx : Value}
end
theorem own_none {w : World} {base e size n cap : Nat} {A : Option Addr} {xs : List Value} (h : w.ownsRow base e size (.slice A n cap) n xs) : A = none → n = 0 ∧ cap = 0 := by
 intro hA
 subst hA
 rcases h.2 with ⟨h', h0⟩ | ⟨g, cap', cur, h', _⟩
 ·simp only [Value.slice.injEq] at h'
  exact ⟨h0, h'.2.2⟩
 ·simp at h'
end Go.Proofs.Ytjfagpmklifjlaa.Reg

namespace Go.Proofs.Ytjfagpmklifjlaa.Frd
set_option linter.unusedVariables false
set_option linter.unusedSimpArgs false
set_option maxRecDepth 100000
open Go.RowKit Go.Proofs.Ytjfagpmklifjlaa.Dom Go.Proofs.Ytjfagpmklifjlaa.Dms Go.Proofs.Ytjfagpmklifjlaa.Til Go.Proofs.Ytjfagpmklifjlaa.Fr Go.Joins
open Go.Proofs.Ytjfagpmklifjlaa.Reg hiding Yes add_none RC rc_start

theorem no_row (W : World) (e size : Nat) : RowIn W 0 0 e size (.slice none 0 0) 0 [] := ⟨⟨by simp, .inl ⟨rfl, rfl⟩⟩, fun g hg => by cases hg⟩
abbrev LX (w : World) (v : Value) (p : Nat) (va : Value) (lx hx n : Nat) (xs : List Value) (W : World) : Prop := LS w v p va lx hx n xs 0 0 3 1 (.slice none 0 0) 0 [] W

set_option maxHeartbeats 4000000 in
theorem lawPossible (w : World) (A : Option Addr) (n cap : Nat) (xs : List Int) (hx : xs.length = n) (hn : (n : Int) ≤ 9223372036854775807) (h : RowB w w.heap.size A xs) :
  Calls Try.prog 4 #[.agg #[.slice A n cap]] w (Dom.Yes w) := by
 have T0 := Lib.hid (fun T => rb_start (T := T) (.slice A n cap) w)
 have HZ := Lib.hid (fun W => szRegion A n cap 1048576 (by omega) (by omega) hn W)
 by_cases hs : (n : Int) ≤ 1048576
 ·have HTo := Lib.hid (fun W (hb : Below w.heap.size w W) => toRegion W A n cap w.heap.size xs hx hs (h.below hb (Nat.le_refl _)) hb.size)
  have HEq := Lib.hid (fun W A A' c c' (h1 : RowB W W.heap.size A xs) (h2 : RowB W W.heap.size A' xs) => eqRegion W A A' n c c' _ _ xs hx hn h1 h2 (Nat.le_refl _) (Nat.le_refl _))
  have HS := Lib.hid (fun W A c lo (ho : W.ownsRow lo 3 1 (.slice A n c) n (ints xs)) => sPossible W A n c W.heap.size xs hx hs (rowB_own ho) (Nat.le_refl _) (own_none ho))
  have HI := Lib.hid (fun W (hb : Below w.heap.size w W) A c lo (ho : W.ownsRow lo 3 1 (.slice A n c) n (ints xs)) => iPossible W A n c W.heap.size xs hx hs (rowB_own ho) (Nat.le_refl _) (own_none ho))
  have hz := szR_yes hs
  generalize szR 1048576 n = z at HZ hz
  obtain ⟨z0, z1⟩ := hz
  have z2 : ¬ z < 0 := by omega
  have hsm := possD_len xs
  generalize possD xs = L at HS HI hsm
  obtain ⟨m, hm⟩ : ∃ m, m = L.length := ⟨_, rfl⟩
  unfold DmE at HS
  unfold DmPost at HI
  rw [← hm] at HS HI hsm
  have HE := Lib.hid (fun (W : World) (B B' : Option Addr) (c c' lo hi lo' hi' : Nat) (h1 : RowIn W lo hi 41 3 (.slice B m c) m (rowM L)) (h2 : RowIn W lo' hi' 41 3 (.slice B' m c') m (rowM L)) => eqDoms W B B' m c c' W.heap.size W.heap.size L hm.symm (by omega) (rowM_own h1.1) (rowM_own h2.1) (Nat.le_refl _) (Nat.le_refl _))
  obtain ⟨k1, hk1⟩ : ∃ k1 : Int, k1 = ((1 + n : Nat) : Int) := ⟨_, rfl⟩
  have hk0 : ¬ k1 < 0 := by omega
  have HMx := Lib.hid (fun W lo hi A c (hr : RowIn W lo hi 3 1 (.slice A n c) n (ints xs)) => markReg1 W lo hi n c A xs k1 hk1 (by omega) hr)
  obtain ⟨g1, hg1⟩ : ∃ g1 : Int, g1 = ((1 + 3 * m : Nat) : Int) := ⟨_, rfl⟩
  have hg0 : ¬ g1 < 0 := by omega
  have hgg : (g1 != g1) = false := by simp
  have HMg := Lib.hid (fun W lo hi A c (hr : RowIn W lo hi 41 3 (.slice A m c) m (rowM L)) => markDomsN W lo hi 1 m c A L 1 g1 rfl hg1 (by omega) hr)
  have HHg := Lib.hid (fun W A c lo hi (hr : RowIn W lo hi 41 3 (.slice A m c) m (rowM (marksM 1 m))) => heldDomsN W 1 m c W.heap.size A 1 g1 rfl hg1 (by omega) (rowM_own hr.1))
  clear hs hx hn h hm hk1 hg1 hsm
  go_enter Try.func4, Try.ntmps4
  go_wp2_with fail
  have T1 := T0.out 47
  clear T0
  refine (HZ.out _).mono ?_
  rintro e w1 ⟨rfl, hb1⟩
  have T2 := T1.on hb1
  clear T1 hb1 HZ
  obtain ⟨_, _, c0⟩ := id T2
  go_wp2_with fail
  refine (HTo.out _ T2.1).mono ?_
  rintro e w2 ⟨A1, cap1, rfl, hown, hb2⟩
  have T3 := T2.on hb2
  have HR1 := Lib.hid hown
  clear T2 hown hb2 c0
  go_wp2_with fail
  refine (HS.out _ _ _ _ HR1.out).mono ?_
  rintro e w3 ⟨Aw, capw, rfl, hown, hb3⟩
  have hl2 := T3.2.1
  have T4 := T3.on hb3
  have HW := Lib.hid (rowIn_new hown)
  have hw3 := hb3.size
  clear T3 hb3 HS HR1 hown
  obtain ⟨_, _, c0⟩ := id T4
  go_wp2_with fail
  refine (HTo.out _ T4.1).mono ?_
  rintro e w4 ⟨A2, cap2, rfl, hown, hb4⟩
  have T5 := T4.on hb4
  have hw4 := hb4.size
  have S0 := Lib.hid (fun T => ls_start (T := T) T5 (rowIn_new hown) (no_row w4 3 1))
  have V0 := Lib.hid (fun o => (HW.out.on hb4).on (below_alloc1 w4 o))
  clear T4 hown hb4 c0 T5 HW
  go_wp2_with fail
  have S1 := S0.out 26
  have V1 := V0.out (.cells #[.slice A2 n cap2] 26)
  clear S0 V0
  have hlg : w4.heap.size + 1 = (w4.alloc (.cells #[.slice A2 n cap2] 26)).heap.size := by simp
  refine (HI.out _ S1.1 _ _ _ S1.x.1).mono ?_
  rintro e w5 ⟨Ag, capg, rfl, _, hown, hb5⟩
  rw [← hlg] at hown
  have HG := Lib.hid (rowIn_new hown)
  have V2 := V1.on hb5
  have hw5 := hb5.size
  rw [← hlg] at hw5
  have S2 := S1.on hb5
  clear S1 V1 hb5 hown hlg
  generalize hp : w4.heap.size = p at S2 HG hw4 hw5 ⊢
  clear hp
  go_wp2_with fail
  refine (HE.out _ _ _ _ _ _ _ _ _ HG.out V2).mono ?_
  rintro e w6 ⟨rfl, hb6⟩
  have S3 := S2.on hb6
  have V3 := V2.on hb6
  have HG3 := Lib.hid (HG.out.on hb6)
  have hw6 := hb6.size
  clear S2 V2 HG hb6
  go_wp2_with fail
  go_region_held3 (fun w' => Below w.heap.size w w' ∧ w.heap.size + 1 ≤ w'.heap.size ∧ w'.cell? ⟨w.heap.size, 0, none⟩ = some (.slice A n cap) ∧ w'.cell? ⟨p, 0, none⟩ = some (.slice A2 n cap2) ∧ (p < w'.heap.size ∧ RowIn w' w3.heap.size p 3 1 (.slice A2 n cap2) n (ints xs) ∧ RowIn w' 0 0 3 1 (.slice none 0 0) 0 []))
   (first | assumption | exact LS.drew (by assumption) | exact LS.on (by assumption) (by assumption))
   (first | (go_at_call 26; refine (HTo.out _ (LS.rb (by assumption)).1).mono ?_; rintro e wx ⟨A3, cap3, rfl, hown, hbx⟩; (have HRx := Lib.hid (rowB_own hown)); clear hown) | (go_at_call 28; refine (HEq.out _ _ _ _ _ (rowB_own (LS.x (by assumption)).1) HRx.out).mono ?_; rintro e wy ⟨rfl, hby⟩))
  all_goals
   have S4 : LX w (.slice A n cap) p (.slice A2 n cap2) w3.heap.size p n (ints xs) wy := by assumption
   have V4 := ((show RowIn w6.drew w2.heap.size w3.heap.size 41 3 (.slice Aw m capw) m (rowM L) from V3).on hbx).on hby
   have HG4 := Lib.hid (((show RowIn w6.drew (p + 1) w5.heap.size 41 3 (.slice Ag m capg) m (rowM L) from HG3.out).on hbx).on hby)
   have hw7 : w5.heap.size ≤ wy.heap.size := by have h1 := hbx.size; have h2 := hby.size; have h3 : w6.drew.heap.size = w6.heap.size := rfl; omega
   clear S3 V3 HG3 HRx hbx hby HEq hw6
   obtain ⟨_, _, _, c1, _⟩ := id S4
   go_wp2_with fail
   refine (HMx.out _ _ _ _ _ S4.x).mono ?_
   rintro e w7 ⟨rfl, hx7, ha7⟩
   have S5 := S4.marked hx7 ha7 (by omega) (Nat.le_refl _) (Nat.zero_le _)
   have HG5 := Lib.hid (HG4.out.apart ha7 (.inr (by omega)))
   have V5 := V4.apart ha7 (.inl (Nat.le_refl _))
   have hw8 := ha7.size
   clear S4 V4 HG4 hx7 ha7 HMx c1
   go_wp2_with fail
   refine (HE.out _ _ _ _ _ _ _ _ _ HG5.out V5).mono ?_
   rintro e w8 ⟨rfl, hb8⟩
   have S6 := S5.on hb8
   have V6 := V5.on hb8
   have HG6 := Lib.hid (HG5.out.on hb8)
   have hw9 := hb8.size
   clear S5 V5 HG5 hb8
   go_wp2_with fail
   refine (HMg.out _ _ _ _ _ HG6.out).mono ?_
   rintro e w9 ⟨rfl, hg9, ha9⟩
   have S7 := S6.onB (ha9.below (B := p + 1) (Nat.le_refl _) (by omega)) (by omega) (by omega) (by omega) (by omega)
   have V7 := V6.apart ha9 (.inl (by omega))
   have HG7 := Lib.hid hg9
   have hw10 := ha9.size
   clear S6 V6 HG6 hg9 ha9 HMg
   go_wp2_with fail
   refine (HHg.out _ _ _ _ _ HG7.out).mono ?_
   rintro e w10 ⟨rfl, rfl⟩
   obtain ⟨_, _, c0, _⟩ := id S7
   go_wp2_with fail
   refine (HTo.out _ S7.1).mono ?_
   rintro e w11 ⟨A5, cap5, rfl, hown, hb11⟩
   have S8 := S7.on hb11
   have V8 := V7.on hb11
   have HG8 := Lib.hid (HG7.out.on hb11)
   have HR5 := Lib.hid hown
   clear S7 V7 HG7 hown hb11 c0
   go_wp2_with fail
   refine (HI.out _ S8.1 _ _ _ HR5.out).mono ?_
   rintro e w12 ⟨Ah, caph, rfl, _, hown, hb12⟩
   have S9 := S8.on hb12
   have V9 := V8.on hb12
   have HG9 := Lib.hid (HG8.out.on hb12)
   have HH := Lib.hid (rowIn_new hown)
   clear S8 V8 HG8 hown hb12 HR5
   go_wp2_with fail
   refine (HE.out _ _ _ _ _ _ _ _ _ HH.out V9).mono ?_
   rintro e w13 ⟨rfl, hb13⟩
   have HG10 := Lib.hid (HG9.out.on hb13)
   have hb := (S9.on hb13).1
   clear S9 V9 HG9 hb13 HH
   go_wp2_with fail
   refine (HHg.out _ _ _ _ _ HG10.out).mono ?_
   rintro e w14 ⟨rfl, rfl⟩
   go_wp2
   go_ret
   exact ⟨rfl, hb⟩
 ·rw [szR_no hs] at HZ
  clear hs hx hn h
  go_enter Try.func4, Try.ntmps4
  go_wp2_with fail
  have T1 := T0.out 47
  clear T0
  refine (HZ.out _).mono ?_
  rintro e w1 ⟨rfl, hb1⟩
  have hb := (T1.on hb1).1
  clear T1 hb1 HZ
  go_wp2
  go_ret
  exact ⟨rfl, hb⟩
end Go.Proofs.Ytjfagpmklifjlaa.Frd

namespace Go.Proofs.Ytjfagpmklifjlaa.Frd
set_option linter.unusedVariables false
set_option linter.unusedSimpArgs false
set_option maxRecDepth 100000
open Go.RowKit Go.Proofs.Ytjfagpmklifjlaa.Dom Go.Proofs.Ytjfagpmklifjlaa.Dms Go.Proofs.Ytjfagpmklifjlaa.Til Go.Proofs.Ytjfagpmklifjlaa.Fr Go.Joins
open Go.Proofs.Ytjfagpmklifjlaa.Reg hiding Yes add_none RC rc_start


theorem forcD_len (xs : List Int) : (forcD xs).length ≤ 128 := by
 rw [← inT_all]; exact Nat.le_trans (List.length_filter_le _ _) (possD_len xs)

set_option maxHeartbeats 4000000 in
theorem lawForced (w : World) (A : Option Addr) (n cap : Nat) (xs : List Int) (hx : xs.length = n) (hn : (n : Int) ≤ 9223372036854775807) (h : RowB w w.heap.size A xs) :
  Calls Try.prog 5 #[.agg #[.slice A n cap]] w (Dom.Yes w) := by
 have T0 := Lib.hid (fun T => rb_start (T := T) (.slice A n cap) w)
 have HZ := Lib.hid (fun W => szRegion A n cap 1048576 (by omega) (by omega) hn W)
 by_cases hs : (n : Int) ≤ 1048576
 ·have HTo := Lib.hid (fun W (hb : Below w.heap.size w W) => toRegion W A n cap w.heap.size xs hx hs (h.below hb (Nat.le_refl _)) hb.size)
  have HEq := Lib.hid (fun W A A' c c' (h1 : RowB W W.heap.size A xs) (h2 : RowB W W.heap.size A' xs) => eqRegion W A A' n c c' _ _ xs hx hn h1 h2 (Nat.le_refl _) (Nat.le_refl _))
  have HS := Lib.hid (fun W A c lo (ho : W.ownsRow lo 3 1 (.slice A n c) n (ints xs)) => sForced W A n c W.heap.size xs hx hs (rowB_own ho) (Nat.le_refl _) (own_none ho))
  have HI := Lib.hid (fun W (hb : Below w.heap.size w W) A c lo (ho : W.ownsRow lo 3 1 (.slice A n c) n (ints xs)) => iForced W A n c W.heap.size xs hx hs (rowB_own ho) (Nat.le_refl _) (own_none ho))
  have hz := szR_yes hs
  generalize szR 1048576 n = z at HZ hz
  obtain ⟨z0, z1⟩ := hz
  have z2 : ¬ z < 0 := by omega
  have hsm := forcD_len xs
  generalize forcD xs = L at HS HI hsm
  obtain ⟨m, hm⟩ : ∃ m, m = L.length := ⟨_, rfl⟩
  unfold DmE at HS
  unfold DmPost at HI
  rw [← hm] at HS HI hsm
  have HE := Lib.hid (fun (W : World) (B B' : Option Addr) (c c' lo hi lo' hi' : Nat) (h1 : RowIn W lo hi 41 3 (.slice B m c) m (rowM L)) (h2 : RowIn W lo' hi' 41 3 (.slice B' m c') m (rowM L)) => eqDoms W B B' m c c' W.heap.size W.heap.size L hm.symm (by omega) (rowM_own h1.1) (rowM_own h2.1) (Nat.le_refl _) (Nat.le_refl _))
  obtain ⟨k1, hk1⟩ : ∃ k1 : Int, k1 = ((1 + n : Nat) : Int) := ⟨_, rfl⟩
  have hk0 : ¬ k1 < 0 := by omega
  have HMx := Lib.hid (fun W lo hi A c (hr : RowIn W lo hi 3 1 (.slice A n c) n (ints xs)) => markReg1 W lo hi n c A xs k1 hk1 (by omega) hr)
  obtain ⟨g1, hg1⟩ : ∃ g1 : Int, g1 = ((1 + 3 * m : Nat) : Int) := ⟨_, rfl⟩
  have hg0 : ¬ g1 < 0 := by omega
  have hgg : (g1 != g1) = false := by simp
  have HMg := Lib.hid (fun W lo hi A c (hr : RowIn W lo hi 41 3 (.slice A m c) m (rowM L)) => markDomsN W lo hi 1 m c A L 1 g1 rfl hg1 (by omega) hr)
  have HHg := Lib.hid (fun W A c lo hi (hr : RowIn W lo hi 41 3 (.slice A m c) m (rowM (marksM 1 m))) => heldDomsN W 1 m c W.heap.size A 1 g1 rfl hg1 (by omega) (rowM_own hr.1))
  clear hs hx hn h hm hk1 hg1 hsm
  go_enter Try.func5, Try.ntmps5
  go_wp2_with fail
  have T1 := T0.out 47
  clear T0
  refine (HZ.out _).mono ?_
  rintro e w1 ⟨rfl, hb1⟩
  have T2 := T1.on hb1
  clear T1 hb1 HZ
  obtain ⟨_, _, c0⟩ := id T2
  go_wp2_with fail
  refine (HTo.out _ T2.1).mono ?_
  rintro e w2 ⟨A1, cap1, rfl, hown, hb2⟩
  have T3 := T2.on hb2
  have HR1 := Lib.hid hown
  clear T2 hown hb2 c0
  go_wp2_with fail
  refine (HS.out _ _ _ _ HR1.out).mono ?_
  rintro e w3 ⟨Aw, capw, rfl, hown, hb3⟩
  have hl2 := T3.2.1
  have T4 := T3.on hb3
  have HW := Lib.hid (rowIn_new hown)
  have hw3 := hb3.size
  clear T3 hb3 HS HR1 hown
  obtain ⟨_, _, c0⟩ := id T4
  go_wp2_with fail
  refine (HTo.out _ T4.1).mono ?_
  rintro e w4 ⟨A2, cap2, rfl, hown, hb4⟩
  have T5 := T4.on hb4
  have hw4 := hb4.size
  have S0 := Lib.hid (fun T => ls_start (T := T) T5 (rowIn_new hown) (no_row w4 3 1))
  have V0 := Lib.hid (fun o => (HW.out.on hb4).on (below_alloc1 w4 o))
  clear T4 hown hb4 c0 T5 HW
  go_wp2_with fail
  have S1 := S0.out 26
  have V1 := V0.out (.cells #[.slice A2 n cap2] 26)
  clear S0 V0
  have hlg : w4.heap.size + 1 = (w4.alloc (.cells #[.slice A2 n cap2] 26)).heap.size := by simp
  refine (HI.out _ S1.1 _ _ _ S1.x.1).mono ?_
  rintro e w5 ⟨Ag, capg, rfl, _, hown, hb5⟩
  rw [← hlg] at hown
  have HG := Lib.hid (rowIn_new hown)
  have V2 := V1.on hb5
  have hw5 := hb5.size
  rw [← hlg] at hw5
  have S2 := S1.on hb5
  clear S1 V1 hb5 hown hlg
  generalize hp : w4.heap.size = p at S2 HG hw4 hw5 ⊢
  clear hp
  go_wp2_with fail
  refine (HE.out _ _ _ _ _ _ _ _ _ HG.out V2).mono ?_
  rintro e w6 ⟨rfl, hb6⟩
  have S3 := S2.on hb6
  have V3 := V2.on hb6
  have HG3 := Lib.hid (HG.out.on hb6)
  have hw6 := hb6.size
  clear S2 V2 HG hb6
  go_wp2_with fail
  go_region_held3 (fun w' => Below w.heap.size w w' ∧ w.heap.size + 1 ≤ w'.heap.size ∧ w'.cell? ⟨w.heap.size, 0, none⟩ = some (.slice A n cap) ∧ w'.cell? ⟨p, 0, none⟩ = some (.slice A2 n cap2) ∧ (p < w'.heap.size ∧ RowIn w' w3.heap.size p 3 1 (.slice A2 n cap2) n (ints xs) ∧ RowIn w' 0 0 3 1 (.slice none 0 0) 0 []))
   (first | assumption | exact LS.drew (by assumption) | exact LS.on (by assumption) (by assumption))
   (first | (go_at_call 26; refine (HTo.out _ (LS.rb (by assumption)).1).mono ?_; rintro e wx ⟨A3, cap3, rfl, hown, hbx⟩; (have HRx := Lib.hid (rowB_own hown)); clear hown) | (go_at_call 28; refine (HEq.out _ _ _ _ _ (rowB_own (LS.x (by assumption)).1) HRx.out).mono ?_; rintro e wy ⟨rfl, hby⟩))
  all_goals
   have S4 : LX w (.slice A n cap) p (.slice A2 n cap2) w3.heap.size p n (ints xs) wy := by assumption
   have V4 := ((show RowIn w6.drew w2.heap.size w3.heap.size 41 3 (.slice Aw m capw) m (rowM L) from V3).on hbx).on hby
   have HG4 := Lib.hid (((show RowIn w6.drew (p + 1) w5.heap.size 41 3 (.slice Ag m capg) m (rowM L) from HG3.out).on hbx).on hby)
   have hw7 : w5.heap.size ≤ wy.heap.size := by have h1 := hbx.size; have h2 := hby.size; have h3 : w6.drew.heap.size = w6.heap.size := rfl; omega
   clear S3 V3 HG3 HRx hbx hby HEq hw6
   obtain ⟨_, _, _, c1, _⟩ := id S4
   go_wp2_with fail
   refine (HMx.out _ _ _ _ _ S4.x).mono ?_
   rintro e w7 ⟨rfl, hx7, ha7⟩
   have S5 := S4.marked hx7 ha7 (by omega) (Nat.le_refl _) (Nat.zero_le _)
   have HG5 := Lib.hid (HG4.out.apart ha7 (.inr (by omega)))
   have V5 := V4.apart ha7 (.inl (Nat.le_refl _))
   have hw8 := ha7.size
   clear S4 V4 HG4 hx7 ha7 HMx c1
   go_wp2_with fail
   refine (HE.out _ _ _ _ _ _ _ _ _ HG5.out V5).mono ?_
   rintro e w8 ⟨rfl, hb8⟩
   have S6 := S5.on hb8
   have V6 := V5.on hb8
   have HG6 := Lib.hid (HG5.out.on hb8)
   have hw9 := hb8.size
   clear S5 V5 HG5 hb8
   go_wp2_with fail
   refine (HMg.out _ _ _ _ _ HG6.out).mono ?_
   rintro e w9 ⟨rfl, hg9, ha9⟩
   have S7 := S6.onB (ha9.below (B := p + 1) (Nat.le_refl _) (by omega)) (by omega) (by omega) (by omega) (by omega)
   have V7 := V6.apart ha9 (.inl (by omega))
   have HG7 := Lib.hid hg9
   have hw10 := ha9.size
   clear S6 V6 HG6 hg9 ha9 HMg
   go_wp2_with fail
   refine (HHg.out _ _ _ _ _ HG7.out).mono ?_
   rintro e w10 ⟨rfl, rfl⟩
   obtain ⟨_, _, c0, _⟩ := id S7
   go_wp2_with fail
   refine (HTo.out _ S7.1).mono ?_
   rintro e w11 ⟨A5, cap5, rfl, hown, hb11⟩
   have S8 := S7.on hb11
   have V8 := V7.on hb11
   have HG8 := Lib.hid (HG7.out.on hb11)
   have HR5 := Lib.hid hown
   clear S7 V7 HG7 hown hb11 c0
   go_wp2_with fail
   refine (HI.out _ S8.1 _ _ _ HR5.out).mono ?_
   rintro e w12 ⟨Ah, caph, rfl, _, hown, hb12⟩
   have S9 := S8.on hb12
   have V9 := V8.on hb12
   have HG9 := Lib.hid (HG8.out.on hb12)
   have HH := Lib.hid (rowIn_new hown)
   clear S8 V8 HG8 hown hb12 HR5
   go_wp2_with fail
   refine (HE.out _ _ _ _ _ _ _ _ _ HH.out V9).mono ?_
   rintro e w13 ⟨rfl, hb13⟩
   have HG10 := Lib.hid (HG9.out.on hb13)
   have hb := (S9.on hb13).1
   clear S9 V9 HG9 hb13 HH
   go_wp2_with fail
   refine (HHg.out _ _ _ _ _ HG10.out).mono ?_
   rintro e w14 ⟨rfl, rfl⟩
   go_wp2
   go_ret
   exact ⟨rfl, hb⟩
 ·rw [szR_no hs] at HZ
  clear hs hx hn h
  go_enter Try.func5, Try.ntmps5
  go_wp2_with fail
  have T1 := T0.out 47
  clear T0
  refine (HZ.out _).mono ?_
  rintro e w1 ⟨rfl, hb1⟩
  have hb := (T1.on hb1).1
  clear T1 hb1 HZ
  go_wp2
  go_ret
  exact ⟨rfl, hb⟩
end Go.Proofs.Ytjfagpmklifjlaa.Frd

namespace Go.Proofs.Ytjfagpmklifjlaa.Fr
set_option linter.unusedVariables false
set_option linter.unusedSimpArgs false
open Go.RowKit Go.Proofs.Ytjfagpmklifjlaa.Pure Go.Proofs.Ytjfagpmklifjlaa.Reg Go.Proofs.Ytjfagpmklifjlaa.Cnt Go.Proofs.Ytjfagpmklifjlaa.Dms Go.Proofs.Ytjfagpmklifjlaa.Til Go.Proofs.Ytjfagpmklifjlaa.Grd Go.Joins
open Go.Proofs.Ytjfagpmklifjlaa.Lis (allT all_til all_length)

theorem put_bitT : ∀ r : Fin 256, ∀ k j : Fin 8, bitB (putB ((r.val : Nat) : Int) k.val true) j.val = (bitB ((r.val : Nat) : Int) j.val || decide (j.val = k.val)) := by decide +kernel
theorem okR_on {xs : List Int} (ho : okR xs) {x y : Nat} (hx : x < 8) (hy : y < 8) : okR (withR xs x y true) := by
 refine ⟨by rw [withR_length ho.1]; omega, fun r hr => ?_⟩
 obtain ⟨i, hi, e⟩ := List.getElem_of_mem hr
 have h := rowD_with ho.1 x hy true i
 rw [rowD_at (List.getElem?_eq_getElem hi), e] at h
 rw [h]
 have r0 := rowD_ok ho y
 have t := table r0.1 r0.2 hx
 by_cases q : i = y
 ·rw [if_pos q]; exact ⟨t.2.2.2.2.2.1, t.2.2.2.2.2.2.1⟩
 ·rw [if_neg q]; exact rowD_ok ho i
theorem has_out {xs : List Int} {p q : Int} (h : ¬ ((0 ≤ p ∧ p ≤ 7) ∧ 0 ≤ q ∧ q ≤ 7)) : hasB xs p q = false := by
 cases e : hasB xs p q with
 | false => rfl
 | true =>
  obtain ⟨_, a0, a1, a2, a3, _⟩ := hasB_iff.1 e
  exact absurd ⟨⟨a0, by omega⟩, a2, by omega⟩ h
theorem has_on {xs : List Int} (ho : okR xs) {x y : Nat} (hx : x < 8) (hy : y < 8) (u v : Int) : hasB (withR xs x y true) u v = (hasB xs u v || decide (u = (x : Int) ∧ v = (y : Int))) := by
 by_cases h : (0 ≤ u ∧ u ≤ 7) ∧ 0 ≤ v ∧ v ≤ 7
 ·obtain ⟨p, rfl⟩ : ∃ n : Nat, u = (n : Int) := ⟨u.toNat, by omega⟩
  obtain ⟨q, rfl⟩ : ∃ n : Nat, v = (n : Int) := ⟨v.toNat, by omega⟩
  rw [has_at (okR_on ho hx hy) (by omega) (by omega), has_at ho (by omega) (by omega), rowD_with ho.1 x hy]
  by_cases e : q = y
  ·subst e
   rw [if_pos rfl]
   have r0 := rowD_ok ho q
   have t := put_bitT ⟨(rowD xs q).toNat, by omega⟩ ⟨x, hx⟩ ⟨p, by omega⟩
   have e : (((rowD xs q).toNat : Nat) : Int) = rowD xs q := Int.toNat_of_nonneg r0.1
   simp only [e] at t
   rw [t]
   congr 1
   rw [Bool.eq_iff_iff, decide_eq_true_iff, decide_eq_true_iff]
   omega
  ·rw [if_neg e, decide_eq_false (by omega), Bool.or_false]
 ·rw [has_out h, has_out h, decide_eq_false (by omega)]; rfl
def onR (ys : List Int) (U : List (Int × Int)) : List Int := U.foldl (fun r p => withR r p.1.toNat p.2.toNat true) ys
theorem onR_take {ys : List Int} {U : List (Int × Int)} {k : Nat} (hk : k < U.length) : onR ys (U.take (k + 1)) = withR (onR ys (U.take k)) U[k].1.toNat U[k].2.toNat true := by
 unfold onR; rw [List.take_succ_eq_append_getElem hk, List.foldl_append]; rfl
theorem onR_all : ∀ (U : List (Int × Int)) {ys : List Int}, okR ys → ys.length = 8 → (∀ p ∈ U, (0 ≤ p.1 ∧ p.1 ≤ 7) ∧ 0 ≤ p.2 ∧ p.2 ≤ 7) → okR (onR ys U) ∧ (onR ys U).length = 8 ∧ ∀ u v, hasB (onR ys U) u v = true ↔ hasB ys u v = true ∨ (u, v) ∈ U
 | [], ys, h1, h2, _ => ⟨h1, h2, fun u v => by simp [onR]⟩
 | p :: r, ys, h1, h2, h3 => by
  obtain ⟨x, y⟩ := p
  have hp := h3 (x, y) (List.mem_cons_self ..)
  obtain ⟨a, rfl⟩ : ∃ n : Nat, x = (n : Int) := ⟨x.toNat, by simp only at hp; omega⟩
  obtain ⟨b, rfl⟩ : ∃ n : Nat, y = (n : Int) := ⟨y.toNat, by simp only at hp; omega⟩
  simp only at hp
  have ha : a < 8 := by omega
  have hb : b < 8 := by omega
  obtain ⟨k1, k2, k3⟩ := onR_all r (ys := withR ys a b true) (okR_on h1 ha hb) (withR_length h1.1 a b true) (fun q hq => h3 q (List.mem_cons_of_mem _ hq))
  refine ⟨k1, k2, fun u v => ?_⟩
  show hasB (onR (withR ys a b true) r) u v = true ↔ _
  rw [k3, has_on h1 ha hb, Bool.or_eq_true, decide_eq_true_eq, List.mem_cons, Prod.mk.injEq, or_assoc]
def rows0 : List Int := List.replicate 8 0
theorem rows0_ok : okR rows0 ∧ rows0.length = 8 := ⟨⟨by decide, by decide⟩, rfl⟩
theorem rows0_has (u v : Int) : hasB rows0 u v = false := by
 by_cases h : (0 ≤ u ∧ u ≤ 7) ∧ 0 ≤ v ∧ v ≤ 7
 ·obtain ⟨p, rfl⟩ : ∃ n : Nat, u = (n : Int) := ⟨u.toNat, by omega⟩
  obtain ⟨q, rfl⟩ : ∃ n : Nat, v = (n : Int) := ⟨v.toNat, by omega⟩
  rw [has_at rows0_ok.1 (by omega) (by omega)]
  have t : ∀ p q : Fin 8, bitB (rowD rows0 q.val) p.val = false := by decide +kernel
  exact t ⟨p, by omega⟩ ⟨q, by omega⟩
 ·exact has_out h
def freeR (xs : List Int) : List Int := if 0 < tilesR xs then freeD xs (forcD xs) else xs
theorem forcD_ok {xs : List Int} : ∀ d ∈ forcD xs, okM d = true := fun d hd => by
 have h := (forcD_forc xs).2 d
 obtain ⟨⟨L, hL⟩, h2⟩ := h.1 hd
 exact part_valid (til_iff.1 hL).1 d (h2 L hL)
theorem unc_small {xs : List Int} {F : List Dm} : ∀ p ∈ unc F (cellsR xs), (0 ≤ p.1 ∧ p.1 ≤ 7) ∧ 0 ≤ p.2 ∧ p.2 ≤ 7 := fun p hp => by
 obtain ⟨x, y⟩ := p
 obtain ⟨_, a0, a1, a2, a3, _⟩ := hasB_iff.1 (mem_cells.1 (List.mem_filter.1 hp).1)
 simp only
 omega
theorem free_rows {xs : List Int} (ok : okR xs) : onR rows0 (unc (forcD xs) (cellsR xs)) = freeD xs (forcD xs) := by
 obtain ⟨k1, k2, k3⟩ := onR_all (unc (forcD xs) (cellsR xs)) rows0_ok.1 rows0_ok.2 unc_small
 obtain ⟨f1, f2, f3⟩ := freeD_less ok (F := forcD xs) forcD_ok
 refine rows_same k1 f1 k2 f3 fun u v => ?_
 rw [f2, Bool.eq_iff_iff, k3, rows0_has]
 unfold unc
 rw [List.mem_filter, mem_cells]
 simp
end Go.Proofs.Ytjfagpmklifjlaa.Fr
