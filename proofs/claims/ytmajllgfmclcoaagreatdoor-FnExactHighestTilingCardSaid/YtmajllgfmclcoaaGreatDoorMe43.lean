/- LEnd in one text. -/
import Derived.Test.YtmajllgfmclcoaaGreatDoorMe42
import Derived.Test.YtmajllgfmclcoaaGreatDoorMe40
import Derived.Test.YtmajllgfmclcoaaGreatDoorMe25
import Derived.Test.YtmajllgfmclcoaaGreatDoorMe11

namespace Go.Proofs.YtmajllgfmclcoaaGreatDoor.Jn
set_option linter.unusedVariables false
set_option linter.unusedSimpArgs false
set_option maxRecDepth 100000
open Go.RowKit Go.Proofs.YtmajllgfmclcoaaGreatDoor.Dom Go.Proofs.YtmajllgfmclcoaaGreatDoor.Dms Go.Proofs.YtmajllgfmclcoaaGreatDoor.Til Go.Proofs.YtmajllgfmclcoaaGreatDoor.Hgt Go.Proofs.YtmajllgfmclcoaaGreatDoor.Sets Go.Joins
open Go.Proofs.YtmajllgfmclcoaaGreatDoor.Lst (listR)
open Go.Proofs.YtmajllgfmclcoaaGreatDoor.Reg hiding Yes RC rc_start
theorem no_row (W : World) (e size : Nat) : RowIn W 0 0 e size (.slice none 0 0) 0 [] := ⟨⟨by simp, .inl ⟨rfl, rfl⟩⟩, fun g hg => by cases hg⟩
abbrev LX (w : World) (v : Value) (p : Nat) (va : Value) (lx hx n : Nat) (xs : List Value) (W : World) : Prop := LS w v p va lx hx n xs 0 0 3 1 (.slice none 0 0) 0 [] W
set_option maxHeartbeats 4000000 in
theorem lawLowestTiling (w : World) (A : Option Addr) (n cap : Nat) (xs : List Int) (hx : xs.length = n) (hn : (n : Int) ≤ 9223372036854775807) (h : RowB w w.heap.size A xs) (hT : Tab w) :
  Calls Tryz.prog 4 #[.agg #[.slice A n cap]] w (Dom.Yes w) := by
 have T0 := Lib.hid (fun T => rb_start (T := T) (.slice A n cap) w)
 have HZ := Lib.hid (fun W => szRegion A n cap 1048576 (by omega) (by omega) hn W)
 by_cases hs : (n : Int) ≤ 1048576
 ·have HTo := Lib.hid (fun W (hb : Below w.heap.size w W) => toRegion W A n cap w.heap.size xs hx hs (h.below hb (Nat.le_refl _)) hb.size)
  have HEq := Lib.hid (fun W A A' c c' (h1 : RowB W W.heap.size A xs) (h2 : RowB W W.heap.size A' xs) => eqRegion W A A' n c c' _ _ xs hx hn h1 h2 (Nat.le_refl _) (Nat.le_refl _))
  have HS := Lib.hid (fun W A c lo (ho : W.ownsRow lo 3 1 (.slice A n c) n (ints xs)) => sLowestTiling W A n c W.heap.size xs hx hn (rowB_own ho) (Nat.le_refl _))
  have HI := Lib.hid (fun W (hb : Below w.heap.size w W) A c (h1 : RowB W W.heap.size A xs) => iLowestTiling W A n c W.heap.size xs hx hn h1 (Nat.le_refl _) (hT.on hb (Nat.le_refl _)))
  have hz := szR_yes hs
  generalize szR 1048576 n = z at HZ hz
  obtain ⟨z0, z1⟩ := hz
  have z2 : ¬ z < 0 := by omega
  have HUq := Lib.hid (fun N N' ok ok' h1 h2 => endR_uniq (t := 1) (.inl rfl) (xs := xs) (T := listR xs) list_til (N := N) (N' := N') (ok := ok) (ok' := ok') h1 h2)
  have HLn := Lib.hid (fun N ok h => endR_len (t := 1) (xs := xs) (N := N) (ok := ok) h)
  unfold EndP at HS HI
  generalize endR 1 xs (listR xs) = RR at HS HI HUq HLn
  obtain ⟨k1, hk1⟩ : ∃ k1 : Int, k1 = ((1 + n : Nat) : Int) := ⟨_, rfl⟩
  have hk0 : ¬ k1 < 0 := by omega
  have HMx := Lib.hid (fun W lo hi A c (hr : RowIn W lo hi 3 1 (.slice A n c) n (ints xs)) => markReg1 W lo hi n c A xs k1 hk1 (by omega) hr)
  clear hs hx hn h hk1 hT
  go_enter Tryz.func4, Tryz.ntmps4
  go_wp2_with fail
  have T1 := T0.out 37
  clear T0
  refine (HZ.out _).mono ?_
  rintro e w1 ⟨rfl, hb1⟩
  have T2 := T1.on hb1
  clear T1 hb1 HZ
  obtain ⟨_, _, c0⟩ := id T2
  go_wp2_with fail
  refine (HTo.out _ T2.1).mono ?_
  rintro e w2 ⟨A1, cap1, rfl, hown, hb2⟩
  have T3 := T2.on hb2
  have HR1 := Lib.hid hown
  clear T2 hown hb2 c0
  go_wp2_with fail
  refine (HS.out _ _ _ _ HR1.out).mono ?_
  rintro e w3 ⟨L, q, Aw, capw, rfl, hown, hnb, _, hb3⟩
  have HNb := Lib.hid hnb
  obtain ⟨m, hm⟩ : ∃ m, m = L.length := ⟨_, rfl⟩
  have HMs := Lib.hid hm
  rw [← hm] at hown ⊢
  have hsm : m ≤ 32 := by rw [hm]; exact HLn.out L q hnb
  have hqq : (q != q) = false := by simp
  have HE := Lib.hid (fun (W : World) (B B' : Option Addr) (c c' lo hi lo' hi' : Nat) (h1 : RowIn W lo hi 63 3 (.slice B m c) m (rowM L)) (h2 : RowIn W lo' hi' 63 3 (.slice B' m c') m (rowM L)) => eqDoms W B B' m c c' W.heap.size W.heap.size L hm.symm (by omega) (rowM_own h1.1) (rowM_own h2.1) (Nat.le_refl _) (Nat.le_refl _))
  obtain ⟨g1, hg1⟩ : ∃ g1 : Int, g1 = ((1 + 3 * m : Nat) : Int) := ⟨_, rfl⟩
  have hg0 : ¬ g1 < 0 := by omega
  have hgg : (g1 != g1) = false := by simp
  have HMg := Lib.hid (fun W lo hi A c (hr : RowIn W lo hi 63 3 (.slice A m c) m (rowM L)) => markDomsN W lo hi 1 m c A L 1 g1 rfl hg1 (by omega) hr)
  have HHg := Lib.hid (fun W A c lo hi (hr : RowIn W lo hi 63 3 (.slice A m c) m (rowM (marksM 1 m))) => heldDomsN W 1 m c W.heap.size A 1 g1 rfl hg1 (by omega) (rowM_own hr.1))
  clear hnb hm hg1 hsm HLn
  have hl2 := T3.2.1
  have T4 := T3.on hb3
  have HW := Lib.hid (rowIn_new hown)
  have hw3 := hb3.size
  clear T3 hb3 HS HR1 hown
  obtain ⟨_, _, c0⟩ := id T4
  go_wp2_with fail
  refine (HTo.out _ T4.1).mono ?_
  rintro e w4 ⟨A2, cap2, rfl, hown, hb4⟩
  have T5 := T4.on hb4
  have hw4 := hb4.size
  have S0 := Lib.hid (fun T => ls_start (T := T) T5 (rowIn_new hown) (no_row w4 3 1))
  have V0 := Lib.hid (fun o => (HW.out.on hb4).on (below_alloc1 w4 o))
  clear T4 hown hb4 c0 T5 HW
  go_wp2_with fail
  have S1 := S0.out 26
  have V1 := V0.out (.cells #[.slice A2 n cap2] 26)
  clear S0 V0
  have hlg : w4.heap.size + 1 = (w4.alloc (.cells #[.slice A2 n cap2] 26)).heap.size := by simp
  refine (HI.out _ S1.1 _ _ (rowB_own S1.x.1)).mono ?_
  rintro e w5 ⟨L', q', Ag, capg, rfl, hown, hnb, _, hb5⟩
  obtain ⟨rfl, rfl⟩ := HUq.out _ _ _ _ HNb.out hnb
  rw [← HMs.out] at hown ⊢
  clear hnb
  rw [← hlg] at hown
  have HG := Lib.hid (rowIn_new hown)
  have V2 := V1.on hb5
  have hw5 := hb5.size
  rw [← hlg] at hw5
  have S2 := S1.on hb5
  clear S1 V1 hb5 hown hlg
  generalize hp : w4.heap.size = p at S2 HG hw4 hw5 ⊢
  clear hp
  go_wp2_with fail
  refine (HE.out _ _ _ _ _ _ _ _ _ HG.out V2).mono ?_
  rintro e w6 ⟨rfl, hb6⟩
  have S3 := S2.on hb6
  have V3 := V2.on hb6
  have HG3 := Lib.hid (HG.out.on hb6)
  have hw6 := hb6.size
  clear S2 V2 HG hb6
  go_wp2_with fail
  go_region_held3 (fun w' => Below w.heap.size w w' ∧ w.heap.size + 1 ≤ w'.heap.size ∧ w'.cell? ⟨w.heap.size, 0, none⟩ = some (.slice A n cap) ∧ w'.cell? ⟨p, 0, none⟩ = some (.slice A2 n cap2) ∧ (p < w'.heap.size ∧ RowIn w' w3.heap.size p 3 1 (.slice A2 n cap2) n (ints xs) ∧ RowIn w' 0 0 3 1 (.slice none 0 0) 0 []))
   (first | assumption | exact LS.drew (by assumption) | exact LS.on (by assumption) (by assumption))
   (first | (go_at_call 19; refine (HTo.out _ (LS.rb (by assumption)).1).mono ?_; rintro e wx ⟨A3, cap3, rfl, hown, hbx⟩; (have HRx := Lib.hid (rowB_own hown)); clear hown) | (go_at_call 21; refine (HEq.out _ _ _ _ _ (rowB_own (LS.x (by assumption)).1) HRx.out).mono ?_; rintro e wy ⟨rfl, hby⟩))
  all_goals
   have S4 : LX w (.slice A n cap) p (.slice A2 n cap2) w3.heap.size p n (ints xs) wy := by assumption
   have V4 := ((show RowIn w6.drew w2.heap.size w3.heap.size 63 3 (.slice Aw m capw) m (rowM L) from V3).on hbx).on hby
   have HG4 := Lib.hid (((show RowIn w6.drew (p + 1) w5.heap.size 63 3 (.slice Ag m capg) m (rowM L) from HG3.out).on hbx).on hby)
   have hw7 : w5.heap.size ≤ wy.heap.size := by have h1 := hbx.size; have h2 := hby.size; have h3 : w6.drew.heap.size = w6.heap.size := rfl; omega
   clear S3 V3 HG3 HRx hbx hby HEq hw6
   obtain ⟨_, _, _, c1, _⟩ := id S4
   go_wp2_with fail
   refine (HMx.out _ _ _ _ _ S4.x).mono ?_
   rintro e w7 ⟨rfl, hx7, ha7⟩
   have S5 := S4.marked hx7 ha7 (by omega) (Nat.le_refl _) (Nat.zero_le _)
   have HG5 := Lib.hid (HG4.out.apart ha7 (.inr (by omega)))
   have V5 := V4.apart ha7 (.inl (Nat.le_refl _))
   have hw8 := ha7.size
   clear S4 V4 HG4 hx7 ha7 HMx c1
   go_wp2_with fail
   refine (HE.out _ _ _ _ _ _ _ _ _ HG5.out V5).mono ?_
   rintro e w8 ⟨rfl, hb8⟩
   have S6 := S5.on hb8
   have V6 := V5.on hb8
   have HG6 := Lib.hid (HG5.out.on hb8)
   have hw9 := hb8.size
   clear S5 V5 HG5 hb8
   go_wp2_with fail
   refine (HMg.out _ _ _ _ _ HG6.out).mono ?_
   rintro e w9 ⟨rfl, hg9, ha9⟩
   have S7 := S6.onB (ha9.below (B := p + 1) (Nat.le_refl _) (by omega)) (by omega) (by omega) (by omega) (by omega)
   have V7 := V6.apart ha9 (.inl (by omega))
   have HG7 := Lib.hid hg9
   have hw10 := ha9.size
   clear S6 V6 HG6 hg9 ha9 HMg
   go_wp2_with fail
   refine (HHg.out _ _ _ _ _ HG7.out).mono ?_
   rintro e w10 ⟨rfl, rfl⟩
   obtain ⟨_, _, c0, _⟩ := id S7
   go_wp2_with fail
   refine (HTo.out _ S7.1).mono ?_
   rintro e w11 ⟨A5, cap5, rfl, hown, hb11⟩
   have S8 := S7.on hb11
   have V8 := V7.on hb11
   have HG8 := Lib.hid (HG7.out.on hb11)
   have HR5 := Lib.hid (rowB_own hown)
   clear S7 V7 HG7 hown hb11 c0
   go_wp2_with fail
   refine (HI.out _ S8.1 _ _ HR5.out).mono ?_
   rintro e w12 ⟨L'', q'', Ah, caph, rfl, hown, hnb, _, hb12⟩
   obtain ⟨rfl, rfl⟩ := HUq.out _ _ _ _ HNb.out hnb
   rw [← HMs.out] at hown ⊢
   clear hnb
   have S9 := S8.on hb12
   have V9 := V8.on hb12
   have HG9 := Lib.hid (HG8.out.on hb12)
   have HH := Lib.hid (rowIn_new hown)
   clear S8 V8 HG8 hown hb12 HR5
   go_wp2_with fail
   refine (HE.out _ _ _ _ _ _ _ _ _ HH.out V9).mono ?_
   rintro e w13 ⟨rfl, hb13⟩
   have HG10 := Lib.hid (HG9.out.on hb13)
   have hb := (S9.on hb13).1
   clear S9 V9 HG9 hb13 HH
   go_wp2_with fail
   refine (HHg.out _ _ _ _ _ HG10.out).mono ?_
   rintro e w14 ⟨rfl, rfl⟩
   go_wp2
   go_ret
   exact ⟨rfl, hb⟩
 ·rw [szR_no hs] at HZ
  clear hs hx hn h hT
  go_enter Tryz.func4, Tryz.ntmps4
  go_wp2_with fail
  have T1 := T0.out 37
  clear T0
  refine (HZ.out _).mono ?_
  rintro e w1 ⟨rfl, hb1⟩
  have hb := (T1.on hb1).1
  clear T1 hb1 HZ
  go_wp2
  go_ret
  exact ⟨rfl, hb⟩

set_option maxHeartbeats 4000000 in
theorem lawHighestTiling (w : World) (A : Option Addr) (n cap : Nat) (xs : List Int) (hx : xs.length = n) (hn : (n : Int) ≤ 9223372036854775807) (h : RowB w w.heap.size A xs) (hT : Tab w) :
  Calls Tryz.prog 5 #[.agg #[.slice A n cap]] w (Dom.Yes w) := by
 have T0 := Lib.hid (fun T => rb_start (T := T) (.slice A n cap) w)
 have HZ := Lib.hid (fun W => szRegion A n cap 1048576 (by omega) (by omega) hn W)
 by_cases hs : (n : Int) ≤ 1048576
 ·have HTo := Lib.hid (fun W (hb : Below w.heap.size w W) => toRegion W A n cap w.heap.size xs hx hs (h.below hb (Nat.le_refl _)) hb.size)
  have HEq := Lib.hid (fun W A A' c c' (h1 : RowB W W.heap.size A xs) (h2 : RowB W W.heap.size A' xs) => eqRegion W A A' n c c' _ _ xs hx hn h1 h2 (Nat.le_refl _) (Nat.le_refl _))
  have HS := Lib.hid (fun W A c lo (ho : W.ownsRow lo 3 1 (.slice A n c) n (ints xs)) => sHighestTiling W A n c W.heap.size xs hx hn (rowB_own ho) (Nat.le_refl _))
  have HI := Lib.hid (fun W (hb : Below w.heap.size w W) A c (h1 : RowB W W.heap.size A xs) => iHighestTiling W A n c W.heap.size xs hx hn h1 (Nat.le_refl _) (hT.on hb (Nat.le_refl _)))
  have hz := szR_yes hs
  generalize szR 1048576 n = z at HZ hz
  obtain ⟨z0, z1⟩ := hz
  have z2 : ¬ z < 0 := by omega
  have HUq := Lib.hid (fun N N' ok ok' h1 h2 => endR_uniq (t := (-1)) (.inr rfl) (xs := xs) (T := listR xs) list_til (N := N) (N' := N') (ok := ok) (ok' := ok') h1 h2)
  have HLn := Lib.hid (fun N ok h => endR_len (t := (-1)) (xs := xs) (N := N) (ok := ok) h)
  unfold EndP at HS HI
  generalize endR (-1) xs (listR xs) = RR at HS HI HUq HLn
  obtain ⟨k1, hk1⟩ : ∃ k1 : Int, k1 = ((1 + n : Nat) : Int) := ⟨_, rfl⟩
  have hk0 : ¬ k1 < 0 := by omega
  have HMx := Lib.hid (fun W lo hi A c (hr : RowIn W lo hi 3 1 (.slice A n c) n (ints xs)) => markReg1 W lo hi n c A xs k1 hk1 (by omega) hr)
  clear hs hx hn h hk1 hT
  go_enter Tryz.func5, Tryz.ntmps5
  go_wp2_with fail
  have T1 := T0.out 37
  clear T0
  refine (HZ.out _).mono ?_
  rintro e w1 ⟨rfl, hb1⟩
  have T2 := T1.on hb1
  clear T1 hb1 HZ
  obtain ⟨_, _, c0⟩ := id T2
  go_wp2_with fail
  refine (HTo.out _ T2.1).mono ?_
  rintro e w2 ⟨A1, cap1, rfl, hown, hb2⟩
  have T3 := T2.on hb2
  have HR1 := Lib.hid hown
  clear T2 hown hb2 c0
  go_wp2_with fail
  refine (HS.out _ _ _ _ HR1.out).mono ?_
  rintro e w3 ⟨L, q, Aw, capw, rfl, hown, hnb, _, hb3⟩
  have HNb := Lib.hid hnb
  obtain ⟨m, hm⟩ : ∃ m, m = L.length := ⟨_, rfl⟩
  have HMs := Lib.hid hm
  rw [← hm] at hown ⊢
  have hsm : m ≤ 32 := by rw [hm]; exact HLn.out L q hnb
  have hqq : (q != q) = false := by simp
  have HE := Lib.hid (fun (W : World) (B B' : Option Addr) (c c' lo hi lo' hi' : Nat) (h1 : RowIn W lo hi 63 3 (.slice B m c) m (rowM L)) (h2 : RowIn W lo' hi' 63 3 (.slice B' m c') m (rowM L)) => eqDoms W B B' m c c' W.heap.size W.heap.size L hm.symm (by omega) (rowM_own h1.1) (rowM_own h2.1) (Nat.le_refl _) (Nat.le_refl _))
  obtain ⟨g1, hg1⟩ : ∃ g1 : Int, g1 = ((1 + 3 * m : Nat) : Int) := ⟨_, rfl⟩
  have hg0 : ¬ g1 < 0 := by omega
  have hgg : (g1 != g1) = false := by simp
  have HMg := Lib.hid (fun W lo hi A c (hr : RowIn W lo hi 63 3 (.slice A m c) m (rowM L)) => markDomsN W lo hi 1 m c A L 1 g1 rfl hg1 (by omega) hr)
  have HHg := Lib.hid (fun W A c lo hi (hr : RowIn W lo hi 63 3 (.slice A m c) m (rowM (marksM 1 m))) => heldDomsN W 1 m c W.heap.size A 1 g1 rfl hg1 (by omega) (rowM_own hr.1))
  clear hnb hm hg1 hsm HLn
  have hl2 := T3.2.1
  have T4 := T3.on hb3
  have HW := Lib.hid (rowIn_new hown)
  have hw3 := hb3.size
  clear T3 hb3 HS HR1 hown
  obtain ⟨_, _, c0⟩ := id T4
  go_wp2_with fail
  refine (HTo.out _ T4.1).mono ?_
  rintro e w4 ⟨A2, cap2, rfl, hown, hb4⟩
  have T5 := T4.on hb4
  have hw4 := hb4.size
  have S0 := Lib.hid (fun T => ls_start (T := T) T5 (rowIn_new hown) (no_row w4 3 1))
  have V0 := Lib.hid (fun o => (HW.out.on hb4).on (below_alloc1 w4 o))
  clear T4 hown hb4 c0 T5 HW
  go_wp2_with fail
  have S1 := S0.out 26
  have V1 := V0.out (.cells #[.slice A2 n cap2] 26)
  clear S0 V0
  have hlg : w4.heap.size + 1 = (w4.alloc (.cells #[.slice A2 n cap2] 26)).heap.size := by simp
  refine (HI.out _ S1.1 _ _ (rowB_own S1.x.1)).mono ?_
  rintro e w5 ⟨L', q', Ag, capg, rfl, hown, hnb, _, hb5⟩
  obtain ⟨rfl, rfl⟩ := HUq.out _ _ _ _ HNb.out hnb
  rw [← HMs.out] at hown ⊢
  clear hnb
  rw [← hlg] at hown
  have HG := Lib.hid (rowIn_new hown)
  have V2 := V1.on hb5
  have hw5 := hb5.size
  rw [← hlg] at hw5
  have S2 := S1.on hb5
  clear S1 V1 hb5 hown hlg
  generalize hp : w4.heap.size = p at S2 HG hw4 hw5 ⊢
  clear hp
  go_wp2_with fail
  refine (HE.out _ _ _ _ _ _ _ _ _ HG.out V2).mono ?_
  rintro e w6 ⟨rfl, hb6⟩
  have S3 := S2.on hb6
  have V3 := V2.on hb6
  have HG3 := Lib.hid (HG.out.on hb6)
  have hw6 := hb6.size
  clear S2 V2 HG hb6
  go_wp2_with fail
  go_region_held3 (fun w' => Below w.heap.size w w' ∧ w.heap.size + 1 ≤ w'.heap.size ∧ w'.cell? ⟨w.heap.size, 0, none⟩ = some (.slice A n cap) ∧ w'.cell? ⟨p, 0, none⟩ = some (.slice A2 n cap2) ∧ (p < w'.heap.size ∧ RowIn w' w3.heap.size p 3 1 (.slice A2 n cap2) n (ints xs) ∧ RowIn w' 0 0 3 1 (.slice none 0 0) 0 []))
   (first | assumption | exact LS.drew (by assumption) | exact LS.on (by assumption) (by assumption))
   (first | (go_at_call 19; refine (HTo.out _ (LS.rb (by assumption)).1).mono ?_; rintro e wx ⟨A3, cap3, rfl, hown, hbx⟩; (have HRx := Lib.hid (rowB_own hown)); clear hown) | (go_at_call 21; refine (HEq.out _ _ _ _ _ (rowB_own (LS.x (by assumption)).1) HRx.out).mono ?_; rintro e wy ⟨rfl, hby⟩))
  all_goals
   have S4 : LX w (.slice A n cap) p (.slice A2 n cap2) w3.heap.size p n (ints xs) wy := by assumption
   have V4 := ((show RowIn w6.drew w2.heap.size w3.heap.size 63 3 (.slice Aw m capw) m (rowM L) from V3).on hbx).on hby
   have HG4 := Lib.hid (((show RowIn w6.drew (p + 1) w5.heap.size 63 3 (.slice Ag m capg) m (rowM L) from HG3.out).on hbx).on hby)
   have hw7 : w5.heap.size ≤ wy.heap.size := by have h1 := hbx.size; have h2 := hby.size; have h3 : w6.drew.heap.size = w6.heap.size := rfl; omega
   clear S3 V3 HG3 HRx hbx hby HEq hw6
   obtain ⟨_, _, _, c1, _⟩ := id S4
   go_wp2_with fail
   refine (HMx.out _ _ _ _ _ S4.x).mono ?_
   rintro e w7 ⟨rfl, hx7, ha7⟩
   have S5 := S4.marked hx7 ha7 (by omega) (Nat.le_refl _) (Nat.zero_le _)
   have HG5 := Lib.hid (HG4.out.apart ha7 (.inr (by omega)))
   have V5 := V4.apart ha7 (.inl (Nat.le_refl _))
   have hw8 := ha7.size
   clear S4 V4 HG4 hx7 ha7 HMx c1
   go_wp2_with fail
   refine (HE.out _ _ _ _ _ _ _ _ _ HG5.out V5).mono ?_
   rintro e w8 ⟨rfl, hb8⟩
   have S6 := S5.on hb8
   have V6 := V5.on hb8
   have HG6 := Lib.hid (HG5.out.on hb8)
   have hw9 := hb8.size
   clear S5 V5 HG5 hb8
   go_wp2_with fail
   refine (HMg.out _ _ _ _ _ HG6.out).mono ?_
   rintro e w9 ⟨rfl, hg9, ha9⟩
   have S7 := S6.onB (ha9.below (B := p + 1) (Nat.le_refl _) (by omega)) (by omega) (by omega) (by omega) (by omega)
   have V7 := V6.apart ha9 (.inl (by omega))
   have HG7 := Lib.hid hg9
   have hw10 := ha9.size
   clear S6 V6 HG6 hg9 ha9 HMg
   go_wp2_with fail
   refine (HHg.out _ _ _ _ _ HG7.out).mono ?_
   rintro e w10 ⟨rfl, rfl⟩
   obtain ⟨_, _, c0, _⟩ := id S7
   go_wp2_with fail
   refine (HTo.out _ S7.1).mono ?_
   rintro e w11 ⟨A5, cap5, rfl, hown, hb11⟩
   have S8 := S7.on hb11
   have V8 := V7.on hb11
   have HG8 := Lib.hid (HG7.out.on hb11)
   have HR5 := Lib.hid (rowB_own hown)
   clear S7 V7 HG7 hown hb11 c0
   go_wp2_with fail
   refine (HI.out _ S8.1 _ _ HR5.out).mono ?_
   rintro e w12 ⟨L'', q'', Ah, caph, rfl, hown, hnb, _, hb12⟩
   obtain ⟨rfl, rfl⟩ := HUq.out _ _ _ _ HNb.out hnb
   rw [← HMs.out] at hown ⊢
   clear hnb
   have S9 := S8.on hb12
   have V9 := V8.on hb12
   have HG9 := Lib.hid (HG8.out.on hb12)
   have HH := Lib.hid (rowIn_new hown)
   clear S8 V8 HG8 hown hb12 HR5
   go_wp2_with fail
   refine (HE.out _ _ _ _ _ _ _ _ _ HH.out V9).mono ?_
   rintro e w13 ⟨rfl, hb13⟩
   have HG10 := Lib.hid (HG9.out.on hb13)
   have hb := (S9.on hb13).1
   clear S9 V9 HG9 hb13 HH
   go_wp2_with fail
   refine (HHg.out _ _ _ _ _ HG10.out).mono ?_
   rintro e w14 ⟨rfl, rfl⟩
   go_wp2
   go_ret
   exact ⟨rfl, hb⟩
 ·rw [szR_no hs] at HZ
  clear hs hx hn h hT
  go_enter Tryz.func5, Tryz.ntmps5
  go_wp2_with fail
  have T1 := T0.out 37
  clear T0
  refine (HZ.out _).mono ?_
  rintro e w1 ⟨rfl, hb1⟩
  have hb := (T1.on hb1).1
  clear T1 hb1 HZ
  go_wp2
  go_ret
  exact ⟨rfl, hb⟩

end Go.Proofs.YtmajllgfmclcoaaGreatDoor.Jn
