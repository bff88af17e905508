/- EdI, TilM in one text. -/
import Derived.Test.YtmajllgfmclcoaaGreatMc26
import Derived.Test.YtmajllgfmclcoaaGreatMc02
import Derived.Test.YtmajllgfmclcoaaGreatMc09
import Derived.Test.YtmajllgfmclcoaaGreatMc20
import Derived.Test.YtmajllgfmclcoaaGreatMc03
import Derived.Laws.OwnMore
import Derived.Deep.RegionHeld3

namespace Go.Proofs.YtmajllgfmclcoaaGreat.Cor
set_option linter.unusedVariables false
set_option linter.unusedSimpArgs false
set_option maxRecDepth 100000
open Go.RowKit Go.Proofs.YtmajllgfmclcoaaGreat.Cell Go.Proofs.YtmajllgfmclcoaaGreat.Hgt Go.Joins
open Go.Proofs.YtmajllgfmclcoaaGreat.Cels (rowC RowC rowC_own)

def Cb (w : World) (x y : Int) (W : World) : Prop := Below w.heap.size w W ∧ AtC W w.heap.size x y
theorem cb_start (x y : Int) (w : World) : Cb w x y (w.alloc (.cells #[.int .i64 x, .int .i64 y] 82)) := ⟨below_alloc1 w _, AtC.new w x y⟩
theorem Cb.on {w W W' : World} {x y : Int} (h : Cb w x y W) (hb : Below W.heap.size W W') : Cb w x y W' := ⟨h.1.trans (hb.mono h.1.size), h.2.on hb⟩
def HasC (L : List (Int × Int)) (c : Int × Int) (w : World) (e : Ending) (w' : World) : Prop := ∃ r : Int, e = .returned (.int .i64 r) ∧ decide (0 ≤ r) = decide (c ∈ L) ∧ Below w.heap.size w w'
theorem mkHasC {L : List (Int × Int)} {c : Int × Int} {w W : World} {r : Int} (h : decide (0 ≤ r) = decide (c ∈ L)) (hb : Below w.heap.size w W) : HasC L c w (.returned (.int .i64 r)) W := ⟨r, rfl, h, hb⟩
theorem takeC_no {L : List (Int × Int)} {c : Int × Int} {k : Nat} (hk : k < L.length) (h : c ∉ L.take k) (hne : L[k] ≠ c) : c ∉ L.take (k + 1) := by
 rw [List.take_succ_eq_append_getElem hk]
 intro q
 rcases List.mem_append.1 q with q | q
 ·exact h q
 ·exact hne (List.mem_singleton.1 q).symm
set_option maxHeartbeats 2000000 in
theorem iIndexC (w : World) (A : Option Addr) (n cap : Nat) (L : List (Int × Int)) (hL : L.length = n) (hn : n ≤ 1000) (h : RowC w A L) (x y : Int) :
  Calls Tryz.prog 111 #[.slice A n cap, .agg #[.int .i64 x, .int .i64 y]] w (HasC L (x, y) w) := by
 obtain ⟨b, off, hA, hc⟩ := h
 have HA := Lib.hid hA
 have HC := Lib.hid hc
 have HL := Lib.hid hL
 have T0 := Lib.hid (cb_start x y w)
 clear hA hc hL
 go_enter Tryz.func111, Tryz.ntmps111
 go_wp2_with fail
 go_loopw [5, 8] (fun _ i wr => ∃ k : Nat, k ≤ n ∧ i = .int .i64 k ∧ Cb w x y wr ∧ Hid ((x, y) ∉ L.take k)) (fun _ i _ => n - (intOf i).toNat)
 case atStart => exact ⟨0, Nat.zero_le _, rfl, T0.out, Lib.hid (by simp)⟩
 case round =>
  clear T0
  obtain ⟨k, hk, rfl, hK, HN⟩ := hrel
  by_cases hlt : k < n
  ·have hkL : k < L.length := by rw [HL.out]; exact hlt
   obtain ⟨rfl, hbB⟩ := HA.out (by omega)
   obtain ⟨e0, e1⟩ := HC.out k L[k] (List.getElem?_eq_getElem hkL)
   have d0 := (hK.1.cell (p := ⟨b, off + k * 2, none⟩) (by show b < _; omega)).trans e0
   have d1 := (hK.1.cell (p := ⟨b, off + k * 2 + 1, none⟩) (by show b < _; omega)).trans e1
   have c0 := AtC.c0 hK.2
   have c1 := AtC.c1 hK.2
   have HX := Lib.hid (fun hne => takeC_no hkL HN.out hne)
   have HIn := Lib.hid (fun (he : L[k] = (x, y)) => show (x, y) ∈ L from he ▸ List.getElem_mem hkL)
   generalize L[k] = p at d0 d1 HX HIn
   obtain ⟨u, v⟩ := p
   simp only at d0 d1
   have HK := Lib.hid hK
   clear e0 e1 HN hK
   by_cases q : u = x ∧ v = y
   ·obtain ⟨rfl, rfl⟩ := q
    have HI := Lib.hid (HIn.out rfl)
    clear HX HIn
    have huu : (u == u) = true := by simp
    have hvv : (v == v) = true := by simp
    go_wp2_with fail
    go_quiet (fail)
    go_wp2
    go_ret
    exact mkHasC (by rw [decide_eq_true HI.out]; exact decide_eq_true (by omega)) (drewBelow HK.out.1 _)
   ·have HY := Lib.hid (HX.out (fun e => by injection e with e1 e2; exact q ⟨e1, e2⟩))
    clear HX HIn
    by_cases q1 : u = x
    ·subst q1
     have huu : (u == u) = true := by simp
     have hvf : (y == v) = false := by rw [beq_eq_false_iff_ne]; exact fun e => q ⟨rfl, e.symm⟩
     clear q
     go_wp2_with fail
     go_quiet (fail)
     go_wp2
     go_roundw
     case rel => exact ⟨k + 1, by omega, by go_num, HK.out.on (drewBelow (Below.refl _ _) _), HY⟩
     case measure => (simp [intOf] <;> omega)
    ·have huf : (x == u) = false := by rw [beq_eq_false_iff_ne]; exact fun e => q1 e.symm
     clear q
     go_wp2_with fail
     go_quiet (fail)
     go_wp2
     go_roundw
     case rel => exact ⟨k + 1, by omega, by go_num, HK.out.on (drewBelow (Below.refl _ _) _), HY⟩
     case measure => (simp [intOf] <;> omega)
  ·obtain rfl : k = n := by omega
   have HF := Lib.hid (show (x, y) ∉ L from fun q => HN.out (by rw [← HL.out, List.take_length]; exact q))
   have HK := Lib.hid hK.1
   clear hK HN
   go_wp2
   go_ret
   exact mkHasC (by rw [decide_eq_false HF.out]; exact decide_eq_false (by omega)) HK.out
theorem iContainsC (w : World) (A : Option Addr) (n cap : Nat) (L : List (Int × Int)) (hL : L.length = n) (hn : n ≤ 1000) (h : RowC w A L) (x y : Int) :
  Calls Tryz.prog 99 #[.slice A n cap, .agg #[.int .i64 x, .int .i64 y]] w (Bol (decide ((x, y) ∈ L)) w) := by
 have T0 := Lib.hid (cb_start x y w)
 have HI := Lib.hid (fun W (hb : Below w.heap.size w W) => iIndexC W A n cap L hL hn (by
  obtain ⟨b, off, h1, h2⟩ := h
  refine ⟨b, off, fun hl => ⟨(h1 hl).1, Nat.lt_of_lt_of_le (h1 hl).2 hb.size⟩, fun j p hp => ?_⟩
  have hl : 0 < L.length := by have := (List.getElem?_eq_some_iff.1 hp).1; omega
  rw [hb.cell (p := ⟨b, off + j * 2, none⟩) (h1 hl).2, hb.cell (p := ⟨b, off + j * 2 + 1, none⟩) (h1 hl).2]
  exact h2 j p hp) x y)
 clear hL hn h
 go_enter Tryz.func99, Tryz.ntmps99
 go_wp2_with fail
 refine (HI.out _ T0.out.1).mono ?_
 rintro e w1 ⟨r, rfl, hr, hb1⟩
 have HB := Lib.hid (T0.out.on hb1).1
 have HR := Lib.hid hr
 clear HI T0 hb1 hr
 go_wp2
 go_ret
 exact mkBol (by rw [← HR.out]) HB.out
structure Tc (w : World) (a b c d : Int) (W : World) : Prop where
 bel : Below w.heap.size w W
 k1 : AtC W w.heap.size a b
 k2 : AtC W (w.heap.size + 1) c d
theorem tc_start (a b c d : Int) (w : World) : Tc w a b c d ((w.alloc (.cells #[.int .i64 a, .int .i64 b] 82)).alloc (.cells #[.int .i64 c, .int .i64 d] 82)) := by
 have h0 := AtC.new w a b
 have b0 := below_alloc1 w (.cells #[.int .i64 a, .int .i64 b] 82)
 have e0 : (w.alloc (.cells #[.int .i64 a, .int .i64 b] 82)).heap.size = w.heap.size + 1 := by simp
 generalize w.alloc (.cells #[.int .i64 a, .int .i64 b] 82) = W0 at h0 b0 e0 ⊢
 have h1 := AtC.new W0 c d
 have b1 := below_alloc1 W0 (.cells #[.int .i64 c, .int .i64 d] 82)
 rw [e0] at h1
 exact ⟨b0.trans (b1.mono (by omega)), h0.on b1, h1⟩
theorem Tc.drew {w W : World} {a b c d : Int} (h : Tc w a b c d W) : Tc w a b c d W.drew := ⟨h.bel.drew, h.k1, h.k2⟩
theorem Tc.on {w W W' : World} {a b c d : Int} (h : Tc w a b c d W) (hb : Below W.heap.size W W') : Tc w a b c d W' := ⟨h.bel.trans (hb.mono h.bel.size), h.k1.on hb, h.k2.on hb⟩
theorem step_in {ax ay bx by' : Int} (ha : 0 ≤ ax ∧ ax ≤ 8 ∧ 0 ≤ ay ∧ ay ≤ 8) (h : (bx, by') ∈ endsP ax ay) : (0 ≤ bx ∧ bx ≤ 8 ∧ 0 ≤ by' ∧ by' ≤ 8) ∧ (-1 ≤ clX ax ay bx by' ∧ clX ax ay bx by' ≤ 8 ∧ -1 ≤ clY ax ay bx by' ∧ clY ax ay bx by' ≤ 8) ∧ stepE ax ay bx by' = sgnE (clX ax ay bx by' + clY ax ay bx by') := by
 obtain ⟨hin, d, hd, e3, e4⟩ := ends_dir h
 simp only at hin e3 e4
 have h4 : d = 0 ∨ d = 1 ∨ d = 2 ∨ d = 3 := by omega
 rcases h4 with rfl | rfl | rfl | rfl
 ·have a : bx = ax + 1 := e3
  have b : by' = ay := by rw [e4]; show ay + 0 = ay; omega
  subst a b
  have c1 : clX ax by' (ax + 1) by' = ax := by unfold clX; rw [if_pos (by omega)]
  have c2 : clY ax by' (ax + 1) by' = by' - 1 := by unfold clY; rw [if_pos (by omega)]
  have s : stepE ax by' (ax + 1) by' = sgnE (ax + (by' - 1)) := by unfold stepE; rw [if_pos (by omega), if_pos ⟨rfl, rfl⟩]
  rw [c1, c2, s]
  exact ⟨by omega, by omega, rfl⟩
 ·have a : bx = ax := by rw [e3]; show ax + 0 = ax; omega
  have b : by' = ay + 1 := e4
  subst a b
  have c1 : clX bx ay bx (ay + 1) = bx := by unfold clX; rw [if_neg (by omega), if_neg (by omega), if_pos (by omega)]
  have c2 : clY bx ay bx (ay + 1) = ay := by unfold clY; rw [if_neg (by omega), if_neg (by omega), if_pos (by omega)]
  have s : stepE bx ay bx (ay + 1) = sgnE (bx + ay) := by unfold stepE; rw [if_pos (by omega), if_neg (by omega), if_neg (by omega), if_pos (by omega)]
  rw [c1, c2, s]
  exact ⟨by omega, by omega, rfl⟩
 ·have a : bx = ax - 1 := e3
  have b : by' = ay := by rw [e4]; show ay + 0 = ay; omega
  subst a b
  have c1 : clX ax by' (ax - 1) by' = ax - 1 := by unfold clX; rw [if_neg (by omega), if_pos (by omega)]
  have c2 : clY ax by' (ax - 1) by' = by' := by unfold clY; rw [if_neg (by omega), if_pos (by omega)]
  have s : stepE ax by' (ax - 1) by' = sgnE (ax - 1 + by') := by unfold stepE; rw [if_pos (by omega), if_neg (by omega), if_pos (by omega)]
  rw [c1, c2, s]
  exact ⟨by omega, by omega, rfl⟩
 ·have a : bx = ax := by rw [e3]; show ax + 0 = ax; omega
  have b : by' = ay - 1 := e4
  subst a b
  have c1 : clX bx ay bx (ay - 1) = bx - 1 := by unfold clX; rw [if_neg (by omega), if_neg (by omega), if_neg (by omega)]
  have c2 : clY bx ay bx (ay - 1) = ay - 1 := by unfold clY; rw [if_neg (by omega), if_neg (by omega), if_neg (by omega)]
  have s : stepE bx ay bx (ay - 1) = sgnE (bx - 1 + (ay - 1)) := by unfold stepE; rw [if_pos (by omega), if_neg (by omega), if_neg (by omega), if_neg (by omega), if_pos (by omega)]
  rw [c1, c2, s]
  exact ⟨by omega, by omega, rfl⟩
theorem step_no {ax ay bx by' : Int} (ha : 0 ≤ ax ∧ ax ≤ 8 ∧ 0 ≤ ay ∧ ay ≤ 8) (h : (bx, by') ∉ endsP ax ay) : stepE ax ay bx by' = 0 := by
 unfold stepE
 split
 ·rename_i hin
  have key : ¬ ((bx = ax ∧ by' = ay - 1) ∨ (bx = ax - 1 ∧ by' = ay) ∨ (bx = ax + 1 ∧ by' = ay) ∨ (bx = ax ∧ by' = ay + 1)) := fun q => h (by
   unfold endsP
   refine List.mem_filter.2 ⟨?_, inC_iff.2 (by simp only; omega)⟩
   unfold ends4
   simp only [List.mem_cons, List.not_mem_nil, or_false, Prod.mk.injEq]
   exact q)
  rw [if_neg (by omega), if_neg (by omega), if_neg (by omega), if_neg (by omega)]
 ·rfl
set_option maxHeartbeats 2000000 in
theorem iEdge (ax ay bx by' : Int) (w : World) :
  Calls Tryz.prog 84 #[.int .i64 ax, .int .i64 ay, .int .i64 bx, .int .i64 by'] w (Num (stepE ax ay bx by') w) := by
 have T0 := Lib.hid (tc_start ax ay bx by' w)
 have HIn := Lib.hid (fun W => iInRange ax ay W)
 by_cases hr : 0 ≤ ax ∧ ax ≤ 8 ∧ 0 ≤ ay ∧ ay ≤ 8
 rotate_left
 ·have hf : inC (ax, ay) = false := by rw [Bool.eq_false_iff]; intro q; have := inC_iff.1 q; simp only at this; omega
  have HE := Lib.hid (step_out (ax := ax) (ay := ay) (bx := bx) (by' := by') (by omega))
  rw [hf] at HIn
  clear hr hf
  go_enter Tryz.func84, Tryz.ntmps84
  go_upto_region 2 with fail
  have T1 := T0.out.drew
  clear T0
  refine wp_region_noPanic ?_
  refine wp_region_held_drew (S := (fun w' => w'.cell? ⟨w.heap.size, 0, none⟩ = some (.int .i64 ax) ∧ w'.cell? ⟨w.heap.size, 1, none⟩ = some (.int .i64 ay))) (by kernel_rfl) (⟨T1.k1.c0, T1.k1.c1⟩) (fun hHeld => ?_)
  generalize World.drew _ = WR at T1 hHeld ⊢
  refine wpAnyH_take (i := 0) (v := ?_) rfl (by kernel_rfl) (by kernel_rfl) (by kernel_rfl) (fun _ _ _ h => h) (Or.inl ⟨by rfl, ?_⟩) (by assumption) ?_
  rotate_left
  ·(intro w' hS; (try dsimp only at hS); go_simp; try with_reducible rfl)
  try simp only [Act.put, List.getElem_toArray, List.getElem_cons_succ, List.getElem_cons_zero, List.setIfInBounds_toArray, List.set_cons_zero, List.set_cons_succ]
  refine wpAnyH_ready (rs := [1]) (by kernel_rfl) (by simp) ?_
  refine AllReadyH.cons rfl (fun K hK => ?_) AllReadyH.nil
  go_simp
  refine (HIn.out _).mono ?_
  rintro e wx ⟨rfl, hbx⟩
  have T1 := T1.on hbx
  clear hbx
  go_wp2_with fail
  refine hK.out _ _ (⟨T1.k1.c0, T1.k1.c1⟩) (fun hHeld => ?_)
  clear hK K
  try simp only [Act.put, List.getElem_toArray, List.getElem_cons_succ, List.getElem_cons_zero, List.setIfInBounds_toArray, List.set_cons_zero, List.set_cons_succ]
  refine wpAnyH_take (i := 2) (v := ?_) rfl (by kernel_rfl) (by kernel_rfl) (by kernel_rfl) (fun _ _ _ h => h) (Or.inl ⟨by rfl, ?_⟩) (by assumption) ?_
  rotate_left
  ·(intro w' hS; (try dsimp only at hS); go_simp; try with_reducible rfl)
  try simp only [Act.put, List.getElem_toArray, List.getElem_cons_succ, List.getElem_cons_zero, List.setIfInBounds_toArray, List.set_cons_zero, List.set_cons_succ]
  refine wpAnyH_take (i := 3) (v := ?_) rfl (by kernel_rfl) (by kernel_rfl) (by kernel_rfl) (fun _ _ _ h => h) (Or.inl ⟨by rfl, ?_⟩) (by assumption) ?_
  rotate_left
  ·(intro w' hS; (try dsimp only at hS); go_simp; try with_reducible rfl)
  try simp only [Act.put, List.getElem_toArray, List.getElem_cons_succ, List.getElem_cons_zero, List.setIfInBounds_toArray, List.set_cons_zero, List.set_cons_succ]
  refine wpAnyH_take (i := 4) (v := undef) rfl (by kernel_rfl) (by kernel_rfl) (by kernel_rfl) (fun _ _ _ h => h) (Or.inr ⟨by rfl, rfl⟩) (by assumption) ?_
  try simp only [Act.put, List.getElem_toArray, List.getElem_cons_succ, List.getElem_cons_zero, List.setIfInBounds_toArray, List.set_cons_zero, List.set_cons_succ]
  refine wpAnyH_take (i := 5) (v := undef) rfl (by kernel_rfl) (by kernel_rfl) (by kernel_rfl) (fun _ _ _ h => h) (Or.inr ⟨by rfl, rfl⟩) (by assumption) ?_
  try simp only [Act.put, List.getElem_toArray, List.getElem_cons_succ, List.getElem_cons_zero, List.setIfInBounds_toArray, List.set_cons_zero, List.set_cons_succ]
  refine wpAnyH_take (i := 6) (v := undef) rfl (by kernel_rfl) (by kernel_rfl) (by kernel_rfl) (fun _ _ _ h => h) (Or.inr ⟨by rfl, rfl⟩) (by assumption) ?_
  try simp only [Act.put, List.getElem_toArray, List.getElem_cons_succ, List.getElem_cons_zero, List.setIfInBounds_toArray, List.set_cons_zero, List.set_cons_succ]
  refine wpAnyH_take (i := 7) (v := undef) rfl (by kernel_rfl) (by kernel_rfl) (by kernel_rfl) (fun _ _ _ h => h) (Or.inr ⟨by rfl, rfl⟩) (by assumption) ?_
  try simp only [Act.put, List.getElem_toArray, List.getElem_cons_succ, List.getElem_cons_zero, List.setIfInBounds_toArray, List.set_cons_zero, List.set_cons_succ]
  refine wpAnyH_take (i := 8) (v := undef) rfl (by kernel_rfl) (by kernel_rfl) (by kernel_rfl) (fun _ _ _ h => h) (Or.inr ⟨by rfl, rfl⟩) (by assumption) ?_
  try simp only [Act.put, List.getElem_toArray, List.getElem_cons_succ, List.getElem_cons_zero, List.setIfInBounds_toArray, List.set_cons_zero, List.set_cons_succ]
  refine wpAnyH_take (i := 9) (v := ?_) rfl (by kernel_rfl) (by kernel_rfl) (by kernel_rfl) (fun _ _ _ h => h) (Or.inl ⟨by rfl, ?_⟩) (by assumption) ?_
  rotate_left
  ·(intro w' hS; (try dsimp only at hS); go_simp; try with_reducible rfl)
  try simp only [Act.put, List.getElem_toArray, List.getElem_cons_succ, List.getElem_cons_zero, List.setIfInBounds_toArray, List.set_cons_zero, List.set_cons_succ]
  refine wpAnyH_done (by kernel_rfl) ?_ _
  refine NoPanic.normal ?_
  clear hHeld
  go_wp2
  go_ret
  exact ⟨by rw [HE.out]; rfl, T1.bel⟩
 ·have hf : inC (ax, ay) = true := inC_iff.2 (by simp only; omega)
  have HEn := Lib.hid (fun W => iEnds ax ay hr W)
  have HIns := Lib.hid (fun h => step_in (bx := bx) (by' := by') hr h)
  have HNo := Lib.hid (fun h => step_no (bx := bx) (by' := by') hr h)
  have HLe := Lib.hid (fun (hb : 0 ≤ bx ∧ bx ≤ 8 ∧ 0 ≤ by' ∧ by' ≤ 8) W => iLeft ax ay bx by' hr hb W)
  have HLn := Lib.hid (ends_le ax ay)
  rw [hf] at HIn
  clear hr hf
  go_enter Tryz.func84, Tryz.ntmps84
  go_upto_region 2 with fail
  have T1 := T0.out.drew
  clear T0
  refine wp_region_noPanic ?_
  refine wp_region_held_drew (S := (fun w' => w'.cell? ⟨w.heap.size, 0, none⟩ = some (.int .i64 ax) ∧ w'.cell? ⟨w.heap.size, 1, none⟩ = some (.int .i64 ay) ∧ w'.cell? ⟨w.heap.size + 1, 0, none⟩ = some (.int .i64 bx) ∧ w'.cell? ⟨w.heap.size + 1, 1, none⟩ = some (.int .i64 by'))) (by kernel_rfl) (⟨T1.k1.c0, T1.k1.c1, T1.k2.c0, T1.k2.c1⟩) (fun hHeld => ?_)
  generalize World.drew _ = WR at T1 hHeld ⊢
  refine wpAnyH_take (i := 0) (v := ?_) rfl (by kernel_rfl) (by kernel_rfl) (by kernel_rfl) (fun _ _ _ h => h) (Or.inl ⟨by rfl, ?_⟩) (by assumption) ?_
  rotate_left
  ·(intro w' hS; (try dsimp only at hS); go_simp; try with_reducible rfl)
  try simp only [Act.put, List.getElem_toArray, List.getElem_cons_succ, List.getElem_cons_zero, List.setIfInBounds_toArray, List.set_cons_zero, List.set_cons_succ]
  refine wpAnyH_ready (rs := [1]) (by kernel_rfl) (by simp) ?_
  refine AllReadyH.cons rfl (fun K hK => ?_) AllReadyH.nil
  go_simp
  refine (HIn.out _).mono ?_
  rintro e wx ⟨rfl, hbx⟩
  have T1 := T1.on hbx
  clear hbx
  go_wp2_with fail
  refine hK.out _ _ (⟨T1.k1.c0, T1.k1.c1, T1.k2.c0, T1.k2.c1⟩) (fun hHeld => ?_)
  clear hK K
  try simp only [Act.put, List.getElem_toArray, List.getElem_cons_succ, List.getElem_cons_zero, List.setIfInBounds_toArray, List.set_cons_zero, List.set_cons_succ]
  refine wpAnyH_take (i := 2) (v := ?_) rfl (by kernel_rfl) (by kernel_rfl) (by kernel_rfl) (fun _ _ _ h => h) (Or.inl ⟨by rfl, ?_⟩) (by assumption) ?_
  rotate_left
  ·(intro w' hS; (try dsimp only at hS); go_simp; try with_reducible rfl)
  try simp only [Act.put, List.getElem_toArray, List.getElem_cons_succ, List.getElem_cons_zero, List.setIfInBounds_toArray, List.set_cons_zero, List.set_cons_succ]
  refine wpAnyH_take (i := 3) (v := ?_) rfl (by kernel_rfl) (by kernel_rfl) (by kernel_rfl) (fun _ _ _ h => h) (Or.inl ⟨by rfl, ?_⟩) (by assumption) ?_
  rotate_left
  ·(intro w' hS; (try dsimp only at hS); go_simp; try with_reducible rfl)
  try simp only [Act.put, List.getElem_toArray, List.getElem_cons_succ, List.getElem_cons_zero, List.setIfInBounds_toArray, List.set_cons_zero, List.set_cons_succ]
  refine wpAnyH_take (i := 4) (v := ?_) rfl (by kernel_rfl) (by kernel_rfl) (by kernel_rfl) (fun _ _ _ h => h) (Or.inl ⟨by rfl, ?_⟩) (by assumption) ?_
  rotate_left
  ·(intro w' hS; (try dsimp only at hS); go_simp; try with_reducible rfl)
  try simp only [Act.put, List.getElem_toArray, List.getElem_cons_succ, List.getElem_cons_zero, List.setIfInBounds_toArray, List.set_cons_zero, List.set_cons_succ]
  refine wpAnyH_take (i := 6) (v := ?_) rfl (by kernel_rfl) (by kernel_rfl) (by kernel_rfl) (fun _ _ _ h => h) (Or.inl ⟨by rfl, ?_⟩) (by assumption) ?_
  rotate_left
  ·(intro w' hS; (try dsimp only at hS); go_simp; try with_reducible rfl)
  try simp only [Act.put, List.getElem_toArray, List.getElem_cons_succ, List.getElem_cons_zero, List.setIfInBounds_toArray, List.set_cons_zero, List.set_cons_succ]
  refine wpAnyH_ready (rs := [5]) (by kernel_rfl) (by simp) ?_
  refine AllReadyH.cons rfl (fun K hK => ?_) AllReadyH.nil
  go_simp
  refine (HEn.out _).mono ?_
  rintro e wx ⟨A2, cap2, rfl, hown, hbx⟩
  have T1 := T1.on hbx
  have hct := iContainsC wx A2 (endsP ax ay).length cap2 (endsP ax ay) rfl (by have := HLn.out; omega) (rowC_own hown) bx by'
  have HCt := Lib.hid hct
  generalize hm : (endsP ax ay).length = m at HCt ⊢
  clear hbx hown hct
  go_wp2_with fail
  refine hK.out _ _ (⟨T1.k1.c0, T1.k1.c1, T1.k2.c0, T1.k2.c1⟩) (fun hHeld => ?_)
  clear hK K
  try simp only [Act.put, List.getElem_toArray, List.getElem_cons_succ, List.getElem_cons_zero, List.setIfInBounds_toArray, List.set_cons_zero, List.set_cons_succ]
  refine wpAnyH_ready (rs := [7]) (by kernel_rfl) (by simp) ?_
  refine AllReadyH.cons rfl (fun K hK => ?_) AllReadyH.nil
  go_simp
  refine (HCt.out).mono ?_
  rintro e wx ⟨rfl, hbx⟩
  have T1 := T1.on hbx
  clear hbx
  go_wp2_with fail
  refine hK.out _ _ (⟨T1.k1.c0, T1.k1.c1, T1.k2.c0, T1.k2.c1⟩) (fun hHeld => ?_)
  clear hK K
  try simp only [Act.put, List.getElem_toArray, List.getElem_cons_succ, List.getElem_cons_zero, List.setIfInBounds_toArray, List.set_cons_zero, List.set_cons_succ]
  refine wpAnyH_take (i := 8) (v := ?_) rfl (by kernel_rfl) (by kernel_rfl) (by kernel_rfl) (fun _ _ _ h => h) (Or.inl ⟨by rfl, ?_⟩) (by assumption) ?_
  rotate_left
  ·(intro w' hS; (try dsimp only at hS); go_simp; try with_reducible rfl)
  try simp only [Act.put, List.getElem_toArray, List.getElem_cons_succ, List.getElem_cons_zero, List.setIfInBounds_toArray, List.set_cons_zero, List.set_cons_succ]
  refine wpAnyH_take (i := 9) (v := ?_) rfl (by kernel_rfl) (by kernel_rfl) (by kernel_rfl) (fun _ _ _ h => h) (Or.inl ⟨by rfl, ?_⟩) (by assumption) ?_
  rotate_left
  ·(intro w' hS; (try dsimp only at hS); go_simp; try with_reducible rfl)
  try simp only [Act.put, List.getElem_toArray, List.getElem_cons_succ, List.getElem_cons_zero, List.setIfInBounds_toArray, List.set_cons_zero, List.set_cons_succ]
  refine wpAnyH_done (by kernel_rfl) ?_ _
  refine NoPanic.normal ?_
  clear hHeld HCt
  by_cases hin : (bx, by') ∈ endsP ax ay
  ·obtain ⟨hb, hc, hs⟩ := HIns.out hin
   have HL := Lib.hid (fun W => HLe.out hb W)
   rw [decide_eq_true hin]
   have HSt := Lib.hid hs
   have c0 := T1.k1.c0
   have c1 := T1.k1.c1
   have c2 := T1.k2.c0
   have c3 := T1.k2.c1
   clear HIns HNo HLe hm HLn hs hb hin HEn HIn
   generalize clX ax ay bx by' = m' at HL hc HSt
   generalize clY ax ay bx by' = n' at HL hc HSt
   have e1 : wrap64 (m' + n') = m' + n' := by unfold wrap64; omega
   have HT := Lib.hid (show (m' + n').tmod 2 = 0 ↔ (m' + n') % 2 = 0 by
    by_cases h : 0 ≤ m' + n'
    ·rw [Int.tmod_eq_emod_of_nonneg h]
    ·have : m' + n' = -1 ∨ m' + n' = -2 := by omega
     rcases this with e | e <;> rw [e] <;> decide)
   clear hc
   go_wp2_with fail
   refine (HL.out _).mono ?_
   rintro e w2 ⟨rfl, hb2⟩
   have T2 := T1.on hb2
   have hbx := below_alloc1 w2 (.cells #[.int .i64 m', .int .i64 n'] 60)
   have HB3 := Lib.hid (T2.on hbx).bel
   clear T1 T2 hb2 hbx c0 c1 c2 c3 HL
   by_cases hev : (m' + n').tmod 2 = 0
   ·have hev2 : ((m' + n').tmod 2 == 0) = true := by simpa using hev
    have HS := Lib.hid (show stepE ax ay bx by' = 1 by rw [HSt.out]; unfold sgnE; rw [if_pos (HT.out.1 hev)])
    clear hev
    go_wp2
    go_ret
    exact ⟨by rw [HS.out]; rfl, HB3.out⟩
   ·have hev2 : ((m' + n').tmod 2 == 0) = false := by simpa using hev
    have HS := Lib.hid (show stepE ax ay bx by' = -1 by rw [HSt.out]; unfold sgnE; rw [if_neg (fun q => hev (HT.out.2 q))])
    clear hev
    go_wp2
    go_ret
    exact ⟨by rw [HS.out]; rfl, HB3.out⟩
  ·have HE := Lib.hid (HNo.out hin)
   rw [decide_eq_false hin]
   clear HIns HNo HLe hin
   go_wp2
   go_ret
   exact ⟨by rw [HE.out]; rfl, T1.bel⟩
end Go.Proofs.YtmajllgfmclcoaaGreat.Cor

namespace Go.Proofs.YtmajllgfmclcoaaGreat.Til
set_option linter.unusedVariables false
set_option linter.unusedSimpArgs false
open Go.RowKit Go.Proofs.YtmajllgfmclcoaaGreat.Cell Go.Proofs.YtmajllgfmclcoaaGreat.Dom Go.Proofs.YtmajllgfmclcoaaGreat.Dms Go.Joins
open Go.Proofs.YtmajllgfmclcoaaGreat.Reg hiding Yes add_none

theorem domInfo : (Tryz.prog.info? 43).map (fun i => (i.zero, i.size, i.bytes)) = some (some (.agg #[.int .i64 0, .int .i64 0, .bool false]), 3, 24) := by kernel_rfl
theorem made3 (n : Nat) : (madeCells #[.int .i64 0, .int .i64 0, .bool false] (n * 3)).toList = rowM (List.replicate n (0, 0, false)) := by
 apply List.ext_getElem?
 intro j
 by_cases hj : j < n * 3
 ·have h := rowM_at (List.replicate n (0, 0, false)) (j / 3) (0, 0, false) (by rw [List.getElem?_replicate]; simp; omega)
  obtain ⟨h0, h1, h2⟩ := h
  simp only [madeCells, Array.toList_map, Array.toList_range, List.getElem?_map, List.getElem?_range hj, Option.map_some]
  have hc : j = j / 3 * 3 ∨ j = j / 3 * 3 + 1 ∨ j = j / 3 * 3 + 2 := by omega
  rcases hc with e | e | e
  ·rw [show j % (#[Value.int .i64 0, .int .i64 0, .bool false] : Array Value).size = 0 by show j % 3 = 0; omega]
   rw [← e] at h0; rw [h0]; rfl
  ·rw [show j % (#[Value.int .i64 0, .int .i64 0, .bool false] : Array Value).size = 1 by show j % 3 = 1; omega]
   rw [← e] at h1; rw [h1]; rfl
  ·rw [show j % (#[Value.int .i64 0, .int .i64 0, .bool false] : Array Value).size = 2 by show j % 3 = 2; omega]
   rw [← e] at h2; rw [h2]; rfl
 ·rw [List.getElem?_eq_none (by simp [madeCells]; omega), List.getElem?_eq_none (by rw [rowM_length, List.length_replicate]; omega)]

set_option maxHeartbeats 400000 in
theorem szDominoS (A : Option Addr) (n cap : Nat) (left : Int) (h0 : 0 ≤ left) (h1 : left ≤ 1048576) (hn : (n : Int) ≤ 9223372036854775807) (w : World) :
  Calls Tryz.prog 6 #[.slice A n cap, .int .i64 left] w fun e w' => e = .returned (.int .i64 (szR left n)) ∧ w' = w := by
 by_cases h : (n : Int) ≤ left
 ·have HE := Lib.hid (show szR left n = left - n by unfold szR; rw [if_pos h])
  have h2 : ¬ left - (n : Int) < 0 := by omega
  go_enter Tryz.func6, Tryz.ntmps6
  go_wp2
  go_ret
  exact ⟨by rw [HE.out]; rfl, rfl⟩
 ·have HE := Lib.hid (show szR left n = -1 by unfold szR; rw [if_neg h])
  have h2 : left - (n : Int) < 0 := by omega
  go_enter Tryz.func6, Tryz.ntmps6
  go_wp2
  go_ret
  exact ⟨by rw [HE.out]; rfl, rfl⟩

def DmPost (L : List Dm) (n : Nat) (w : World) (e : Ending) (w' : World) : Prop :=
 ∃ A cap, e = .returned (.slice A n cap) ∧ n ≤ cap ∧ w'.ownsRow w.heap.size 43 3 (.slice A n cap) n (rowM L) ∧ Below w.heap.size w w'
theorem dm_step (L M : List Dm) (n k : Nat) (hx : L.length = n) (hk : k < n) :
  (((rowM (L.take k ++ List.replicate (n - k) (0, 0, false))).set (k * 3) (.int .i64 L[k].1)).set (k * 3 + 1) (.int .i64 L[k].2.1)).set (k * 3 + 2) (.bool L[k].2.2) = rowM (L.take (k + 1) ++ List.replicate (n - (k + 1)) (0, 0, false)) := by
 rw [show n - k = (n - (k + 1)) + 1 by omega, List.replicate_succ, rowM_put (L.take k) (0, 0, false) L[k] _ k (by rw [List.length_take]; omega), List.take_succ_eq_append_getElem (by omega), List.append_assoc]
 rfl

set_option maxRecDepth 100000 in
set_option maxHeartbeats 1000000 in
theorem toDominoS (w : World) (A : Option Addr) (n cap B : Nat) (L : List Dm) (hx : L.length = n) (hn : (n : Int) ≤ 1048576) (h : RowM w B A L) (hB : B ≤ w.heap.size) :
  Calls Tryz.prog 9 #[.slice A n cap] w (DmPost L n w) := by
 obtain ⟨i0, hi, hz0, hz1, hz2⟩ := info_parts domInfo
 obtain ⟨b, off, hA, hc⟩ := h.at
 have HA := Lib.hid hA
 have HC := Lib.hid hc
 have HX := Lib.hid hx
 clear hA hc hx h
 go_enter Tryz.func9, Tryz.ntmps9
 go_wp2_with (first
  | (at_make; refine wpList_make_full _ rfl _ _ 28 rfl w.heap.size 43 i0 (.agg #[.int .i64 0, .int .i64 0, .bool false]) 3 Tryz.underlying28 hi hz0 hz1 .i64 .i64 (n : Int) (n : Int) n rfl rfl rfl rfl (by rw [hz2]; omega) (by unfold maxLen; omega) (by omega) ?_; intro w1 hown1 hg1))
 have hb1 : Below w.heap.size w w1 := (Below.refl _ _).grown hg1 (by omega) (by simp)
 have HO := Lib.hid (show w1.ownsRow w.heap.size 43 3 (.slice (some ⟨w.heap.size, 0, none⟩) n n) n (rowM (L.take 0 ++ List.replicate (n - 0) (0, 0, false))) by
  rw [show (Value.agg #[.int .i64 0, .int .i64 0, .bool false]).cells = #[.int .i64 0, .int .i64 0, .bool false] from rfl, made3] at hown1
  simpa using hown1)
 clear hown1 hg1 hi hz0 hz1 hz2
 go_loopw [4] (fun i wr => ∃ k : Nat, k ≤ n ∧ i = .int .i64 k ∧ wr.ownsRow w.heap.size 43 3 (.slice (some ⟨w.heap.size, 0, none⟩) n n) n (rowM (L.take k ++ List.replicate (n - k) (0, 0, false))) ∧ Below w.heap.size w wr) (fun i _ => n - (intOf i).toNat)
 case atStart => exact ⟨0, Nat.zero_le _, rfl, HO.out, hb1⟩
 case round =>
  clear HO hb1
  obtain ⟨k, hk, rfl, hown, hb⟩ := hrel
  have hbs := hb.size
  by_cases hlt : k < n
  ·have hkx : k < L.length := by have := HX.out; omega
   obtain ⟨rfl, hbw⟩ := HA.out (by omega)
   obtain ⟨c0, c1, c2⟩ := HC.out k hkx
   have c0 := (hb.cell (p := ⟨b, off + k * 3, none⟩) (by show b < _; omega)).trans c0
   have c1 := (hb.cell (p := ⟨b, off + k * 3 + 1, none⟩) (by show b < _; omega)).trans c1
   have c2 := (hb.cell (p := ⟨b, off + k * 3 + 2, none⟩) (by show b < _; omega)).trans c2
   have HST := Lib.hid (dm_step L L n k HX.out hlt)
   generalize L[k] = d at c0 c1 c2 HST
   obtain ⟨x, y, bb⟩ := d
   simp only at c0 c1 c2
   have HOwn := Lib.hid hown
   have HBw := Lib.hid hb
   clear hown hb
   go_wp2_with fail
   refine (toDomino x y bb _).mono ?_
   rintro e w2 ⟨rfl, hb2⟩
   have hown := Reg.own_below HOwn.out hb2 (Nat.le_refl _)
   have hb := HBw.out.trans (hb2.mono hbs)
   have hu : ∀ m, m < n * 3 → ∃ u, w2.cell? ⟨w.heap.size, m, none⟩ = some u := fun m hm => by
    have hlen := hown.1
    rw [hown.cellAt m (by omega)]; exact ⟨_, List.getElem?_eq_getElem (by omega)⟩
   obtain ⟨u0, hu0⟩ := hu (k * 3) (by omega)
   obtain ⟨u1, hu1⟩ := hu (k * 3 + 1) (by omega)
   obtain ⟨u2, hu2⟩ := hu (k * 3 + 2) (by omega)
   have hf0 := hown.frozenAt (k * 3)
   have hf1 := hown.frozenAt (k * 3 + 1)
   have hf2 := hown.frozenAt (k * 3 + 2)
   obtain ⟨hst, _⟩ := hown.stored (k * 3) (.int .i64 x)
   obtain ⟨hst, _⟩ := hst.stored (k * 3 + 1) (.int .i64 y)
   obtain ⟨hst, _⟩ := hst.stored (k * 3 + 2) (.bool bb)
   rw [HST.out] at hst
   have R := Lib.hid hst
   have hb3 := ((hb.setCell (p := ⟨w.heap.size, k * 3, none⟩) (Nat.le_refl _) (.int .i64 x)).setCell (p := ⟨w.heap.size, k * 3 + 1, none⟩) (Nat.le_refl _) (.int .i64 y)).setCell (p := ⟨w.heap.size, k * 3 + 2, none⟩) (Nat.le_refl _) (.bool bb)
   have HB3 := Lib.hid hb3
   clear hown hst hb3 hb c0 c1 c2 hb2 hu HOwn HBw HST
   go_wp2
   go_roundw
   case rel => exact ⟨k + 1, by omega, by go_num, R.out, HB3.out⟩
   case measure => (simp [intOf] <;> omega)
  ·obtain rfl : k = n := by omega
   have R := Lib.hid (show wr.ownsRow w.heap.size 43 3 (.slice (some ⟨w.heap.size, 0, none⟩) k k) k (rowM L) by
    have e : rowM (L.take k ++ List.replicate (k - k) (0, 0, false)) = rowM L := by rw [List.take_of_length_le (by rw [HX.out]; omega), Nat.sub_self]; simp
    rw [e] at hown; exact hown)
   clear hown
   go_wp2
   go_ret
   exact ⟨_, _, rfl, Nat.le_refl _, R.out, hb⟩

set_option maxRecDepth 100000 in
set_option maxHeartbeats 1000000 in
theorem eqDoms (w : World) (A A' : Option Addr) (n cap cap' B B' : Nat) (L : List Dm) (hx : L.length = n) (hl : (n : Int) ≤ 9223372036854775807) (h1 : RowM w B A L) (h2 : RowM w B' A' L) (hB : B ≤ w.heap.size) (hB' : B' ≤ w.heap.size) :
  Calls Tryz.prog 11 #[.slice A n cap, .slice A' n cap'] w (Bol true w) := by
 obtain ⟨b, off, hA, hc⟩ := h1.at
 obtain ⟨b', off', hA', hc'⟩ := h2.at
 have H1 := Lib.hid hA
 have H2 := Lib.hid hA'
 have H3 := Lib.hid hc
 have H4 := Lib.hid hc'
 have HX := Lib.hid hx
 clear hA hA' hc hc' h1 h2 hx
 have hnn : (((n : Nat) : Int) != ((n : Nat) : Int)) = false := by simp
 go_enter Tryz.func11, Tryz.ntmps11
 go_wp2_with fail
 go_loopw [5] (fun i wr => ∃ k : Nat, k ≤ n ∧ i = .int .i64 k ∧ Below w.heap.size w wr) (fun i _ => n - (intOf i).toNat)
 case atStart => exact ⟨0, Nat.zero_le _, rfl, Below.refl _ _⟩
 case round =>
  obtain ⟨k, hk, rfl, hb⟩ := hrel
  have hbs := hb.size
  by_cases hlt : k < n
  ·have hkx : k < L.length := by have := HX.out; omega
   obtain ⟨rfl, hbw⟩ := H1.out (by omega)
   obtain ⟨rfl, hbw'⟩ := H2.out (by omega)
   obtain ⟨c1, c2, c3⟩ := H3.out k hkx
   obtain ⟨d1, d2, d3⟩ := H4.out k hkx
   have c1' := (hb.cell (p := ⟨b, off + k * 3, none⟩) (by show b < _; omega)).trans c1
   have c2' := (hb.cell (p := ⟨b, off + k * 3 + 1, none⟩) (by show b < _; omega)).trans c2
   have c3' := (hb.cell (p := ⟨b, off + k * 3 + 2, none⟩) (by show b < _; omega)).trans c3
   have d1' := (hb.cell (p := ⟨b', off' + k * 3, none⟩) (by show b' < _; omega)).trans d1
   have d2' := (hb.cell (p := ⟨b', off' + k * 3 + 1, none⟩) (by show b' < _; omega)).trans d2
   have d3' := (hb.cell (p := ⟨b', off' + k * 3 + 2, none⟩) (by show b' < _; omega)).trans d3
   clear c1 c2 c3 d1 d2 d3
   generalize L[k] = d at c1' c2' c3' d1' d2' d3'
   obtain ⟨x, y, bb⟩ := d
   simp only at c1' c2' c3' d1' d2' d3'
   have hB1 : b < wr.heap.size := by omega
   have hB2 : b' < wr.heap.size := by omega
   go_wp2_with fail
   go_region_held3 (fun w' => w'.cell? ⟨b, off + k * 3, none⟩ = some (.int .i64 x) ∧ w'.cell? ⟨b, off + k * 3 + 1, none⟩ = some (.int .i64 y) ∧ w'.cell? ⟨b, off + k * 3 + 2, none⟩ = some (.bool bb) ∧ w'.cell? ⟨b', off' + k * 3, none⟩ = some (.int .i64 x) ∧ w'.cell? ⟨b', off' + k * 3 + 1, none⟩ = some (.int .i64 y) ∧ w'.cell? ⟨b', off' + k * 3 + 2, none⟩ = some (.bool bb))
    (first | go_keep | exact ⟨(hbx.cell (by simpa using hB1)).trans c1', (hbx.cell (by simpa using hB1)).trans c2', (hbx.cell (by simpa using hB1)).trans c3', (hbx.cell (by simpa using hB2)).trans d1', (hbx.cell (by simpa using hB2)).trans d2', (hbx.cell (by simpa using hB2)).trans d3'⟩)
    (first | (go_at_call 24; refine (eqDominoSame x y bb _).mono ?_; rintro e wx ⟨rfl, hbx⟩))
   have hb2 : Below w.heap.size w wx := hb.drew.trans (hbx.mono hbs)
   clear c1' c2' c3' d1' d2' d3' hbx
   go_wp2
   go_roundw
   case rel => exact ⟨k + 1, by omega, by go_num, hb2⟩
   case measure => (simp [intOf] <;> omega)
  ·go_wp2
   go_ret
   exact mkBol rfl hb
end Go.Proofs.YtmajllgfmclcoaaGreat.Til
