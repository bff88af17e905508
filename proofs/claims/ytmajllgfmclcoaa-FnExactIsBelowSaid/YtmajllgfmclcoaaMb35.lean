/- EdI in one text. -/
import Derived.Test.YtmajllgfmclcoaaMb34

namespace Go.Proofs.Ytmajllgfmclcoaa.Cor
set_option linter.unusedVariables false
set_option linter.unusedSimpArgs false
set_option maxRecDepth 100000
open Go.RowKit Go.Proofs.Ytmajllgfmclcoaa.Cell Go.Proofs.Ytmajllgfmclcoaa.Hgt Go.Joins
open Go.Proofs.Ytmajllgfmclcoaa.Cels (rowC RowC rowC_own)

def Cb (w : World) (x y : Int) (W : World) : Prop := Below w.heap.size w W ∧ AtC W w.heap.size x y
theorem cb_start (x y : Int) (w : World) : Cb w x y (w.alloc (.cells #[.int .i64 x, .int .i64 y] 72)) := ⟨below_alloc1 w _, AtC.new w x y⟩
theorem Cb.on {w W W' : World} {x y : Int} (h : Cb w x y W) (hb : Below W.heap.size W W') : Cb w x y W' := ⟨h.1.trans (hb.mono h.1.size), h.2.on hb⟩
def HasC (L : List (Int × Int)) (c : Int × Int) (w : World) (e : Ending) (w' : World) : Prop := ∃ r : Int, e = .returned (.int .i64 r) ∧ decide (0 ≤ r) = decide (c ∈ L) ∧ Below w.heap.size w w'
theorem mkHasC {L : List (Int × Int)} {c : Int × Int} {w W : World} {r : Int} (h : decide (0 ≤ r) = decide (c ∈ L)) (hb : Below w.heap.size w W) : HasC L c w (.returned (.int .i64 r)) W := ⟨r, rfl, h, hb⟩
theorem takeC_no {L : List (Int × Int)} {c : Int × Int} {k : Nat} (hk : k < L.length) (h : c ∉ L.take k) (hne : L[k] ≠ c) : c ∉ L.take (k + 1) := by
 rw [List.take_succ_eq_append_getElem hk]
 intro q
 rcases List.mem_append.1 q with q | q
 ·exact h q
 ·exact hne (List.mem_singleton.1 q).symm
set_option maxHeartbeats 2000000 in
theorem iIndexC (w : World) (A : Option Addr) (n cap : Nat) (L : List (Int × Int)) (hL : L.length = n) (hn : n ≤ 1000) (h : RowC w A L) (x y : Int) :
  Calls Try.prog 92 #[.slice A n cap, .agg #[.int .i64 x, .int .i64 y]] w (HasC L (x, y) w) := by
 obtain ⟨b, off, hA, hc⟩ := h
 have HA := Lib.hid hA
 have HC := Lib.hid hc
 have HL := Lib.hid hL
 have T0 := Lib.hid (cb_start x y w)
 clear hA hc hL
 go_enter Try.func92, Try.ntmps92
 go_wp2_with fail
 go_loopw [5, 8] (fun _ i wr => ∃ k : Nat, k ≤ n ∧ i = .int .i64 k ∧ Cb w x y wr ∧ Hid ((x, y) ∉ L.take k)) (fun _ i _ => n - (intOf i).toNat)
 case atStart => exact ⟨0, Nat.zero_le _, rfl, T0.out, Lib.hid (by simp)⟩
 case round =>
  clear T0
  obtain ⟨k, hk, rfl, hK, HN⟩ := hrel
  by_cases hlt : k < n
  ·have hkL : k < L.length := by rw [HL.out]; exact hlt
   obtain ⟨rfl, hbB⟩ := HA.out (by omega)
   obtain ⟨e0, e1⟩ := HC.out k L[k] (List.getElem?_eq_getElem hkL)
   have d0 := (hK.1.cell (p := ⟨b, off + k * 2, none⟩) (by show b < _; omega)).trans e0
   have d1 := (hK.1.cell (p := ⟨b, off + k * 2 + 1, none⟩) (by show b < _; omega)).trans e1
   have c0 := AtC.c0 hK.2
   have c1 := AtC.c1 hK.2
   have HX := Lib.hid (fun hne => takeC_no hkL HN.out hne)
   have HIn := Lib.hid (fun (he : L[k] = (x, y)) => show (x, y) ∈ L from he ▸ List.getElem_mem hkL)
   generalize L[k] = p at d0 d1 HX HIn
   obtain ⟨u, v⟩ := p
   simp only at d0 d1
   have HK := Lib.hid hK
   clear e0 e1 HN hK
   by_cases q : u = x ∧ v = y
   ·obtain ⟨rfl, rfl⟩ := q
    have HI := Lib.hid (HIn.out rfl)
    clear HX HIn
    have huu : (u == u) = true := by simp
    have hvv : (v == v) = true := by simp
    go_wp2_with fail
    go_quiet (fail)
    go_wp2
    go_ret
    exact mkHasC (by rw [decide_eq_true HI.out]; exact decide_eq_true (by omega)) (drewBelow HK.out.1 _)
   ·have HY := Lib.hid (HX.out (fun e => by injection e with e1 e2; exact q ⟨e1, e2⟩))
    clear HX HIn
    by_cases q1 : u = x
    ·subst q1
     have huu : (u == u) = true := by simp
     have hvf : (y == v) = false := by rw [beq_eq_false_iff_ne]; exact fun e => q ⟨rfl, e.symm⟩
     clear q
     go_wp2_with fail
     go_quiet (fail)
     go_wp2
     go_roundw
     case rel => exact ⟨k + 1, by omega, by go_num, HK.out.on (drewBelow (Below.refl _ _) _), HY⟩
     case measure => (simp [intOf] <;> omega)
    ·have huf : (x == u) = false := by rw [beq_eq_false_iff_ne]; exact fun e => q1 e.symm
     clear q
     go_wp2_with fail
     go_quiet (fail)
     go_wp2
     go_roundw
     case rel => exact ⟨k + 1, by omega, by go_num, HK.out.on (drewBelow (Below.refl _ _) _), HY⟩
     case measure => (simp [intOf] <;> omega)
  ·obtain rfl : k = n := by omega
   have HF := Lib.hid (show (x, y) ∉ L from fun q => HN.out (by rw [← HL.out, List.take_length]; exact q))
   have HK := Lib.hid hK.1
   clear hK HN
   go_wp2
   go_ret
   exact mkHasC (by rw [decide_eq_false HF.out]; exact decide_eq_false (by omega)) HK.out
theorem iContainsC (w : World) (A : Option Addr) (n cap : Nat) (L : List (Int × Int)) (hL : L.length = n) (hn : n ≤ 1000) (h : RowC w A L) (x y : Int) :
  Calls Try.prog 81 #[.slice A n cap, .agg #[.int .i64 x, .int .i64 y]] w (Bol (decide ((x, y) ∈ L)) w) := by
 have T0 := Lib.hid (cb_start x y w)
 have HI := Lib.hid (fun W (hb : Below w.heap.size w W) => iIndexC W A n cap L hL hn (by
  obtain ⟨b, off, h1, h2⟩ := h
  refine ⟨b, off, fun hl => ⟨(h1 hl).1, Nat.lt_of_lt_of_le (h1 hl).2 hb.size⟩, fun j p hp => ?_⟩
  have hl : 0 < L.length := by have := (List.getElem?_eq_some_iff.1 hp).1; omega
  rw [hb.cell (p := ⟨b, off + j * 2, none⟩) (h1 hl).2, hb.cell (p := ⟨b, off + j * 2 + 1, none⟩) (h1 hl).2]
  exact h2 j p hp) x y)
 clear hL hn h
 go_enter Try.func81, Try.ntmps81
 go_wp2_with fail
 refine (HI.out _ T0.out.1).mono ?_
 rintro e w1 ⟨r, rfl, hr, hb1⟩
 have HB := Lib.hid (T0.out.on hb1).1
 have HR := Lib.hid hr
 clear HI T0 hb1 hr
 go_wp2
 go_ret
 exact mkBol (by rw [← HR.out]) HB.out
structure Tc (w : World) (a b c d : Int) (W : World) : Prop where
 bel : Below w.heap.size w W
 k1 : AtC W w.heap.size a b
 k2 : AtC W (w.heap.size + 1) c d
theorem tc_start (a b c d : Int) (w : World) : Tc w a b c d ((w.alloc (.cells #[.int .i64 a, .int .i64 b] 72)).alloc (.cells #[.int .i64 c, .int .i64 d] 72)) := by
 have h0 := AtC.new w a b
 have b0 := below_alloc1 w (.cells #[.int .i64 a, .int .i64 b] 72)
 have e0 : (w.alloc (.cells #[.int .i64 a, .int .i64 b] 72)).heap.size = w.heap.size + 1 := by simp
 generalize w.alloc (.cells #[.int .i64 a, .int .i64 b] 72) = W0 at h0 b0 e0 ⊢
 have h1 := AtC.new W0 c d
 have b1 := below_alloc1 W0 (.cells #[.int .i64 c, .int .i64 d] 72)
 rw [e0] at h1
 exact ⟨b0.trans (b1.mono (by omega)), h0.on b1, h1⟩
theorem Tc.drew {w W : World} {a b c d : Int} (h : Tc w a b c d W) : Tc w a b c d W.drew := ⟨h.bel.drew, h.k1, h.k2⟩
theorem Tc.on {w W W' : World} {a b c d : Int} (h : Tc w a b c d W) (hb : Below W.heap.size W W') : Tc w a b c d W' := ⟨h.bel.trans (hb.mono h.bel.size), h.k1.on hb, h.k2.on hb⟩
theorem step_in {ax ay bx by' : Int} (ha : 0 ≤ ax ∧ ax ≤ 8 ∧ 0 ≤ ay ∧ ay ≤ 8) (h : (bx, by') ∈ endsP ax ay) : (0 ≤ bx ∧ bx ≤ 8 ∧ 0 ≤ by' ∧ by' ≤ 8) ∧ (-1 ≤ clX ax ay bx by' ∧ clX ax ay bx by' ≤ 8 ∧ -1 ≤ clY ax ay bx by' ∧ clY ax ay bx by' ≤ 8) ∧ stepE ax ay bx by' = sgnE (clX ax ay bx by' + clY ax ay bx by') := by
 obtain ⟨hin, d, hd, e3, e4⟩ := ends_dir h
 simp only at hin e3 e4
 have h4 : d = 0 ∨ d = 1 ∨ d = 2 ∨ d = 3 := by omega
 rcases h4 with rfl | rfl | rfl | rfl
 ·have a : bx = ax + 1 := e3
  have b : by' = ay := by rw [e4]; show ay + 0 = ay; omega
  subst a b
  have c1 : clX ax by' (ax + 1) by' = ax := by unfold clX; rw [if_pos (by omega)]
  have c2 : clY ax by' (ax + 1) by' = by' - 1 := by unfold clY; rw [if_pos (by omega)]
  have s : stepE ax by' (ax + 1) by' = sgnE (ax + (by' - 1)) := by unfold stepE; rw [if_pos (by omega), if_pos ⟨rfl, rfl⟩]
  rw [c1, c2, s]
  exact ⟨by omega, by omega, rfl⟩
 ·have a : bx = ax := by rw [e3]; show ax + 0 = ax; omega
  have b : by' = ay + 1 := e4
  subst a b
  have c1 : clX bx ay bx (ay + 1) = bx := by unfold clX; rw [if_neg (by omega), if_neg (by omega), if_pos (by omega)]
  have c2 : clY bx ay bx (ay + 1) = ay := by unfold clY; rw [if_neg (by omega), if_neg (by omega), if_pos (by omega)]
  have s : stepE bx ay bx (ay + 1) = sgnE (bx + ay) := by unfold stepE; rw [if_pos (by omega), if_neg (by omega), if_neg (by omega), if_pos (by omega)]
  rw [c1, c2, s]
  exact ⟨by omega, by omega, rfl⟩
 ·have a : bx = ax - 1 := e3
  have b : by' = ay := by rw [e4]; show ay + 0 = ay; omega
  subst a b
  have c1 : clX ax by' (ax - 1) by' = ax - 1 := by unfold clX; rw [if_neg (by omega), if_pos (by omega)]
  have c2 : clY ax by' (ax - 1) by' = by' := by unfold clY; rw [if_neg (by omega), if_pos (by omega)]
  have s : stepE ax by' (ax - 1) by' = sgnE (ax - 1 + by') := by unfold stepE; rw [if_pos (by omega), if_neg (by omega), if_pos (by omega)]
  rw [c1, c2, s]
  exact ⟨by omega, by omega, rfl⟩
 ·have a : bx = ax := by rw [e3]; show ax + 0 = ax; omega
  have b : by' = ay - 1 := e4
  subst a b
  have c1 : clX bx ay bx (ay - 1) = bx - 1 := by unfold clX; rw [if_neg (by omega), if_neg (by omega), if_neg (by omega)]
  have c2 : clY bx ay bx (ay - 1) = ay - 1 := by unfold clY; rw [if_neg (by omega), if_neg (by omega), if_neg (by omega)]
  have s : stepE bx ay bx (ay - 1) = sgnE (bx - 1 + (ay - 1)) := by unfold stepE; rw [if_pos (by omega), if_neg (by omega), if_neg (by omega), if_neg (by omega), if_pos (by omega)]
  rw [c1, c2, s]
  exact ⟨by omega, by omega, rfl⟩
theorem step_no {ax ay bx by' : Int} (ha : 0 ≤ ax ∧ ax ≤ 8 ∧ 0 ≤ ay ∧ ay ≤ 8) (h : (bx, by') ∉ endsP ax ay) : stepE ax ay bx by' = 0 := by
 unfold stepE
 split
 ·rename_i hin
  have key : ¬ ((bx = ax ∧ by' = ay - 1) ∨ (bx = ax - 1 ∧ by' = ay) ∨ (bx = ax + 1 ∧ by' = ay) ∨ (bx = ax ∧ by' = ay + 1)) := fun q => h (by
   unfold endsP
   refine List.mem_filter.2 ⟨?_, inC_iff.2 (by simp only; omega)⟩
   unfold ends4
   simp only [List.mem_cons, List.not_mem_nil, or_false, Prod.mk.injEq]
   exact q)
  rw [if_neg (by omega), if_neg (by omega), if_neg (by omega), if_neg (by omega)]
 ·rfl
set_option maxHeartbeats 2000000 in
theorem iEdge (ax ay bx by' : Int) (w : World) :
  Calls Try.prog 69 #[.int .i64 ax, .int .i64 ay, .int .i64 bx, .int .i64 by'] w (Num (stepE ax ay bx by') w) := by
 have T0 := Lib.hid (tc_start ax ay bx by' w)
 have HIn := Lib.hid (fun W => iInRange ax ay W)
 by_cases hr : 0 ≤ ax ∧ ax ≤ 8 ∧ 0 ≤ ay ∧ ay ≤ 8
 rotate_left
 ·have hf : inC (ax, ay) = false := by rw [Bool.eq_false_iff]; intro q; have := inC_iff.1 q; simp only at this; omega
  have HE := Lib.hid (step_out (ax := ax) (ay := ay) (bx := bx) (by' := by') (by omega))
  rw [hf] at HIn
  clear hr hf
  go_enter Try.func69, Try.ntmps69
  go_upto_region 2 with fail
  have T1 := T0.out.drew
  clear T0
  refine wp_region_noPanic ?_
  refine wp_region_held_drew (S := (fun w' => w'.cell? ⟨w.heap.size, 0, none⟩ = some (.int .i64 ax) ∧ w'.cell? ⟨w.heap.size, 1, none⟩ = some (.int .i64 ay))) (by kernel_rfl) (⟨T1.k1.c0, T1.k1.c1⟩) (fun hHeld => ?_)
  generalize World.drew _ = WR at T1 hHeld ⊢
  refine wpAnyH_take (i := 0) (v := ?_) rfl (by kernel_rfl) (by kernel_rfl) (by kernel_rfl) (fun _ _ _ h => h) (Or.inl ⟨by rfl, ?_⟩) (by assumption) ?_
  rotate_left
  ·(intro w' hS; (try dsimp only at hS); go_simp; try with_reducible rfl)
  try simp only [Act.put, List.getElem_toArray, List.getElem_cons_succ, List.getElem_cons_zero, List.setIfInBounds_toArray, List.set_cons_zero, List.set_cons_succ]
  refine wpAnyH_ready (rs := [1]) (by kernel_rfl) (by simp) ?_
  refine AllReadyH.cons rfl (fun K hK => ?_) AllReadyH.nil
  go_simp
  refine (HIn.out _).mono ?_
  rintro e wx ⟨rfl, hbx⟩
  have T1 := T1.on hbx
  clear hbx
  go_wp2_with fail
  refine hK.out _ _ (⟨T1.k1.c0, T1.k1.c1⟩) (fun hHeld => ?_)
  clear hK K
  try simp only [Act.put, List.getElem_toArray, List.getElem_cons_succ, List.getElem_cons_zero, List.setIfInBounds_toArray, List.set_cons_zero, List.set_cons_succ]
  refine wpAnyH_take (i := 2) (v := ?_) rfl (by kernel_rfl) (by kernel_rfl) (by kernel_rfl) (fun _ _ _ h => h) (Or.inl ⟨by rfl, ?_⟩) (by assumption) ?_
  rotate_left
  ·(intro w' hS; (try dsimp only at hS); go_simp; try with_reducible rfl)
  try simp only [Act.put, List.getElem_toArray, List.getElem_cons_succ, List.getElem_cons_zero, List.setIfInBounds_toArray, List.set_cons_zero, List.set_cons_succ]
  refine wpAnyH_take (i := 3) (v := ?_) rfl (by kernel_rfl) (by kernel_rfl) (by kernel_rfl) (fun _ _ _ h => h) (Or.inl ⟨by rfl, ?_⟩) (by assumption) ?_
  rotate_left
  ·(intro w' hS; (try dsimp only at hS); go_simp; try with_reducible rfl)
  try simp only [Act.put, List.getElem_toArray, List.getElem_cons_succ, List.getElem_cons_zero, List.setIfInBounds_toArray, List.set_cons_zero, List.set_cons_succ]
  refine wpAnyH_take (i := 4) (v := undef) rfl (by kernel_rfl) (by kernel_rfl) (by kernel_rfl) (fun _ _ _ h => h) (Or.inr ⟨by rfl, rfl⟩) (by assumption) ?_
  try simp only [Act.put, List.getElem_toArray, List.getElem_cons_succ, List.getElem_cons_zero, List.setIfInBounds_toArray, List.set_cons_zero, List.set_cons_succ]
  refine wpAnyH_take (i := 5) (v := undef) rfl (by kernel_rfl) (by kernel_rfl) (by kernel_rfl) (fun _ _ _ h => h) (Or.inr ⟨by rfl, rfl⟩) (by assumption) ?_
  try simp only [Act.put, List.getElem_toArray, List.getElem_cons_succ, List.getElem_cons_zero, List.setIfInBounds_toArray, List.set_cons_zero, List.set_cons_succ]
  refine wpAnyH_take (i := 6) (v := undef) rfl (by kernel_rfl) (by kernel_rfl) (by kernel_rfl) (fun _ _ _ h => h) (Or.inr ⟨by rfl, rfl⟩) (by assumption) ?_
  try simp only [Act.put, List.getElem_toArray, List.getElem_cons_succ, List.getElem_cons_zero, List.setIfInBounds_toArray, List.set_cons_zero, List.set_cons_succ]
  refine wpAnyH_take (i := 7) (v := undef) rfl (by kernel_rfl) (by kernel_rfl) (by kernel_rfl) (fun _ _ _ h => h) (Or.inr ⟨by rfl, rfl⟩) (by assumption) ?_
  try simp only [Act.put, List.getElem_toArray, List.getElem_cons_succ, List.getElem_cons_zero, List.setIfInBounds_toArray, List.set_cons_zero, List.set_cons_succ]
  refine wpAnyH_take (i := 8) (v := undef) rfl (by kernel_rfl) (by kernel_rfl) (by kernel_rfl) (fun _ _ _ h => h) (Or.inr ⟨by rfl, rfl⟩) (by assumption) ?_
  try simp only [Act.put, List.getElem_toArray, List.getElem_cons_succ, List.getElem_cons_zero, List.setIfInBounds_toArray, List.set_cons_zero, List.set_cons_succ]
  refine wpAnyH_take (i := 9) (v := ?_) rfl (by kernel_rfl) (by kernel_rfl) (by kernel_rfl) (fun _ _ _ h => h) (Or.inl ⟨by rfl, ?_⟩) (by assumption) ?_
  rotate_left
  ·(intro w' hS; (try dsimp only at hS); go_simp; try with_reducible rfl)
  try simp only [Act.put, List.getElem_toArray, List.getElem_cons_succ, List.getElem_cons_zero, List.setIfInBounds_toArray, List.set_cons_zero, List.set_cons_succ]
  refine wpAnyH_done (by kernel_rfl) ?_ _
  refine NoPanic.normal ?_
  clear hHeld
  go_wp2
  go_ret
  exact ⟨by rw [HE.out]; rfl, T1.bel⟩
 ·have hf : inC (ax, ay) = true := inC_iff.2 (by simp only; omega)
  have HEn := Lib.hid (fun W => iEnds ax ay hr W)
  have HIns := Lib.hid (fun h => step_in (bx := bx) (by' := by') hr h)
  have HNo := Lib.hid (fun h => step_no (bx := bx) (by' := by') hr h)
  have HLe := Lib.hid (fun (hb : 0 ≤ bx ∧ bx ≤ 8 ∧ 0 ≤ by' ∧ by' ≤ 8) W => iLeft ax ay bx by' hr hb W)
  have HLn := Lib.hid (ends_le ax ay)
  rw [hf] at HIn
  clear hr hf
  go_enter Try.func69, Try.ntmps69
  go_upto_region 2 with fail
  have T1 := T0.out.drew
  clear T0
  refine wp_region_noPanic ?_
  refine wp_region_held_drew (S := (fun w' => w'.cell? ⟨w.heap.size, 0, none⟩ = some (.int .i64 ax) ∧ w'.cell? ⟨w.heap.size, 1, none⟩ = some (.int .i64 ay) ∧ w'.cell? ⟨w.heap.size + 1, 0, none⟩ = some (.int .i64 bx) ∧ w'.cell? ⟨w.heap.size + 1, 1, none⟩ = some (.int .i64 by'))) (by kernel_rfl) (⟨T1.k1.c0, T1.k1.c1, T1.k2.c0, T1.k2.c1⟩) (fun hHeld => ?_)
  generalize World.drew _ = WR at T1 hHeld ⊢
  refine wpAnyH_take (i := 0) (v := ?_) rfl (by kernel_rfl) (by kernel_rfl) (by kernel_rfl) (fun _ _ _ h => h) (Or.inl ⟨by rfl, ?_⟩) (by assumption) ?_
  rotate_left
  ·(intro w' hS; (try dsimp only at hS); go_simp; try with_reducible rfl)
  try simp only [Act.put, List.getElem_toArray, List.getElem_cons_succ, List.getElem_cons_zero, List.setIfInBounds_toArray, List.set_cons_zero, List.set_cons_succ]
  refine wpAnyH_ready (rs := [1]) (by kernel_rfl) (by simp) ?_
  refine AllReadyH.cons rfl (fun K hK => ?_) AllReadyH.nil
  go_simp
  refine (HIn.out _).mono ?_
  rintro e wx ⟨rfl, hbx⟩
  have T1 := T1.on hbx
  clear hbx
  go_wp2_with fail
  refine hK.out _ _ (⟨T1.k1.c0, T1.k1.c1, T1.k2.c0, T1.k2.c1⟩) (fun hHeld => ?_)
  clear hK K
  try simp only [Act.put, List.getElem_toArray, List.getElem_cons_succ, List.getElem_cons_zero, List.setIfInBounds_toArray, List.set_cons_zero, List.set_cons_succ]
  refine wpAnyH_take (i := 2) (v := ?_) rfl (by kernel_rfl) (by kernel_rfl) (by kernel_rfl) (fun _ _ _ h => h) (Or.inl ⟨by rfl, ?_⟩) (by assumption) ?_
  rotate_left
  ·(intro w' hS; (try dsimp only at hS); go_simp; try with_reducible rfl)
  try simp only [Act.put, List.getElem_toArray, List.getElem_cons_succ, List.getElem_cons_zero, List.setIfInBounds_toArray, List.set_cons_zero, List.set_cons_succ]
  refine wpAnyH_take (i := 3) (v := ?_) rfl (by kernel_rfl) (by kernel_rfl) (by kernel_rfl) (fun _ _ _ h => h) (Or.inl ⟨by rfl, ?_⟩) (by assumption) ?_
  rotate_left
  ·(intro w' hS; (try dsimp only at hS); go_simp; try with_reducible rfl)
  try simp only [Act.put, List.getElem_toArray, List.getElem_cons_succ, List.getElem_cons_zero, List.setIfInBounds_toArray, List.set_cons_zero, List.set_cons_succ]
  refine wpAnyH_take (i := 4) (v := ?_) rfl (by kernel_rfl) (by kernel_rfl) (by kernel_rfl) (fun _ _ _ h => h) (Or.inl ⟨by rfl, ?_⟩) (by assumption) ?_
  rotate_left
  ·(intro w' hS; (try dsimp only at hS); go_simp; try with_reducible rfl)
  try simp only [Act.put, List.getElem_toArray, List.getElem_cons_succ, List.getElem_cons_zero, List.setIfInBounds_toArray, List.set_cons_zero, List.set_cons_succ]
  refine wpAnyH_take (i := 6) (v := ?_) rfl (by kernel_rfl) (by kernel_rfl) (by kernel_rfl) (fun _ _ _ h => h) (Or.inl ⟨by rfl, ?_⟩) (by assumption) ?_
  rotate_left
  ·(intro w' hS; (try dsimp only at hS); go_simp; try with_reducible rfl)
  try simp only [Act.put, List.getElem_toArray, List.getElem_cons_succ, List.getElem_cons_zero, List.setIfInBounds_toArray, List.set_cons_zero, List.set_cons_succ]
  refine wpAnyH_ready (rs := [5]) (by kernel_rfl) (by simp) ?_
  refine AllReadyH.cons rfl (fun K hK => ?_) AllReadyH.nil
  go_simp
  refine (HEn.out _).mono ?_
  rintro e wx ⟨A2, cap2, rfl, hown, hbx⟩
  have T1 := T1.on hbx
  have hct := iContainsC wx A2 (endsP ax ay).length cap2 (endsP ax ay) rfl (by have := HLn.out; omega) (rowC_own hown) bx by'
  have HCt := Lib.hid hct
  generalize hm : (endsP ax ay).length = m at HCt ⊢
  clear hbx hown hct
  go_wp2_with fail
  refine hK.out _ _ (⟨T1.k1.c0, T1.k1.c1, T1.k2.c0, T1.k2.c1⟩) (fun hHeld => ?_)
  clear hK K
  try simp only [Act.put, List.getElem_toArray, List.getElem_cons_succ, List.getElem_cons_zero, List.setIfInBounds_toArray, List.set_cons_zero, List.set_cons_succ]
  refine wpAnyH_ready (rs := [7]) (by kernel_rfl) (by simp) ?_
  refine AllReadyH.cons rfl (fun K hK => ?_) AllReadyH.nil
  go_simp
  refine (HCt.out).mono ?_
  rintro e wx ⟨rfl, hbx⟩
  have T1 := T1.on hbx
  clear hbx
  go_wp2_with fail
  refine hK.out _ _ (⟨T1.k1.c0, T1.k1.c1, T1.k2.c0, T1.k2.c1⟩) (fun hHeld => ?_)
  clear hK K
  try simp only [Act.put, List.getElem_toArray, List.getElem_cons_succ, List.getElem_cons_zero, List.setIfInBounds_toArray, List.set_cons_zero, List.set_cons_succ]
  refine wpAnyH_take (i := 8) (v := ?_) rfl (by kernel_rfl) (by kernel_rfl) (by kernel_rfl) (fun _ _ _ h => h) (Or.inl ⟨by rfl, ?_⟩) (by assumption) ?_
  rotate_left
  ·(intro w' hS; (try dsimp only at hS); go_simp; try with_reducible rfl)
  try simp only [Act.put, List.getElem_toArray, List.getElem_cons_succ, List.getElem_cons_zero, List.setIfInBounds_toArray, List.set_cons_zero, List.set_cons_succ]
  refine wpAnyH_take (i := 9) (v := ?_) rfl (by kernel_rfl) (by kernel_rfl) (by kernel_rfl) (fun _ _ _ h => h) (Or.inl ⟨by rfl, ?_⟩) (by assumption) ?_
  rotate_left
  ·(intro w' hS; (try dsimp only at hS); go_simp; try with_reducible rfl)
  try simp only [Act.put, List.getElem_toArray, List.getElem_cons_succ, List.getElem_cons_zero, List.setIfInBounds_toArray, List.set_cons_zero, List.set_cons_succ]
  refine wpAnyH_done (by kernel_rfl) ?_ _
  refine NoPanic.normal ?_
  clear hHeld HCt
  by_cases hin : (bx, by') ∈ endsP ax ay
  ·obtain ⟨hb, hc, hs⟩ := HIns.out hin
   have HL := Lib.hid (fun W => HLe.out hb W)
   rw [decide_eq_true hin]
   have HSt := Lib.hid hs
   have c0 := T1.k1.c0
   have c1 := T1.k1.c1
   have c2 := T1.k2.c0
   have c3 := T1.k2.c1
   clear HIns HNo HLe hm HLn hs hb hin HEn HIn
   generalize clX ax ay bx by' = m' at HL hc HSt
   generalize clY ax ay bx by' = n' at HL hc HSt
   have e1 : wrap64 (m' + n') = m' + n' := by unfold wrap64; omega
   have HT := Lib.hid (show (m' + n').tmod 2 = 0 ↔ (m' + n') % 2 = 0 by
    by_cases h : 0 ≤ m' + n'
    ·rw [Int.tmod_eq_emod_of_nonneg h]
    ·have : m' + n' = -1 ∨ m' + n' = -2 := by omega
     rcases this with e | e <;> rw [e] <;> decide)
   clear hc
   go_wp2_with fail
   refine (HL.out _).mono ?_
   rintro e w2 ⟨rfl, hb2⟩
   have T2 := T1.on hb2
   have hbx := below_alloc1 w2 (.cells #[.int .i64 m', .int .i64 n'] 56)
   have HB3 := Lib.hid (T2.on hbx).bel
   clear T1 T2 hb2 hbx c0 c1 c2 c3 HL
   by_cases hev : (m' + n').tmod 2 = 0
   ·have hev2 : ((m' + n').tmod 2 == 0) = true := by simpa using hev
    have HS := Lib.hid (show stepE ax ay bx by' = 1 by rw [HSt.out]; unfold sgnE; rw [if_pos (HT.out.1 hev)])
    clear hev
    go_wp2
    go_ret
    exact ⟨by rw [HS.out]; rfl, HB3.out⟩
   ·have hev2 : ((m' + n').tmod 2 == 0) = false := by simpa using hev
    have HS := Lib.hid (show stepE ax ay bx by' = -1 by rw [HSt.out]; unfold sgnE; rw [if_neg (fun q => hev (HT.out.2 q))])
    clear hev
    go_wp2
    go_ret
    exact ⟨by rw [HS.out]; rfl, HB3.out⟩
  ·have HE := Lib.hid (HNo.out hin)
   rw [decide_eq_false hin]
   clear HIns HNo HLe hin
   go_wp2
   go_ret
   exact ⟨by rw [HE.out]; rfl, T1.bel⟩
end Go.Proofs.Ytmajllgfmclcoaa.Cor
