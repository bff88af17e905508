/- FlmS in one text. -/
import Derived.Test.YtmajllgfmclcoaaGreatDoorMd01
import Derived.Test.YtmajllgfmclcoaaGreatDoorMd02
import Derived.Test.YtmajllgfmclcoaaGreatDoorMd04
import Derived.BigQuiet
import Derived.Deep.QuietTactic
import Derived.Deep.Cut
set_option linter.unusedVariables false
set_option linter.unusedSimpArgs false
set_option maxRecDepth 100000
namespace Go.Proofs.YtmajllgfmclcoaaGreatDoor.Dom
open Go.RowKit Go.Proofs.YtmajllgfmclcoaaGreatDoor.Cell Go.Joins
theorem At3.far3 {T : TypeId} {W : World} {p q : Nat} {x y : Int} {b : Bool} {v1 v2 v3 : Value} (h : At3 T W q x y b) (hp : q ≠ p) : At3 T (((W.setCell ⟨p, 0, none⟩ v1).setCell ⟨p, 1, none⟩ v2).setCell ⟨p, 2, none⟩ v3) q x y b := ((h.far hp).far hp).far hp
theorem At2.far3 {W : World} {p q : Nat} {x y : Int} {v1 v2 v3 : Value} (h : At2 W q x y) (hp : q ≠ p) : At2 (((W.setCell ⟨p, 0, none⟩ v1).setCell ⟨p, 1, none⟩ v2).setCell ⟨p, 2, none⟩ v3) q x y := ((h.far hp).far hp).far hp
theorem at3_two (T : TypeId) (W : World) (x y : Int) (b : Bool) (u v : Int) (c : Bool) :
  At3 T ((W.alloc (.cells #[.int .i64 x, .int .i64 y, .bool b] T)).alloc (.cells #[.int .i64 u, .int .i64 v, .bool c] T)) W.heap.size x y b ∧
  At3 T ((W.alloc (.cells #[.int .i64 x, .int .i64 y, .bool b] T)).alloc (.cells #[.int .i64 u, .int .i64 v, .bool c] T)) (W.heap.size + 1) u v c ∧
  Below W.heap.size W ((W.alloc (.cells #[.int .i64 x, .int .i64 y, .bool b] T)).alloc (.cells #[.int .i64 u, .int .i64 v, .bool c] T)) := by
 have e0 : (W.alloc (.cells #[.int .i64 x, .int .i64 y, .bool b] T)).heap.size = W.heap.size + 1 := by simp
 have k1 := At3.new T (W.alloc (.cells #[.int .i64 x, .int .i64 y, .bool b] T)) u v c
 rw [e0] at k1
 exact ⟨(At3.new T W x y b).on (below_alloc1 _ _), k1, below_alloc2 W _ _⟩
end Go.Proofs.YtmajllgfmclcoaaGreatDoor.Dom
namespace Go.Proofs.YtmajllgfmclcoaaGreatDoor.Flp
open Go.RowKit Go.Proofs.YtmajllgfmclcoaaGreatDoor.Cell Dom Dms Go.Joins
abbrev dmV (d : Dm) : Value := .agg #[.int .i64 d.1, .int .i64 d.2.1, .bool d.2.2]
def Dm2 (d f : Dm) (w : World) (e : Ending) (w' : World) : Prop := e = .returned (.tuple #[dmV d, dmV f]) ∧ Below w.heap.size w w'
theorem mkDm2 {d f : Dm} {w W : World} (hb : Below w.heap.size w W) : Dm2 d f w (.returned (.tuple #[dmV d, dmV f])) W := ⟨rfl, hb⟩
def Two (w : World) (x y : Int) (d f : Dm) (W : World) : Prop := Below w.heap.size w W ∧ At2 W w.heap.size x y ∧ At3 63 W (w.heap.size + 1) d.1 d.2.1 d.2.2 ∧ At3 63 W (w.heap.size + 1 + 1) f.1 f.2.1 f.2.2
section
variable {w W W' : World} {x y : Int} {d f : Dm}
theorem Two.drew (h : Two w x y d f W) : Two w x y d f W.drew := ⟨h.1.drew, h.2⟩
theorem Two.put1 (h : Two w x y d f W) (a b : Int) (c : Bool) : Two w x y (a, b, c) f (((W.setCell ⟨w.heap.size + 1, 0, none⟩ (.int .i64 a)).setCell ⟨w.heap.size + 1, 1, none⟩ (.int .i64 b)).setCell ⟨w.heap.size + 1, 2, none⟩ (.bool c)) :=
 ⟨((h.1.setCell (p := ⟨w.heap.size + 1, 0, none⟩) (by show w.heap.size ≤ w.heap.size + 1; omega) _).setCell (p := ⟨w.heap.size + 1, 1, none⟩) (by show w.heap.size ≤ w.heap.size + 1; omega) _).setCell (p := ⟨w.heap.size + 1, 2, none⟩) (by show w.heap.size ≤ w.heap.size + 1; omega) _,
  At2.far3 h.2.1 (by omega), At3.put h.2.2.1, At3.far3 h.2.2.2 (by omega)⟩
theorem Two.put2 (h : Two w x y d f W) (a b : Int) (c : Bool) : Two w x y d (a, b, c) (((W.setCell ⟨w.heap.size + 1 + 1, 0, none⟩ (.int .i64 a)).setCell ⟨w.heap.size + 1 + 1, 1, none⟩ (.int .i64 b)).setCell ⟨w.heap.size + 1 + 1, 2, none⟩ (.bool c)) :=
 ⟨((h.1.setCell (p := ⟨w.heap.size + 1 + 1, 0, none⟩) (by show w.heap.size ≤ w.heap.size + 1 + 1; omega) _).setCell (p := ⟨w.heap.size + 1 + 1, 1, none⟩) (by show w.heap.size ≤ w.heap.size + 1 + 1; omega) _).setCell (p := ⟨w.heap.size + 1 + 1, 2, none⟩) (by show w.heap.size ≤ w.heap.size + 1 + 1; omega) _,
  At2.far3 h.2.1 (by omega), At3.far3 h.2.2.1 (by omega), At3.put h.2.2.2⟩
end
theorem two_start (x y : Int) (w : World) : Two w x y (0, 0, false) (0, 0, false) (((w.alloc (.cells #[.int .i64 x, .int .i64 y] 79)).alloc (.cells #[.int .i64 0, .int .i64 0, .bool false] 63)).alloc (.cells #[.int .i64 0, .int .i64 0, .bool false] 63)) := by
 have e0 : (w.alloc (.cells #[.int .i64 x, .int .i64 y] 79)).heap.size = w.heap.size + 1 := by simp
 have k0 := At2.new w x y
 have b0 := below_alloc1 w (.cells #[.int .i64 x, .int .i64 y] 79)
 generalize w.alloc (.cells #[.int .i64 x, .int .i64 y] 79) = W at e0 k0 b0 ⊢
 obtain ⟨k1, k2, k3⟩ := at3_two 63 W 0 0 false 0 0 false
 rw [e0] at k1 k2
 exact ⟨b0.trans (k3.mono (by omega)), k0.on k3, k1, k2⟩
set_option maxHeartbeats 1000000 in
theorem sPairR (x y : Int) (w : World) : Calls Tryz.prog 87 #[.agg #[.int .i64 x, .int .i64 y], .bool false] w (Dm2 (x, y, false) (x, IntKind.i64.wrap (y + 1), false) w) := by
 have T0 := (two_start x y w).drew
 go_enter Tryz.func87, Tryz.ntmps87
 go_wp2_with fail
 refine wp_region_noPanic ?_
 refine wp_region_held_drew (S := (fun w' => w'.cell? ⟨w.heap.size, 0, none⟩ = some (.int .i64 x) ∧ w'.cell? ⟨w.heap.size, 1, none⟩ = some (.int .i64 y))) (by kernel_rfl) (⟨T0.2.1.c0, T0.2.1.c1⟩) (fun hHeld => ?_)
 generalize World.drew _ = W0 at T0 hHeld ⊢
 refine tk 0 ?_; try simp only [Act.put, zk]
 refine tk 1 ?_; try simp only [Act.put, zk]
 refine tk 2 ?_; try simp only [Act.put, zk]
 refine tk 3 ?_; try simp only [Act.put, zk]
 refine tk 4 ?_; try simp only [Act.put, zk]
 refine tk 5 ?_; try simp only [Act.put, zk]
 refine tk 6 ?_; try simp only [Act.put, zk]
 refine tk 7 ?_; try simp only [Act.put, zk]
 refine tk 8 ?_; try simp only [Act.put, zk]
 refine tk 9 ?_; try simp only [Act.put, zk]
 refine tk 10 ?_; try simp only [Act.put, zk]
 refine tr 11 fun K hK => ?_
 have d0 := At3.f0 T0.2.2.1
 have d1 := At3.f1 T0.2.2.1
 have d2 := At3.f2 T0.2.2.1
 have d3 := At3.c0 T0.2.2.1
 have d4 := At3.c1 T0.2.2.1
 have d5 := At3.c2 T0.2.2.1
 have T1 := T0.put1 x y false
 go_simp
 refine hK.out _ _ (⟨T1.2.1.c0, T1.2.1.c1⟩) (fun hHeld => ?_)
 clear hK K
 try simp only [Act.put, zk]
 refine tr 12 fun K hK => ?_
 clear d0 d1 d2 d3 d4 d5
 have d0 := At3.f0 T1.2.2.2
 have d1 := At3.f1 T1.2.2.2
 have d2 := At3.f2 T1.2.2.2
 have d3 := At3.c0 T1.2.2.2
 have d4 := At3.c1 T1.2.2.2
 have d5 := At3.c2 T1.2.2.2
 have T2 := T1.put2 x (IntKind.i64.wrap (y + 1)) false
 go_simp
 refine hK.out _ _ (⟨T2.2.1.c0, T2.2.1.c1⟩) (fun hHeld => ?_)
 clear hK K
 try simp only [Act.put, zk]
 refine wpAnyH_done (by kernel_rfl) (NoPanic.normal ?_) _
 generalize World.setCell _ _ _ = W4 at T2 ⊢
 have r0 := At3.c0 T2.2.2.1
 have r1 := At3.c1 T2.2.2.1
 have r2 := At3.c2 T2.2.2.1
 have r3 := At3.c0 T2.2.2.2
 have r4 := At3.c1 T2.2.2.2
 have r5 := At3.c2 T2.2.2.2
 go_wp2
 refine bodyPost_ret (v := .tuple #[dmV (x, y, false), dmV (x, IntKind.i64.wrap (y + 1), false)]) ?_ rfl (mkDm2 T2.1)
 simp [results, Tryz.results87, go_sem, r0, r1, r2, r3, r4, r5]
set_option maxHeartbeats 1000000 in
theorem sPairD (x y : Int) (w : World) : Calls Tryz.prog 87 #[.agg #[.int .i64 x, .int .i64 y], .bool true] w (Dm2 (x, y, true) (IntKind.i64.wrap (x + 1), y, true) w) := by
 have T0 := (two_start x y w).drew
 go_enter Tryz.func87, Tryz.ntmps87
 go_wp2_with fail
 refine wp_region_noPanic ?_
 refine wp_region_held_drew (S := (fun w' => w'.cell? ⟨w.heap.size, 0, none⟩ = some (.int .i64 x) ∧ w'.cell? ⟨w.heap.size, 1, none⟩ = some (.int .i64 y))) (by kernel_rfl) (⟨T0.2.1.c0, T0.2.1.c1⟩) (fun hHeld => ?_)
 generalize World.drew _ = W0 at T0 hHeld ⊢
 refine tk 0 ?_; try simp only [Act.put, zk]
 refine tk 1 ?_; try simp only [Act.put, zk]
 refine tk 2 ?_; try simp only [Act.put, zk]
 refine tk 3 ?_; try simp only [Act.put, zk]
 refine tk 4 ?_; try simp only [Act.put, zk]
 refine tk 5 ?_; try simp only [Act.put, zk]
 refine tk 6 ?_; try simp only [Act.put, zk]
 refine tk 7 ?_; try simp only [Act.put, zk]
 refine tk 8 ?_; try simp only [Act.put, zk]
 refine tk 9 ?_; try simp only [Act.put, zk]
 refine tk 10 ?_; try simp only [Act.put, zk]
 refine tr 11 fun K hK => ?_
 have d0 := At3.f0 T0.2.2.1
 have d1 := At3.f1 T0.2.2.1
 have d2 := At3.f2 T0.2.2.1
 have d3 := At3.c0 T0.2.2.1
 have d4 := At3.c1 T0.2.2.1
 have d5 := At3.c2 T0.2.2.1
 have T1 := T0.put1 x y true
 go_simp
 refine hK.out _ _ (⟨T1.2.1.c0, T1.2.1.c1⟩) (fun hHeld => ?_)
 clear hK K
 try simp only [Act.put, zk]
 refine tr 12 fun K hK => ?_
 clear d0 d1 d2 d3 d4 d5
 have d0 := At3.f0 T1.2.2.2
 have d1 := At3.f1 T1.2.2.2
 have d2 := At3.f2 T1.2.2.2
 have d3 := At3.c0 T1.2.2.2
 have d4 := At3.c1 T1.2.2.2
 have d5 := At3.c2 T1.2.2.2
 have T2 := T1.put2 (IntKind.i64.wrap (x + 1)) y true
 go_simp
 refine hK.out _ _ (⟨T2.2.1.c0, T2.2.1.c1⟩) (fun hHeld => ?_)
 clear hK K
 try simp only [Act.put, zk]
 refine wpAnyH_done (by kernel_rfl) (NoPanic.normal ?_) _
 generalize World.setCell _ _ _ = W4 at T2 ⊢
 have r0 := At3.c0 T2.2.2.1
 have r1 := At3.c1 T2.2.2.1
 have r2 := At3.c2 T2.2.2.1
 have r3 := At3.c0 T2.2.2.2
 have r4 := At3.c1 T2.2.2.2
 have r5 := At3.c2 T2.2.2.2
 go_wp2
 refine bodyPost_ret (v := .tuple #[dmV (x, y, true), dmV (IntKind.i64.wrap (x + 1), y, true)]) ?_ rfl (mkDm2 T2.1)
 simp [results, Tryz.results87, go_sem, r0, r1, r2, r3, r4, r5]
theorem sPair (x y : Int) (h : in6 x y = true) (b : Bool) (w : World) : Calls Tryz.prog 87 #[.agg #[.int .i64 x, .int .i64 y], .bool b] w (Dm2 (pr1 x y b) (pr2 x y b) w) := by
 obtain ⟨h0, h1, h2, h3⟩ := in6_iff.1 h
 cases b with
 | false => have := sPairR x y w; rw [show IntKind.i64.wrap (y + 1) = y + 1 by simp only [IntKind.wrap_i64]; omega] at this; exact this
 | true => have := sPairD x y w; rw [show IntKind.i64.wrap (x + 1) = x + 1 by simp only [IntKind.wrap_i64]; omega] at this; exact this
def HasP (L : List Dm) (d : Dm) (w : World) (e : Ending) (w' : World) : Prop := ∃ r : Int, e = .returned (.int .i64 r) ∧ decide (0 ≤ r) = decide (d ∈ L) ∧ Below w.heap.size w w'
theorem mkHas {L : List Dm} {d : Dm} {w W : World} {r : Int} (h : decide (0 ≤ r) = decide (d ∈ L)) (hb : Below w.heap.size w W) : HasP L d w (.returned (.int .i64 r)) W := ⟨r, rfl, h, hb⟩
theorem take_no {L : List Dm} {k : Nat} {d : Dm} (hk : k < L.length) (h : d ∉ L.take k) (h2 : L[k] ≠ d) : d ∉ L.take (k + 1) := by
 rw [List.take_add_one, List.getElem?_eq_getElem hk, List.mem_append]
 rintro (q | q)
 ·exact h q
 ·simp at q; exact h2 q.symm
def DB (w : World) (d : Dm) (W : World) : Prop := Below w.heap.size w W ∧ At3 63 W w.heap.size d.1 d.2.1 d.2.2
theorem db_start (d : Dm) (w : World) : DB w d (w.alloc (.cells #[.int .i64 d.1, .int .i64 d.2.1, .bool d.2.2] 63)) := ⟨below_alloc1 w _, At3.new _ w _ _ _⟩
theorem DB.on {w W W' : World} {d : Dm} (h : DB w d W) (hb : Below W.heap.size W W') : DB w d W' := ⟨h.1.trans (hb.mono h.1.size), At3.on h.2 hb⟩
set_option maxHeartbeats 2000000 in
theorem sHas (w : World) (A : Option Addr) (n cap B : Nat) (L : List Dm) (hL : L.length = n) (hn : (n : Int) ≤ 9223372036854775807) (h : RowM w B A L) (hB : B ≤ w.heap.size) (d : Dm) :
  Calls Tryz.prog 100 #[.slice A n cap, dmV d] w (HasP L d w) := by
 obtain ⟨b, off, hA, hc⟩ := h.at
 have HA := Lh hA
 have HC := Lh hc
 have HL := Lh hL
 have T0 := Lh (db_start d w)
 obtain ⟨x, y, c⟩ := d
 clear hA hc hL h
 go_enter Tryz.func100, Tryz.ntmps100
 go_wp2_with fail
 go_loopw [5] (fun i wr => ∃ k : Nat, k ≤ n ∧ i = .int .i64 k ∧ DB w (x, y, c) wr ∧ Hid ((x, y, c) ∉ L.take k)) (fun i _ => n - (intOf i).toNat)
 case atStart => exact ⟨0, Nat.zero_le _, rfl, T0.out, Lh (by simp)⟩
 case round =>
  clear T0
  obtain ⟨k, hk, rfl, hK, HN⟩ := hrel
  by_cases hlt : k < n
  ·have hkL : k < L.length := by rw [HL.out]; exact hlt
   obtain ⟨rfl, hbB⟩ := HA.out (by omega)
   obtain ⟨e0, e1, e2⟩ := HC.out k hkL
   have d0 := (hK.1.cell (p := ⟨b, off + k * 3, none⟩) (by show b < _; omega)).trans e0
   have d1 := (hK.1.cell (p := ⟨b, off + k * 3 + 1, none⟩) (by show b < _; omega)).trans e1
   have d2 := (hK.1.cell (p := ⟨b, off + k * 3 + 2, none⟩) (by show b < _; omega)).trans e2
   have c0 := At3.c0 hK.2
   have c1 := At3.c1 hK.2
   have c2 := At3.c2 hK.2
   have HX := Lh (fun hne => take_no hkL HN.out hne)
   have HIn := Lh (fun (he : L[k] = (x, y, c)) => show (x, y, c) ∈ L from he ▸ List.getElem_mem hkL)
   generalize L[k] = p at d0 d1 d2 HX HIn
   obtain ⟨u, v, a⟩ := p
   simp only at d0 d1 d2 c0 c1 c2
   have HK := Lh hK
   clear e0 e1 e2 HN hK
   by_cases q : u = x ∧ v = y ∧ a = c
   ·obtain ⟨rfl, rfl, rfl⟩ := q
    have HI := Lh (HIn.out rfl)
    clear HX HIn
    have huu : (u == u) = true := by simp
    have hvv : (v == v) = true := by simp
    have haa : (a == a) = true := by simp
    go_wp2_with fail
    go_quiet (fail)
    go_wp2
    go_ret
    exact mkHas (by rw [decide_eq_true HI.out]; exact decide_eq_true (by omega)) (drewBelow HK.out.1 _)
   ·have HY := Lh (HX.out (fun e => by injection e with e1 e2; injection e2 with e2 e3; exact q ⟨e1, e2, e3⟩))
    clear HX HIn
    by_cases q1 : u = x
    ·subst q1
     have huu : (u == u) = true := by simp
     by_cases q2 : v = y
     ·subst q2
      have hvv : (v == v) = true := by simp
      have haf : (a == c) = false := by rw [beq_eq_false_iff_ne]; exact fun e => q ⟨rfl, rfl, e⟩
      clear q
      go_wp2_with fail
      go_quiet (fail)
      go_wp2
      go_roundw
      case rel => exact ⟨k + 1, by omega, by go_num, HK.out.on (drewBelow (Below.refl _ _) _), HY⟩
      case measure => (simp [intOf] <;> omega)
     ·have hvf : (v == y) = false := by rw [beq_eq_false_iff_ne]; exact q2
      clear q
      go_wp2_with fail
      go_quiet (fail)
      go_wp2
      go_roundw
      case rel => exact ⟨k + 1, by omega, by go_num, HK.out.on (drewBelow (Below.refl _ _) _), HY⟩
      case measure => (simp [intOf] <;> omega)
    ·have huf : (u == x) = false := by rw [beq_eq_false_iff_ne]; exact q1
     clear q
     go_wp2_with fail
     go_quiet (fail)
     go_wp2
     go_roundw
     case rel => exact ⟨k + 1, by omega, by go_num, HK.out.on (drewBelow (Below.refl _ _) _), HY⟩
     case measure => (simp [intOf] <;> omega)
  ·obtain rfl : k = n := by omega
   have HB := Lh hK.1
   have HE := Lh (show (x, y, c) ∉ L by have := HN.out; rw [List.take_of_length_le (by rw [HL.out]; exact Nat.le_refl _)] at this; exact this)
   clear HN hK
   go_wp2
   go_ret
   exact mkHas (by rw [decide_eq_false HE.out]; rfl) HB.out
def CB (w : World) (x y : Int) (W : World) : Prop := Below w.heap.size w W ∧ At2 W w.heap.size x y
theorem cb_start (x y : Int) (w : World) : CB w x y (w.alloc (.cells #[.int .i64 x, .int .i64 y] 79)) := ⟨below_alloc1 w _, At2.new w x y⟩
theorem CB.on {w W W' : World} {x y : Int} (h : CB w x y W) (hb : Below W.heap.size W W') : CB w x y W' := ⟨h.1.trans (hb.mono h.1.size), h.2.on hb⟩
theorem kind_out {L : List Dm} {x y : Int} (h : in6 x y = false) : kindN L x y = 0 := by unfold kindN; rw [h]; rfl
theorem kind_at {L : List Dm} {x y : Int} (h : in6 x y = true) : kindN L x y = if has2 L x y false then 1 else if has2 L x y true then 2 else 0 := by unfold kindN; rw [if_pos h]
def NoP (L : List Dm) (x y : Int) (j : Nat) : Prop := (1 < j → has2 L x y false = false) ∧ (2 < j → has2 L x y true = false)
theorem nop_step {L : List Dm} {x y : Int} {j : Nat} (h : NoP L x y j) (h1 : 1 ≤ j) (h2 : j ≤ 2) (hn : has2 L x y (decide (j = 2)) = false) : NoP L x y (j + 1) := by
 obtain ⟨a, b⟩ := h
 by_cases q : j = 1
 ·subst q; exact ⟨fun _ => hn, fun h => by omega⟩
 ·obtain rfl : j = 2 := by omega
  exact ⟨fun _ => a (by omega), fun _ => hn⟩
theorem nop_hit {L : List Dm} {x y : Int} {j : Nat} (h6 : in6 x y = true) (h : NoP L x y j) (h1 : 1 ≤ j) (h2 : j ≤ 2) (hy : has2 L x y (decide (j = 2)) = true) : kindN L x y = j := by
 rw [kind_at h6]
 by_cases q : j = 1
 ·subst q
  have hy' : has2 L x y false = true := hy
  rw [if_pos hy']
 ·obtain rfl : j = 2 := by omega
  have hy' : has2 L x y true = true := hy
  rw [h.1 (by omega), if_neg (by simp), if_pos hy']
theorem nop_end {L : List Dm} {x y : Int} (h6 : in6 x y = true) (h : NoP L x y 3) : kindN L x y = 0 := by
 rw [kind_at h6, h.1 (by omega), h.2 (by omega)]; rfl
set_option maxHeartbeats 2000000 in
theorem sKind_in (w : World) (A : Option Addr) (n cap B : Nat) (L : List Dm) (hL : L.length = n) (hn : (n : Int) ≤ 9223372036854775807) (h : RowM w B A L) (hB : B ≤ w.heap.size) (x y : Int) (h6 : in6 x y = true) :
  Calls Tryz.prog 86 #[.slice A n cap, .agg #[.int .i64 x, .int .i64 y]] w (Num ((kindN L x y : Nat) : Int) w) := by
 have HP := Lh (fun b W => sPair x y h6 b W)
 have HH := Lh (fun W (hb : Below w.heap.size w W) d => sHas W A n cap B L hL hn (h.below hb hB) (by have := hb.size; omega) d)
 have HY := Lh (fun j a b c d => nop_hit (L := L) (j := j) h6 a b c d)
 have HN := Lh (fun j a b c d => nop_step (L := L) (x := x) (y := y) (j := j) a b c d)
 have HE := Lh (fun a => nop_end (L := L) h6 a)
 have H2 := Lh (fun b => show has2 L x y b = (decide (pr1 x y b ∈ L) && decide (pr2 x y b ∈ L)) from rfl)
 have T0 := Lh (cb_start x y w)
 have S0 := Lh (show NoP L x y 1 from ⟨fun h => by omega, fun h => by omega⟩)
 obtain ⟨g0, g1, g2, g3⟩ := in6_iff.1 h6
 clear h6 hL h hB
 generalize kindN L x y = K at HY HE ⊢
 go_enter Tryz.func86, Tryz.ntmps86
 go_wp2_with fail
 refine (l01In x 0 6 _).mono ?_
 rintro e w1 ⟨rfl, rfl⟩
 rw [inB_of ⟨g0, g1⟩]
 go_wp2_with fail
 refine (l01In y 0 6 _).mono ?_
 rintro e w1 ⟨rfl, rfl⟩
 rw [inB_of ⟨g2, g3⟩]
 go_wp2_with fail
 go_loopw [5] (fun i wr => ∃ j : Nat, 1 ≤ j ∧ j ≤ 3 ∧ i = .int .i64 j ∧ CB w x y wr ∧ Hid (NoP L x y j)) (fun i _ => 3 - (intOf i).toNat)
 case atStart => exact ⟨1, by omega, by omega, rfl, T0.out, S0⟩
 case round =>
  clear T0 S0
  obtain ⟨j, h1, h3, rfl, hT, hP⟩ := hrel
  by_cases hlt : j ≤ 2
  ·have HB1 := Lh (HP.out (decide (j = 2)))
   have HB2 := Lh (H2.out (decide (j = 2)))
   have HBy := Lh (fun q => HY.out j hP.out h1 hlt q)
   have HBn := Lh (fun q => HN.out j hP.out h1 hlt q)
   have hje : (((j : Nat) : Int) == 2) = decide (j = 2) := by rw [Bool.eq_iff_iff, beq_iff_eq, decide_eq_true_eq]; omega
   generalize decide (j = 2) = b at HB1 HB2 HBy HBn hje
   generalize pr1 x y b = d1 at HB1 HB2
   generalize pr2 x y b = d2 at HB1 HB2
   generalize has2 L x y b = r at HB2 HBy HBn
   have HT := Lh hT
   have c0 := hT.2.c0
   have c1 := hT.2.c1
   clear hP hT
   go_wp2_with fail
   refine (HB1.out _).mono ?_
   rintro e w1 ⟨rfl, hb1⟩
   have T1 := HT.out.on hb1
   obtain ⟨u1, v1, a1⟩ := d1
   obtain ⟨u2, v2, a2⟩ := d2
   clear HT HB1 hb1 c0 c1
   go_upto_region 7 with fail
   obtain ⟨k1, k2, k3⟩ := at3_two 63 w1 u1 v1 a1 u2 v2 a2
   have T3 := T1.on k3
   generalize (w1.alloc (.cells #[.int .i64 u1, .int .i64 v1, .bool a1] 63)).alloc (.cells #[.int .i64 u2, .int .i64 v2, .bool a2] 63) = W at k1 k2 T3 ⊢
   have HQ1 := Lh (HH.out W T3.1 (u1, v1, a1))
   have HQ2 := Lh (fun W' (hb : Below W.heap.size W W') => HH.out W' (T3.on hb).1 (u2, v2, a2))
   have HT3 := Lh T3
   have c0 := At3.c0 k1
   have c1 := At3.c1 k1
   have c2 := At3.c2 k1
   clear T1 k1 k3 T3
   go_wp2_with fail
   refine HQ1.out.mono ?_
   rintro e w2 ⟨r1, rfl, e1, hb2⟩
   have T4 := HT3.out.on hb2
   have k2 := At3.on k2 hb2
   clear c0 c1 c2 HQ1
   cases q1 : decide ((u1, v1, a1) ∈ L) with
   | false =>
    rw [q1] at e1
    have hr := HB2.out
    rw [q1, Bool.false_and] at hr
    have HS := Lh (HBn.out hr)
    have HT4 := Lh T4
    clear HB2 HBy HBn HQ2 HT3 T4 k2 hb2 q1
    go_wp2
    go_roundw
    case rel => exact ⟨j + 1, by omega, by omega, by go_num, HT4.out, HS⟩
    case measure => (simp [intOf] <;> omega)
   | true =>
    rw [q1] at e1
    have c0 := At3.c0 k2
    have c1 := At3.c1 k2
    have c2 := At3.c2 k2
    have HQ3 := Lh (HQ2.out w2 hb2)
    have hr := HB2.out
    rw [q1, Bool.true_and] at hr
    have HR := Lh hr
    have HT4 := Lh T4
    clear HB2 HQ2 HT3 T4 k2 hb2 q1 hr
    go_wp2_with fail
    refine HQ3.out.mono ?_
    rintro e w3 ⟨r2, rfl, e2', hb3⟩
    have T5 := HT4.out.on hb3
    clear c0 c1 c2 HQ3 hb3 HT4
    have e2 := e2'.trans HR.out.symm
    clear e2'
    cases r with
    | false =>
     have HS := Lh (HBn.out rfl)
     have HT5 := Lh T5
     clear HBy HBn HR T5
     go_wp2
     go_roundw
     case rel => exact ⟨j + 1, by omega, by omega, by go_num, HT5.out, HS⟩
     case measure => (simp [intOf] <;> omega)
    | true =>
     have hK := HBy.out rfl
     clear HBy HBn HR
     go_wp2
     go_ret
     exact mkNum (by rw [hK]) T5.1
  ·obtain rfl : j = 3 := by omega
   have hK := HE.out hP.out
   go_wp2
   go_ret
   exact mkNum (by rw [hK]; rfl) hT.1
set_option maxHeartbeats 1000000 in
theorem sKind_out (w : World) (A : Option Addr) (n cap : Nat) (L : List Dm) (x y : Int) (h6 : in6 x y = false) :
  Calls Tryz.prog 86 #[.slice A n cap, .agg #[.int .i64 x, .int .i64 y]] w (Num 0 w) := by
 have H6 := Lh h6
 clear h6
 go_enter Tryz.func86, Tryz.ntmps86
 go_wp2_with fail
 refine (l01In x 0 6 _).mono ?_
 rintro e w1 ⟨rfl, rfl⟩
 by_cases hx : 0 ≤ x ∧ x ≤ 6
 ·rw [inB_of hx]
  go_wp2_with fail
  refine (l01In y 0 6 _).mono ?_
  rintro e w1 ⟨rfl, rfl⟩
  have hy : ¬ (0 ≤ y ∧ y ≤ 6) := fun hy => by have := in6_iff.2 ⟨hx.1, hx.2, hy.1, hy.2⟩; rw [H6.out] at this; cases this
  rw [inB_not hy]
  go_wp2
  go_ret
  exact mkNum rfl (below_alloc1 _ _)
 ·rw [inB_not hx]
  go_wp2
  go_ret
  exact mkNum rfl (below_alloc1 _ _)
theorem sKind (w : World) (A : Option Addr) (n cap B : Nat) (L : List Dm) (hL : L.length = n) (hn : (n : Int) ≤ 9223372036854775807) (h : RowM w B A L) (hB : B ≤ w.heap.size) (x y : Int) :
  Calls Tryz.prog 86 #[.slice A n cap, .agg #[.int .i64 x, .int .i64 y]] w (Num ((kindN L x y : Nat) : Int) w) := by
 cases h6 : in6 x y with
 | true => exact sKind_in w A n cap B L hL hn h hB x y h6
 | false => rw [kind_out h6]; exact sKind_out w A n cap L x y h6
end Go.Proofs.YtmajllgfmclcoaaGreatDoor.Flp
