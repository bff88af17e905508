/- Ctn, DomW, PrA in one text. -/
import Derived.Test.YtmenmepdmojnfaaGreatDoorMw19
import Derived.Test.YtmenmepdmojnfaaGreatDoorMw02
import Derived.Test.YtmenmepdmojnfaaGreatDoorMw18

namespace Go.Proofs.YtmenmepdmojnfaaGreatDoor.Flp
set_option linter.unusedVariables false
set_option linter.unusedSimpArgs false
set_option maxRecDepth 100000
open Go.RowKit Go.Proofs.YtmenmepdmojnfaaGreatDoor.Cell Go.Proofs.YtmenmepdmojnfaaGreatDoor.Dom Go.Proofs.YtmenmepdmojnfaaGreatDoor.Dms Go.Joins

set_option maxHeartbeats 2000000 in
theorem iIndex (w : World) (A : Option Addr) (n cap B : Nat) (L : List Dm) (hL : L.length = n) (hn : (n : Int) ≤ 9223372036854775807) (h : RowM w B A L) (hB : B ≤ w.heap.size) (d : Dm) :
  Calls Tryz.prog 139 #[.slice A n cap, dmV d] w (HasP L d w) := by
 obtain ⟨b, off, hA, hc⟩ := h.at
 have HA := Lib.hid hA
 have HC := Lib.hid hc
 have HL := Lib.hid hL
 have T0 := Lib.hid (db_start d w)
 obtain ⟨x, y, c⟩ := d
 clear hA hc hL h
 go_enter Tryz.func139, Tryz.ntmps139
 go_wp2_with fail
 go_loopw [5, 8] (fun _ i wr => ∃ k : Nat, k ≤ n ∧ i = .int .i64 k ∧ DB w (x, y, c) wr ∧ Hid ((x, y, c) ∉ L.take k)) (fun _ i _ => n - (intOf i).toNat)
 case atStart => exact ⟨0, Nat.zero_le _, rfl, T0.out, Lib.hid (by simp)⟩
 case round =>
  clear T0
  obtain ⟨k, hk, rfl, hK, HN⟩ := hrel
  by_cases hlt : k < n
  ·have hkL : k < L.length := by rw [HL.out]; exact hlt
   obtain ⟨rfl, hbB⟩ := HA.out (by omega)
   obtain ⟨e0, e1, e2⟩ := HC.out k hkL
   have d0 := (hK.1.cell (p := ⟨b, off + k * 3, none⟩) (by show b < _; omega)).trans e0
   have d1 := (hK.1.cell (p := ⟨b, off + k * 3 + 1, none⟩) (by show b < _; omega)).trans e1
   have d2 := (hK.1.cell (p := ⟨b, off + k * 3 + 2, none⟩) (by show b < _; omega)).trans e2
   have c0 := At3.c0 hK.2
   have c1 := At3.c1 hK.2
   have c2 := At3.c2 hK.2
   have HX := Lib.hid (fun hne => take_no hkL HN.out hne)
   have HIn := Lib.hid (fun (he : L[k] = (x, y, c)) => show (x, y, c) ∈ L from he ▸ List.getElem_mem hkL)
   generalize L[k] = p at d0 d1 d2 HX HIn
   obtain ⟨u, v, a⟩ := p
   simp only at d0 d1 d2 c0 c1 c2
   have HK := Lib.hid hK
   clear e0 e1 e2 HN hK
   by_cases q : u = x ∧ v = y ∧ a = c
   ·obtain ⟨rfl, rfl, rfl⟩ := q
    have HI := Lib.hid (HIn.out rfl)
    clear HX HIn
    have huu : (u == u) = true := by simp
    have hvv : (v == v) = true := by simp
    have haa : (a == a) = true := by simp
    go_wp2_with fail
    go_quiet (fail)
    go_wp2
    go_ret
    exact mkHas (by rw [decide_eq_true HI.out]; exact decide_eq_true (by omega)) (drewBelow HK.out.1 _)
   ·have HY := Lib.hid (HX.out (fun e => by injection e with e1 e2; injection e2 with e2 e3; exact q ⟨e1, e2, e3⟩))
    clear HX HIn
    by_cases q1 : u = x
    ·subst q1
     have huu : (u == u) = true := by simp
     by_cases q2 : v = y
     ·subst q2
      have hvv : (v == v) = true := by simp
      have haf : (c == a) = false := by rw [beq_eq_false_iff_ne]; exact fun e => q ⟨rfl, rfl, e.symm⟩
      clear q
      go_wp2_with fail
      go_quiet (fail)
      go_wp2
      go_roundw
      case rel => exact ⟨k + 1, by omega, by go_num, HK.out.on (drewBelow (Below.refl _ _) _), HY⟩
      case measure => (simp [intOf] <;> omega)
     ·have hvf : (y == v) = false := by rw [beq_eq_false_iff_ne]; exact fun e => q2 e.symm
      clear q
      go_wp2_with fail
      go_quiet (fail)
      go_wp2
      go_roundw
      case rel => exact ⟨k + 1, by omega, by go_num, HK.out.on (drewBelow (Below.refl _ _) _), HY⟩
      case measure => (simp [intOf] <;> omega)
    ·have huf : (x == u) = false := by rw [beq_eq_false_iff_ne]; exact fun e => q1 e.symm
     clear q
     go_wp2_with fail
     go_quiet (fail)
     go_wp2
     go_roundw
     case rel => exact ⟨k + 1, by omega, by go_num, HK.out.on (drewBelow (Below.refl _ _) _), HY⟩
     case measure => (simp [intOf] <;> omega)
  ·obtain rfl : k = n := by omega
   have HF := Lib.hid (show (x, y, c) ∉ L from fun q => HN.out (by rw [← HL.out, List.take_length]; exact q))
   have HK := Lib.hid hK.1
   clear hK HN
   go_wp2
   go_ret
   exact mkHas (by rw [decide_eq_false HF.out]; exact decide_eq_false (by omega)) HK.out
theorem iContains (w : World) (A : Option Addr) (n cap B : Nat) (L : List Dm) (hL : L.length = n) (hn : (n : Int) ≤ 9223372036854775807) (h : RowM w B A L) (hB : B ≤ w.heap.size) (d : Dm) :
  Calls Tryz.prog 110 #[.slice A n cap, dmV d] w (Bol (decide (d ∈ L)) w) := by
 have T0 := Lib.hid (db_start d w)
 have HI := Lib.hid (fun W (hb : Below w.heap.size w W) => iIndex W A n cap B L hL hn (h.below hb hB) (by have := hb.size; omega) d)
 have HQ := Lib.hid (rfl : decide (d ∈ L) = decide (d ∈ L))
 clear hL hn h hB
 obtain ⟨x, y, c⟩ := d
 go_enter Tryz.func110, Tryz.ntmps110
 go_wp2_with fail
 refine (HI.out _ T0.out.1).mono ?_
 rintro e w1 ⟨r, rfl, hr, hb1⟩
 have HB := Lib.hid (T0.out.on hb1).1
 have HR := Lib.hid hr
 clear HI T0 hb1 hr
 go_wp2
 go_ret
 exact mkBol (by rw [← HR.out]) HB.out
end Go.Proofs.YtmenmepdmojnfaaGreatDoor.Flp

namespace Go.Proofs.YtmenmepdmojnfaaGreatDoor.Dom
set_option linter.unusedVariables false
set_option linter.unusedSimpArgs false
open Go.RowKit Go.Proofs.YtmenmepdmojnfaaGreatDoor.Cell Go.Joins

def sxW (x : Int) (b : Bool) : Int := if b then wrap64 (x + 0) else wrap64 (x + 1)
def syW (y : Int) (b : Bool) : Int := if b then wrap64 (y + 1) else wrap64 (y + 0)
theorem domW (x y : Int) (b : Bool) : domB x y b = (okB x y && okB (sxW x b) (syW y b)) := by
 unfold domB
 by_cases h : Ok x y
 ·have h' := h
  unfold Ok at h'
  have e0 : wrap64 (x + 0) = x := by unfold wrap64; omega
  have e1 : wrap64 (y + 0) = y := by unfold wrap64; omega
  cases b with
  | true => unfold sx sy sxW syW; rw [if_pos rfl, if_pos rfl, if_pos rfl, if_pos rfl, e0]
  | false => unfold sx sy sxW syW; rw [if_neg (by simp), if_neg (by simp), if_neg (by simp), if_neg (by simp), e1]
 ·rw [okB_not h]; rfl
set_option maxHeartbeats 400000 in
theorem iCellsW (x y : Int) (b : Bool) (w : World) :
  Calls Tryz.prog 94 #[.agg #[.int .i64 x, .int .i64 y, .bool b]] w (Cel2 x y (sxW x b) (syW y b) w) := by
 have F0 := Lib.hid (fun T => four_start (T := T) x y b w)
 cases b with
 | true =>
  have HM := Lib.hid (fun W => moved x y 0 1 W)
  have hE : sxW x true = wrap64 (x + 0) ∧ syW y true = wrap64 (y + 1) := ⟨rfl, rfl⟩
  generalize wrap64 (x + 0) = u at HM hE
  generalize wrap64 (y + 1) = v at HM hE
  rw [hE.1, hE.2]
  clear hE
  go_enter Tryz.func94, Tryz.ntmps94
  go_wp2_with fail
  have F1 := F0.out 73
  generalize World.alloc _ (.cells #[.int .i64 x, .int .i64 y] 67) = W at F1 ⊢
  clear F0
  refine wp_region_noPanic ?_
  refine wp_region_held_drew (S := (fun w' => w'.cell? ⟨w.heap.size + 1 + 1 + 1, 0, none⟩ = some (.int .i64 x) ∧ w'.cell? ⟨w.heap.size + 1 + 1 + 1, 1, none⟩ = some (.int .i64 y))) (by kernel_rfl) (⟨F1.drew.2.2.2.c0, F1.drew.2.2.2.c1⟩) (fun hHeld => ?_)
  refine wpAnyH_take (i := 0) (v := ?_) rfl (by kernel_rfl) (by kernel_rfl) (by kernel_rfl) (fun _ _ _ h => h) (Or.inl ⟨by rfl, ?_⟩) (by assumption) ?_
  rotate_left
  ·(intro w' hS; (try dsimp only at hS); go_simp; try with_reducible rfl)
  try simp only [Act.put, List.getElem_toArray, List.getElem_cons_succ, List.getElem_cons_zero, List.setIfInBounds_toArray, List.set_cons_zero, List.set_cons_succ]
  refine wpAnyH_take (i := 1) (v := ?_) rfl (by kernel_rfl) (by kernel_rfl) (by kernel_rfl) (fun _ _ _ h => h) (Or.inl ⟨by rfl, ?_⟩) (by assumption) ?_
  rotate_left
  ·(intro w' hS; (try dsimp only at hS); go_simp; try with_reducible rfl)
  try simp only [Act.put, List.getElem_toArray, List.getElem_cons_succ, List.getElem_cons_zero, List.setIfInBounds_toArray, List.set_cons_zero, List.set_cons_succ]
  refine wpAnyH_ready (rs := [2]) (by kernel_rfl) (by simp) ?_
  refine AllReadyH.cons rfl (fun K hK => ?_) AllReadyH.nil
  go_simp
  refine (HM.out _).mono ?_
  rintro e wx ⟨rfl, hbx⟩
  have F2 := F1.drew.on hbx
  clear F1 hbx hHeld
  go_wp2_with fail
  refine hK.out _ _ (⟨F2.2.2.2.c0, F2.2.2.2.c1⟩) (fun hHeld => ?_)
  clear hK K
  try simp only [Act.put, List.getElem_toArray, List.getElem_cons_succ, List.getElem_cons_zero, List.setIfInBounds_toArray, List.set_cons_zero, List.set_cons_succ]
  refine wpAnyH_ready (rs := [3]) (by kernel_rfl) (by simp) ?_
  refine AllReadyH.cons rfl (fun K hK => ?_) AllReadyH.nil
  have d0 := F2.2.1.c0
  have d1 := F2.2.1.c1
  have d2 := F2.2.1.f0
  have d3 := F2.2.1.f1
  have F3 := F2.put1 x y
  clear F2
  go_simp
  refine hK.out _ _ (⟨F3.2.2.2.c0, F3.2.2.2.c1⟩) (fun hHeld => ?_)
  clear hK K
  try simp only [Act.put, List.getElem_toArray, List.getElem_cons_succ, List.getElem_cons_zero, List.setIfInBounds_toArray, List.set_cons_zero, List.set_cons_succ]
  refine wpAnyH_ready (rs := [4]) (by kernel_rfl) (by simp) ?_
  refine AllReadyH.cons rfl (fun K hK => ?_) AllReadyH.nil
  have d0 := F3.2.2.1.c0
  have d1 := F3.2.2.1.c1
  have d2 := F3.2.2.1.f0
  have d3 := F3.2.2.1.f1
  have F4 := F3.put2 u v
  clear F3
  go_simp
  refine hK.out _ _ (⟨F4.2.2.2.c0, F4.2.2.2.c1⟩) (fun hHeld => ?_)
  clear hK K
  try simp only [Act.put, List.getElem_toArray, List.getElem_cons_succ, List.getElem_cons_zero, List.setIfInBounds_toArray, List.set_cons_zero, List.set_cons_succ]
  refine wpAnyH_done (by kernel_rfl) ?_ _
  refine NoPanic.normal ?_
  generalize World.setCell _ _ _ = W4 at F4 ⊢
  have c0 := F4.2.1.c0
  have c1 := F4.2.1.c1
  have c2 := F4.2.2.1.c0
  have c3 := F4.2.2.1.c1
  go_wp2
  refine bodyPost_ret (v := .tuple #[.agg #[.int .i64 x, .int .i64 y], .agg #[.int .i64 u, .int .i64 v]]) ?_ rfl (mkCel2 rfl rfl rfl rfl F4.1)
  simp [results, Tryz.results94, go_sem, c0, c1, c2, c3]
 | false =>
  have HM := Lib.hid (fun W => moved x y 1 0 W)
  have hE : sxW x false = wrap64 (x + 1) ∧ syW y false = wrap64 (y + 0) := ⟨rfl, rfl⟩
  generalize wrap64 (x + 1) = u at HM hE
  generalize wrap64 (y + 0) = v at HM hE
  rw [hE.1, hE.2]
  clear hE
  go_enter Tryz.func94, Tryz.ntmps94
  go_wp2_with fail
  have F1 := F0.out 73
  generalize World.alloc _ (.cells #[.int .i64 x, .int .i64 y] 67) = W at F1 ⊢
  clear F0
  refine wp_region_noPanic ?_
  refine wp_region_held_drew (S := (fun w' => w'.cell? ⟨w.heap.size + 1 + 1 + 1, 0, none⟩ = some (.int .i64 x) ∧ w'.cell? ⟨w.heap.size + 1 + 1 + 1, 1, none⟩ = some (.int .i64 y))) (by kernel_rfl) (⟨F1.drew.2.2.2.c0, F1.drew.2.2.2.c1⟩) (fun hHeld => ?_)
  refine wpAnyH_take (i := 0) (v := ?_) rfl (by kernel_rfl) (by kernel_rfl) (by kernel_rfl) (fun _ _ _ h => h) (Or.inl ⟨by rfl, ?_⟩) (by assumption) ?_
  rotate_left
  ·(intro w' hS; (try dsimp only at hS); go_simp; try with_reducible rfl)
  try simp only [Act.put, List.getElem_toArray, List.getElem_cons_succ, List.getElem_cons_zero, List.setIfInBounds_toArray, List.set_cons_zero, List.set_cons_succ]
  refine wpAnyH_take (i := 1) (v := ?_) rfl (by kernel_rfl) (by kernel_rfl) (by kernel_rfl) (fun _ _ _ h => h) (Or.inl ⟨by rfl, ?_⟩) (by assumption) ?_
  rotate_left
  ·(intro w' hS; (try dsimp only at hS); go_simp; try with_reducible rfl)
  try simp only [Act.put, List.getElem_toArray, List.getElem_cons_succ, List.getElem_cons_zero, List.setIfInBounds_toArray, List.set_cons_zero, List.set_cons_succ]
  refine wpAnyH_ready (rs := [2]) (by kernel_rfl) (by simp) ?_
  refine AllReadyH.cons rfl (fun K hK => ?_) AllReadyH.nil
  go_simp
  refine (HM.out _).mono ?_
  rintro e wx ⟨rfl, hbx⟩
  have F2 := F1.drew.on hbx
  clear F1 hbx hHeld
  go_wp2_with fail
  refine hK.out _ _ (⟨F2.2.2.2.c0, F2.2.2.2.c1⟩) (fun hHeld => ?_)
  clear hK K
  try simp only [Act.put, List.getElem_toArray, List.getElem_cons_succ, List.getElem_cons_zero, List.setIfInBounds_toArray, List.set_cons_zero, List.set_cons_succ]
  refine wpAnyH_ready (rs := [3]) (by kernel_rfl) (by simp) ?_
  refine AllReadyH.cons rfl (fun K hK => ?_) AllReadyH.nil
  have d0 := F2.2.1.c0
  have d1 := F2.2.1.c1
  have d2 := F2.2.1.f0
  have d3 := F2.2.1.f1
  have F3 := F2.put1 x y
  clear F2
  go_simp
  refine hK.out _ _ (⟨F3.2.2.2.c0, F3.2.2.2.c1⟩) (fun hHeld => ?_)
  clear hK K
  try simp only [Act.put, List.getElem_toArray, List.getElem_cons_succ, List.getElem_cons_zero, List.setIfInBounds_toArray, List.set_cons_zero, List.set_cons_succ]
  refine wpAnyH_ready (rs := [4]) (by kernel_rfl) (by simp) ?_
  refine AllReadyH.cons rfl (fun K hK => ?_) AllReadyH.nil
  have d0 := F3.2.2.1.c0
  have d1 := F3.2.2.1.c1
  have d2 := F3.2.2.1.f0
  have d3 := F3.2.2.1.f1
  have F4 := F3.put2 u v
  clear F3
  go_simp
  refine hK.out _ _ (⟨F4.2.2.2.c0, F4.2.2.2.c1⟩) (fun hHeld => ?_)
  clear hK K
  try simp only [Act.put, List.getElem_toArray, List.getElem_cons_succ, List.getElem_cons_zero, List.setIfInBounds_toArray, List.set_cons_zero, List.set_cons_succ]
  refine wpAnyH_done (by kernel_rfl) ?_ _
  refine NoPanic.normal ?_
  generalize World.setCell _ _ _ = W4 at F4 ⊢
  have c0 := F4.2.1.c0
  have c1 := F4.2.1.c1
  have c2 := F4.2.2.1.c0
  have c3 := F4.2.2.1.c1
  go_wp2
  refine bodyPost_ret (v := .tuple #[.agg #[.int .i64 x, .int .i64 y], .agg #[.int .i64 u, .int .i64 v]]) ?_ rfl (mkCel2 rfl rfl rfl rfl F4.1)
  simp [results, Tryz.results94, go_sem, c0, c1, c2, c3]
set_option maxHeartbeats 400000 in
theorem iDominoOkW (x y : Int) (b : Bool) (w : World) :
  Calls Tryz.prog 149 #[.agg #[.int .i64 x, .int .i64 y, .bool b]] w (Bol (domB x y b) w) := by
 have HC := Lib.hid (fun W => iCellsW x y b W)
 have HV1 := Lib.hid (fun W => isValid x y W)
 have HD := Lib.hid (show domB x y b = (okB x y && okB (sxW x b) (syW y b)) from domW x y b)
 generalize sxW x b = u at HC HD
 generalize syW y b = v at HC HD
 have HV2 := Lib.hid (fun W => isValid u v W)
 generalize okB x y = p at HV1 HD
 generalize okB u v = q at HV2 HD
 generalize domB x y b = d at HD ⊢
 go_enter Tryz.func149, Tryz.ntmps149
 go_wp2_with fail
 refine (HC.out _).mono ?_
 rintro e w1 ⟨rfl, hb1⟩
 have hb := (below_alloc1 w (.cells #[.int .i64 x, .int .i64 y, .bool b] 73)).trans (hb1.mono (by simp))
 clear hb1 HC
 go_wp2_with fail
 refine (HV1.out _).mono ?_
 rintro e w2 ⟨rfl, hb2⟩
 obtain ⟨k1, k2, k3⟩ := at2_two w1 x y u v
 have hB := hb.trans ((k3.trans (hb2.mono k3.size)).mono hb.size)
 have K2 := k2.on hb2
 have c0 := K2.c0
 have c1 := K2.c1
 clear k1 k2 k3 hb hb2 K2 HV1
 cases p with
 | false =>
  go_wp2
  go_ret
  exact mkBol (by rw [HD.out]; rfl) hB
 | true =>
  go_wp2_with fail
  refine (HV2.out _).mono ?_
  rintro e w3 ⟨rfl, hb3⟩
  go_wp2
  go_ret
  exact mkBol (by rw [HD.out]; rfl) (hB.trans (hb3.mono hB.size))
end Go.Proofs.YtmenmepdmojnfaaGreatDoor.Dom

namespace Go.Proofs.YtmenmepdmojnfaaGreatDoor.Flp
set_option linter.unusedVariables false
set_option linter.unusedSimpArgs false
set_option maxRecDepth 100000
open Go.RowKit Go.Proofs.YtmenmepdmojnfaaGreatDoor.Cell Go.Proofs.YtmenmepdmojnfaaGreatDoor.Dom Go.Proofs.YtmenmepdmojnfaaGreatDoor.Dms Go.Proofs.YtmenmepdmojnfaaGreatDoor.Til Go.Joins

def pw2 (x y : Int) (b : Bool) : Dm := if b then (wrap64 (x + 1), y, true) else (x, wrap64 (y + 1), false)
abbrev arV (d f : Dm) : Value := .agg #[.int .i64 d.1, .int .i64 d.2.1, .bool d.2.2, .int .i64 f.1, .int .i64 f.2.1, .bool f.2.2]
def ArP (d f : Dm) (w : World) (e : Ending) (w' : World) : Prop := e = .returned (arV d f) ∧ Below w.heap.size w w'
def fnN (b : Bool) : Nat := if b then 136 else 135
def fnV (b : Bool) : Value := .func (.func (fnN b)) #[] #[]
set_option maxHeartbeats 1000000 in
theorem iAcross (x y : Int) (w : World) : Calls Tryz.prog 135 #[.agg #[.int .i64 x, .int .i64 y]] w (ArP (x, y, false) (x, wrap64 (y + 1), false) w) := by
 go_enter Tryz.func135, Tryz.ntmps135
 go_wp2
 exact bodyPost_ret (v := arV (x, y, false) (x, wrap64 (y + 1), false)) (by simp [results, Tryz.results135, go_sem]) rfl ⟨rfl, below_alloc2 _ _ _⟩
set_option maxHeartbeats 1000000 in
theorem iDown (x y : Int) (w : World) : Calls Tryz.prog 136 #[.agg #[.int .i64 x, .int .i64 y]] w (ArP (x, y, true) (wrap64 (x + 1), y, true) w) := by
 go_enter Tryz.func136, Tryz.ntmps136
 go_wp2
 exact bodyPost_ret (v := arV (x, y, true) (wrap64 (x + 1), y, true)) (by simp [results, Tryz.results136, go_sem]) rfl ⟨rfl, below_alloc2 _ _ _⟩
theorem iPair (x y : Int) (b : Bool) (w : World) : Calls Tryz.prog (fnN b) #[.agg #[.int .i64 x, .int .i64 y]] w (ArP (pr1 x y b) (pw2 x y b) w) := by
 cases b
 ·exact iAcross x y w
 ·exact iDown x y w
def liB (L : List Dm) (x y : Int) (b : Bool) : Bool := in6 x y && has2 L x y b
theorem li_is (L : List Dm) (x y : Int) (b : Bool) : liB L x y b = ((okM (pr1 x y b) && decide (pr1 x y b ∈ L)) && (okM (pw2 x y b) && decide (pw2 x y b ∈ L))) := by
 unfold liB
 by_cases h6 : in6 x y = true
 ·have h := in6_iff.1 h6
  have e : pw2 x y b = pr2 x y b := by
   unfold pw2 pr2
   rw [wrap_in (x := x) (by omega) (by omega), wrap_in (x := y) (by omega) (by omega)]
  rw [e, h6, ok1 h b, ok2 h b]; rfl
 ·have h0 : in6 x y = false := Bool.eq_false_iff.2 h6
  rw [h0]
  have key : ¬ (okM (pr1 x y b) = true ∧ okM (pw2 x y b) = true) := by
   rintro ⟨o1, o2⟩
   apply h6
   unfold okM domB at o1 o2
   rw [Bool.and_eq_true, okB_iff, okB_iff] at o1 o2
   obtain ⟨⟨a0, a1, a2, a3⟩, ⟨b0, b1, b2, b3⟩⟩ := o1
   obtain ⟨⟨c0, c1, c2, c3⟩, _⟩ := o2
   rw [in6_iff]
   simp only [pr1, sx, sy] at a0 a1 a2 a3 b0 b1 b2 b3
   unfold pw2 at c0 c1 c2 c3
   cases b with
   | true =>
    simp only [if_true] at *
    rw [wrap_in (x := x) a0 a1] at c0 c1
    rw [wrap_in (x := y) a2 a3] at b2 b3
    omega
   | false =>
    simp only [Bool.false_eq_true, if_false] at *
    rw [wrap_in (x := x) a0 a1] at b0 b1
    rw [wrap_in (x := y) a2 a3] at c2 c3
    omega
  cases o1 : okM (pr1 x y b) <;> cases o2 : okM (pw2 x y b) <;> simp
  exact absurd ⟨o1, o2⟩ key
theorem arAt (d f : Dm) (k : Nat) (h : k < 2) (W : World) : (Instr.index 137 (arV d f) (.int .i64 (k : Int))).run Tryz.prog W = .ok (dmV (if k = 0 then d else f)) W := by
 have h0 : (Instr.index 137 (arV d f) (.int .i64 0)).run Tryz.prog W = .ok (dmV d) W := by kernel_rfl
 have h1 : (Instr.index 137 (arV d f) (.int .i64 1)).run Tryz.prog W = .ok (dmV f) W := by kernel_rfl
 obtain rfl | rfl : k = 0 ∨ k = 1 := by omega
 ·exact h0
 ·exact h1
def goodD (L : List Dm) (d : Dm) : Bool := okM d && decide (d ∈ L)
def LiI (w : World) (L : List Dm) (d f : Dm) (k : Nat) : Prop := (0 < k → goodD L d = true) ∧ (1 < k → goodD L f = true)
theorem LiI.zero (w : World) (L : List Dm) (d f : Dm) : LiI w L d f 0 := ⟨fun h => by omega, fun h => by omega⟩
theorem LiI.step {w : World} {L : List Dm} {d f : Dm} {k : Nat} (h : LiI w L d f k) (hk : k < 2) (hg : goodD L (if k = 0 then d else f) = true) : LiI w L d f (k + 1) := by
 obtain rfl | rfl : k = 0 ∨ k = 1 := by omega
 ·exact ⟨fun _ => hg, fun h => by omega⟩
 ·exact ⟨fun _ => h.1 (by omega), fun _ => hg⟩
theorem li_no {L : List Dm} {x y : Int} {b : Bool} {k : Nat} (hk : k < 2) (hg : goodD L (if k = 0 then pr1 x y b else pw2 x y b) = false) : liB L x y b = false := by
 rw [li_is]
 obtain rfl | rfl : k = 0 ∨ k = 1 := by omega
 ·have : goodD L (pr1 x y b) = false := hg
  unfold goodD at this; rw [this]; rfl
 ·have : goodD L (pw2 x y b) = false := hg
  unfold goodD at this; rw [this, Bool.and_false]
theorem li_yes {w : World} {L : List Dm} {x y : Int} {b : Bool} (h : LiI w L (pr1 x y b) (pw2 x y b) 2) : liB L x y b = true := by
 rw [li_is]
 have h1 := h.1 (by omega)
 have h2 := h.2 (by omega)
 unfold goodD at h1 h2
 rw [h1, h2]; rfl
set_option maxHeartbeats 2000000 in
theorem iLies (w : World) (A : Option Addr) (n cap B : Nat) (L : List Dm) (hL : L.length = n) (hn : (n : Int) ≤ 9223372036854775807) (h : RowM w B A L) (hB : B ≤ w.heap.size) (x y : Int) (b : Bool) :
  Calls Tryz.prog 137 #[fnV b, .slice A n cap, .agg #[.int .i64 x, .int .i64 y]] w (Bol (liB L x y b) w) := by
 have HP := Lib.hid (fun W => iPair x y b W)
 have HOk := Lib.hid (fun (d : Dm) W => iDominoOkW d.1 d.2.1 d.2.2 W)
 have HCt := Lib.hid (fun W (hb : Below w.heap.size w W) d => iContains W A n cap B L hL hn (h.below hb hB) (by have := hb.size; omega) d)
 have HNo := Lib.hid (fun k (hk : k < 2) hg => li_no (L := L) (x := x) (y := y) (b := b) (k := k) hk hg)
 have HYes := Lib.hid (fun h => li_yes (w := w) (L := L) (x := x) (y := y) (b := b) h)
 have T0 := Lib.hid (cb_start x y w)
 have HG := Lib.hid (fun d => show goodD L d = (domB d.1 d.2.1 d.2.2 && decide (d ∈ L)) from rfl)
 generalize liB L x y b = r at HNo HYes ⊢
 generalize pr1 x y b = d at HP HNo HYes
 generalize pw2 x y b = f at HP HNo HYes
 clear hL hn h hB
 have key : ∀ fn : Nat, fn = fnN b → (fn = 136 ∨ fn = 135) → Calls Tryz.prog 137 #[.func (.func fn) #[] #[], .slice A n cap, .agg #[.int .i64 x, .int .i64 y]] w (Bol r w) := by
  intro fn hfn hor
  rw [← hfn] at HP
  clear hfn
  rcases hor with rfl | rfl
  ·go_enter Tryz.func137, Tryz.ntmps137
   go_wp2_with fail
   have c0 := T0.out.2.c0
   have c1 := T0.out.2.c1
   refine (HP.out _).mono ?_
   rintro e w1 ⟨rfl, hb1⟩
   have T1 := Lib.hid (T0.out.on hb1)
   clear T0 hb1 c0 c1 HP
   go_wp2_with fail
   go_loopw [8, 12] (fun _ i wr => ∃ k : Nat, k ≤ 2 ∧ i = .int .i64 k ∧ Below w.heap.size w wr ∧ Hid (LiI w L d f k)) (fun _ i _ => 2 - (intOf i).toNat)
   case atStart => exact ⟨0, by omega, rfl, T1.out.1, Lib.hid (LiI.zero _ _ _ _)⟩
   case round =>
    clear T1
    obtain ⟨k, hk, rfl, hb, HI⟩ := hrel
    by_cases hlt : k < 2
    ·have hix := fun W => arAt d f k hlt W
     have HS := Lib.hid (fun hg => HI.out.step hlt hg)
     have HN := Lib.hid (fun hg => HNo.out k hlt hg)
     have hk2 : (k : Int) < 2 := by omega
     generalize (if k = 0 then d else f) = p at hix HS HN
     have HOp := Lib.hid (fun W => HOk.out p W)
     have HCp := Lib.hid (fun W hb => HCt.out W hb p)
     have HGp := Lib.hid (HG.out p)
     generalize domB p.1 p.2.1 p.2.2 = ok at HOp HGp
     generalize decide (p ∈ L) = isin at HCp HGp
     obtain ⟨u, v, a⟩ := p
     have HB := Lib.hid (hb.alloc hb.size (.cells #[.int .i64 u, .int .i64 v, .bool a] 73))
     have KB := Lib.hid (At3.new 73 wr u v a)
     clear hb HI HNo HOk HCt HG
     go_wp2_with fail
     generalize wr.alloc (.cells #[.int .i64 u, .int .i64 v, .bool a] 73) = W1 at HB KB ⊢
     refine (HOp.out _).mono ?_
     rintro e w2 ⟨rfl, hb2⟩
     have HB2 := Lib.hid (HB.out.trans (hb2.mono HB.out.size))
     have KB2 := Lib.hid (At3.on KB.out hb2)
     clear hb2 HB KB HOp
     have c0 := At3.c0 KB2.out
     have c1 := At3.c1 KB2.out
     have c2 := At3.c2 KB2.out
     cases ok with
     | false =>
      go_wp2
      go_ret
      exact mkBol (HN.out (by rw [HGp.out]; rfl)).symm HB2.out
     | true =>
      go_wp2_with fail
      refine (HCp.out _ HB2.out).mono ?_
      rintro e w3 ⟨rfl, hb3⟩
      have HB3 := Lib.hid (HB2.out.trans (hb3.mono HB2.out.size))
      clear hb3 c0 c1 c2 HCp
      cases isin with
      | false =>
       go_wp2
       go_ret
       exact mkBol (HN.out (by rw [HGp.out]; rfl)).symm HB3.out
      | true =>
       go_wp2
       go_roundw
       case rel => exact ⟨k + 1, by omega, by go_num, HB3.out, Lib.hid (HS.out (by rw [HGp.out]; rfl))⟩
       case measure => (simp [intOf] <;> omega)
    ·obtain rfl : k = 2 := by omega
     have HY := Lib.hid (HYes.out HI.out)
     have HB := Lib.hid hb
     clear hb HI
     go_wp2
     go_ret
     exact mkBol HY.out.symm HB.out
  ·go_enter Tryz.func137, Tryz.ntmps137
   go_wp2_with fail
   have c0 := T0.out.2.c0
   have c1 := T0.out.2.c1
   refine (HP.out _).mono ?_
   rintro e w1 ⟨rfl, hb1⟩
   have T1 := Lib.hid (T0.out.on hb1)
   clear T0 hb1 c0 c1 HP
   go_wp2_with fail
   go_loopw [8, 12] (fun _ i wr => ∃ k : Nat, k ≤ 2 ∧ i = .int .i64 k ∧ Below w.heap.size w wr ∧ Hid (LiI w L d f k)) (fun _ i _ => 2 - (intOf i).toNat)
   case atStart => exact ⟨0, by omega, rfl, T1.out.1, Lib.hid (LiI.zero _ _ _ _)⟩
   case round =>
    clear T1
    obtain ⟨k, hk, rfl, hb, HI⟩ := hrel
    by_cases hlt : k < 2
    ·have hix := fun W => arAt d f k hlt W
     have HS := Lib.hid (fun hg => HI.out.step hlt hg)
     have HN := Lib.hid (fun hg => HNo.out k hlt hg)
     have hk2 : (k : Int) < 2 := by omega
     generalize (if k = 0 then d else f) = p at hix HS HN
     have HOp := Lib.hid (fun W => HOk.out p W)
     have HCp := Lib.hid (fun W hb => HCt.out W hb p)
     have HGp := Lib.hid (HG.out p)
     generalize domB p.1 p.2.1 p.2.2 = ok at HOp HGp
     generalize decide (p ∈ L) = isin at HCp HGp
     obtain ⟨u, v, a⟩ := p
     have HB := Lib.hid (hb.alloc hb.size (.cells #[.int .i64 u, .int .i64 v, .bool a] 73))
     have KB := Lib.hid (At3.new 73 wr u v a)
     clear hb HI HNo HOk HCt HG
     go_wp2_with fail
     generalize wr.alloc (.cells #[.int .i64 u, .int .i64 v, .bool a] 73) = W1 at HB KB ⊢
     refine (HOp.out _).mono ?_
     rintro e w2 ⟨rfl, hb2⟩
     have HB2 := Lib.hid (HB.out.trans (hb2.mono HB.out.size))
     have KB2 := Lib.hid (At3.on KB.out hb2)
     clear hb2 HB KB HOp
     have c0 := At3.c0 KB2.out
     have c1 := At3.c1 KB2.out
     have c2 := At3.c2 KB2.out
     cases ok with
     | false =>
      go_wp2
      go_ret
      exact mkBol (HN.out (by rw [HGp.out]; rfl)).symm HB2.out
     | true =>
      go_wp2_with fail
      refine (HCp.out _ HB2.out).mono ?_
      rintro e w3 ⟨rfl, hb3⟩
      have HB3 := Lib.hid (HB2.out.trans (hb3.mono HB2.out.size))
      clear hb3 c0 c1 c2 HCp
      cases isin with
      | false =>
       go_wp2
       go_ret
       exact mkBol (HN.out (by rw [HGp.out]; rfl)).symm HB3.out
      | true =>
       go_wp2
       go_roundw
       case rel => exact ⟨k + 1, by omega, by go_num, HB3.out, Lib.hid (HS.out (by rw [HGp.out]; rfl))⟩
       case measure => (simp [intOf] <;> omega)
    ·obtain rfl : k = 2 := by omega
     have HY := Lib.hid (HYes.out HI.out)
     have HB := Lib.hid hb
     clear hb HI
     go_wp2
     go_ret
     exact mkBol HY.out.symm HB.out
 refine key (fnN b) rfl ?_
 cases b
 ·exact .inr rfl
 ·exact .inl rfl
end Go.Proofs.YtmenmepdmojnfaaGreatDoor.Flp
