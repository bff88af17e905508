/- WaF in one text. -/
import Derived.Test.YtmenmepdmojnfaaGreatDoorMw41
import Derived.Test.YtmenmepdmojnfaaGreatDoorMw46
import Derived.Test.YtmenmepdmojnfaaGreatDoorMw32
import Derived.Test.YtmenmepdmojnfaaGreatDoorMw33
import Derived.Test.YtmenmepdmojnfaaGreatDoorMw24
import Derived.Test.YtmenmepdmojnfaaGreatDoorMw16

namespace Go.Proofs.YtmenmepdmojnfaaGreatDoor.Wg
set_option linter.unusedVariables false
set_option linter.unusedSimpArgs false
set_option maxRecDepth 100000
open Go.RowKit Go.Proofs.YtmenmepdmojnfaaGreatDoor.Cell Go.Proofs.YtmenmepdmojnfaaGreatDoor.Dms Go.Proofs.YtmenmepdmojnfaaGreatDoor.Til Go.Proofs.YtmenmepdmojnfaaGreatDoor.Sets Go.Proofs.YtmenmepdmojnfaaGreatDoor.Flp Go.Joins
open Go.Proofs.YtmenmepdmojnfaaGreatDoor.Draw (IsRow big row_len coded_of_row)
open Go.Proofs.YtmenmepdmojnfaaGreatDoor.Tile (drawTwo TwoOk)
open Go.Proofs.YtmenmepdmojnfaaGreatDoor.Lst (listR idxR sIndexOf)
open Go.Proofs.YtmenmepdmojnfaaGreatDoor.Sam (sameD sSame)
open Go.Proofs.YtmenmepdmojnfaaGreatDoor.Cnt (tilesR)
open Go.Proofs.YtmenmepdmojnfaaGreatDoor.Prof (sCountTilings)
open Go.Proofs.YtmenmepdmojnfaaGreatDoor.Flo (simB sIsSimple)
open Go.Proofs.YtmenmepdmojnfaaGreatDoor.Reg hiding add_none RC rc_start

set_option maxHeartbeats 1000000 in
theorem lHas (w : World) (A : Option Addr) (n cap B : Nat) (l : List Nat) (k : Nat) (hl : l.length = n) (hn : n ≤ 20000) (hr : RdN w B A l) :
  Calls Tryz.prog 17 #[.slice A n cap, .int .i64 (k : Int)] w fun e w' => e = .returned (.bool (decide (k ∈ l))) ∧ w' = w := by
 obtain ⟨b, f1, f2⟩ := hr
 have HF1 := Lib.hid f1
 have HF2 := Lib.hid f2
 have HL := Lib.hid hl
 have HY := Lib.hid (show (∃ j, ∃ hj : j < l.length, l[j] = k) → decide (k ∈ l) = true from fun ⟨j, hj, e⟩ => decide_eq_true (e ▸ List.getElem_mem hj))
 have HN := Lib.hid (show (∀ j (hj : j < l.length), l[j] ≠ k) → decide (k ∈ l) = false from fun h => decide_eq_false (fun hm => by obtain ⟨j, hj, e⟩ := List.getElem_of_mem hm; exact h j hj e))
 generalize decide (k ∈ l) = r at HY HN ⊢
 clear hl f1 f2
 go_enter Tryz.func17, Tryz.ntmps17
 go_wp2_with fail
 go_loopw [5] (fun i wr => ∃ t : Nat, t ≤ n ∧ i = .int .i64 t ∧ wr = w ∧ Hid (∀ j (hj : j < l.length), j < t → l[j] ≠ k)) (fun i _ => n - (intOf i).toNat)
 case atStart => exact ⟨0, Nat.zero_le _, rfl, rfl, Lib.hid (fun j _ h => by omega)⟩
 case round =>
  obtain ⟨t, ht, rfl, rfl, HT⟩ := hrel
  by_cases hlt : t < n
  ·have htl : t < l.length := by rw [HL.out]; exact hlt
   obtain ⟨rfl, hbB⟩ := HF1.out (by omega)
   have cv := HF2.out t htl
   have htI : (t : Int) < (n : Int) := by omega
   have HT2 := Lib.hid (show l[t] ≠ k → ∀ j (hj : j < l.length), j < t + 1 → l[j] ≠ k from fun h j hj hj1 => by
    by_cases e : j = t
    ·subst e; exact h
    ·exact HT.out j hj (by omega))
   have HY2 := Lib.hid (show l[t] = k → r = true from fun h => HY.out ⟨t, htl, h⟩)
   generalize l[t] = v at cv HT2 HY2
   clear HT
   by_cases hvk : v = k
   ·have hr := HY2.out hvk
    subst hvk
    subst hr
    go_wp2
    go_ret
    exact ⟨rfl, rfl⟩
   ·have hne : ¬ (v : Int) = (k : Int) := by omega
    have HT3 := Lib.hid (HT2.out hvk)
    clear hvk HT2 HY2
    go_wp2
    go_roundw
    case rel => exact ⟨t + 1, by omega, by go_num, trivial, HT3⟩
    case measure => (simp [intOf] <;> omega)
  ·obtain rfl : t = n := by omega
   have hr := HN.out (fun j hj => HT.out j hj (by have := HL.out; omega))
   subst hr
   go_wp2
   go_ret
   exact ⟨rfl, rfl⟩
structure FW (w : World) (pr : Nat) (va : Value) (Ar : Option Addr) (ys : List Int) (Aa : Option Addr) (La : List Dm) (Ab : Option Addr) (Lb : List Dm) (W : World) : Prop where
 bel : Below w.heap.size w W
 box : Rg W pr va
 row : RowB W W.heap.size Ar ys
 a : RowM W W.heap.size Aa La
 b : RowM W W.heap.size Ab Lb
section
variable {w W W' : World} {pr : Nat} {va : Value} {Ar Aa Ab : Option Addr} {ys : List Int} {La Lb : List Dm}
theorem rowm_on {A : Option Addr} {M : List Dm} (h : RowM W W.heap.size A M) (hb : Below W.heap.size W W') : RowM W' W'.heap.size A M := (h.below hb (Nat.le_refl _)).mono hb.size
theorem FW.on (k : FW w pr va Ar ys Aa La Ab Lb W) (hb : Below W.heap.size W W') : FW w pr va Ar ys Aa La Ab Lb W' :=
 ⟨k.bel.trans (hb.mono k.bel.size), k.box.on hb, (k.row.below hb (Nat.le_refl _)).mono hb.size, rowm_on k.a hb, rowm_on k.b hb⟩
theorem FW.drew (k : FW w pr va Ar ys Aa La Ab Lb W) : FW w pr va Ar ys Aa La Ab Lb W.drew := ⟨k.bel.drew, k.box, k.row, k.a, k.b⟩
end

set_option maxHeartbeats 8000000 in
theorem ways_law (A : Option Addr) (len cap : Nat) (zs : List Int) (w : World) (h0 : IsRow .u8 w A len cap zs) (hT : Tab w) :
  Calls Tryz.prog 3 #[.slice A len cap] w fun e w' => e = .returned (.bool true) ∧ Below w.heap.size w w' := by
 have hlen := row_len h0
 by_cases hbig : (1048576 : Int) < (len : Int)
 ·go_enter Tryz.func3, Tryz.ntmps3
  go_wp2_with fail
  refine (big w A len cap hlen).mono ?_
  rintro e w' ⟨rfl, rfl⟩
  go_wp2
  go_ret
  exact ⟨rfl, Below.refl _ _⟩
 ·have HC := Lib.hid (coded_of_row h0 (by omega))
  have HTb := Lib.hid hT
  clear h0 hT
  go_enter Tryz.func3, Tryz.ntmps3
  go_wp2_with fail
  refine (big w A len cap hlen).mono ?_
  rintro e w' ⟨rfl, rfl⟩
  go_wp2_with fail
  refine (drawTwo w A len cap HC.out).mono ?_
  rintro e w1 ⟨ys, Ar, n, cr, h, La, Lb, Aa, ca, Ab, cb, hok, rfl, hown, howna, hownb, hb1⟩
  clear hlen hbig HC
  have hfa : Fits La := (list_gd ys).ft La hok.out.a
  have hfb : Fits Lb := (list_gd ys).ft Lb hok.out.b
  have hla := hok.out.la
  have hlb := hok.out.lb
  have h32 := hok.out.h32
  have hl := hok.out.len
  have hn : n ≤ 8 := by have := hok.out.ok.1; omega
  have HWa := Lib.hid (fun d (hd : DisR (listR ys) La Lb d) cs q (hw : WayR (listR ys) La Lb cs q) p hp => ways_all hok.out.ok hok.out.few hok.out.a hok.out.b hd hw (p := p) hp)
  have HDi := Lib.hid (fun W (k : FW w w1.heap.size (.slice Ar n cr) Ar ys Aa La Ab Lb W) => iFlipDistance W Ar n cr W.heap.size ys hl (by omega) k.row (Nat.le_refl _) (HTb.out.on k.bel (Nat.le_refl _)) Aa h ca W.heap.size La hla (by omega) hfa k.a (Nat.le_refl _) Ab h cb W.heap.size Lb hlb (by omega) hfb k.b (Nat.le_refl _))
  have HDj := Lib.hid (fun W (k : FW w w1.heap.size (.slice Ar n cr) Ar ys Aa La Ab Lb W) => iFlipDistance W Ar n cr W.heap.size ys hl (by omega) k.row (Nat.le_refl _) (HTb.out.on k.bel (Nat.le_refl _)) Ab h cb W.heap.size Lb hlb (by omega) hfb k.b (Nat.le_refl _) Aa h ca W.heap.size La hla (by omega) hfa k.a (Nat.le_refl _))
  have HWy := Lib.hid (fun W (k : FW w w1.heap.size (.slice Ar n cr) Ar ys Aa La Ab Lb W) => iFlipWay W Ar n cr W.heap.size ys hl (by omega) k.row (Nat.le_refl _) (HTb.out.on k.bel (Nat.le_refl _)) Aa h ca W.heap.size La hla (by omega) hfa k.a (Nat.le_refl _) Ab h cb W.heap.size Lb hlb (by omega) hfb k.b (Nat.le_refl _))
  have HPr := Lib.hid (fun W (k : FW w w1.heap.size (.slice Ar n cr) Ar ys Aa La Ab Lb W) => iCountFlipParts W Ar n cr W.heap.size ys hl (by omega) k.row (Nat.le_refl _) (HTb.out.on k.bel (Nat.le_refl _)))
  have HCt := Lib.hid (fun W (k : FW w w1.heap.size (.slice Ar n cr) Ar ys Aa La Ab Lb W) => sCountTilings W Ar n cr W.heap.size ys hl (by omega) k.row (Nat.le_refl _))
  have HSa := Lib.hid (fun W (k : FW w w1.heap.size (.slice Ar n cr) Ar ys Aa La Ab Lb W) => sSame W Aa Ab h h ca cb W.heap.size W.heap.size La Lb hla hlb (by omega) (by omega) k.a k.b (Nat.le_refl _) (Nat.le_refl _))
  have HFa := Lib.hid (fun W (k : FW w w1.heap.size (.slice Ar n cr) Ar ys Aa La Ab Lb W) A3 m c3 C (hC : C.length = m) (hm : m ≤ 60) (h2 : Go.Proofs.YtmenmepdmojnfaaGreatDoor.Def.RowK W W.heap.size A3 C) (hall : allF La C = some Lb) => show Calls Tryz.prog 15 #[.slice Aa h ca, .slice A3 m c3] W (FlPost Lb true W) from by
   have := sFlipAll W Aa h ca W.heap.size La hla (by omega) k.a (Nat.le_refl _) A3 m c3 W.heap.size C hC (by omega) h2 (Nat.le_refl _)
   rwa [(all_yes (by omega) hall).1, (all_yes (by omega) hall).2] at this)
  have HSb := Lib.hid (fun W (k : FW w w1.heap.size (.slice Ar n cr) Ar ys Aa La Ab Lb W) A3 c3 (h2 : RowM W W.heap.size A3 Lb) => show Calls Tryz.prog 13 #[.slice A3 h c3, .slice Ab h cb] W (Bol true W) from (show sameD Lb Lb = true by unfold sameD; simp) ▸ sSame W A3 Ab h h c3 cb W.heap.size W.heap.size Lb Lb hlb hlb (by omega) (by omega) h2 k.b (Nat.le_refl _) (Nat.le_refl _))
  have HSi := Lib.hid (fun W (k : FW w w1.heap.size (.slice Ar n cr) Ar ys Aa La Ab Lb W) => sIsSimple W Ar n cr W.heap.size ys hl (by omega) k.row (Nat.le_refl _))
  have HNb := Lib.hid (fun W (k : FW w w1.heap.size (.slice Ar n cr) Ar ys Aa La Ab Lb W) => iFlipNeighbors W Ar n cr W.heap.size ys hl (by omega) k.row (Nat.le_refl _) (HTb.out.on k.bel (Nat.le_refl _)) Aa h ca W.heap.size La hla (by omega) hfa k.a (Nat.le_refl _))
  have HIx := Lib.hid (fun W (k : FW w w1.heap.size (.slice Ar n cr) Ar ys Aa La Ab Lb W) => sIndexOf W Ar n cr W.heap.size ys hl (by omega) k.row (Nat.le_refl _) Ab h cb W.heap.size Lb hlb (by omega) k.b (Nat.le_refl _))
  have HLb := Lib.hid hlb
  have HK0 := Lib.hid (show FW w w1.heap.size (.slice Ar n cr) Ar ys Aa La Ab Lb (w1.alloc (.cells #[.slice Ar n cr] 26)) from by
   have k1 := below_alloc1 w1 (.cells #[.slice Ar n cr] 26)
   exact ⟨hb1.trans (k1.mono hb1.size), heap_alloc_new w1 _, ((rowB_own hown).below k1 (Nat.le_refl _)).mono k1.size, rowm_on (rowM_own howna) k1, rowm_on (rowM_own hownb) k1⟩)
  have HTw := Lib.hid hok
  unfold DisP at HDi HDj
  unfold WayP at HWy
  unfold PrtP at HPr
  unfold NbRP at HNb
  unfold FlPost at HFa
  clear hok hfa hfb hla hlb hl hown howna hownb hb1
  go_upto_region 4 with fail
  generalize w1.alloc (.cells #[.slice Ar n cr] 26) = W1 at HK0 ⊢
  generalize w1.heap.size = pr at HDi HDj HWy HPr HCt HSa HFa HSb HSi HNb HIx HK0 ⊢
  have c0 := HK0.out.box.c0
  go_wp2_with fail
  refine (HDi.out _ HK0.out).mono ?_
  rintro e w2 ⟨d, rfl, hd, hb2⟩
  have HK2 := Lib.hid (HK0.out.on hb2)
  have Hd := Lib.hid hd
  clear c0 hd hb2 HK0 HDi
  have c0 := HK2.out.box.c0
  go_wp2_with fail
  refine (HWy.out _ HK2.out).mono ?_
  rintro e w3 ⟨cs, q, A3, c3, rfl, hown, hwr, hb3⟩
  have HK3 := Lib.hid (HK2.out.on hb3)
  have HRk := Lib.hid (Go.Proofs.YtmenmepdmojnfaaGreatDoor.Def.rowK_own hown)
  have Hw := Lib.hid hwr
  clear c0 hown hwr hb3 HK2 HWy
  have c0 := HK3.out.box.c0
  go_wp2_with fail
  refine (HPr.out _ HK3.out).mono ?_
  rintro e w4 ⟨p, rfl, hp, hb4⟩
  have HK4 := Lib.hid (HK3.out.on hb4)
  have HRk := Lib.hid ((HRk.out.below hb4 (Nat.le_refl _)).mono hb4.size)
  have HW := Lib.hid (HWa.out d Hd.out cs q Hw.out p hp)
  clear c0 hp hb4 HK3 HPr Hd Hw HWa
  have c0 := HK4.out.box.c0
  have h1 : 1 ≤ p := HW.out.p1
  have hp1 : ¬ (p : Int) < 1 := by omega
  have hpm := HW.out.pm
  have hpm2 : ¬ tilesR ys < (p : Int) := by omega
  have hsm := HW.out.sm
  obtain ⟨z, hz⟩ : ∃ z, (d == (0 : Int)) = z := ⟨_, rfl⟩
  rw [hz] at hsm
  rw [hsm] at HSa
  have hzz : (z != z) = false := by simp
  have hdd : (d != d) = false := by simp
  have hq0 := HW.out.q0
  have hon := HW.out.on
  have hsi := HW.out.si
  obtain ⟨j, hj1, hj2⟩ := HW.out.nb
  rw [hj1] at HIx
  have HJ := Lib.hid hj2
  generalize tilesR ys = t at HCt hpm2
  generalize simB ys = s at HSi hsi
  have Hon := Lib.hid hon
  have Hsi := Lib.hid hsi
  clear hj1 hj2 hpm hsm hon hsi h1
  cases q with
  | true =>
   have hd0 : 0 ≤ d := of_decide_eq_true hq0.symm
   have hwy := HW.out.wy rfl
   have HWy := Lib.hid hwy
   clear hq0 hwy
   go_wp2_with fail
   refine (HDj.out _ HK4.out).mono ?_
   rintro e w5 ⟨d', rfl, hd', hb5⟩
   obtain rfl := HW.out.rv d' hd'
   have HK5 := Lib.hid (HK4.out.on hb5)
   have HRk := Lib.hid ((HRk.out.below hb5 (Nat.le_refl _)).mono hb5.size)
   clear c0 hd' hb5 HK4 HDj
   go_wp2_with fail
   refine (HSa.out _ HK5.out).mono ?_
   rintro e w6 ⟨rfl, hb6⟩
   have HK6 := Lib.hid (HK5.out.on hb6)
   have HRk := Lib.hid ((HRk.out.below hb6 (Nat.le_refl _)).mono hb6.size)
   clear hb6 HK5 HSa
   have c0 := HK6.out.box.c0
   go_wp2_with fail
   refine (HCt.out _ HK6.out).mono ?_
   rintro e w7 ⟨rfl, hb7⟩
   have HK7 := Lib.hid (HK6.out.on hb7)
   have HRk := Lib.hid ((HRk.out.below hb7 (Nat.le_refl _)).mono hb7.size)
   clear c0 hb7 HK6 HCt
   have c0 := HK7.out.box.c0
   obtain ⟨w1', w2', w3'⟩ := HWy.out
   have HFb := Lib.hid (HFa.out _ HK7.out A3 cs.length c3 cs rfl w2' HRk.out w3')
   have hcd : (((cs.length : Nat) : Int) != d') = false := by simp [w1']
   have hcl : cs.length ≤ 60 := w2'
   generalize cs.length = cn at HFb hcd hcl ⊢
   clear w1' w2' w3' HFa HRk c0
   go_wp2_with fail
   refine HFb.out.mono ?_
   rintro e w8 ⟨A8, c8, rfl, _, hown8, hb8⟩
   have HK8 := Lib.hid (HK7.out.on hb8)
   have HR8 := Lib.hid (rowM_own hown8)
   rw [HLb.out]
   clear hown8 hb8 HK7 HFb
   go_wp2_with fail
   refine (HSb.out _ HK8.out _ _ HR8.out).mono ?_
   rintro e w9 ⟨rfl, hb9⟩
   have HK9 := Lib.hid (HK8.out.on hb9)
   clear hb9 HK8 HR8 HSb
   obtain ⟨y, hy⟩ : ∃ y, (d' == (1 : Int)) = y := ⟨_, rfl⟩
   have hyy : (y == y) = true := by simp
   cases s with
   | true =>
    have hp := Hsi.out rfl
    have hpe : ((p : Int) == (1 : Int)) = true := by simp; omega
    have hpn : ((p : Int) != (1 : Int)) = false := by simp; omega
    clear hp
    go_upto_region 13 with fail
    refine wp_region_noPanic ?_
    refine wp_region_held_drew (S := (fun w' => w'.cell? ⟨pr, 0, none⟩ = some (.slice Ar n cr))) (by kernel_rfl) (HK9.out.drew.box.c0) (fun hHeld => ?_)
    refine wpAnyH_take (i := 0) (v := ?_) rfl (by kernel_rfl) (by kernel_rfl) (by kernel_rfl) (fun _ _ _ h => h) (Or.inl ⟨by rfl, ?_⟩) (by assumption) ?_
    rotate_left
    ·(intro w' hS; (try dsimp only at hS); go_simp; try with_reducible rfl)
    try simp only [Act.put, List.getElem_toArray, List.getElem_cons_succ, List.getElem_cons_zero, List.setIfInBounds_toArray, List.set_cons_zero, List.set_cons_succ]
    refine wpAnyH_ready (rs := [1]) (by kernel_rfl) (by simp) ?_
    refine AllReadyH.cons rfl (fun K hK => ?_) AllReadyH.nil
    go_simp
    refine (HSi.out _ HK9.out.drew).mono ?_
    rintro e wx ⟨rfl, hbx⟩
    have HKa := Lib.hid (HK9.out.drew.on hbx)
    clear hbx HK9 HSi hHeld
    go_wp2_with fail
    refine hK.out _ _ (HKa.out.box.c0) (fun hHeld => ?_)
    clear hK K
    try simp only [Act.put, List.getElem_toArray, List.getElem_cons_succ, List.getElem_cons_zero, List.setIfInBounds_toArray, List.set_cons_zero, List.set_cons_succ]
    refine wpAnyH_take (i := 2) (v := ?_) rfl (by kernel_rfl) (by kernel_rfl) (by kernel_rfl) (fun _ _ _ h => h) (Or.inl ⟨by rfl, ?_⟩) (by assumption) ?_
    rotate_left
    ·(intro w' hS; (try dsimp only at hS); go_simp; try with_reducible rfl)
    try simp only [Act.put, List.getElem_toArray, List.getElem_cons_succ, List.getElem_cons_zero, List.setIfInBounds_toArray, List.set_cons_zero, List.set_cons_succ]
    refine wpAnyH_take (i := 3) (v := ?_) rfl (by kernel_rfl) (by kernel_rfl) (by kernel_rfl) (fun _ _ _ h => h) (Or.inl ⟨by rfl, ?_⟩) (by assumption) ?_
    rotate_left
    ·(intro w' hS; (try dsimp only at hS); go_simp; try with_reducible rfl)
    try simp only [Act.put, List.getElem_toArray, List.getElem_cons_succ, List.getElem_cons_zero, List.setIfInBounds_toArray, List.set_cons_zero, List.set_cons_succ]
    refine wpAnyH_take (i := 4) (v := ?_) rfl (by kernel_rfl) (by kernel_rfl) (by kernel_rfl) (fun _ _ _ h => h) (Or.inl ⟨by rfl, ?_⟩) (by assumption) ?_
    rotate_left
    ·(intro w' hS; (try dsimp only at hS); go_simp; try with_reducible rfl)
    try simp only [Act.put, List.getElem_toArray, List.getElem_cons_succ, List.getElem_cons_zero, List.setIfInBounds_toArray, List.set_cons_zero, List.set_cons_succ]
    refine wpAnyH_take (i := 5) (v := ?_) rfl (by kernel_rfl) (by kernel_rfl) (by kernel_rfl) (fun _ _ _ h => h) (Or.inl ⟨by rfl, ?_⟩) (by assumption) ?_
    rotate_left
    ·(intro w' hS; (try dsimp only at hS); go_simp; try with_reducible rfl)
    try simp only [Act.put, List.getElem_toArray, List.getElem_cons_succ, List.getElem_cons_zero, List.setIfInBounds_toArray, List.set_cons_zero, List.set_cons_succ]
    refine wpAnyH_take (i := 6) (v := ?_) rfl (by kernel_rfl) (by kernel_rfl) (by kernel_rfl) (fun _ _ _ h => h) (Or.inl ⟨by rfl, ?_⟩) (by assumption) ?_
    rotate_left
    ·(intro w' hS; (try dsimp only at hS); go_simp; try with_reducible rfl)
    try simp only [Act.put, List.getElem_toArray, List.getElem_cons_succ, List.getElem_cons_zero, List.setIfInBounds_toArray, List.set_cons_zero, List.set_cons_succ]
    refine wpAnyH_take (i := 7) (v := ?_) rfl (by kernel_rfl) (by kernel_rfl) (by kernel_rfl) (fun _ _ _ h => h) (Or.inl ⟨by rfl, ?_⟩) (by assumption) ?_
    rotate_left
    ·(intro w' hS; (try dsimp only at hS); go_simp; try with_reducible rfl)
    try simp only [Act.put, List.getElem_toArray, List.getElem_cons_succ, List.getElem_cons_zero, List.setIfInBounds_toArray, List.set_cons_zero, List.set_cons_succ]
    refine wpAnyH_take (i := 8) (v := ?_) rfl (by kernel_rfl) (by kernel_rfl) (by kernel_rfl) (fun _ _ _ h => h) (Or.inl ⟨by rfl, ?_⟩) (by assumption) ?_
    rotate_left
    ·(intro w' hS; (try dsimp only at hS); go_simp; try with_reducible rfl)
    try simp only [Act.put, List.getElem_toArray, List.getElem_cons_succ, List.getElem_cons_zero, List.setIfInBounds_toArray, List.set_cons_zero, List.set_cons_succ]
    refine wpAnyH_take (i := 9) (v := ?_) rfl (by kernel_rfl) (by kernel_rfl) (by kernel_rfl) (fun _ _ _ h => h) (Or.inl ⟨by rfl, ?_⟩) (by assumption) ?_
    rotate_left
    ·(intro w' hS; (try dsimp only at hS); go_simp; try with_reducible rfl)
    try simp only [Act.put, List.getElem_toArray, List.getElem_cons_succ, List.getElem_cons_zero, List.setIfInBounds_toArray, List.set_cons_zero, List.set_cons_succ]
    refine wpAnyH_take (i := 10) (v := ?_) rfl (by kernel_rfl) (by kernel_rfl) (by kernel_rfl) (fun _ _ _ h => h) (Or.inl ⟨by rfl, ?_⟩) (by assumption) ?_
    rotate_left
    ·(intro w' hS; (try dsimp only at hS); go_simp; try with_reducible rfl)
    try simp only [Act.put, List.getElem_toArray, List.getElem_cons_succ, List.getElem_cons_zero, List.setIfInBounds_toArray, List.set_cons_zero, List.set_cons_succ]
    refine wpAnyH_take (i := 11) (v := ?_) rfl (by kernel_rfl) (by kernel_rfl) (by kernel_rfl) (fun _ _ _ h => h) (Or.inl ⟨by rfl, ?_⟩) (by assumption) ?_
    rotate_left
    ·(intro w' hS; (try dsimp only at hS); go_simp; try with_reducible rfl)
    try simp only [Act.put, List.getElem_toArray, List.getElem_cons_succ, List.getElem_cons_zero, List.setIfInBounds_toArray, List.set_cons_zero, List.set_cons_succ]
    refine wpAnyH_take (i := 12) (v := ?_) rfl (by kernel_rfl) (by kernel_rfl) (by kernel_rfl) (fun _ _ _ h => h) (Or.inl ⟨by rfl, ?_⟩) (by assumption) ?_
    rotate_left
    ·(intro w' hS; (try dsimp only at hS); go_simp; try with_reducible rfl)
    try simp only [Act.put, List.getElem_toArray, List.getElem_cons_succ, List.getElem_cons_zero, List.setIfInBounds_toArray, List.set_cons_zero, List.set_cons_succ]
    refine wpAnyH_take (i := 13) (v := ?_) rfl (by kernel_rfl) (by kernel_rfl) (by kernel_rfl) (fun _ _ _ h => h) (Or.inl ⟨by rfl, ?_⟩) (by assumption) ?_
    rotate_left
    ·(intro w' hS; (try dsimp only at hS); go_simp; try with_reducible rfl)
    try simp only [Act.put, List.getElem_toArray, List.getElem_cons_succ, List.getElem_cons_zero, List.setIfInBounds_toArray, List.set_cons_zero, List.set_cons_succ]
    refine wpAnyH_take (i := 14) (v := ?_) rfl (by kernel_rfl) (by kernel_rfl) (by kernel_rfl) (fun _ _ _ h => h) (Or.inl ⟨by rfl, ?_⟩) (by assumption) ?_
    rotate_left
    ·(intro w' hS; (try dsimp only at hS); go_simp; try with_reducible rfl)
    try simp only [Act.put, List.getElem_toArray, List.getElem_cons_succ, List.getElem_cons_zero, List.setIfInBounds_toArray, List.set_cons_zero, List.set_cons_succ]
    refine wpAnyH_take (i := 15) (v := ?_) rfl (by kernel_rfl) (by kernel_rfl) (by kernel_rfl) (fun _ _ _ h => h) (Or.inl ⟨by rfl, ?_⟩) (by assumption) ?_
    rotate_left
    ·(intro w' hS; (try dsimp only at hS); go_simp; try with_reducible rfl)
    try simp only [Act.put, List.getElem_toArray, List.getElem_cons_succ, List.getElem_cons_zero, List.setIfInBounds_toArray, List.set_cons_zero, List.set_cons_succ]
    refine wpAnyH_take (i := 16) (v := ?_) rfl (by kernel_rfl) (by kernel_rfl) (by kernel_rfl) (fun _ _ _ h => h) (Or.inl ⟨by rfl, ?_⟩) (by assumption) ?_
    rotate_left
    ·(intro w' hS; (try dsimp only at hS); go_simp; try with_reducible rfl)
    try simp only [Act.put, List.getElem_toArray, List.getElem_cons_succ, List.getElem_cons_zero, List.setIfInBounds_toArray, List.set_cons_zero, List.set_cons_succ]
    refine wpAnyH_take (i := 18) (v := ?_) rfl (by kernel_rfl) (by kernel_rfl) (by kernel_rfl) (fun _ _ _ h => h) (Or.inl ⟨by rfl, ?_⟩) (by assumption) ?_
    rotate_left
    ·(intro w' hS; (try dsimp only at hS); go_simp; try with_reducible rfl)
    try simp only [Act.put, List.getElem_toArray, List.getElem_cons_succ, List.getElem_cons_zero, List.setIfInBounds_toArray, List.set_cons_zero, List.set_cons_succ]
    refine wpAnyH_take (i := 19) (v := ?_) rfl (by kernel_rfl) (by kernel_rfl) (by kernel_rfl) (fun _ _ _ h => h) (Or.inl ⟨by rfl, ?_⟩) (by assumption) ?_
    rotate_left
    ·(intro w' hS; (try dsimp only at hS); go_simp; try with_reducible rfl)
    try simp only [Act.put, List.getElem_toArray, List.getElem_cons_succ, List.getElem_cons_zero, List.setIfInBounds_toArray, List.set_cons_zero, List.set_cons_succ]
    refine wpAnyH_take (i := 22) (v := ?_) rfl (by kernel_rfl) (by kernel_rfl) (by kernel_rfl) (fun _ _ _ h => h) (Or.inl ⟨by rfl, ?_⟩) (by assumption) ?_
    rotate_left
    ·(intro w' hS; (try dsimp only at hS); go_simp; try with_reducible rfl)
    try simp only [Act.put, List.getElem_toArray, List.getElem_cons_succ, List.getElem_cons_zero, List.setIfInBounds_toArray, List.set_cons_zero, List.set_cons_succ]
    refine wpAnyH_take (i := 23) (v := ?_) rfl (by kernel_rfl) (by kernel_rfl) (by kernel_rfl) (fun _ _ _ h => h) (Or.inl ⟨by rfl, ?_⟩) (by assumption) ?_
    rotate_left
    ·(intro w' hS; (try dsimp only at hS); go_simp; try with_reducible rfl)
    try simp only [Act.put, List.getElem_toArray, List.getElem_cons_succ, List.getElem_cons_zero, List.setIfInBounds_toArray, List.set_cons_zero, List.set_cons_succ]
    refine wpAnyH_ready (rs := [17]) (by kernel_rfl) (by simp) ?_
    refine AllReadyH.cons rfl (fun K hK => ?_) AllReadyH.nil
    go_simp
    refine (HNb.out _ HKa.out).mono ?_
    rintro e wx ⟨l, A5, c5, rfl, hown5, hnb, hbx⟩
    have HKb := Lib.hid (HKa.out.on hbx)
    have HR5 := Lib.hid (rdN_own hown5)
    obtain ⟨hl5, hjs⟩ := HJ.out l hnb
    rw [hy] at hjs
    obtain ⟨ln, hln⟩ : ∃ ln, l.length = ln := ⟨_, rfl⟩
    have HHs := Lib.hid (fun W (hr : RdN W W.heap.size A5 l) => lHas W A5 ln c5 W.heap.size l j hln (by omega) hr)
    rw [hjs] at HHs
    rw [hln]
    clear hown5 hnb hbx HKa HNb hHeld hjs hl5 hln
    go_wp2_with fail
    refine hK.out _ _ (HKb.out.box.c0) (fun hHeld => ?_)
    clear hK K
    try simp only [Act.put, List.getElem_toArray, List.getElem_cons_succ, List.getElem_cons_zero, List.setIfInBounds_toArray, List.set_cons_zero, List.set_cons_succ]
    refine wpAnyH_ready (rs := [20]) (by kernel_rfl) (by simp) ?_
    refine AllReadyH.cons rfl (fun K hK => ?_) AllReadyH.nil
    go_simp
    refine (HIx.out _ HKb.out).mono ?_
    rintro e wx ⟨rfl, hbx⟩
    have HKc := Lib.hid (HKb.out.on hbx)
    have HR6 := Lib.hid ((HR5.out.below hbx (Nat.le_refl _)).mono hbx.size)
    clear hbx HKb HIx hHeld HR5
    go_wp2_with fail
    refine hK.out _ _ (HKc.out.box.c0) (fun hHeld => ?_)
    clear hK K
    try simp only [Act.put, List.getElem_toArray, List.getElem_cons_succ, List.getElem_cons_zero, List.setIfInBounds_toArray, List.set_cons_zero, List.set_cons_succ]
    refine wpAnyH_ready (rs := [21]) (by kernel_rfl) (by simp) ?_
    refine AllReadyH.cons rfl (fun K hK => ?_) AllReadyH.nil
    go_simp
    refine (HHs.out _ HR6.out).mono ?_
    rintro e wx ⟨rfl, rfl⟩
    clear HHs HR6 hHeld
    go_wp2_with fail
    refine hK.out _ _ (HKc.out.box.c0) (fun hHeld => ?_)
    clear hK K
    try simp only [Act.put, List.getElem_toArray, List.getElem_cons_succ, List.getElem_cons_zero, List.setIfInBounds_toArray, List.set_cons_zero, List.set_cons_succ]
    refine wpAnyH_take (i := 24) (v := ?_) rfl (by kernel_rfl) (by kernel_rfl) (by kernel_rfl) (fun _ _ _ h => h) (Or.inl ⟨by rfl, ?_⟩) (by assumption) ?_
    rotate_left
    ·(intro w' hS; (try dsimp only at hS); go_simp; try with_reducible rfl)
    try simp only [Act.put, List.getElem_toArray, List.getElem_cons_succ, List.getElem_cons_zero, List.setIfInBounds_toArray, List.set_cons_zero, List.set_cons_succ]
    refine wpAnyH_take (i := 25) (v := ?_) rfl (by kernel_rfl) (by kernel_rfl) (by kernel_rfl) (fun _ _ _ h => h) (Or.inl ⟨by rfl, ?_⟩) (by assumption) ?_
    rotate_left
    ·(intro w' hS; (try dsimp only at hS); go_simp; try with_reducible rfl)
    try simp only [Act.put, List.getElem_toArray, List.getElem_cons_succ, List.getElem_cons_zero, List.setIfInBounds_toArray, List.set_cons_zero, List.set_cons_succ]
    refine wpAnyH_take (i := 26) (v := ?_) rfl (by kernel_rfl) (by kernel_rfl) (by kernel_rfl) (fun _ _ _ h => h) (Or.inl ⟨by rfl, ?_⟩) (by assumption) ?_
    rotate_left
    ·(intro w' hS; (try dsimp only at hS); go_simp; try with_reducible rfl)
    try simp only [Act.put, List.getElem_toArray, List.getElem_cons_succ, List.getElem_cons_zero, List.setIfInBounds_toArray, List.set_cons_zero, List.set_cons_succ]
    refine wpAnyH_done (by kernel_rfl) ?_ _
    refine NoPanic.normal ?_
    clear hHeld
    have hbel := HKc.out.bel
    go_wp2
    go_ret
    exact ⟨rfl, hbel⟩
   | false =>
    by_cases hp : p = 1
    ·have hpe : ((p : Int) == (1 : Int)) = true := by simp; omega
     have hpn : ((p : Int) != (1 : Int)) = false := by simp; omega
     clear hp
     go_upto_region 13 with fail
     refine wp_region_noPanic ?_
     refine wp_region_held_drew (S := (fun w' => w'.cell? ⟨pr, 0, none⟩ = some (.slice Ar n cr))) (by kernel_rfl) (HK9.out.drew.box.c0) (fun hHeld => ?_)
     refine wpAnyH_take (i := 0) (v := ?_) rfl (by kernel_rfl) (by kernel_rfl) (by kernel_rfl) (fun _ _ _ h => h) (Or.inl ⟨by rfl, ?_⟩) (by assumption) ?_
     rotate_left
     ·(intro w' hS; (try dsimp only at hS); go_simp; try with_reducible rfl)
     try simp only [Act.put, List.getElem_toArray, List.getElem_cons_succ, List.getElem_cons_zero, List.setIfInBounds_toArray, List.set_cons_zero, List.set_cons_succ]
     refine wpAnyH_ready (rs := [1]) (by kernel_rfl) (by simp) ?_
     refine AllReadyH.cons rfl (fun K hK => ?_) AllReadyH.nil
     go_simp
     refine (HSi.out _ HK9.out.drew).mono ?_
     rintro e wx ⟨rfl, hbx⟩
     have HKa := Lib.hid (HK9.out.drew.on hbx)
     clear hbx HK9 HSi hHeld
     go_wp2_with fail
     refine hK.out _ _ (HKa.out.box.c0) (fun hHeld => ?_)
     clear hK K
     try simp only [Act.put, List.getElem_toArray, List.getElem_cons_succ, List.getElem_cons_zero, List.setIfInBounds_toArray, List.set_cons_zero, List.set_cons_succ]
     refine wpAnyH_take (i := 2) (v := ?_) rfl (by kernel_rfl) (by kernel_rfl) (by kernel_rfl) (fun _ _ _ h => h) (Or.inl ⟨by rfl, ?_⟩) (by assumption) ?_
     rotate_left
     ·(intro w' hS; (try dsimp only at hS); go_simp; try with_reducible rfl)
     try simp only [Act.put, List.getElem_toArray, List.getElem_cons_succ, List.getElem_cons_zero, List.setIfInBounds_toArray, List.set_cons_zero, List.set_cons_succ]
     refine wpAnyH_take (i := 3) (v := ?_) rfl (by kernel_rfl) (by kernel_rfl) (by kernel_rfl) (fun _ _ _ h => h) (Or.inl ⟨by rfl, ?_⟩) (by assumption) ?_
     rotate_left
     ·(intro w' hS; (try dsimp only at hS); go_simp; try with_reducible rfl)
     try simp only [Act.put, List.getElem_toArray, List.getElem_cons_succ, List.getElem_cons_zero, List.setIfInBounds_toArray, List.set_cons_zero, List.set_cons_succ]
     refine wpAnyH_take (i := 4) (v := undef) rfl (by kernel_rfl) (by kernel_rfl) (by kernel_rfl) (fun _ _ _ h => h) (Or.inr ⟨by rfl, rfl⟩) (by assumption) ?_
     try simp only [Act.put, List.getElem_toArray, List.getElem_cons_succ, List.getElem_cons_zero, List.setIfInBounds_toArray, List.set_cons_zero, List.set_cons_succ]
     refine wpAnyH_take (i := 5) (v := undef) rfl (by kernel_rfl) (by kernel_rfl) (by kernel_rfl) (fun _ _ _ h => h) (Or.inr ⟨by rfl, rfl⟩) (by assumption) ?_
     try simp only [Act.put, List.getElem_toArray, List.getElem_cons_succ, List.getElem_cons_zero, List.setIfInBounds_toArray, List.set_cons_zero, List.set_cons_succ]
     refine wpAnyH_take (i := 6) (v := ?_) rfl (by kernel_rfl) (by kernel_rfl) (by kernel_rfl) (fun _ _ _ h => h) (Or.inl ⟨by rfl, ?_⟩) (by assumption) ?_
     rotate_left
     ·(intro w' hS; (try dsimp only at hS); go_simp; try with_reducible rfl)
     try simp only [Act.put, List.getElem_toArray, List.getElem_cons_succ, List.getElem_cons_zero, List.setIfInBounds_toArray, List.set_cons_zero, List.set_cons_succ]
     refine wpAnyH_take (i := 7) (v := ?_) rfl (by kernel_rfl) (by kernel_rfl) (by kernel_rfl) (fun _ _ _ h => h) (Or.inl ⟨by rfl, ?_⟩) (by assumption) ?_
     rotate_left
     ·(intro w' hS; (try dsimp only at hS); go_simp; try with_reducible rfl)
     try simp only [Act.put, List.getElem_toArray, List.getElem_cons_succ, List.getElem_cons_zero, List.setIfInBounds_toArray, List.set_cons_zero, List.set_cons_succ]
     refine wpAnyH_take (i := 8) (v := ?_) rfl (by kernel_rfl) (by kernel_rfl) (by kernel_rfl) (fun _ _ _ h => h) (Or.inl ⟨by rfl, ?_⟩) (by assumption) ?_
     rotate_left
     ·(intro w' hS; (try dsimp only at hS); go_simp; try with_reducible rfl)
     try simp only [Act.put, List.getElem_toArray, List.getElem_cons_succ, List.getElem_cons_zero, List.setIfInBounds_toArray, List.set_cons_zero, List.set_cons_succ]
     refine wpAnyH_take (i := 9) (v := ?_) rfl (by kernel_rfl) (by kernel_rfl) (by kernel_rfl) (fun _ _ _ h => h) (Or.inl ⟨by rfl, ?_⟩) (by assumption) ?_
     rotate_left
     ·(intro w' hS; (try dsimp only at hS); go_simp; try with_reducible rfl)
     try simp only [Act.put, List.getElem_toArray, List.getElem_cons_succ, List.getElem_cons_zero, List.setIfInBounds_toArray, List.set_cons_zero, List.set_cons_succ]
     refine wpAnyH_take (i := 10) (v := ?_) rfl (by kernel_rfl) (by kernel_rfl) (by kernel_rfl) (fun _ _ _ h => h) (Or.inl ⟨by rfl, ?_⟩) (by assumption) ?_
     rotate_left
     ·(intro w' hS; (try dsimp only at hS); go_simp; try with_reducible rfl)
     try simp only [Act.put, List.getElem_toArray, List.getElem_cons_succ, List.getElem_cons_zero, List.setIfInBounds_toArray, List.set_cons_zero, List.set_cons_succ]
     refine wpAnyH_take (i := 11) (v := ?_) rfl (by kernel_rfl) (by kernel_rfl) (by kernel_rfl) (fun _ _ _ h => h) (Or.inl ⟨by rfl, ?_⟩) (by assumption) ?_
     rotate_left
     ·(intro w' hS; (try dsimp only at hS); go_simp; try with_reducible rfl)
     try simp only [Act.put, List.getElem_toArray, List.getElem_cons_succ, List.getElem_cons_zero, List.setIfInBounds_toArray, List.set_cons_zero, List.set_cons_succ]
     refine wpAnyH_take (i := 12) (v := ?_) rfl (by kernel_rfl) (by kernel_rfl) (by kernel_rfl) (fun _ _ _ h => h) (Or.inl ⟨by rfl, ?_⟩) (by assumption) ?_
     rotate_left
     ·(intro w' hS; (try dsimp only at hS); go_simp; try with_reducible rfl)
     try simp only [Act.put, List.getElem_toArray, List.getElem_cons_succ, List.getElem_cons_zero, List.setIfInBounds_toArray, List.set_cons_zero, List.set_cons_succ]
     refine wpAnyH_take (i := 13) (v := ?_) rfl (by kernel_rfl) (by kernel_rfl) (by kernel_rfl) (fun _ _ _ h => h) (Or.inl ⟨by rfl, ?_⟩) (by assumption) ?_
     rotate_left
     ·(intro w' hS; (try dsimp only at hS); go_simp; try with_reducible rfl)
     try simp only [Act.put, List.getElem_toArray, List.getElem_cons_succ, List.getElem_cons_zero, List.setIfInBounds_toArray, List.set_cons_zero, List.set_cons_succ]
     refine wpAnyH_take (i := 14) (v := ?_) rfl (by kernel_rfl) (by kernel_rfl) (by kernel_rfl) (fun _ _ _ h => h) (Or.inl ⟨by rfl, ?_⟩) (by assumption) ?_
     rotate_left
     ·(intro w' hS; (try dsimp only at hS); go_simp; try with_reducible rfl)
     try simp only [Act.put, List.getElem_toArray, List.getElem_cons_succ, List.getElem_cons_zero, List.setIfInBounds_toArray, List.set_cons_zero, List.set_cons_succ]
     refine wpAnyH_take (i := 15) (v := ?_) rfl (by kernel_rfl) (by kernel_rfl) (by kernel_rfl) (fun _ _ _ h => h) (Or.inl ⟨by rfl, ?_⟩) (by assumption) ?_
     rotate_left
     ·(intro w' hS; (try dsimp only at hS); go_simp; try with_reducible rfl)
     try simp only [Act.put, List.getElem_toArray, List.getElem_cons_succ, List.getElem_cons_zero, List.setIfInBounds_toArray, List.set_cons_zero, List.set_cons_succ]
     refine wpAnyH_take (i := 16) (v := ?_) rfl (by kernel_rfl) (by kernel_rfl) (by kernel_rfl) (fun _ _ _ h => h) (Or.inl ⟨by rfl, ?_⟩) (by assumption) ?_
     rotate_left
     ·(intro w' hS; (try dsimp only at hS); go_simp; try with_reducible rfl)
     try simp only [Act.put, List.getElem_toArray, List.getElem_cons_succ, List.getElem_cons_zero, List.setIfInBounds_toArray, List.set_cons_zero, List.set_cons_succ]
     refine wpAnyH_take (i := 18) (v := ?_) rfl (by kernel_rfl) (by kernel_rfl) (by kernel_rfl) (fun _ _ _ h => h) (Or.inl ⟨by rfl, ?_⟩) (by assumption) ?_
     rotate_left
     ·(intro w' hS; (try dsimp only at hS); go_simp; try with_reducible rfl)
     try simp only [Act.put, List.getElem_toArray, List.getElem_cons_succ, List.getElem_cons_zero, List.setIfInBounds_toArray, List.set_cons_zero, List.set_cons_succ]
     refine wpAnyH_take (i := 19) (v := ?_) rfl (by kernel_rfl) (by kernel_rfl) (by kernel_rfl) (fun _ _ _ h => h) (Or.inl ⟨by rfl, ?_⟩) (by assumption) ?_
     rotate_left
     ·(intro w' hS; (try dsimp only at hS); go_simp; try with_reducible rfl)
     try simp only [Act.put, List.getElem_toArray, List.getElem_cons_succ, List.getElem_cons_zero, List.setIfInBounds_toArray, List.set_cons_zero, List.set_cons_succ]
     refine wpAnyH_take (i := 22) (v := ?_) rfl (by kernel_rfl) (by kernel_rfl) (by kernel_rfl) (fun _ _ _ h => h) (Or.inl ⟨by rfl, ?_⟩) (by assumption) ?_
     rotate_left
     ·(intro w' hS; (try dsimp only at hS); go_simp; try with_reducible rfl)
     try simp only [Act.put, List.getElem_toArray, List.getElem_cons_succ, List.getElem_cons_zero, List.setIfInBounds_toArray, List.set_cons_zero, List.set_cons_succ]
     refine wpAnyH_take (i := 23) (v := ?_) rfl (by kernel_rfl) (by kernel_rfl) (by kernel_rfl) (fun _ _ _ h => h) (Or.inl ⟨by rfl, ?_⟩) (by assumption) ?_
     rotate_left
     ·(intro w' hS; (try dsimp only at hS); go_simp; try with_reducible rfl)
     try simp only [Act.put, List.getElem_toArray, List.getElem_cons_succ, List.getElem_cons_zero, List.setIfInBounds_toArray, List.set_cons_zero, List.set_cons_succ]
     refine wpAnyH_ready (rs := [17]) (by kernel_rfl) (by simp) ?_
     refine AllReadyH.cons rfl (fun K hK => ?_) AllReadyH.nil
     go_simp
     refine (HNb.out _ HKa.out).mono ?_
     rintro e wx ⟨l, A5, c5, rfl, hown5, hnb, hbx⟩
     have HKb := Lib.hid (HKa.out.on hbx)
     have HR5 := Lib.hid (rdN_own hown5)
     obtain ⟨hl5, hjs⟩ := HJ.out l hnb
     rw [hy] at hjs
     obtain ⟨ln, hln⟩ : ∃ ln, l.length = ln := ⟨_, rfl⟩
     have HHs := Lib.hid (fun W (hr : RdN W W.heap.size A5 l) => lHas W A5 ln c5 W.heap.size l j hln (by omega) hr)
     rw [hjs] at HHs
     rw [hln]
     clear hown5 hnb hbx HKa HNb hHeld hjs hl5 hln
     go_wp2_with fail
     refine hK.out _ _ (HKb.out.box.c0) (fun hHeld => ?_)
     clear hK K
     try simp only [Act.put, List.getElem_toArray, List.getElem_cons_succ, List.getElem_cons_zero, List.setIfInBounds_toArray, List.set_cons_zero, List.set_cons_succ]
     refine wpAnyH_ready (rs := [20]) (by kernel_rfl) (by simp) ?_
     refine AllReadyH.cons rfl (fun K hK => ?_) AllReadyH.nil
     go_simp
     refine (HIx.out _ HKb.out).mono ?_
     rintro e wx ⟨rfl, hbx⟩
     have HKc := Lib.hid (HKb.out.on hbx)
     have HR6 := Lib.hid ((HR5.out.below hbx (Nat.le_refl _)).mono hbx.size)
     clear hbx HKb HIx hHeld HR5
     go_wp2_with fail
     refine hK.out _ _ (HKc.out.box.c0) (fun hHeld => ?_)
     clear hK K
     try simp only [Act.put, List.getElem_toArray, List.getElem_cons_succ, List.getElem_cons_zero, List.setIfInBounds_toArray, List.set_cons_zero, List.set_cons_succ]
     refine wpAnyH_ready (rs := [21]) (by kernel_rfl) (by simp) ?_
     refine AllReadyH.cons rfl (fun K hK => ?_) AllReadyH.nil
     go_simp
     refine (HHs.out _ HR6.out).mono ?_
     rintro e wx ⟨rfl, rfl⟩
     clear HHs HR6 hHeld
     go_wp2_with fail
     refine hK.out _ _ (HKc.out.box.c0) (fun hHeld => ?_)
     clear hK K
     try simp only [Act.put, List.getElem_toArray, List.getElem_cons_succ, List.getElem_cons_zero, List.setIfInBounds_toArray, List.set_cons_zero, List.set_cons_succ]
     refine wpAnyH_take (i := 24) (v := ?_) rfl (by kernel_rfl) (by kernel_rfl) (by kernel_rfl) (fun _ _ _ h => h) (Or.inl ⟨by rfl, ?_⟩) (by assumption) ?_
     rotate_left
     ·(intro w' hS; (try dsimp only at hS); go_simp; try with_reducible rfl)
     try simp only [Act.put, List.getElem_toArray, List.getElem_cons_succ, List.getElem_cons_zero, List.setIfInBounds_toArray, List.set_cons_zero, List.set_cons_succ]
     refine wpAnyH_take (i := 25) (v := ?_) rfl (by kernel_rfl) (by kernel_rfl) (by kernel_rfl) (fun _ _ _ h => h) (Or.inl ⟨by rfl, ?_⟩) (by assumption) ?_
     rotate_left
     ·(intro w' hS; (try dsimp only at hS); go_simp; try with_reducible rfl)
     try simp only [Act.put, List.getElem_toArray, List.getElem_cons_succ, List.getElem_cons_zero, List.setIfInBounds_toArray, List.set_cons_zero, List.set_cons_succ]
     refine wpAnyH_take (i := 26) (v := ?_) rfl (by kernel_rfl) (by kernel_rfl) (by kernel_rfl) (fun _ _ _ h => h) (Or.inl ⟨by rfl, ?_⟩) (by assumption) ?_
     rotate_left
     ·(intro w' hS; (try dsimp only at hS); go_simp; try with_reducible rfl)
     try simp only [Act.put, List.getElem_toArray, List.getElem_cons_succ, List.getElem_cons_zero, List.setIfInBounds_toArray, List.set_cons_zero, List.set_cons_succ]
     refine wpAnyH_done (by kernel_rfl) ?_ _
     refine NoPanic.normal ?_
     clear hHeld
     have hbel := HKc.out.bel
     go_wp2
     go_ret
     exact ⟨rfl, hbel⟩
    ·have hpe : ((p : Int) == (1 : Int)) = false := by simp; omega
     have hpn : ((p : Int) != (1 : Int)) = true := by simp; omega
     clear hp
     go_upto_region 13 with fail
     refine wp_region_noPanic ?_
     refine wp_region_held_drew (S := (fun w' => w'.cell? ⟨pr, 0, none⟩ = some (.slice Ar n cr))) (by kernel_rfl) (HK9.out.drew.box.c0) (fun hHeld => ?_)
     refine wpAnyH_take (i := 0) (v := ?_) rfl (by kernel_rfl) (by kernel_rfl) (by kernel_rfl) (fun _ _ _ h => h) (Or.inl ⟨by rfl, ?_⟩) (by assumption) ?_
     rotate_left
     ·(intro w' hS; (try dsimp only at hS); go_simp; try with_reducible rfl)
     try simp only [Act.put, List.getElem_toArray, List.getElem_cons_succ, List.getElem_cons_zero, List.setIfInBounds_toArray, List.set_cons_zero, List.set_cons_succ]
     refine wpAnyH_ready (rs := [1]) (by kernel_rfl) (by simp) ?_
     refine AllReadyH.cons rfl (fun K hK => ?_) AllReadyH.nil
     go_simp
     refine (HSi.out _ HK9.out.drew).mono ?_
     rintro e wx ⟨rfl, hbx⟩
     have HKa := Lib.hid (HK9.out.drew.on hbx)
     clear hbx HK9 HSi hHeld
     go_wp2_with fail
     refine hK.out _ _ (HKa.out.box.c0) (fun hHeld => ?_)
     clear hK K
     try simp only [Act.put, List.getElem_toArray, List.getElem_cons_succ, List.getElem_cons_zero, List.setIfInBounds_toArray, List.set_cons_zero, List.set_cons_succ]
     refine wpAnyH_take (i := 2) (v := ?_) rfl (by kernel_rfl) (by kernel_rfl) (by kernel_rfl) (fun _ _ _ h => h) (Or.inl ⟨by rfl, ?_⟩) (by assumption) ?_
     rotate_left
     ·(intro w' hS; (try dsimp only at hS); go_simp; try with_reducible rfl)
     try simp only [Act.put, List.getElem_toArray, List.getElem_cons_succ, List.getElem_cons_zero, List.setIfInBounds_toArray, List.set_cons_zero, List.set_cons_succ]
     refine wpAnyH_take (i := 3) (v := ?_) rfl (by kernel_rfl) (by kernel_rfl) (by kernel_rfl) (fun _ _ _ h => h) (Or.inl ⟨by rfl, ?_⟩) (by assumption) ?_
     rotate_left
     ·(intro w' hS; (try dsimp only at hS); go_simp; try with_reducible rfl)
     try simp only [Act.put, List.getElem_toArray, List.getElem_cons_succ, List.getElem_cons_zero, List.setIfInBounds_toArray, List.set_cons_zero, List.set_cons_succ]
     refine wpAnyH_take (i := 4) (v := undef) rfl (by kernel_rfl) (by kernel_rfl) (by kernel_rfl) (fun _ _ _ h => h) (Or.inr ⟨by rfl, rfl⟩) (by assumption) ?_
     try simp only [Act.put, List.getElem_toArray, List.getElem_cons_succ, List.getElem_cons_zero, List.setIfInBounds_toArray, List.set_cons_zero, List.set_cons_succ]
     refine wpAnyH_take (i := 5) (v := undef) rfl (by kernel_rfl) (by kernel_rfl) (by kernel_rfl) (fun _ _ _ h => h) (Or.inr ⟨by rfl, rfl⟩) (by assumption) ?_
     try simp only [Act.put, List.getElem_toArray, List.getElem_cons_succ, List.getElem_cons_zero, List.setIfInBounds_toArray, List.set_cons_zero, List.set_cons_succ]
     refine wpAnyH_take (i := 6) (v := ?_) rfl (by kernel_rfl) (by kernel_rfl) (by kernel_rfl) (fun _ _ _ h => h) (Or.inl ⟨by rfl, ?_⟩) (by assumption) ?_
     rotate_left
     ·(intro w' hS; (try dsimp only at hS); go_simp; try with_reducible rfl)
     try simp only [Act.put, List.getElem_toArray, List.getElem_cons_succ, List.getElem_cons_zero, List.setIfInBounds_toArray, List.set_cons_zero, List.set_cons_succ]
     refine wpAnyH_take (i := 7) (v := ?_) rfl (by kernel_rfl) (by kernel_rfl) (by kernel_rfl) (fun _ _ _ h => h) (Or.inl ⟨by rfl, ?_⟩) (by assumption) ?_
     rotate_left
     ·(intro w' hS; (try dsimp only at hS); go_simp; try with_reducible rfl)
     try simp only [Act.put, List.getElem_toArray, List.getElem_cons_succ, List.getElem_cons_zero, List.setIfInBounds_toArray, List.set_cons_zero, List.set_cons_succ]
     refine wpAnyH_take (i := 8) (v := ?_) rfl (by kernel_rfl) (by kernel_rfl) (by kernel_rfl) (fun _ _ _ h => h) (Or.inl ⟨by rfl, ?_⟩) (by assumption) ?_
     rotate_left
     ·(intro w' hS; (try dsimp only at hS); go_simp; try with_reducible rfl)
     try simp only [Act.put, List.getElem_toArray, List.getElem_cons_succ, List.getElem_cons_zero, List.setIfInBounds_toArray, List.set_cons_zero, List.set_cons_succ]
     refine wpAnyH_take (i := 9) (v := ?_) rfl (by kernel_rfl) (by kernel_rfl) (by kernel_rfl) (fun _ _ _ h => h) (Or.inl ⟨by rfl, ?_⟩) (by assumption) ?_
     rotate_left
     ·(intro w' hS; (try dsimp only at hS); go_simp; try with_reducible rfl)
     try simp only [Act.put, List.getElem_toArray, List.getElem_cons_succ, List.getElem_cons_zero, List.setIfInBounds_toArray, List.set_cons_zero, List.set_cons_succ]
     refine wpAnyH_take (i := 10) (v := ?_) rfl (by kernel_rfl) (by kernel_rfl) (by kernel_rfl) (fun _ _ _ h => h) (Or.inl ⟨by rfl, ?_⟩) (by assumption) ?_
     rotate_left
     ·(intro w' hS; (try dsimp only at hS); go_simp; try with_reducible rfl)
     try simp only [Act.put, List.getElem_toArray, List.getElem_cons_succ, List.getElem_cons_zero, List.setIfInBounds_toArray, List.set_cons_zero, List.set_cons_succ]
     refine wpAnyH_take (i := 11) (v := undef) rfl (by kernel_rfl) (by kernel_rfl) (by kernel_rfl) (fun _ _ _ h => h) (Or.inr ⟨by rfl, rfl⟩) (by assumption) ?_
     try simp only [Act.put, List.getElem_toArray, List.getElem_cons_succ, List.getElem_cons_zero, List.setIfInBounds_toArray, List.set_cons_zero, List.set_cons_succ]
     refine wpAnyH_take (i := 12) (v := ?_) rfl (by kernel_rfl) (by kernel_rfl) (by kernel_rfl) (fun _ _ _ h => h) (Or.inl ⟨by rfl, ?_⟩) (by assumption) ?_
     rotate_left
     ·(intro w' hS; (try dsimp only at hS); go_simp; try with_reducible rfl)
     try simp only [Act.put, List.getElem_toArray, List.getElem_cons_succ, List.getElem_cons_zero, List.setIfInBounds_toArray, List.set_cons_zero, List.set_cons_succ]
     refine wpAnyH_take (i := 13) (v := ?_) rfl (by kernel_rfl) (by kernel_rfl) (by kernel_rfl) (fun _ _ _ h => h) (Or.inl ⟨by rfl, ?_⟩) (by assumption) ?_
     rotate_left
     ·(intro w' hS; (try dsimp only at hS); go_simp; try with_reducible rfl)
     try simp only [Act.put, List.getElem_toArray, List.getElem_cons_succ, List.getElem_cons_zero, List.setIfInBounds_toArray, List.set_cons_zero, List.set_cons_succ]
     refine wpAnyH_take (i := 14) (v := ?_) rfl (by kernel_rfl) (by kernel_rfl) (by kernel_rfl) (fun _ _ _ h => h) (Or.inl ⟨by rfl, ?_⟩) (by assumption) ?_
     rotate_left
     ·(intro w' hS; (try dsimp only at hS); go_simp; try with_reducible rfl)
     try simp only [Act.put, List.getElem_toArray, List.getElem_cons_succ, List.getElem_cons_zero, List.setIfInBounds_toArray, List.set_cons_zero, List.set_cons_succ]
     refine wpAnyH_take (i := 15) (v := ?_) rfl (by kernel_rfl) (by kernel_rfl) (by kernel_rfl) (fun _ _ _ h => h) (Or.inl ⟨by rfl, ?_⟩) (by assumption) ?_
     rotate_left
     ·(intro w' hS; (try dsimp only at hS); go_simp; try with_reducible rfl)
     try simp only [Act.put, List.getElem_toArray, List.getElem_cons_succ, List.getElem_cons_zero, List.setIfInBounds_toArray, List.set_cons_zero, List.set_cons_succ]
     refine wpAnyH_take (i := 16) (v := ?_) rfl (by kernel_rfl) (by kernel_rfl) (by kernel_rfl) (fun _ _ _ h => h) (Or.inl ⟨by rfl, ?_⟩) (by assumption) ?_
     rotate_left
     ·(intro w' hS; (try dsimp only at hS); go_simp; try with_reducible rfl)
     try simp only [Act.put, List.getElem_toArray, List.getElem_cons_succ, List.getElem_cons_zero, List.setIfInBounds_toArray, List.set_cons_zero, List.set_cons_succ]
     refine wpAnyH_take (i := 18) (v := ?_) rfl (by kernel_rfl) (by kernel_rfl) (by kernel_rfl) (fun _ _ _ h => h) (Or.inl ⟨by rfl, ?_⟩) (by assumption) ?_
     rotate_left
     ·(intro w' hS; (try dsimp only at hS); go_simp; try with_reducible rfl)
     try simp only [Act.put, List.getElem_toArray, List.getElem_cons_succ, List.getElem_cons_zero, List.setIfInBounds_toArray, List.set_cons_zero, List.set_cons_succ]
     refine wpAnyH_take (i := 19) (v := ?_) rfl (by kernel_rfl) (by kernel_rfl) (by kernel_rfl) (fun _ _ _ h => h) (Or.inl ⟨by rfl, ?_⟩) (by assumption) ?_
     rotate_left
     ·(intro w' hS; (try dsimp only at hS); go_simp; try with_reducible rfl)
     try simp only [Act.put, List.getElem_toArray, List.getElem_cons_succ, List.getElem_cons_zero, List.setIfInBounds_toArray, List.set_cons_zero, List.set_cons_succ]
     refine wpAnyH_take (i := 22) (v := ?_) rfl (by kernel_rfl) (by kernel_rfl) (by kernel_rfl) (fun _ _ _ h => h) (Or.inl ⟨by rfl, ?_⟩) (by assumption) ?_
     rotate_left
     ·(intro w' hS; (try dsimp only at hS); go_simp; try with_reducible rfl)
     try simp only [Act.put, List.getElem_toArray, List.getElem_cons_succ, List.getElem_cons_zero, List.setIfInBounds_toArray, List.set_cons_zero, List.set_cons_succ]
     refine wpAnyH_take (i := 23) (v := ?_) rfl (by kernel_rfl) (by kernel_rfl) (by kernel_rfl) (fun _ _ _ h => h) (Or.inl ⟨by rfl, ?_⟩) (by assumption) ?_
     rotate_left
     ·(intro w' hS; (try dsimp only at hS); go_simp; try with_reducible rfl)
     try simp only [Act.put, List.getElem_toArray, List.getElem_cons_succ, List.getElem_cons_zero, List.setIfInBounds_toArray, List.set_cons_zero, List.set_cons_succ]
     refine wpAnyH_ready (rs := [17]) (by kernel_rfl) (by simp) ?_
     refine AllReadyH.cons rfl (fun K hK => ?_) AllReadyH.nil
     go_simp
     refine (HNb.out _ HKa.out).mono ?_
     rintro e wx ⟨l, A5, c5, rfl, hown5, hnb, hbx⟩
     have HKb := Lib.hid (HKa.out.on hbx)
     have HR5 := Lib.hid (rdN_own hown5)
     obtain ⟨hl5, hjs⟩ := HJ.out l hnb
     rw [hy] at hjs
     obtain ⟨ln, hln⟩ : ∃ ln, l.length = ln := ⟨_, rfl⟩
     have HHs := Lib.hid (fun W (hr : RdN W W.heap.size A5 l) => lHas W A5 ln c5 W.heap.size l j hln (by omega) hr)
     rw [hjs] at HHs
     rw [hln]
     clear hown5 hnb hbx HKa HNb hHeld hjs hl5 hln
     go_wp2_with fail
     refine hK.out _ _ (HKb.out.box.c0) (fun hHeld => ?_)
     clear hK K
     try simp only [Act.put, List.getElem_toArray, List.getElem_cons_succ, List.getElem_cons_zero, List.setIfInBounds_toArray, List.set_cons_zero, List.set_cons_succ]
     refine wpAnyH_ready (rs := [20]) (by kernel_rfl) (by simp) ?_
     refine AllReadyH.cons rfl (fun K hK => ?_) AllReadyH.nil
     go_simp
     refine (HIx.out _ HKb.out).mono ?_
     rintro e wx ⟨rfl, hbx⟩
     have HKc := Lib.hid (HKb.out.on hbx)
     have HR6 := Lib.hid ((HR5.out.below hbx (Nat.le_refl _)).mono hbx.size)
     clear hbx HKb HIx hHeld HR5
     go_wp2_with fail
     refine hK.out _ _ (HKc.out.box.c0) (fun hHeld => ?_)
     clear hK K
     try simp only [Act.put, List.getElem_toArray, List.getElem_cons_succ, List.getElem_cons_zero, List.setIfInBounds_toArray, List.set_cons_zero, List.set_cons_succ]
     refine wpAnyH_ready (rs := [21]) (by kernel_rfl) (by simp) ?_
     refine AllReadyH.cons rfl (fun K hK => ?_) AllReadyH.nil
     go_simp
     refine (HHs.out _ HR6.out).mono ?_
     rintro e wx ⟨rfl, rfl⟩
     clear HHs HR6 hHeld
     go_wp2_with fail
     refine hK.out _ _ (HKc.out.box.c0) (fun hHeld => ?_)
     clear hK K
     try simp only [Act.put, List.getElem_toArray, List.getElem_cons_succ, List.getElem_cons_zero, List.setIfInBounds_toArray, List.set_cons_zero, List.set_cons_succ]
     refine wpAnyH_take (i := 24) (v := ?_) rfl (by kernel_rfl) (by kernel_rfl) (by kernel_rfl) (fun _ _ _ h => h) (Or.inl ⟨by rfl, ?_⟩) (by assumption) ?_
     rotate_left
     ·(intro w' hS; (try dsimp only at hS); go_simp; try with_reducible rfl)
     try simp only [Act.put, List.getElem_toArray, List.getElem_cons_succ, List.getElem_cons_zero, List.setIfInBounds_toArray, List.set_cons_zero, List.set_cons_succ]
     refine wpAnyH_take (i := 25) (v := ?_) rfl (by kernel_rfl) (by kernel_rfl) (by kernel_rfl) (fun _ _ _ h => h) (Or.inl ⟨by rfl, ?_⟩) (by assumption) ?_
     rotate_left
     ·(intro w' hS; (try dsimp only at hS); go_simp; try with_reducible rfl)
     try simp only [Act.put, List.getElem_toArray, List.getElem_cons_succ, List.getElem_cons_zero, List.setIfInBounds_toArray, List.set_cons_zero, List.set_cons_succ]
     refine wpAnyH_take (i := 26) (v := ?_) rfl (by kernel_rfl) (by kernel_rfl) (by kernel_rfl) (fun _ _ _ h => h) (Or.inl ⟨by rfl, ?_⟩) (by assumption) ?_
     rotate_left
     ·(intro w' hS; (try dsimp only at hS); go_simp; try with_reducible rfl)
     try simp only [Act.put, List.getElem_toArray, List.getElem_cons_succ, List.getElem_cons_zero, List.setIfInBounds_toArray, List.set_cons_zero, List.set_cons_succ]
     refine wpAnyH_done (by kernel_rfl) ?_ _
     refine NoPanic.normal ?_
     clear hHeld
     have hbel := HKc.out.bel
     go_wp2
     go_ret
     exact ⟨rfl, hbel⟩
  | false =>
   have hd0 : ¬ 0 ≤ d := of_decide_eq_false hq0.symm
   clear hq0
   go_wp2_with fail
   refine (HDj.out _ HK4.out).mono ?_
   rintro e w5 ⟨d', rfl, hd', hb5⟩
   obtain rfl := HW.out.rv d' hd'
   have HK5 := Lib.hid (HK4.out.on hb5)
   have HRk := Lib.hid ((HRk.out.below hb5 (Nat.le_refl _)).mono hb5.size)
   clear c0 hd' hb5 HK4 HDj
   go_wp2_with fail
   refine (HSa.out _ HK5.out).mono ?_
   rintro e w6 ⟨rfl, hb6⟩
   have HK6 := Lib.hid (HK5.out.on hb6)
   have HRk := Lib.hid ((HRk.out.below hb6 (Nat.le_refl _)).mono hb6.size)
   clear hb6 HK5 HSa
   have c0 := HK6.out.box.c0
   go_wp2_with fail
   refine (HCt.out _ HK6.out).mono ?_
   rintro e w7 ⟨rfl, hb7⟩
   have HK7 := Lib.hid (HK6.out.on hb7)
   have HRk := Lib.hid ((HRk.out.below hb7 (Nat.le_refl _)).mono hb7.size)
   clear c0 hb7 HK6 HCt
   have c0 := HK7.out.box.c0
   clear c0
   have HK9 := HK7
   clear HK7
   obtain ⟨y, hy⟩ : ∃ y, (d' == (1 : Int)) = y := ⟨_, rfl⟩
   have hyy : (y == y) = true := by simp
   cases s with
   | true =>
    have hp := Hsi.out rfl
    have hpe : ((p : Int) == (1 : Int)) = true := by simp; omega
    have hpn : ((p : Int) != (1 : Int)) = false := by simp; omega
    have := Hon.out hp
    cases this
   | false =>
    by_cases hp : p = 1
    ·have := Hon.out hp
     cases this
    ·have hpe : ((p : Int) == (1 : Int)) = false := by simp; omega
     have hpn : ((p : Int) != (1 : Int)) = true := by simp; omega
     clear hp
     go_upto_region 13 with fail
     refine wp_region_noPanic ?_
     refine wp_region_held_drew (S := (fun w' => w'.cell? ⟨pr, 0, none⟩ = some (.slice Ar n cr))) (by kernel_rfl) (HK9.out.drew.box.c0) (fun hHeld => ?_)
     refine wpAnyH_take (i := 0) (v := ?_) rfl (by kernel_rfl) (by kernel_rfl) (by kernel_rfl) (fun _ _ _ h => h) (Or.inl ⟨by rfl, ?_⟩) (by assumption) ?_
     rotate_left
     ·(intro w' hS; (try dsimp only at hS); go_simp; try with_reducible rfl)
     try simp only [Act.put, List.getElem_toArray, List.getElem_cons_succ, List.getElem_cons_zero, List.setIfInBounds_toArray, List.set_cons_zero, List.set_cons_succ]
     refine wpAnyH_ready (rs := [1]) (by kernel_rfl) (by simp) ?_
     refine AllReadyH.cons rfl (fun K hK => ?_) AllReadyH.nil
     go_simp
     refine (HSi.out _ HK9.out.drew).mono ?_
     rintro e wx ⟨rfl, hbx⟩
     have HKa := Lib.hid (HK9.out.drew.on hbx)
     clear hbx HK9 HSi hHeld
     go_wp2_with fail
     refine hK.out _ _ (HKa.out.box.c0) (fun hHeld => ?_)
     clear hK K
     try simp only [Act.put, List.getElem_toArray, List.getElem_cons_succ, List.getElem_cons_zero, List.setIfInBounds_toArray, List.set_cons_zero, List.set_cons_succ]
     refine wpAnyH_take (i := 2) (v := ?_) rfl (by kernel_rfl) (by kernel_rfl) (by kernel_rfl) (fun _ _ _ h => h) (Or.inl ⟨by rfl, ?_⟩) (by assumption) ?_
     rotate_left
     ·(intro w' hS; (try dsimp only at hS); go_simp; try with_reducible rfl)
     try simp only [Act.put, List.getElem_toArray, List.getElem_cons_succ, List.getElem_cons_zero, List.setIfInBounds_toArray, List.set_cons_zero, List.set_cons_succ]
     refine wpAnyH_take (i := 3) (v := ?_) rfl (by kernel_rfl) (by kernel_rfl) (by kernel_rfl) (fun _ _ _ h => h) (Or.inl ⟨by rfl, ?_⟩) (by assumption) ?_
     rotate_left
     ·(intro w' hS; (try dsimp only at hS); go_simp; try with_reducible rfl)
     try simp only [Act.put, List.getElem_toArray, List.getElem_cons_succ, List.getElem_cons_zero, List.setIfInBounds_toArray, List.set_cons_zero, List.set_cons_succ]
     refine wpAnyH_take (i := 4) (v := undef) rfl (by kernel_rfl) (by kernel_rfl) (by kernel_rfl) (fun _ _ _ h => h) (Or.inr ⟨by rfl, rfl⟩) (by assumption) ?_
     try simp only [Act.put, List.getElem_toArray, List.getElem_cons_succ, List.getElem_cons_zero, List.setIfInBounds_toArray, List.set_cons_zero, List.set_cons_succ]
     refine wpAnyH_take (i := 5) (v := undef) rfl (by kernel_rfl) (by kernel_rfl) (by kernel_rfl) (fun _ _ _ h => h) (Or.inr ⟨by rfl, rfl⟩) (by assumption) ?_
     try simp only [Act.put, List.getElem_toArray, List.getElem_cons_succ, List.getElem_cons_zero, List.setIfInBounds_toArray, List.set_cons_zero, List.set_cons_succ]
     refine wpAnyH_take (i := 6) (v := ?_) rfl (by kernel_rfl) (by kernel_rfl) (by kernel_rfl) (fun _ _ _ h => h) (Or.inl ⟨by rfl, ?_⟩) (by assumption) ?_
     rotate_left
     ·(intro w' hS; (try dsimp only at hS); go_simp; try with_reducible rfl)
     try simp only [Act.put, List.getElem_toArray, List.getElem_cons_succ, List.getElem_cons_zero, List.setIfInBounds_toArray, List.set_cons_zero, List.set_cons_succ]
     refine wpAnyH_take (i := 7) (v := ?_) rfl (by kernel_rfl) (by kernel_rfl) (by kernel_rfl) (fun _ _ _ h => h) (Or.inl ⟨by rfl, ?_⟩) (by assumption) ?_
     rotate_left
     ·(intro w' hS; (try dsimp only at hS); go_simp; try with_reducible rfl)
     try simp only [Act.put, List.getElem_toArray, List.getElem_cons_succ, List.getElem_cons_zero, List.setIfInBounds_toArray, List.set_cons_zero, List.set_cons_succ]
     refine wpAnyH_take (i := 8) (v := ?_) rfl (by kernel_rfl) (by kernel_rfl) (by kernel_rfl) (fun _ _ _ h => h) (Or.inl ⟨by rfl, ?_⟩) (by assumption) ?_
     rotate_left
     ·(intro w' hS; (try dsimp only at hS); go_simp; try with_reducible rfl)
     try simp only [Act.put, List.getElem_toArray, List.getElem_cons_succ, List.getElem_cons_zero, List.setIfInBounds_toArray, List.set_cons_zero, List.set_cons_succ]
     refine wpAnyH_take (i := 9) (v := ?_) rfl (by kernel_rfl) (by kernel_rfl) (by kernel_rfl) (fun _ _ _ h => h) (Or.inl ⟨by rfl, ?_⟩) (by assumption) ?_
     rotate_left
     ·(intro w' hS; (try dsimp only at hS); go_simp; try with_reducible rfl)
     try simp only [Act.put, List.getElem_toArray, List.getElem_cons_succ, List.getElem_cons_zero, List.setIfInBounds_toArray, List.set_cons_zero, List.set_cons_succ]
     refine wpAnyH_take (i := 10) (v := ?_) rfl (by kernel_rfl) (by kernel_rfl) (by kernel_rfl) (fun _ _ _ h => h) (Or.inl ⟨by rfl, ?_⟩) (by assumption) ?_
     rotate_left
     ·(intro w' hS; (try dsimp only at hS); go_simp; try with_reducible rfl)
     try simp only [Act.put, List.getElem_toArray, List.getElem_cons_succ, List.getElem_cons_zero, List.setIfInBounds_toArray, List.set_cons_zero, List.set_cons_succ]
     refine wpAnyH_take (i := 11) (v := undef) rfl (by kernel_rfl) (by kernel_rfl) (by kernel_rfl) (fun _ _ _ h => h) (Or.inr ⟨by rfl, rfl⟩) (by assumption) ?_
     try simp only [Act.put, List.getElem_toArray, List.getElem_cons_succ, List.getElem_cons_zero, List.setIfInBounds_toArray, List.set_cons_zero, List.set_cons_succ]
     refine wpAnyH_take (i := 12) (v := ?_) rfl (by kernel_rfl) (by kernel_rfl) (by kernel_rfl) (fun _ _ _ h => h) (Or.inl ⟨by rfl, ?_⟩) (by assumption) ?_
     rotate_left
     ·(intro w' hS; (try dsimp only at hS); go_simp; try with_reducible rfl)
     try simp only [Act.put, List.getElem_toArray, List.getElem_cons_succ, List.getElem_cons_zero, List.setIfInBounds_toArray, List.set_cons_zero, List.set_cons_succ]
     refine wpAnyH_take (i := 13) (v := ?_) rfl (by kernel_rfl) (by kernel_rfl) (by kernel_rfl) (fun _ _ _ h => h) (Or.inl ⟨by rfl, ?_⟩) (by assumption) ?_
     rotate_left
     ·(intro w' hS; (try dsimp only at hS); go_simp; try with_reducible rfl)
     try simp only [Act.put, List.getElem_toArray, List.getElem_cons_succ, List.getElem_cons_zero, List.setIfInBounds_toArray, List.set_cons_zero, List.set_cons_succ]
     refine wpAnyH_take (i := 14) (v := ?_) rfl (by kernel_rfl) (by kernel_rfl) (by kernel_rfl) (fun _ _ _ h => h) (Or.inl ⟨by rfl, ?_⟩) (by assumption) ?_
     rotate_left
     ·(intro w' hS; (try dsimp only at hS); go_simp; try with_reducible rfl)
     try simp only [Act.put, List.getElem_toArray, List.getElem_cons_succ, List.getElem_cons_zero, List.setIfInBounds_toArray, List.set_cons_zero, List.set_cons_succ]
     refine wpAnyH_take (i := 15) (v := ?_) rfl (by kernel_rfl) (by kernel_rfl) (by kernel_rfl) (fun _ _ _ h => h) (Or.inl ⟨by rfl, ?_⟩) (by assumption) ?_
     rotate_left
     ·(intro w' hS; (try dsimp only at hS); go_simp; try with_reducible rfl)
     try simp only [Act.put, List.getElem_toArray, List.getElem_cons_succ, List.getElem_cons_zero, List.setIfInBounds_toArray, List.set_cons_zero, List.set_cons_succ]
     refine wpAnyH_take (i := 16) (v := ?_) rfl (by kernel_rfl) (by kernel_rfl) (by kernel_rfl) (fun _ _ _ h => h) (Or.inl ⟨by rfl, ?_⟩) (by assumption) ?_
     rotate_left
     ·(intro w' hS; (try dsimp only at hS); go_simp; try with_reducible rfl)
     try simp only [Act.put, List.getElem_toArray, List.getElem_cons_succ, List.getElem_cons_zero, List.setIfInBounds_toArray, List.set_cons_zero, List.set_cons_succ]
     refine wpAnyH_take (i := 18) (v := ?_) rfl (by kernel_rfl) (by kernel_rfl) (by kernel_rfl) (fun _ _ _ h => h) (Or.inl ⟨by rfl, ?_⟩) (by assumption) ?_
     rotate_left
     ·(intro w' hS; (try dsimp only at hS); go_simp; try with_reducible rfl)
     try simp only [Act.put, List.getElem_toArray, List.getElem_cons_succ, List.getElem_cons_zero, List.setIfInBounds_toArray, List.set_cons_zero, List.set_cons_succ]
     refine wpAnyH_take (i := 19) (v := ?_) rfl (by kernel_rfl) (by kernel_rfl) (by kernel_rfl) (fun _ _ _ h => h) (Or.inl ⟨by rfl, ?_⟩) (by assumption) ?_
     rotate_left
     ·(intro w' hS; (try dsimp only at hS); go_simp; try with_reducible rfl)
     try simp only [Act.put, List.getElem_toArray, List.getElem_cons_succ, List.getElem_cons_zero, List.setIfInBounds_toArray, List.set_cons_zero, List.set_cons_succ]
     refine wpAnyH_take (i := 22) (v := ?_) rfl (by kernel_rfl) (by kernel_rfl) (by kernel_rfl) (fun _ _ _ h => h) (Or.inl ⟨by rfl, ?_⟩) (by assumption) ?_
     rotate_left
     ·(intro w' hS; (try dsimp only at hS); go_simp; try with_reducible rfl)
     try simp only [Act.put, List.getElem_toArray, List.getElem_cons_succ, List.getElem_cons_zero, List.setIfInBounds_toArray, List.set_cons_zero, List.set_cons_succ]
     refine wpAnyH_take (i := 23) (v := ?_) rfl (by kernel_rfl) (by kernel_rfl) (by kernel_rfl) (fun _ _ _ h => h) (Or.inl ⟨by rfl, ?_⟩) (by assumption) ?_
     rotate_left
     ·(intro w' hS; (try dsimp only at hS); go_simp; try with_reducible rfl)
     try simp only [Act.put, List.getElem_toArray, List.getElem_cons_succ, List.getElem_cons_zero, List.setIfInBounds_toArray, List.set_cons_zero, List.set_cons_succ]
     refine wpAnyH_ready (rs := [17]) (by kernel_rfl) (by simp) ?_
     refine AllReadyH.cons rfl (fun K hK => ?_) AllReadyH.nil
     go_simp
     refine (HNb.out _ HKa.out).mono ?_
     rintro e wx ⟨l, A5, c5, rfl, hown5, hnb, hbx⟩
     have HKb := Lib.hid (HKa.out.on hbx)
     have HR5 := Lib.hid (rdN_own hown5)
     obtain ⟨hl5, hjs⟩ := HJ.out l hnb
     rw [hy] at hjs
     obtain ⟨ln, hln⟩ : ∃ ln, l.length = ln := ⟨_, rfl⟩
     have HHs := Lib.hid (fun W (hr : RdN W W.heap.size A5 l) => lHas W A5 ln c5 W.heap.size l j hln (by omega) hr)
     rw [hjs] at HHs
     rw [hln]
     clear hown5 hnb hbx HKa HNb hHeld hjs hl5 hln
     go_wp2_with fail
     refine hK.out _ _ (HKb.out.box.c0) (fun hHeld => ?_)
     clear hK K
     try simp only [Act.put, List.getElem_toArray, List.getElem_cons_succ, List.getElem_cons_zero, List.setIfInBounds_toArray, List.set_cons_zero, List.set_cons_succ]
     refine wpAnyH_ready (rs := [20]) (by kernel_rfl) (by simp) ?_
     refine AllReadyH.cons rfl (fun K hK => ?_) AllReadyH.nil
     go_simp
     refine (HIx.out _ HKb.out).mono ?_
     rintro e wx ⟨rfl, hbx⟩
     have HKc := Lib.hid (HKb.out.on hbx)
     have HR6 := Lib.hid ((HR5.out.below hbx (Nat.le_refl _)).mono hbx.size)
     clear hbx HKb HIx hHeld HR5
     go_wp2_with fail
     refine hK.out _ _ (HKc.out.box.c0) (fun hHeld => ?_)
     clear hK K
     try simp only [Act.put, List.getElem_toArray, List.getElem_cons_succ, List.getElem_cons_zero, List.setIfInBounds_toArray, List.set_cons_zero, List.set_cons_succ]
     refine wpAnyH_ready (rs := [21]) (by kernel_rfl) (by simp) ?_
     refine AllReadyH.cons rfl (fun K hK => ?_) AllReadyH.nil
     go_simp
     refine (HHs.out _ HR6.out).mono ?_
     rintro e wx ⟨rfl, rfl⟩
     clear HHs HR6 hHeld
     go_wp2_with fail
     refine hK.out _ _ (HKc.out.box.c0) (fun hHeld => ?_)
     clear hK K
     try simp only [Act.put, List.getElem_toArray, List.getElem_cons_succ, List.getElem_cons_zero, List.setIfInBounds_toArray, List.set_cons_zero, List.set_cons_succ]
     refine wpAnyH_take (i := 24) (v := ?_) rfl (by kernel_rfl) (by kernel_rfl) (by kernel_rfl) (fun _ _ _ h => h) (Or.inl ⟨by rfl, ?_⟩) (by assumption) ?_
     rotate_left
     ·(intro w' hS; (try dsimp only at hS); go_simp; try with_reducible rfl)
     try simp only [Act.put, List.getElem_toArray, List.getElem_cons_succ, List.getElem_cons_zero, List.setIfInBounds_toArray, List.set_cons_zero, List.set_cons_succ]
     refine wpAnyH_take (i := 25) (v := ?_) rfl (by kernel_rfl) (by kernel_rfl) (by kernel_rfl) (fun _ _ _ h => h) (Or.inl ⟨by rfl, ?_⟩) (by assumption) ?_
     rotate_left
     ·(intro w' hS; (try dsimp only at hS); go_simp; try with_reducible rfl)
     try simp only [Act.put, List.getElem_toArray, List.getElem_cons_succ, List.getElem_cons_zero, List.setIfInBounds_toArray, List.set_cons_zero, List.set_cons_succ]
     refine wpAnyH_take (i := 26) (v := ?_) rfl (by kernel_rfl) (by kernel_rfl) (by kernel_rfl) (fun _ _ _ h => h) (Or.inl ⟨by rfl, ?_⟩) (by assumption) ?_
     rotate_left
     ·(intro w' hS; (try dsimp only at hS); go_simp; try with_reducible rfl)
     try simp only [Act.put, List.getElem_toArray, List.getElem_cons_succ, List.getElem_cons_zero, List.setIfInBounds_toArray, List.set_cons_zero, List.set_cons_succ]
     refine wpAnyH_done (by kernel_rfl) ?_ _
     refine NoPanic.normal ?_
     clear hHeld
     have hbel := HKc.out.bel
     go_wp2
     go_ret
     exact ⟨rfl, hbel⟩
end Go.Proofs.YtmenmepdmojnfaaGreatDoor.Wg
