/- OrF in one text. -/
import Derived.Test.YtmajllgfmclcoaaGreatDoorMd33
import Derived.Test.YtmajllgfmclcoaaGreatDoorMd35
import Derived.Test.YtmajllgfmclcoaaGreatDoorMd37
import Derived.Test.YtmajllgfmclcoaaGreatDoorMd40
import Derived.Test.YtmajllgfmclcoaaGreatDoorMd45
import Derived.Test.YtmajllgfmclcoaaGreatDoorMd27
import Derived.Test.YtmajllgfmclcoaaGreatDoorMd31
set_option linter.unusedVariables false
set_option linter.unusedSimpArgs false
set_option maxRecDepth 100000
namespace Go.Proofs.YtmajllgfmclcoaaGreatDoor.Jn
open Go.RowKit Go.Proofs.YtmajllgfmclcoaaGreatDoor.Pure Go.Proofs.YtmajllgfmclcoaaGreatDoor.Cell Dom Dms Til Hgt Sets Go.Joins
open Draw (IsRow big coded_of_row)
open Tile (SimTwo sim_ok drawHts)
open Lst (listR listR_small listR_half allR_count)
open Ext (allR allR_ok allR_not)
open Wg (DisR DisP sFlipDistance sim_far)
open Sam (sameD sSame)
open Flo (simB)
open Lis (allT)
open Reg (ints RowB rowB_own)
theorem iSortO (W : World) (A1 : Option Addr) (n c : Nat) (L : List Dm) (hL : L.length = n) (hn : (n : Int) ≤ 1048576) (hf : Fits L) (hr : RowM W W.heap.size A1 L) : Calls Tryz.prog 106 #[.slice A1 n c] W (DmPost (sortM L) (sortM L).length W) :=
 iSortDominoes W A1 n c W.heap.size L hL hn hf hr NR
structure OS (w : World) (pr : Nat) (va : Value) (Ar : Option Addr) (xs : List Int) (Ls : List (Option Addr × List Dm)) (W : World) : Prop where
 bel : Below w.heap.size w W
 box : Rg W pr va
 row : RowB W W.heap.size Ar xs
 all : ∀ p ∈ Ls, RowM W W.heap.size p.1 p.2
section
variable {w W W' : World} {pr : Nat} {va : Value} {Ar : Option Addr} {xs : List Int} {Ls : List (Option Addr × List Dm)}
theorem OS.on (k : OS w pr va Ar xs Ls W) (hb : Below W.heap.size W W') : OS w pr va Ar xs Ls W' :=
 ⟨k.bel.trans (hb.mono k.bel.size), k.box.on hb, (k.row.below hb NR).mono hb.size, fun p hp => ((k.all p hp).below hb NR).mono hb.size⟩
theorem OS.push {A : Option Addr} {L : List Dm} (k : OS w pr va Ar xs Ls W) (r : RowM W W.heap.size A L) : OS w pr va Ar xs ((A, L) :: Ls) W :=
 ⟨k.bel, k.box, k.row, fun p hp => by
  rcases List.mem_cons.1 hp with rfl | hp
  ·exact r
  ·exact k.all p hp⟩
end
theorem two_facts {ys : List Int} {n h : Nat} {La Lb : List Dm} (t : SimTwo ys n La Lb h) : okR ys ∧ listR ys = allT ys ∧ La ∈ listR ys ∧ Lb ∈ listR ys := by
 have ho := sim_ok t.sim
 have hc := allR_count ys
 have hf := t.few
 have e : listR ys = allT ys := by unfold listR; rw [if_pos (by omega), allR_ok ho]
 have ma : La ∈ listR ys := t.a
 have mb : Lb ∈ listR ys := t.b
 exact ⟨ho, e, ma, mb⟩
theorem dis_far {ys : List Int} {La Lb : List Dm} (hs : simB ys = true) (e : listR ys = allT ys) (ma : La ∈ listR ys) (mb : Lb ∈ listR ys) {d : Int} (h : DisR (listR ys) La Lb d) : d = (farL La Lb : Nat) := by
 rcases h with ⟨i, j, hi, hj, ei, ej, hd⟩ | ⟨hno, _⟩
 ·subst ei; subst ej
  clear ma mb
  revert hd hi hj
  rw [e]
  intro hi hj hd
  exact sim_far hs hi hj hd
 ·rcases hno with q | q
  ·exact absurd ma q
  ·exact absurd mb q
structure orders_args (xs : List Int) (La Lb : List Dm) (l : Nat) : Prop where
 sim : simB xs = true
 ffa : Fits La
 ffb : Fits Lb
 la : La.length = l
 lb : Lb.length = l
 le : l ≤ 32
theorem orders_args.fa {xs : List Int} {La Lb : List Dm} {l : Nat} (h : orders_args xs La Lb l) : Fits La ∧ La.length ≤ 32 := ⟨h.ffa, by have := h.la; have := h.le; omega⟩
theorem orders_args.fb {xs : List Int} {La Lb : List Dm} {l : Nat} (h : orders_args xs La Lb l) : Fits Lb ∧ Lb.length ≤ 32 := ⟨h.ffb, by have := h.lb; have := h.le; omega⟩
theorem join_fits {xs : List Int} {L : List Dm} (h : tilB xs L = true) : Fits L ∧ L.length ≤ 32 := by
 have hv := Grd.part_valid (til_part h)
 refine ⟨fun d hd => ?_, by have := part_length (til_part h); omega⟩
 have := okM_in (hv d hd)
 unfold Sm; omega
set_option maxHeartbeats 8000000 in
theorem orders_law (A : Option Addr) (len cap : Nat) (zs : List Int) (w : World) (h0 : IsRow .u8 w A len cap zs) (hT : Tab w) :
  Calls Tryz.prog 3 #[.slice A len cap] w fun e w' => e = .returned (.bool true) ∧ Below w.heap.size w w' := by
 have hlen := Draw.row_len h0
 by_cases hbig : (1048576 : Int) < (len : Int)
 ·go_enter Tryz.func3, Tryz.ntmps3
  go_wp2_with fail
  refine (big w A len cap hlen).mono ?_
  rintro e w' ⟨rfl, rfl⟩
  go_wp2
  go_ret
  exact ⟨rfl, Below.refl _ _⟩
 ·have HC := Lh (coded_of_row h0 (by omega))
  have HTb := Lh hT
  clear h0 hT
  go_enter Tryz.func3, Tryz.ntmps3
  go_wp2_with fail
  refine (big w A len cap hlen).mono ?_
  rintro e w' ⟨rfl, rfl⟩
  go_wp2_with fail
  clear hbig hlen
  refine (drawHts w A len cap HC.out).mono ?_
  rintro e w1 ⟨xs, Ar, n, cr, l, La, Lb, Al, cl, Ab, cb, HO, rfl, hown, hownL, hownB, hb1⟩
  have hB1 := hb1.alloc hb1.size (.cells #[.slice Ar n cr] 26)
  have hb2 := below_alloc1 w1 (.cells #[.slice Ar n cr] 26)
  have R1 := Rg.new w1 (.slice Ar n cr)
  have Q1 := ((rowB_own hown).below hb2 NR).mono hb2.size
  have K1 := ((rowM_own hownL).below hb2 NR).mono hb2.size
  have K2 := ((rowM_own hownB).below hb2 NR).mono hb2.size
  have hcl := own_cap2 hownL
  have hcb := own_cap2 hownB
  have HSm := Lh HO.out.sim
  obtain ⟨hok, hall, hma, hmb⟩ := two_facts HO.out
  have HMm := Lh (And.intro hall (And.intro hma hmb))
  have hfa := list_fits hma
  have hfb := list_fits hmb
  have hla := HO.out.la
  have hlb := HO.out.lb
  have hl32 := HO.out.h32
  have hxs := HO.out.len
  have hn8 : n ≤ 8 := by have := hok.1; omega
  have HA := Lh (show orders_args xs La Lb l from ⟨HO.out.sim, hfa, hfb, hla, hlb, hl32⟩)
  clear hown hb1 HC hownL hownB hb2 HO hall hma hmb hok
  go_upto_region 4 with fail
  generalize w1.alloc (.cells #[.slice Ar n cr] 26) = W1 at hB1 R1 Q1 K1 K2 ⊢
  generalize w1.heap.size = pr at R1 ⊢
  have F := Lh (((⟨hB1, R1, Q1, fun p hp => by cases hp⟩ : OS w pr (.slice Ar n cr) Ar xs [] W1).push K2).push K1)
  clear hB1 R1 Q1 K1 K2
  have hnI : (n : Int) ≤ 9223372036854775807 := by omega
  have hlI : (l : Int) ≤ 9223372036854775807 := by omega
  -- two lists, told
  have HJl := Lh (fun W Ls (k : OS w pr (.slice Ar n cr) Ar xs Ls W) (h1 : (Al, La) ∈ Ls) (h2 : (Ab, Lb) ∈ Ls) => iLowerOf W Ar n cr W.heap.size xs hxs hnI k.row NR Al l cl W.heap.size La hla hlI hfa (k.all _ h1) NR hcl Ab l cb W.heap.size Lb hlb hlI hfb (k.all _ h2) NR hcb iSortO)
  have HJh := Lh (fun W Ls (k : OS w pr (.slice Ar n cr) Ar xs Ls W) (h1 : (Al, La) ∈ Ls) (h2 : (Ab, Lb) ∈ Ls) => iHigherOf W Ar n cr W.heap.size xs hxs hnI k.row NR Al l cl W.heap.size La hla hlI hfa (k.all _ h1) NR hcl Ab l cb W.heap.size Lb hlb hlI hfb (k.all _ h2) NR hcb iSortO)
  have HEl := Lh (fun W Ls (k : OS w pr (.slice Ar n cr) Ar xs Ls W) => iLowestTiling W Ar n cr W.heap.size xs hxs hnI k.row NR (HTb.out.on k.bel NR))
  have HEh := Lh (fun W Ls (k : OS w pr (.slice Ar n cr) Ar xs Ls W) => iHighestTiling W Ar n cr W.heap.size xs hxs hnI k.row NR (HTb.out.on k.bel NR))
  have HSt := Lh (fun W Ls (k : OS w pr (.slice Ar n cr) Ar xs Ls W) A1 n1 c1 M1 (e1 : M1.length = n1) (f1 : Fits M1 ∧ M1.length ≤ 32) (q1 : n1 ≤ c1) A2 n2 c2 M2 (e2 : M2.length = n2) (f2 : Fits M2 ∧ M2.length ≤ 32) (q2 : n2 ≤ c2) (h1 : (A1, M1) ∈ Ls) (h2 : (A2, M2) ∈ Ls) => iStepsBetween W Ar n cr W.heap.size xs hxs hnI k.row NR A1 n1 c1 W.heap.size M1 e1 (by omega) f1.1 (k.all _ h1) NR q1 A2 n2 c2 W.heap.size M2 e2 (by omega) f2.1 (k.all _ h2) NR q2)
  have HBe := Lh (fun W Ls (k : OS w pr (.slice Ar n cr) Ar xs Ls W) A1 n1 c1 M1 (e1 : M1.length = n1) (f1 : Fits M1 ∧ M1.length ≤ 32) (q1 : n1 ≤ c1) A2 n2 c2 M2 (e2 : M2.length = n2) (f2 : Fits M2 ∧ M2.length ≤ 32) (q2 : n2 ≤ c2) (h1 : (A1, M1) ∈ Ls) (h2 : (A2, M2) ∈ Ls) => iIsBelow W Ar n cr W.heap.size xs hxs hnI k.row NR A1 n1 c1 W.heap.size M1 e1 (by omega) f1.1 (k.all _ h1) NR q1 A2 n2 c2 W.heap.size M2 e2 (by omega) f2.1 (k.all _ h2) NR q2)
  have HFd := Lh (fun W Ls (k : OS w pr (.slice Ar n cr) Ar xs Ls W) (h1 : (Al, La) ∈ Ls) (h2 : (Ab, Lb) ∈ Ls) => sFlipDistance W Ar n cr W.heap.size xs hxs hnI k.row NR Al l cl W.heap.size La hla hlI (k.all _ h1) NR Ab l cb W.heap.size Lb hlb hlI (k.all _ h2) NR)
  have HTi := Lh (fun W Ls (k : OS w pr (.slice Ar n cr) Ar xs Ls W) A1 n1 c1 M1 (e1 : M1.length = n1) (f1 : M1.length ≤ 32) (ht : tilB xs M1 = true) (h1 : (A1, M1) ∈ Ls) => show Calls Tryz.prog 14 #[.agg #[.slice Ar n cr], .slice A1 n1 c1] W (Bol true W) from ht ▸ sIsTiling W Ar n cr W.heap.size xs hxs hnI k.row NR A1 n1 c1 W.heap.size M1 e1 (by omega) (k.all _ h1) NR)
  have HSa := Lh (fun W Ls (k : OS w pr (.slice Ar n cr) Ar xs Ls W) A1 n1 c1 M1 (e1 : M1.length = n1) (f1 : M1.length ≤ 32) (h1 : (A1, M1) ∈ Ls) (h2 : (Al, La) ∈ Ls) => sSame W A1 Al n1 l c1 cl W.heap.size W.heap.size M1 La e1 hla (by omega) hlI (k.all _ h1) (k.all _ h2) NR NR)
  clear hxs hnI hlI hla hlb hfa hfb hn8 hl32 HTb
  have c0 := F.out.box.c0
  go_wp2_with fail
  refine (HJl.out _ _ F.out (by simp) (by simp)).mono ?_
  rintro e W2 ⟨X, o1, Ax, cx, rfl, hown, hj, hle, hb2⟩
  have F := Lh ((F.out.on hb2).push (rowM_own hown))
  obtain ⟨nx, hnx⟩ : ∃ q, X.length = q := ⟨_, rfl⟩
  rw [hnx] at hle ⊢
  have HX := Lh (And.intro hnx (And.intro hle hj))
  clear hown hj hle hb2 c0 hnx
  have c0 := F.out.box.c0
  go_wp2_with fail
  refine (HJh.out _ _ F.out (by simp) (by simp)).mono ?_
  rintro e W2 ⟨Y, o2, Ay, cy, rfl, hown, hj, hle, hb2⟩
  have F := Lh ((F.out.on hb2).push (rowM_own hown))
  obtain ⟨ny, hny⟩ : ∃ q, Y.length = q := ⟨_, rfl⟩
  rw [hny] at hle ⊢
  have HY := Lh (And.intro hny (And.intro hle hj))
  clear hown hj hle hb2 c0 hny
  have c0 := F.out.box.c0
  go_wp2_with fail
  refine (HEl.out _ _ F.out).mono ?_
  rintro e W2 ⟨Lo, o3, Ao, co, rfl, hown, hj, hle, hb2⟩
  have F := Lh ((F.out.on hb2).push (rowM_own hown))
  obtain ⟨no, hno⟩ : ∃ q, Lo.length = q := ⟨_, rfl⟩
  rw [hno] at hle ⊢
  have HLo := Lh (And.intro hno (And.intro hle hj))
  clear hown hj hle hb2 c0 hno
  have c0 := F.out.box.c0
  go_wp2_with fail
  refine (HEh.out _ _ F.out).mono ?_
  rintro e W2 ⟨Hi, o4, Ai, ci, rfl, hown, hj, hle, hb2⟩
  have F := Lh ((F.out.on hb2).push (rowM_own hown))
  obtain ⟨ni, hni⟩ : ∃ q, Hi.length = q := ⟨_, rfl⟩
  rw [hni] at hle ⊢
  have HHi := Lh (And.intro hni (And.intro hle hj))
  clear hown hj hle hb2 c0 hni
  have hab := HA.out
  have c0 := F.out.box.c0
  go_wp2_with fail
  refine (HSt.out _ _ F.out Al l cl La hab.la hab.fa hcl Ab l cb Lb hab.lb hab.fb hcb (by simp) (by simp)).mono ?_
  rintro e W2 ⟨d, rfl, hd, hb2⟩
  have F := Lh (F.out.on hb2)
  have hne : listR xs ≠ [] := fun q => by have := HMm.out.2.1; rw [q] at this; cases this
  have htl := list_til hne
  obtain ⟨hA0, hB0, rA0, rB0, -⟩ := id hd
  obtain ⟨rfl, rfl, rfl, rfl, hdf, tx, ty, tl, th, f1, f2, f3, f4, f5, f6, f7, f8, f9⟩ := orders_all htl HSm.out (list_mem HMm.out.2.1).2 (list_mem HMm.out.2.2).2 (hgt_row HSm.out HMm.out.2.1 rA0).1 (hgt_row HSm.out HMm.out.2.2 rB0).1 HX.out.2.2 HY.out.2.2 HLo.out.2.2 HHi.out.2.2 hd
  have HDf := Lh (fun d' (h : DisR (listR xs) La Lb d') => show d' = d from (dis_far HSm.out HMm.out.1 HMm.out.2.1 HMm.out.2.2 h).trans hdf.symm)
  have hd0 : ¬ d < 0 := by omega
  have hdd : (d != d) = false := by simp
  have hde : (d == d) = true := by simp
  have H1 := Lh f1; have H2 := Lh f2; have H3 := Lh f3; have H4 := Lh f4; have H5 := Lh f5; have H6 := Lh f6; have H7 := Lh f7; have H8 := Lh f8; have H9 := Lh f9
  have JX := Lh (join_fits tx); have JY := Lh (join_fits ty); have JL := Lh (join_fits tl); have JH := Lh (join_fits th)
  have TX := Lh tx; have TY := Lh ty
  have nX := HX.out.1; have qX := HX.out.2.1; have nY := HY.out.1; have qY := HY.out.2.1; have nL := HLo.out.1; have qL := HLo.out.2.1; have nH := HHi.out.1; have qH := HHi.out.2.1
  have GX := Lh (And.intro nX qX); have GY := Lh (And.intro nY qY); have GL := Lh (And.intro nL qL); have GH := Lh (And.intro nH qH); have GA := Lh (And.intro hab.la hcl); have GB := Lh (And.intro hab.lb hcb)
  have FA := Lh hab.fa; have FB := Lh hab.fb
  clear hd hb2 c0 htl hne hdf tx ty tl th f1 f2 f3 f4 f5 f6 f7 f8 f9 nX qX nY qY nL qL nH qH hab HX HY HLo HHi rA0 rB0 HMm HSm HA HJl HJh HEl HEh hcl hcb
  have c0 := F.out.box.c0
  go_wp2_with fail
  refine (HFd.out _ _ F.out (by simp) (by simp)).mono ?_
  rintro e W2 ⟨d', rfl, hd', hb2⟩
  obtain rfl := HDf.out d' hd'
  have F := Lh (F.out.on hb2)
  clear hd' hb2 c0 HFd HDf
  have c0 := F.out.box.c0
  go_wp2_with fail
  refine (HTi.out _ _ F.out Ax nx cx X GX.out.1 JX.out.2 TX.out (by simp)).mono ?_
  rintro e W2 ⟨rfl, hb2⟩
  have F := Lh (F.out.on hb2)
  clear hb2 c0
  have c0 := F.out.box.c0
  go_wp2_with fail
  refine (HTi.out _ _ F.out Ay ny cy Y GY.out.1 JY.out.2 TY.out (by simp)).mono ?_
  rintro e W2 ⟨rfl, hb2⟩
  have F := Lh (F.out.on hb2)
  clear hb2 c0
  have c0 := F.out.box.c0
  go_wp2_with fail
  refine (HBe.out _ _ F.out Ax nx cx X GX.out.1 JX.out GX.out.2 Al l cl La GA.out.1 FA.out GA.out.2 (by simp) (by simp)).mono ?_
  rintro e W2 ⟨b, rfl, hbl, hb2⟩
  obtain rfl := H1.out b hbl
  clear hbl H1
  have F := Lh (F.out.on hb2)
  clear hb2 c0
  have c0 := F.out.box.c0
  go_wp2_with fail
  refine (HBe.out _ _ F.out Ax nx cx X GX.out.1 JX.out GX.out.2 Ab l cb Lb GB.out.1 FB.out GB.out.2 (by simp) (by simp)).mono ?_
  rintro e W2 ⟨b, rfl, hbl, hb2⟩
  obtain rfl := H2.out b hbl
  clear hbl H2
  have F := Lh (F.out.on hb2)
  clear hb2 c0
  have c0 := F.out.box.c0
  go_wp2_with fail
  refine (HBe.out _ _ F.out Al l cl La GA.out.1 FA.out GA.out.2 Ay ny cy Y GY.out.1 JY.out GY.out.2 (by simp) (by simp)).mono ?_
  rintro e W2 ⟨b, rfl, hbl, hb2⟩
  obtain rfl := H3.out b hbl
  clear hbl H3
  have F := Lh (F.out.on hb2)
  clear hb2 c0
  have c0 := F.out.box.c0
  go_wp2_with fail
  refine (HBe.out _ _ F.out Ab l cb Lb GB.out.1 FB.out GB.out.2 Ay ny cy Y GY.out.1 JY.out GY.out.2 (by simp) (by simp)).mono ?_
  rintro e W2 ⟨b, rfl, hbl, hb2⟩
  obtain rfl := H4.out b hbl
  clear hbl H4
  have F := Lh (F.out.on hb2)
  clear hb2 c0
  have c0 := F.out.box.c0
  go_wp2_with fail
  refine (HBe.out _ _ F.out Ao no co Lo GL.out.1 JL.out GL.out.2 Al l cl La GA.out.1 FA.out GA.out.2 (by simp) (by simp)).mono ?_
  rintro e W2 ⟨b, rfl, hbl, hb2⟩
  obtain rfl := H5.out b hbl
  clear hbl H5
  have F := Lh (F.out.on hb2)
  clear hb2 c0
  have c0 := F.out.box.c0
  go_wp2_with fail
  refine (HBe.out _ _ F.out Ab l cb Lb GB.out.1 FB.out GB.out.2 Ai ni ci Hi GH.out.1 JH.out GH.out.2 (by simp) (by simp)).mono ?_
  rintro e W2 ⟨b, rfl, hbl, hb2⟩
  obtain rfl := H6.out b hbl
  clear hbl H6
  have F := Lh (F.out.on hb2)
  clear hb2 c0
  have c0 := F.out.box.c0
  go_wp2_with fail
  refine (HSt.out _ _ F.out Ax nx cx X GX.out.1 JX.out GX.out.2 Ay ny cy Y GY.out.1 JY.out GY.out.2 (by simp) (by simp)).mono ?_
  rintro e W2 ⟨m, rfl, hm, hb2⟩
  obtain rfl := H7.out m hm
  clear hm H7
  have F := Lh (F.out.on hb2)
  clear hb2 c0
  have c0 := F.out.box.c0
  go_wp2_with fail
  refine (HBe.out _ _ F.out Al l cl La GA.out.1 FA.out GA.out.2 Ab l cb Lb GB.out.1 FB.out GB.out.2 (by simp) (by simp)).mono ?_
  rintro e W2 ⟨b, rfl, hbl, hb2⟩
  have hbq := Lh (H8.out b hbl)
  clear hbl H8
  have F := Lh (F.out.on hb2)
  clear hb2 c0
  have c0 := F.out.box.c0
  go_wp2_with fail
  refine (HSa.out _ _ F.out Ax nx cx X GX.out.1 JX.out.2 (by simp) (by simp)).mono ?_
  rintro e W2 ⟨rfl, hb2⟩
  have F := Lh (F.out.on hb2)
  have hsb : sameD X La = b := hbq.out.symm
  rw [hsb]
  have hbb : (b == b) = true := by simp
  clear hb2 c0 hsb hbq
  have c0 := F.out.box.c0
  go_wp2_with fail
  refine (HSt.out _ _ F.out Ao no co Lo GL.out.1 JL.out GL.out.2 Ai ni ci Hi GH.out.1 JH.out GH.out.2 (by simp) (by simp)).mono ?_
  rintro e W2 ⟨m, rfl, hm, hb2⟩
  have hle := H9.out m hm
  clear hm H9
  have F := Lh (F.out.on hb2)
  clear hb2 c0
  have HB := Lh F.out.bel
  go_wp2
  go_ret
  exact ⟨rfl, HB.out⟩
end Go.Proofs.YtmajllgfmclcoaaGreatDoor.Jn
