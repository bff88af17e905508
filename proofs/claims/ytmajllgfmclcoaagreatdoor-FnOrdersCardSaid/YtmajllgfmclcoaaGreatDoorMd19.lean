/- TilA, RegF, TilU, TilI in one text. -/
import Derived.Test.YtmajllgfmclcoaaGreatDoorMd02
import Derived.Test.YtmajllgfmclcoaaGreatDoorMd01
import Derived.Test.YtmajllgfmclcoaaGreatDoorMd09
import Derived.OpenShut
import Derived.ChangeSlices
import Derived.ProofKit
import Derived.Test.YtmajllgfmclcoaaGreatDoorMd13
import Derived.Deep.RegionHeld3
set_option linter.unusedVariables false
set_option linter.unusedSimpArgs false
namespace Go.Proofs.YtmajllgfmclcoaaGreatDoor.Til
open Go.RowKit Go.Proofs.YtmajllgfmclcoaaGreatDoor.Cell Dom Dms Go.Joins
def Bc (w : World) (x y : Int) (W : World) : Prop := Below w.heap.size w W ∧ At2 W w.heap.size x y
theorem bc_start (x y : Int) (w : World) : Bc w x y (w.alloc (.cells #[.int .i64 x, .int .i64 y] 79)) := ⟨below_alloc1 w _, At2.new w x y⟩
theorem Bc.on {w W W' : World} {x y : Int} (h : Bc w x y W) (hb : Below W.heap.size W W') : Bc w x y W' := ⟨h.1.trans (hb.mono h.1.size), h.2.on hb⟩
def Miss (L : List Dm) (x y : Int) (k : Nat) : Prop := ∀ j e, j < k → L[j]? = some e → covM e x y = false
theorem Miss.zero (L : List Dm) (x y : Int) : Miss L x y 0 := fun j e h => by omega
theorem Miss.succ {L : List Dm} {x y : Int} {k : Nat} (h : Miss L x y k) {d : Dm} (hd : L[k]? = some d) (hc : covM d x y = false) : Miss L x y (k + 1) := by
 intro j e hj he
 by_cases hjk : j = k
 ·subst hjk; rw [hd] at he; injection he with he; subst he; exact hc
 ·exact h j e (by omega) he
theorem Miss.hit {L : List Dm} {x y : Int} {k : Nat} (h : Miss L x y k) {d : Dm} (hd : L[k]? = some d) (hc : covM d x y = true) : atI L x y = (k : Int) := atI_hit h hd hc
theorem Miss.all {L : List Dm} {x y : Int} (h : Miss L x y L.length) : atI L x y = -1 := atI_miss h
set_option maxRecDepth 100000 in
set_option maxHeartbeats 1000000 in
theorem iDominoAt (w : World) (A : Option Addr) (n cap B : Nat) (L : List Dm) (hL : L.length = n) (hn : (n : Int) ≤ 9223372036854775807) (hf : Fits L) (h : RowM w B A L) (hB : B ≤ w.heap.size) (x y : Int) :
  Calls Tryz.prog 137 #[.slice A n cap, .agg #[.int .i64 x, .int .i64 y]] w (Num (atI L x y) w) := by
 obtain ⟨b0, off, h1, h2⟩ := h.at
 have HA := Lh (fun hp => h1 hp)
 have HC := Lh h2
 have HL := Lh hL
 have HF := Lh hf
 have HB := Lh hB
 have HS := Lh (bc_start x y w)
 clear h h1 h2 hL hf hB
 go_enter Tryz.func137, Tryz.ntmps137
 go_wp2_with fail
 go_loopw [9] (fun i wr => ∃ j : Nat, j ≤ n ∧ i = .int .i64 j ∧ Bc w x y wr ∧ Hid (Miss L x y j)) (fun i _ => n - (intOf i).toNat)
 case atStart => exact ⟨0, Nat.zero_le _, rfl, HS.out, Lh (Miss.zero _ _ _)⟩
 case round =>
  clear HS
  obtain ⟨j, hj, rfl, hT, hM⟩ := hrel
  have hbs := hT.1.size
  by_cases hlt : j < n
  ·have hjL : j < L.length := by have := HL.out; omega
   obtain ⟨rfl, hbB⟩ := HA.out (by omega)
   obtain ⟨c0, c1, c2⟩ := HC.out j hjL
   have hbw : b0 < w.heap.size := by have := HB.out; omega
   have c0 := (hT.1.cell (p := ⟨b0, off + j * 3, none⟩) hbw).trans c0
   have c1 := (hT.1.cell (p := ⟨b0, off + j * 3 + 1, none⟩) hbw).trans c1
   have c2 := (hT.1.cell (p := ⟨b0, off + j * 3 + 2, none⟩) hbw).trans c2
   obtain ⟨f1, f2⟩ := HF.out L[j] (List.getElem_mem hjL)
   have HD := Lh (List.getElem?_eq_getElem (l := L) hjL)
   generalize L[j] = d at c0 c1 c2 f1 f2 HD
   obtain ⟨u, v, b⟩ := d
   simp only at c0 c1 c2 f1 f2
   have HO := Lh (fun W => iDominoOk u v b f1 f2 W)
   have HV := Lh (fun W => iCovers u v b f1 f2 x y W)
   have HK := Lh (show covM (u, v, b) x y = (domB u v b && (eqB x y u v || eqB x y (sx u b) (sy v b))) from rfl)
   generalize domB u v b = p at HO HK
   generalize (eqB x y u v || eqB x y (sx u b) (sy v b)) = r at HV HK
   have HT := Lh hT
   clear f1 f2 hT hbs
   go_wp2_with fail
   refine (HO.out _).mono ?_
   rintro e w1 ⟨rfl, hb1⟩
   obtain ⟨hbw1, K1⟩ := bx3 u v b wr w1 hb1
   have T1 := HT.out.on hbw1
   have k0 := K1.c0
   have k1 := K1.c1
   have k2 := K1.c2
   have k3 := T1.2.c0
   have k4 := T1.2.c1
   clear hb1 HO K1 HT hbw1
   cases p with
   | false =>
    have HM := Lh (hM.out.succ HD.out (by rw [HK.out]; rfl))
    clear k0 k1 k2 k3 k4 HV HK hM HD
    go_wp2
    go_roundw
    case rel => exact ⟨j + 1, by omega, by go_num, T1, HM⟩
    case measure => (simp [intOf] <;> omega)
   | true =>
    go_wp2_with fail
    refine (HV.out _).mono ?_
    rintro e w2 ⟨rfl, hb2⟩
    have T2 := T1.on hb2
    clear k0 k1 k2 k3 k4 T1 hb2 HV
    cases r with
    | true =>
     have HE := Lh (hM.out.hit HD.out (by rw [HK.out]; rfl))
     go_wp2
     go_ret
     rw [HE.out]
     exact ⟨rfl, T2.1⟩
    | false =>
     have HM := Lh (hM.out.succ HD.out (by rw [HK.out]; rfl))
     clear HK hM HD
     go_wp2
     go_roundw
     case rel => exact ⟨j + 1, by omega, by go_num, T2, HM⟩
     case measure => (simp [intOf] <;> omega)
  ·obtain rfl : j = n := by omega
   have HE := Lh (show atI L x y = -1 from Miss.all (by rw [HL.out]; exact hM.out))
   go_wp2
   go_ret
   rw [HE.out]
   exact ⟨rfl, hT.1⟩
set_option maxRecDepth 100000 in
set_option maxHeartbeats 1000000 in
theorem sDominoAt (w : World) (A : Option Addr) (n cap B : Nat) (L : List Dm) (hL : L.length = n) (hn : (n : Int) ≤ 9223372036854775807) (h : RowM w B A L) (hB : B ≤ w.heap.size) (x y : Int) :
  Calls Tryz.prog 91 #[.slice A n cap, .agg #[.int .i64 x, .int .i64 y]] w (Num (atI L x y) w) := by
 obtain ⟨b0, off, h1, h2⟩ := h.at
 have HA := Lh (fun hp => h1 hp)
 have HC := Lh h2
 have HL := Lh hL
 have HB := Lh hB
 have HS := Lh (bc_start x y w)
 clear h h1 h2 hL hB
 go_enter Tryz.func91, Tryz.ntmps91
 go_wp2_with fail
 go_loopw [5] (fun i wr => ∃ j : Nat, j ≤ n ∧ i = .int .i64 j ∧ Bc w x y wr ∧ Hid (Miss L x y j)) (fun i _ => n - (intOf i).toNat)
 case atStart => exact ⟨0, Nat.zero_le _, rfl, HS.out, Lh (Miss.zero _ _ _)⟩
 case round =>
  clear HS
  obtain ⟨j, hj, rfl, hT, hM⟩ := hrel
  have hbs := hT.1.size
  by_cases hlt : j < n
  ·have hjL : j < L.length := by have := HL.out; omega
   obtain ⟨rfl, hbB⟩ := HA.out (by omega)
   obtain ⟨c0, c1, c2⟩ := HC.out j hjL
   have hbw : b0 < w.heap.size := by have := HB.out; omega
   have c0 := (hT.1.cell (p := ⟨b0, off + j * 3, none⟩) hbw).trans c0
   have c1 := (hT.1.cell (p := ⟨b0, off + j * 3 + 1, none⟩) hbw).trans c1
   have c2 := (hT.1.cell (p := ⟨b0, off + j * 3 + 2, none⟩) hbw).trans c2
   have HD := Lh (List.getElem?_eq_getElem (l := L) hjL)
   generalize L[j] = d at c0 c1 c2 HD
   obtain ⟨u, v, b⟩ := d
   simp only at c0 c1 c2
   have HO := Lh (fun W => sDominoOk u v b W)
   have HU := Lh (fun hd W => sCellsUnder_ok u v b hd W)
   have HK := Lh (show covM (u, v, b) x y = (domB u v b && (eqB x y u v || eqB x y (sx u b) (sy v b))) from rfl)
   generalize domB u v b = p at HO HU HK
   generalize sx u b = m at HU HK
   generalize sy v b = q at HU HK
   have HT := Lh hT
   go_wp2_with fail
   refine (HO.out _).mono ?_
   rintro e w1 ⟨rfl, hb1⟩
   have T1 := HT.out.on hb1
   clear HO HT hT hbs
   cases p with
   | false =>
    have HM := Lh (hM.out.succ HD.out (by rw [HK.out]; rfl))
    clear c0 c1 c2 HU HK hM HD hb1
    go_wp2
    go_roundw
    case rel => exact ⟨j + 1, by omega, by go_num, T1, HM⟩
    case measure => (simp [intOf] <;> omega)
   | true =>
    have hwr : b0 < wr.heap.size := World.block_lt_of_cell? _ _ c0
    have c0 := (hb1.cell (p := ⟨b0, off + j * 3, none⟩) hwr).trans c0
    have c1 := (hb1.cell (p := ⟨b0, off + j * 3 + 1, none⟩) hwr).trans c1
    have c2 := (hb1.cell (p := ⟨b0, off + j * 3 + 2, none⟩) hwr).trans c2
    clear hb1
    go_wp2_with fail
    refine (HU.out trivial _).mono ?_
    rintro e w2 ⟨rfl, hb2⟩
    have T2 := T1.on hb2
    clear c0 c1 c2 T1 hb2 HU
    go_upto_region 6 with fail
    obtain ⟨k1, k2, k3⟩ := at2_two w2 u v m q
    have T3 := T2.on k3
    generalize (w2.alloc (.cells #[.int .i64 u, .int .i64 v] 79)).alloc (.cells #[.int .i64 m, .int .i64 q] 79) = W at k1 k2 T3 ⊢
    have c0 := k1.c0
    have c1 := k1.c1
    have c2 := k2.c0
    have c3 := k2.c1
    have c4 := T3.2.c0
    have c5 := T3.2.c1
    have HY := Lh (fun (hh : (u = x ∧ v = y) ∨ (m = x ∧ q = y)) => hM.out.hit HD.out (by rw [HK.out]; simp [eqB_iff]; rcases hh with ⟨rfl, rfl⟩ | ⟨rfl, rfl⟩ <;> simp))
    have HN := Lh (fun (hh : ¬ ((u = x ∧ v = y) ∨ (m = x ∧ q = y))) => hM.out.succ HD.out (by rw [HK.out, Bool.true_and, Bool.eq_false_iff]; intro hc; simp only [Bool.or_eq_true, eqB_iff] at hc; exact hh (by omega)))
    have HT3 := Lh T3
    clear k1 k2 k3 T2 T3 HK hM HD
    go_wp2
    all_goals first
     | (go_ret; rw [HY.out (by omega)]; exact ⟨rfl, HT3.out.1⟩)
     | (refine ⟨⟨j + 1, by omega, by go_num, HT3.out, Lh (HN.out (by omega))⟩, ?_⟩; simp [intOf] <;> omega)
  ·obtain rfl : j = n := by omega
   have HE := Lh (show atI L x y = -1 from Miss.all (by rw [HL.out]; exact hM.out))
   go_wp2
   go_ret
   rw [HE.out]
   exact ⟨rfl, hT.1⟩
end Go.Proofs.YtmajllgfmclcoaaGreatDoor.Til
namespace Go.Proofs.YtmajllgfmclcoaaGreatDoor.Reg
open Go.ChangeShapes Go.WideShapes Go.ChangeAt Go.RowKit Go.Joins
theorem add_none (b o j : Nat) : (⟨b, o, none⟩ : Addr).add j = ⟨b, o + j, none⟩ := by unfold Addr.add; split <;> simp_all
end Go.Proofs.YtmajllgfmclcoaaGreatDoor.Reg
namespace Go.Proofs.YtmajllgfmclcoaaGreatDoor.Til
open Go.RowKit Base Go.Proofs.YtmajllgfmclcoaaGreatDoor.Pure Cels Dom Dms Go.Joins
open Reg hiding add_none
theorem unc_case (L : List Dm) (C : List (Int × Int)) {k : Nat} (hk : k < C.length) : (atI L C[k].1 C[k].2 < 0 ∧ unc L (C.take (k + 1)) = unc L (C.take k) ++ [C[k]]) ∨ (¬ atI L C[k].1 C[k].2 < 0 ∧ unc L (C.take (k + 1)) = unc L (C.take k)) := by
  have h := atI_neg (L := L) (x := C[k].1) (y := C[k].2)
  cases ha : anyM L C[k].1 C[k].2 with
  | false => rw [ha] at h; exact .inl ⟨by simpa using h, unc_yes hk ha⟩
  | true => rw [ha] at h; exact .inr ⟨by simpa using h, unc_no hk ha⟩
def RdC (W : World) (b off : Nat) (C : List (Int × Int)) : Prop :=
  (0 < C.length → b < W.heap.size) ∧ ∀ j p, C[j]? = some p → W.cell? ⟨b, off + j * 2, none⟩ = some (.int .i64 p.1) ∧ W.cell? ⟨b, off + j * 2 + 1, none⟩ = some (.int .i64 p.2)
theorem RdC.same {W W' : World} {b off : Nat} {C : List (Int × Int)} (h : RdC W b off C) (hz : W.heap.size ≤ W'.heap.size) (hb : 0 < C.length → W'.heap[b]? = W.heap[b]?) : RdC W' b off C := by
  refine ⟨fun h0 => Nat.lt_of_lt_of_le (h.1 h0) hz, fun j p hp => ?_⟩
  have h0 : 0 < C.length := by have := (List.getElem?_eq_some_iff.1 hp).1; omega
  obtain ⟨a, c⟩ := h.2 j p hp
  exact ⟨(World.cell?_of_block (a := ⟨b, off + j * 2, none⟩) (hb h0)).trans a, (World.cell?_of_block (a := ⟨b, off + j * 2 + 1, none⟩) (hb h0)).trans c⟩
theorem RdC.on {W W' : World} {b off : Nat} {C : List (Int × Int)} (h : RdC W b off C) (hb : Below W.heap.size W W') : RdC W' b off C := h.same hb.size fun h0 => hb.block b (h.1 h0)
theorem RdC.grown {W W' : World} {b off g : Nat} {C : List (Int × Int)} (h : RdC W b off C) (hg : W.grownBy W' (some g)) (hne : 0 < C.length → g ≠ b) : RdC W' b off C :=
  h.same hg.size fun h0 => hg.block b (h.1 h0) (by intro e; injection e with e; exact hne h0 e.symm)
set_option maxRecDepth 100000 in
set_option maxHeartbeats 2000000 in
theorem iUncoveredOf (w : World) (A : Option Addr) (n cap B : Nat) (xs : List Int) (hx : xs.length = n) (hn : (n : Int) ≤ 9223372036854775807) (h : RowB w B A xs) (hB : B ≤ w.heap.size)
    (A' : Option Addr) (n' cap' B' : Nat) (L : List Dm) (hL : L.length = n') (hn' : (n' : Int) ≤ 9223372036854775807) (hf : Fits L) (h' : RowM w B' A' L) (hB' : B' ≤ w.heap.size) :
    Calls Tryz.prog 116 #[.agg #[.slice A n cap], .slice A' n' cap'] w (NbPost (unc L (cellsR xs)) w) := by
  obtain ⟨i0, hi, hz0, hz1, hz2⟩ := info_parts cellInfo
  have HC := Lh (fun W (hb : Below w.heap.size w W) => iCellsOf W A n cap B xs hx hn (h.below hb hB) (by have := hb.size; omega))
  have HA := Lh (fun W (hb : Below w.heap.size w W) x y => iDominoAt W A' n' cap' B' L hL hn' hf (h'.below hb hB') (by have := hb.size; omega) x y)
  have HS := Lh (fun (o : Obj) => below_alloc1 w o)
  have HLC := cellsR_length xs
  generalize cellsR xs = C at HC HLC ⊢
  have HU := Lh (fun k (hk : k < C.length) => unc_case L C hk)
  have HUL := Lh (fun k => unc_length L (C.take k))
  clear hx hn h hB hL hn' hf h' hB'
  go_enter Tryz.func116, Tryz.ntmps116
  go_wp2_with fail
  refine (HC.out _ (HS.out _)).mono ?_
  rintro e w1 ⟨A1, cap1, rfl, hown1, hb1⟩
  have hbw1 := (HS.out _).trans (hb1.mono (HS.out _).size)
  obtain ⟨b, off, hA1, hR1⟩ := rowC_own hown1
  have R1 : RdC w1 b off C := ⟨fun h0 => (hA1 h0).2, hR1⟩
  have HA1 := Lh (fun h0 => (hA1 h0).1)
  have HNil := Lh (World.ownsRow_nil w1 w1.heap.size 79 2)
  clear HC HS hown1 hb1 hA1 hR1
  go_wp2_with fail
  go_loopw [5, 11] (fun v i wr => ∃ j : Nat, j ≤ C.length ∧ i = .int .i64 j ∧ wr.ownsRow w1.heap.size 79 2 v (unc L (C.take j)).length (rowC (unc L (C.take j))) ∧ Below w1.heap.size w1 wr) (fun _ i _ => C.length - (intOf i).toNat)
  case atStart => exact ⟨0, Nat.zero_le _, rfl, by simpa [unc, rowC] using HNil.out, Below.refl _ _⟩
  case round =>
    clear HNil
    obtain ⟨j, hj, rfl, hown, hb⟩ := hrel
    have hbs := hb.size
    by_cases hlt : j < C.length
    · obtain rfl := HA1.out (by omega)
      have hbb : b < w1.heap.size := R1.1 (by omega)
      obtain ⟨c0, c1⟩ := R1.2 j C[j] (List.getElem?_eq_getElem hlt)
      have c0 := (hb.cell (p := ⟨b, off + j * 2, none⟩) hbb).trans c0
      have c1 := (hb.cell (p := ⟨b, off + j * 2 + 1, none⟩) hbb).trans c1
      have HCs := Lh (HU.out j hlt)
      generalize C[j] = c at c0 c1 HCs
      obtain ⟨x, y⟩ := c
      simp only at c0 c1
      have HQ := Lh (fun W (hb : Below w.heap.size w W) => HA.out W hb x y)
      generalize atI L x y = q at HQ HCs
      have hbw := hbw1.trans (hb.mono hbw1.size)
      have hLn := HUL.out j
      have HOwn := Lh hown
      clear hown
      have hj64 : (unc L (C.take j)).length ≤ 64 := by have : (C.take j).length ≤ C.length := by rw [List.length_take]; omega
                                                       omega
      generalize hU : unc L (C.take j) = U at HOwn HCs hj64
      clear hLn hU
      go_wp2_with fail
      refine (HQ.out _ (hbw.alloc hbw.size _)).mono ?_
      rintro e w2 ⟨rfl, hb2⟩
      have k1 : At2 w2 wr.heap.size x y := (At2.new wr x y).on hb2
      have hE : Below wr.heap.size wr w2 := (below_alloc1 wr _).trans (hb2.mono (by simp))
      have HOwn2 := Lh (Reg.own_below HOwn.out hE NR)
      have hB2 := hb.trans (hE.mono hbs)
      have hs2 := hE.size
      have d0 := k1.c0
      have d1 := k1.c1
      clear c0 c1 k1 hE hb2 HOwn HQ hbw hb
      rcases HCs.out with ⟨hq, hN⟩ | ⟨hq, hN⟩
      · have HN := Lh hN
        clear hN HCs
        go_wp2_with (first
          | (at_builtin; refine wpList_append_own _ rfl _ _ 75 rfl w1.heap.size 79 i0 (.agg #[.int .i64 0, .int .i64 0]) 2 16 Tryz.underlying75 hi hz0 hz1 hz2 rfl (by decide) _ U.length (rowC U) rfl (HOwn2.out.alloc _) ⟨w2.heap.size, 0, none⟩ 1 1 [.int .i64 x, .int .i64 y] rfl rfl (World.news_of_block (cs := #[.int .i64 x, .int .i64 y]) (t := 79) (fr := (0, 0)) (heap_alloc_new w2 _)) (by simp [Value.oneCell']) (by unfold maxLen; omega) (by omega) (by simp; omega) ?_; intro v2 w3 hown3 hgrow _))
        have hb3 : Below w1.heap.size w1 w3 := (hB2.alloc (by omega) _).grown hgrow (by simp; omega) (fun g hg => (HOwn2.out.lt g hg).1)
        have R := Lh (show w3.ownsRow w1.heap.size 79 2 v2 (U ++ [(x, y)]).length (rowC (U ++ [(x, y)])) by
          rw [rowC_snoc, List.length_append]; exact hown3)
        clear hown3 hgrow
        go_wp2
        go_roundw
        case rel => exact ⟨j + 1, by omega, by go_num, by rw [HN.out]; exact R.out, hb3⟩
        case measure => (simp [intOf] <;> omega)
      · have HN := Lh hN
        clear hN HCs
        go_wp2
        go_roundw
        case rel => exact ⟨j + 1, by omega, by go_num, by rw [HN.out]; exact HOwn2.out, hB2⟩
        case measure => (simp [intOf] <;> omega)
    · obtain rfl : j = C.length := by omega
      obtain ⟨A2, cap2, rfl⟩ := own_shape hown
      have hEnd := hbw1.trans (hb.mono hbw1.size)
      have HOwn := Lh hown
      clear hown hb
      go_wp2
      go_ret
      rw [List.take_length] at HOwn
      have hz := hbw1.size
      rw [List.take_length]
      exact ⟨A2, cap2, rfl, Reg.own_base HOwn.out (by omega), hEnd⟩
set_option maxRecDepth 100000 in
set_option maxHeartbeats 2000000 in
theorem sUncoveredOf (w : World) (A : Option Addr) (n cap B : Nat) (xs : List Int) (hx : xs.length = n) (hn : (n : Int) ≤ 9223372036854775807) (h : RowB w B A xs) (hB : B ≤ w.heap.size)
    (A' : Option Addr) (n' cap' B' : Nat) (L : List Dm) (hL : L.length = n') (hn' : (n' : Int) ≤ 9223372036854775807) (h' : RowM w B' A' L) (hB' : B' ≤ w.heap.size) :
    Calls Tryz.prog 89 #[.agg #[.slice A n cap], .slice A' n' cap'] w (NbPost (unc L (cellsR xs)) w) := by
  obtain ⟨i0, hi, hz0, hz1, hz2⟩ := info_parts cellInfo
  have HM := Lh (fun (W : World) => World.ownsRow_made (e := 79) (size := 2) W #[] 0 NR (by unfold maxLen; omega) rfl)
  have HC := Lh (fun W (hb : Below w.heap.size w W) => sCellsOf W A n cap B xs hx hn (h.below hb hB) (by have := hb.size; omega))
  have HA := Lh (fun W (hb : Below w.heap.size w W) x y => sDominoAt W A' n' cap' B' L hL hn' (h'.below hb hB') (by have := hb.size; omega) x y)
  have HS := Lh (fun (o : Obj) => below_alloc1 w o)
  have HLC := cellsR_length xs
  generalize cellsR xs = C at HC HLC ⊢
  have HU := Lh (fun k (hk : k < C.length) => unc_case L C hk)
  have HUL := Lh (fun k => unc_length L (C.take k))
  clear hx hn h hB hL hn' h' hB'
  go_enter Tryz.func89, Tryz.ntmps89
  go_wp2_with fail
  have hbw0 := HS.out (.cells #[.slice A n cap] 26)
  have hown0 := HM.out (w.alloc (.cells #[.slice A n cap] 26))
  have hz0w : (w.alloc (.cells #[.slice A n cap] 26)).heap.size = w.heap.size + 1 := by simp
  generalize w.alloc (.cells #[.slice A n cap] 26) = W0 at hbw0 hown0 hz0w ⊢
  have hbw := hbw0.alloc hbw0.size (.cells #[] 79)
  have hz1w : (W0.alloc (.cells #[] 79)).heap.size = w.heap.size + 2 := by simp [hz0w]
  rw [hz0w] at hown0
  generalize W0.alloc (.cells #[] 79) = W1 at hbw hown0 hz1w ⊢
  refine (HC.out _ hbw).mono ?_
  rintro e w1 ⟨A1, cap1, rfl, hown1, hb1⟩
  have hbw1 := hbw.trans (hb1.mono hbw.size)
  obtain ⟨b, off, hA1, hR1⟩ := rowC_own hown1
  have R1 : RdC w1 b off C := ⟨fun h0 => (hA1 h0).2, hR1⟩
  have hb2 : 0 < C.length → w.heap.size + 2 ≤ b := fun h0 => by
    obtain ⟨g, c, hv, hg, _⟩ := hown1.form h0
    have e := (hA1 h0).1
    rw [e] at hv
    injection hv with hv
    injection hv with hv
    injection hv with hv
    omega
  have HA1 := Lh (fun h0 => (hA1 h0).1)
  have HOwn0 := Lh (Reg.own_base (B' := w.heap.size + 1) (Reg.own_below hown0 hb1 NR) (by omega))
  have HB1 := Lh hb1.size
  clear HC HS hb1 hA1 hR1 hbw0 hbw hz0w hown0 hown1 HM
  go_wp2_with fail
  go_loopw [5, 7] (fun v i wr => ∃ j g c : Nat, j ≤ C.length ∧ i = .int .i64 j ∧ v = .slice (some ⟨g, 0, none⟩) (unc L (C.take j)).length c ∧ wr.ownsRow (w.heap.size + 1) 79 2 v (unc L (C.take j)).length (rowC (unc L (C.take j))) ∧ Below w.heap.size w wr ∧ RdC wr b off C ∧ Hid (0 < C.length → g ≠ b)) (fun _ i _ => C.length - (intOf i).toNat)
  case atStart => exact ⟨0, w.heap.size + 1, 0, Nat.zero_le _, rfl, by simp [unc], by simpa [unc, rowC] using HOwn0.out, hbw1, R1, Lh (fun h0 => by have := hb2 h0; omega)⟩
  case round =>
    clear HOwn0 R1 hbw1
    obtain ⟨j, g, cg, hj, rfl, rfl, hown, hb, R1, hg⟩ := hrel
    have hbs := hb.size
    by_cases hlt : j < C.length
    · obtain rfl := HA1.out (by omega)
      obtain ⟨c0, c1⟩ := R1.2 j C[j] (List.getElem?_eq_getElem hlt)
      have HCs := Lh (HU.out j hlt)
      generalize hcc : C[j] = c at c0 c1 HCs
      obtain ⟨x, y⟩ := c
      simp only at c0 c1
      have HQ := Lh (fun W (hb : Below w.heap.size w W) => HA.out W hb x y)
      generalize atI L x y = q at HQ HCs
      have hLn := HUL.out j
      have HOwn := Lh hown
      clear hown
      have hj64 : (unc L (C.take j)).length ≤ 64 := by have : (C.take j).length ≤ C.length := by rw [List.length_take]; omega
                                                       omega
      generalize hU : unc L (C.take j) = U at HOwn HCs hj64
      clear hLn
      go_wp2_with fail
      refine (HQ.out _ hb).mono ?_
      rintro e w2 ⟨rfl, hE⟩
      have HOwn2 := Lh (Reg.own_below HOwn.out hE NR)
      have hB2 := hb.trans (hE.mono hbs)
      have hs2 := hE.size
      have R2 := R1.on hE
      obtain ⟨d0, d1⟩ := R2.2 j (x, y) (by rw [← hcc]; exact List.getElem?_eq_getElem hlt)
      simp only at d0 d1
      clear c0 c1 hE HOwn HQ hb hcc R1
      rcases HCs.out with ⟨hq, hN⟩ | ⟨hq, hN⟩
      · have HN := Lh hN
        clear hN HCs
        go_wp2_with (first
          | (at_builtin; refine wpList_append_lies _ rfl _ _ 75 rfl (w.heap.size + 1) 79 i0 (.agg #[.int .i64 0, .int .i64 0]) 2 16 Tryz.underlying75 hi hz0 hz1 hz2 rfl (by decide) (.slice (some ⟨g, 0, none⟩) U.length cg) U.length (rowC U) (by rfl) (HOwn2.out.alloc _) ⟨w2.heap.size, 0, none⟩ 1 1 [.int .i64 x, .int .i64 y] (by rfl) rfl (World.news_of_block (cs := #[.int .i64 x, .int .i64 y]) (t := 79) (fr := (0, 0)) (heap_alloc_new w2 _)) (by simp [Value.oneCell']) (by decide) (by unfold maxLen; omega) (by omega) (by simp; omega) (w2.heap.size + 1) (by simp) ?_; intro gg capn w3 hown3 hgrow hat hlt3))
        have hgg := HOwn2.out.lt g rfl
        have hb3 : Below w.heap.size w w3 := (hB2.alloc (by omega) _).grown hgrow (by simp; omega) (fun k hk => by have hk2 : g = k := by { injection hk }; omega)
        have R3 : RdC w3 b off C := (R2.on (below_alloc1 w2 _)).grown hgrow hg.out
        have hg3 : 0 < C.length → gg ≠ b := fun h0 => by
          rcases hat with e | e
          · injection e with e; subst e; exact hg.out h0
          · have := R2.1 h0; omega
        have R := Lh (show w3.ownsRow (w.heap.size + 1) 79 2 (.slice (some ⟨gg, 0, none⟩) (U ++ [(x, y)]).length capn) (U ++ [(x, y)]).length (rowC (U ++ [(x, y)])) by
          rw [rowC_snoc, List.length_append]; exact hown3)
        have HG3 := Lh hg3
        have HLn : (U ++ [(x, y)]).length = U.length + 1 := by simp
        clear hown3 hgrow hat hlt3 hgg R2 d0 d1 hU hg3 HOwn2 hB2
        go_wp2
        go_roundw
        case rel => exact ⟨j + 1, gg, capn, by omega, by go_num, by rw [HN.out, HLn], by rw [HN.out]; have := R.out; rw [HLn] at this ⊢; exact this, hb3, R3, HG3⟩
        case measure => (simp [intOf] <;> omega)
      · have HN := Lh hN
        clear hN HCs hU d0 d1
        go_wp2
        go_roundw
        case rel => exact ⟨j + 1, g, cg, by omega, by go_num, by rw [HN.out], by rw [HN.out]; exact HOwn2.out, hB2, R2, hg⟩
        case measure => (simp [intOf] <;> omega)
    · obtain rfl : j = C.length := by omega
      have HOwn := Lh hown
      clear hown
      go_wp2
      go_ret
      rw [List.take_length] at HOwn
      rw [List.take_length]
      exact ⟨_, _, rfl, Reg.own_base HOwn.out (by omega), hb⟩
end Go.Proofs.YtmajllgfmclcoaaGreatDoor.Til
namespace Go.Proofs.YtmajllgfmclcoaaGreatDoor.Til
open Go.RowKit Go.Proofs.YtmajllgfmclcoaaGreatDoor.Pure Go.Proofs.YtmajllgfmclcoaaGreatDoor.Cell Dom Dms Go.Joins
open Reg hiding add_none
def Rg (W : World) (q : Nat) (v : Value) : Prop := W.heap[q]? = some (.cells #[v] 26)
theorem Rg.on {W W' : World} {q : Nat} {v : Value} (h : Rg W q v) (hb : Below W.heap.size W W') : Rg W' q v := (hb.block q (Array.getElem?_eq_some_iff.1 h).1).trans h
theorem Rg.c0 {W : World} {q : Nat} {v : Value} (h : Rg W q v) : W.cell? ⟨q, 0, none⟩ = some v := (cell_of_row _ _ 0 _ _ _ h).trans rfl
theorem Rg.lt {W : World} {q : Nat} {v : Value} (h : Rg W q v) : q < W.heap.size := (Array.getElem?_eq_some_iff.1 h).1
theorem Rg.new (W : World) (v : Value) : Rg (W.alloc (.cells #[v] 26)) W.heap.size v := heap_alloc_new W _
def RC (w : World) (v : Value) (x y : Int) (W : World) : Prop := Below w.heap.size w W ∧ Rg W w.heap.size v ∧ At2 W (w.heap.size + 1) x y
def RD (w : World) (v : Value) (x y : Int) (b : Bool) (W : World) : Prop := Below w.heap.size w W ∧ Rg W w.heap.size v ∧ At3 63 W (w.heap.size + 1) x y b
theorem rc_start (w : World) (v : Value) (x y : Int) : RC w v x y ((w.alloc (.cells #[v] 26)).alloc (.cells #[.int .i64 x, .int .i64 y] 79)) := by
 have h1 := Rg.new w v
 have hb := below_alloc1 w (.cells #[v] 26)
 have hz : (w.alloc (.cells #[v] 26)).heap.size = w.heap.size + 1 := by simp
 generalize w.alloc (.cells #[v] 26) = W at h1 hb hz ⊢
 have h2 := At2.new W x y
 rw [hz] at h2
 exact ⟨hb.alloc hb.size _, h1.on (below_alloc1 W _), h2⟩
theorem rd_start (w : World) (v : Value) (x y : Int) (b : Bool) : RD w v x y b ((w.alloc (.cells #[v] 26)).alloc (.cells #[.int .i64 x, .int .i64 y, .bool b] 63)) := by
 have h1 := Rg.new w v
 have hb := below_alloc1 w (.cells #[v] 26)
 have hz : (w.alloc (.cells #[v] 26)).heap.size = w.heap.size + 1 := by simp
 generalize w.alloc (.cells #[v] 26) = W at h1 hb hz ⊢
 have h2 := At3.new 63 W x y b
 rw [hz] at h2
 exact ⟨hb.alloc hb.size _, h1.on (below_alloc1 W _), h2⟩
section
variable {w W W' : World} {v : Value} {x y : Int} {b : Bool}
theorem RC.on (h : RC w v x y W) (hb : Below W.heap.size W W') : RC w v x y W' := ⟨h.1.trans (hb.mono h.1.size), h.2.1.on hb, h.2.2.on hb⟩
theorem RD.on (h : RD w v x y b W) (hb : Below W.heap.size W W') : RD w v x y b W' := ⟨h.1.trans (hb.mono h.1.size), h.2.1.on hb, h.2.2.on hb⟩
theorem RD.drew (h : RD w v x y b W) : RD w v x y b W.drew := ⟨h.1.drew, h.2⟩
end
theorem RowM.take {w : World} {B : Nat} {A : Option Addr} {L : List Dm} (h : RowM w B A L) (k : Nat) : RowM w B A (L.take k) := by
 obtain ⟨b, off, h1, h2⟩ := h
 refine ⟨b, off, fun h0 => h1 (by rw [List.length_take] at h0; omega), fun j d hd => h2 j d ?_⟩
 rw [List.getElem?_take] at hd
 split at hd
 ·exact hd
 ·cases hd
theorem Fits.take {L : List Dm} (h : Fits L) (k : Nat) : Fits (L.take k) := fun d hd => h d (List.mem_of_mem_take hd)
set_option maxHeartbeats 1000000 in
theorem iFree (w : World) (A : Option Addr) (n cap B : Nat) (xs : List Int) (hx : xs.length = n) (hn : (n : Int) ≤ 9223372036854775807) (h : RowB w B A xs) (hB : B ≤ w.heap.size)
  (A' : Option Addr) (n' cap' B' : Nat) (L : List Dm) (hL : L.length = n') (hn' : (n' : Int) ≤ 9223372036854775807) (hf : Fits L) (h' : RowM w B' A' L) (hB' : B' ≤ w.heap.size) (x y : Int) :
  Calls Tryz.prog 148 #[.agg #[.slice A n cap], .slice A' n' cap', .agg #[.int .i64 x, .int .i64 y]] w (Bol (hasB xs x y && !anyM L x y) w) := by
 have HH := Lh (fun W (hb : Below w.heap.size w W) => iHasCell W A n cap B xs hx hn (h.below hb hB) (by have := hb.size; omega) x y)
 have HA := Lh (fun W (hb : Below w.heap.size w W) => iDominoAt W A' n' cap' B' L hL hn' hf (h'.below hb hB') (by have := hb.size; omega) x y)
 have HN := Lh (atI_neg (L := L) (x := x) (y := y))
 have HS := Lh (rc_start w (.slice A n cap) x y)
 generalize hasB xs x y = p at HH ⊢
 generalize atI L x y = q at HA HN
 generalize anyM L x y = r at HN ⊢
 clear hx hn h hB hL hn' hf h' hB'
 go_enter Tryz.func148, Tryz.ntmps148
 go_wp2_with fail
 have T0 := HS.out
 refine (HH.out _ T0.1).mono ?_
 rintro e w1 ⟨rfl, hb1⟩
 have T1 := T0.on hb1
 have c0 := T1.2.2.c0
 have c1 := T1.2.2.c1
 clear T0 HS hb1 HH
 cases p with
 | false =>
  go_wp2
  go_ret
  exact mkBol rfl T1.1
 | true =>
  go_wp2_with fail
  refine (HA.out _ T1.1).mono ?_
  rintro e w2 ⟨rfl, hb2⟩
  have hb := T1.1.trans (hb2.mono T1.1.size)
  clear T1 c0 c1 hb2 HA
  by_cases hq : q < 0
  ·have HR := Lh (show r = false by have := HN.out; rw [decide_eq_true hq] at this; simpa using this.symm)
   go_wp2
   go_ret
   exact mkBol (by rw [HR.out]; rfl) hb
  ·have HR := Lh (show r = true by have := HN.out; rw [decide_eq_false hq] at this; simpa using this.symm)
   go_wp2
   go_ret
   exact mkBol (by rw [HR.out, decide_eq_false (by omega)]; rfl) hb
set_option maxHeartbeats 2000000 in
theorem iCanFollow0 (w : World) (A : Option Addr) (n cap B : Nat) (xs : List Int) (hx : xs.length = n) (hn : (n : Int) ≤ 9223372036854775807) (h : RowB w B A xs) (hB : B ≤ w.heap.size)
  (A' : Option Addr) (cap' : Nat) (x y : Int) (b : Bool) (hx1 : Sm x) (hy1 : Sm y) :
  Calls Tryz.prog 136 #[.agg #[.slice A n cap], .slice A' 0 cap', .agg #[.int .i64 x, .int .i64 y, .bool b]] w (Bol (stepB xs [] (x, y, b)) w) := by
 have HF := Lh (fun W (hb : Below w.heap.size w W) x y => iFree W A n cap B xs hx hn (h.below hb hB) (by have := hb.size; omega) A' 0 cap' 0 [] rfl (by omega) (fun d hd => by simp at hd) ⟨0, 0, fun h => by simp at h, fun j u hu => by simp at hu⟩ (Nat.zero_le _) x y)
 have HC := Lh (fun W => iCells x y b hx1 hy1 W)
 have HS := Lh (rd_start w (.slice A n cap) x y b)
 have HV := Lh (show stepB xs [] (x, y, b) = (true && ((hasB xs x y && !anyM [] x y) && (hasB xs (sx x b) (sy y b) && !anyM [] (sx x b) (sy y b)))) from rfl)
 have HF1 := Lh (fun W hb => HF.out W hb x y)
 have HF2 := Lh (fun W hb => HF.out W hb (sx x b) (sy y b))
 generalize stepB xs [] (x, y, b) = r at HV ⊢
 generalize (hasB xs x y && !anyM [] x y) = r1 at HF1 HV
 generalize (hasB xs (sx x b) (sy y b) && !anyM [] (sx x b) (sy y b)) = r2 at HF2 HV
 generalize sx x b = p at HC HF2
 generalize sy y b = q at HC HF2
 clear HF hx hn h hB hx1 hy1
 go_enter Tryz.func136, Tryz.ntmps136
 go_upto_region 1 with fail
 have T0 := HS.out
 generalize World.alloc _ (.cells #[.int .i64 x, .int .i64 y, .bool b] 63) = W at T0 ⊢
 clear HS
 refine wp_region_noPanic ?_
 refine wp_region_held_drew (S := fun _ => True) (by kernel_rfl) trivial (fun hHeld => ?_)
 refine tk 0 ?_; try simp only [Act.put, zk]
 refine tk 1 ?_; try simp only [Act.put, zk]
 refine tk 2 ?_; try simp only [Act.put, zk]
 refine tk 3 ?_; try simp only [Act.put, zk]
 refine tu 4 ?_; try simp only [Act.put, zk]
 refine tu 5 ?_; try simp only [Act.put, zk]
 refine tu 6 ?_; try simp only [Act.put, zk]
 refine tu 7 ?_; try simp only [Act.put, zk]
 refine tu 8 ?_; try simp only [Act.put, zk]
 refine tu 9 ?_; try simp only [Act.put, zk]
 refine tu 10 ?_; try simp only [Act.put, zk]
 refine tu 11 ?_; try simp only [Act.put, zk]
 refine tu 12 ?_; try simp only [Act.put, zk]
 refine tk 13 ?_; try simp only [Act.put, zk]
 refine wpAnyH_done (by kernel_rfl) (NoPanic.normal ?_) _
 have T1 := T0.drew
 generalize W.drew = W1 at T1 ⊢
 have d0 := T1.2.2.c0
 have d1 := T1.2.2.c1
 have d2 := T1.2.2.c2
 go_wp2_with fail
 refine (HC.out _).mono ?_
 rintro e w2 ⟨rfl, hb2⟩
 have T2 := T1.on hb2
 clear d0 d1 d2 hb2 HC T1
 go_upto_region 4 with fail
 obtain ⟨k1, k2, k3⟩ := at2_two w2 x y p q
 have T3 := T2.on k3
 generalize (w2.alloc (.cells #[.int .i64 x, .int .i64 y] 79)).alloc (.cells #[.int .i64 p, .int .i64 q] 79) = W2 at k1 k2 T3 ⊢
 have c0 := k1.c0
 have c1 := k1.c1
 have c2 := T3.2.1.c0
 clear k1 k3 T2
 go_wp2_with fail
 refine (HF1.out _ T3.1).mono ?_
 rintro e w3 ⟨rfl, hb3⟩
 have T4 := T3.on hb3
 have k2 := k2.on hb3
 have d0 := k2.c0
 have d1 := k2.c1
 have d2 := T4.2.1.c0
 clear c0 c1 c2 hb3 T3 HF1
 cases r1 with
 | false =>
  go_wp2
  go_ret
  exact mkBol (by rw [HV.out]; rfl) T4.1
 | true =>
  go_wp2_with fail
  refine (HF2.out _ T4.1).mono ?_
  rintro e w4 ⟨rfl, hb4⟩
  have hb := T4.1.trans (hb4.mono T4.1.size)
  clear d0 d1 d2 hb4 HF2 T4
  go_wp2
  go_ret
  exact mkBol (by rw [HV.out]; rfl) hb
set_option maxHeartbeats 2000000 in
theorem iCanFollow1 (w : World) (A : Option Addr) (n cap B : Nat) (xs : List Int) (hx : xs.length = n) (hn : (n : Int) ≤ 9223372036854775807) (h : RowB w B A xs) (hB : B ≤ w.heap.size)
  (A' : Option Addr) (n' cap' B' : Nat) (L : List Dm) (hL : L.length = n') (hn' : (n' : Int) ≤ 9223372036854775807) (hf : Fits L) (h' : RowM w B' A' L) (hB' : B' ≤ w.heap.size) (h0 : 0 < n') (x y : Int) (b : Bool) (hx1 : Sm x) (hy1 : Sm y) :
  Calls Tryz.prog 136 #[.agg #[.slice A n cap], .slice A' n' cap', .agg #[.int .i64 x, .int .i64 y, .bool b]] w (Bol (stepB xs L (x, y, b)) w) := by
 have HF := Lh (fun W (hb : Below w.heap.size w W) x y => iFree W A n cap B xs hx hn (h.below hb hB) (by have := hb.size; omega) A' n' cap' B' L hL hn' hf (h'.below hb hB') (by have := hb.size; omega) x y)
 have HC := Lh (fun W => iCells x y b hx1 hy1 W)
 have HS := Lh (rd_start w (.slice A n cap) x y b)
 obtain ⟨k, hk⟩ : ∃ k, k = n' - 1 := ⟨_, rfl⟩
 have hl : k < L.length := by omega
 obtain ⟨b0, off, hA, hR⟩ := h'.at
 obtain ⟨rfl, hbB⟩ := hA (by omega)
 have hR := hR k hl
 have hlast : L.getLast? = some L[k] := by rw [List.getLast?_eq_getElem?, hL, ← hk]; exact List.getElem?_eq_getElem hl
 have hfl := hf L[k] (List.getElem_mem hl)
 generalize L[k] = d at hR hlast hfl
 obtain ⟨u, v, c⟩ := d
 have HI := Lh (fun W => iIsBefore u v c x y b hfl.1 hfl.2 hx1 hy1 W)
 have HV := Lh (show stepB xs L (x, y, b) = (befB u v c x y b && ((hasB xs x y && !anyM L x y) && (hasB xs (sx x b) (sy y b) && !anyM L (sx x b) (sy y b)))) by unfold stepB; rw [hlast]; rfl)
 have HF1 := Lh (fun W hb => HF.out W hb x y)
 have HF2 := Lh (fun W hb => HF.out W hb (sx x b) (sy y b))
 generalize stepB xs L (x, y, b) = r at HV ⊢
 generalize (hasB xs x y && !anyM L x y) = r1 at HF1 HV
 generalize (hasB xs (sx x b) (sy y b) && !anyM L (sx x b) (sy y b)) = r2 at HF2 HV
 generalize sx x b = p at HC HF2
 generalize sy y b = q at HC HF2
 generalize befB u v c x y b = t at HI HV
 have HW := Lh (fun W (hb : Below w.heap.size w W) => (show _ ∧ _ ∧ _ from ⟨(hb.cell (p := ⟨b0, off + k * 3, none⟩) (by show b0 < _; omega)).trans hR.1, (hb.cell (p := ⟨b0, off + k * 3 + 1, none⟩) (by show b0 < _; omega)).trans hR.2.1, (hb.cell (p := ⟨b0, off + k * 3 + 2, none⟩) (by show b0 < _; omega)).trans hR.2.2⟩))
 simp only at HW
 have HG := Lh (show ((n' : Int) > 0) by omega)
 have hsub : IntKind.i64.wrap ((n' : Int) - 1) = (k : Int) := by rw [IntKind.wrap_i64]; omega
 have hkn : (k : Int) < (n' : Int) := by omega
 have hdec : decide ((n' : Int) > 0) = true := decide_eq_true HG.out
 clear HF hx hn h hB hx1 hy1 hA hR hlast hfl hf h' hbB hB' hl hk hL
 go_enter Tryz.func136, Tryz.ntmps136
 go_upto_region 1 with fail
 have T0 := HS.out
 generalize World.alloc _ (.cells #[.int .i64 x, .int .i64 y, .bool b] 63) = W at T0 ⊢
 clear HS
 refine wp_region_noPanic ?_
 refine wp_region_held_drew (S := (fun w' => w'.cell? ⟨w.heap.size + 1, 0, none⟩ = some (.int .i64 x) ∧ w'.cell? ⟨w.heap.size + 1, 1, none⟩ = some (.int .i64 y) ∧ w'.cell? ⟨w.heap.size + 1, 2, none⟩ = some (.bool b) ∧ w'.cell? ⟨b0, off + k * 3, none⟩ = some (.int .i64 u) ∧ w'.cell? ⟨b0, off + k * 3 + 1, none⟩ = some (.int .i64 v) ∧ w'.cell? ⟨b0, off + k * 3 + 2, none⟩ = some (.bool c))) (by kernel_rfl) (⟨T0.drew.2.2.c0, T0.drew.2.2.c1, T0.drew.2.2.c2, HW.out _ T0.drew.1⟩) (fun hHeld => ?_)
 refine tk 0 ?_; try simp only [Act.put, zk]
 refine tk 1 ?_; try simp only [Act.put, zk]
 refine tk 2 ?_; try simp only [Act.put, zk]
 refine tk 3 ?_; try simp only [Act.put, zk]
 refine tk 4 ?_; try simp only [Act.put, zk]
 refine tk 5 ?_; try simp only [Act.put, zk]
 refine tk 6 ?_; try simp only [Act.put, zk]
 refine tk 7 ?_; try simp only [Act.put, zk]
 refine tk 8 ?_; try simp only [Act.put, zk]
 refine tk 9 ?_; try simp only [Act.put, zk]
 refine tk 10 ?_; try simp only [Act.put, zk]
 refine tr 11 fun K hK => ?_
 go_simp
 refine (HI.out _).mono ?_
 rintro e wx ⟨rfl, hb1⟩
 have T1 := T0.drew.on hb1
 clear T0 hb1 HI
 go_wp2_with fail
 refine hK.out _ _ (⟨T1.2.2.c0, T1.2.2.c1, T1.2.2.c2, HW.out _ T1.1⟩) (fun hHeld => ?_)
 clear hK K
 try simp only [Act.put, zk]
 refine tk 12 ?_; try simp only [Act.put, zk]
 refine tk 13 ?_; try simp only [Act.put, zk]
 refine wpAnyH_done (by kernel_rfl) (NoPanic.normal ?_) _
 clear hHeld
 generalize wx = W1 at T1 ⊢
 cases t with
 | false =>
  go_wp2
  go_ret
  exact mkBol (by rw [HV.out]; rfl) T1.1
 | true =>
  have d0 := T1.2.2.c0
  have d1 := T1.2.2.c1
  have d2 := T1.2.2.c2
  go_wp2_with fail
  refine (HC.out _).mono ?_
  rintro e w2 ⟨rfl, hb2⟩
  have T2 := T1.on hb2
  clear d0 d1 d2 hb2 HC T1
  go_upto_region 4 with fail
  obtain ⟨k1, k2, k3⟩ := at2_two w2 x y p q
  have T3 := T2.on k3
  generalize (w2.alloc (.cells #[.int .i64 x, .int .i64 y] 79)).alloc (.cells #[.int .i64 p, .int .i64 q] 79) = W2 at k1 k2 T3 ⊢
  have c0 := k1.c0
  have c1 := k1.c1
  have c2 := T3.2.1.c0
  clear k1 k3 T2
  go_wp2_with fail
  refine (HF1.out _ T3.1).mono ?_
  rintro e w3 ⟨rfl, hb3⟩
  have T4 := T3.on hb3
  have k2 := k2.on hb3
  have d0 := k2.c0
  have d1 := k2.c1
  have d2 := T4.2.1.c0
  clear c0 c1 c2 hb3 T3 HF1
  cases r1 with
  | false =>
   go_wp2
   go_ret
   exact mkBol (by rw [HV.out]; rfl) T4.1
  | true =>
   go_wp2_with fail
   refine (HF2.out _ T4.1).mono ?_
   rintro e w4 ⟨rfl, hb4⟩
   have hb := T4.1.trans (hb4.mono T4.1.size)
   clear d0 d1 d2 hb4 HF2 T4
   go_wp2
   go_ret
   exact mkBol (by rw [HV.out]; rfl) hb
end Go.Proofs.YtmajllgfmclcoaaGreatDoor.Til
