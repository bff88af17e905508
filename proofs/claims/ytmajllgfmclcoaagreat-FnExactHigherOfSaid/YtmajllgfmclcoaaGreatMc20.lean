/- TilA, RegF, TilU in one text. -/
import Derived.Test.YtmajllgfmclcoaaGreatMc03
import Derived.Test.YtmajllgfmclcoaaGreatMc01
import Derived.Test.YtmajllgfmclcoaaGreatMc08
import Derived.OpenShut
import Derived.ChangeSlices
import Derived.ProofKit
import Derived.Test.YtmajllgfmclcoaaGreatMc13
import Derived.Test.YtmajllgfmclcoaaGreatMc09

namespace Go.Proofs.YtmajllgfmclcoaaGreat.Til
set_option linter.unusedVariables false
set_option linter.unusedSimpArgs false
open Go.RowKit Go.Proofs.YtmajllgfmclcoaaGreat.Cell Go.Proofs.YtmajllgfmclcoaaGreat.Dom Go.Proofs.YtmajllgfmclcoaaGreat.Dms Go.Joins

def Bc (w : World) (x y : Int) (W : World) : Prop := Below w.heap.size w W ∧ At2 W w.heap.size x y
theorem bc_start (x y : Int) (w : World) : Bc w x y (w.alloc (.cells #[.int .i64 x, .int .i64 y] 60)) := ⟨below_alloc1 w _, At2.new w x y⟩
theorem Bc.on {w W W' : World} {x y : Int} (h : Bc w x y W) (hb : Below W.heap.size W W') : Bc w x y W' := ⟨h.1.trans (hb.mono h.1.size), h.2.on hb⟩
def Miss (L : List Dm) (x y : Int) (k : Nat) : Prop := ∀ j e, j < k → L[j]? = some e → covM e x y = false
theorem Miss.zero (L : List Dm) (x y : Int) : Miss L x y 0 := fun j e h => by omega
theorem Miss.succ {L : List Dm} {x y : Int} {k : Nat} (h : Miss L x y k) {d : Dm} (hd : L[k]? = some d) (hc : covM d x y = false) : Miss L x y (k + 1) := by
 intro j e hj he
 by_cases hjk : j = k
 ·subst hjk; rw [hd] at he; injection he with he; subst he; exact hc
 ·exact h j e (by omega) he
theorem Miss.hit {L : List Dm} {x y : Int} {k : Nat} (h : Miss L x y k) {d : Dm} (hd : L[k]? = some d) (hc : covM d x y = true) : atI L x y = (k : Int) := atI_hit h hd hc
theorem Miss.all {L : List Dm} {x y : Int} (h : Miss L x y L.length) : atI L x y = -1 := atI_miss h

set_option maxRecDepth 100000 in
set_option maxHeartbeats 1000000 in
theorem iDominoAt (w : World) (A : Option Addr) (n cap B : Nat) (L : List Dm) (hL : L.length = n) (hn : (n : Int) ≤ 9223372036854775807) (hf : Fits L) (h : RowM w B A L) (hB : B ≤ w.heap.size) (x y : Int) :
  Calls Tryz.prog 96 #[.slice A n cap, .agg #[.int .i64 x, .int .i64 y]] w (Num (atI L x y) w) := by
 obtain ⟨b0, off, h1, h2⟩ := h.at
 have HA := Lib.hid (fun hp => h1 hp)
 have HC := Lib.hid h2
 have HL := Lib.hid hL
 have HF := Lib.hid hf
 have HB := Lib.hid hB
 have HS := Lib.hid (bc_start x y w)
 clear h h1 h2 hL hf hB
 go_enter Tryz.func96, Tryz.ntmps96
 go_wp2_with fail
 go_loopw [9] (fun i wr => ∃ j : Nat, j ≤ n ∧ i = .int .i64 j ∧ Bc w x y wr ∧ Hid (Miss L x y j)) (fun i _ => n - (intOf i).toNat)
 case atStart => exact ⟨0, Nat.zero_le _, rfl, HS.out, Lib.hid (Miss.zero _ _ _)⟩
 case round =>
  clear HS
  obtain ⟨j, hj, rfl, hT, hM⟩ := hrel
  have hbs := hT.1.size
  by_cases hlt : j < n
  ·have hjL : j < L.length := by have := HL.out; omega
   obtain ⟨rfl, hbB⟩ := HA.out (by omega)
   obtain ⟨c0, c1, c2⟩ := HC.out j hjL
   have hbw : b0 < w.heap.size := by have := HB.out; omega
   have c0 := (hT.1.cell (p := ⟨b0, off + j * 3, none⟩) hbw).trans c0
   have c1 := (hT.1.cell (p := ⟨b0, off + j * 3 + 1, none⟩) hbw).trans c1
   have c2 := (hT.1.cell (p := ⟨b0, off + j * 3 + 2, none⟩) hbw).trans c2
   obtain ⟨f1, f2⟩ := HF.out L[j] (List.getElem_mem hjL)
   have HD := Lib.hid (List.getElem?_eq_getElem (l := L) hjL)
   generalize L[j] = d at c0 c1 c2 f1 f2 HD
   obtain ⟨u, v, b⟩ := d
   simp only at c0 c1 c2 f1 f2
   have HO := Lib.hid (fun W => iDominoOk u v b f1 f2 W)
   have HV := Lib.hid (fun W => iCovers u v b f1 f2 x y W)
   have HK := Lib.hid (show covM (u, v, b) x y = (domB u v b && (eqB x y u v || eqB x y (sx u b) (sy v b))) from rfl)
   generalize domB u v b = p at HO HK
   generalize (eqB x y u v || eqB x y (sx u b) (sy v b)) = r at HV HK
   have HT := Lib.hid hT
   clear f1 f2 hT hbs
   go_wp2_with fail
   refine (HO.out _).mono ?_
   rintro e w1 ⟨rfl, hb1⟩
   obtain ⟨hbw1, K1⟩ := bx3 u v b wr w1 hb1
   have T1 := HT.out.on hbw1
   have k0 := K1.c0
   have k1 := K1.c1
   have k2 := K1.c2
   have k3 := T1.2.c0
   have k4 := T1.2.c1
   clear hb1 HO K1 HT hbw1
   cases p with
   | false =>
    have HM := Lib.hid (hM.out.succ HD.out (by rw [HK.out]; rfl))
    clear k0 k1 k2 k3 k4 HV HK hM HD
    go_wp2
    go_roundw
    case rel => exact ⟨j + 1, by omega, by go_num, T1, HM⟩
    case measure => (simp [intOf] <;> omega)
   | true =>
    go_wp2_with fail
    refine (HV.out _).mono ?_
    rintro e w2 ⟨rfl, hb2⟩
    have T2 := T1.on hb2
    clear k0 k1 k2 k3 k4 T1 hb2 HV
    cases r with
    | true =>
     have HE := Lib.hid (hM.out.hit HD.out (by rw [HK.out]; rfl))
     go_wp2
     go_ret
     rw [HE.out]
     exact ⟨rfl, T2.1⟩
    | false =>
     have HM := Lib.hid (hM.out.succ HD.out (by rw [HK.out]; rfl))
     clear HK hM HD
     go_wp2
     go_roundw
     case rel => exact ⟨j + 1, by omega, by go_num, T2, HM⟩
     case measure => (simp [intOf] <;> omega)
  ·obtain rfl : j = n := by omega
   have HE := Lib.hid (show atI L x y = -1 from Miss.all (by rw [HL.out]; exact hM.out))
   go_wp2
   go_ret
   rw [HE.out]
   exact ⟨rfl, hT.1⟩
end Go.Proofs.YtmajllgfmclcoaaGreat.Til

namespace Go.Proofs.YtmajllgfmclcoaaGreat.Reg
open Go.ChangeShapes Go.WideShapes Go.ChangeAt Go.RowKit Go.Joins
set_option linter.unusedVariables false

theorem add_none (b o j : Nat) : (⟨b, o, none⟩ : Addr).add j = ⟨b, o + j, none⟩ := by unfold Addr.add; split <;> simp_all

end Go.Proofs.YtmajllgfmclcoaaGreat.Reg

namespace Go.Proofs.YtmajllgfmclcoaaGreat.Til
set_option linter.unusedVariables false
set_option linter.unusedSimpArgs false
open Go.RowKit Go.Proofs.YtmajllgfmclcoaaGreat.Base Go.Proofs.YtmajllgfmclcoaaGreat.Pure Go.Proofs.YtmajllgfmclcoaaGreat.Cels Go.Proofs.YtmajllgfmclcoaaGreat.Dom Go.Proofs.YtmajllgfmclcoaaGreat.Dms Go.Joins
open Go.Proofs.YtmajllgfmclcoaaGreat.Reg hiding Yes add_none

theorem unc_case (L : List Dm) (C : List (Int × Int)) {k : Nat} (hk : k < C.length) : (atI L C[k].1 C[k].2 < 0 ∧ unc L (C.take (k + 1)) = unc L (C.take k) ++ [C[k]]) ∨ (¬ atI L C[k].1 C[k].2 < 0 ∧ unc L (C.take (k + 1)) = unc L (C.take k)) := by
  have h := atI_neg (L := L) (x := C[k].1) (y := C[k].2)
  cases ha : anyM L C[k].1 C[k].2 with
  | false => rw [ha] at h; exact .inl ⟨by simpa using h, unc_yes hk ha⟩
  | true => rw [ha] at h; exact .inr ⟨by simpa using h, unc_no hk ha⟩
def RdC (W : World) (b off : Nat) (C : List (Int × Int)) : Prop :=
  (0 < C.length → b < W.heap.size) ∧ ∀ j p, C[j]? = some p → W.cell? ⟨b, off + j * 2, none⟩ = some (.int .i64 p.1) ∧ W.cell? ⟨b, off + j * 2 + 1, none⟩ = some (.int .i64 p.2)
theorem RdC.same {W W' : World} {b off : Nat} {C : List (Int × Int)} (h : RdC W b off C) (hz : W.heap.size ≤ W'.heap.size) (hb : 0 < C.length → W'.heap[b]? = W.heap[b]?) : RdC W' b off C := by
  refine ⟨fun h0 => Nat.lt_of_lt_of_le (h.1 h0) hz, fun j p hp => ?_⟩
  have h0 : 0 < C.length := by have := (List.getElem?_eq_some_iff.1 hp).1; omega
  obtain ⟨a, c⟩ := h.2 j p hp
  exact ⟨(World.cell?_of_block (a := ⟨b, off + j * 2, none⟩) (hb h0)).trans a, (World.cell?_of_block (a := ⟨b, off + j * 2 + 1, none⟩) (hb h0)).trans c⟩
theorem RdC.on {W W' : World} {b off : Nat} {C : List (Int × Int)} (h : RdC W b off C) (hb : Below W.heap.size W W') : RdC W' b off C := h.same hb.size fun h0 => hb.block b (h.1 h0)
theorem RdC.grown {W W' : World} {b off g : Nat} {C : List (Int × Int)} (h : RdC W b off C) (hg : W.grownBy W' (some g)) (hne : 0 < C.length → g ≠ b) : RdC W' b off C :=
  h.same hg.size fun h0 => hg.block b (h.1 h0) (by intro e; injection e with e; exact hne h0 e.symm)

set_option maxRecDepth 100000 in
set_option maxHeartbeats 2000000 in
theorem iUncoveredOf (w : World) (A : Option Addr) (n cap B : Nat) (xs : List Int) (hx : xs.length = n) (hn : (n : Int) ≤ 9223372036854775807) (h : RowB w B A xs) (hB : B ≤ w.heap.size)
    (A' : Option Addr) (n' cap' B' : Nat) (L : List Dm) (hL : L.length = n') (hn' : (n' : Int) ≤ 9223372036854775807) (hf : Fits L) (h' : RowM w B' A' L) (hB' : B' ≤ w.heap.size) :
    Calls Tryz.prog 80 #[.agg #[.slice A n cap], .slice A' n' cap'] w (NbPost (unc L (cellsR xs)) w) := by
  obtain ⟨i0, hi, hz0, hz1, hz2⟩ := info_parts cellInfo
  have HC := Lib.hid (fun W (hb : Below w.heap.size w W) => iCellsOf W A n cap B xs hx hn (h.below hb hB) (by have := hb.size; omega))
  have HA := Lib.hid (fun W (hb : Below w.heap.size w W) x y => iDominoAt W A' n' cap' B' L hL hn' hf (h'.below hb hB') (by have := hb.size; omega) x y)
  have HS := Lib.hid (fun (o : Obj) => below_alloc1 w o)
  have HLC := cellsR_length xs
  generalize cellsR xs = C at HC HLC ⊢
  have HU := Lib.hid (fun k (hk : k < C.length) => unc_case L C hk)
  have HUL := Lib.hid (fun k => unc_length L (C.take k))
  clear hx hn h hB hL hn' hf h' hB'
  go_enter Tryz.func80, Tryz.ntmps80
  go_wp2_with fail
  refine (HC.out _ (HS.out _)).mono ?_
  rintro e w1 ⟨A1, cap1, rfl, hown1, hb1⟩
  have hbw1 := (HS.out _).trans (hb1.mono (HS.out _).size)
  obtain ⟨b, off, hA1, hR1⟩ := rowC_own hown1
  have R1 : RdC w1 b off C := ⟨fun h0 => (hA1 h0).2, hR1⟩
  have HA1 := Lib.hid (fun h0 => (hA1 h0).1)
  have HNil := Lib.hid (World.ownsRow_nil w1 w1.heap.size 60 2)
  clear HC HS hown1 hb1 hA1 hR1
  go_wp2_with fail
  go_loopw [5, 11] (fun v i wr => ∃ j : Nat, j ≤ C.length ∧ i = .int .i64 j ∧ wr.ownsRow w1.heap.size 60 2 v (unc L (C.take j)).length (rowC (unc L (C.take j))) ∧ Below w1.heap.size w1 wr) (fun _ i _ => C.length - (intOf i).toNat)
  case atStart => exact ⟨0, Nat.zero_le _, rfl, by simpa [unc, rowC] using HNil.out, Below.refl _ _⟩
  case round =>
    clear HNil
    obtain ⟨j, hj, rfl, hown, hb⟩ := hrel
    have hbs := hb.size
    by_cases hlt : j < C.length
    · obtain rfl := HA1.out (by omega)
      have hbb : b < w1.heap.size := R1.1 (by omega)
      obtain ⟨c0, c1⟩ := R1.2 j C[j] (List.getElem?_eq_getElem hlt)
      have c0 := (hb.cell (p := ⟨b, off + j * 2, none⟩) hbb).trans c0
      have c1 := (hb.cell (p := ⟨b, off + j * 2 + 1, none⟩) hbb).trans c1
      have HCs := Lib.hid (HU.out j hlt)
      generalize C[j] = c at c0 c1 HCs
      obtain ⟨x, y⟩ := c
      simp only at c0 c1
      have HQ := Lib.hid (fun W (hb : Below w.heap.size w W) => HA.out W hb x y)
      generalize atI L x y = q at HQ HCs
      have hbw := hbw1.trans (hb.mono hbw1.size)
      have hLn := HUL.out j
      have HOwn := Lib.hid hown
      clear hown
      have hj64 : (unc L (C.take j)).length ≤ 64 := by have : (C.take j).length ≤ C.length := by rw [List.length_take]; omega
                                                       omega
      generalize hU : unc L (C.take j) = U at HOwn HCs hj64
      clear hLn hU
      go_wp2_with fail
      refine (HQ.out _ (hbw.alloc hbw.size _)).mono ?_
      rintro e w2 ⟨rfl, hb2⟩
      have k1 : At2 w2 wr.heap.size x y := (At2.new wr x y).on hb2
      have hE : Below wr.heap.size wr w2 := (below_alloc1 wr _).trans (hb2.mono (by simp))
      have HOwn2 := Lib.hid (Reg.own_below HOwn.out hE (Nat.le_refl _))
      have hB2 := hb.trans (hE.mono hbs)
      have hs2 := hE.size
      have d0 := k1.c0
      have d1 := k1.c1
      clear c0 c1 k1 hE hb2 HOwn HQ hbw hb
      rcases HCs.out with ⟨hq, hN⟩ | ⟨hq, hN⟩
      · have HN := Lib.hid hN
        clear hN HCs
        go_wp2_with (first
          | (at_builtin; refine wpList_append_own _ rfl _ _ 67 rfl w1.heap.size 60 i0 (.agg #[.int .i64 0, .int .i64 0]) 2 16 Tryz.underlying67 hi hz0 hz1 hz2 rfl (by decide) _ U.length (rowC U) rfl (HOwn2.out.alloc _) ⟨w2.heap.size, 0, none⟩ 1 1 [.int .i64 x, .int .i64 y] rfl rfl (World.news_of_block (cs := #[.int .i64 x, .int .i64 y]) (t := 60) (fr := (0, 0)) (heap_alloc_new w2 _)) (by simp [Value.oneCell']) (by unfold maxLen; omega) (by omega) (by simp; omega) ?_; intro v2 w3 hown3 hgrow _))
        have hb3 : Below w1.heap.size w1 w3 := (hB2.alloc (by omega) _).grown hgrow (by simp; omega) (fun g hg => (HOwn2.out.lt g hg).1)
        have R := Lib.hid (show w3.ownsRow w1.heap.size 60 2 v2 (U ++ [(x, y)]).length (rowC (U ++ [(x, y)])) by
          rw [rowC_snoc, List.length_append]; exact hown3)
        clear hown3 hgrow
        go_wp2
        go_roundw
        case rel => exact ⟨j + 1, by omega, by go_num, by rw [HN.out]; exact R.out, hb3⟩
        case measure => (simp [intOf] <;> omega)
      · have HN := Lib.hid hN
        clear hN HCs
        go_wp2
        go_roundw
        case rel => exact ⟨j + 1, by omega, by go_num, by rw [HN.out]; exact HOwn2.out, hB2⟩
        case measure => (simp [intOf] <;> omega)
    · obtain rfl : j = C.length := by omega
      obtain ⟨A2, cap2, rfl⟩ := own_shape hown
      have hEnd := hbw1.trans (hb.mono hbw1.size)
      have HOwn := Lib.hid hown
      clear hown hb
      go_wp2
      go_ret
      rw [List.take_length] at HOwn
      have hz := hbw1.size
      rw [List.take_length]
      exact ⟨A2, cap2, rfl, Reg.own_base HOwn.out (by omega), hEnd⟩
end Go.Proofs.YtmajllgfmclcoaaGreat.Til
