/- TilU, TilI, TilM, FrS, NbS in one text. -/
import Derived.Test.YtjfagpmklifjlaaMg17
import Derived.Test.YtjfagpmklifjlaaMg13
import Derived.Test.YtjfagpmklifjlaaMg07
import Derived.Test.YtjfagpmklifjlaaMg06
import Derived.OpenShut
import Derived.ChangeSlices
import Derived.ProofKit
import Derived.Deep.RegionHeld3
import Derived.Test.YtjfagpmklifjlaaMg02
import Derived.Test.YtjfagpmklifjlaaMg03
import Derived.Laws.OwnMore
import Derived.Test.YtjfagpmklifjlaaMg16
import Derived.Test.YtjfagpmklifjlaaMg00
import Derived.OwnWalk
import Derived.Laws.AppendOwn
import Derived.Deep.AppendLies

namespace Go.Proofs.Ytjfagpmklifjlaa.Til
set_option linter.unusedVariables false
set_option linter.unusedSimpArgs false
open Go.RowKit Go.Proofs.Ytjfagpmklifjlaa.Base Go.Proofs.Ytjfagpmklifjlaa.Pure Go.Proofs.Ytjfagpmklifjlaa.Cels Go.Proofs.Ytjfagpmklifjlaa.Dom Go.Proofs.Ytjfagpmklifjlaa.Dms Go.Joins
open Go.Proofs.Ytjfagpmklifjlaa.Reg

theorem unc_case (L : List Dm) (C : List (Int × Int)) {k : Nat} (hk : k < C.length) : (atI L C[k].1 C[k].2 < 0 ∧ unc L (C.take (k + 1)) = unc L (C.take k) ++ [C[k]]) ∨ (¬ atI L C[k].1 C[k].2 < 0 ∧ unc L (C.take (k + 1)) = unc L (C.take k)) := by
  have h := atI_neg (L := L) (x := C[k].1) (y := C[k].2)
  cases ha : anyM L C[k].1 C[k].2 with
  | false => rw [ha] at h; exact .inl ⟨by simpa using h, unc_yes hk ha⟩
  | true => rw [ha] at h; exact .inr ⟨by simpa using h, unc_no hk ha⟩
def RdC (W : World) (b off : Nat) (C : List (Int × Int)) : Prop :=
  (0 < C.length → b < W.heap.size) ∧ ∀ j p, C[j]? = some p → W.cell? ⟨b, off + j * 2, none⟩ = some (.int .i64 p.1) ∧ W.cell? ⟨b, off + j * 2 + 1, none⟩ = some (.int .i64 p.2)
theorem RdC.same {W W' : World} {b off : Nat} {C : List (Int × Int)} (h : RdC W b off C) (hz : W.heap.size ≤ W'.heap.size) (hb : 0 < C.length → W'.heap[b]? = W.heap[b]?) : RdC W' b off C := by
  refine ⟨fun h0 => Nat.lt_of_lt_of_le (h.1 h0) hz, fun j p hp => ?_⟩
  have h0 : 0 < C.length := by have := (List.getElem?_eq_some_iff.1 hp).1; omega
  obtain ⟨a, c⟩ := h.2 j p hp
  exact ⟨(World.cell?_of_block (a := ⟨b, off + j * 2, none⟩) (hb h0)).trans a, (World.cell?_of_block (a := ⟨b, off + j * 2 + 1, none⟩) (hb h0)).trans c⟩
theorem RdC.on {W W' : World} {b off : Nat} {C : List (Int × Int)} (h : RdC W b off C) (hb : Below W.heap.size W W') : RdC W' b off C := h.same hb.size fun h0 => hb.block b (h.1 h0)
theorem RdC.grown {W W' : World} {b off g : Nat} {C : List (Int × Int)} (h : RdC W b off C) (hg : W.grownBy W' (some g)) (hne : 0 < C.length → g ≠ b) : RdC W' b off C :=
  h.same hg.size fun h0 => hg.block b (h.1 h0) (by intro e; injection e with e; exact hne h0 e.symm)

set_option maxRecDepth 100000 in
set_option maxHeartbeats 2000000 in
theorem iUncoveredOf (w : World) (A : Option Addr) (n cap B : Nat) (xs : List Int) (hx : xs.length = n) (hn : (n : Int) ≤ 9223372036854775807) (h : RowB w B A xs) (hB : B ≤ w.heap.size)
    (A' : Option Addr) (n' cap' B' : Nat) (L : List Dm) (hL : L.length = n') (hn' : (n' : Int) ≤ 9223372036854775807) (hf : Fits L) (h' : RowM w B' A' L) (hB' : B' ≤ w.heap.size) :
    Calls Try.prog 47 #[.agg #[.slice A n cap], .slice A' n' cap'] w (NbPost (unc L (cellsR xs)) w) := by
  obtain ⟨i0, hi, hz0, hz1, hz2⟩ := info_parts cellInfo
  have HC := Lib.hid (fun W (hb : Below w.heap.size w W) => iCellsOf W A n cap B xs hx hn (h.below hb hB) (by have := hb.size; omega))
  have HA := Lib.hid (fun W (hb : Below w.heap.size w W) x y => iDominoAt W A' n' cap' B' L hL hn' hf (h'.below hb hB') (by have := hb.size; omega) x y)
  have HS := Lib.hid (fun (o : Obj) => below_alloc1 w o)
  have HLC := cellsR_length xs
  generalize cellsR xs = C at HC HLC ⊢
  have HU := Lib.hid (fun k (hk : k < C.length) => unc_case L C hk)
  have HUL := Lib.hid (fun k => unc_length L (C.take k))
  clear hx hn h hB hL hn' hf h' hB'
  go_enter Try.func47, Try.ntmps47
  go_wp2_with fail
  refine (HC.out _ (HS.out _)).mono ?_
  rintro e w1 ⟨A1, cap1, rfl, hown1, hb1⟩
  have hbw1 := (HS.out _).trans (hb1.mono (HS.out _).size)
  obtain ⟨b, off, hA1, hR1⟩ := rowC_own hown1
  have R1 : RdC w1 b off C := ⟨fun h0 => (hA1 h0).2, hR1⟩
  have HA1 := Lib.hid (fun h0 => (hA1 h0).1)
  have HNil := Lib.hid (World.ownsRow_nil w1 w1.heap.size 38 2)
  clear HC HS hown1 hb1 hA1 hR1
  go_wp2_with fail
  go_loopw [5, 11] (fun v i wr => ∃ j : Nat, j ≤ C.length ∧ i = .int .i64 j ∧ wr.ownsRow w1.heap.size 38 2 v (unc L (C.take j)).length (rowC (unc L (C.take j))) ∧ Below w1.heap.size w1 wr) (fun _ i _ => C.length - (intOf i).toNat)
  case atStart => exact ⟨0, Nat.zero_le _, rfl, by simpa [unc, rowC] using HNil.out, Below.refl _ _⟩
  case round =>
    clear HNil
    obtain ⟨j, hj, rfl, hown, hb⟩ := hrel
    have hbs := hb.size
    by_cases hlt : j < C.length
    · obtain rfl := HA1.out (by omega)
      have hbb : b < w1.heap.size := R1.1 (by omega)
      obtain ⟨c0, c1⟩ := R1.2 j C[j] (List.getElem?_eq_getElem hlt)
      have c0 := (hb.cell (p := ⟨b, off + j * 2, none⟩) hbb).trans c0
      have c1 := (hb.cell (p := ⟨b, off + j * 2 + 1, none⟩) hbb).trans c1
      have HCs := Lib.hid (HU.out j hlt)
      generalize C[j] = c at c0 c1 HCs
      obtain ⟨x, y⟩ := c
      simp only at c0 c1
      have HQ := Lib.hid (fun W (hb : Below w.heap.size w W) => HA.out W hb x y)
      generalize atI L x y = q at HQ HCs
      have hbw := hbw1.trans (hb.mono hbw1.size)
      have hLn := HUL.out j
      have HOwn := Lib.hid hown
      clear hown
      have hj64 : (unc L (C.take j)).length ≤ 64 := by have : (C.take j).length ≤ C.length := by rw [List.length_take]; omega
                                                       omega
      generalize hU : unc L (C.take j) = U at HOwn HCs hj64
      clear hLn hU
      go_wp2_with fail
      refine (HQ.out _ (hbw.alloc hbw.size _)).mono ?_
      rintro e w2 ⟨rfl, hb2⟩
      have k1 : At2 w2 wr.heap.size x y := (At2.new wr x y).on hb2
      have hE : Below wr.heap.size wr w2 := (below_alloc1 wr _).trans (hb2.mono (by simp))
      have HOwn2 := Lib.hid (Reg.own_below HOwn.out hE (Nat.le_refl _))
      have hB2 := hb.trans (hE.mono hbs)
      have hs2 := hE.size
      have d0 := k1.c0
      have d1 := k1.c1
      clear c0 c1 k1 hE hb2 HOwn HQ hbw hb
      rcases HCs.out with ⟨hq, hN⟩ | ⟨hq, hN⟩
      · have HN := Lib.hid hN
        clear hN HCs
        go_wp2_with (first
          | (at_builtin; refine wpList_append_own _ rfl _ _ 34 rfl w1.heap.size 38 i0 (.agg #[.int .i64 0, .int .i64 0]) 2 16 Try.underlying34 hi hz0 hz1 hz2 rfl (by decide) _ U.length (rowC U) rfl (HOwn2.out.alloc _) ⟨w2.heap.size, 0, none⟩ 1 1 [.int .i64 x, .int .i64 y] rfl rfl (World.news_of_block (cs := #[.int .i64 x, .int .i64 y]) (t := 38) (fr := (0, 0)) (heap_alloc_new w2 _)) (by simp [Value.oneCell']) (by unfold maxLen; omega) (by omega) (by simp; omega) ?_; intro v2 w3 hown3 hgrow _))
        have hb3 : Below w1.heap.size w1 w3 := (hB2.alloc (by omega) _).grown hgrow (by simp; omega) (fun g hg => (HOwn2.out.lt g hg).1)
        have R := Lib.hid (show w3.ownsRow w1.heap.size 38 2 v2 (U ++ [(x, y)]).length (rowC (U ++ [(x, y)])) by
          rw [rowC_snoc, List.length_append]; exact hown3)
        clear hown3 hgrow
        go_wp2
        go_roundw
        case rel => exact ⟨j + 1, by omega, by go_num, by rw [HN.out]; exact R.out, hb3⟩
        case measure => (simp [intOf] <;> omega)
      · have HN := Lib.hid hN
        clear hN HCs
        go_wp2
        go_roundw
        case rel => exact ⟨j + 1, by omega, by go_num, by rw [HN.out]; exact HOwn2.out, hB2⟩
        case measure => (simp [intOf] <;> omega)
    · obtain rfl : j = C.length := by omega
      obtain ⟨A2, cap2, rfl⟩ := own_shape hown
      have hEnd := hbw1.trans (hb.mono hbw1.size)
      have HOwn := Lib.hid hown
      clear hown hb
      go_wp2
      go_ret
      rw [List.take_length] at HOwn
      have hz := hbw1.size
      rw [List.take_length]
      exact ⟨A2, cap2, rfl, Reg.own_base HOwn.out (by omega), hEnd⟩
set_option maxRecDepth 100000 in
set_option maxHeartbeats 2000000 in
theorem sUncoveredOf (w : World) (A : Option Addr) (n cap B : Nat) (xs : List Int) (hx : xs.length = n) (hn : (n : Int) ≤ 9223372036854775807) (h : RowB w B A xs) (hB : B ≤ w.heap.size)
    (A' : Option Addr) (n' cap' B' : Nat) (L : List Dm) (hL : L.length = n') (hn' : (n' : Int) ≤ 9223372036854775807) (h' : RowM w B' A' L) (hB' : B' ≤ w.heap.size) :
    Calls Try.prog 78 #[.agg #[.slice A n cap], .slice A' n' cap'] w (NbPost (unc L (cellsR xs)) w) := by
  obtain ⟨i0, hi, hz0, hz1, hz2⟩ := info_parts cellInfo
  have HM := Lib.hid (fun (W : World) => World.ownsRow_made (e := 38) (size := 2) W #[] 0 (Nat.le_refl _) (by unfold maxLen; omega) rfl)
  have HC := Lib.hid (fun W (hb : Below w.heap.size w W) => sCellsOf W A n cap B xs hx hn (h.below hb hB) (by have := hb.size; omega))
  have HA := Lib.hid (fun W (hb : Below w.heap.size w W) x y => sDominoAt W A' n' cap' B' L hL hn' (h'.below hb hB') (by have := hb.size; omega) x y)
  have HS := Lib.hid (fun (o : Obj) => below_alloc1 w o)
  have HLC := cellsR_length xs
  generalize cellsR xs = C at HC HLC ⊢
  have HU := Lib.hid (fun k (hk : k < C.length) => unc_case L C hk)
  have HUL := Lib.hid (fun k => unc_length L (C.take k))
  clear hx hn h hB hL hn' h' hB'
  go_enter Try.func78, Try.ntmps78
  go_wp2_with fail
  have hbw0 := HS.out (.cells #[.slice A n cap] 26)
  have hown0 := HM.out (w.alloc (.cells #[.slice A n cap] 26))
  have hz0w : (w.alloc (.cells #[.slice A n cap] 26)).heap.size = w.heap.size + 1 := by simp
  generalize w.alloc (.cells #[.slice A n cap] 26) = W0 at hbw0 hown0 hz0w ⊢
  have hbw := hbw0.alloc hbw0.size (.cells #[] 38)
  have hz1w : (W0.alloc (.cells #[] 38)).heap.size = w.heap.size + 2 := by simp [hz0w]
  rw [hz0w] at hown0
  generalize W0.alloc (.cells #[] 38) = W1 at hbw hown0 hz1w ⊢
  refine (HC.out _ hbw).mono ?_
  rintro e w1 ⟨A1, cap1, rfl, hown1, hb1⟩
  have hbw1 := hbw.trans (hb1.mono hbw.size)
  obtain ⟨b, off, hA1, hR1⟩ := rowC_own hown1
  have R1 : RdC w1 b off C := ⟨fun h0 => (hA1 h0).2, hR1⟩
  have hb2 : 0 < C.length → w.heap.size + 2 ≤ b := fun h0 => by
    obtain ⟨g, c, hv, hg, _⟩ := hown1.form h0
    have e := (hA1 h0).1
    rw [e] at hv
    injection hv with hv
    injection hv with hv
    injection hv with hv
    omega
  have HA1 := Lib.hid (fun h0 => (hA1 h0).1)
  have HOwn0 := Lib.hid (Reg.own_base (B' := w.heap.size + 1) (Reg.own_below hown0 hb1 (Nat.le_refl _)) (by omega))
  have HB1 := Lib.hid hb1.size
  clear HC HS hb1 hA1 hR1 hbw0 hbw hz0w hown0 hown1 HM
  go_wp2_with fail
  go_loopw [5, 7] (fun v i wr => ∃ j g c : Nat, j ≤ C.length ∧ i = .int .i64 j ∧ v = .slice (some ⟨g, 0, none⟩) (unc L (C.take j)).length c ∧ wr.ownsRow (w.heap.size + 1) 38 2 v (unc L (C.take j)).length (rowC (unc L (C.take j))) ∧ Below w.heap.size w wr ∧ RdC wr b off C ∧ Hid (0 < C.length → g ≠ b)) (fun _ i _ => C.length - (intOf i).toNat)
  case atStart => exact ⟨0, w.heap.size + 1, 0, Nat.zero_le _, rfl, by simp [unc], by simpa [unc, rowC] using HOwn0.out, hbw1, R1, Lib.hid (fun h0 => by have := hb2 h0; omega)⟩
  case round =>
    clear HOwn0 R1 hbw1
    obtain ⟨j, g, cg, hj, rfl, rfl, hown, hb, R1, hg⟩ := hrel
    have hbs := hb.size
    by_cases hlt : j < C.length
    · obtain rfl := HA1.out (by omega)
      obtain ⟨c0, c1⟩ := R1.2 j C[j] (List.getElem?_eq_getElem hlt)
      have HCs := Lib.hid (HU.out j hlt)
      generalize hcc : C[j] = c at c0 c1 HCs
      obtain ⟨x, y⟩ := c
      simp only at c0 c1
      have HQ := Lib.hid (fun W (hb : Below w.heap.size w W) => HA.out W hb x y)
      generalize atI L x y = q at HQ HCs
      have hLn := HUL.out j
      have HOwn := Lib.hid hown
      clear hown
      have hj64 : (unc L (C.take j)).length ≤ 64 := by have : (C.take j).length ≤ C.length := by rw [List.length_take]; omega
                                                       omega
      generalize hU : unc L (C.take j) = U at HOwn HCs hj64
      clear hLn
      go_wp2_with fail
      refine (HQ.out _ hb).mono ?_
      rintro e w2 ⟨rfl, hE⟩
      have HOwn2 := Lib.hid (Reg.own_below HOwn.out hE (Nat.le_refl _))
      have hB2 := hb.trans (hE.mono hbs)
      have hs2 := hE.size
      have R2 := R1.on hE
      obtain ⟨d0, d1⟩ := R2.2 j (x, y) (by rw [← hcc]; exact List.getElem?_eq_getElem hlt)
      simp only at d0 d1
      clear c0 c1 hE HOwn HQ hb hcc R1
      rcases HCs.out with ⟨hq, hN⟩ | ⟨hq, hN⟩
      · have HN := Lib.hid hN
        clear hN HCs
        go_wp2_with (first
          | (at_builtin; refine wpList_append_lies _ rfl _ _ 34 rfl (w.heap.size + 1) 38 i0 (.agg #[.int .i64 0, .int .i64 0]) 2 16 Try.underlying34 hi hz0 hz1 hz2 rfl (by decide) (.slice (some ⟨g, 0, none⟩) U.length cg) U.length (rowC U) (by rfl) (HOwn2.out.alloc _) ⟨w2.heap.size, 0, none⟩ 1 1 [.int .i64 x, .int .i64 y] (by rfl) rfl (World.news_of_block (cs := #[.int .i64 x, .int .i64 y]) (t := 38) (fr := (0, 0)) (heap_alloc_new w2 _)) (by simp [Value.oneCell']) (by decide) (by unfold maxLen; omega) (by omega) (by simp; omega) (w2.heap.size + 1) (by simp) ?_; intro gg capn w3 hown3 hgrow hat hlt3))
        have hgg := HOwn2.out.lt g rfl
        have hb3 : Below w.heap.size w w3 := (hB2.alloc (by omega) _).grown hgrow (by simp; omega) (fun k hk => by have hk2 : g = k := by { injection hk }; omega)
        have R3 : RdC w3 b off C := (R2.on (below_alloc1 w2 _)).grown hgrow hg.out
        have hg3 : 0 < C.length → gg ≠ b := fun h0 => by
          rcases hat with e | e
          · injection e with e; subst e; exact hg.out h0
          · have := R2.1 h0; omega
        have R := Lib.hid (show w3.ownsRow (w.heap.size + 1) 38 2 (.slice (some ⟨gg, 0, none⟩) (U ++ [(x, y)]).length capn) (U ++ [(x, y)]).length (rowC (U ++ [(x, y)])) by
          rw [rowC_snoc, List.length_append]; exact hown3)
        have HG3 := Lib.hid hg3
        have HLn : (U ++ [(x, y)]).length = U.length + 1 := by simp
        clear hown3 hgrow hat hlt3 hgg R2 d0 d1 hU hg3 HOwn2 hB2
        go_wp2
        go_roundw
        case rel => exact ⟨j + 1, gg, capn, by omega, by go_num, by rw [HN.out, HLn], by rw [HN.out]; have := R.out; rw [HLn] at this ⊢; exact this, hb3, R3, HG3⟩
        case measure => (simp [intOf] <;> omega)
      · have HN := Lib.hid hN
        clear hN HCs hU d0 d1
        go_wp2
        go_roundw
        case rel => exact ⟨j + 1, g, cg, by omega, by go_num, by rw [HN.out], by rw [HN.out]; exact HOwn2.out, hB2, R2, hg⟩
        case measure => (simp [intOf] <;> omega)
    · obtain rfl : j = C.length := by omega
      have HOwn := Lib.hid hown
      clear hown
      go_wp2
      go_ret
      rw [List.take_length] at HOwn
      rw [List.take_length]
      exact ⟨_, _, rfl, Reg.own_base HOwn.out (by omega), hb⟩
end Go.Proofs.Ytjfagpmklifjlaa.Til

namespace Go.Proofs.Ytjfagpmklifjlaa.Til
set_option linter.unusedVariables false
set_option linter.unusedSimpArgs false
open Go.RowKit Go.Proofs.Ytjfagpmklifjlaa.Dom Go.Proofs.Ytjfagpmklifjlaa.Dms Go.Joins
open Go.Proofs.Ytjfagpmklifjlaa.Reg

def Rg (W : World) (q : Nat) (v : Value) : Prop := W.heap[q]? = some (.cells #[v] 26)
theorem Rg.on {W W' : World} {q : Nat} {v : Value} (h : Rg W q v) (hb : Below W.heap.size W W') : Rg W' q v := (hb.block q (Array.getElem?_eq_some_iff.1 h).1).trans h
theorem Rg.c0 {W : World} {q : Nat} {v : Value} (h : Rg W q v) : W.cell? ⟨q, 0, none⟩ = some v := (cell_of_row _ _ 0 _ _ _ h).trans rfl
theorem Rg.lt {W : World} {q : Nat} {v : Value} (h : Rg W q v) : q < W.heap.size := (Array.getElem?_eq_some_iff.1 h).1
theorem Rg.new (W : World) (v : Value) : Rg (W.alloc (.cells #[v] 26)) W.heap.size v := heap_alloc_new W _
def RC (w : World) (v : Value) (x y : Int) (W : World) : Prop := Below w.heap.size w W ∧ Rg W w.heap.size v ∧ At2 W (w.heap.size + 1) x y
def RD (w : World) (v : Value) (x y : Int) (b : Bool) (W : World) : Prop := Below w.heap.size w W ∧ Rg W w.heap.size v ∧ At3 41 W (w.heap.size + 1) x y b
theorem rc_start (w : World) (v : Value) (x y : Int) : RC w v x y ((w.alloc (.cells #[v] 26)).alloc (.cells #[.int .i64 x, .int .i64 y] 38)) := by
 have h1 := Rg.new w v
 have hb := below_alloc1 w (.cells #[v] 26)
 have hz : (w.alloc (.cells #[v] 26)).heap.size = w.heap.size + 1 := by simp
 generalize w.alloc (.cells #[v] 26) = W at h1 hb hz ⊢
 have h2 := At2.new W x y
 rw [hz] at h2
 exact ⟨hb.alloc hb.size _, h1.on (below_alloc1 W _), h2⟩
theorem rd_start (w : World) (v : Value) (x y : Int) (b : Bool) : RD w v x y b ((w.alloc (.cells #[v] 26)).alloc (.cells #[.int .i64 x, .int .i64 y, .bool b] 41)) := by
 have h1 := Rg.new w v
 have hb := below_alloc1 w (.cells #[v] 26)
 have hz : (w.alloc (.cells #[v] 26)).heap.size = w.heap.size + 1 := by simp
 generalize w.alloc (.cells #[v] 26) = W at h1 hb hz ⊢
 have h2 := At3.new 41 W x y b
 rw [hz] at h2
 exact ⟨hb.alloc hb.size _, h1.on (below_alloc1 W _), h2⟩
section
variable {w W W' : World} {v : Value} {x y : Int} {b : Bool}
theorem RC.on (h : RC w v x y W) (hb : Below W.heap.size W W') : RC w v x y W' := ⟨h.1.trans (hb.mono h.1.size), h.2.1.on hb, h.2.2.on hb⟩
theorem RD.on (h : RD w v x y b W) (hb : Below W.heap.size W W') : RD w v x y b W' := ⟨h.1.trans (hb.mono h.1.size), h.2.1.on hb, h.2.2.on hb⟩
end
theorem RowM.take {w : World} {B : Nat} {A : Option Addr} {L : List Dm} (h : RowM w B A L) (k : Nat) : RowM w B A (L.take k) := by
 obtain ⟨b, off, h1, h2⟩ := h
 refine ⟨b, off, fun h0 => h1 (by rw [List.length_take] at h0; omega), fun j d hd => h2 j d ?_⟩
 rw [List.getElem?_take] at hd
 split at hd
 ·exact hd
 ·cases hd
end Go.Proofs.Ytjfagpmklifjlaa.Til

namespace Go.Proofs.Ytjfagpmklifjlaa.Til
set_option linter.unusedVariables false
set_option linter.unusedSimpArgs false
open Go.RowKit Go.Proofs.Ytjfagpmklifjlaa.Dms Go.Joins

theorem domInfo : (Try.prog.info? 41).map (fun i => (i.zero, i.size, i.bytes)) = some (some (.agg #[.int .i64 0, .int .i64 0, .bool false]), 3, 24) := by kernel_rfl
def DmPost (L : List Dm) (n : Nat) (w : World) (e : Ending) (w' : World) : Prop :=
 ∃ A cap, e = .returned (.slice A n cap) ∧ n ≤ cap ∧ w'.ownsRow w.heap.size 41 3 (.slice A n cap) n (rowM L) ∧ Below w.heap.size w w'
end Go.Proofs.Ytjfagpmklifjlaa.Til

namespace Go.Proofs.Ytjfagpmklifjlaa.Frd
set_option linter.unusedVariables false
set_option linter.unusedSimpArgs false
set_option maxRecDepth 100000
open Go.RowKit Go.Proofs.Ytjfagpmklifjlaa.Cels Go.Proofs.Ytjfagpmklifjlaa.Dms Go.Joins
open Go.Proofs.Ytjfagpmklifjlaa.Prof (withT sCountWith sCountTilings)
open Go.Proofs.Ytjfagpmklifjlaa.Cnt (tilesR)
open Go.Proofs.Ytjfagpmklifjlaa.Reg hiding RC rc_start

section
variable {w W W' : World} {v vo vo' : Value} {b : Nat} {ob : Option Obj} {L : List Dm} {d : Dm}
end
def SrcC (b : Nat) (ob : Option Obj) (A : Option Addr) (C : List (Int × Int)) : Prop :=
 ∃ off, (0 < C.length → A = some ⟨b, off, none⟩) ∧ ∀ W : World, W.heap[b]? = ob → ∀ j (hj : j < C.length), W.cell? ⟨b, off + j * 2, none⟩ = some (.int .i64 C[j].1) ∧ W.cell? ⟨b, off + j * 2 + 1, none⟩ = some (.int .i64 C[j].2)
theorem src_cells {W : World} {base n cap z : Nat} {A : Option Addr} {C : List (Int × Int)} (h : W.ownsRow base 38 2 (.slice A n cap) n (rowC C)) (hz : z < W.heap.size) : ∃ b ob, b < W.heap.size ∧ W.heap[b]? = ob ∧ SrcC b ob A C ∧ (b = z ∨ base ≤ b) := by
 obtain ⟨b, off, hA, hR⟩ := rowC_own h
 by_cases h0 : 0 < C.length
 ·refine ⟨b, _, (hA h0).2, rfl, ⟨off, fun _ => (hA h0).1, fun W' hW j hj => ?_⟩, ?_⟩
  ·obtain ⟨c0, c1⟩ := hR j _ (List.getElem?_eq_getElem hj)
   exact ⟨(World.cell?_of_block (a := ⟨b, off + j * 2, none⟩) hW).trans c0, (World.cell?_of_block (a := ⟨b, off + j * 2 + 1, none⟩) hW).trans c1⟩
  ·right
   have e := (hA h0).1
   subst e
   have hn : C.length = n := by have := h.1; rw [rowC_length] at this; omega
   obtain ⟨g, c, hv, hg, _⟩ := h.form (by omega)
   injection hv with hv
   injection hv with hv
   injection hv with hv
   omega
 ·exact ⟨z, _, hz, rfl, ⟨0, fun q => absurd q h0, fun _ _ j hj => absurd hj (by omega)⟩, .inl rfl⟩
end Go.Proofs.Ytjfagpmklifjlaa.Frd

namespace Go.Proofs.Ytjfagpmklifjlaa.Nb
set_option linter.unusedVariables false
open Go.RowKit Go.Proofs.Ytjfagpmklifjlaa.Cell Go.Joins

def rowC (L : List (Int × Int)) : List Value := L.flatMap fun p => [.int .i64 p.1, .int .i64 p.2]
theorem rowC_snoc (L : List (Int × Int)) (p : Int × Int) : rowC (L ++ [p]) = rowC L ++ [.int .i64 p.1, .int .i64 p.2] := by unfold rowC; simp
def nbTo (x y : Int) (k : Nat) : List (Int × Int) := ((List.range k).filter fun (j : Nat) => nbB x y (atX (j : Int)) (atY (j : Int))).map fun (j : Nat) => (atX (j : Int), atY (j : Int))
theorem nbTo_length (x y : Int) (k : Nat) : (nbTo x y k).length ≤ k := by
 unfold nbTo; rw [List.length_map]; exact Nat.le_trans (List.length_filter_le _ _) (by simp)

theorem own_below {w w' : World} {base e size n : Nat} {v : Value} {xs : List Value} (h : w.ownsRow base e size v n xs) (hb : Below w.heap.size w w') : w'.ownsRow base e size v n xs :=
 h.kept (row := none) ⟨hb.os, hb.tape, hb.output, hb.size, fun i hi _ => hb.block i hi⟩ (by cases v <;> simp [Value.ownBlock] <;> (try (split <;> simp)))
theorem bx2 {T : TypeId} (x y : Int) (w w1 : World) (h : Below (w.alloc (.cells #[.int .i64 x, .int .i64 y] T)).heap.size (w.alloc (.cells #[.int .i64 x, .int .i64 y] T)) w1) :
  w1.cell? ⟨w.heap.size, 0, none⟩ = some (.int .i64 x) ∧ w1.cell? ⟨w.heap.size, 1, none⟩ = some (.int .i64 y) := by
 have hbl : (w.alloc (.cells #[.int .i64 x, .int .i64 y] T)).heap[w.heap.size]? = some (.cells #[.int .i64 x, .int .i64 y] T) := by
  show (w.heap.push _)[w.heap.size]? = _
  exact Array.getElem?_push_size
 exact ⟨by rw [h.cell (by simp)]; exact (cell_of_row _ _ 0 _ _ _ hbl).trans rfl, by rw [h.cell (by simp)]; exact (cell_of_row _ _ 1 _ _ _ hbl).trans rfl⟩

def NbPost (L : List (Int × Int)) (w : World) (e : Ending) (w' : World) : Prop :=
 ∃ (A : Option Addr) (cap : Nat), e = .returned (.slice A L.length cap) ∧ w'.ownsRow w.heap.size 38 2 (.slice A L.length cap) L.length (rowC L) ∧ Below w.heap.size w w'

theorem cellInfo : (Try.prog.info? 38).map (fun i => (i.zero, i.size, i.bytes)) = some (some (.agg #[.int .i64 0, .int .i64 0]), 2, 16) := by kernel_rfl

end Go.Proofs.Ytjfagpmklifjlaa.Nb
