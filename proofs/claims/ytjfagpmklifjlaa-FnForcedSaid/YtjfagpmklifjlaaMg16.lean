/- StS, RegWs, RegWt in one text. -/
import Derived.Test.YtjfagpmklifjlaaMg14
import Derived.Test.YtjfagpmklifjlaaMg15
import Derived.Test.YtjfagpmklifjlaaMg10
import Derived.Test.YtjfagpmklifjlaaMg00
import Derived.StillTailTactics
import Derived.Deep.RegionHeld3
import Derived.Test.YtjfagpmklifjlaaMg08
import Derived.Deep.AppendLies

namespace Go.Proofs.Ytjfagpmklifjlaa.Prof
set_option linter.unusedVariables false
set_option maxRecDepth 100000
set_option linter.unusedSimpArgs false
open Go.RowKit Go.Proofs.Ytjfagpmklifjlaa.Pure Go.Proofs.Ytjfagpmklifjlaa.Cell Go.Proofs.Ytjfagpmklifjlaa.Reg Go.Proofs.Ytjfagpmklifjlaa.Cnt Go.Joins

set_option maxRecDepth 100000 in
set_option maxHeartbeats 1000000 in
theorem sCountTilings (w : World) (A : Option Addr) (n cap B : Nat) (xs : List Int) (hx : xs.length = n) (hn : (n : Int) ≤ 9223372036854775807) (h : RowB w B A xs) (hB : B ≤ w.heap.size) :
  Calls Try.prog 22 #[.agg #[.slice A n cap]] w (Num (tilesR xs) w) := by
 have T0 := Lib.hid (fun (T : TypeId) => rb_start (T := T) (.slice A n cap) w)
 have HOk := Lib.hid (fun W (hb : RB w (.slice A n cap) W) => sRegionOk W A n cap B xs hx hn (h.below hb.1 hB) (by have := hb.2.1; omega))
 have HC := Lib.hid (fun W (ho : okR xs) (hb : RB w (.slice A n cap) W) => show Calls Try.prog 60 #[.agg #[.slice A n cap]] W (Num (tilesR xs) W) from by rw [tilesR_ok ho]; exact sCount W A n cap B xs hx ho (h.below hb.1 hB) (by have := hb.2.1; omega))
 by_cases ho : okR xs
 ·rw [okRB_of ho] at HOk
  have HC1 := Lib.hid (fun W (hb : RB w (.slice A n cap) W) => HC.out W ho hb)
  generalize tilesR xs = t at HC1 ⊢
  clear hx hn h ho HC
  go_enter Try.func22, Try.ntmps22
  go_wp2_with fail
  refine (HOk.out _ (T0.out _)).mono ?_
  rintro e w1 ⟨rfl, hb1⟩
  have T1 := (T0.out 26).on hb1
  have c1 := T1.2.2
  clear T0 HOk hb1
  go_wp2_with fail
  refine (HC1.out _ T1).mono ?_
  rintro e w2 ⟨rfl, hb2⟩
  have T2 := T1.on hb2
  clear T1 c1 HC1 hb2
  go_wp2
  go_ret
  exact ⟨rfl, T2.1⟩
 ·rw [okRB_not ho] at HOk
  have HE := Lib.hid (tilesR_not ho)
  clear hx hn h ho HC
  go_enter Try.func22, Try.ntmps22
  go_wp2_with fail
  refine (HOk.out _ (T0.out _)).mono ?_
  rintro e w1 ⟨rfl, hb1⟩
  have T1 := (T0.out 26).on hb1
  clear T0 HOk hb1
  go_wp2
  go_ret
  exact mkNum HE.out.symm T1.1

end Go.Proofs.Ytjfagpmklifjlaa.Prof

namespace Go.Proofs.Ytjfagpmklifjlaa.Reg
set_option linter.unusedVariables false
open Go.RowKit Go.Proofs.Ytjfagpmklifjlaa.Base Go.Joins

set_option maxRecDepth 100000 in
set_option maxHeartbeats 1000000 in
theorem sCopy (w : World) (A : Option Addr) (n cap B : Nat) (xs : List Int) (hx : xs.length = n) (hn : (n : Int) ≤ 1048576) (h : RowB w B A xs) (hB : B ≤ w.heap.size) (hcap : A = none → n = 0 ∧ cap = 0) :
  Calls Try.prog 67 #[.agg #[.slice A n cap]] w (RegPost xs n w) := by
 obtain ⟨i0, hi, hz0, hz1, hz2⟩ := info_parts intInfo
 have HLx := Lib.hid (show (ints xs).length = n * 1 by rw [ints_length, hx, Nat.mul_one])
 have HOne := Lib.hid (ints_oneCell xs)
 have HR := Lib.hid (fun W (hb : Below w.heap.size w W) => h.below hb hB)
 have HB3 := Lib.hid (fun (o1 o2 o3 : Obj) => below_alloc3 w o1 o2 o3)
 have HM := Lib.hid (fun (o1 o2 : Obj) => show ((((w.alloc o1).alloc o2).alloc (.cells #[] 3)).ownsRow (w.heap.size + 2) 3 1 (.slice (some ⟨w.heap.size + 1 + 1, 0, none⟩) 0 0) 0 [] ∧ (((w.alloc o1).alloc o2).alloc (.cells #[] 3)).heap.size = w.heap.size + 3) from by
  have hz : ((w.alloc o1).alloc o2).heap.size = w.heap.size + 1 + 1 := by simp
  have := World.ownsRow_made (base := w.heap.size + 2) (e := 3) (size := 1) ((w.alloc o1).alloc o2) #[] 0 (by rw [hz]; omega) (by unfold maxLen; omega) rfl
  rw [hz] at this
  exact ⟨this, by simp⟩)
 have HBx := Lib.hid (fun (o1 o2 o3 : Obj) => (three (Below.refl _ (((w.alloc o1).alloc o2).alloc o3))).2.1)
 have HX := Lib.hid hx
 clear hx h
 cases A with
 | none =>
  obtain ⟨rfl, rfl⟩ := hcap rfl
  have hnil : xs = [] := List.eq_nil_of_length_eq_zero HX.out
  subst hnil
  go_enter Try.func67, Try.ntmps67
  go_wp2
  refine bodyPost_ret (v := .agg #[.slice (some ⟨w.heap.size + 1 + 1, 0, none⟩) 0 0]) (by simp [results, Try.results67, go_sem]) rfl ⟨_, 0, rfl, ?_, HB3.out _ _ _⟩
  exact own_base (HM.out _ _).1 (by omega)
 | some ad =>
  obtain ⟨hm1, hm2⟩ := HM.out (.cells #[.slice (some ad) n cap] 26) (.cells #[.slice none 0 0] 26)
  have HO := Lib.hid hm1
  have HSrc := Lib.hid (rowB_src' (HR.out _ (HB3.out (.cells #[.slice (some ad) n cap] 26) (.cells #[.slice none 0 0] 26) (.cells #[] 3))))
  have HBl := Lib.hid (HBx.out (.cells #[.slice (some ad) n cap] 26) (.cells #[.slice none 0 0] 26) (.cells #[] 3))
  have HBe := Lib.hid (HB3.out (.cells #[.slice (some ad) n cap] 26) (.cells #[.slice none 0 0] 26) (.cells #[] 3))
  have HS := Lib.hid hm2
  clear hm1 hm2
  go_enter Try.func67, Try.ntmps67
  go_wp2_with (first | (at_builtin; refine wpList_append_own _ rfl _ _ 24 rfl (w.heap.size + 2) 3 i0 (.int .i64 0) 1 8 Try.underlying24 hi hz0 hz1 hz2 rfl (by decide) (.slice (some ⟨w.heap.size + 1 + 1, 0, none⟩) 0 0) 0 [] (by rfl) HO.out ad n cap (ints xs) (by rfl) HLx.out HSrc.out HOne.out (by unfold maxLen; omega) (by omega) (by rw [HS.out]; omega) ?_; intro v' w3 hown3 hgrow _; obtain ⟨A', cap', hv'⟩ := own_shape hown3; subst hv'; have hbl3 := (hgrow.block (w.heap.size + 1) (by rw [HS.out]; omega) (by simp [Value.ownBlock])).trans HBl.out; obtain ⟨c2, f2⟩ := cellAt hbl3 0))
  have HO3 := Lib.hid (show w3.ownsRow (w.heap.size + 2) 3 1 (.slice A' n cap') n (ints xs) by simpa using hown3)
  have hb3 : Below w.heap.size w w3 := HBe.out.grown hgrow (by rw [HS.out]; omega) (by simp [Value.ownBlock]; omega)
  have hres := World.cell?_setCell_same _ ⟨w.heap.size + 1, 0, none⟩ (.slice A' n cap') (u := .slice none 0 0) c2
  clear hown3 hgrow hbl3
  go_wp2
  refine bodyPost_ret (v := .agg #[.slice A' n cap']) (by simp [results, Try.results67, go_sem, hres]) rfl ⟨_, _, rfl, ?_, hb3.setCell (by show w.heap.size ≤ w.heap.size + 1; omega) _⟩
  exact own_base (ownsRow_setCell_below HO3.out (by show w.heap.size + 1 < w.heap.size + 2; omega) _) (by omega)
end Go.Proofs.Ytjfagpmklifjlaa.Reg

namespace Go.Proofs.Ytjfagpmklifjlaa.Reg
set_option linter.unusedVariables false
open Go.RowKit Go.Proofs.Ytjfagpmklifjlaa.Base Go.Proofs.Ytjfagpmklifjlaa.Pure Go.Proofs.Ytjfagpmklifjlaa.Cell Go.Joins

def RW4 (w : World) (v : Value) (x y : Int) (u : Value) (p : Nat) (va : Value) (k : Nat) (ys : List Int) (W : World) : Prop :=
 RW3 w v x y u W ∧ W.heap[p]? = some (.cells #[va] 26) ∧ w.heap.size + 3 ≤ p ∧ W.ownsRow (w.heap.size + 3) 3 1 va k (ints ys) ∧ va.ownBlock ≠ some p
section
variable {w W W' : World} {v : Value} {x y : Int} {u : Value} {p : Nat} {va : Value} {k : Nat} {ys : List Int}
theorem RW4.on (h : RW4 w v x y u p va k ys W) (hb : Below W.heap.size W W') : RW4 w v x y u p va k ys W' := by
 obtain ⟨a, b, c, d, e⟩ := h
 exact ⟨a.on hb a.2.1, (hb.block p (Array.getElem?_eq_some_iff.1 b).1).trans b, c, own_below d hb (Nat.le_refl _), e⟩
theorem RW4.drew (h : RW4 w v x y u p va k ys W) : RW4 w v x y u p va k ys W.drew := ⟨⟨h.1.1.drew, h.1.2⟩, h.2⟩
theorem RW4.box (h : RW4 w v x y u p va k ys W) : W.cell? ⟨p, 0, none⟩ = some va ∧ W.frozen? ⟨p, 0, none⟩ = false := ⟨(cellAt h.2.1 0).1.trans rfl, (cellAt h.2.1 0).2⟩
theorem rw4_start (h : RW3 w v x y u W) (ho : W.ownsRow (w.heap.size + 3) 3 1 va k (ints ys)) : RW4 w v x y u W.heap.size va k ys (W.alloc (.cells #[va] 26)) := by
 refine ⟨h.on (below_alloc1 W _) h.2.1, heap_alloc_new W _, h.2.1, ho.alloc _, fun e => ?_⟩
 have := (ho.lt _ e).2
 omega
theorem RW4.grown {W3 : World} {va' : Value} {k' : Nat} {ys' : List Int} {o : Obj} (h : RW4 w v x y u p va k ys W) (hg : (W.alloc o).grownBy W3 va.ownBlock) (ho : W3.ownsRow (w.heap.size + 3) 3 1 va' k' (ints ys')) (hat : va.ownBlock = va'.ownBlock ∨ va'.ownBlock = some (W.heap.size + 1)) :
  W3.cell? ⟨p, 0, none⟩ = some va ∧ W3.frozen? ⟨p, 0, none⟩ = false ∧ RW4 w v x y u p va' k' ys' (W3.setCell ⟨p, 0, none⟩ va') := by
 obtain ⟨a, b, c, d, e⟩ := h
 have hpl := (Array.getElem?_eq_some_iff.1 b).1
 have hz : (W.alloc o).heap.size = W.heap.size + 1 := by simp
 have hb3 : W3.heap[p]? = some (.cells #[va] 26) := by
  rw [hg.block p (by omega) (fun q => e q.symm), Below.heap_alloc W o p hpl]; exact b
 have hbl : Below (w.heap.size + 3) (W.alloc o) W3 := (Below.refl _ _).grown hg (by have := a.2.1; omega) (fun q hq => (d.lt q hq).1)
 have hT : RW3 w v x y u W3 := (a.on (below_alloc1 W o) a.2.1).on hbl (Nat.le_refl _)
 refine ⟨(cellAt hb3 0).1.trans rfl, (cellAt hb3 0).2, hT.on ((Below.refl (w.heap.size + 3) W3).setCell (p := ⟨p, 0, none⟩) c va') (Nat.le_refl _), ?_, c, ?_, ?_⟩
 ·have := block_setCell hb3 va' (i := 0)
  rw [this]; rfl
 ·refine (ho.kept (row := some p) ⟨rfl, rfl, rfl, by simp [World.setCell], fun j hj hne => Below.heap_setCell W3 _ va' j (fun q => hne (by rw [q]))⟩ (.inr ?_))
  rcases hat with q | q
  ·rw [← q]; exact e
  ·rw [q]; intro r; injection r with r; omega
 ·rcases hat with q | q
  ·rw [← q]; exact e
  ·rw [q]; intro r; injection r with r; omega
theorem RW4.put {g cap : Nat} {j : Nat} {z : Int} (h : RW4 w v x y u p (.slice (some ⟨g, 0, none⟩) k cap) k ys W) : RW4 w v x y u p (.slice (some ⟨g, 0, none⟩) k cap) k (ys.set j z) (W.setCell ⟨g, j, none⟩ (.int .i64 z)) := by
 obtain ⟨a, b, c, d, e⟩ := h
 have hg := (d.lt g rfl).1
 have hne : g ≠ p := fun q => e (by rw [← q]; rfl)
 refine ⟨a.on ((Below.refl (w.heap.size + 3) W).setCell (p := ⟨g, j, none⟩) hg _) (Nat.le_refl _), (Below.heap_setCell W _ _ p (fun q => hne q.symm)).trans b, c, ?_, e⟩
 rw [← ints_set]
 exact (d.stored j (.int .i64 z)).1
end
theorem rowD_set {ys : List Int} {y : Nat} {v : Int} (h : y < ys.length) : rowD (ys.set y v) y = v := rowD_at (List.getElem?_set_self h)
def lenIn : Option Value → Nat
 | some (.slice _ n _) => n
 | _ => 0
theorem pad_step (xs : List Int) (k : Nat) (hk : xs.length ≤ k) : (xs ++ List.replicate (k - xs.length) 0) ++ [0] = xs ++ List.replicate (k + 1 - xs.length) (0 : Int) := by
 rw [List.append_assoc, show k + 1 - xs.length = (k - xs.length) + 1 by omega, List.replicate_succ' (n := k - xs.length)]

set_option maxRecDepth 100000 in
set_option maxHeartbeats 4000000 in
theorem sWithCell (w : World) (A : Option Addr) (n cap B : Nat) (xs : List Int) (hx : xs.length = n) (hn : (n : Int) ≤ 1048576) (h : RowB w B A xs) (hB : B ≤ w.heap.size) (hcap : A = none → n = 0 ∧ cap = 0) (x y : Int) (on : Bool) :
  Calls Try.prog 59 #[.agg #[.slice A n cap], .agg #[.int .i64 x, .int .i64 y], .bool on] w (WithPost (withX xs x y on) (withX xs x y on).length (withB xs x y) w) := by
 obtain ⟨i0, hi, hz0, hz1, hz2⟩ := info_parts intInfo
 have T0 := Lib.hid (rw3_start w (.slice A n cap) x y (.slice none 0 0))
 have HCp := Lib.hid (fun W (hb : Below w.heap.size w W) => sCopy W A n cap B xs hx hn (h.below hb hB) (by have := hb.size; omega) hcap)
 have HOk := Lib.hid (fun W (hb : Below w.heap.size w W) => sRegionOk W A n cap B xs hx (by omega) (h.below hb hB) (by have := hb.size; omega))
 have HX := Lib.hid hx
 clear hx h hcap
 by_cases hk : okR xs ∧ Ok x y
 ·obtain ⟨ho, hok⟩ := hk
  obtain ⟨x', y', rfl, rfl, hx8, hy8⟩ := ok_nat hok
  obtain ⟨e1, e2⟩ := withX_in ho hx8 hy8 on
  rw [e1, e2, withR_length ho.1]
  rw [okRB_of ho] at HOk
  have HCk := Lib.hid (fun W => sCellOk (x' : Int) (y' : Int) W)
  rw [okB_of hok] at HCk
  have hn8 : n ≤ 8 := by have := ho.1; have := HX.out; omega
  have hr := rowD_ok ho y'
  have HRD := Lib.hid (rowD_pad8 xs y')
  have HWR := Lib.hid (show withR xs x' y' on = (pad8 xs).set y' (putB (rowD xs y') x' on) from rfl)
  have hTab := table hr.1 hr.2 hx8
  have hp := pow_wrap hx8
  have HPS := Lib.hid (fun k (hk : n ≤ k) => pad_step xs k (by rw [HX.out]; exact hk))
  rw [HX.out] at HPS
  have HPd := Lib.hid (show xs ++ List.replicate (8 - n) 0 = pad8 xs by unfold pad8; rw [HX.out])
  clear e1 e2 hok ho
  generalize rowD xs y' = r at HRD HWR hTab hr
  go_enter Try.func59, Try.ntmps59
  go_wp2_with fail
  refine (HCp.out _ T0.out.1).mono ?_
  rintro e w1 ⟨A1, cap1, rfl, hown, hb1⟩
  have T1 := T0.out.on hb1 T0.out.2.1
  have S1 := Lib.hid (rw4_start T1 (own_base hown T0.out.2.1))
  have ca : ∀ o, (w1.alloc o).cell? ⟨w.heap.size, 0, none⟩ = some (.slice A n cap) := fun o => (T1.on (below_alloc1 w1 o) T1.2.1).cells.1
  clear T0 hb1 HCp hown T1
  go_wp2_with fail
  have S2 := S1.out
  clear S1 ca
  refine (HOk.out _ S2.1.1).mono ?_
  rintro e w2 ⟨rfl, hb2⟩
  have S3 := S2.on hb2
  clear S2 hb2 HOk
  generalize w1.heap.size = p at S3 ⊢
  obtain ⟨c0, c1, c2, c3, f3⟩ := S3.1.cells
  go_wp2_with fail
  refine (HCk.out _).mono ?_
  rintro e w3 ⟨rfl, hb3⟩
  have S4 := S3.on hb3
  clear S3 hb3 HCk c0 c1 c2 c3 f3
  go_wp2_with fail
  go_loopw [22] (fun _ wr => ∃ (k : Nat) (va : Value), n ≤ k ∧ k ≤ 8 ∧ RW4 w (.slice A n cap) (x' : Int) (y' : Int) (.slice none 0 0) p va k (xs ++ List.replicate (k - n) 0) wr) (fun _ wr => 8 - lenIn (wr.cell? ⟨p, 0, none⟩))
  case atStart => exact ⟨n, .slice A1 n cap1, Nat.le_refl _, hn8, by rw [Nat.sub_self, List.replicate_zero, List.append_nil]; exact S4⟩
  case round =>
   clear S4
   obtain ⟨k, va, hnk, hk8, S5⟩ := hrel
   obtain ⟨A2, cap2, rfl⟩ := own_shape S5.2.2.2.1
   obtain ⟨cp, fp⟩ := S5.box
   by_cases hlt : k < 8
   ·have HOwn := Lib.hid S5.2.2.2.1
    have HS := Lib.hid S5
    have hsz := S5.1.2.1
    have HStep := Lib.hid (HPS.out k hnk)
    clear S5
    go_wp2_with (first | (at_builtin; refine wpList_append_lies _ rfl _ _ 24 rfl (w.heap.size + 3) 3 i0 (.int .i64 0) 1 8 Try.underlying24 hi hz0 hz1 hz2 rfl (by decide) (.slice A2 k cap2) k (ints (xs ++ List.replicate (k - n) 0)) (by rfl) (HOwn.out.alloc _) ⟨wr.heap.size, 0, none⟩ 1 1 [.int .i64 0] (by rfl) rfl (World.news_of_block (cs := #[.int .i64 0]) (t := 3) (fr := (0, 0)) (heap_alloc_new wr _)) (by simp [Value.oneCell']) (by decide) (by unfold maxLen; omega) (by omega) (by simp; omega) (wr.heap.size + 1) (by simp) ?_; intro gg capn w4 hown4 hgrow hat hlt4; obtain ⟨d1, g1, S6⟩ := HS.out.grown (va' := .slice (some ⟨gg, 0, none⟩) (k + 1) capn) (k' := k + 1) (ys' := xs ++ List.replicate (k + 1 - n) 0) hgrow (by rw [← HStep.out, ints_snoc]; exact hown4) (by rcases hat with q | q; exact .inl q; exact .inr (by rw [q]; rfl))))
    have hm := S6.box.1
    have HS6 := Lib.hid S6
    clear hown4 hgrow hat hlt4 S6
    go_wp2
    go_roundw
    case rel => exact ⟨k + 1, _, by omega, by omega, HS6.out⟩
    case measure => (simp [lenIn, cp, hm] <;> omega)
   ·obtain rfl : k = 8 := by omega
    obtain ⟨g, c, hv, hg1, hg2⟩ := S5.2.2.2.1.form (by omega)
    injection hv with hA2 hz8 hc
    subst hA2
    clear hz8 hc
    have S6 : RW4 w (.slice A n cap) (x' : Int) (y' : Int) (.slice none 0 0) p (.slice (some ⟨g, 0, none⟩) 8 cap2) 8 (pad8 xs) wr := by rw [← HPd.out]; exact S5
    clear S5 HPS HPd hnk hk8 hlt hn8 HX hn
    obtain ⟨hrc, hrf⟩ := row_cell S6.2.2.2.1 hy8
    rw [HRD.out] at hrc
    obtain ⟨c0, c1, c2, c3, f3⟩ := S6.1.cells
    obtain ⟨_, _, hor, _, hsb, hv0, hv1, hv2, hv3, _⟩ := hTab
    obtain ⟨hp1, hp2⟩ := hp
    have hsub : wrap64 (putB r x' true - 2 ^ x') = putB r x' false := by rw [hsb]; unfold wrap64; omega
    have hsub2 : IntKind.i64.wrap (putB r x' true - 2 ^ x') = putB r x' false := by rw [hsb, IntKind.wrap_i64]; omega
    clear hsb hv0 hv1 hv2 hv3
    have HWR2 := HWR
    obtain ⟨v1, hv1⟩ : ∃ v1, v1 = putB r x' true := ⟨_, rfl⟩
    obtain ⟨v2, hv2⟩ : ∃ v2, v2 = putB r x' false := ⟨_, rfl⟩
    have HW1 := Lib.hid (show on = true → withR xs x' y' on = (pad8 xs).set y' v1 from fun q => by rw [HWR.out, q, hv1])
    have HW2 := Lib.hid (show on = false → withR xs x' y' on = ((pad8 xs).set y' v1).set y' v2 from fun q => by rw [HWR.out, q, hv2, List.set_set])
    rw [← hv1] at hor hsub hsub2
    rw [← hv2] at hsub hsub2
    clear hv1 hv2 HWR HWR2 hrf
    have hrf := S6.2.2.2.1.frozenAt y'
    go_wp2_with fail
    go_region
    have S7 := S6.put (j := y') (z := v1)
    have hr7 := (row_cell S7.2.2.2.1 hy8)
    clear c0 c1 c2 c3 f3 cp fp hrc hrf S6 hor
    have S8 := S7.drew
    clear S7 hr7
    generalize (wr.setCell ⟨g, y', none⟩ (.int .i64 v1)).drew = W8 at S8 ⊢
    cases on with
    | true =>
     have HW := Lib.hid (HW1.out rfl)
     obtain ⟨c0, c1, c2, c3, f3⟩ := S8.1.cells
     obtain ⟨cp, fp⟩ := S8.box
     obtain ⟨hres, hpost⟩ := with_end (b := true) S8.1 S8.2.2.2.1
     have HP := Lib.hid hpost
     clear hpost S8 HW1 HW2 hsub hsub2
     go_wp2
     rw [HW.out]
     exact bodyPost_ret (v := .tuple #[.agg #[.slice (some ⟨g, 0, none⟩) 8 cap2], .bool true]) (by simp [results, Try.results59, go_sem, hres]) rfl HP.out
    | false =>
     have HW := Lib.hid (HW2.out rfl)
     obtain ⟨hrc, hrf⟩ := row_cell S8.2.2.2.1 hy8
     rw [rowD_set (by have := S8.2.2.2.1.1; rw [ints_length, List.length_set] at this; omega)] at hrc
     obtain ⟨c0, c1, c2, c3, f3⟩ := S8.1.cells
     obtain ⟨cp, fp⟩ := S8.box
     have hyI : (y' : Int) < 8 := by omega
     have hsh : Op.shift .shl .i64 1 .i64 (x' : Int) = pure (.int .i64 (2 ^ x')) := by
      rw [shift_shl .i64 .i64 1 (x' : Int) (by omega) (by show (x' : Int) ≤ 64; omega), Int.one_mul, Int.toNat_natCast, hp2]
     clear HW1 HW2
     go_wp2_with fail
     go_still_tail 14, (by kernel_rfl)
     change wpList _ _ _ _ _ W8.drew
     have S8 := S8.drew
     clear hrc hrf c0 c1 c2 c3 f3 cp fp hsh
     generalize W8.drew = W8 at S8 ⊢
     obtain ⟨hrc, hrf⟩ := row_cell S8.2.2.2.1 hy8
     have S9 := S8.put (j := y') (z := v2)
     obtain ⟨_, _, _, d3, e3⟩ := S9.1.cells
     obtain ⟨dp, ep⟩ := S9.box
     obtain ⟨hres, hpost⟩ := with_end (b := true) S9.1 S9.2.2.2.1
     have HP := Lib.hid hpost
     clear hpost S9 S8 hsub hsub2 hp1 hp2
     go_wp2
     rw [HW.out]
     exact bodyPost_ret (v := .tuple #[.agg #[.slice (some ⟨g, 0, none⟩) 8 cap2], .bool true]) (by simp [results, Try.results59, go_sem, hres]) rfl HP.out
 ·obtain ⟨e1, e2⟩ := withX_out hk on
  rw [e1, e2, HX.out]
  clear e1 e2
  have hcs : okRB xs = false ∨ okRB xs = true ∧ okB x y = false := by
   by_cases ho : okR xs
   ·exact .inr ⟨okRB_of ho, okB_not fun q => hk ⟨ho, q⟩⟩
   ·exact .inl (okRB_not ho)
  have HCk := Lib.hid (fun W => sCellOk x y W)
  generalize okRB xs = b1 at HOk hcs
  generalize okB x y = b2 at HCk hcs
  clear hk
  go_enter Try.func59, Try.ntmps59
  go_wp2_with fail
  refine (HCp.out _ T0.out.1).mono ?_
  rintro e w1 ⟨A1, cap1, rfl, hown, hb1⟩
  have T1 := T0.out.on hb1 T0.out.2.1
  have S1 := Lib.hid (rw4_start T1 (own_base hown T0.out.2.1))
  have ca : ∀ o, (w1.alloc o).cell? ⟨w.heap.size, 0, none⟩ = some (.slice A n cap) := fun o => (T1.on (below_alloc1 w1 o) T1.2.1).cells.1
  clear T0 hb1 HCp hown T1
  go_wp2_with fail
  have S2 := S1.out
  clear S1 ca
  refine (HOk.out _ S2.1.1).mono ?_
  rintro e w2 ⟨rfl, hb2⟩
  have S3 := S2.on hb2
  clear S2 hb2 HOk
  generalize w1.heap.size = p at S3 ⊢
  obtain ⟨c0, c1, c2, c3, f3⟩ := S3.1.cells
  obtain ⟨cp, fp⟩ := S3.box
  rcases hcs with rfl | ⟨rfl, rfl⟩
  ·obtain ⟨hres, hpost⟩ := with_end (b := false) S3.1 S3.2.2.2.1
   have HP := Lib.hid hpost
   clear hpost S3
   go_wp2
   exact bodyPost_ret (v := .tuple #[.agg #[.slice A1 n cap1], .bool false]) (by simp [results, Try.results59, go_sem, hres]) rfl HP.out
  ·go_wp2_with fail
   refine (HCk.out _).mono ?_
   rintro e w3 ⟨rfl, hb3⟩
   have S4 := S3.on hb3
   clear S3 hb3 HCk c0 c1 c2 c3 f3 cp fp
   obtain ⟨c0, c1, c2, c3, f3⟩ := S4.1.cells
   obtain ⟨cp, fp⟩ := S4.box
   obtain ⟨hres, hpost⟩ := with_end (b := false) S4.1 S4.2.2.2.1
   have HP := Lib.hid hpost
   clear hpost S4
   go_wp2
   exact bodyPost_ret (v := .tuple #[.agg #[.slice A1 n cap1], .bool false]) (by simp [results, Try.results59, go_sem, hres]) rfl HP.out
end Go.Proofs.Ytjfagpmklifjlaa.Reg
