/- WithCell, the model's. -/
import Derived.Test.YtcncikgcieigaaaRegWc
import Derived.Test.YtcncikgcieigaaaRegRc
import Derived.Deep.AppendLies
namespace Go.Proofs.Ytcncikgcieigaaa.Reg
set_option linter.unusedVariables false
open Go.RowKit Go.Proofs.Ytcncikgcieigaaa.Base Go.Proofs.Ytcncikgcieigaaa.Pure Go.Proofs.Ytcncikgcieigaaa.Cell Go.Joins

set_option maxRecDepth 100000 in
set_option maxHeartbeats 1000000 in
theorem sCopy (w : World) (A : Option Addr) (n cap B : Nat) (xs : List Int) (hx : xs.length = n) (hn : (n : Int) ≤ 1048576) (h : RowB w B A xs) (hB : B ≤ w.heap.size) (hcap : A = none → n = 0 ∧ cap = 0) :
    Calls Try.prog 60 #[.agg #[.slice A n cap]] w (RegPost xs n w) := by
  obtain ⟨i0, hi, hz0, hz1, hz2⟩ := info_parts intInfo
  have HLx := Lib.hid (show (ints xs).length = n * 1 by rw [ints_length, hx, Nat.mul_one])
  have HOne := Lib.hid (ints_oneCell xs)
  have HR := Lib.hid (fun W (hb : Below w.heap.size w W) => h.below hb hB)
  have HB3 := Lib.hid (fun (o1 o2 o3 : Obj) => below_alloc3 w o1 o2 o3)
  have HM := Lib.hid (fun (o1 o2 : Obj) => show ((((w.alloc o1).alloc o2).alloc (.cells #[] 3)).ownsRow (w.heap.size + 2) 3 1 (.slice (some ⟨w.heap.size + 1 + 1, 0, none⟩) 0 0) 0 [] ∧ (((w.alloc o1).alloc o2).alloc (.cells #[] 3)).heap.size = w.heap.size + 3) from by
    have hz : ((w.alloc o1).alloc o2).heap.size = w.heap.size + 1 + 1 := by simp
    have := World.ownsRow_made (base := w.heap.size + 2) (e := 3) (size := 1) ((w.alloc o1).alloc o2) #[] 0 (by rw [hz]; omega) (by unfold maxLen; omega) rfl
    rw [hz] at this
    exact ⟨this, by simp⟩)
  have HBx := Lib.hid (fun (o1 o2 o3 : Obj) => (three (Below.refl _ (((w.alloc o1).alloc o2).alloc o3))).2.1)
  have HX := Lib.hid hx
  clear hx h
  cases A with
  | none =>
    obtain ⟨rfl, rfl⟩ := hcap rfl
    have hnil : xs = [] := List.eq_nil_of_length_eq_zero HX.out
    subst hnil
    go_enter Try.func60, Try.ntmps60
    go_wp2
    refine bodyPost_ret (v := .agg #[.slice (some ⟨w.heap.size + 1 + 1, 0, none⟩) 0 0]) (by simp [results, Try.results60, go_sem]) rfl ⟨_, 0, rfl, ?_, HB3.out _ _ _⟩
    exact own_base (HM.out _ _).1 (by omega)
  | some ad =>
    obtain ⟨hm1, hm2⟩ := HM.out (.cells #[.slice (some ad) n cap] 26) (.cells #[.slice none 0 0] 26)
    have HO := Lib.hid hm1
    have HSrc := Lib.hid (rowB_src' (HR.out _ (HB3.out (.cells #[.slice (some ad) n cap] 26) (.cells #[.slice none 0 0] 26) (.cells #[] 3))))
    have HBl := Lib.hid (HBx.out (.cells #[.slice (some ad) n cap] 26) (.cells #[.slice none 0 0] 26) (.cells #[] 3))
    have HBe := Lib.hid (HB3.out (.cells #[.slice (some ad) n cap] 26) (.cells #[.slice none 0 0] 26) (.cells #[] 3))
    have HS := Lib.hid hm2
    clear hm1 hm2
    go_enter Try.func60, Try.ntmps60
    go_wp2_with (first | (at_builtin; refine wpList_append_own _ rfl _ _ 24 rfl (w.heap.size + 2) 3 i0 (.int .i64 0) 1 8 Try.underlying24 hi hz0 hz1 hz2 rfl (by decide) (.slice (some ⟨w.heap.size + 1 + 1, 0, none⟩) 0 0) 0 [] (by rfl) HO.out ad n cap (ints xs) (by rfl) HLx.out HSrc.out HOne.out (by unfold maxLen; omega) (by omega) (by rw [HS.out]; omega) ?_; intro v' w3 hown3 hgrow _; obtain ⟨A', cap', hv'⟩ := own_shape hown3; subst hv'; have hbl3 := (hgrow.block (w.heap.size + 1) (by rw [HS.out]; omega) (by simp [Value.ownBlock])).trans HBl.out; obtain ⟨c2, f2⟩ := cellAt hbl3 0))
    have HO3 := Lib.hid (show w3.ownsRow (w.heap.size + 2) 3 1 (.slice A' n cap') n (ints xs) by simpa using hown3)
    have hb3 : Below w.heap.size w w3 := HBe.out.grown hgrow (by rw [HS.out]; omega) (by simp [Value.ownBlock]; omega)
    have hres := World.cell?_setCell_same _ ⟨w.heap.size + 1, 0, none⟩ (.slice A' n cap') (u := .slice none 0 0) c2
    clear hown3 hgrow hbl3
    go_wp2
    refine bodyPost_ret (v := .agg #[.slice A' n cap']) (by simp [results, Try.results60, go_sem, hres]) rfl ⟨_, _, rfl, ?_, hb3.setCell (by show w.heap.size ≤ w.heap.size + 1; omega) _⟩
    exact own_base (ownsRow_setCell_below HO3.out (by show w.heap.size + 1 < w.heap.size + 2; omega) _) (by omega)
end Go.Proofs.Ytcncikgcieigaaa.Reg
