/- RegWc, RegWs in one text. -/
import Derived.Test.YtmaghekcpopepaaDoorMgCls
import Derived.Laws.CopyOwn
import Derived.Deep.DeepAppendRoom
import Derived.BigRegion
import Derived.Test.YtmaghekcpopepaaDoorMgCtS
import Derived.Deep.AppendLies

/- WithCell, the program's: a region with a cell put in or taken out, in new memory. -/
namespace Go.Proofs.YtmaghekcpopepaaDoor.Reg
set_option linter.unusedVariables false
open Go.RowKit Go.Proofs.YtmaghekcpopepaaDoor.Base Go.Proofs.YtmaghekcpopepaaDoor.Pure Go.Proofs.YtmaghekcpopepaaDoor.Cell Go.Joins

/-- the region with a cell or without it; the same region if one of the two is not valid. -/
def withX (xs : List Int) (x y : Int) (on : Bool) : List Int := if okR xs ∧ Ok x y then withR xs x.toNat y.toNat on else xs
def withB (xs : List Int) (x y : Int) : Bool := decide (okR xs ∧ Ok x y)
theorem withX_in {xs : List Int} {x y : Nat} (ho : okR xs) (hx : x < 8) (hy : y < 8) (on : Bool) : withX xs (x : Int) (y : Int) on = withR xs x y on ∧ withB xs (x : Int) (y : Int) = true := by
  have hk : okR xs ∧ Ok (x : Int) (y : Int) := ⟨ho, by unfold Ok; omega⟩
  unfold withX withB
  rw [if_pos hk, Int.toNat_natCast, Int.toNat_natCast]
  exact ⟨rfl, decide_eq_true hk⟩
theorem withX_out {xs : List Int} {x y : Int} (h : ¬ (okR xs ∧ Ok x y)) (on : Bool) : withX xs x y on = xs ∧ withB xs x y = false := by
  unfold withX withB
  rw [if_neg h]
  exact ⟨rfl, decide_eq_false h⟩
/-- an answer: a region in memory of the call's own, and a bool. -/
def WithPost (xs : List Int) (n : Nat) (b : Bool) (w : World) (e : Ending) (w' : World) : Prop :=
  ∃ A cap, e = .returned (.tuple #[.agg #[.slice A n cap], .bool b]) ∧ w'.ownsRow w.heap.size 3 1 (.slice A n cap) n (ints xs) ∧ Below w.heap.size w w'
theorem padded (xs : List Int) (h : xs.length ≤ 8) : splice (List.replicate 8 (Value.int .i64 0)) 0 (ints xs) = ints (pad8 xs) := by
  unfold splice pad8
  rw [List.take_zero, List.nil_append, Nat.zero_add, List.drop_replicate, ints_length]
  unfold ints
  rw [List.map_append, List.map_replicate]
theorem own_full {w : World} {base e n g : Nat} {xs : List Value} (h : w.ownsRow base e 1 (.slice (some ⟨g, 0, none⟩) n n) n xs) : w.heap[g]? = some (.cells xs.toArray e (0, 0)) := by
  rcases h.2 with ⟨h', _⟩ | ⟨g', cap', cur, h', _, hg, _, _, hcs, htake⟩
  · simp at h'
  · simp only [Value.slice.injEq, Option.some.injEq, Addr.mk.injEq, and_true, true_and] at h'
    obtain ⟨rfl, rfl⟩ := h'
    rw [hg]
    have : cur = xs.toArray := by
      rw [← htake, List.take_of_length_le (by rw [Array.length_toList]; omega)]
    rw [this]
theorem pow_wrap {x : Nat} (hx : x < 8) : wrap64 ((2 : Int) ^ x) = 2 ^ x ∧ IntKind.i64.wrap ((2 : Int) ^ x) = 2 ^ x := by
  have hcs : x = 0 ∨ x = 1 ∨ x = 2 ∨ x = 3 ∨ x = 4 ∨ x = 5 ∨ x = 6 ∨ x = 7 := by omega
  rcases hcs with rfl | rfl | rfl | rfl | rfl | rfl | rfl | rfl <;> exact ⟨by unfold wrap64; decide, by rw [IntKind.wrap_i64]; decide⟩
/-- three boxes of a call's own at its beginning: the region's, the cell's, the answer's. -/
def RW3 (w : World) (v : Value) (x y : Int) (u : Value) (W : World) : Prop :=
  Below w.heap.size w W ∧ w.heap.size + 3 ≤ W.heap.size ∧ W.heap[w.heap.size]? = some (.cells #[v] 26) ∧ W.heap[w.heap.size + 1]? = some (.cells #[.int .i64 x, .int .i64 y] 68) ∧ W.heap[w.heap.size + 1 + 1]? = some (.cells #[u] 26)
section
variable {w W W' : World} {v : Value} {x y : Int} {u : Value}
theorem rw3_start (w : World) (v : Value) (x y : Int) (u : Value) : RW3 w v x y u (((w.alloc (.cells #[v] 26)).alloc (.cells #[.int .i64 x, .int .i64 y] 68)).alloc (.cells #[u] 26)) := by
  obtain ⟨a, b, c⟩ := three (w := w) (Below.refl _ (((w.alloc (.cells #[v] 26)).alloc (.cells #[.int .i64 x, .int .i64 y] 68)).alloc (.cells #[u] 26)))
  exact ⟨below_alloc3 _ _ _ _, by simp, a, b, c⟩
theorem RW3.on {B : Nat} (h : RW3 w v x y u W) (hb : Below B W W') (hB : w.heap.size + 3 ≤ B) : RW3 w v x y u W' := by
  obtain ⟨a, b, c, d, e⟩ := h
  have hz := hb.size
  exact ⟨a.trans (hb.mono (by omega)), by omega, (hb.block _ (by omega)).trans c, (hb.block _ (by omega)).trans d, (hb.block _ (by omega)).trans e⟩
theorem RW3.cells (h : RW3 w v x y u W) : W.cell? ⟨w.heap.size, 0, none⟩ = some v ∧ W.cell? ⟨w.heap.size + 1, 0, none⟩ = some (.int .i64 x) ∧ W.cell? ⟨w.heap.size + 1, 1, none⟩ = some (.int .i64 y) ∧ W.cell? ⟨w.heap.size + 1 + 1, 0, none⟩ = some u ∧ W.frozen? ⟨w.heap.size + 1 + 1, 0, none⟩ = false := by
  obtain ⟨_, _, c, d, e⟩ := h
  exact ⟨(cellAt c 0).1.trans rfl, (cellAt d 0).1.trans rfl, (cellAt d 1).1.trans rfl, (cellAt e 0).1.trans rfl, (cellAt e 0).2⟩
end
theorem rowB_src {w : World} {B : Nat} {A : Option Addr} {xs : List Int} (h : RowB w B A xs) (h0 : 0 < (ints xs).length) : ∃ ad, A = some ad ∧ ∀ j v, (ints xs)[j]? = some v → w.cell? (ad.add j) = some v := by
  rw [ints_length] at h0
  obtain ⟨b, off, h1, h2⟩ := h
  refine ⟨⟨b, off, none⟩, (h1 h0).1, fun j v hv => ?_⟩
  unfold ints at hv
  rw [List.getElem?_map] at hv
  obtain ⟨x, hx, rfl⟩ := Option.map_eq_some_iff.1 hv
  rw [show (⟨b, off, none⟩ : Addr).add j = ⟨b, off + j, none⟩ by unfold Addr.add; split <;> simp_all]
  exact h2 j x hx
theorem rowB_src' {w : World} {B : Nat} {ad : Addr} {xs : List Int} (h : RowB w B (some ad) xs) : ∀ j v, (ints xs)[j]? = some v → w.cell? (ad.add j) = some v := by
  intro j v hv
  have h0 : 0 < (ints xs).length := by
    rcases Nat.eq_zero_or_pos (ints xs).length with k | k
    · rw [List.eq_nil_of_length_eq_zero k] at hv; simp at hv
    · exact k
  obtain ⟨ad', ha, hc⟩ := rowB_src h h0
  injection ha with ha
  subst ha
  exact hc j v hv
theorem own_of_block {w : World} {base e g n : Nat} {xs : List Value} (hg : w.heap[g]? = some (.cells xs.toArray e (0, 0))) (hn : xs.length = n) (hb : base ≤ g) (hm : n ≤ maxLen) : w.ownsRow base e 1 (.slice (some ⟨g, 0, none⟩) n n) n xs :=
  ⟨by omega, .inr ⟨g, n, xs.toArray, rfl, hb, hg, Nat.le_refl _, hm, by rw [Nat.mul_one, ← hn]; simp, by rw [Nat.mul_one, ← hn]; simp⟩⟩
theorem ints_oneCell (xs : List Int) : ∀ v ∈ ints xs, v.oneCell' = true := by
  intro v hv
  unfold ints at hv
  obtain ⟨x, _, rfl⟩ := List.mem_map.1 hv
  rfl
theorem row_cell {w : World} {base n g cap : Nat} {ys : List Int} (h : w.ownsRow base 3 1 (.slice (some ⟨g, 0, none⟩) n cap) n (ints ys)) {y : Nat} (hy : y < n) : w.cell? ⟨g, y, none⟩ = some (.int .i64 (rowD ys y)) ∧ w.frozen? ⟨g, y, none⟩ = false := by
  have hl : ys.length = n := by have := h.1; rw [ints_length] at this; omega
  refine ⟨?_, h.frozenAt y⟩
  rw [h.cellAt y (by omega)]
  exact ints_at (by rw [rowD_at (List.getElem?_eq_getElem (by omega))]; exact List.getElem?_eq_getElem (by omega))
/-- the end of both functions: the answer's box is written and read. -/
theorem with_end {w W : World} {v u : Value} {x y : Int} {A : Option Addr} {m cap : Nat} {ys : List Int} {b : Bool} (h : RW3 w v x y u W) (ho : W.ownsRow (w.heap.size + 3) 3 1 (.slice A m cap) m (ints ys)) :
    (W.setCell ⟨w.heap.size + 1 + 1, 0, none⟩ (.slice A m cap)).cell? ⟨w.heap.size + 1 + 1, 0, none⟩ = some (.slice A m cap) ∧ WithPost ys m b w (.returned (.tuple #[.agg #[.slice A m cap], .bool b])) (W.setCell ⟨w.heap.size + 1 + 1, 0, none⟩ (.slice A m cap)) := by
  refine ⟨World.cell?_setCell_same (w := W) _ _ h.cells.2.2.2.1, A, cap, rfl, ?_, h.1.setCell (by show w.heap.size ≤ w.heap.size + 1 + 1; omega) _⟩
  exact own_base (ownsRow_setCell_below ho (by show w.heap.size + 1 + 1 < w.heap.size + 3; omega) _) (by omega)

end Go.Proofs.YtmaghekcpopepaaDoor.Reg

/- WithCell, the model's. -/
namespace Go.Proofs.YtmaghekcpopepaaDoor.Reg
set_option linter.unusedVariables false
open Go.RowKit Go.Proofs.YtmaghekcpopepaaDoor.Base Go.Proofs.YtmaghekcpopepaaDoor.Pure Go.Proofs.YtmaghekcpopepaaDoor.Cell Go.Joins

set_option maxRecDepth 100000 in
set_option maxHeartbeats 1000000 in
theorem sCopy (w : World) (A : Option Addr) (n cap B : Nat) (xs : List Int) (hx : xs.length = n) (hn : (n : Int) ≤ 1048576) (h : RowB w B A xs) (hB : B ≤ w.heap.size) (hcap : A = none → n = 0 ∧ cap = 0) :
    Calls Tryd.prog 76 #[.agg #[.slice A n cap]] w (RegPost xs n w) := by
  obtain ⟨i0, hi, hz0, hz1, hz2⟩ := info_parts intInfo
  have HLx := Lib.hid (show (ints xs).length = n * 1 by rw [ints_length, hx, Nat.mul_one])
  have HOne := Lib.hid (ints_oneCell xs)
  have HR := Lib.hid (fun W (hb : Below w.heap.size w W) => h.below hb hB)
  have HB3 := Lib.hid (fun (o1 o2 o3 : Obj) => below_alloc3 w o1 o2 o3)
  have HM := Lib.hid (fun (o1 o2 : Obj) => show ((((w.alloc o1).alloc o2).alloc (.cells #[] 3)).ownsRow (w.heap.size + 2) 3 1 (.slice (some ⟨w.heap.size + 1 + 1, 0, none⟩) 0 0) 0 [] ∧ (((w.alloc o1).alloc o2).alloc (.cells #[] 3)).heap.size = w.heap.size + 3) from by
    have hz : ((w.alloc o1).alloc o2).heap.size = w.heap.size + 1 + 1 := by simp
    have := World.ownsRow_made (base := w.heap.size + 2) (e := 3) (size := 1) ((w.alloc o1).alloc o2) #[] 0 (by rw [hz]; omega) (by unfold maxLen; omega) rfl
    rw [hz] at this
    exact ⟨this, by simp⟩)
  have HBx := Lib.hid (fun (o1 o2 o3 : Obj) => (three (Below.refl _ (((w.alloc o1).alloc o2).alloc o3))).2.1)
  have HX := Lib.hid hx
  clear hx h
  cases A with
  | none =>
    obtain ⟨rfl, rfl⟩ := hcap rfl
    have hnil : xs = [] := List.eq_nil_of_length_eq_zero HX.out
    subst hnil
    go_enter Tryd.func76, Tryd.ntmps76
    go_wp2
    refine bodyPost_ret (v := .agg #[.slice (some ⟨w.heap.size + 1 + 1, 0, none⟩) 0 0]) (by simp [results, Tryd.results76, go_sem]) rfl ⟨_, 0, rfl, ?_, HB3.out _ _ _⟩
    exact own_base (HM.out _ _).1 (by omega)
  | some ad =>
    obtain ⟨hm1, hm2⟩ := HM.out (.cells #[.slice (some ad) n cap] 26) (.cells #[.slice none 0 0] 26)
    have HO := Lib.hid hm1
    have HSrc := Lib.hid (rowB_src' (HR.out _ (HB3.out (.cells #[.slice (some ad) n cap] 26) (.cells #[.slice none 0 0] 26) (.cells #[] 3))))
    have HBl := Lib.hid (HBx.out (.cells #[.slice (some ad) n cap] 26) (.cells #[.slice none 0 0] 26) (.cells #[] 3))
    have HBe := Lib.hid (HB3.out (.cells #[.slice (some ad) n cap] 26) (.cells #[.slice none 0 0] 26) (.cells #[] 3))
    have HS := Lib.hid hm2
    clear hm1 hm2
    go_enter Tryd.func76, Tryd.ntmps76
    go_wp2_with (first | (at_builtin; refine wpList_append_own _ rfl _ _ 24 rfl (w.heap.size + 2) 3 i0 (.int .i64 0) 1 8 Tryd.underlying24 hi hz0 hz1 hz2 rfl (by decide) (.slice (some ⟨w.heap.size + 1 + 1, 0, none⟩) 0 0) 0 [] (by rfl) HO.out ad n cap (ints xs) (by rfl) HLx.out HSrc.out HOne.out (by unfold maxLen; omega) (by omega) (by rw [HS.out]; omega) ?_; intro v' w3 hown3 hgrow _; obtain ⟨A', cap', hv'⟩ := own_shape hown3; subst hv'; have hbl3 := (hgrow.block (w.heap.size + 1) (by rw [HS.out]; omega) (by simp [Value.ownBlock])).trans HBl.out; obtain ⟨c2, f2⟩ := cellAt hbl3 0))
    have HO3 := Lib.hid (show w3.ownsRow (w.heap.size + 2) 3 1 (.slice A' n cap') n (ints xs) by simpa using hown3)
    have hb3 : Below w.heap.size w w3 := HBe.out.grown hgrow (by rw [HS.out]; omega) (by simp [Value.ownBlock]; omega)
    have hres := World.cell?_setCell_same _ ⟨w.heap.size + 1, 0, none⟩ (.slice A' n cap') (u := .slice none 0 0) c2
    clear hown3 hgrow hbl3
    go_wp2
    refine bodyPost_ret (v := .agg #[.slice A' n cap']) (by simp [results, Tryd.results76, go_sem, hres]) rfl ⟨_, _, rfl, ?_, hb3.setCell (by show w.heap.size ≤ w.heap.size + 1; omega) _⟩
    exact own_base (ownsRow_setCell_below HO3.out (by show w.heap.size + 1 < w.heap.size + 2; omega) _) (by omega)
end Go.Proofs.YtmaghekcpopepaaDoor.Reg
