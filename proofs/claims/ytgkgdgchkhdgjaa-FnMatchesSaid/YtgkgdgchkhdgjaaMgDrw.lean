/- RegRc, RegWc, Draw0, DrawA, DrawR, Grd, DrP in one text. -/
import Derived.Test.YtgkgdgchkhdgjaaRegM
import Derived.Test.YtgkgdgchkhdgjaaCellB
import Derived.Deep.RegionHeld3
import Derived.Deep.DeepAppendRoom
import Derived.Deep.RegionLaw
import Derived.BigRegion
import Derived.Test.YtgkgdgchkhdgjaaRegCel
import Derived.Laws.CopyOwn
import Derived.Test.YtgkgdgchkhdgjaaRows
import Derived.Test.YtgkgdgchkhdgjaaBase
import Derived.WalkKit
import Derived.WalkSpells
import Derived.WalkLawsBesides
import Derived.Lib.Hide
import Derived.OpenShut
import Derived.Laws.BitsAllLaws
import Derived.Laws.BitsLemmas
import Derived.Deep.QuietTactic
import Derived.BigQuiet
import Derived.StillTailTactics
import Derived.Test.YtgkgdgchkhdgjaaGrdP
import Derived.Test.YtgkgdgchkhdgjaaTilI
import Derived.Test.YtgkgdgchkhdgjaaTilM
import Derived.Test.YtgkgdgchkhdgjaaDomF
import Derived.Test.YtgkgdgchkhdgjaaDomO

/- Rectangle: the program's function and the model's give the same region, in new memory. -/
namespace Go.Proofs.Ytgkgdgchkhdgjaa.Reg
set_option linter.unusedVariables false
open Go.RowKit Go.Proofs.Ytgkgdgchkhdgjaa.Base Go.Proofs.Ytgkgdgchkhdgjaa.Pure Go.Proofs.Ytgkgdgchkhdgjaa.Cell Go.Joins

theorem filled_step (v : Int) (n k : Nat) (hk : k < n) : (ints (List.replicate k v) ++ List.replicate (n - k) (Value.int .i64 0)).set k (.int .i64 v) = ints (List.replicate (k + 1) v) ++ List.replicate (n - (k + 1)) (Value.int .i64 0) := by
  have hl : (ints (List.replicate k v)).length = k := by rw [ints_length, List.length_replicate]
  rw [List.set_append_right _ _ (by omega), hl, Nat.sub_self, show n - k = (n - (k + 1)) + 1 by omega, List.replicate_succ, List.set_cons_zero, List.replicate_succ' (n := k), ints_snoc, List.append_assoc]
  rfl
theorem row_value {k : Nat} (h1 : 1 ≤ k) (h8 : k ≤ 8) : wrap64 (wrap64 ((2 : Int) ^ k) - 1) = 2 ^ k - 1 := by
  have hcs : k = 1 ∨ k = 2 ∨ k = 3 ∨ k = 4 ∨ k = 5 ∨ k = 6 ∨ k = 7 ∨ k = 8 := by omega
  rcases hcs with rfl | rfl | rfl | rfl | rfl | rfl | rfl | rfl <;> (unfold wrap64; decide)

theorem row_value' {k : Nat} (h1 : 1 ≤ k) (h8 : k ≤ 8) : IntKind.i64.wrap (IntKind.i64.wrap ((2 : Int) ^ k) - 1) = 2 ^ k - 1 := by
  have hcs : k = 1 ∨ k = 2 ∨ k = 3 ∨ k = 4 ∨ k = 5 ∨ k = 6 ∨ k = 7 ∨ k = 8 := by omega
  rcases hcs with rfl | rfl | rfl | rfl | rfl | rfl | rfl | rfl <;> (rw [IntKind.wrap_i64, IntKind.wrap_i64]; decide)

theorem two_boxes (w : World) (o1 o2 : Obj) : ((w.alloc o1).alloc o2).heap[w.heap.size]? = some o1 ∧ ((w.alloc o1).alloc o2).heap[w.heap.size + 1]? = some o2 := by
  have h1 : (w.heap.push o1).size = w.heap.size + 1 := by simp
  constructor
  · show ((w.heap.push o1).push o2)[_]? = _
    rw [Array.getElem?_push_lt (by simp)]
    simp
  · show ((w.heap.push o1).push o2)[_]? = _
    rw [← h1]; exact Array.getElem?_push_size

/-- the result's box and the region's, in the model's Rectangle. -/
def SR (w : World) (v : Value) (W : World) : Prop :=
  Below w.heap.size w W ∧ w.heap.size + 2 ≤ W.heap.size ∧ W.heap[w.heap.size]? = some (.cells #[.slice none 0 0] 29) ∧ W.heap[w.heap.size + 1]? = some (.cells #[v] 29)
theorem SR.grown {w W W' : World} {v : Value} {row : Option Nat} (h : SR w v W) (hg : W.grownBy W' row) (hr : ∀ k, row = some k → w.heap.size + 2 ≤ k) : SR w v W' := by
  obtain ⟨a, b, c, d⟩ := h
  have hz := hg.size
  refine ⟨a.grown hg (by omega) (fun k hk => by have := hr k hk; omega), by omega, ?_, ?_⟩
  · rw [hg.block _ (by omega) (fun e => by have := hr _ e.symm; omega)]; exact c
  · rw [hg.block _ (by omega) (fun e => by have := hr _ e.symm; omega)]; exact d
theorem SR.alloc {w W : World} {v : Value} (h : SR w v W) (o : Obj) : SR w v (W.alloc o) := h.grown (World.grownBy_alloc W o none) (by simp)
theorem SR.drew {w W : World} {v : Value} (h : SR w v W) : SR w v W.drew := ⟨h.1.drew, h.2⟩
theorem SR.store {w W : World} {v : Value} (h : SR w v W) (u : Value) : SR w u (W.setCell ⟨w.heap.size + 1, 0, none⟩ u) := by
  obtain ⟨a, b, c, d⟩ := h
  refine ⟨a.setCell (by show w.heap.size ≤ w.heap.size + 1; omega) _, by simpa [World.setCell] using b, ?_, ?_⟩
  · exact (Below.heap_setCell W _ _ _ (by show w.heap.size ≠ w.heap.size + 1; omega)).trans c
  · have := block_setCell d u (i := 0)
    rw [this]; rfl

set_option maxRecDepth 100000 in
set_option maxHeartbeats 2000000 in
theorem sRectIn (w : World) (k n : Nat) (h1 : 1 ≤ k) (h8 : k ≤ 8) (n1 : 1 ≤ n) (n8 : n ≤ 8) :
    Calls Try.prog 88 #[.int .i64 (k : Int), .int .i64 (n : Int)] w (RegPost (List.replicate n (2 ^ k - 1)) n w) := by
  obtain ⟨i0, hi, hz0, hz1, hz2⟩ := info_parts intInfo
  have hv := row_value h1 h8
  have HX := Lib.hid (row_value' h1 h8)
  obtain ⟨v, hvv⟩ : ∃ v, v = (2 : Int) ^ k - 1 := ⟨_, rfl⟩
  rw [← hvv] at hv HX ⊢
  clear hvv
  have HS := Lib.hid (show SR w (.slice none 0 0) ((w.alloc (.cells #[.slice none 0 0] 29)).alloc (.cells #[.slice none 0 0] 29)) from ⟨below_alloc2 w _ _, by simp, (two_boxes w _ _).1, (two_boxes w _ _).2⟩)
  have HI := Lib.hid (fun W => l01In (k : Int) 1 8 W)
  have HJ := Lib.hid (fun W => l01In (n : Int) 1 8 W)
  rw [inB_of (by omega)] at HI HJ
  go_enter Try.func88, Try.ntmps88
  go_wp2_with fail
  go_loopw [6] (fun i wr => ∃ (j : Nat) (u : Value), j ≤ n ∧ i = .int .i64 j ∧ wr.ownsRow (w.heap.size + 2) 3 1 u j (ints (List.replicate j v)) ∧ SR w u wr) (fun i _ => n - (intOf i).toNat)
  case atStart => exact ⟨0, .slice none 0 0, Nat.zero_le _, rfl, World.ownsRow_nil _ _ _ _, HS.out⟩
  case round =>
    clear HS
    obtain ⟨j, u, hj, rfl, hown, hs⟩ := hrel
    have hsz := hs.2.1
    by_cases hlt : j < n
    · obtain ⟨c1, f1⟩ := cellAt hs.2.2.2 0
      have HSR := Lib.hid hs
      have HOwn := Lib.hid hown
      clear hown hs
      go_wp2_with fail
      refine (HI.out _).mono ?_
      rintro e w1 ⟨rfl, rfl⟩
      go_wp2_with fail
      refine (HJ.out _).mono ?_
      rintro e w2 ⟨rfl, rfl⟩
      have ca : ∀ o, (w2.alloc o).cell? ⟨w.heap.size + 1, 0, none⟩ = some u := fun o => (cellAt (HSR.out.alloc o).2.2.2 0).1.trans rfl
      have fa : ∀ o, (w2.alloc o).frozen? ⟨w.heap.size + 1, 0, none⟩ = false := fun o => (cellAt (HSR.out.alloc o).2.2.2 0).2
      go_wp2_with fail
      go_region_law (first | (refine step_append_lies _ (by rfl) _ _ _ (by rfl) (w.heap.size + 2) 3 i0 _ 1 8 Try.underlying22 hi hz0 hz1 hz2 rfl (by omega) u j (ints (List.replicate j v)) (by rfl) ((HOwn.out.alloc _).drew) ⟨w2.heap.size, 0, none⟩ 1 1 [.int .i64 (IntKind.i64.wrap (IntKind.i64.wrap (2 ^ k) - 1))] (by rfl) (by rfl) (World.news_of_block (cs := #[.int .i64 (IntKind.i64.wrap (IntKind.i64.wrap (2 ^ k) - 1))]) (t := 3) (fr := (0, 0)) (heap_alloc_new w2 _)) (by simp [Value.oneCell']) (by omega) (by unfold maxLen; omega) (by omega) (by simp; omega) (w2.heap.size + 1) (by simp) ?_; intro gg cap w3 hown3 hgrow hat hlt3; obtain ⟨d1, g1⟩ := cellAt (((HSR.out.alloc (.cells #[.int .i64 (IntKind.i64.wrap (IntKind.i64.wrap (2 ^ k) - 1))] 3)).drew.grown hgrow (fun q hq => (HOwn.out.lt q hq).1)).2.2.2) 0))
      all_goals
        have hX := HX.out
        rw [hX] at hown3 hgrow
        have hs4 := Lib.hid (((SR.drew (HSR.out.alloc _)).grown hgrow (fun q hq => (HOwn.out.lt q hq).1)).store (.slice (some ⟨gg, 0, none⟩) (j + 1) cap))
        have R := Lib.hid (show (w3.setCell ⟨w.heap.size + 1, 0, none⟩ (.slice (some ⟨gg, 0, none⟩) (j + 1) cap)).ownsRow (w.heap.size + 2) 3 1 (.slice (some ⟨gg, 0, none⟩) (j + 1) cap) (j + 1) (ints (List.replicate (j + 1) v)) by
          rw [List.replicate_succ' (n := j), ints_snoc]
          exact ownsRow_setCell_below hown3 (by show w.heap.size + 1 < w.heap.size + 2; omega) _)
        clear hown3 hgrow hat d1 g1 hX HOwn HSR ca fa c1 f1 hlt3
        go_wp2
        go_roundw
        case rel => exact ⟨j + 1, _, by omega, by go_num, R.out, hs4.out⟩
        case measure => (simp [intOf] <;> omega)
    · obtain rfl : j = n := by omega
      obtain ⟨A, cap, rfl⟩ := own_shape hown
      obtain ⟨c1, f1⟩ := cellAt hs.2.2.2 0
      obtain ⟨c2, f2⟩ := cellAt hs.2.2.1 0
      have HSR := Lib.hid hs
      have HOwn := Lib.hid hown
      clear hown hs
      go_wp2
      have hres := World.cell?_setCell_same (w := wr) ⟨w.heap.size, 0, none⟩ (.slice A j cap) (u := .slice none 0 0) c2
      refine bodyPost_ret (v := .agg #[.slice A j cap]) (by simp [results, Try.results88, go_sem, hres]) rfl ⟨A, cap, rfl, ?_, HSR.out.1.setCell (Nat.le_refl _) _⟩
      exact own_base (ownsRow_setCell_below HOwn.out (by show w.heap.size < w.heap.size + 2; omega) _) (by omega)

set_option maxRecDepth 100000 in
set_option maxHeartbeats 2000000 in
theorem sRectOut (w : World) (a b : Int) (h : ¬ (1 ≤ a ∧ a ≤ 8 ∧ 1 ≤ b ∧ b ≤ 8)) :
    Calls Try.prog 88 #[.int .i64 a, .int .i64 b] w (RegPost [] 0 w) := by
  have HS := Lib.hid (show SR w (.slice none 0 0) ((w.alloc (.cells #[.slice none 0 0] 29)).alloc (.cells #[.slice none 0 0] 29)) from ⟨below_alloc2 w _ _, by simp, (two_boxes w _ _).1, (two_boxes w _ _).2⟩)
  have HI := Lib.hid (fun W => l01In a 1 8 W)
  have HJ := Lib.hid (fun W => l01In b 1 8 W)
  have HR := Lib.hid (fun (W : World) (hW : Below w.heap.size w W) => (show RegPost [] 0 w (.returned (.agg #[.slice none 0 0])) W from ⟨none, 0, rfl, World.ownsRow_nil _ _ _ _, hW⟩))
  have hab : inB a 1 8 = false ∨ inB a 1 8 = true ∧ inB b 1 8 = false := by
    by_cases k : 1 ≤ a ∧ a ≤ 8
    · exact .inr ⟨inB_of k, inB_not fun q => h ⟨k.1, k.2, q.1, q.2⟩⟩
    · exact .inl (inB_not k)
  generalize inB a 1 8 = x at HI hab
  generalize inB b 1 8 = y at HJ hab
  clear h
  go_enter Try.func88, Try.ntmps88
  go_wp2_with fail
  go_loopw [6] (fun i wr => i = .int .i64 0 ∧ SR w (.slice none 0 0) wr) (fun i _ => (intOf i).toNat)
  case atStart => exact ⟨rfl, HS.out⟩
  case round =>
    clear HS
    obtain ⟨rfl, hs⟩ := hrel
    obtain ⟨c1, f1⟩ := cellAt hs.2.2.2 0
    obtain ⟨c2, f2⟩ := cellAt hs.2.2.1 0
    have HSR := Lib.hid hs
    have hres := World.cell?_setCell_same (w := wr) ⟨w.heap.size, 0, none⟩ (.slice none 0 0) (u := .slice none 0 0) c2
    clear hs
    by_cases hb : 0 < b
    · go_wp2_with fail
      refine (HI.out _).mono ?_
      rintro e w1 ⟨rfl, rfl⟩
      rcases hab with rfl | ⟨rfl, rfl⟩
      · go_wp2
        refine bodyPost_ret (v := .agg #[.slice none 0 0]) (by simp [results, Try.results88, go_sem, hres]) rfl (HR.out _ (HSR.out.1.setCell (Nat.le_refl _) _))
      · go_wp2_with fail
        refine (HJ.out _).mono ?_
        rintro e w2 ⟨rfl, rfl⟩
        go_wp2
        refine bodyPost_ret (v := .agg #[.slice none 0 0]) (by simp [results, Try.results88, go_sem, hres]) rfl (HR.out _ (HSR.out.1.setCell (Nat.le_refl _) _))
    · go_wp2
      refine bodyPost_ret (v := .agg #[.slice none 0 0]) (by simp [results, Try.results88, go_sem, hres]) rfl (HR.out _ (HSR.out.1.setCell (Nat.le_refl _) _))

theorem rect_nat {a b : Int} (h : 1 ≤ a ∧ a ≤ 8 ∧ 1 ≤ b ∧ b ≤ 8) : ∃ k n : Nat, a = (k : Int) ∧ b = (n : Int) ∧ 1 ≤ k ∧ k ≤ 8 ∧ 1 ≤ n ∧ n ≤ 8 ∧ rectR a b = List.replicate n (2 ^ k - 1) := by
  refine ⟨a.toNat, b.toNat, by omega, by omega, by omega, by omega, by omega, by omega, ?_⟩
  rw [rectR_in h]
theorem sRectangle (w : World) (a b : Int) :
    Calls Try.prog 88 #[.int .i64 a, .int .i64 b] w (RegPost (rectR a b) (rectR a b).length w) := by
  by_cases h : 1 ≤ a ∧ a ≤ 8 ∧ 1 ≤ b ∧ b ≤ 8
  · obtain ⟨k, n, rfl, rfl, h1, h2, h3, h4, he⟩ := rect_nat h
    rw [he, List.length_replicate]
    exact sRectIn w k n h1 h2 h3 h4
  · rw [rectR_out h]
    exact sRectOut w a b h
end Go.Proofs.Ytgkgdgchkhdgjaa.Reg

/- WithCell, the program's: a region with a cell put in or taken out, in new memory. -/
namespace Go.Proofs.Ytgkgdgchkhdgjaa.Reg
set_option linter.unusedVariables false
open Go.RowKit Go.Proofs.Ytgkgdgchkhdgjaa.Base Go.Proofs.Ytgkgdgchkhdgjaa.Pure Go.Proofs.Ytgkgdgchkhdgjaa.Cell Go.Joins

/-- the region with a cell or without it; the same region if one of the two is not valid. -/
def withX (xs : List Int) (x y : Int) (on : Bool) : List Int := if okR xs ∧ Ok x y then withR xs x.toNat y.toNat on else xs
def withB (xs : List Int) (x y : Int) : Bool := decide (okR xs ∧ Ok x y)
theorem withX_in {xs : List Int} {x y : Nat} (ho : okR xs) (hx : x < 8) (hy : y < 8) (on : Bool) : withX xs (x : Int) (y : Int) on = withR xs x y on ∧ withB xs (x : Int) (y : Int) = true := by
  have hk : okR xs ∧ Ok (x : Int) (y : Int) := ⟨ho, by unfold Ok; omega⟩
  unfold withX withB
  rw [if_pos hk, Int.toNat_natCast, Int.toNat_natCast]
  exact ⟨rfl, decide_eq_true hk⟩
theorem withX_out {xs : List Int} {x y : Int} (h : ¬ (okR xs ∧ Ok x y)) (on : Bool) : withX xs x y on = xs ∧ withB xs x y = false := by
  unfold withX withB
  rw [if_neg h]
  exact ⟨rfl, decide_eq_false h⟩
/-- an answer: a region in memory of the call's own, and a bool. -/
def WithPost (xs : List Int) (n : Nat) (b : Bool) (w : World) (e : Ending) (w' : World) : Prop :=
  ∃ A cap, e = .returned (.tuple #[.agg #[.slice A n cap], .bool b]) ∧ w'.ownsRow w.heap.size 3 1 (.slice A n cap) n (ints xs) ∧ Below w.heap.size w w'
theorem padded (xs : List Int) (h : xs.length ≤ 8) : splice (List.replicate 8 (Value.int .i64 0)) 0 (ints xs) = ints (pad8 xs) := by
  unfold splice pad8
  rw [List.take_zero, List.nil_append, Nat.zero_add, List.drop_replicate, ints_length]
  unfold ints
  rw [List.map_append, List.map_replicate]
theorem own_full {w : World} {base e n g : Nat} {xs : List Value} (h : w.ownsRow base e 1 (.slice (some ⟨g, 0, none⟩) n n) n xs) : w.heap[g]? = some (.cells xs.toArray e (0, 0)) := by
  rcases h.2 with ⟨h', _⟩ | ⟨g', cap', cur, h', _, hg, _, _, hcs, htake⟩
  · simp at h'
  · simp only [Value.slice.injEq, Option.some.injEq, Addr.mk.injEq, and_true, true_and] at h'
    obtain ⟨rfl, rfl⟩ := h'
    rw [hg]
    have : cur = xs.toArray := by
      rw [← htake, List.take_of_length_le (by rw [Array.length_toList]; omega)]
    rw [this]
theorem pow_wrap {x : Nat} (hx : x < 8) : wrap64 ((2 : Int) ^ x) = 2 ^ x ∧ IntKind.i64.wrap ((2 : Int) ^ x) = 2 ^ x := by
  have hcs : x = 0 ∨ x = 1 ∨ x = 2 ∨ x = 3 ∨ x = 4 ∨ x = 5 ∨ x = 6 ∨ x = 7 := by omega
  rcases hcs with rfl | rfl | rfl | rfl | rfl | rfl | rfl | rfl <;> exact ⟨by unfold wrap64; decide, by rw [IntKind.wrap_i64]; decide⟩
/-- three boxes of a call's own at its beginning: the region's, the cell's, the answer's. -/
def RW3 (w : World) (v : Value) (x y : Int) (u : Value) (W : World) : Prop :=
  Below w.heap.size w W ∧ w.heap.size + 3 ≤ W.heap.size ∧ W.heap[w.heap.size]? = some (.cells #[v] 29) ∧ W.heap[w.heap.size + 1]? = some (.cells #[.int .i64 x, .int .i64 y] 58) ∧ W.heap[w.heap.size + 1 + 1]? = some (.cells #[u] 29)
section
variable {w W W' : World} {v : Value} {x y : Int} {u : Value}
theorem rw3_start (w : World) (v : Value) (x y : Int) (u : Value) : RW3 w v x y u (((w.alloc (.cells #[v] 29)).alloc (.cells #[.int .i64 x, .int .i64 y] 58)).alloc (.cells #[u] 29)) := by
  obtain ⟨a, b, c⟩ := three (w := w) (Below.refl _ (((w.alloc (.cells #[v] 29)).alloc (.cells #[.int .i64 x, .int .i64 y] 58)).alloc (.cells #[u] 29)))
  exact ⟨below_alloc3 _ _ _ _, by simp, a, b, c⟩
theorem RW3.on {B : Nat} (h : RW3 w v x y u W) (hb : Below B W W') (hB : w.heap.size + 3 ≤ B) : RW3 w v x y u W' := by
  obtain ⟨a, b, c, d, e⟩ := h
  have hz := hb.size
  exact ⟨a.trans (hb.mono (by omega)), by omega, (hb.block _ (by omega)).trans c, (hb.block _ (by omega)).trans d, (hb.block _ (by omega)).trans e⟩
theorem RW3.cells (h : RW3 w v x y u W) : W.cell? ⟨w.heap.size, 0, none⟩ = some v ∧ W.cell? ⟨w.heap.size + 1, 0, none⟩ = some (.int .i64 x) ∧ W.cell? ⟨w.heap.size + 1, 1, none⟩ = some (.int .i64 y) ∧ W.cell? ⟨w.heap.size + 1 + 1, 0, none⟩ = some u ∧ W.frozen? ⟨w.heap.size + 1 + 1, 0, none⟩ = false := by
  obtain ⟨_, _, c, d, e⟩ := h
  exact ⟨(cellAt c 0).1.trans rfl, (cellAt d 0).1.trans rfl, (cellAt d 1).1.trans rfl, (cellAt e 0).1.trans rfl, (cellAt e 0).2⟩
end
theorem rowB_src {w : World} {B : Nat} {A : Option Addr} {xs : List Int} (h : RowB w B A xs) (h0 : 0 < (ints xs).length) : ∃ ad, A = some ad ∧ ∀ j v, (ints xs)[j]? = some v → w.cell? (ad.add j) = some v := by
  rw [ints_length] at h0
  obtain ⟨b, off, h1, h2⟩ := h
  refine ⟨⟨b, off, none⟩, (h1 h0).1, fun j v hv => ?_⟩
  unfold ints at hv
  rw [List.getElem?_map] at hv
  obtain ⟨x, hx, rfl⟩ := Option.map_eq_some_iff.1 hv
  rw [show (⟨b, off, none⟩ : Addr).add j = ⟨b, off + j, none⟩ by unfold Addr.add; split <;> simp_all]
  exact h2 j x hx
theorem rowB_src' {w : World} {B : Nat} {ad : Addr} {xs : List Int} (h : RowB w B (some ad) xs) : ∀ j v, (ints xs)[j]? = some v → w.cell? (ad.add j) = some v := by
  intro j v hv
  have h0 : 0 < (ints xs).length := by
    rcases Nat.eq_zero_or_pos (ints xs).length with k | k
    · rw [List.eq_nil_of_length_eq_zero k] at hv; simp at hv
    · exact k
  obtain ⟨ad', ha, hc⟩ := rowB_src h h0
  injection ha with ha
  subst ha
  exact hc j v hv
theorem own_of_block {w : World} {base e g n : Nat} {xs : List Value} (hg : w.heap[g]? = some (.cells xs.toArray e (0, 0))) (hn : xs.length = n) (hb : base ≤ g) (hm : n ≤ maxLen) : w.ownsRow base e 1 (.slice (some ⟨g, 0, none⟩) n n) n xs :=
  ⟨by omega, .inr ⟨g, n, xs.toArray, rfl, hb, hg, Nat.le_refl _, hm, by rw [Nat.mul_one, ← hn]; simp, by rw [Nat.mul_one, ← hn]; simp⟩⟩
theorem ints_oneCell (xs : List Int) : ∀ v ∈ ints xs, v.oneCell' = true := by
  intro v hv
  unfold ints at hv
  obtain ⟨x, _, rfl⟩ := List.mem_map.1 hv
  rfl
theorem row_cell {w : World} {base n g cap : Nat} {ys : List Int} (h : w.ownsRow base 3 1 (.slice (some ⟨g, 0, none⟩) n cap) n (ints ys)) {y : Nat} (hy : y < n) : w.cell? ⟨g, y, none⟩ = some (.int .i64 (rowD ys y)) ∧ w.frozen? ⟨g, y, none⟩ = false := by
  have hl : ys.length = n := by have := h.1; rw [ints_length] at this; omega
  refine ⟨?_, h.frozenAt y⟩
  rw [h.cellAt y (by omega)]
  exact ints_at (by rw [rowD_at (List.getElem?_eq_getElem (by omega))]; exact List.getElem?_eq_getElem (by omega))
/-- the end of both functions: the answer's box is written and read. -/
theorem with_end {w W : World} {v u : Value} {x y : Int} {A : Option Addr} {m cap : Nat} {ys : List Int} {b : Bool} (h : RW3 w v x y u W) (ho : W.ownsRow (w.heap.size + 3) 3 1 (.slice A m cap) m (ints ys)) :
    (W.setCell ⟨w.heap.size + 1 + 1, 0, none⟩ (.slice A m cap)).cell? ⟨w.heap.size + 1 + 1, 0, none⟩ = some (.slice A m cap) ∧ WithPost ys m b w (.returned (.tuple #[.agg #[.slice A m cap], .bool b])) (W.setCell ⟨w.heap.size + 1 + 1, 0, none⟩ (.slice A m cap)) := by
  refine ⟨World.cell?_setCell_same (w := W) _ _ h.cells.2.2.2.1, A, cap, rfl, ?_, h.1.setCell (by show w.heap.size ≤ w.heap.size + 1 + 1; omega) _⟩
  exact own_base (ownsRow_setCell_below ho (by show w.heap.size + 1 + 1 < w.heap.size + 3; omega) _) (by omega)

end Go.Proofs.Ytgkgdgchkhdgjaa.Reg

/- The model's draws out of a code: a cursor in a block of the call's own; each draw returns a number in its range, writes into the cursor's block alone, and leaves the cursor as a cursor. -/
namespace Go.Proofs.Ytgkgdgchkhdgjaa.Draw
set_option linter.unusedVariables false
open Go.RowKit Go.Proofs.Ytgkgdgchkhdgjaa.Base

/-- the bytes of the code can be read, below block B. -/
def Rd (w : World) (B : Nat) (A : Option Addr) (len : Nat) : Prop :=
  ∃ (b off : Nat) (f : Nat → Int), (0 < len → b < B ∧ A = some ⟨b, off, none⟩) ∧ ∀ j, j < len → w.cell? ⟨b, off + j, none⟩ = some (.int .u8 (f j)) ∧ 0 ≤ f j ∧ f j ≤ 255
/-- a cursor over the code lies in block g, at B or past it. -/
def Cur (w : World) (B g : Nat) (A : Option Addr) (len cap : Nat) : Prop :=
  B ≤ g ∧ len ≤ 1048576 ∧ Rd w B A len ∧ ∃ (i : Nat) (h : Int), i ≤ len ∧ w.heap[g]? = some (.cells #[.slice A len cap, .int .i64 i, .int .i64 h] 102 (0, 0))
/-- a draw: a number that P holds of; the cursor is a cursor still; nothing but its block has turned. -/
def Drew (P : Int → Prop) (w : World) (B g : Nat) (A : Option Addr) (len cap : Nat) (e : Ending) (w' : World) : Prop :=
  ∃ x : Int, P x ∧ e = .returned (.int .i64 x) ∧ Cur w' B g A len cap ∧ w.grownBy w' (some g)

theorem grown_trans {a b c : World} {row : Option Nat} (h : a.grownBy b row) (k : b.grownBy c row) : a.grownBy c row :=
  ⟨k.os.trans h.os, k.tape.trans h.tape, k.output.trans h.output, Nat.le_trans h.size k.size, fun i hi hn => (k.block i (Nat.lt_of_lt_of_le hi h.size) hn).trans (h.block i hi hn)⟩
theorem grown_drewN {a b : World} {row : Option Nat} (h : a.grownBy b row) (n : Nat) : a.grownBy (b.drewN n) row := ⟨h.os, h.tape, h.output, h.size, h.block⟩
theorem Rd.grown {w w' : World} {B g : Nat} {A : Option Addr} {len : Nat} (h : Rd w B A len) (hB : B ≤ w.heap.size) (hg : B ≤ g) (hgr : w.grownBy w' (some g)) : Rd w' B A len := by
  obtain ⟨b, off, f, hA, hc⟩ := h
  refine ⟨b, off, f, hA, fun j hj => ⟨?_, (hc j hj).2⟩⟩
  have hb := (hA (by omega)).1
  have := World.cell?_of_block (w := w) (w' := w') (a := ⟨b, off + j, none⟩) (hgr.block b (by omega) (by intro he; injection he; omega))
  rw [this]; exact (hc j hj).1

theorem Rd.below {w w' : World} {B : Nat} {A : Option Addr} {len : Nat} (h : Rd w B A len) (hb : Below B w w') : Rd w' B A len := by
  obtain ⟨b, off, f, hA, hc⟩ := h
  exact ⟨b, off, f, hA, fun j hj => ⟨(hb.cell (p := ⟨b, off + j, none⟩) (hA (by omega)).1).trans (hc j hj).1, (hc j hj).2⟩⟩

theorem and255 (a : Int) : 0 ≤ bits .and .i64 a 255 ∧ bits .and .i64 a 255 ≤ 255 := by
  have h : (BitVec.ofInt 64 a &&& BitVec.ofInt 64 255).toNat ≤ 255 := by
    rw [BitVec.toNat_and]
    exact Nat.le_trans Nat.and_le_right (by decide)
  show 0 ≤ IntKind.i64.wrap ((BitVec.ofInt 64 a &&& BitVec.ofInt 64 255).toNat : Int) ∧ IntKind.i64.wrap ((BitVec.ofInt 64 a &&& BitVec.ofInt 64 255).toNat : Int) ≤ 255
  rw [IntKind.wrap_i64]
  omega

/-- one cell of the cursor is written. -/
theorem set_cursor {w : World} {g k : Nat} {cs cs' : Array Value} {t : TypeId} {u : Value} (hbl : w.heap[g]? = some (.cells cs t (0, 0))) (hcs : cs.setIfInBounds k u = cs') :
    (w.setCell ⟨g, k, none⟩ u).heap[g]? = some (.cells cs' t (0, 0)) ∧ w.grownBy (w.setCell ⟨g, k, none⟩ u) (some g) := by
  subst hcs
  refine ⟨by simp [World.setCell, Array.getElem?_modify, hbl], rfl, rfl, rfl, by simp [World.setCell], fun j hj hne => Below.heap_setCell w _ u j (fun e => hne (by rw [e]))⟩

set_option maxHeartbeats 400000 in
theorem byte (w : World) (B g : Nat) (A : Option Addr) (len cap : Nat) (h0 : Cur w B g A len cap) :
    Calls Try.prog 112 #[.pointer (some ⟨g, 0, none⟩)] w (Drew (fun x => 0 ≤ x ∧ x ≤ 255) w B g A len cap) := by
  obtain ⟨hBg, hlen, hrd, i, h, hi, hbl⟩ := h0
  have hgs : g < w.heap.size := (Array.getElem?_eq_some_iff.1 hbl).1
  have hc2 : w.cell? ⟨g, 2, none⟩ = some (.int .i64 h) := (cell_of_row w g 2 _ _ _ hbl).trans rfl
  have hf2 : w.frozen? ⟨g, 2, none⟩ = false := by simp [World.frozen?, hbl]
  have HB := Lib.hid hbl
  clear hbl
  go_enter Try.func112, Try.ntmps112
  go_wp2_with fail
  generalize wrap64 (wrap64 (h * 6364136223846793005) + 1442695040888963407) = h2
  obtain ⟨hb2, hg2⟩ := set_cursor (k := 2) (u := .int .i64 h2) (cs' := #[.slice A len cap, .int .i64 i, .int .i64 h2]) HB.out rfl
  generalize w.setCell ⟨g, 2, none⟩ (.int .i64 h2) = W at hb2 hg2 ⊢
  clear HB hc2 hf2
  have hc0 : W.cell? ⟨g, 0, none⟩ = some (.slice A len cap) := (cell_of_row W g 0 _ _ _ hb2).trans rfl
  have hc1 : W.cell? ⟨g, 1, none⟩ = some (.int .i64 i) := (cell_of_row W g 1 _ _ _ hb2).trans rfl
  have hc2 : W.cell? ⟨g, 2, none⟩ = some (.int .i64 h2) := (cell_of_row W g 2 _ _ _ hb2).trans rfl
  have hf1 : W.frozen? ⟨g, 1, none⟩ = false := by simp [World.frozen?, hb2]
  have HB2 := Lib.hid hb2
  clear hb2
  have hrdW : Rd W B A len := hrd.grown (by omega) hBg hg2
  by_cases hlt : i < len
  · obtain ⟨b, off, f, hA, hcode⟩ := hrdW
    obtain ⟨hb, rfl⟩ := hA (by omega)
    obtain ⟨hci, hf0, hf255⟩ := hcode i hlt
    clear hcode hA
    go_quiet (fail)
    go_wp2_with fail
    go_quiet (fail)
    go_wp2_with fail
    go_quiet (fail)
    go_wp2_with fail
    go_ret
    obtain ⟨hb3, hg3⟩ := set_cursor (w := W.drewN _) (k := 1) (u := .int .i64 ((i : Int) + 1)) (cs' := #[.slice (some ⟨b, off, none⟩) len cap, .int .i64 ((i + 1 : Nat) : Int), .int .i64 h2]) HB2.out rfl
    have hgw := grown_trans (grown_drewN hg2 _) hg3
    exact ⟨_, and255 _, rfl, ⟨hBg, hlen, hrd.grown (by omega) hBg hgw, i + 1, h2, by omega, hb3⟩, hgw⟩
  · go_quiet (fail)
    go_wp2_with fail
    go_quiet (fail)
    go_wp2
    go_ret
    exact ⟨_, and255 _, rfl, ⟨hBg, hlen, hrdW, i, h2, hi, HB2.out⟩, grown_drewN (grown_drewN hg2 _) _⟩

/-- what 'l01Below' returns: 0 where n is not above 0, a number from 0 to n - 1 otherwise. -/
def InBelow (n x : Int) : Prop := (n ≤ 0 → x = 0) ∧ (0 < n → 0 ≤ x ∧ x < n)
theorem grown_refl (w : World) (row : Option Nat) : w.grownBy w row := ⟨rfl, rfl, rfl, Nat.le_refl _, fun _ _ _ => rfl⟩
theorem emod_in (x n : Int) (hn : 0 < n) : InBelow n (x % n) :=
  ⟨fun h => by omega, fun _ => ⟨Int.emod_nonneg _ (by omega), Int.emod_lt_of_pos _ hn⟩⟩

set_option maxHeartbeats 400000 in
theorem below (w : World) (B g : Nat) (A : Option Addr) (len cap : Nat) (n : Int) (h0 : Cur w B g A len cap) :
    Calls Try.prog 87 #[.pointer (some ⟨g, 0, none⟩), .int .i64 n] w (Drew (InBelow n) w B g A len cap) := by
  have HC := Lib.hid h0
  clear h0
  by_cases h1 : n ≤ 0
  · go_enter Try.func87, Try.ntmps87
    go_wp2
    go_ret
    exact ⟨0, ⟨fun _ => rfl, fun h => by omega⟩, rfl, HC.out, grown_refl _ _⟩
  · have hne : (n == 0) = false := by simp; omega
    by_cases h2 : n ≤ 256
    · go_enter Try.func87, Try.ntmps87
      go_wp2_with fail
      refine (byte w B g A len cap HC.out).mono ?_
      rintro e w1 ⟨x, ⟨x0, x1⟩, rfl, hc, hg⟩
      have HC1 := Lib.hid hc
      clear hc
      go_wp2
      go_ret
      exact ⟨_, emod_in _ _ h1, rfl, HC1.out, hg⟩
    · go_enter Try.func87, Try.ntmps87
      go_wp2_with fail
      refine (byte w B g A len cap HC.out).mono ?_
      rintro e w1 ⟨x, ⟨x0, x1⟩, rfl, hc, hg1⟩
      have HC1 := Lib.hid hc
      clear hc
      go_wp2_with fail
      refine (byte w1 B g A len cap HC1.out).mono ?_
      rintro e w2 ⟨y, ⟨y0, y1⟩, rfl, hc, hg2⟩
      have HC2 := Lib.hid hc
      clear hc
      go_wp2_with fail
      refine (byte w2 B g A len cap HC2.out).mono ?_
      rintro e w3 ⟨z, ⟨z0, z1⟩, rfl, hc, hg3⟩
      have HC3 := Lib.hid hc
      clear hc
      go_wp2_with fail
      refine (byte w3 B g A len cap HC3.out).mono ?_
      rintro e w4 ⟨v, ⟨v0, v1⟩, rfl, hc, hg4⟩
      have HC4 := Lib.hid hc
      clear hc
      go_wp2
      go_ret
      exact ⟨_, emod_in _ _ h1, rfl, HC4.out, grown_trans hg1 (grown_trans hg2 (grown_trans hg3 hg4))⟩

theorem Cur.alloc {w : World} {B g : Nat} {A : Option Addr} {len cap : Nat} (h : Cur w B g A len cap) (o : Obj) : Cur (w.alloc o) B g A len cap := by
  obtain ⟨hBg, hlen, hrd, i, x, hi, hbl⟩ := h
  have hgs : g < w.heap.size := (Array.getElem?_eq_some_iff.1 hbl).1
  exact ⟨hBg, hlen, hrd.grown (by omega) hBg (World.grownBy_alloc w o (some g)), i, x, hi, (Below.heap_alloc w o g hgs).trans hbl⟩
theorem Cur.lt {w : World} {B g : Nat} {A : Option Addr} {len cap : Nat} (h : Cur w B g A len cap) : B ≤ g ∧ g < w.heap.size := by
  obtain ⟨hBg, _, _, i, x, _, hbl⟩ := h
  exact ⟨hBg, (Array.getElem?_eq_some_iff.1 hbl).1⟩

/-- the code of a law: nil, or a row of bytes below block B. -/
def Coded (w : World) (B : Nat) (A : Option Addr) (len : Nat) : Prop := len ≤ 1048576 ∧ Rd w B A len

/-- the cursor at the start: a new block. -/
def NewPost (w : World) (A : Option Addr) (len cap : Nat) (e : Ending) (w' : World) : Prop :=
  ∃ g, e = .returned (.pointer (some ⟨g, 0, none⟩)) ∧ Cur w' w.heap.size g A len cap ∧ Below w.heap.size w w'

set_option maxHeartbeats 400000 in
theorem new (w : World) (A : Option Addr) (len cap : Nat) (h0 : Coded w w.heap.size A len) :
    Calls Try.prog 56 #[.slice A len cap] w (NewPost w A len cap) := by
  obtain ⟨hlen, hrd⟩ := h0
  have HR := Lib.hid hrd
  obtain ⟨b, off, f, hA, hcode⟩ := hrd
  have HA := Lib.hid hA
  have HF := Lib.hid hcode
  clear hA hcode
  go_enter Try.func56, Try.ntmps56
  go_wp2_with fail
  go_loop [3, 4] (fun h i => ∃ (k : Nat) (x : Int), k ≤ len ∧ i = .int .i64 k ∧ h = .int .i64 x) (fun _ i => len - (intOf i).toNat)
  case atStart => exact ⟨0, _, Nat.zero_le _, rfl, rfl⟩
  case round =>
    obtain ⟨k, x, hk, rfl, rfl⟩ := hrel
    by_cases hlt : k < len
    · obtain ⟨hc1, _, _⟩ := HF.out k hlt
      obtain ⟨hb, rfl⟩ := HA.out (by omega)
      by_cases h4 : (k : Int) < 4000
      · go_wp2
        go_round
        case rel => exact ⟨k + 1, _, by omega, by go_num, rfl⟩
        case measure => simp [intOf]; omega
      · go_wp2
        go_ret
        exact ⟨w.heap.size, rfl, ⟨Nat.le_refl _, hlen, HR.out.below ((Below.refl _ _).alloc (Nat.le_refl _) _), 0, x, Nat.zero_le _, heap_alloc_new _ _⟩, (Below.refl _ _).alloc (Nat.le_refl _) _⟩
    · go_wp2
      go_ret
      exact ⟨w.heap.size, rfl, ⟨Nat.le_refl _, hlen, HR.out.below ((Below.refl _ _).alloc (Nat.le_refl _) _), 0, x, Nat.zero_le _, heap_alloc_new _ _⟩, (Below.refl _ _).alloc (Nat.le_refl _) _⟩

/-- what a law's shell says of a slice of numbers that came in. -/
def IsRow (k : IntKind) (w : World) (a : Option Addr) (len cap : Nat) (zs : List Int) : Prop :=
  (a = none ∧ len = 0 ∧ cap = 0 ∧ zs = []) ∨
  ∃ x, a = some x ∧ len ≤ cap ∧ cap ≤ maxLen ∧ zs.length = cap ∧ (∀ i, i < zs.length → w.cell? (x.add i) = some (.int k (zs.getD i 0))) ∧ ∀ n ∈ zs, (Lit.int k n).wf = true
theorem add_none (b o j : Nat) : (⟨b, o, none⟩ : Addr).add j = ⟨b, o + j, none⟩ := by unfold Addr.add; split <;> simp_all
theorem coded_of_row {w : World} {a : Option Addr} {len cap : Nat} {zs : List Int} (h : IsRow .u8 w a len cap zs) (hl : len ≤ 1048576) : Coded w w.heap.size a len := by
  refine ⟨hl, ?_⟩
  rcases h with ⟨rfl, rfl, rfl, rfl⟩ | ⟨x, rfl, hlc, hcm, hz, hcell, hwf⟩
  · exact ⟨0, 0, fun _ => 0, fun h => by omega, fun j hj => by omega⟩
  · by_cases h0 : len = 0
    · subst h0; exact ⟨0, 0, fun _ => 0, fun h => by omega, fun j hj => by omega⟩
    · obtain ⟨b, off, spot⟩ := x
      have hc := hcell 0 (by omega)
      have hs : spot = none := by
        have h1 := World.cell?_spot hc
        simpa [Addr.add] using h1
      subst hs
      refine ⟨b, off, fun j => zs.getD j 0, fun _ => ⟨?_, rfl⟩, fun j hj => ?_⟩
      · rw [add_none] at hc
        exact World.block_lt_of_cell? w _ hc
      · have hc := hcell j (by omega)
        rw [add_none] at hc
        refine ⟨hc, ?_⟩
        have hj' : j < zs.length := by omega
        exact bounds_u8 (hwf (zs.getD j 0) (by simp [List.getElem?_eq_getElem hj']))

/-- is the code too long to be asked? -/
theorem big (w : World) (A : Option Addr) (len cap : Nat) (hl : len ≤ 9223372036854775807) :
    Calls Try.prog 23 #[.slice A len cap] w fun e w' => e = .returned (.bool (decide (1048576 < (len : Int)))) ∧ w = w' := by
  by_cases h : (1048576 : Int) < (len : Int)
  all_goals
    go_enter Try.func23, Try.ntmps23
    go_wp2
    go_ret
    exact ⟨by simp [h], rfl⟩
theorem row_len {k : IntKind} {w : World} {a : Option Addr} {len cap : Nat} {zs : List Int} (h : IsRow k w a len cap zs) : len ≤ 9223372036854775807 := by
  rcases h with ⟨_, rfl, _, _⟩ | ⟨_, _, h1, h2, _⟩
  · omega
  · unfold maxLen at h2; omega
end Go.Proofs.Ytgkgdgchkhdgjaa.Draw

/- Numbers out of a code, as the laws take them; bools as numbers. -/
namespace Go.Proofs.Ytgkgdgchkhdgjaa.Draw
set_option linter.unusedVariables false
open Go.RowKit Go.Proofs.Ytgkgdgchkhdgjaa.Base Go.Proofs.Ytgkgdgchkhdgjaa.Cell

end Go.Proofs.Ytgkgdgchkhdgjaa.Draw

/- The model's draw of a valid region: a rectangle, some of whose cells are taken out, with two cells at one row's end or without. -/
namespace Go.Proofs.Ytgkgdgchkhdgjaa.Draw
set_option linter.unusedVariables false
open Go.RowKit Go.Proofs.Ytgkgdgchkhdgjaa.Base Go.Proofs.Ytgkgdgchkhdgjaa.Pure Go.Proofs.Ytgkgdgchkhdgjaa.Cell Go.Proofs.Ytgkgdgchkhdgjaa.Reg Go.Joins

theorem Cur.later {w w' : World} {B g : Nat} {A : Option Addr} {len cap : Nat} (h : Cur w B g A len cap) {row : Option Nat} (hg : w.grownBy w' row) (hr : row ≠ some g) (hB : ∀ k, row = some k → B ≤ k) : Cur w' B g A len cap := by
  obtain ⟨hBg, hlen, hrd, i, x, hi, hbl⟩ := h
  have hgs := (Array.getElem?_eq_some_iff.1 hbl).1
  refine ⟨hBg, hlen, ?_, i, x, hi, (hg.block g hgs (fun e => hr e.symm)).trans hbl⟩
  obtain ⟨b, off, f, hA, hc⟩ := hrd
  refine ⟨b, off, f, hA, fun j hj => ⟨?_, (hc j hj).2⟩⟩
  have hb := (hA (by omega)).1
  rw [World.cell?_of_block (w := w) (w' := w') (a := ⟨b, off + j, none⟩) (hg.block b (by omega) (fun e => by have := hB b e.symm; omega))]
  exact (hc j hj).1
theorem grown_below {w w' : World} (h : Below w.heap.size w w') (row : Option Nat) : w.grownBy w' row := ⟨h.os, h.tape, h.output, h.size, fun i hi _ => h.block i hi⟩

set_option maxHeartbeats 400000 in
theorem once (w : World) (B g : Nat) (A : Option Addr) (len cap : Nat) (n : Int) (h0 : Cur w B g A len cap) :
    Calls Try.prog 89 #[.pointer (some ⟨g, 0, none⟩), .int .i64 n] w fun e w' => ∃ b : Bool, e = .returned (.bool b) ∧ Cur w' B g A len cap ∧ w.grownBy w' (some g) := by
  have HB := Lib.hid (below w B g A len cap n h0)
  clear h0
  go_enter Try.func89, Try.ntmps89
  go_wp2_with fail
  refine HB.out.mono ?_
  rintro e w1 ⟨x, _, rfl, hc, hg⟩
  have HC := Lib.hid hc
  clear hc
  go_wp2
  go_ret
  exact ⟨_, rfl, HC.out, hg⟩

/-- rows of at most six cells. -/
def Rng (ys : List Int) : Prop := ∀ r ∈ ys, 0 ≤ r ∧ r ≤ 63
theorem rng_at {ys : List Int} (h : Rng ys) {y : Nat} (hy : y < ys.length) : 0 ≤ rowD ys y ∧ rowD ys y ≤ 63 := by
  rw [rowD_at (List.getElem?_eq_getElem hy)]; exact h _ (List.getElem_mem hy)
theorem rng_set {ys : List Int} (h : Rng ys) {y : Nat} {v : Int} (h0 : 0 ≤ v) (h1 : v ≤ 63) : Rng (ys.set y v) := by
  intro r hr
  rcases List.mem_or_eq_of_mem_set hr with k | rfl
  · exact h r k
  · exact ⟨h0, h1⟩
theorem ok_of_rng {ys : List Int} (h : Rng ys) (hl : ys.length ≤ 8) : okR ys := ⟨hl, fun r hr => by have := h r hr; omega⟩
theorem ok_set {ys : List Int} (h : Rng ys) (hl : ys.length ≤ 8) {y : Nat} {v : Int} (h0 : 0 ≤ v) (h1 : v ≤ 255) : okR (ys.set y v) := by
  refine ⟨by rw [List.length_set]; exact hl, fun r hr => ?_⟩
  rcases List.mem_or_eq_of_mem_set hr with k | rfl
  · have := h r k; omega
  · exact ⟨h0, h1⟩
theorem rng_rect {k n : Nat} (h1 : 1 ≤ k) (h6 : k ≤ 6) : Rng (List.replicate n ((2 : Int) ^ k - 1)) := by
  intro r hr
  rw [(List.mem_replicate.1 hr).2]
  have hcs : k = 1 ∨ k = 2 ∨ k = 3 ∨ k = 4 ∨ k = 5 ∨ k = 6 := by omega
  rcases hcs with rfl | rfl | rfl | rfl | rfl | rfl <;> decide
theorem or_table : ∀ r : Fin 64, ∀ k : Fin 6, 0 ≤ bits .or .i64 ((r.val : Nat) : Int) (3 * 2 ^ k.val) ∧ bits .or .i64 ((r.val : Nat) : Int) (3 * 2 ^ k.val) ≤ 255 := by decide +kernel
theorem or_in {r : Int} (h0 : 0 ≤ r) (h1 : r ≤ 63) {k : Nat} (hk : k < 6) : 0 ≤ bits .or .i64 r (3 * 2 ^ k) ∧ bits .or .i64 r (3 * 2 ^ k) ≤ 255 := by
  have h := or_table ⟨r.toNat, by omega⟩ ⟨k, hk⟩
  have e : ((r.toNat : Nat) : Int) = r := Int.toNat_of_nonneg h0
  simp only [e] at h
  exact h
theorem wrap3 {k : Nat} (hk : k < 6) : IntKind.i64.wrap (3 * (2 : Int) ^ k) = 3 * 2 ^ k := by
  have hcs : k = 0 ∨ k = 1 ∨ k = 2 ∨ k = 3 ∨ k = 4 ∨ k = 5 := by omega
  rcases hcs with rfl | rfl | rfl | rfl | rfl | rfl <;> (rw [IntKind.wrap_i64]; decide)
theorem wrap3' {k : Nat} (hk : k < 6) : wrap64 (3 * (2 : Int) ^ k) = 3 * 2 ^ k := by
  have hcs : k = 0 ∨ k = 1 ∨ k = 2 ∨ k = 3 ∨ k = 4 ∨ k = 5 := by omega
  rcases hcs with rfl | rfl | rfl | rfl | rfl | rfl <;> (unfold wrap64; decide)
theorem put_le {r : Int} (h0 : 0 ≤ r) (h1 : r ≤ 63) {k : Nat} (hk : k < 8) (hb : bitB r k = true) : putB r k false = r - 2 ^ k ∧ 0 ≤ r - 2 ^ k ∧ r - 2 ^ k ≤ 63 := by
  have e : putB r k false = r - 2 ^ k := by unfold putB; rw [hb]; rfl
  have t := table h0 (by omega) hk
  have h2 := t.2.2.2.2.2.2.2.1
  rw [e] at h2
  have hp : (0 : Int) ≤ 2 ^ k := Int.pow_nonneg (by decide)
  exact ⟨e, h2, by omega⟩

/-- the state: the cursor; the answer's box at w's end; the region in a box p. -/
def DS (w : World) (B g : Nat) (A : Option Addr) (len cap p : Nat) (va : Value) (k : Nat) (ys : List Int) (W : World) : Prop :=
  (Cur W B g A len cap ∧ g < w.heap.size) ∧ w.grownBy W (some g) ∧ W.heap[w.heap.size]? = some (.cells #[.slice none 0 0] 29) ∧ W.heap[p]? = some (.cells #[va] 29) ∧ w.heap.size < p ∧ W.ownsRow (w.heap.size + 1) 3 1 va k (ints ys) ∧ va.ownBlock ≠ some p
section
variable {w : World} {B g : Nat} {A : Option Addr} {len cap p : Nat} {va : Value} {k : Nat} {ys : List Int} {W W' : World}
theorem DS.on (h : DS w B g A len cap p va k ys W) (hc : Cur W' B g A len cap) (hg : W.grownBy W' (some g)) : DS w B g A len cap p va k ys W' := by
  obtain ⟨⟨a, a2⟩, b, c, d, e, f, f2⟩ := h
  have hpl := (Array.getElem?_eq_some_iff.1 d).1
  have hrl := (Array.getElem?_eq_some_iff.1 c).1
  refine ⟨⟨hc, a2⟩, grown_trans b hg, (hg.block _ hrl (fun q => by injection q; omega)).trans c, (hg.block _ hpl (fun q => by injection q; omega)).trans d, e, f.kept hg (.inr (fun q => ?_)), f2⟩
  have := (f.lt g q).1
  omega
theorem DS.cells (h : DS w B g A len cap p va k ys W) : W.cell? ⟨p, 0, none⟩ = some va ∧ W.cell? ⟨w.heap.size, 0, none⟩ = some (.slice none 0 0) ∧ W.frozen? ⟨w.heap.size, 0, none⟩ = false :=
  ⟨(cellAt h.2.2.2.1 0).1.trans rfl, (cellAt h.2.2.1 0).1.trans rfl, (cellAt h.2.2.1 0).2⟩
theorem DS.drew (h : DS w B g A len cap p va k ys W) : DS w B g A len cap p va k ys W.drew := by
  obtain ⟨⟨a, a2⟩, b, r⟩ := h
  exact ⟨⟨a, a2⟩, ⟨b.os, b.tape, b.output, b.size, b.block⟩, r⟩
theorem DS.put {gg cc j : Nat} {z : Int} (h : DS w B g A len cap p (.slice (some ⟨gg, 0, none⟩) k cc) k ys W) : DS w B g A len cap p (.slice (some ⟨gg, 0, none⟩) k cc) k (ys.set j z) (W.setCell ⟨gg, j, none⟩ (.int .i64 z)) := by
  obtain ⟨⟨a, a2⟩, b, c, d, e, f, f2⟩ := h
  have hgg := (f.lt gg rfl).1
  have hne : gg ≠ p := fun q => f2 (by rw [← q]; rfl)
  have hs := f.stored j (.int .i64 z)
  refine ⟨⟨a.later hs.2 (fun q => by injection q; omega) (fun q hq => by injection hq with hq; have := a.1; omega), a2⟩, ?_, (Below.heap_setCell W _ _ _ (by show w.heap.size ≠ gg; omega)).trans c, (Below.heap_setCell W _ _ _ (fun q => hne q.symm)).trans d, e, ?_, f2⟩
  · exact ⟨b.os, b.tape, b.output, by have := b.size; simpa [World.setCell] using this, fun i hi hne => (Below.heap_setCell W _ _ _ (by show i ≠ gg; omega)).trans (b.block i hi hne)⟩
  · rw [← ints_set]; exact hs.1
end

/-- a drawn region: valid, in memory of the call's own. -/
def DrewR (w : World) (B g : Nat) (A : Option Addr) (len cap : Nat) (e : Ending) (w' : World) : Prop :=
  ∃ (ys : List Int) (A2 : Option Addr) (n c2 : Nat), Hid (okR ys) ∧ Hid (ys.length = n) ∧ e = .returned (.agg #[.slice A2 n c2]) ∧ w'.ownsRow w.heap.size 3 1 (.slice A2 n c2) n (ints ys) ∧ w.grownBy w' (some g) ∧ 1 ≤ n ∧ Cur w' B g A len cap
theorem Cur.setCell {W : World} {B g : Nat} {A : Option Addr} {len cap : Nat} {p : Addr} (h : Cur W B g A len cap) (hp : B ≤ p.block) (hne : g ≠ p.block) (u : Value) : Cur (W.setCell p u) B g A len cap := by
  obtain ⟨hBg, hlen, hrd, i, x, hi, hbl⟩ := h
  exact ⟨hBg, hlen, hrd.below ((Below.refl B W).setCell hp u), i, x, hi, (Below.heap_setCell W p u g hne).trans hbl⟩

theorem region_end {w : World} {B g : Nat} {A : Option Addr} {len cap p : Nat} {A2 : Option Addr} {n c2 : Nat} {ys : List Int} {W : World} (h : DS w B g A len cap p (.slice A2 n c2) n ys W) (ho : Hid (okR ys)) (hl : Hid (ys.length = n)) (h1 : 1 ≤ n) :
    (W.setCell ⟨w.heap.size, 0, none⟩ (.slice A2 n c2)).cell? ⟨w.heap.size, 0, none⟩ = some (.slice A2 n c2) ∧ DrewR w B g A len cap (.returned (.agg #[.slice A2 n c2])) (W.setCell ⟨w.heap.size, 0, none⟩ (.slice A2 n c2)) := by
  refine ⟨World.cell?_setCell_same (w := W) _ _ h.cells.2.1, ys, A2, n, c2, ho, hl, rfl, ?_, ?_, h1, h.1.1.setCell (by have := h.1.1.lt; have := h.1.2; show B ≤ w.heap.size; omega) (by have := h.1.2; show g ≠ w.heap.size; omega) _⟩
  · exact own_base (ownsRow_setCell_below h.2.2.2.2.2.1 (by show w.heap.size < w.heap.size + 1; omega) _) (by omega)
  · have b := h.2.1
    exact ⟨b.os, b.tape, b.output, by have := b.size; simpa [World.setCell] using this, fun i hi hne => (Below.heap_setCell W _ _ _ (by show i ≠ w.heap.size; omega)).trans (b.block i hi hne)⟩

set_option maxRecDepth 100000 in
set_option maxHeartbeats 4000000 in
theorem region (w : World) (B g : Nat) (A : Option Addr) (len cap : Nat) (h0 : Cur w B g A len cap) :
    Calls Try.prog 57 #[.pointer (some ⟨g, 0, none⟩)] w (DrewR w B g A len cap) := by
  have HCur := Lib.hid h0
  have hgw := h0.lt
  have HD := Lib.hid (fun W n (hc : Cur W B g A len cap) => below W B g A len cap n hc)
  have HOn := Lib.hid (fun W n (hc : Cur W B g A len cap) => once W B g A len cap n hc)
  have HA0 := Lib.hid (h0.alloc (.cells #[.slice none 0 0] 29))
  have HG0 := Lib.hid (show w.grownBy (w.alloc (.cells #[.slice none 0 0] 29)) (some g) from World.grownBy_alloc w _ _)
  have HR0 := Lib.hid (heap_alloc_new w (.cells #[.slice none 0 0] 29))
  have HZ0 := Lib.hid (show (w.alloc (.cells #[.slice none 0 0] 29)).heap.size = w.heap.size + 1 by simp)
  clear h0 HCur
  go_enter Try.func57, Try.ntmps57
  go_wp2_with fail
  refine (HD.out _ 6 HA0.out).mono ?_
  rintro e w1 ⟨x1, hx1, rfl, hc1, hg1⟩
  have hb1 := hx1.2 (by omega)
  have HC1 := Lib.hid hc1
  have HG1 := Lib.hid (grown_trans HG0.out hg1)
  have HR1 := Lib.hid ((hg1.block w.heap.size (by rw [HZ0.out]; omega) (by intro q; injection q; omega)).trans HR0.out)
  have HZ1 := Lib.hid (show w.heap.size + 1 ≤ w1.heap.size by have := hg1.size; rw [HZ0.out] at this; exact this)
  clear hc1 hg1 hx1 HA0 HG0 HR0 HZ0
  obtain ⟨a, rfl, ha⟩ : ∃ a : Nat, x1 = (a : Int) ∧ a < 6 := ⟨x1.toNat, by omega, by omega⟩
  clear hb1
  go_wp2_with fail
  refine (HD.out _ 5 HC1.out).mono ?_
  rintro e w2 ⟨x2, hx2, rfl, hc2, hg2⟩
  have hb2 := hx2.2 (by omega)
  have HC2 := Lib.hid hc2
  have HG2 := Lib.hid (grown_trans HG1.out hg2)
  have HR2 := Lib.hid ((hg2.block w.heap.size (by have := HZ1.out; omega) (by intro q; injection q; omega)).trans HR1.out)
  have HZ2 := Lib.hid (show w.heap.size + 1 ≤ w2.heap.size by have := hg2.size; have := HZ1.out; omega)
  clear hc2 hg2 hx2 HC1 HG1 HR1 HZ1
  obtain ⟨c, rfl, hc⟩ : ∃ c : Nat, x2 = (c : Int) ∧ c < 5 := ⟨x2.toNat, by omega, by omega⟩
  clear hb2
  obtain ⟨kw, hkw⟩ : ∃ kw, kw = a + 1 := ⟨_, rfl⟩
  obtain ⟨kh, hkh⟩ : ∃ kh, kh = c + 1 := ⟨_, rfl⟩
  have ew : (1 : Int) + (a : Int) = (kw : Int) := by omega
  have eh : (1 : Int) + (c : Int) = (kh : Int) := by omega
  have hkw1 : 1 ≤ kw := by omega
  have hkw6 : kw ≤ 6 := by omega
  have hkh1 : 1 ≤ kh := by omega
  have hkh5 : kh ≤ 5 := by omega
  clear hkw hkh ha hc
  go_wp2_with fail
  refine (sRectIn w2 kw kh hkw1 (by omega) hkh1 (by omega)).mono ?_
  rintro e w3 ⟨A3, c3, rfl, hown3, hb3⟩
  have S0 := Lib.hid (show DS w B g A len cap w3.heap.size (.slice A3 kh c3) kh (List.replicate kh ((2 : Int) ^ kw - 1)) (w3.alloc (.cells #[.slice A3 kh c3] 29)) from by
    have hgr := grown_below hb3 (some g)
    have hz := hb3.size
    have hz2 := HZ2.out
    have hgl := HC2.out.lt
    have hown := own_base hown3 hz2
    have hal := below_alloc1 w3 (.cells #[.slice A3 kh c3] 29)
    refine ⟨⟨(HC2.out.later (grown_below hb3 none) (by simp) (by simp)).later (grown_below hal none) (by simp) (by simp), hgw.2⟩, grown_trans (grown_trans HG2.out hgr) (grown_below hal _), (hal.block _ (by omega)).trans ((hb3.block _ (by omega)).trans HR2.out), heap_alloc_new w3 _, by omega, hown.alloc _, fun q => ?_⟩
    have := (hown.lt _ q).2
    omega)
  have HRg := Lib.hid (rng_rect (n := kh) hkw1 hkw6)
  have HLn := Lib.hid (List.length_replicate (n := kh) (a := (2 : Int) ^ kw - 1))
  clear hown3 hb3 HC2 HG2 HR2 HZ2
  generalize List.replicate kh ((2 : Int) ^ kw - 1) = ys at S0 HRg HLn
  go_wp2_with fail
  have S1 := S0.out
  clear S0
  generalize w3.alloc (.cells #[.slice A3 kh c3] 29) = W3 at S1 ⊢
  generalize w3.heap.size = p at S1 ⊢
  refine (HD.out _ 5 S1.1.1).mono ?_
  rintro e w4 ⟨x4, hx4, rfl, hc4, hg4⟩
  have hb4 := hx4.2 (by omega)
  have S2 := S1.on hc4 hg4
  clear S1 hc4 hg4 hx4
  obtain ⟨k4, rfl, hk4⟩ : ∃ c : Nat, x4 = (c : Int) ∧ c < 5 := ⟨x4.toNat, by omega, by omega⟩
  clear hb4
  obtain ⟨gg, gc, hv, hg1, hg2⟩ := S2.2.2.2.2.2.1.form (by omega)
  injection hv with hA3 hz8 hcc
  subst hA3
  clear hz8 hcc hg2
  go_wp2_with fail
  go_loopw [6] (fun i wr => ∃ (q : Nat) (zs : List Int), q ≤ 5 ∧ i = .int .i64 q ∧ Hid (Rng zs) ∧ Hid (zs.length = kh) ∧ DS w B g A len cap p (.slice (some ⟨gg, 0, none⟩) kh c3) kh zs wr) (fun i _ => (intOf i).toNat)
  case atStart => exact ⟨k4, ys, by omega, rfl, HRg, HLn, S2⟩
  case round =>
    clear S2 HRg HLn
    obtain ⟨q, zs, hq5, rfl, HRz, HLz, S3⟩ := hrel
    by_cases hq : 0 < (q : Int)
    · go_wp2_with fail
      refine (HD.out _ (kh : Int) S3.1.1).mono ?_
      rintro e w5 ⟨x5, hx5, rfl, hc5, hg5⟩
      have hb5 := hx5.2 (by omega)
      have S4 := S3.on hc5 hg5
      clear S3 hc5 hg5 hx5
      obtain ⟨y, rfl, hy⟩ : ∃ c : Nat, x5 = (c : Int) ∧ c < kh := ⟨x5.toNat, by omega, by omega⟩
      clear hb5
      go_wp2_with fail
      refine (HD.out _ (kw : Int) S4.1.1).mono ?_
      rintro e w6 ⟨x6, hx6, rfl, hc6, hg6⟩
      have hb6 := hx6.2 (by omega)
      have S5 := S4.on hc6 hg6
      clear S4 hc6 hg6 hx6
      obtain ⟨x, rfl, hx⟩ : ∃ c : Nat, x6 = (c : Int) ∧ c < kw := ⟨x6.toNat, by omega, by omega⟩
      clear hb6
      obtain ⟨hrc, hrf⟩ := row_cell S5.2.2.2.2.2.1 hy
      have hr := rng_at HRz.out (y := y) (by rw [HLz.out]; exact hy)
      obtain ⟨cp, _, _⟩ := S5.cells
      have hyI : (y : Int) < (kh : Int) := by omega
      have hx8 : x < 8 := by omega
      have HSet := Lib.hid (fun v h0 h1 => rng_set HRz.out (y := y) (v := v) h0 h1)
      generalize rowD zs y = r at hrc hr
      cases hbit : bitB r x with
      | false =>
        have hz := shr_no hr.1 (by omega) hx8 hbit
        clear hbit
        go_wp2
        go_roundw
        case rel => exact ⟨q - 1, zs, by omega, by first | (congr 1; omega) | go_num, HRz, HLz, S5⟩
        case measure => (simp [intOf] <;> omega)
      | true =>
        have hz := shr_yes hr.1 (by omega) hx8 hbit
        obtain ⟨_, hv0, hv1⟩ := put_le hr.1 hr.2 hx8 hbit
        obtain ⟨hp1, hp2⟩ := pow_wrap hx8
        have hsh : Op.shift .shl .i64 1 .i64 (x : Int) = pure (.int .i64 (2 ^ x)) := by
          rw [shift_shl .i64 .i64 1 (x : Int) (by omega) (by show (x : Int) ≤ 64; omega), Int.one_mul, Int.toNat_natCast, (pow_wrap hx8).2]
        obtain ⟨v, hv⟩ : ∃ v, v = r - 2 ^ x := ⟨_, rfl⟩
        rw [← hv] at hv0 hv1
        have hsub : wrap64 (r - 2 ^ x) = v := by rw [← hv]; unfold wrap64; omega
        have hsub2 : IntKind.i64.wrap (r - 2 ^ x) = v := by rw [← hv, IntKind.wrap_i64]; omega
        have HRv := Lib.hid (HSet.out v hv0 hv1)
        clear hbit hv hv0 hv1 HSet
        go_wp2_with fail
        go_still_tail 11, (by kernel_rfl)
        change wpList _ _ _ _ _ w6.drew
        have S6 := S5.drew
        clear hrc hrf cp S5 hsh
        generalize w6.drew = W6 at S6 ⊢
        obtain ⟨hrc, hrf⟩ := row_cell S6.2.2.2.2.2.1 hy
        have S7 := Lib.hid (S6.put (j := y) (z := v))
        have HLv := Lib.hid (show (zs.set y v).length = kh by rw [List.length_set]; exact HLz.out)
        clear S6 hsub hsub2
        go_wp2
        go_roundw
        case rel => exact ⟨q - 1, zs.set y v, by omega, by first | (congr 1; omega) | go_num, HRv, HLv, S7.out⟩
        case measure => (simp [intOf] <;> omega)
    · obtain rfl : q = 0 := by omega
      have HOk := Lib.hid (ok_of_rng HRz.out (by rw [HLz.out]; omega))
      by_cases hk6 : (kw : Int) < 6
      · go_wp2_with fail
        refine (HOn.out _ 3 S3.1.1).mono ?_
        rintro e w5 ⟨b, rfl, hc5, hg5⟩
        have S4 := S3.on hc5 hg5
        clear S3 hc5 hg5
        cases b with
        | false =>
          have HEnd := Lib.hid (region_end S4 HOk HLz hkh1)
          obtain ⟨cp, cr, fr⟩ := S4.cells
          have hres := HEnd.out.1
          clear S4
          go_wp2
          exact bodyPost_ret (v := .agg #[.slice (some ⟨gg, 0, none⟩) kh c3]) (by simp [results, Try.results57, go_sem, hres]) rfl HEnd.out.2
        | true =>
          go_wp2_with fail
          refine (HD.out _ (kh : Int) S4.1.1).mono ?_
          rintro e w6 ⟨x5, hx5, rfl, hc5, hg5⟩
          have hb5 := hx5.2 (by omega)
          have S5 := S4.on hc5 hg5
          clear S4 hc5 hg5 hx5
          obtain ⟨y, rfl, hy⟩ : ∃ c : Nat, x5 = (c : Int) ∧ c < kh := ⟨x5.toNat, by omega, by omega⟩
          clear hb5
          obtain ⟨hrc, hrf⟩ := row_cell S5.2.2.2.2.2.1 hy
          have hr := rng_at HRz.out (y := y) (by rw [HLz.out]; exact hy)
          obtain ⟨cp, _, _⟩ := S5.cells
          have hyI : (y : Int) < (kh : Int) := by omega
          have hor := or_in hr.1 hr.2 (k := kw) (by omega)
          have hp1 := wrap3' (k := kw) (by omega)
          have hp2 := wrap3 (k := kw) (by omega)
          have hsh : Op.shift .shl .i64 3 .i64 (kw : Int) = pure (.int .i64 (3 * 2 ^ kw)) := by
            rw [shift_shl .i64 .i64 3 (kw : Int) (by omega) (by show (kw : Int) ≤ 64; omega), Int.toNat_natCast, wrap3 (by omega)]
          have HSet := Lib.hid (fun v h0 h1 => ok_set HRz.out (y := y) (v := v) (by rw [HLz.out]; omega) h0 h1)
          generalize rowD zs y = r at hrc hr hor
          obtain ⟨v, hv⟩ : ∃ v, v = bits .or .i64 r (3 * 2 ^ kw) := ⟨_, rfl⟩
          rw [← hv] at hor
          have HOv := Lib.hid (HSet.out v hor.1 hor.2)
          have HLv := Lib.hid (show (zs.set y v).length = kh by rw [List.length_set]; exact HLz.out)
          have hov := hv.symm
          clear hv hor HSet
          go_wp2_with fail
          go_still_tail 11, (by kernel_rfl)
          change wpList _ _ _ _ _ w6.drew
          have S6 := S5.drew
          clear hrc hrf cp S5 hsh
          generalize w6.drew = W6 at S6 ⊢
          obtain ⟨hrc, hrf⟩ := row_cell S6.2.2.2.2.2.1 hy
          have S7 := S6.put (j := y) (z := v)
          have HEnd := Lib.hid (region_end S7 HOv HLv hkh1)
          obtain ⟨cp, cr, fr⟩ := S7.cells
          have hres := HEnd.out.1
          clear S6 S7
          go_wp2
          exact bodyPost_ret (v := .agg #[.slice (some ⟨gg, 0, none⟩) kh c3]) (by simp [results, Try.results57, go_sem, hres]) rfl HEnd.out.2
      · have HEnd := Lib.hid (region_end S3 HOk HLz hkh1)
        obtain ⟨cp, cr, fr⟩ := S3.cells
        have hres := HEnd.out.1
        clear S3
        go_wp2
        exact bodyPost_ret (v := .agg #[.slice (some ⟨gg, 0, none⟩) kh c3]) (by simp [results, Try.results57, go_sem, hres]) rfl HEnd.out.2

theorem Rd.mono {w : World} {B B' : Nat} {A : Option Addr} {len : Nat} (h : Rd w B A len) (hB : B ≤ B') : Rd w B' A len := by
  obtain ⟨b, off, f, hA, hc⟩ := h
  exact ⟨b, off, f, fun h0 => ⟨by have := (hA h0).1; omega, (hA h0).2⟩, hc⟩

end Go.Proofs.Ytgkgdgchkhdgjaa.Draw

/- Dominoes laid one after the other, at random, by the model: partial, in memory of the call's own. -/
namespace Go.Proofs.Ytgkgdgchkhdgjaa.Grd
set_option linter.unusedVariables false
set_option linter.unusedSimpArgs false
open Go.RowKit Go.Proofs.Ytgkgdgchkhdgjaa.Base Go.Proofs.Ytgkgdgchkhdgjaa.Pure Go.Proofs.Ytgkgdgchkhdgjaa.Cell Go.Proofs.Ytgkgdgchkhdgjaa.Cels Go.Proofs.Ytgkgdgchkhdgjaa.Dom Go.Proofs.Ytgkgdgchkhdgjaa.Dms Go.Proofs.Ytgkgdgchkhdgjaa.Til Go.Proofs.Ytgkgdgchkhdgjaa.Draw Go.Joins
open Go.Proofs.Ytgkgdgchkhdgjaa.Reg hiding Yes add_none RC rc_start

/-- an append of some cells or of none: the row lies where it lay, or in the next new block. -/
theorem wpList_append_any {P : Program} (w : World) {ops : Array Oper} {rest : List Oper} {o : Oper} {a : Act} {Q : Exit → Act → World → Prop} (hgd : o.guard = none) (s x : Operand) (t : TypeId)
    (ho : o.op = .call { callee := .builtin .append, args := #[s, x], argTypes := #[t, t] })
    (base : Nat) (e : TypeId) (i : TypeInfo) (z : Value) (size bytes : Nat) (ht : P.underlying t = some (.slice e)) (hi : P.info? e = some i) (hz : i.zero = some z)
    (hsize : i.size = size) (hby : i.bytes = bytes) (hzs : z.cells.size = size) (hsz : 0 < size)
    (g n cap : Nat) (xs : List Value) (hs : a.eval s = .slice (some ⟨g, 0, none⟩) n cap) (hown : w.ownsRow base e size (.slice (some ⟨g, 0, none⟩) n cap) n xs)
    (ad : Addr) (m c : Nat) (news : List Value) (hx : a.eval x = .slice (some ad) m c) (hl : news.length = m * size) (hnews : ∀ j u, news[j]? = some u → w.cell? (ad.add j) = some u) (h1 : ∀ u ∈ news, u.oneCell' = true)
    (h63 : n + m ≤ maxLen) (hbytes : (n + m) * bytes ≤ 140737488355328) (hbase : base ≤ w.heap.size)
    (h : ∀ g' cap' w', w'.ownsRow base e size (.slice (some ⟨g', 0, none⟩) (n + m) cap') (n + m) (xs ++ news) → w.grownBy w' (some g) → (g' = g ∨ g' = w.heap.size) → g' < w'.heap.size → wpList P ops Q rest (a.put o.dst (.slice (some ⟨g', 0, none⟩) (n + m) cap')) w') : wpList P ops Q (o :: rest) a w := by
  rcases Nat.eq_zero_or_pos m with h0 | h0
  · have hnc : n ≤ cap := by
      rcases hown.2 with ⟨q, _⟩ | ⟨g', cap', cur, q, _, _, h1, _⟩
      · cases q
      · injection q with _ _ qc
        subst qc; exact h1
    refine wpList_append_fits w hgd s x t ho base e i size ht hi hsize g n cap xs hs hown ad m c news hx hl hnews h1 (by omega) ?_
    intro w' k1 k2
    refine h g cap w' k1 k2 (.inl rfl) ?_
    exact (k1.lt g rfl).2
  · refine wpList_append_lies w hgd s x t ho base e i z size bytes ht hi hz hsize hby hzs hsz _ n xs hs hown ad m c news hx hl hnews h1 h0 h63 hbytes hbase w.heap.size rfl ?_
    intro g' cap' w' k1 k2 k3 k4
    refine h g' cap' w' k1 k2 ?_ k4
    rcases k3 with k3 | k3
    · injection k3 with k3; exact .inl k3.symm
    · exact .inr k3

theorem wp_of_rest2 {P : Program} {c : Code} {Q : Exit → Act → World → Prop} {a : Act} {w : World} (F : Nat → Bool → Act) (Rel : World → Nat → Bool → Prop)
    (h : ∀ Q : Exit → Act → World → Prop, (∀ W p b, Rel W p b → Q .normal (F p b) W) → c.wp P Q a w) (k : ∀ W p b, Rel W p b → Q .normal (F p b) W) : c.wp P Q a w := h Q k
theorem at3_grown {T : TypeId} {W W' : World} {q g : Nat} {x y : Int} {b : Bool} (h : At3 T W q x y b) (hg : W.grownBy W' (some g)) (hne : q ≠ g) : At3 T W' q x y b :=
  (hg.block q h.lt (fun e => hne (by injection e))).trans h
theorem at3_flip {T : TypeId} {W : World} {q : Nat} {x y : Int} {b : Bool} (h : At3 T W q x y b) (c : Bool) : At3 T (W.setCell ⟨q, 2, none⟩ (.bool c)) q x y c := by
  have h' := h
  unfold At3 at h' ⊢
  simp [World.setCell, Array.getElem?_modify, h']
/-- the state: the cursor, the region's box, the region's cells, the dominoes laid so far. -/
structure Gs (w : World) (B g : Nat) (A : Option Addr) (len cap : Nat) (va : Value) (bC offC : Nat) (C : List (Int × Int)) (M : List Dm) (v : Value) (W : World) : Prop where
  cur : Cur W B g A len cap
  gw : g < w.heap.size
  gr : w.grownBy W (some g)
  box : Rg W w.heap.size va
  cs : RdC W bC offC C
  own : W.ownsRow (w.heap.size + 1) 82 3 v M.length (rowM M)
  ne : 0 < C.length → v.ownBlock ≠ some bC
  cge : 0 < C.length → w.heap.size + 1 ≤ bC
section
variable {w : World} {B g : Nat} {A : Option Addr} {len cap : Nat} {va : Value} {bC offC : Nat} {C : List (Int × Int)} {M : List Dm} {v : Value} {W W' : World}
theorem Gs.onB {B' : Nat} (h : Gs w B g A len cap va bC offC C M v W) (hb : Below B' W W') (h1 : w.heap.size < B') (h2 : ∀ k, v.ownBlock = some k → k < B') (h3 : 0 < C.length → bC < B') : Gs w B g A len cap va bC offC C M v W' := by
  obtain ⟨hc, gw, gr, box, cs, own, ne, cge⟩ := h
  refine ⟨?_, gw, ⟨hb.os.trans gr.os, hb.tape.trans gr.tape, hb.output.trans gr.output, Nat.le_trans gr.size hb.size, fun i hi hne => (hb.block i (by omega)).trans (gr.block i hi hne)⟩, (hb.block _ h1).trans box, cs.same hb.size fun h0 => hb.block bC (h3 h0), ⟨own.1, ?_⟩, ne, cge⟩
  · obtain ⟨hBg, hlen, hrd, i, x, hi, hbl⟩ := hc
    exact ⟨hBg, hlen, hrd.below (hb.mono (by omega)), i, x, hi, (hb.block g (by omega)).trans hbl⟩
  · rcases own.2 with hn | ⟨k, cap', cur, rfl, hk, hkk, rest⟩
    · exact .inl hn
    · exact .inr ⟨k, cap', cur, rfl, hk, (hb.block k (h2 k rfl)).trans hkk, rest⟩
theorem Gs.on (h : Gs w B g A len cap va bC offC C M v W) (hb : Below W.heap.size W W') : Gs w B g A len cap va bC offC C M v W' :=
  h.onB hb h.box.lt (fun k hk => (h.own.lt k hk).2) h.cs.1
theorem Gs.alloc (h : Gs w B g A len cap va bC offC C M v W) (o : Obj) : Gs w B g A len cap va bC offC C M v (W.alloc o) := h.on (below_alloc1 W o)
theorem Gs.drew (h : Gs w B g A len cap va bC offC C M v W) : Gs w B g A len cap va bC offC C M v W.drew := ⟨h.cur, h.gw, ⟨h.gr.os, h.gr.tape, h.gr.output, h.gr.size, h.gr.block⟩, h.box, h.cs, h.own, h.ne, h.cge⟩
theorem Gs.draw (h : Gs w B g A len cap va bC offC C M v W) (hc : Cur W' B g A len cap) (hg : W.grownBy W' (some g)) : Gs w B g A len cap va bC offC C M v W' := by
  obtain ⟨_, gw, gr, box, cs, own, ne, cge⟩ := h
  refine ⟨hc, gw, grown_trans gr hg, (hg.block _ box.lt (by intro e; injection e with e; omega)).trans box, cs.grown hg fun h0 => by have := cge h0; omega, own.kept hg (.inr fun e => ?_), ne, cge⟩
  have := (own.lt g e).1; omega
theorem Gs.app {go co m' c' g' : Nat} {M' : List Dm} (h : Gs w B g A len cap va bC offC C M (.slice (some ⟨go, 0, none⟩) M.length co) W) (hown : W'.ownsRow (w.heap.size + 1) 82 3 (.slice (some ⟨g', 0, none⟩) m' c') m' (rowM M'))
    (hm : m' = M'.length) (hg : W.grownBy W' (some go)) (hat : g' = go ∨ g' = W.heap.size) : Gs w B g A len cap va bC offC C M' (.slice (some ⟨g', 0, none⟩) M'.length c') W' := by
  have hgo := (h.own.lt go rfl).1
  obtain ⟨hc, gw, gr, box, cs, own, ne, cge⟩ := h
  subst hm
  have hgo2 := own.lt go rfl
  refine ⟨hc.later hg (by intro e; injection e with e; omega) (fun k hk => by injection hk with hk; have := hc.1; omega), gw, ⟨hg.os.trans gr.os, hg.tape.trans gr.tape, hg.output.trans gr.output, Nat.le_trans gr.size hg.size, fun i hi hne => (hg.block i (by have := gr.size; omega) (by intro e; injection e with e; omega)).trans (gr.block i hi hne)⟩,
    (hg.block _ box.lt (by intro e; injection e with e; omega)).trans box, cs.grown hg fun h0 e => ne h0 (by show some go = some bC; rw [e]), hown, fun h0 e => ?_, cge⟩
  have e2 : g' = bC := by { injection e }
  rcases hat with q | q
  · exact ne h0 (by show some go = some bC; rw [← q, e2])
  · have := cs.1 h0; omega
theorem Gs.row {A1 : Option Addr} {xs : List Int} (h : Gs w B g A len cap va bC offC C M v W) (hr : RowB w w.heap.size A1 xs) (hne : ∀ b off, A1 = some ⟨b, off, none⟩ → b ≠ g) : RowB W W.heap.size A1 xs := by
  obtain ⟨b, off, h1, h2⟩ := hr
  refine ⟨b, off, fun h0 => ⟨(h1 h0).1, Nat.lt_of_lt_of_le (h1 h0).2 h.gr.size⟩, fun j x hx => ?_⟩
  have h0 : 0 < xs.length := by have := (List.getElem?_eq_some_iff.1 hx).1; omega
  obtain ⟨e1, e2⟩ := h1 h0
  rw [World.cell?_of_block (a := ⟨b, off + j, none⟩) (h.gr.block b e2 (by intro e; injection e with e; exact hne b off e1 e))]
  exact h2 j x hx
end

/-- a region's box. -/
def R1g (w : World) (v : Value) (W : World) : Prop := Below w.heap.size w W ∧ Rg W w.heap.size v
theorem r1_startG (w : World) (v : Value) : R1g w v (w.alloc (.cells #[v] 29)) := ⟨below_alloc1 w _, Rg.new w v⟩
theorem R1g.on {w W W' : World} {v : Value} (h : R1g w v W) (hb : Below W.heap.size W W') : R1g w v W' := ⟨h.1.trans (hb.mono h.1.size), h.2.on hb⟩

set_option maxRecDepth 100000 in
set_option maxHeartbeats 40000000 in
theorem greedy (w : World) (B g : Nat) (A : Option Addr) (len cap : Nat) (h0 : Cur w B g A len cap) (A1 : Option Addr) (n c1 : Nat) (xs : List Int) (hx : xs.length = n) (hn : (n : Int) ≤ 9223372036854775807) (ho : okR xs) (hr : RowB w w.heap.size A1 xs) (hne : ∀ b off, A1 = some ⟨b, off, none⟩ → b ≠ g) :
    Calls Try.prog 58 #[.pointer (some ⟨g, 0, none⟩), .agg #[.slice A1 n c1]] w fun e w' =>
      ∃ (M : List Dm) (go co : Nat), Hid (∃ k, GP xs k M) ∧ e = .returned (.slice (some ⟨go, 0, none⟩) M.length co) ∧ w'.ownsRow (w.heap.size + 1) 82 3 (.slice (some ⟨go, 0, none⟩) M.length co) M.length (rowM M) ∧ w.grownBy w' (some g) := by
  obtain ⟨i0, hi, hz0, hz1, hz2⟩ := info_parts domInfo
  have HS := Lib.hid (r1_startG w (.slice A1 n c1))
  have hgw := h0.lt.2
  have HCu := Lib.hid h0
  have HM := Lib.hid (fun (W : World) => World.ownsRow_made (e := 82) (size := 3) W #[] 0 (Nat.le_refl _) (by unfold maxLen; omega) rfl)
  have HC := Lib.hid (fun W (hb : Below w.heap.size w W) => sCellsOf W A1 n c1 w.heap.size xs hx hn (hr.below hb (Nat.le_refl _)) hb.size)
  have HH := Lib.hid (fun W (hr : RowB W W.heap.size A1 xs) u v => sHasCell W A1 n c1 W.heap.size xs hx hn hr (Nat.le_refl _) u v)
  have HRow := Lib.hid (fun (bC offC : Nat) (C : List (Int × Int)) (M : List Dm) (v : Value) (W : World) (h : Gs w B g A len cap (.slice A1 n c1) bC offC C M v W) => h.row hr hne)
  have hCl := cellsR_length xs
  obtain ⟨C, hC⟩ : ∃ C, C = cellsR xs := ⟨_, rfl⟩
  have HStep := Lib.hid (fun k (hk : k < C.length) M (b : Bool) (h : GP xs k M) (hd : okM (C[k].1, C[k].2, b) = true) (h1 : anyM M C[k].1 C[k].2 = false) (h2 : hasB xs (sx C[k].1 b) (sy C[k].2 b) = true) (h3 : anyM M (sx C[k].1 b) (sy C[k].2 b) = false) => (show GP xs (k + 1) (M ++ [(C[k].1, C[k].2, b)]) from by subst hC; exact h.step hk hd h1 h2 h3))
  rw [← hC] at HC hCl
  clear h0 hx hn hr hne hC
  go_enter Try.func58, Try.ntmps58
  go_wp2_with fail
  have T0 := HS.out
  have hcur0 := HCu.out.alloc (.cells #[.slice A1 n c1] 29)
  have hown0 := HM.out (w.alloc (.cells #[.slice A1 n c1] 29))
  have hz0w : (w.alloc (.cells #[.slice A1 n c1] 29)).heap.size = w.heap.size + 1 := by simp
  generalize w.alloc (.cells #[.slice A1 n c1] 29) = W0 at T0 hcur0 hown0 hz0w ⊢
  rw [hz0w] at hown0
  have hb01 := below_alloc1 W0 (.cells #[] 82)
  have hz1w : (W0.alloc (.cells #[] 82)).heap.size = w.heap.size + 2 := by simp [hz0w]
  have T1 := T0.on hb01
  have hcur1 := hcur0.alloc (.cells #[] 82)
  generalize W0.alloc (.cells #[] 82) = W1 at T1 hcur1 hown0 hz1w ⊢
  refine (HC.out _ T1.1).mono ?_
  rintro e w1 ⟨A2, cap1, rfl, hown1, hb1⟩
  obtain ⟨bC, offC, hA2, hR2⟩ := rowC_own hown1
  have hcb : 0 < C.length → w.heap.size + 2 ≤ bC := fun h0 => by
    obtain ⟨k, c, hv, hg, _⟩ := hown1.form h0
    have e := (hA2 h0).1
    rw [e] at hv
    injection hv with hv
    injection hv with hv
    injection hv with hv
    omega
  have T2 := T1.on hb1
  have G0 : Gs w B g A len cap (.slice A1 n c1) bC offC C [] (.slice (some ⟨w.heap.size + 1, 0, none⟩) 0 0) w1 := by
    refine ⟨hcur1.later (Draw.grown_below hb1 none) (by intro e; cases e) (fun k hk => by cases hk), hgw, Draw.grown_below T2.1 _, T2.2, ⟨fun h0 => (hA2 h0).2, hR2⟩, ?_, fun h0 e => ?_, fun h0 => by have := hcb h0; omega⟩
    · exact Reg.own_below hown0 hb1 (Nat.le_refl _)
    · have hcc := hcb h0
      have e2 : w.heap.size + 1 = bC := by { injection e }
      omega
  have HA2 := Lib.hid (fun h0 => (hA2 h0).1)
  clear HC HS HCu HM T0 T1 T2 hcur0 hcur1 hown0 hown1 hz0w hz1w hb01 hb1 hA2 hR2 hcb
  go_wp2_with fail
  go_loopw [5, 7] (fun v i wr => ∃ (k : Nat) (M : List Dm) (go co : Nat), k ≤ C.length ∧ i = .int .i64 k ∧ v = .slice (some ⟨go, 0, none⟩) M.length co ∧ Gs w B g A len cap (.slice A1 n c1) bC offC C M (.slice (some ⟨go, 0, none⟩) M.length co) wr ∧ M.length ≤ k ∧ Hid (GP xs k M)) (fun _ i _ => C.length - (intOf i).toNat)
  case atStart => exact ⟨0, [], w.heap.size + 1, 0, Nat.zero_le _, rfl, rfl, G0, Nat.le_refl _, Lib.hid (GP.zero _)⟩
  case round =>
    clear G0
    obtain ⟨k, M, go, co, hk, rfl, rfl, T0, hMk, hG⟩ := hrel
    by_cases hlt : k < C.length
    · obtain rfl := HA2.out (by omega)
      obtain ⟨c0, c1'⟩ := T0.cs.2 k C[k] (List.getElem?_eq_getElem hlt)
      have HSt := Lib.hid (fun b hd h1 h2 h3 => HStep.out k hlt M b hG.out hd h1 h2 h3)
      have HCk := Lib.hid (fun (W : World) (hcs : RdC W bC offC C) => hcs.2 k C[k] (List.getElem?_eq_getElem hlt))
      generalize C[k] = c at c0 c1' HSt HCk
      obtain ⟨x, y⟩ := c
      simp only at c0 c1' HSt HCk
      have HD := Lib.hid (fun W (h : RowM W W.heap.size (some ⟨go, 0, none⟩) M) u v => sDominoAt W (some ⟨go, 0, none⟩) M.length co W.heap.size M rfl (by omega) h (Nat.le_refl _) u v)
      have HDx := Lib.hid (fun W h => HD.out W h x y)
      have HQ := Lib.hid (atI_neg (L := M) (x := x) (y := y))
      generalize atI M x y = q at HDx HQ
      go_wp2_with fail
      refine (HDx.out _ (rowM_own T0.own)).mono ?_
      rintro e w2 ⟨rfl, hb2⟩
      have T1 := T0.on hb2
      clear T0 hb2 HDx c0 c1'
      by_cases hq : 0 ≤ q
      · have hq2 : ¬ q < 0 := by omega
        go_wp2
        go_roundw
        case rel => exact ⟨k + 1, M, go, co, by omega, by go_num, rfl, T1, by omega, Lib.hid hG.out.skip⟩
        case measure => (simp [intOf] <;> omega)
      · have HAn := Lib.hid (show anyM M x y = false by have := HQ.out; rw [decide_eq_true (by omega)] at this; simpa using this.symm)
        have hq2 : q < 0 := by omega
        clear HQ
        go_upto_region 7 with fail
        refine' wp_of_rest2 _ (fun W p b => Gs w B g A len cap (.slice A1 n c1) bC offC C M (.slice (some ⟨go, 0, none⟩) M.length co) W ∧ At3 82 W p x y b ∧ (w.heap.size < p ∧ go < p ∧ bC < p)) ?_ ?_
        rotate_left
        · intro Q R
          have R := Lib.hid R
          have T1 := T1.drew
          obtain ⟨c0, c1'⟩ := HCk.out _ T1.cs
          refine wp_region_noPanic ?_
          refine wp_region_held_drew (S := (fun w' => w'.cell? ⟨bC, offC + k * 2, none⟩ = some (.int .i64 x) ∧ w'.cell? ⟨bC, offC + k * 2 + 1, none⟩ = some (.int .i64 y))) (by kernel_rfl) (⟨c0, c1'⟩) (fun hHeld => ?_)
          generalize World.drew _ = WR at T1 hHeld c0 c1' ⊢
          refine wpAnyH_take (i := 0) (v := ?_) rfl (by kernel_rfl) (by kernel_rfl) (by kernel_rfl) (fun _ _ _ h => h) (Or.inl ⟨(by as_aux_lemma => kernel_rfl), ?_⟩) (by assumption) ?_
          rotate_left
          · (intro w' hS; (try dsimp only at hS); go_simp; try with_reducible rfl)
          try simp only [Act.put, List.getElem_toArray, List.getElem_cons_succ, List.getElem_cons_zero, List.setIfInBounds_toArray, List.set_cons_zero, List.set_cons_succ]
          refine wpAnyH_take (i := 1) (v := ?_) rfl (by kernel_rfl) (by kernel_rfl) (by kernel_rfl) (fun _ _ _ h => h) (Or.inl ⟨(by as_aux_lemma => kernel_rfl), ?_⟩) (by assumption) ?_
          rotate_left
          · (intro w' hS; (try dsimp only at hS); go_simp; try with_reducible rfl)
          try simp only [Act.put, List.getElem_toArray, List.getElem_cons_succ, List.getElem_cons_zero, List.setIfInBounds_toArray, List.set_cons_zero, List.set_cons_succ]
          refine wpAnyH_take (i := 2) (v := ?_) rfl (by kernel_rfl) (by kernel_rfl) (by kernel_rfl) (fun _ _ _ h => h) (Or.inl ⟨(by as_aux_lemma => kernel_rfl), ?_⟩) (by assumption) ?_
          rotate_left
          · (intro w' hS; (try dsimp only at hS); go_simp; try with_reducible rfl)
          try simp only [Act.put, List.getElem_toArray, List.getElem_cons_succ, List.getElem_cons_zero, List.setIfInBounds_toArray, List.set_cons_zero, List.set_cons_succ]
          refine wpAnyH_take (i := 3) (v := ?_) rfl (by kernel_rfl) (by kernel_rfl) (by kernel_rfl) (fun _ _ _ h => h) (Or.inl ⟨(by as_aux_lemma => kernel_rfl), ?_⟩) (by assumption) ?_
          rotate_left
          · (intro w' hS; (try dsimp only at hS); go_simp; try with_reducible rfl)
          try simp only [Act.put, List.getElem_toArray, List.getElem_cons_succ, List.getElem_cons_zero, List.setIfInBounds_toArray, List.set_cons_zero, List.set_cons_succ]
          refine wpAnyH_take (i := 4) (v := ?_) rfl (by kernel_rfl) (by kernel_rfl) (by kernel_rfl) (fun _ _ _ h => h) (Or.inl ⟨(by as_aux_lemma => kernel_rfl), ?_⟩) (by assumption) ?_
          rotate_left
          · (intro w' hS; (try dsimp only at hS); go_simp; try with_reducible rfl)
          try simp only [Act.put, List.getElem_toArray, List.getElem_cons_succ, List.getElem_cons_zero, List.setIfInBounds_toArray, List.set_cons_zero, List.set_cons_succ]
          refine wpAnyH_take (i := 5) (v := ?_) rfl (by kernel_rfl) (by kernel_rfl) (by kernel_rfl) (fun _ _ _ h => h) (Or.inl ⟨(by as_aux_lemma => kernel_rfl), ?_⟩) (by assumption) ?_
          rotate_left
          · (intro w' hS; (try dsimp only at hS); go_simp; try with_reducible rfl)
          try simp only [Act.put, List.getElem_toArray, List.getElem_cons_succ, List.getElem_cons_zero, List.setIfInBounds_toArray, List.set_cons_zero, List.set_cons_succ]
          refine wpAnyH_take (i := 6) (v := ?_) rfl (by kernel_rfl) (by kernel_rfl) (by kernel_rfl) (fun _ _ _ h => h) (Or.inl ⟨(by as_aux_lemma => kernel_rfl), ?_⟩) (by assumption) ?_
          rotate_left
          · (intro w' hS; (try dsimp only at hS); go_simp; try with_reducible rfl)
          try simp only [Act.put, List.getElem_toArray, List.getElem_cons_succ, List.getElem_cons_zero, List.setIfInBounds_toArray, List.set_cons_zero, List.set_cons_succ]
          refine wpAnyH_take (i := 7) (v := ?_) rfl (by kernel_rfl) (by kernel_rfl) (by kernel_rfl) (fun _ _ _ h => h) (Or.inl ⟨(by as_aux_lemma => kernel_rfl), ?_⟩) (by assumption) ?_
          rotate_left
          · (intro w' hS; (try dsimp only at hS); go_simp; try with_reducible rfl)
          try simp only [Act.put, List.getElem_toArray, List.getElem_cons_succ, List.getElem_cons_zero, List.setIfInBounds_toArray, List.set_cons_zero, List.set_cons_succ]
          refine wpAnyH_take (i := 8) (v := ?_) rfl (by kernel_rfl) (by kernel_rfl) (by kernel_rfl) (fun _ _ _ h => h) (Or.inl ⟨(by as_aux_lemma => kernel_rfl), ?_⟩) (by assumption) ?_
          rotate_left
          · (intro w' hS; (try dsimp only at hS); go_simp; try with_reducible rfl)
          try simp only [Act.put, List.getElem_toArray, List.getElem_cons_succ, List.getElem_cons_zero, List.setIfInBounds_toArray, List.set_cons_zero, List.set_cons_succ]
          refine wpAnyH_take (i := 9) (v := ?_) rfl (by kernel_rfl) (by kernel_rfl) (by kernel_rfl) (fun _ _ _ h => h) (Or.inl ⟨(by as_aux_lemma => kernel_rfl), ?_⟩) (by assumption) ?_
          rotate_left
          · (intro w' hS; (try dsimp only at hS); go_simp; try with_reducible rfl)
          try simp only [Act.put, List.getElem_toArray, List.getElem_cons_succ, List.getElem_cons_zero, List.setIfInBounds_toArray, List.set_cons_zero, List.set_cons_succ]
          refine wpAnyH_take (i := 10) (v := ?_) rfl (by kernel_rfl) (by kernel_rfl) (by kernel_rfl) (fun _ _ _ h => h) (Or.inl ⟨(by as_aux_lemma => kernel_rfl), ?_⟩) (by assumption) ?_
          rotate_left
          · (intro w' hS; (try dsimp only at hS); go_simp; try with_reducible rfl)
          try simp only [Act.put, List.getElem_toArray, List.getElem_cons_succ, List.getElem_cons_zero, List.setIfInBounds_toArray, List.set_cons_zero, List.set_cons_succ]
          clear hHeld c0 c1'
          refine wpAnyH_ready (rs := [11, 13]) (by kernel_rfl) (by simp) ?_
          refine AllReadyH.cons rfl (fun K hK => ?_) (AllReadyH.cons rfl (fun K hK => ?_) AllReadyH.nil)
          · go_simp
            refine (once _ B g A len cap 2 T1.cur).mono ?_
            rintro e wx ⟨b, rfl, hc, hg⟩
            have T2 := T1.draw hc hg
            obtain ⟨c0, c1'⟩ := HCk.out _ T2.cs
            clear T1 hc hg
            go_wp2_with fail
            refine hK.out _ _ (⟨c0, c1'⟩) (fun hHeld => ?_)
            clear hK K
            try simp only [Act.put, List.getElem_toArray, List.getElem_cons_succ, List.getElem_cons_zero, List.setIfInBounds_toArray, List.set_cons_zero, List.set_cons_succ]
            refine wpAnyH_take (i := 12) (v := ?_) rfl (by kernel_rfl) (by kernel_rfl) (by kernel_rfl) (fun _ _ _ h => h) (Or.inl ⟨(by as_aux_lemma => kernel_rfl), ?_⟩) (by assumption) ?_
            rotate_left
            · (intro w' hS; (try dsimp only at hS); go_simp; try with_reducible rfl)
            try simp only [Act.put, List.getElem_toArray, List.getElem_cons_succ, List.getElem_cons_zero, List.setIfInBounds_toArray, List.set_cons_zero, List.set_cons_succ]
            refine wpAnyH_ready (rs := [13]) (by kernel_rfl) (by simp) ?_
            refine AllReadyH.cons rfl (fun K hK => ?_) AllReadyH.nil
            go_simp
            have hz : w.heap.size < wx.heap.size ∧ go < wx.heap.size ∧ bC < wx.heap.size := ⟨T2.box.lt, (T2.own.lt go rfl).2, T2.cs.1 (by omega)⟩
            have T3 := T2.alloc (.cells #[.int .i64 0, .int .i64 0, .bool false] 82)
            have Z := At3.new 82 wx 0 0 false
            obtain ⟨c0, c1'⟩ := HCk.out _ T3.cs
            refine hK.out _ _ (⟨c0, c1'⟩) (fun hHeld => ?_)
            clear hK K T2
            try simp only [Act.put, List.getElem_toArray, List.getElem_cons_succ, List.getElem_cons_zero, List.setIfInBounds_toArray, List.set_cons_zero, List.set_cons_succ]
            generalize World.alloc _ (.cells #[.int .i64 0, .int .i64 0, .bool false] 82) = WA at T3 Z hHeld c0 c1' ⊢
            generalize wx.heap.size = pz at Z hz ⊢
            clear c0 c1'
            have d0 := Z.c0
            have d1 := Z.c1
            have d2 := Z.c2
            have d3 := Z.f0
            have d4 := Z.f1
            have d5 := Z.f2
            have T4 := T3.onB (B' := pz) ((((Below.refl pz _).setCell (p := ⟨pz, 0, none⟩) (Nat.le_refl _) (.int .i64 x)).setCell (p := ⟨pz, 1, none⟩) (Nat.le_refl _) (.int .i64 y)).setCell (p := ⟨pz, 2, none⟩) (Nat.le_refl _) (.bool b)) hz.1 (fun j hj => by have hj2 : go = j := by { injection hj }; omega) (fun _ => hz.2.2)
            have Z4 := Z.put (a := x) (c := y) (d := b)
            obtain ⟨c0, c1'⟩ := HCk.out _ T4.cs
            clear hHeld
            refine wpAnyH_ready (rs := [14]) (by kernel_rfl) (by simp) ?_
            refine AllReadyH.cons rfl (fun K hK => ?_) AllReadyH.nil
            go_simp
            refine hK.out _ _ (⟨c0, c1'⟩) (fun hHeld => ?_)
            clear hK K
            try simp only [Act.put, List.getElem_toArray, List.getElem_cons_succ, List.getElem_cons_zero, List.setIfInBounds_toArray, List.set_cons_zero, List.set_cons_succ]
            refine wpAnyH_done (by kernel_rfl) ?_ _
            refine NoPanic.normal ?_
            exact R.out _ pz b ⟨T4, Z4, hz⟩
          · go_simp
            have hz : w.heap.size < WR.heap.size ∧ go < WR.heap.size ∧ bC < WR.heap.size := ⟨T1.box.lt, (T1.own.lt go rfl).2, T1.cs.1 (by omega)⟩
            have T2 := T1.alloc (.cells #[.int .i64 0, .int .i64 0, .bool false] 82)
            have Z := At3.new 82 WR 0 0 false
            obtain ⟨c0, c1'⟩ := HCk.out _ T2.cs
            refine hK.out _ _ (⟨c0, c1'⟩) (fun hHeld => ?_)
            clear hK K T1 c0 c1'
            try simp only [Act.put, List.getElem_toArray, List.getElem_cons_succ, List.getElem_cons_zero, List.setIfInBounds_toArray, List.set_cons_zero, List.set_cons_succ]
            generalize World.alloc _ (.cells #[.int .i64 0, .int .i64 0, .bool false] 82) = WB at T2 Z hHeld ⊢
            generalize WR.heap.size = pz at Z hz ⊢
            clear hHeld
            refine wpAnyH_ready (rs := [11]) (by kernel_rfl) (by simp) ?_
            refine AllReadyH.cons rfl (fun K hK => ?_) AllReadyH.nil
            go_simp
            refine (once _ B g A len cap 2 T2.cur).mono ?_
            rintro e wx ⟨b, rfl, hc, hg⟩
            have T3 := T2.draw hc hg
            have Z := at3_grown Z hg (by have := T2.gw; omega)
            obtain ⟨c0, c1'⟩ := HCk.out _ T3.cs
            clear T2 hc hg
            go_wp2_with fail
            refine hK.out _ _ (⟨c0, c1'⟩) (fun hHeld => ?_)
            clear hK K
            try simp only [Act.put, List.getElem_toArray, List.getElem_cons_succ, List.getElem_cons_zero, List.setIfInBounds_toArray, List.set_cons_zero, List.set_cons_succ]
            refine wpAnyH_take (i := 12) (v := ?_) rfl (by kernel_rfl) (by kernel_rfl) (by kernel_rfl) (fun _ _ _ h => h) (Or.inl ⟨(by as_aux_lemma => kernel_rfl), ?_⟩) (by assumption) ?_
            rotate_left
            · (intro w' hS; (try dsimp only at hS); go_simp; try with_reducible rfl)
            try simp only [Act.put, List.getElem_toArray, List.getElem_cons_succ, List.getElem_cons_zero, List.setIfInBounds_toArray, List.set_cons_zero, List.set_cons_succ]
            clear c0 c1'
            have d0 := Z.c0
            have d1 := Z.c1
            have d2 := Z.c2
            have d3 := Z.f0
            have d4 := Z.f1
            have d5 := Z.f2
            have T4 := T3.onB (B' := pz) ((((Below.refl pz _).setCell (p := ⟨pz, 0, none⟩) (Nat.le_refl _) (.int .i64 x)).setCell (p := ⟨pz, 1, none⟩) (Nat.le_refl _) (.int .i64 y)).setCell (p := ⟨pz, 2, none⟩) (Nat.le_refl _) (.bool b)) hz.1 (fun j hj => by have hj2 : go = j := by { injection hj }; omega) (fun _ => hz.2.2)
            have Z4 := Z.put (a := x) (c := y) (d := b)
            obtain ⟨c0, c1'⟩ := HCk.out _ T4.cs
            clear hHeld
            refine wpAnyH_ready (rs := [14]) (by kernel_rfl) (by simp) ?_
            refine AllReadyH.cons rfl (fun K hK => ?_) AllReadyH.nil
            go_simp
            refine hK.out _ _ (⟨c0, c1'⟩) (fun hHeld => ?_)
            clear hK K
            try simp only [Act.put, List.getElem_toArray, List.getElem_cons_succ, List.getElem_cons_zero, List.setIfInBounds_toArray, List.set_cons_zero, List.set_cons_succ]
            refine wpAnyH_done (by kernel_rfl) ?_ _
            refine NoPanic.normal ?_
            exact R.out _ pz b ⟨T4, Z4, hz⟩
        · intro W4 p b0 ⟨T4, Z4, hp⟩
          go_wp2_with fail
          go_loopw [5, 9] (fun v5 i wr => ∃ (t : Nat) (b : Bool), t ≤ 2 ∧ i = .int .i64 t ∧ v5 = .slice (some ⟨go, 0, none⟩) M.length co ∧ Gs w B g A len cap (.slice A1 n c1) bC offC C M (.slice (some ⟨go, 0, none⟩) M.length co) wr ∧ At3 82 wr p x y b) (fun _ i _ => 2 - (intOf i).toNat)
          case atStart => exact ⟨0, b0, by omega, rfl, rfl, T4, Z4⟩
          case round =>
            clear T4 Z4 T1
            obtain ⟨t, b, ht, rfl, rfl, T5, Z5⟩ := hrel
            by_cases ht2 : t < 2
            · have HK := Lib.hid (fun W => sSecond x y b W)
              have HO := Lib.hid (fun W => sDominoOk x y b W)
              have HSb := Lib.hid (fun hd h1 h2 h3 => HSt.out b hd h1 h2 h3)
              have HOk := Lib.hid (show okM (x, y, b) = domB x y b from rfl)
              generalize domB x y b = pp at HO HOk
              generalize sx x b = u at HK HSb
              generalize sy y b = v at HK HSb
              have HDu := Lib.hid (fun W h => HD.out W h u v)
              have HQu := Lib.hid (atI_neg (L := M) (x := u) (y := v))
              generalize atI M u v = qu at HDu HQu
              have HHu := Lib.hid (fun W h => HH.out W h u v)
              have HHB := Lib.hid (show hasB xs u v = hasB xs u v from rfl)
              obtain ⟨ss, hss⟩ : ∃ ss, hasB xs u v = ss := ⟨_, rfl⟩
              rw [hss] at HHu
              have HSS := Lib.hid hss
              clear hss HHB
              have d0 := Z5.c0
              have d1 := Z5.c1
              have d2 := Z5.c2
              go_wp2_with fail
              refine (HK.out _).mono ?_
              rintro e w5 ⟨rfl, hb5⟩
              have T6 := T5.on hb5
              have Z6 := Z5.on hb5
              clear T5 Z5 d0 d1 d2 hb5 HK
              go_upto_region 12 with fail
              have K7 := At2.new w5 u v
              have T7 := T6.alloc (.cells #[.int .i64 u, .int .i64 v] 58)
              have Z7 := Z6.on (below_alloc1 w5 (.cells #[.int .i64 u, .int .i64 v] 58))
              clear T6 Z6
              generalize w5.alloc (.cells #[.int .i64 u, .int .i64 v] 58) = W7 at T7 Z7 K7 ⊢
              generalize w5.heap.size = p7 at K7 ⊢
              have d0 := Z7.c0
              have d1 := Z7.c1
              have d2 := Z7.c2
              go_wp2_with fail
              refine (HO.out _).mono ?_
              rintro e w8 ⟨rfl, hb8⟩
              have T8 := T7.on hb8
              have Z8 := Z7.on hb8
              have K8 := K7.on hb8
              clear T7 Z7 K7 d0 d1 d2 hb8 HO
              cases pp with
              | false =>
                have d2 := Z8.c2
                have d3 := Z8.f2
                have TF := Lib.hid (T8.onB (B' := p) ((Below.refl p _).setCell (p := ⟨p, 2, none⟩) (Nat.le_refl _) (.bool (!b))) hp.1 (fun j hj => by have hj2 : go = j := by { injection hj }; omega) (fun _ => hp.2.2))
                have ZF := Lib.hid (at3_flip Z8 (!b))
                clear T8 Z8
                go_wp2
                go_roundw
                case rel => exact ⟨t + 1, !b, by omega, by go_num, rfl, TF.out, ZF.out⟩
                case measure => (simp [intOf] <;> omega)
              | true =>
                have e0 := K8.c0
                have e1 := K8.c1
                have e2 := T8.box.c0
                go_wp2_with fail
                refine (HHu.out _ (HRow.out _ _ _ _ _ _ T8)).mono ?_
                rintro e w9 ⟨rfl, hb9⟩
                have T9 := T8.on hb9
                have Z9 := Z8.on hb9
                have K9 := K8.on hb9
                clear T8 Z8 K8 e0 e1 e2 hb9 HHu
                cases ss with
                | false =>
                  have d2 := Z9.c2
                  have d3 := Z9.f2
                  have TF := Lib.hid (T9.onB (B' := p) ((Below.refl p _).setCell (p := ⟨p, 2, none⟩) (Nat.le_refl _) (.bool (!b))) hp.1 (fun j hj => by have hj2 : go = j := by { injection hj }; omega) (fun _ => hp.2.2))
                  have ZF := Lib.hid (at3_flip Z9 (!b))
                  clear T9 Z9
                  go_wp2
                  go_roundw
                  case rel => exact ⟨t + 1, !b, by omega, by go_num, rfl, TF.out, ZF.out⟩
                  case measure => (simp [intOf] <;> omega)
                | true =>
                  have e0 := K9.c0
                  have e1 := K9.c1
                  go_wp2_with fail
                  refine (HDu.out _ (rowM_own T9.own)).mono ?_
                  rintro e wA ⟨rfl, hbA⟩
                  have TA := T9.on hbA
                  have ZA := Z9.on hbA
                  clear T9 Z9 K9 e0 e1 hbA HDu
                  by_cases hqu : qu < 0
                  · have HAu := Lib.hid (show anyM M u v = false by have := HQu.out; rw [decide_eq_true hqu] at this; simpa using this.symm)
                    have HG2 := Lib.hid (HSb.out HOk.out HAn.out HSS.out HAu.out)
                    have d0 := ZA.c0
                    have d1 := ZA.c1
                    have d2 := ZA.c2
                    have hMl : M.length ≤ 64 := by omega
                    have hTz := TA.box.lt
                    go_wp2_with (first
                      | (at_builtin; refine wpList_append_any _ rfl _ _ 42 rfl (w.heap.size + 1) 82 i0 (.agg #[.int .i64 0, .int .i64 0, .bool false]) 3 24 Try.underlying42 hi hz0 hz1 hz2 rfl (by decide) go M.length co (rowM M) (by rfl) ((TA.alloc (.cells #[.int .i64 x, .int .i64 y, .bool b] 82)).own) ⟨wA.heap.size, 0, none⟩ 1 1 [.int .i64 x, .int .i64 y, .bool b] (by rfl) rfl (World.news_of_block (cs := #[.int .i64 x, .int .i64 y, .bool b]) (t := 82) (fr := (0, 0)) (heap_alloc_new wA _)) (by simp [Value.oneCell']) (by unfold maxLen; omega) (by omega) (by simp; omega) ?_; intro g' c' wB hownB hgrB hatB hltB))
                    have TB := (TA.alloc (.cells #[.int .i64 x, .int .i64 y, .bool b] 82)).app (M' := M ++ [(x, y, b)]) (by rw [rowM_snoc]; exact hownB) (by simp) hgrB hatB
                    have HLn : (M ++ [(x, y, b)]).length = M.length + 1 := by simp
                    rw [HLn] at TB
                    have HTB := Lib.hid TB
                    clear hownB hgrB hatB hltB TA TB ZA d0 d1 d2
                    go_wp2
                    go_roundw
                    case rel => exact ⟨k + 1, M ++ [(x, y, b)], g', c', by omega, by go_num, by rw [HLn], by rw [HLn]; exact HTB.out, by omega, HG2⟩
                    case measure => (simp [intOf] <;> omega)
                  · have hqu2 : 0 ≤ qu := by omega
                    have d2 := ZA.c2
                    have d3 := ZA.f2
                    have TF := Lib.hid (TA.onB (B' := p) ((Below.refl p _).setCell (p := ⟨p, 2, none⟩) (Nat.le_refl _) (.bool (!b))) hp.1 (fun j hj => by have hj2 : go = j := by { injection hj }; omega) (fun _ => hp.2.2))
                    have ZF := Lib.hid (at3_flip ZA (!b))
                    clear TA ZA
                    go_wp2
                    go_roundw
                    case rel => exact ⟨t + 1, !b, by omega, by go_num, rfl, TF.out, ZF.out⟩
                    case measure => (simp [intOf] <;> omega)
            · obtain rfl : t = 2 := by omega
              clear Z5
              go_wp2
              go_roundw
              case rel => exact ⟨k + 1, M, go, co, by omega, by go_num, rfl, T5, by omega, Lib.hid hG.out.skip⟩
              case measure => (simp [intOf] <;> omega)
    · obtain rfl : k = C.length := by omega
      go_wp2
      go_ret
      exact ⟨M, go, co, Lib.hid ⟨_, hG.out⟩, rfl, T0.own, T0.gr⟩
end Go.Proofs.Ytgkgdgchkhdgjaa.Grd

/- A region and dominoes in it, drawn out of a code: the region is valid, the dominoes are partial. -/
namespace Go.Proofs.Ytgkgdgchkhdgjaa.Grd
set_option linter.unusedVariables false
set_option linter.unusedSimpArgs false
open Go.RowKit Go.Proofs.Ytgkgdgchkhdgjaa.Base Go.Proofs.Ytgkgdgchkhdgjaa.Pure Go.Proofs.Ytgkgdgchkhdgjaa.Cell Go.Proofs.Ytgkgdgchkhdgjaa.Cels Go.Proofs.Ytgkgdgchkhdgjaa.Dom Go.Proofs.Ytgkgdgchkhdgjaa.Dms Go.Proofs.Ytgkgdgchkhdgjaa.Til Go.Proofs.Ytgkgdgchkhdgjaa.Draw Go.Joins
open Go.Proofs.Ytgkgdgchkhdgjaa.Reg hiding Yes add_none RC rc_start

theorem wp_of_rest3 {P : Program} {c : Code} {Q : Exit → Act → World → Prop} {a : Act} {w : World} (F : Nat → Nat → Nat → Act) (Rel : World → Nat → Nat → Nat → Prop)
    (h : ∀ Q : Exit → Act → World → Prop, (∀ W p m c, Rel W p m c → Q .normal (F p m c) W) → c.wp P Q a w) (k : ∀ W p m c, Rel W p m c → Q .normal (F p m c) W) : c.wp P Q a w := h Q k
/-- what is held while the dominoes are drawn: the answer's box, the region's box, the region. -/
def Dp (w : World) (p : Nat) (v0 va : Value) (n : Nat) (xs : List Int) (W : World) : Prop :=
  Below w.heap.size w W ∧ Rg W w.heap.size v0 ∧ Rg W p va ∧ w.heap.size < p ∧ W.ownsRow (w.heap.size + 1) 3 1 va n (ints xs)
theorem Dp.drew {w W : World} {p n : Nat} {v0 va : Value} {xs : List Int} (h : Dp w p v0 va n xs W) : Dp w p v0 va n xs W.drew := ⟨h.1.drew, h.2⟩
theorem rg_put {W : World} {q : Nat} {v : Value} (h : Rg W q v) (u : Value) : Rg (W.setCell ⟨q, 0, none⟩ u) q u := by
  have h' := h
  unfold Rg at h' ⊢
  simp [World.setCell, Array.getElem?_modify, h']
theorem rg_far {W : World} {p q i : Nat} {v u : Value} (h : Rg W q v) (hp : q ≠ p) : Rg (W.setCell ⟨p, i, none⟩ u) q v := (Below.heap_setCell W ⟨p, i, none⟩ u q hp).trans h
theorem rg_f0 {W : World} {q : Nat} {v : Value} (h : Rg W q v) : W.frozen? ⟨q, 0, none⟩ = false := by have h' := h; unfold Rg at h'; simp [World.frozen?, h']

/-- an ending with a valid region and a partial list in it. -/
def DrewP (w : World) (e : Ending) (w' : World) : Prop :=
  ∃ (xs : List Int) (A1 : Option Addr) (n c1 : Nat) (M : List Dm) (go co : Nat), Hid (okR xs) ∧ Hid (xs.length = n) ∧ Hid (∃ k, GP xs k M) ∧ e = .returned (.tuple #[.agg #[.slice A1 n c1], .slice (some ⟨go, 0, none⟩) M.length co]) ∧
    w'.ownsRow w.heap.size 3 1 (.slice A1 n c1) n (ints xs) ∧ w'.ownsRow w.heap.size 82 3 (.slice (some ⟨go, 0, none⟩) M.length co) M.length (rowM M) ∧ Below w.heap.size w w'

set_option maxRecDepth 100000 in
set_option maxHeartbeats 4000000 in
theorem drawPartial (w : World) (A : Option Addr) (len cap : Nat) (h0 : Coded w w.heap.size A len) :
    Calls Try.prog 24 #[.slice A len cap] w (DrewP w) := by
  have hb0 := below_alloc1 w (.cells #[.slice none 0 0] 29)
  have HC := Lib.hid (show Coded (w.alloc (.cells #[.slice none 0 0] 29)) (w.alloc (.cells #[.slice none 0 0] 29)).heap.size A len from ⟨h0.1, (h0.2.below hb0).mono hb0.size⟩)
  have HR := Lib.hid (Rg.new w (.slice none 0 0))
  have HZ := Lib.hid (show (w.alloc (.cells #[.slice none 0 0] 29)).heap.size = w.heap.size + 1 by simp)
  have HB := Lib.hid hb0
  have HCd := Lib.hid (h0.2)
  clear h0 hb0
  go_enter Try.func24, Try.ntmps24
  go_wp2_with fail
  have hR0 := HR.out
  have hB0 := HB.out
  have hZ0 := HZ.out
  have hC0 := HC.out
  generalize w.alloc (.cells #[.slice none 0 0] 29) = W0 at hR0 hB0 hZ0 hC0 ⊢
  refine (new _ A len cap hC0).mono ?_
  rintro e w1 ⟨g, rfl, hc1, hb1⟩
  have hg0 := hc1.1
  rw [hZ0] at hg0
  have hB1 := hB0.trans (hb1.mono hB0.size)
  have hR1 := hR0.on hb1
  have hs1 := hb1.size
  rw [hZ0] at hs1
  have HCur := Lib.hid hc1
  clear hc1 hb1 HC HR HZ HB hR0 hB0 hC0
  go_wp2_with fail
  refine (region w1 _ g A len cap HCur.out).mono ?_
  rintro e w2 ⟨xs, A1, n, c1, hok, hlen, rfl, hown, hg, hn1, hc2⟩
  have hgw1 := HCur.out.lt.2
  have hB2 := hB1.grown hg (by omega) (fun k hk => by have hk2 : g = k := by { injection hk }; omega)
  have hR2 : Rg w2 w.heap.size (.slice none 0 0) := (hg.block _ hR1.lt (by intro e; have e2 : w.heap.size = g := by { injection e }; omega)).trans hR1
  have hs2 := hg.size
  obtain ⟨kk, cc, hv, hkk, hkl⟩ := hown.form (by omega)
  injection hv with hA _ hcc
  subst hA; subst hcc
  clear hg hR1 hB1 HCur
  go_upto_region 3 with fail
  have hb3 := below_alloc1 w2 (.cells #[.slice (some ⟨kk, 0, none⟩) n c1] 29)
  have T3 : Dp w w2.heap.size (.slice none 0 0) (.slice (some ⟨kk, 0, none⟩) n c1) n xs (w2.alloc (.cells #[.slice (some ⟨kk, 0, none⟩) n c1] 29)) :=
    ⟨hB2.trans (hb3.mono hB2.size), hR2.on hb3, Rg.new w2 _, by omega, Reg.own_base (Reg.own_below hown hb3 (Nat.le_refl _)) (by omega)⟩
  have hc3 := hc2.alloc (.cells #[.slice (some ⟨kk, 0, none⟩) n c1] 29)
  have hne : g < w2.heap.size ∧ w.heap.size + 1 ≤ g ∧ g < kk := ⟨hc2.lt.2, hg0, by omega⟩
  clear hc2 hB2 hR2 hown hb3
  generalize w2.alloc (.cells #[.slice (some ⟨kk, 0, none⟩) n c1] 29) = W3 at T3 hc3 ⊢
  generalize w2.heap.size = p at T3 hne ⊢
  have HGr := Lib.hid (fun (W : World) (hc : Cur W W0.heap.size g A len cap) (hr : RowB W W.heap.size (some ⟨kk, 0, none⟩) xs) => greedy W W0.heap.size g A len cap hc (some ⟨kk, 0, none⟩) n c1 xs hlen.out (by have := hok.out.1; have := hlen.out; omega) hok.out hr (fun b off e => by injection e with e; injection e with e1 e2; omega))
  refine' wp_of_rest3 _ (fun W go m co => ∃ M : List Dm, m = M.length ∧ Hid (∃ k, GP xs k M) ∧ Rg W w.heap.size (.slice (some ⟨kk, 0, none⟩) n c1) ∧ W.ownsRow (w.heap.size + 1) 3 1 (.slice (some ⟨kk, 0, none⟩) n c1) n (ints xs) ∧ W.ownsRow (w.heap.size + 1) 82 3 (.slice (some ⟨go, 0, none⟩) m co) m (rowM M) ∧ Below w.heap.size w W) ?_ ?_
  rotate_left
  · intro Q R
    have R := Lib.hid R
    have T3 := T3.drew
    have hc3 : Cur W3.drew W0.heap.size g A len cap := hc3
    refine wp_region_noPanic ?_
    refine wp_region_held_drew (S := (fun w' => w'.cell? ⟨p, 0, none⟩ = some (.slice (some ⟨kk, 0, none⟩) n c1))) (by kernel_rfl) (T3.2.2.1.c0) (fun hHeld => ?_)
    generalize World.drew _ = WR at T3 hc3 hHeld ⊢
    refine wpAnyH_take (i := 0) (v := ?_) rfl (by kernel_rfl) (by kernel_rfl) (by kernel_rfl) (fun _ _ _ h => h) (Or.inl ⟨by rfl, ?_⟩) (by assumption) ?_
    rotate_left
    · (intro w' hS; (try dsimp only at hS); go_simp; try with_reducible rfl)
    try simp only [Act.put, List.getElem_toArray, List.getElem_cons_succ, List.getElem_cons_zero, List.setIfInBounds_toArray, List.set_cons_zero, List.set_cons_succ]
    refine wpAnyH_take (i := 1) (v := ?_) rfl (by kernel_rfl) (by kernel_rfl) (by kernel_rfl) (fun _ _ _ h => h) (Or.inl ⟨by rfl, ?_⟩) (by assumption) ?_
    rotate_left
    · (intro w' hS; (try dsimp only at hS); go_simp; try with_reducible rfl)
    try simp only [Act.put, List.getElem_toArray, List.getElem_cons_succ, List.getElem_cons_zero, List.setIfInBounds_toArray, List.set_cons_zero, List.set_cons_succ]
    refine wpAnyH_take (i := 2) (v := ?_) rfl (by kernel_rfl) (by kernel_rfl) (by kernel_rfl) (fun _ _ _ h => h) (Or.inl ⟨by rfl, ?_⟩) (by assumption) ?_
    rotate_left
    · (intro w' hS; (try dsimp only at hS); go_simp; try with_reducible rfl)
    try simp only [Act.put, List.getElem_toArray, List.getElem_cons_succ, List.getElem_cons_zero, List.setIfInBounds_toArray, List.set_cons_zero, List.set_cons_succ]
    clear hHeld
    refine wpAnyH_ready (rs := [3]) (by kernel_rfl) (by simp) ?_
    refine AllReadyH.cons rfl (fun K hK => ?_) AllReadyH.nil
    · go_simp
      refine (HGr.out _ hc3 (rowB_own T3.2.2.2.2)).mono ?_
      rintro e wx ⟨M, go, co, hG, rfl, hownM, hgr⟩
      generalize hm : M.length = m at hownM ⊢
      have hs := hgr.size
      have hw0 := T3.1.size
      have hpl := T3.2.2.1.lt
      have U1 : Rg wx w.heap.size (.slice none 0 0) := (hgr.block _ T3.2.1.lt (by intro e; have e2 : w.heap.size = g := by { injection e }; omega)).trans T3.2.1
      have U2 : Rg wx p (.slice (some ⟨kk, 0, none⟩) n c1) := (hgr.block _ hpl (by intro e; have e2 : p = g := by { injection e }; omega)).trans T3.2.2.1
      have U3 := T3.2.2.2.2.kept hgr (.inr (by intro e; have e2 : kk = g := by { injection e }; omega))
      have U4 := T3.1.grown hgr hw0 (fun k hk => by have hk2 : g = k := by { injection hk }; omega)
      clear T3 hc3 hgr
      go_wp2_with fail
      refine hK.out _ _ (U2.c0) (fun hHeld => ?_)
      clear hK K
      try simp only [Act.put, List.getElem_toArray, List.getElem_cons_succ, List.getElem_cons_zero, List.setIfInBounds_toArray, List.set_cons_zero, List.set_cons_succ]
      have d0 := U1.c0
      have d1 := rg_f0 U1
      have V1 := rg_put U1 (.slice (some ⟨kk, 0, none⟩) n c1)
      have V2 := rg_far (i := 0) (u := .slice (some ⟨kk, 0, none⟩) n c1) U2 (p := w.heap.size) (by omega)
      have V3 := ownsRow_setCell_below U3 (a := ⟨w.heap.size, 0, none⟩) (by show w.heap.size < w.heap.size + 1; omega) (.slice (some ⟨kk, 0, none⟩) n c1)
      have V4 := U4.setCell (p := ⟨w.heap.size, 0, none⟩) (Nat.le_refl _) (.slice (some ⟨kk, 0, none⟩) n c1)
      have V5 := ownsRow_setCell_below (Reg.own_base (B' := w.heap.size + 1) hownM (by omega)) (a := ⟨w.heap.size, 0, none⟩) (by show w.heap.size < w.heap.size + 1; omega) (.slice (some ⟨kk, 0, none⟩) n c1)
      clear U1 U2 U3 U4 hHeld hownM
      refine wpAnyH_ready (rs := [4]) (by kernel_rfl) (by simp) ?_
      refine AllReadyH.cons rfl (fun K hK => ?_) AllReadyH.nil
      go_simp
      refine hK.out _ _ (V2.c0) (fun hHeld => ?_)
      clear hK K
      try simp only [Act.put, List.getElem_toArray, List.getElem_cons_succ, List.getElem_cons_zero, List.setIfInBounds_toArray, List.set_cons_zero, List.set_cons_succ]
      refine wpAnyH_take (i := 5) (v := ?_) rfl (by kernel_rfl) (by kernel_rfl) (by kernel_rfl) (fun _ _ _ h => h) (Or.inl ⟨by rfl, ?_⟩) (by assumption) ?_
      rotate_left
      · (intro w' hS; (try dsimp only at hS); go_simp; try with_reducible rfl)
      try simp only [Act.put, List.getElem_toArray, List.getElem_cons_succ, List.getElem_cons_zero, List.setIfInBounds_toArray, List.set_cons_zero, List.set_cons_succ]
      refine wpAnyH_done (by kernel_rfl) ?_ _
      refine NoPanic.normal ?_
      exact R.out _ go m co ⟨M, hm.symm, hG, V1, V3, V5, V4⟩
  · intro W4 go m co ⟨M, hm, hG, hRg, hO1, hO2, hb4⟩
    have hres := hRg.c0
    have HO1 := Lib.hid hO1
    have HO2 := Lib.hid hO2
    clear hO1 hO2 T3 hc3 hRg
    go_wp2
    refine bodyPost_ret (v := .tuple #[.agg #[.slice (some ⟨kk, 0, none⟩) n c1], .slice (some ⟨go, 0, none⟩) m co]) (by simp [results, Try.results24, go_sem, hres]) rfl ?_
    subst hm
    exact ⟨xs, some ⟨kk, 0, none⟩, n, c1, M, go, co, hok, hlen, hG, rfl, Reg.own_base HO1.out (by omega), Reg.own_base HO2.out (by omega), hb4⟩
end Go.Proofs.Ytgkgdgchkhdgjaa.Grd
