/- FlM, NbS in one text. -/
import Derived.Test.YtmajllgfmclcoaaMb15
import Derived.Test.YtmajllgfmclcoaaMb13
import Derived.Test.YtmajllgfmclcoaaMb12
import Derived.Test.YtmajllgfmclcoaaMb00
import Derived.OwnWalk
import Derived.Laws.AppendOwn
import Derived.Deep.AppendLies

namespace Go.Proofs.Ytmajllgfmclcoaa.Flo
set_option linter.unusedVariables false
open Go.RowKit Go.Proofs.Ytmajllgfmclcoaa.Cell Go.Proofs.Ytmajllgfmclcoaa.Reg Go.Joins

def Mks (W : World) (b : Nat) (M : Nat → Bool) : Prop := ∃ cs t, W.heap[b]? = some (.cells cs t (0, 0)) ∧ cs.size = 100 ∧ ∀ v, v < 100 → cs[v]? = some (.bool (M v))
theorem Mks.lt {W : World} {b : Nat} {M : Nat → Bool} (h : Mks W b M) : b < W.heap.size := by
 obtain ⟨cs, t, h, _⟩ := h
 exact (Array.getElem?_eq_some_iff.1 h).1
theorem Mks.cell {W : World} {b : Nat} {M : Nat → Bool} (h : Mks W b M) {v : Nat} (hv : v < 100) : W.cell? ⟨b, v, none⟩ = some (.bool (M v)) := by
 obtain ⟨cs, t, h, _, h2⟩ := h
 rw [cell_of_block h v]; exact h2 v hv
theorem Mks.frozen {W : World} {b : Nat} {M : Nat → Bool} (h : Mks W b M) (v : Nat) : W.frozen? ⟨b, v, none⟩ = false := by
 obtain ⟨cs, t, h, _⟩ := h
 exact unfrozen_of_block h v
theorem Mks.set {W : World} {b : Nat} {M : Nat → Bool} (h : Mks W b M) {v : Nat} (hv : v < 100) : Mks (W.setCell ⟨b, v, none⟩ (.bool true)) b (putM M v) := by
 obtain ⟨cs, t, h, hs, h2⟩ := h
 refine ⟨_, t, block_setCell h _, by simpa using hs, fun u hu => ?_⟩
 unfold putM
 rw [Array.getElem?_setIfInBounds]
 by_cases e : v = u
 ·subst e; rw [if_pos rfl, if_pos (by omega)]; simp
 ·rw [if_neg e, h2 u hu]
  have : (u == v) = false := by rw [beq_eq_false_iff_ne]; exact fun q => e q.symm
  rw [this, Bool.or_false]
theorem Mks.below {W W' : World} {b B : Nat} {M : Nat → Bool} (h : Mks W b M) (hb : Below B W W') (hB : b < B) : Mks W' b M := by
 obtain ⟨cs, t, h, r⟩ := h
 exact ⟨cs, t, (hb.block b hB).trans h, r⟩
theorem Mks.on {W W' : World} {b : Nat} {M : Nat → Bool} (h : Mks W b M) (hb : Below W.heap.size W W') : Mks W' b M := h.below hb h.lt
theorem Mks.drew {W : World} {b : Nat} {M : Nat → Bool} (h : Mks W b M) : Mks W.drew b M := h
theorem addr_add (b o k : Nat) : (⟨b, o, none⟩ : Addr).add k = ⟨b, o + k, none⟩ := by unfold Addr.add; split <;> simp_all
set_option maxRecDepth 100000 in
theorem rowAddr (b Y : Nat) (hY : Y < 10) (W : World) : (Instr.indexAt 108 (.pointer (some ⟨b, 0, none⟩)) (.int .i64 (Y : Int))).run Try.prog W = .ok (.pointer (some ⟨b, 10 * Y, none⟩)) W := by
 have e : Try.prog.arrayLen 108 = 10 := by kernel_rfl
 have q : (sizeOf (Try.prog.elem 108)).run Try.prog W = .ok 10 W := by go_simp
 rw [run_indexAt_array W 108 _ _ _ (by kernel_rfl), if_pos (by rw [e]; omega), q]
 show Result.ok (Value.pointer (some (_ : Addr))) W = _
 rw [addr_add]
 congr 4
 simp; omega
set_option maxRecDepth 100000 in
theorem cellAddr (b o X : Nat) (hX : X < 10) (W : World) : (Instr.indexAt 106 (.pointer (some ⟨b, o, none⟩)) (.int .i64 (X : Int))).run Try.prog W = .ok (.pointer (some ⟨b, o + X, none⟩)) W := by
 have e : Try.prog.arrayLen 106 = 10 := by kernel_rfl
 have q : (sizeOf (Try.prog.elem 106)).run Try.prog W = .ok 1 W := by go_simp
 rw [run_indexAt_array W 106 _ _ _ (by kernel_rfl), if_pos (by rw [e]; omega), q]
 show Result.ok (Value.pointer (some (_ : Addr))) W = _
 rw [addr_add]
 congr 4
 simp
set_option maxRecDepth 100000 in
set_option maxHeartbeats 1000000 in
theorem mHas (w : World) (b : Nat) (M : Nat → Bool) (h : Mks w b M) (X Y : Nat) (hX : X < 10) (hY : Y < 10) (x y : Int) (hx : x = (X : Int) - 1) (hy : y = (Y : Int) - 1) :
  Calls Try.prog 83 #[.pointer (some ⟨b, 0, none⟩), .agg #[.int .i64 x, .int .i64 y]] w (Bol (M (10 * Y + X)) w) := by
 have HBw := Lib.hid (fun (o : Obj) => below_alloc1 w o)
 have hc := fun (o : Obj) => (h.on (below_alloc1 w o)).cell (v := 10 * Y + X) (by omega)
 have hx1 : IntKind.i64.wrap (x + 1) = (X : Int) := by rw [hx, IntKind.wrap_i64]; omega
 have hy1 : IntKind.i64.wrap (y + 1) = (Y : Int) := by rw [hy, IntKind.wrap_i64]; omega
 have hx2 : wrap64 (x + 1) = (X : Int) := by rw [hx]; unfold wrap64; omega
 have hy2 : wrap64 (y + 1) = (Y : Int) := by rw [hy]; unfold wrap64; omega
 have hr := rowAddr b Y hY
 have hq := cellAddr b (10 * Y) X hX
 clear hx hy h
 go_enter Try.func83, Try.ntmps83
 go_wp2_with fail
 go_quiet (fail)
 go_wp2
 go_ret
 exact mkBol rfl (drewN_below (HBw.out _) _)
theorem mHas' (w : World) (b : Nat) (M : Nat → Bool) (h : Mks w b M) (v : Nat) (hv : v < 100) (x y : Int) (hx : x = (plC v).1) (hy : y = (plC v).2) :
  Calls Try.prog 83 #[.pointer (some ⟨b, 0, none⟩), .agg #[.int .i64 x, .int .i64 y]] w (Bol (M v) w) := by
 have := mHas w b M h (v % 10) (v / 10) (by omega) (by omega) x y hx hy
 rwa [show 10 * (v / 10) + v % 10 = v by omega] at this
end Go.Proofs.Ytmajllgfmclcoaa.Flo

namespace Go.Proofs.Ytmajllgfmclcoaa.Nb
set_option linter.unusedVariables false
open Go.RowKit Go.Proofs.Ytmajllgfmclcoaa.Base Go.Proofs.Ytmajllgfmclcoaa.Cell Go.Proofs.Ytmajllgfmclcoaa.CellN Go.Joins

def rowC (L : List (Int × Int)) : List Value := L.flatMap fun p => [.int .i64 p.1, .int .i64 p.2]
theorem rowC_snoc (L : List (Int × Int)) (p : Int × Int) : rowC (L ++ [p]) = rowC L ++ [.int .i64 p.1, .int .i64 p.2] := by unfold rowC; simp
def nbTo (x y : Int) (k : Nat) : List (Int × Int) := ((List.range k).filter fun (j : Nat) => nbB x y (atX (j : Int)) (atY (j : Int))).map fun (j : Nat) => (atX (j : Int), atY (j : Int))
theorem nbTo_yes {x y : Int} {k : Nat} (h : nbB x y (atX (k : Int)) (atY (k : Int)) = true) : nbTo x y (k + 1) = nbTo x y k ++ [(atX (k : Int), atY (k : Int))] := by
 unfold nbTo; rw [List.range_succ, List.filter_append, List.map_append]; simp [h]
theorem nbTo_no {x y : Int} {k : Nat} (h : nbB x y (atX (k : Int)) (atY (k : Int)) = false) : nbTo x y (k + 1) = nbTo x y k := by
 unfold nbTo; rw [List.range_succ, List.filter_append, List.map_append]; simp [h]
theorem nbTo_length (x y : Int) (k : Nat) : (nbTo x y k).length ≤ k := by
 unfold nbTo; rw [List.length_map]; exact Nat.le_trans (List.length_filter_le _ _) (by simp)

theorem own_below {w w' : World} {base e size n : Nat} {v : Value} {xs : List Value} (h : w.ownsRow base e size v n xs) (hb : Below w.heap.size w w') : w'.ownsRow base e size v n xs :=
 h.kept (row := none) ⟨hb.os, hb.tape, hb.output, hb.size, fun i hi _ => hb.block i hi⟩ (by cases v <;> simp [Value.ownBlock] <;> (try (split <;> simp)))
theorem bx2 {T : TypeId} (x y : Int) (w w1 : World) (h : Below (w.alloc (.cells #[.int .i64 x, .int .i64 y] T)).heap.size (w.alloc (.cells #[.int .i64 x, .int .i64 y] T)) w1) :
  w1.cell? ⟨w.heap.size, 0, none⟩ = some (.int .i64 x) ∧ w1.cell? ⟨w.heap.size, 1, none⟩ = some (.int .i64 y) := by
 have hbl : (w.alloc (.cells #[.int .i64 x, .int .i64 y] T)).heap[w.heap.size]? = some (.cells #[.int .i64 x, .int .i64 y] T) := by
  show (w.heap.push _)[w.heap.size]? = _
  exact Array.getElem?_push_size
 exact ⟨by rw [h.cell (by simp)]; exact (cell_of_row _ _ 0 _ _ _ hbl).trans rfl, by rw [h.cell (by simp)]; exact (cell_of_row _ _ 1 _ _ _ hbl).trans rfl⟩

def NbPost (L : List (Int × Int)) (w : World) (e : Ending) (w' : World) : Prop :=
 ∃ (A : Option Addr) (cap : Nat), e = .returned (.slice A L.length cap) ∧ w'.ownsRow w.heap.size 56 2 (.slice A L.length cap) L.length (rowC L) ∧ Below w.heap.size w w'

theorem cellInfo : (Try.prog.info? 56).map (fun i => (i.zero, i.size, i.bytes)) = some (some (.agg #[.int .i64 0, .int .i64 0]), 2, 16) := by kernel_rfl

theorem own_base {w : World} {B B' e size n : Nat} {v : Value} {xs : List Value} (h : w.ownsRow B e size v n xs) (hB : B' ≤ B) : w.ownsRow B' e size v n xs := by
 refine ⟨h.1, ?_⟩
 rcases h.2 with h | ⟨g, cap, cur, a, b, c⟩
 ·exact .inl h
 ·exact .inr ⟨g, cap, cur, a, by omega, c⟩
theorem box1 {T : TypeId} (x y : Int) (w : World) : (w.alloc (.cells #[.int .i64 x, .int .i64 y] T)).cell? ⟨w.heap.size, 0, none⟩ = some (.int .i64 x) ∧ (w.alloc (.cells #[.int .i64 x, .int .i64 y] T)).cell? ⟨w.heap.size, 1, none⟩ = some (.int .i64 y) := by
 have hbl : (w.alloc (.cells #[.int .i64 x, .int .i64 y] T)).heap[w.heap.size]? = some (.cells #[.int .i64 x, .int .i64 y] T) := by
  show (w.heap.push _)[w.heap.size]? = _
  exact Array.getElem?_push_size
 exact ⟨(cell_of_row _ _ 0 _ _ _ hbl).trans rfl, (cell_of_row _ _ 1 _ _ _ hbl).trans rfl⟩

set_option maxRecDepth 100000 in
set_option maxHeartbeats 1000000 in
theorem specNb (x y : Int) (w : World) : Calls Try.prog 70 #[.agg #[.int .i64 x, .int .i64 y]] w (NbPost (nbTo x y 64) w) := by
 obtain ⟨i0, hi, hz0, hz1, hz2⟩ := info_parts cellInfo
 have HM := Lib.hid (fun (W : World) => World.ownsRow_made (e := 56) (size := 2) W #[] 0 (Nat.le_refl _) (by unfold maxLen; omega) rfl)
 have HB := Lib.hid (fun (T : TypeId) => box1 (T := T) x y w)
 have HW := Lib.hid (fun (T : TypeId) => below_alloc1 w (.cells #[.int .i64 x, .int .i64 y] T))
 go_enter Try.func70, Try.ntmps70
 go_wp2_with fail
 have HW1 := Lib.hid (show Below (w.heap.size + 1) (w.alloc (.cells #[.int .i64 x, .int .i64 y] 56)) ((w.alloc (.cells #[.int .i64 x, .int .i64 y] 56)).alloc (.cells #[] 56)) from (Below.refl _ _).alloc (by simp) _)
 have HO := Lib.hid (own_base (B' := w.heap.size + 1) (HM.out (w.alloc (.cells #[.int .i64 x, .int .i64 y] 56))) (by simp))
 have hW0 : (w.alloc (.cells #[.int .i64 x, .int .i64 y] 56)).heap.size = w.heap.size + 1 := by simp
 have HB0 := Lib.hid (HB.out 56)
 have HBw := Lib.hid (HW.out 56)
 clear HM HB HW
 obtain ⟨W0, hW⟩ : ∃ W0, W0 = w.alloc (.cells #[.int .i64 x, .int .i64 y] 56) := ⟨_, rfl⟩
 rw [← hW] at HW1 HO hW0 HB0 HBw
 rw [hW0] at HO
 go_loopw [3, 4] (fun v i wr => ∃ k : Nat, k ≤ 64 ∧ i = .int .i64 k ∧ wr.ownsRow (w.heap.size + 1) 56 2 v (nbTo x y k).length (rowC (nbTo x y k)) ∧ Below (w.heap.size + 1) W0 wr) (fun _ i _ => 64 - (intOf i).toNat)
 case atStart => exact ⟨0, Nat.zero_le _, rfl, by rw [hW] at HO; simpa [nbTo, rowC] using HO.out, by rw [hW] at HW1 ⊢; exact HW1.out⟩
 case round =>
  clear HW1 HO
  obtain ⟨k, hk, rfl, hown, hb⟩ := hrel
  have hbs := hb.size
  rw [hW0] at hbs
  by_cases hlt : k < 64
  ·go_wp2_with fail
   refine (sCellAt k _).mono ?_
   rintro e w1 ⟨rfl, hb1⟩
   have hown1 := own_below hown hb1
   have hbb := hb.trans (hb1.mono (by omega))
   have hb1s := hb1.size
   have hc0 := (hbb.cell (p := ⟨w.heap.size, 0, none⟩) (by show w.heap.size < _; omega)).trans HB0.out.1
   have hc1 := (hbb.cell (p := ⟨w.heap.size, 1, none⟩) (by show w.heap.size < _; omega)).trans HB0.out.2
   have hz : w.heap.size < w1.heap.size := by omega
   have HOwn := Lib.hid hown1
   have HBB := Lib.hid hbb
   have HS := Lib.hid hb1s
   have HBs := Lib.hid hbs
   obtain ⟨w1', hw1'⟩ : ∃ w1', w1' = w1 := ⟨_, rfl⟩
   clear hown hb hb1 hown1 hbb hb1s hbs
   obtain ⟨u, hu⟩ : ∃ u, atX (k : Int) = u := ⟨_, rfl⟩
   obtain ⟨v', hv⟩ : ∃ v', atY (k : Int) = v' := ⟨_, rfl⟩
   rw [hu, hv]
   have HU := Lib.hid hu
   have HV := Lib.hid hv
   clear hu hv
   go_wp2_with fail
   refine (sAreNeighbors x y u v' _).mono ?_
   rintro e w2 ⟨rfl, hb2⟩
   obtain ⟨hc2, hc3⟩ := (bx2 u v' w1 w2 hb2)
   have hD : Below (w.heap.size + 1) W0 w2 := (HBB.out.alloc (by have := HS.out; have := HBs.out; omega) _).trans (hb2.mono (by simp; have := HS.out; have := HBs.out; omega))
   have hE : Below w1.heap.size w1 w2 := (below_alloc1 w1 _).trans (hb2.mono (by simp))
   have HOwn2 := Lib.hid (own_below HOwn.out hE)
   have hzz : w1.heap.size < w2.heap.size := by have := hb2.size; simp at this; omega
   have HD := Lib.hid hD
   clear hD hE hb2
   cases hn : nbB x y u v' with
   | false =>
    have HN := Lib.hid (show nbTo x y (k + 1) = nbTo x y k from nbTo_no (by rw [HU.out, HV.out]; exact hn))
    clear hn
    go_wp2
    go_roundw
    case rel => exact ⟨k + 1, by omega, by go_num, by rw [HN.out]; exact HOwn2.out, HD.out⟩
    case measure => (simp [intOf] <;> omega)
   | true =>
    have HN := Lib.hid (show nbTo x y (k + 1) = nbTo x y k ++ [(u, v')] by rw [← HU.out, ← HV.out]; exact nbTo_yes (by rw [HU.out, HV.out]; exact hn))
    clear hn
    have HL := Lib.hid (nbTo_length x y k)
    go_wp2_with (first
     | (at_builtin; refine wpList_append_own _ rfl _ _ 63 rfl (w.heap.size + 1) 56 i0 (.agg #[.int .i64 0, .int .i64 0]) 2 16 Try.underlying63 hi hz0 hz1 hz2 rfl (by decide) _ (nbTo x y k).length (rowC (nbTo x y k)) rfl (HOwn2.out.alloc _) ⟨w2.heap.size, 0, none⟩ 1 1 [.int .i64 u, .int .i64 v'] rfl rfl (World.news_of_block (cs := #[.int .i64 u, .int .i64 v']) (t := 56) (fr := (0, 0)) (heap_alloc_new w2 _)) (by simp [Value.oneCell']) (by have := HL.out; unfold maxLen; omega) (by have := HL.out; omega) (by have := HS.out; have := HBs.out; simp; omega) ?_; intro v2 w3 hown3 hgrow _))
    have hb3 : Below (w.heap.size + 1) W0 w3 := (HD.out.alloc (by have := HS.out; have := HBs.out; omega) _).grown hgrow (by simp; have := HS.out; have := HBs.out; omega) (fun g hg => (HOwn2.out.lt g hg).1)
    have R := Lib.hid (show w3.ownsRow (w.heap.size + 1) 56 2 v2 (nbTo x y (k + 1)).length (rowC (nbTo x y (k + 1))) by
     rw [HN.out, rowC_snoc, List.length_append]; exact hown3)
    clear hown3 hgrow
    go_wp2
    go_roundw
    case rel => exact ⟨k + 1, by omega, by go_num, R.out, hb3⟩
    case measure => (simp [intOf] <;> omega)
  ·obtain rfl : k = 64 := by omega
   obtain ⟨A, cap, rfl⟩ := own_shape hown
   have HOwn := Lib.hid hown
   have HEnd := Lib.hid (HBw.out.trans (hb.mono (by omega)))
   clear hown hb
   go_wp2
   go_ret
   exact ⟨A, cap, rfl, own_base HOwn.out (by omega), HEnd.out⟩
end Go.Proofs.Ytmajllgfmclcoaa.Nb
