/- RegM, RegOk in one text. -/
import Derived.Test.YtjfagpmklifjlaaRows
import Derived.Test.YtjfagpmklifjlaaMf00
import Derived.Test.YtjfagpmklifjlaaMf02
import Derived.WalkKit
import Derived.WalkSpells
import Derived.WalkLawsBesides
import Derived.Below
import Derived.OwnWalk
import Derived.Laws.AppendOwn
import Derived.Laws.OwnMore
import Derived.Deep.AppendLies
import Derived.Lib.Hide
import Derived.Lib.SmallJoins
import Derived.Deep.QuietTactic
import Derived.BigQuiet

namespace Go.Proofs.Ytjfagpmklifjlaa.Reg
set_option linter.unusedVariables false
open Go.RowKit Go.Proofs.Ytjfagpmklifjlaa.Base Go.Joins

def ints (xs : List Int) : List Value := xs.map (Value.int .i64)
theorem ints_length (xs : List Int) : (ints xs).length = xs.length := by unfold ints; simp
theorem ints_at {xs : List Int} {j : Nat} {x : Int} (h : xs[j]? = some x) : (ints xs)[j]? = some (.int .i64 x) := by unfold ints; simp [h]
theorem ints_snoc (xs : List Int) (x : Int) : ints (xs ++ [x]) = ints xs ++ [.int .i64 x] := by unfold ints; simp
theorem ints_set (xs : List Int) (j : Nat) (x : Int) : (ints xs).set j (.int .i64 x) = ints (xs.set j x) := by unfold ints; rw [List.map_set]
def RowB (w : World) (B : Nat) (A : Option Addr) (xs : List Int) : Prop :=
 ∃ b off : Nat, (0 < xs.length → A = some ⟨b, off, none⟩ ∧ b < B) ∧ ∀ j x, xs[j]? = some x → w.cell? ⟨b, off + j, none⟩ = some (.int .i64 x)
theorem RowB.mono {w : World} {B B' : Nat} {A : Option Addr} {xs : List Int} (h : RowB w B A xs) (hB : B ≤ B') : RowB w B' A xs := by
 obtain ⟨b, off, h1, h2⟩ := h
 exact ⟨b, off, fun k => ⟨(h1 k).1, by have := (h1 k).2; omega⟩, h2⟩
theorem RowB.below {w w' : World} {B B' : Nat} {A : Option Addr} {xs : List Int} (h : RowB w B A xs) (hb : Below B' w w') (hB : B ≤ B') : RowB w' B A xs := by
 obtain ⟨b, off, h1, h2⟩ := h
 refine ⟨b, off, h1, fun j x hx => ?_⟩
 have hl : 0 < xs.length := by
  rcases Nat.eq_zero_or_pos xs.length with h0 | h0
  ·rw [List.eq_nil_of_length_eq_zero h0] at hx; simp at hx
  ·exact h0
 rw [hb.cell (p := ⟨b, off + j, none⟩) (by show b < B'; have := (h1 hl).2; omega)]
 exact h2 j x hx
theorem RowB.drew {w : World} {B : Nat} {A : Option Addr} {xs : List Int} (h : RowB w B A xs) : RowB w.drew B A xs := h
theorem rowB_own {w : World} {base e n cap : Nat} {A : Option Addr} {xs : List Int} (h : w.ownsRow base e 1 (.slice A n cap) n (ints xs)) : RowB w w.heap.size A xs := by
 have hn : xs.length = n := by have := h.1; rw [ints_length] at this; omega
 by_cases h0 : xs.length = 0
 ·have : xs = [] := List.eq_nil_of_length_eq_zero h0
  subst this
  exact ⟨0, 0, fun h => by simp at h, fun j u hu => by simp at hu⟩
 ·obtain ⟨g, c, hv, _, hlt⟩ := h.form (by omega)
  injection hv with hA
  subst hA
  refine ⟨g, 0, fun _ => ⟨rfl, hlt⟩, fun j x hx => ?_⟩
  have := h.cells (g := g) rfl j _ (ints_at hx)
  rw [add_plain] at this
  simpa using this
theorem own_below {w w' : World} {base e size n : Nat} {v : Value} {xs : List Value} {B : Nat} (h : w.ownsRow base e size v n xs) (hb : Below B w w') (hB : w.heap.size ≤ B) : w'.ownsRow base e size v n xs :=
 h.kept (row := none) ⟨hb.os, hb.tape, hb.output, hb.size, fun i hi _ => hb.block i (by omega)⟩ (by cases v <;> simp [Value.ownBlock] <;> (try (split <;> simp)))
theorem own_base {w : World} {B B' e size n : Nat} {v : Value} {xs : List Value} (h : w.ownsRow B e size v n xs) (hB : B' ≤ B) : w.ownsRow B' e size v n xs := by
 refine ⟨h.1, ?_⟩
 rcases h.2 with h | ⟨g, cap, cur, a, b, c⟩
 ·exact .inl h
 ·exact .inr ⟨g, cap, cur, a, by omega, c⟩
theorem drewN_below {B : Nat} {a w : World} (h : Below B a w) (n : Nat) : Below B a (w.drewN n) := ⟨h.os, h.tape, h.output, h.size, h.block⟩

structure Apart (lo hi : Nat) (w w' : World) : Prop where
 os : w'.os = w.os
 tape : w'.tape = w.tape
 output : w'.output = w.output
 size : w.heap.size ≤ w'.heap.size
 block : ∀ k, k < w.heap.size → k < lo ∨ hi ≤ k → w'.heap[k]? = w.heap[k]?
theorem Apart.refl (lo hi : Nat) (w : World) : Apart lo hi w w := ⟨rfl, rfl, rfl, Nat.le_refl _, fun _ _ _ => rfl⟩
theorem Apart.trans {lo hi : Nat} {a b c : World} (h : Apart lo hi a b) (k : Apart lo hi b c) : Apart lo hi a c :=
 ⟨k.os.trans h.os, k.tape.trans h.tape, k.output.trans h.output, Nat.le_trans h.size k.size, fun j hj hr => (k.block j (Nat.lt_of_lt_of_le hj h.size) hr).trans (h.block j hj hr)⟩
theorem apart_of_below {w w' : World} (h : Below w.heap.size w w') (lo hi : Nat) : Apart lo hi w w' := ⟨h.os, h.tape, h.output, h.size, fun k hk _ => h.block k hk⟩
theorem Apart.below {lo hi : Nat} {w w' : World} (h : Apart lo hi w w') {B : Nat} (hB : B ≤ lo) (hw : B ≤ w.heap.size) : Below B w w' := ⟨h.os, h.tape, h.output, h.size, fun k hk => h.block k (by omega) (.inl (by omega))⟩
theorem Apart.setCell {lo hi : Nat} {a w : World} (h : Apart lo hi a w) {p : Addr} (h0 : lo ≤ p.block) (h1 : p.block < hi) (u : Value) : Apart lo hi a (w.setCell p u) :=
 ⟨h.os, h.tape, h.output, by have := h.size; simpa [World.setCell] using this, fun k hk hr => (Below.heap_setCell w p u k (by omega)).trans (h.block k hk hr)⟩
theorem Apart.cell {lo hi : Nat} {w w' : World} (h : Apart lo hi w w') {p : Addr} (hp : p.block < w.heap.size) (hr : p.block < lo ∨ hi ≤ p.block) : w'.cell? p = w.cell? p := World.cell?_of_block (w := w) (h.block p.block hp hr)
def RowIn (W : World) (lo hi e size : Nat) (v : Value) (n : Nat) (xs : List Value) : Prop := W.ownsRow lo e size v n xs ∧ ∀ g, v.ownBlock = some g → g < hi
theorem RowIn.on {W W' : World} {lo hi e size n : Nat} {v : Value} {xs : List Value} (h : RowIn W lo hi e size v n xs) (hb : Below W.heap.size W W') : RowIn W' lo hi e size v n xs := ⟨own_below h.1 hb (Nat.le_refl _), h.2⟩
theorem RowIn.drew {W : World} {lo hi e size n : Nat} {v : Value} {xs : List Value} (h : RowIn W lo hi e size v n xs) : RowIn W.drew lo hi e size v n xs := h
theorem RowIn.apart {W W' : World} {lo hi lo' hi' e size n : Nat} {v : Value} {xs : List Value} (h : RowIn W lo hi e size v n xs) (hb : Apart lo' hi' W W') (hd : hi ≤ lo' ∨ hi' ≤ lo) : RowIn W' lo hi e size v n xs := by
 refine ⟨⟨h.1.1, ?_⟩, h.2⟩
 rcases h.1.2 with hn | ⟨g, cap, cur, rfl, hg, hgg, rest⟩
 ·exact .inl hn
 ·refine .inr ⟨g, cap, cur, rfl, hg, ?_, rest⟩
  have h2 := h.2 g rfl
  rw [hb.block g (Array.getElem?_eq_some_iff.1 hgg).1 (by omega)]
  exact hgg
theorem rowIn_new {W : World} {lo e size n : Nat} {v : Value} {xs : List Value} (h : W.ownsRow lo e size v n xs) : RowIn W lo W.heap.size e size v n xs := ⟨h, fun g hg => (h.lt g hg).2⟩
theorem intInfo : (Try.prog.info? 3).map (fun i => (i.zero, i.size, i.bytes)) = some (some (.int .i64 0), 1, 8) := by kernel_rfl

def szR (left : Int) (n : Nat) : Int := if (n : Int) ≤ left then left - n else -1

set_option maxHeartbeats 400000 in
theorem szIntS (A : Option Addr) (n cap : Nat) (left : Int) (h0 : 0 ≤ left) (h1 : left ≤ 1048576) (hn : (n : Int) ≤ 9223372036854775807) (w : World) :
  Calls Try.prog 61 #[.slice A n cap, .int .i64 left] w fun e w' => e = .returned (.int .i64 (szR left n)) ∧ w' = w := by
 by_cases h : (n : Int) ≤ left
 ·have HE := Lib.hid (show szR left n = left - n by unfold szR; rw [if_pos h])
  have h2 : ¬ left - (n : Int) < 0 := by omega
  go_enter Try.func61, Try.ntmps61
  go_wp2
  go_ret
  exact ⟨by rw [HE.out]; rfl, rfl⟩
 ·have HE := Lib.hid (show szR left n = -1 by unfold szR; rw [if_neg h])
  have h2 : left - (n : Int) < 0 := by omega
  go_enter Try.func61, Try.ntmps61
  go_wp2
  go_ret
  exact ⟨by rw [HE.out]; rfl, rfl⟩

set_option maxHeartbeats 400000 in
theorem szRegion (A : Option Addr) (n cap : Nat) (left : Int) (h0 : 0 ≤ left) (h1 : left ≤ 1048576) (hn : (n : Int) ≤ 9223372036854775807) (w : World) :
  Calls Try.prog 24 #[.agg #[.slice A n cap], .int .i64 left] w fun e w' => e = .returned (.int .i64 (szR left n)) ∧ Below w.heap.size w w' := by
 have HZ := Lib.hid (fun W => szIntS A n cap left h0 h1 hn W)
 have hr : szR left n = -1 ∨ 0 ≤ szR left n := by unfold szR; split <;> omega
 generalize szR left n = z at HZ hr ⊢
 have HB := Lib.hid (fun (T : TypeId) => below_alloc1 w (.cells #[.slice A n cap] T))
 clear h0 h1 hn
 go_enter Try.func24, Try.ntmps24
 go_wp2_with fail
 refine (HZ.out _).mono ?_
 rintro e w1 ⟨rfl, rfl⟩
 clear HZ
 rcases hr with rfl | hr
 ·go_wp2
  go_ret
  exact ⟨rfl, HB.out _⟩
 ·have hr' : ¬ z < 0 := by omega
  go_wp2
  go_ret
  exact ⟨rfl, HB.out _⟩

theorem three {w w1 : World} {o1 o2 o3 : Obj} (h : Below (((w.alloc o1).alloc o2).alloc o3).heap.size (((w.alloc o1).alloc o2).alloc o3) w1) :
  w1.heap[w.heap.size]? = some o1 ∧ w1.heap[w.heap.size + 1]? = some o2 ∧ w1.heap[w.heap.size + 1 + 1]? = some o3 := by
 have h1 : ((w.heap.push o1).push o2).size = w.heap.size + 1 + 1 := by simp
 have h2 : (w.heap.push o1).size = w.heap.size + 1 := by simp
 refine ⟨(h.block _ (by simp; omega)).trans ?_, (h.block _ (by simp)).trans ?_, (h.block _ (by simp)).trans ?_⟩
 ·show (((w.heap.push o1).push o2).push o3)[_]? = _
  rw [Array.getElem?_push_lt (by simp; omega), Array.getElem_push_lt (by simp), Array.getElem_push_eq]
 ·show (((w.heap.push o1).push o2).push o3)[_]? = _
  rw [Array.getElem?_push_lt (by simp)]
  congr 1
  simp [Array.getElem_push]
 ·show (((w.heap.push o1).push o2).push o3)[_]? = _
  rw [← h1]; exact Array.getElem?_push_size
theorem cellAt {w : World} {g : Nat} {cs : Array Value} {t : TypeId} (h : w.heap[g]? = some (.cells cs t (0, 0))) (k : Nat) : w.cell? ⟨g, k, none⟩ = cs[k]? ∧ w.frozen? ⟨g, k, none⟩ = false :=
 ⟨cell_of_row _ _ k _ _ _ h, by simp [World.frozen?, h]⟩

def IntsPost (xs : List Int) (n : Nat) (w : World) (e : Ending) (w' : World) : Prop :=
 ∃ A, e = .returned (.slice A n n) ∧ w'.ownsRow w.heap.size 3 1 (.slice A n n) n (ints xs) ∧ Below w.heap.size w w'
def RegPost (xs : List Int) (n : Nat) (w : World) (e : Ending) (w' : World) : Prop :=
 ∃ A cap, e = .returned (.agg #[.slice A n cap]) ∧ w'.ownsRow w.heap.size 3 1 (.slice A n cap) n (ints xs) ∧ Below w.heap.size w w'

theorem copied_step (xs : List Int) (n k : Nat) (hx : xs.length = n) (hk : k < n) : (ints (xs.take k) ++ List.replicate (n - k) (Value.int .i64 0)).set k (.int .i64 xs[k]) = ints (xs.take (k + 1)) ++ List.replicate (n - (k + 1)) (.int .i64 0) := by
 have hl : (ints (xs.take k)).length = k := by rw [ints_length, List.length_take]; omega
 rw [List.set_append_right _ _ (by omega), hl, Nat.sub_self, show n - k = (n - (k + 1)) + 1 by omega, List.replicate_succ, List.set_cons_zero, List.take_succ_eq_append_getElem (by omega), ints_snoc, List.append_assoc]
 rfl

set_option maxRecDepth 100000 in
set_option maxHeartbeats 1000000 in
theorem toIntS (w : World) (A : Option Addr) (n cap B : Nat) (xs : List Int) (hx : xs.length = n) (hn : (n : Int) ≤ 1048576) (h : RowB w B A xs) (hB : B ≤ w.heap.size) :
  Calls Try.prog 63 #[.slice A n cap] w (IntsPost xs n w) := by
 obtain ⟨i0, hi, hz0, hz1, hz2⟩ := info_parts intInfo
 obtain ⟨b, off, hA, hc⟩ := h
 have HA := Lib.hid hA
 have HC := Lib.hid hc
 have HX := Lib.hid hx
 clear hA hc hx
 go_enter Try.func63, Try.ntmps63
 go_wp2_with (first | (at_make; refine wpList_make_full _ rfl _ _ 24 rfl w.heap.size 3 i0 (.int .i64 0) 1 Try.underlying24 hi hz0 hz1 .i64 .i64 (n : Int) (n : Int) n rfl rfl rfl rfl (by rw [hz2]; omega) (by unfold maxLen; omega) (by omega) ?_; intro w1 hown1 hg1))
 have hb1 : Below w.heap.size w w1 := (Below.refl _ _).grown hg1 (by omega) (by simp)
 have HO := Lib.hid (show w1.ownsRow w.heap.size 3 1 (.slice (some ⟨w.heap.size, 0, none⟩) n n) n (ints (xs.take 0) ++ List.replicate (n - 0) (.int .i64 0)) by
  rw [show (Value.int .i64 0).cells = #[.int .i64 0] from rfl, Nat.mul_one, toList_madeCells_one] at hown1
  simpa [ints] using hown1)
 clear hown1 hg1 hi hz0 hz1 hz2
 go_loopw [4] (fun i wr => ∃ k : Nat, k ≤ n ∧ i = .int .i64 k ∧ wr.ownsRow w.heap.size 3 1 (.slice (some ⟨w.heap.size, 0, none⟩) n n) n (ints (xs.take k) ++ List.replicate (n - k) (.int .i64 0)) ∧ Below w.heap.size w wr) (fun i _ => n - (intOf i).toNat)
 case atStart => exact ⟨0, Nat.zero_le _, rfl, HO.out, hb1⟩
 case round =>
  clear HO hb1
  obtain ⟨k, hk, rfl, hown, hb⟩ := hrel
  have hbs := hb.size
  by_cases hlt : k < n
  ·have hkx : k < xs.length := by have := HX.out; omega
   obtain ⟨rfl, hbw⟩ := HA.out (by omega)
   have hc1 := (hb.cell (p := ⟨b, off + k, none⟩) (by show b < _; omega)).trans (HC.out k xs[k] (List.getElem?_eq_getElem hkx))
   have hu : ∃ u, wr.cell? ⟨w.heap.size, k, none⟩ = some u := by
    have hlen := hown.1
    rw [hown.cellAt k (by omega)]; exact ⟨_, List.getElem?_eq_getElem (by omega)⟩
   obtain ⟨u, hu⟩ := hu
   have hf := hown.frozenAt k
   obtain ⟨hst, _⟩ := hown.stored k (.int .i64 xs[k])
   rw [copied_step xs n k HX.out hlt] at hst
   have R := Lib.hid hst
   have hb2 : Below w.heap.size w (wr.setCell ⟨w.heap.size, k, none⟩ (.int .i64 xs[k])) := hb.setCell (Nat.le_refl _) _
   have HB := Lib.hid hb2
   clear hown hst hb2 hb
   generalize xs[k] = x at hc1 R HB ⊢
   go_wp2
   go_roundw
   case rel => exact ⟨k + 1, by omega, by go_num, R.out, HB.out⟩
   case measure => (simp [intOf] <;> omega)
  ·obtain rfl : k = n := by omega
   have R := Lib.hid (show wr.ownsRow w.heap.size 3 1 (.slice (some ⟨w.heap.size, 0, none⟩) k k) k (ints xs) by
    have e : ints (xs.take k) ++ List.replicate (k - k) (.int .i64 0) = ints xs := by rw [List.take_of_length_le (by rw [HX.out]; omega), Nat.sub_self]; simp
    rw [e] at hown; exact hown)
   clear hown
   go_wp2
   go_ret
   exact ⟨_, rfl, R.out, hb⟩

set_option maxRecDepth 100000 in
set_option maxHeartbeats 400000 in
theorem toRegion (w : World) (A : Option Addr) (n cap B : Nat) (xs : List Int) (hx : xs.length = n) (hn : (n : Int) ≤ 1048576) (h : RowB w B A xs) (hB : B ≤ w.heap.size) :
  Calls Try.prog 26 #[.agg #[.slice A n cap]] w (RegPost xs n w) := by
 have HI := Lib.hid (fun W (hb : Below w.heap.size w W) => toIntS W A n cap B xs hx hn (h.below hb hB) (by have := hb.size; omega))
 clear hx hn h
 have HB := Lib.hid (fun (o1 o2 o3 : Obj) => below_alloc3 w o1 o2 o3)
 go_enter Try.func26, Try.ntmps26
 go_wp2_with fail
 refine (HI.out _ (HB.out _ _ _)).mono ?_
 rintro e w1 ⟨A1, rfl, hown, hb⟩
 obtain ⟨_, b2, b3⟩ := three hb
 obtain ⟨c2, f2⟩ := cellAt b2 0
 obtain ⟨c3, f3⟩ := cellAt b3 0
 clear b2 b3
 have HO := Lib.hid hown
 clear hown
 go_wp2
 have hres := World.cell?_setCell_same (w := w1.setCell ⟨w.heap.size + 1 + 1, 0, none⟩ (.slice A1 n n)) ⟨w.heap.size + 1, 0, none⟩ (.slice A1 n n) (u := .slice none 0 0) ((World.cell?_setCell_other _ _ _ _ (by intro h; injection h; omega)).trans c2)
 have hs := hb.size
 have hbb : Below w.heap.size w w1 := (HB.out _ _ _).trans (hb.mono (by simp; omega))
 refine bodyPost_ret (v := .agg #[.slice A1 n n]) (by simp [results, Try.results26, go_sem, hres]) rfl ⟨A1, n, rfl, ?_, (hbb.setCell (by show _ ≤ w.heap.size + 1 + 1; omega) _).setCell (by show _ ≤ w.heap.size + 1; omega) _⟩
 refine own_base (ownsRow_setCell_below (ownsRow_setCell_below HO.out (by simp) _) (by simp) _) (by simp; omega)

set_option maxRecDepth 100000 in
set_option maxHeartbeats 400000 in
theorem eqIntS (w : World) (A A' : Option Addr) (n cap cap' : Nat) (B B' : Nat) (xs : List Int) (hx : xs.length = n) (hl : (n : Int) ≤ 9223372036854775807) (h1 : RowB w B A xs) (h2 : RowB w B' A' xs) :
  Calls Try.prog 65 #[.slice A n cap, .slice A' n cap'] w fun e w' => e = .returned (.bool true) ∧ ∃ q, w' = w.drewN q := by
 obtain ⟨b, off, hA, hc⟩ := h1
 obtain ⟨b', off', hA', hc'⟩ := h2
 have H1 := Lib.hid hA
 have H2 := Lib.hid hA'
 have H3 := Lib.hid hc
 have H4 := Lib.hid hc'
 have HX := Lib.hid hx
 clear hA hA' hc hc' hx
 have hnn : (((n : Nat) : Int) != ((n : Nat) : Int)) = false := by simp
 go_enter Try.func65, Try.ntmps65
 go_wp2_with fail
 go_loopw [5] (fun i wr => ∃ k : Nat, k ≤ n ∧ i = .int .i64 k ∧ ∃ q, wr = w.drewN q) (fun i _ => n - (intOf i).toNat)
 case atStart => exact ⟨0, Nat.zero_le _, rfl, 0, rfl⟩
 case round =>
  obtain ⟨k, hk, rfl, q, rfl⟩ := hrel
  by_cases hlt : k < n
  ·have hkx : k < xs.length := by have := HX.out; omega
   obtain ⟨rfl, _⟩ := H1.out (by omega)
   obtain ⟨rfl, _⟩ := H2.out (by omega)
   have hx := H3.out k xs[k] (List.getElem?_eq_getElem hkx)
   have hy := H4.out k xs[k] (List.getElem?_eq_getElem hkx)
   generalize xs[k] = t at hx hy
   have hq : (t != t) = false := by simp
   go_wp2_with fail
   go_quiet (fail)
   go_wp2
   go_roundw
   case rel => exact ⟨k + 1, by omega, by go_num, _, by first | rfl | rw [World.drewN_drewN]⟩
   case measure => (simp [intOf] <;> omega)
  ·go_wp2
   go_ret
   exact ⟨rfl, q, rfl⟩

set_option maxRecDepth 100000 in
set_option maxHeartbeats 400000 in
theorem eqRegion (w : World) (A A' : Option Addr) (n cap cap' : Nat) (B B' : Nat) (xs : List Int) (hx : xs.length = n) (hl : (n : Int) ≤ 9223372036854775807) (h1 : RowB w B A xs) (h2 : RowB w B' A' xs) (hB : B ≤ w.heap.size) (hB' : B' ≤ w.heap.size) :
  Calls Try.prog 28 #[.agg #[.slice A n cap], .agg #[.slice A' n cap']] w fun e w' => e = .returned (.bool true) ∧ Below w.heap.size w w' := by
 have HI := Lib.hid (fun W (hb : Below w.heap.size w W) => eqIntS W A A' n cap cap' B B' xs hx hl (h1.below hb hB) (h2.below hb hB'))
 clear hx hl h1 h2
 have HB := Lib.hid (fun (o1 o2 : Obj) => below_alloc2 w o1 o2)
 go_enter Try.func28, Try.ntmps28
 go_wp2_with fail
 refine (HI.out _ (HB.out _ _)).mono ?_
 rintro e w1 ⟨rfl, q, rfl⟩
 go_wp2
 go_ret
 exact ⟨rfl, drewN_below (HB.out _ _) q⟩

def marksI (k n : Nat) : List Int := (List.range n).map fun j => ((k + j : Nat) : Int)
theorem marksI_length (k n : Nat) : (marksI k n).length = n := by unfold marksI; simp
theorem marksI_at (k n j : Nat) (h : j < n) : (marksI k n)[j]? = some ((k + j : Nat) : Int) := by unfold marksI; simp [List.getElem?_range h]
theorem marksI_step (k j n : Nat) (xs : List Int) (hx : xs.length = n) (hj : j < n) : (marksI k j ++ xs.drop j).set j ((k + j : Nat) : Int) = marksI k (j + 1) ++ xs.drop (j + 1) := by
 rw [List.set_append_right _ _ (by rw [marksI_length]; exact Nat.le_refl _), marksI_length, Nat.sub_self, List.drop_eq_getElem_cons (by omega), List.set_cons_zero]
 unfold marksI
 rw [List.range_succ, List.map_append, List.append_assoc]
 rfl

set_option maxRecDepth 100000 in
set_option maxHeartbeats 1000000 in
theorem markInts (w : World) (base k n cap : Nat) (A : Option Addr) (xs : List Int) (hn : ((k + n : Nat) : Int) ≤ 10000000) (hown : w.ownsRow base 3 1 (.slice A n cap) n (ints xs)) (hi : Nat) (hhi : ∀ g, (Value.slice A n cap).ownBlock = some g → g < hi) :
  Calls Try.prog 66 #[.slice A n cap, .int .i64 (k : Int)] w fun e w' => e = .returned (.int .i64 ((k + n : Nat) : Int)) ∧ w'.ownsRow base 3 1 (.slice A n cap) n (ints (marksI k n)) ∧ Apart base hi w w' := by
 have hx : xs.length = n := by have := hown.1; rw [ints_length] at this; omega
 have HX := Lib.hid hx
 have HN := Lib.hid hn
 have HH := Lib.hid hhi
 clear hx hn hhi
 have HO := Lib.hid hown
 clear hown
 go_enter Try.func66, Try.ntmps66
 go_wp2_with fail
 go_loopw [1, 5] (fun m i wr => ∃ j : Nat, j ≤ n ∧ i = .int .i64 j ∧ m = .int .i64 ((k + j : Nat) : Int) ∧ wr.ownsRow base 3 1 (.slice A n cap) n (ints (marksI k j ++ xs.drop j)) ∧ Apart base hi w wr) (fun _ i _ => n - (intOf i).toNat)
 case atStart => exact ⟨0, Nat.zero_le _, rfl, rfl, by simpa [marksI] using HO.out, Apart.refl _ _ _⟩
 case round =>
  obtain ⟨j, hj, rfl, rfl, hown, hb⟩ := hrel
  have hbs := hb.size
  have hm : ((k + j : Nat) : Int) ≤ 10000000 := by have := HN.out; omega
  by_cases hlt : j < n
  ·obtain ⟨g, c, hv, hg1, hg2⟩ := hown.form (by omega)
   injection hv with hA hn1 hc1
   subst hA
   subst hc1
   have hlen : (ints (marksI k j ++ xs.drop j)).length = n := by simpa using hown.1
   have hu1 : ∃ u, wr.cell? ⟨g, j, none⟩ = some u := by
    rw [hown.cellAt j (by omega)]; exact ⟨_, List.getElem?_eq_getElem (by omega)⟩
   obtain ⟨u1, hu1⟩ := hu1
   have hf1 := hown.frozenAt j
   obtain ⟨hst, _⟩ := hown.stored j (.int .i64 ((k + j : Nat) : Int))
   rw [ints_set, marksI_step k j n xs HX.out hlt] at hst
   have R := Lib.hid hst
   have HB := Lib.hid (hb.setCell (p := ⟨g, j, none⟩) hg1 (HH.out g rfl) (.int .i64 ((k + j : Nat) : Int)))
   clear hown hst hlen hb
   go_wp2
   go_roundw
   case rel => exact ⟨j + 1, by omega, by go_num, by go_num, R.out, HB.out⟩
   case measure => (simp [intOf] <;> omega)
  ·obtain rfl : j = n := by omega
   have R := Lib.hid (show wr.ownsRow base 3 1 (.slice A j cap) j (ints (marksI k j)) by
    have e : marksI k j ++ xs.drop j = marksI k j := by rw [List.drop_eq_nil_of_le (by rw [HX.out]; omega), List.append_nil]
    rw [e] at hown; exact hown)
   clear hown
   go_wp2
   go_ret
   exact ⟨by go_num, R.out, hb⟩

set_option maxRecDepth 100000 in
set_option maxHeartbeats 400000 in
theorem markRegion (w : World) (base k n cap : Nat) (A : Option Addr) (xs : List Int) (hn : ((k + n : Nat) : Int) ≤ 10000000) (hown : w.ownsRow base 3 1 (.slice A n cap) n (ints xs)) (hi : Nat) (hhi : ∀ g, (Value.slice A n cap).ownBlock = some g → g < hi) :
  Calls Try.prog 29 #[.agg #[.slice A n cap], .int .i64 (k : Int)] w fun e w' => e = .returned (.int .i64 ((k + n : Nat) : Int)) ∧ w'.ownsRow base 3 1 (.slice A n cap) n (ints (marksI k n)) ∧ Apart base hi w w' := by
 have HI := Lib.hid (fun W (hb : Below w.heap.size w W) => markInts W base k n cap A xs hn (own_below hown hb (Nat.le_refl _)) hi hhi)
 clear hn hown hhi
 have HB := Lib.hid (fun (o1 : Obj) => below_alloc1 w o1)
 go_enter Try.func29, Try.ntmps29
 go_wp2_with fail
 refine (HI.out _ (HB.out _)).mono ?_
 rintro e w1 ⟨rfl, hown, hb⟩
 have HR := Lib.hid ((apart_of_below (HB.out _) _ _).trans hb)
 have HO := Lib.hid hown
 clear hb hown
 go_wp2
 go_ret
 exact ⟨by go_num, HO.out, HR.out⟩

set_option maxRecDepth 100000 in
set_option maxHeartbeats 1000000 in
theorem heldInts (w : World) (k n cap B : Nat) (A : Option Addr) (hn : ((k + n : Nat) : Int) ≤ 10000000) (hr : RowB w B A (marksI k n)) :
  Calls Try.prog 68 #[.slice A n cap, .int .i64 (k : Int)] w fun e w' => e = .returned (.int .i64 ((k + n : Nat) : Int)) ∧ w' = w := by
 obtain ⟨b, off, hA, hc⟩ := hr
 have HA := Lib.hid hA
 have HC := Lib.hid hc
 have HN := Lib.hid hn
 clear hA hc hn
 go_enter Try.func68, Try.ntmps68
 go_wp2_with fail
 go_loopw [1, 5] (fun m i wr => ∃ j : Nat, j ≤ n ∧ i = .int .i64 j ∧ m = .int .i64 ((k + j : Nat) : Int) ∧ wr = w) (fun _ i _ => n - (intOf i).toNat)
 case atStart => exact ⟨0, Nat.zero_le _, rfl, rfl, rfl⟩
 case round =>
  obtain ⟨j, hj, rfl, rfl, rfl⟩ := hrel
  have hm : ((k + j : Nat) : Int) ≤ 10000000 := by have := HN.out; omega
  by_cases hlt : j < n
  ·obtain ⟨rfl, hbw⟩ := HA.out (by rw [marksI_length]; omega)
   have hc1 := HC.out j _ (marksI_at k n j hlt)
   go_wp2
   go_roundw
   case rel => exact ⟨j + 1, by omega, by go_num, by go_num, trivial⟩
   case measure => (simp [intOf] <;> omega)
  ·obtain rfl : j = n := by omega
   go_wp2
   go_ret
   exact ⟨by go_num, rfl⟩

set_option maxRecDepth 100000 in
set_option maxHeartbeats 400000 in
theorem heldRegion (w : World) (k n cap B : Nat) (A : Option Addr) (hn : ((k + n : Nat) : Int) ≤ 10000000) (hr : RowB w B A (marksI k n)) (hB : B ≤ w.heap.size) :
  Calls Try.prog 34 #[.agg #[.slice A n cap], .int .i64 (k : Int)] w fun e w' => e = .returned (.int .i64 ((k + n : Nat) : Int)) ∧ Below w.heap.size w w' := by
 have HI := Lib.hid (fun W (hb : Below w.heap.size w W) => heldInts W k n cap B A hn (hr.below hb hB))
 have HB := Lib.hid (fun (o1 : Obj) => below_alloc1 w o1)
 obtain ⟨m, hm⟩ : ∃ m : Nat, m = k + n := ⟨_, rfl⟩
 rw [← hm] at HI
 rw [← hm]
 clear hn hr hm
 go_enter Try.func34, Try.ntmps34
 go_wp2_with fail
 refine (HI.out _ (HB.out _)).mono ?_
 rintro e w1 ⟨rfl, rfl⟩
 have h0 : ¬ (m : Int) < 0 := by omega
 go_wp2
 go_ret
 exact ⟨rfl, HB.out _⟩
theorem markReg1 (w : World) (base hi n cap : Nat) (A : Option Addr) (xs : List Int) (m : Int) (hm : m = ((1 + n : Nat) : Int)) (hn : (n : Int) ≤ 9000000) (hr : RowIn w base hi 3 1 (.slice A n cap) n (ints xs)) :
  Calls Try.prog 29 #[.agg #[.slice A n cap], .int .i64 1] w fun e w' => e = .returned (.int .i64 m) ∧ RowIn w' base hi 3 1 (.slice A n cap) n (ints (marksI 1 n)) ∧ Apart base hi w w' := by
 subst hm
 refine (markRegion w base 1 n cap A xs (by omega) hr.1 hi hr.2).mono ?_
 rintro e w' ⟨rfl, h1, h2⟩
 exact ⟨rfl, ⟨h1, hr.2⟩, h2⟩
theorem heldReg1 (w : World) (n cap B : Nat) (A : Option Addr) (m : Int) (hm : m = ((1 + n : Nat) : Int)) (hn : (n : Int) ≤ 9000000) (hr : RowB w B A (marksI 1 n)) (hB : B ≤ w.heap.size) :
  Calls Try.prog 34 #[.agg #[.slice A n cap], .int .i64 1] w fun e w' => e = .returned (.int .i64 m) ∧ Below w.heap.size w w' := by
 subst hm
 exact heldRegion w 1 n cap B A (by omega) hr hB
end Go.Proofs.Ytjfagpmklifjlaa.Reg

namespace Go.Proofs.Ytjfagpmklifjlaa.Reg
set_option linter.unusedVariables false
open Go.RowKit Go.Proofs.Ytjfagpmklifjlaa.Pure Go.Proofs.Ytjfagpmklifjlaa.Cell Go.Joins

def InTo (xs : List Int) (k : Nat) : Prop := ∀ x ∈ xs.take k, 0 ≤ x ∧ x ≤ 255
theorem InTo.zero (xs : List Int) : InTo xs 0 := fun x hx => by simp at hx
theorem InTo.next {xs : List Int} {k : Nat} (h : InTo xs k) (hk : k < xs.length) (h0 : 0 ≤ xs[k]) (h1 : xs[k] ≤ 255) : InTo xs (k + 1) := by
 intro x hx
 rw [List.take_succ_eq_append_getElem hk, List.mem_append, List.mem_singleton] at hx
 rcases hx with hx | rfl
 ·exact h x hx
 ·exact ⟨h0, h1⟩
theorem InTo.all {xs : List Int} {k : Nat} (h : InTo xs k) (hk : k = xs.length) : ∀ x ∈ xs, 0 ≤ x ∧ x ≤ 255 := by
 subst hk
 unfold InTo at h
 rwa [List.take_length] at h
theorem not_ok_at {xs : List Int} {k : Nat} (hk : k < xs.length) (h : ¬ (0 ≤ xs[k] ∧ xs[k] ≤ 255)) : okRB xs = false := okRB_not fun ho => h (ho.2 _ (List.getElem_mem hk))
set_option maxRecDepth 100000 in
set_option maxHeartbeats 1000000 in
theorem iRegionOk (w : World) (A : Option Addr) (n cap B : Nat) (xs : List Int) (hx : xs.length = n) (hn : (n : Int) ≤ 9223372036854775807) (h : RowB w B A xs) (hB : B ≤ w.heap.size) :
  Calls Try.prog 75 #[.agg #[.slice A n cap]] w (Bol (okRB xs) w) := by
 obtain ⟨b, off, hA, hc⟩ := h
 have HA := Lib.hid hA
 have HC := Lib.hid hc
 have HX := Lib.hid hx
 clear hA hc hx
 have HBw := Lib.hid (fun (o : Obj) => below_alloc1 w o)
 go_enter Try.func75, Try.ntmps75
 by_cases h8 : (n : Int) ≤ 8
 ·go_wp2_with fail
  go_loop [12] (fun i => ∃ k : Nat, k ≤ n ∧ i = .int .i64 k ∧ Hid (InTo xs k)) (fun i => n - (intOf i).toNat)
  case atStart => exact ⟨0, Nat.zero_le _, rfl, Lib.hid (InTo.zero xs)⟩
  case round =>
   obtain ⟨k, hk, rfl, HI⟩ := hrel
   by_cases hlt : k < n
   ·have hkx : k < xs.length := by have := HX.out; omega
    obtain ⟨rfl, hbw⟩ := HA.out (by omega)
    have hc1 : (w.alloc (.cells #[.slice (some ⟨b, off, none⟩) n cap] 26)).cell? ⟨b, off + k, none⟩ = some (.int .i64 xs[k]) :=
     ((HBw.out _).cell (p := ⟨b, off + k, none⟩) (by show b < _; omega)).trans (HC.out k xs[k] (List.getElem?_eq_getElem hkx))
    have HNx := Lib.hid (fun h0 h1 => HI.out.next hkx h0 h1)
    have HNo := Lib.hid (fun h => not_ok_at hkx h)
    generalize xs[k] = x at hc1 HNx HNo
    by_cases h0 : 0 ≤ x
    ·by_cases h1 : x ≤ 255
     ·go_wp2
      go_round
      case rel => exact ⟨k + 1, by omega, by go_num, Lib.hid (HNx.out h0 h1)⟩
      case measure => (simp [intOf] <;> omega)
     ·have HR := Lib.hid (HNo.out (fun h => h1 h.2))
      go_wp2
      go_ret
      exact mkBol (by rw [HR.out]) (HBw.out _)
    ·have HR := Lib.hid (HNo.out (fun h => h0 h.1))
     go_wp2
     go_ret
     exact mkBol (by rw [HR.out]) (HBw.out _)
   ·obtain rfl : k = n := by omega
    have HR := Lib.hid (show okRB xs = true from okRB_of ⟨by have := HX.out; omega, HI.out.all (by rw [HX.out])⟩)
    go_wp2
    go_ret
    exact mkBol (by rw [HR.out]) (HBw.out _)
 ·have HR := Lib.hid (show okRB xs = false from okRB_not fun ho => by have := ho.1; have := HX.out; omega)
  go_wp2
  go_ret
  exact mkBol (by rw [HR.out]) (HBw.out _)

set_option maxRecDepth 100000 in
set_option maxHeartbeats 1000000 in
theorem sRegionOk (w : World) (A : Option Addr) (n cap B : Nat) (xs : List Int) (hx : xs.length = n) (hn : (n : Int) ≤ 9223372036854775807) (h : RowB w B A xs) (hB : B ≤ w.heap.size) :
  Calls Try.prog 49 #[.agg #[.slice A n cap]] w (Bol (okRB xs) w) := by
 obtain ⟨b, off, hA, hc⟩ := h
 have HA := Lib.hid hA
 have HC := Lib.hid hc
 have HX := Lib.hid hx
 clear hA hc hx
 have HBw := Lib.hid (fun (o : Obj) => below_alloc1 w o)
 go_enter Try.func49, Try.ntmps49
 go_wp2_with fail
 go_loop [3] (fun i => ∃ k : Nat, k ≤ n ∧ i = .int .i64 k ∧ Hid (InTo xs k)) (fun i => n - (intOf i).toNat)
 case atStart => exact ⟨0, Nat.zero_le _, rfl, Lib.hid (InTo.zero xs)⟩
 case round =>
  obtain ⟨k, hk, rfl, HI⟩ := hrel
  by_cases hlt : k < n
  ·have hkx : k < xs.length := by have := HX.out; omega
   obtain ⟨rfl, hbw⟩ := HA.out (by omega)
   have hc1 : (w.alloc (.cells #[.slice (some ⟨b, off, none⟩) n cap] 26)).cell? ⟨b, off + k, none⟩ = some (.int .i64 xs[k]) :=
    ((HBw.out _).cell (p := ⟨b, off + k, none⟩) (by show b < _; omega)).trans (HC.out k xs[k] (List.getElem?_eq_getElem hkx))
   have HNx := Lib.hid (fun h0 h1 => HI.out.next hkx h0 h1)
   have HNo := Lib.hid (fun h => not_ok_at hkx h)
   generalize xs[k] = x at hc1 HNx HNo
   go_wp2_with fail
   refine (l01In x 0 255 _).mono ?_
   rintro e w1 ⟨rfl, rfl⟩
   by_cases h0 : 0 ≤ x ∧ x ≤ 255
   ·rw [inB_of h0]
    go_wp2
    go_round
    case rel => exact ⟨k + 1, by omega, by go_num, Lib.hid (HNx.out h0.1 h0.2)⟩
    case measure => (simp [intOf] <;> omega)
   ·rw [inB_not h0]
    have HR := Lib.hid (HNo.out h0)
    go_wp2
    go_ret
    exact mkBol (by rw [HR.out]) (HBw.out _)
  ·obtain rfl : k = n := by omega
   by_cases h8 : (k : Int) ≤ 8
   ·have HR := Lib.hid (show okRB xs = true from okRB_of ⟨by have := HX.out; omega, HI.out.all (by rw [HX.out])⟩)
    go_wp2
    go_ret
    exact mkBol (by rw [HR.out]) (HBw.out _)
   ·have HR := Lib.hid (show okRB xs = false from okRB_not fun ho => by have := ho.1; have := HX.out; omega)
    go_wp2
    go_ret
    exact mkBol (by rw [HR.out]) (HBw.out _)
end Go.Proofs.Ytjfagpmklifjlaa.Reg
