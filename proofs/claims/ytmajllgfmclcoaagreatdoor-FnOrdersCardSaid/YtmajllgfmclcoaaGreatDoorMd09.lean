/- RegM, RegOk, RegHas, RegCel, RegL in one text. -/
import Derived.Test.YtmajllgfmclcoaaGreatDoorRows
import Derived.Test.YtmajllgfmclcoaaGreatDoorMd00
import Derived.Test.YtmajllgfmclcoaaGreatDoorMd02
import Derived.WalkKit
import Derived.WalkSpells
import Derived.WalkLawsBesides
import Derived.Below
import Derived.OwnWalk
import Derived.Laws.AppendOwn
import Derived.Laws.OwnMore
import Derived.Deep.AppendLies
import Derived.Lib.Hide
import Derived.Lib.SmallJoins
import Derived.Deep.QuietTactic
import Derived.BigQuiet
import Derived.Deep.RegionHeld3
set_option linter.unusedVariables false
namespace Go.Proofs.YtmajllgfmclcoaaGreatDoor.Reg
open Go.RowKit Base Go.Joins
def ints (xs : List Int) : List Value := xs.map (Value.int .i64)
theorem ints_length (xs : List Int) : (ints xs).length = xs.length := by unfold ints; simp
theorem ints_at {xs : List Int} {j : Nat} {x : Int} (h : xs[j]? = some x) : (ints xs)[j]? = some (.int .i64 x) := by unfold ints; simp [h]
theorem ints_snoc (xs : List Int) (x : Int) : ints (xs ++ [x]) = ints xs ++ [.int .i64 x] := by unfold ints; simp
theorem ints_set (xs : List Int) (j : Nat) (x : Int) : (ints xs).set j (.int .i64 x) = ints (xs.set j x) := by unfold ints; rw [List.map_set]
def RowB (w : World) (B : Nat) (A : Option Addr) (xs : List Int) : Prop :=
 ∃ b off : Nat, (0 < xs.length → A = some ⟨b, off, none⟩ ∧ b < B) ∧ ∀ j x, xs[j]? = some x → w.cell? ⟨b, off + j, none⟩ = some (.int .i64 x)
theorem RowB.mono {w : World} {B B' : Nat} {A : Option Addr} {xs : List Int} (h : RowB w B A xs) (hB : B ≤ B') : RowB w B' A xs := by
 obtain ⟨b, off, h1, h2⟩ := h
 exact ⟨b, off, fun k => ⟨(h1 k).1, by have := (h1 k).2; omega⟩, h2⟩
theorem RowB.below {w w' : World} {B B' : Nat} {A : Option Addr} {xs : List Int} (h : RowB w B A xs) (hb : Below B' w w') (hB : B ≤ B') : RowB w' B A xs := by
 obtain ⟨b, off, h1, h2⟩ := h
 refine ⟨b, off, h1, fun j x hx => ?_⟩
 have hl : 0 < xs.length := by
  rcases Nat.eq_zero_or_pos xs.length with h0 | h0
  ·rw [List.eq_nil_of_length_eq_zero h0] at hx; simp at hx
  ·exact h0
 rw [hb.cell (p := ⟨b, off + j, none⟩) (by show b < B'; have := (h1 hl).2; omega)]
 exact h2 j x hx
theorem RowB.drew {w : World} {B : Nat} {A : Option Addr} {xs : List Int} (h : RowB w B A xs) : RowB w.drew B A xs := h
theorem rowB_own {w : World} {base e n cap : Nat} {A : Option Addr} {xs : List Int} (h : w.ownsRow base e 1 (.slice A n cap) n (ints xs)) : RowB w w.heap.size A xs := by
 have hn : xs.length = n := by have := h.1; rw [ints_length] at this; omega
 by_cases h0 : xs.length = 0
 ·have : xs = [] := List.eq_nil_of_length_eq_zero h0
  subst this
  exact ⟨0, 0, fun h => by simp at h, fun j u hu => by simp at hu⟩
 ·obtain ⟨g, c, hv, _, hlt⟩ := h.form (by omega)
  injection hv with hA
  subst hA
  refine ⟨g, 0, fun _ => ⟨rfl, hlt⟩, fun j x hx => ?_⟩
  have := h.cells (g := g) rfl j _ (ints_at hx)
  rw [add_plain] at this
  simpa using this
theorem own_below {w w' : World} {base e size n : Nat} {v : Value} {xs : List Value} {B : Nat} (h : w.ownsRow base e size v n xs) (hb : Below B w w') (hB : w.heap.size ≤ B) : w'.ownsRow base e size v n xs :=
 h.kept (row := none) ⟨hb.os, hb.tape, hb.output, hb.size, fun i hi _ => hb.block i (by omega)⟩ (by cases v <;> simp [Value.ownBlock] <;> (try (split <;> simp)))
theorem own_base {w : World} {B B' e size n : Nat} {v : Value} {xs : List Value} (h : w.ownsRow B e size v n xs) (hB : B' ≤ B) : w.ownsRow B' e size v n xs := by
 refine ⟨h.1, ?_⟩
 rcases h.2 with h | ⟨g, cap, cur, a, b, c⟩
 ·exact .inl h
 ·exact .inr ⟨g, cap, cur, a, by omega, c⟩
theorem drewN_below {B : Nat} {a w : World} (h : Below B a w) (n : Nat) : Below B a (w.drewN n) := ⟨h.os, h.tape, h.output, h.size, h.block⟩
structure Apart (lo hi : Nat) (w w' : World) : Prop where
 os : w'.os = w.os
 tape : w'.tape = w.tape
 output : w'.output = w.output
 size : w.heap.size ≤ w'.heap.size
 block : ∀ k, k < w.heap.size → k < lo ∨ hi ≤ k → w'.heap[k]? = w.heap[k]?
theorem Apart.refl (lo hi : Nat) (w : World) : Apart lo hi w w := ⟨rfl, rfl, rfl, Nat.le_refl _, fun _ _ _ => rfl⟩
theorem Apart.trans {lo hi : Nat} {a b c : World} (h : Apart lo hi a b) (k : Apart lo hi b c) : Apart lo hi a c :=
 ⟨k.os.trans h.os, k.tape.trans h.tape, k.output.trans h.output, Nat.le_trans h.size k.size, fun j hj hr => (k.block j (Nat.lt_of_lt_of_le hj h.size) hr).trans (h.block j hj hr)⟩
theorem apart_of_below {w w' : World} (h : Below w.heap.size w w') (lo hi : Nat) : Apart lo hi w w' := ⟨h.os, h.tape, h.output, h.size, fun k hk _ => h.block k hk⟩
theorem Apart.below {lo hi : Nat} {w w' : World} (h : Apart lo hi w w') {B : Nat} (hB : B ≤ lo) (hw : B ≤ w.heap.size) : Below B w w' := ⟨h.os, h.tape, h.output, h.size, fun k hk => h.block k (by omega) (.inl (by omega))⟩
theorem Apart.setCell {lo hi : Nat} {a w : World} (h : Apart lo hi a w) {p : Addr} (h0 : lo ≤ p.block) (h1 : p.block < hi) (u : Value) : Apart lo hi a (w.setCell p u) :=
 ⟨h.os, h.tape, h.output, by have := h.size; simpa [World.setCell] using this, fun k hk hr => (Below.heap_setCell w p u k (by omega)).trans (h.block k hk hr)⟩
theorem Apart.cell {lo hi : Nat} {w w' : World} (h : Apart lo hi w w') {p : Addr} (hp : p.block < w.heap.size) (hr : p.block < lo ∨ hi ≤ p.block) : w'.cell? p = w.cell? p := World.cell?_of_block (w := w) (h.block p.block hp hr)
def RowIn (W : World) (lo hi e size : Nat) (v : Value) (n : Nat) (xs : List Value) : Prop := W.ownsRow lo e size v n xs ∧ ∀ g, v.ownBlock = some g → g < hi
theorem RowIn.on {W W' : World} {lo hi e size n : Nat} {v : Value} {xs : List Value} (h : RowIn W lo hi e size v n xs) (hb : Below W.heap.size W W') : RowIn W' lo hi e size v n xs := ⟨own_below h.1 hb NR, h.2⟩
theorem RowIn.drew {W : World} {lo hi e size n : Nat} {v : Value} {xs : List Value} (h : RowIn W lo hi e size v n xs) : RowIn W.drew lo hi e size v n xs := h
theorem RowIn.apart {W W' : World} {lo hi lo' hi' e size n : Nat} {v : Value} {xs : List Value} (h : RowIn W lo hi e size v n xs) (hb : Apart lo' hi' W W') (hd : hi ≤ lo' ∨ hi' ≤ lo) : RowIn W' lo hi e size v n xs := by
 refine ⟨⟨h.1.1, ?_⟩, h.2⟩
 rcases h.1.2 with hn | ⟨g, cap, cur, rfl, hg, hgg, rest⟩
 ·exact .inl hn
 ·refine .inr ⟨g, cap, cur, rfl, hg, ?_, rest⟩
  have h2 := h.2 g rfl
  rw [hb.block g (Array.getElem?_eq_some_iff.1 hgg).1 (by omega)]
  exact hgg
theorem rowIn_new {W : World} {lo e size n : Nat} {v : Value} {xs : List Value} (h : W.ownsRow lo e size v n xs) : RowIn W lo W.heap.size e size v n xs := ⟨h, fun g hg => (h.lt g hg).2⟩
theorem intInfo : (Tryz.prog.info? 3).map (fun i => (i.zero, i.size, i.bytes)) = some (some (.int .i64 0), 1, 8) := by kernel_rfl
theorem cellAt {w : World} {g : Nat} {cs : Array Value} {t : TypeId} (h : w.heap[g]? = some (.cells cs t (0, 0))) (k : Nat) : w.cell? ⟨g, k, none⟩ = cs[k]? ∧ w.frozen? ⟨g, k, none⟩ = false :=
 ⟨cell_of_row _ _ k _ _ _ h, by simp [World.frozen?, h]⟩
def RegPost (xs : List Int) (n : Nat) (w : World) (e : Ending) (w' : World) : Prop :=
 ∃ A cap, e = .returned (.agg #[.slice A n cap]) ∧ w'.ownsRow w.heap.size 3 1 (.slice A n cap) n (ints xs) ∧ Below w.heap.size w w'
end Go.Proofs.YtmajllgfmclcoaaGreatDoor.Reg
namespace Go.Proofs.YtmajllgfmclcoaaGreatDoor.Reg
open Go.RowKit Go.Proofs.YtmajllgfmclcoaaGreatDoor.Pure Go.Proofs.YtmajllgfmclcoaaGreatDoor.Cell Go.Joins
def InTo (xs : List Int) (k : Nat) : Prop := ∀ x ∈ xs.take k, 0 ≤ x ∧ x ≤ 255
theorem InTo.zero (xs : List Int) : InTo xs 0 := fun x hx => by simp at hx
theorem InTo.next {xs : List Int} {k : Nat} (h : InTo xs k) (hk : k < xs.length) (h0 : 0 ≤ xs[k]) (h1 : xs[k] ≤ 255) : InTo xs (k + 1) := by
 intro x hx
 rw [List.take_succ_eq_append_getElem hk, List.mem_append, List.mem_singleton] at hx
 rcases hx with hx | rfl
 ·exact h x hx
 ·exact ⟨h0, h1⟩
theorem InTo.all {xs : List Int} {k : Nat} (h : InTo xs k) (hk : k = xs.length) : ∀ x ∈ xs, 0 ≤ x ∧ x ≤ 255 := by
 subst hk
 unfold InTo at h
 rwa [List.take_length] at h
theorem not_ok_at {xs : List Int} {k : Nat} (hk : k < xs.length) (h : ¬ (0 ≤ xs[k] ∧ xs[k] ≤ 255)) : okRB xs = false := okRB_not fun ho => h (ho.2 _ (List.getElem_mem hk))
set_option maxRecDepth 100000 in
set_option maxHeartbeats 1000000 in
theorem iRegionOk (w : World) (A : Option Addr) (n cap B : Nat) (xs : List Int) (hx : xs.length = n) (hn : (n : Int) ≤ 9223372036854775807) (h : RowB w B A xs) (hB : B ≤ w.heap.size) :
  Calls Tryz.prog 75 #[.agg #[.slice A n cap]] w (Bol (okRB xs) w) := by
 obtain ⟨b, off, hA, hc⟩ := h
 have HA := Lh hA
 have HC := Lh hc
 have HX := Lh hx
 clear hA hc hx
 have HBw := Lh (fun (o : Obj) => below_alloc1 w o)
 go_enter Tryz.func75, Tryz.ntmps75
 by_cases h8 : (n : Int) ≤ 8
 ·go_wp2_with fail
  go_loop [12] (fun i => ∃ k : Nat, k ≤ n ∧ i = .int .i64 k ∧ Hid (InTo xs k)) (fun i => n - (intOf i).toNat)
  case atStart => exact ⟨0, Nat.zero_le _, rfl, Lh (InTo.zero xs)⟩
  case round =>
   obtain ⟨k, hk, rfl, HI⟩ := hrel
   by_cases hlt : k < n
   ·have hkx : k < xs.length := by have := HX.out; omega
    obtain ⟨rfl, hbw⟩ := HA.out (by omega)
    have hc1 : (w.alloc (.cells #[.slice (some ⟨b, off, none⟩) n cap] 26)).cell? ⟨b, off + k, none⟩ = some (.int .i64 xs[k]) :=
     ((HBw.out _).cell (p := ⟨b, off + k, none⟩) (by show b < _; omega)).trans (HC.out k xs[k] (List.getElem?_eq_getElem hkx))
    have HNx := Lh (fun h0 h1 => HI.out.next hkx h0 h1)
    have HNo := Lh (fun h => not_ok_at hkx h)
    generalize xs[k] = x at hc1 HNx HNo
    by_cases h0 : 0 ≤ x
    ·by_cases h1 : x ≤ 255
     ·go_wp2
      go_round
      case rel => exact ⟨k + 1, by omega, by go_num, Lh (HNx.out h0 h1)⟩
      case measure => (simp [intOf] <;> omega)
     ·have HR := Lh (HNo.out (fun h => h1 h.2))
      go_wp2
      go_ret
      exact mkBol (by rw [HR.out]) (HBw.out _)
    ·have HR := Lh (HNo.out (fun h => h0 h.1))
     go_wp2
     go_ret
     exact mkBol (by rw [HR.out]) (HBw.out _)
   ·obtain rfl : k = n := by omega
    have HR := Lh (show okRB xs = true from okRB_of ⟨by have := HX.out; omega, HI.out.all (by rw [HX.out])⟩)
    go_wp2
    go_ret
    exact mkBol (by rw [HR.out]) (HBw.out _)
 ·have HR := Lh (show okRB xs = false from okRB_not fun ho => by have := ho.1; have := HX.out; omega)
  go_wp2
  go_ret
  exact mkBol (by rw [HR.out]) (HBw.out _)
set_option maxRecDepth 100000 in
set_option maxHeartbeats 1000000 in
theorem sRegionOk (w : World) (A : Option Addr) (n cap B : Nat) (xs : List Int) (hx : xs.length = n) (hn : (n : Int) ≤ 9223372036854775807) (h : RowB w B A xs) (hB : B ≤ w.heap.size) :
  Calls Tryz.prog 65 #[.agg #[.slice A n cap]] w (Bol (okRB xs) w) := by
 obtain ⟨b, off, hA, hc⟩ := h
 have HA := Lh hA
 have HC := Lh hc
 have HX := Lh hx
 clear hA hc hx
 have HBw := Lh (fun (o : Obj) => below_alloc1 w o)
 go_enter Tryz.func65, Tryz.ntmps65
 go_wp2_with fail
 go_loop [3] (fun i => ∃ k : Nat, k ≤ n ∧ i = .int .i64 k ∧ Hid (InTo xs k)) (fun i => n - (intOf i).toNat)
 case atStart => exact ⟨0, Nat.zero_le _, rfl, Lh (InTo.zero xs)⟩
 case round =>
  obtain ⟨k, hk, rfl, HI⟩ := hrel
  by_cases hlt : k < n
  ·have hkx : k < xs.length := by have := HX.out; omega
   obtain ⟨rfl, hbw⟩ := HA.out (by omega)
   have hc1 : (w.alloc (.cells #[.slice (some ⟨b, off, none⟩) n cap] 26)).cell? ⟨b, off + k, none⟩ = some (.int .i64 xs[k]) :=
    ((HBw.out _).cell (p := ⟨b, off + k, none⟩) (by show b < _; omega)).trans (HC.out k xs[k] (List.getElem?_eq_getElem hkx))
   have HNx := Lh (fun h0 h1 => HI.out.next hkx h0 h1)
   have HNo := Lh (fun h => not_ok_at hkx h)
   generalize xs[k] = x at hc1 HNx HNo
   go_wp2_with fail
   refine (l01In x 0 255 _).mono ?_
   rintro e w1 ⟨rfl, rfl⟩
   by_cases h0 : 0 ≤ x ∧ x ≤ 255
   ·rw [inB_of h0]
    go_wp2
    go_round
    case rel => exact ⟨k + 1, by omega, by go_num, Lh (HNx.out h0.1 h0.2)⟩
    case measure => (simp [intOf] <;> omega)
   ·rw [inB_not h0]
    have HR := Lh (HNo.out h0)
    go_wp2
    go_ret
    exact mkBol (by rw [HR.out]) (HBw.out _)
  ·obtain rfl : k = n := by omega
   by_cases h8 : (k : Int) ≤ 8
   ·have HR := Lh (show okRB xs = true from okRB_of ⟨by have := HX.out; omega, HI.out.all (by rw [HX.out])⟩)
    go_wp2
    go_ret
    exact mkBol (by rw [HR.out]) (HBw.out _)
   ·have HR := Lh (show okRB xs = false from okRB_not fun ho => by have := ho.1; have := HX.out; omega)
    go_wp2
    go_ret
    exact mkBol (by rw [HR.out]) (HBw.out _)
end Go.Proofs.YtmajllgfmclcoaaGreatDoor.Reg
namespace Go.Proofs.YtmajllgfmclcoaaGreatDoor.Reg
open Go.RowKit Go.Proofs.YtmajllgfmclcoaaGreatDoor.Pure Go.Proofs.YtmajllgfmclcoaaGreatDoor.Cell Go.Joins
def kindN (r : Int) (k : Nat) : Int := if bitB r k then 1 else 0
theorem kindN_no {r : Int} {k : Nat} (h : bitB r k = false) : kindN r k = 0 := by unfold kindN; rw [h]; rfl
theorem kindN_yes {r : Int} {k : Nat} (h : bitB r k = true) : kindN r k = 1 := by unfold kindN; rw [h]; rfl
set_option maxHeartbeats 1000000 in
theorem iKindAt (r : Int) (k : Nat) (h0 : 0 ≤ r) (h1 : r ≤ 255) (hk : k < 8) (w : World) :
  Calls Tryz.prog 118 #[.int .i64 r, .int .i64 (k : Int)] w fun e w' => e = .returned (.int .i64 (kindN r k)) ∧ w' = w := by
 cases hb : bitB r k with
 | false =>
  have hz := and_no h0 h1 hk hb
  have HK := Lh (kindN_no hb)
  clear hb h0 h1
  have hcs : k = 0 ∨ k = 1 ∨ k = 2 ∨ k = 3 ∨ k = 4 ∨ k = 5 ∨ k = 6 ∨ k = 7 := by omega
  clear hk
  rcases hcs with rfl | rfl | rfl | rfl | rfl | rfl | rfl | rfl
  all_goals
   simp only [Int.reducePow] at hz
   go_enter Tryz.func118, Tryz.ntmps118
   go_wp2
   go_ret
   exact ⟨by rw [HK.out]; rfl, rfl⟩
 | true =>
  have hz := and_yes h0 h1 hk hb
  have HK := Lh (kindN_yes hb)
  clear hb h0 h1
  have hcs : k = 0 ∨ k = 1 ∨ k = 2 ∨ k = 3 ∨ k = 4 ∨ k = 5 ∨ k = 6 ∨ k = 7 := by omega
  clear hk
  rcases hcs with rfl | rfl | rfl | rfl | rfl | rfl | rfl | rfl
  all_goals
   simp only [Int.reducePow] at hz
   go_enter Tryz.func118, Tryz.ntmps118
   go_wp2
   go_ret
   exact ⟨by rw [HK.out]; rfl, rfl⟩
set_option maxRecDepth 100000 in
set_option maxHeartbeats 1000000 in
theorem iRowAt (w : World) (A : Option Addr) (n cap B : Nat) (xs : List Int) (hx : xs.length = n) (hn : (n : Int) ≤ 9223372036854775807) (h : RowB w B A xs) (hB : B ≤ w.heap.size) (y : Nat) :
  Calls Tryz.prog 127 #[.agg #[.slice A n cap], .int .i64 (y : Int)] w (Num (rowD xs y) w) := by
 obtain ⟨b, off, hA, hc⟩ := h
 have HBw := Lh (fun (o : Obj) => below_alloc1 w o)
 by_cases hlt : y < n
 ·have hkx : y < xs.length := by omega
  obtain ⟨rfl, hbw⟩ := hA (by omega)
  have hc1 : (w.alloc (.cells #[.slice (some ⟨b, off, none⟩) n cap] 26)).cell? ⟨b, off + y, none⟩ = some (.int .i64 xs[y]) :=
   ((HBw.out _).cell (p := ⟨b, off + y, none⟩) (by show b < _; omega)).trans (hc y xs[y] (List.getElem?_eq_getElem hkx))
  have HR := Lh (rowD_at (List.getElem?_eq_getElem hkx))
  generalize xs[y] = r at hc1 HR
  clear hA hc hx hkx
  go_enter Tryz.func127, Tryz.ntmps127
  go_wp2
  go_ret
  exact mkNum (by rw [HR.out]) (HBw.out _)
 ·have HR := Lh (rowD_out (xs := xs) (y := y) (by omega))
  clear hA hc hx
  go_enter Tryz.func127, Tryz.ntmps127
  go_wp2
  go_ret
  exact mkNum (by rw [HR.out]) (HBw.out _)
set_option maxRecDepth 100000 in
set_option maxHeartbeats 4000000 in
theorem sHas (w : World) (A : Option Addr) (n cap B : Nat) (xs : List Int) (hx : xs.length = n) (ho : okR xs) (h : RowB w B A xs) (hB : B ≤ w.heap.size) (x y : Nat) (hx8 : x < 8) (hy8 : y < 8) :
  Calls Tryz.prog 93 #[.agg #[.slice A n cap], .agg #[.int .i64 (x : Int), .int .i64 (y : Int)]] w (Bol (bitB (rowD xs y) x) w) := by
 obtain ⟨b, off, hA, hc⟩ := h
 have HBw := Lh (fun (o o' : Obj) => below_alloc2 w o o')
 have hn8 : n ≤ 8 := by have := ho.1; omega
 have HR := Lh (rowD_ok ho y)
 by_cases hlt : y < n
 ·have hkx : y < xs.length := by omega
  obtain ⟨rfl, hbw⟩ := hA (by omega)
  have hc1 : ∀ W, Below w.heap.size w W → W.cell? ⟨b, off + y, none⟩ = some (.int .i64 (rowD xs y)) := fun W hW =>
   (hW.cell (p := ⟨b, off + y, none⟩) (by show b < _; omega)).trans (by rw [rowD_at (List.getElem?_eq_getElem hkx)]; exact hc y xs[y] (List.getElem?_eq_getElem hkx))
  have HC := Lh (fun (o o' : Obj) => hc1 _ (HBw.out o o'))
  clear hA hc hx hkx hc1 ho
  generalize rowD xs y = r at HC HR ⊢
  obtain ⟨r0, r1⟩ := HR.out
  cases hb : bitB r x with
  | false =>
   have hz := shr_no r0 r1 hx8 hb
   clear hb r0 r1 HR
   have hcs : x = 0 ∨ x = 1 ∨ x = 2 ∨ x = 3 ∨ x = 4 ∨ x = 5 ∨ x = 6 ∨ x = 7 := by omega
   clear hx8
   rcases hcs with rfl | rfl | rfl | rfl | rfl | rfl | rfl | rfl
   all_goals
    have hcell := HC.out
    (try simp only [Int.reducePow, Int.pow_zero, Int.ediv_one] at hz)
    go_enter Tryz.func93, Tryz.ntmps93
    go_wp2_with fail
    go_quiet (fail)
    go_wp2
    go_ret
    exact mkBol rfl (drewN_below (HBw.out _ _) _)
  | true =>
   have hz := shr_yes r0 r1 hx8 hb
   clear hb r0 r1 HR
   have hcs : x = 0 ∨ x = 1 ∨ x = 2 ∨ x = 3 ∨ x = 4 ∨ x = 5 ∨ x = 6 ∨ x = 7 := by omega
   clear hx8
   rcases hcs with rfl | rfl | rfl | rfl | rfl | rfl | rfl | rfl
   all_goals
    have hcell := HC.out
    (try simp only [Int.reducePow, Int.pow_zero, Int.ediv_one] at hz)
    go_enter Tryz.func93, Tryz.ntmps93
    go_wp2_with fail
    go_quiet (fail)
    go_wp2
    go_ret
    exact mkBol rfl (drewN_below (HBw.out _ _) _)
 ·have hE := Lh (show bitB (rowD xs y) x = false by rw [rowD_out (by omega)]; exact bitB_zero x)
  clear hA hc hx ho HR hx8
  go_enter Tryz.func93, Tryz.ntmps93
  go_wp2_with fail
  go_quiet (fail)
  go_wp2
  go_ret
  exact mkBol hE.out.symm (drewN_below (HBw.out _ _) _)
end Go.Proofs.YtmajllgfmclcoaaGreatDoor.Reg
namespace Go.Proofs.YtmajllgfmclcoaaGreatDoor.Reg
open Go.RowKit Go.Proofs.YtmajllgfmclcoaaGreatDoor.Pure Go.Proofs.YtmajllgfmclcoaaGreatDoor.Cell Go.Joins
def RC (w : World) (v : Value) (x y : Int) (W : World) : Prop :=
 Below w.heap.size w W ∧ w.heap.size + 2 ≤ W.heap.size ∧ W.cell? ⟨w.heap.size, 0, none⟩ = some v ∧ W.cell? ⟨w.heap.size + 1, 0, none⟩ = some (.int .i64 x) ∧ W.cell? ⟨w.heap.size + 1, 1, none⟩ = some (.int .i64 y)
theorem rc_start {T T' : TypeId} (v : Value) (x y : Int) (w : World) : RC w v x y ((w.alloc (.cells #[v] T)).alloc (.cells #[.int .i64 x, .int .i64 y] T')) := by
 have e1 : ((w.alloc (.cells #[v] T)).alloc (.cells #[.int .i64 x, .int .i64 y] T')).heap[w.heap.size]? = some (.cells #[v] T) := by
  show ((w.heap.push _).push _)[w.heap.size]? = _
  rw [Array.getElem?_push_lt (by simp)]
  simp
 have e2 : ((w.alloc (.cells #[v] T)).alloc (.cells #[.int .i64 x, .int .i64 y] T')).heap[w.heap.size + 1]? = some (.cells #[.int .i64 x, .int .i64 y] T') := by
  show ((w.heap.push _).push _)[w.heap.size + 1]? = _
  have : w.heap.size + 1 = (w.heap.push (.cells #[v] T)).size := by simp
  rw [this]
  exact Array.getElem?_push_size
 exact ⟨below_alloc2 w _ _, by simp, (cell_of_row _ _ 0 _ _ _ e1).trans rfl, (cell_of_row _ _ 0 _ _ _ e2).trans rfl, (cell_of_row _ _ 1 _ _ _ e2).trans rfl⟩
theorem RC.on {w W W' : World} {v : Value} {x y : Int} (h : RC w v x y W) (hb : Below W.heap.size W W') : RC w v x y W' := by
 obtain ⟨h0, h1, h2, h3, h4⟩ := h
 have hz := hb.size
 refine ⟨h0.trans (hb.mono h0.size), by omega, ?_, ?_, ?_⟩
 ·rw [hb.cell (by show w.heap.size < _; omega)]; exact h2
 ·rw [hb.cell (by show w.heap.size + 1 < _; omega)]; exact h3
 ·rw [hb.cell (by show w.heap.size + 1 < _; omega)]; exact h4
theorem RC.drew {w W : World} {v : Value} {x y : Int} (h : RC w v x y W) : RC w v x y W.drew := ⟨h.1.drew, h.2⟩
theorem has_no_ok {xs : List Int} (h : ¬ okR xs) (x y : Int) : hasB xs x y = false := by
 rw [Bool.eq_false_iff]; intro k; exact h (hasB_iff.1 k).1
theorem has_no_cell {xs : List Int} {x y : Int} (h : ¬ Ok x y) : hasB xs x y = false := by
 rw [Bool.eq_false_iff]; intro k; exact h ⟨(hasB_iff.1 k).2.1, (hasB_iff.1 k).2.2.1, (hasB_iff.1 k).2.2.2.1, (hasB_iff.1 k).2.2.2.2.1⟩
theorem has_at {xs : List Int} (h : okR xs) {x y : Nat} (hx : x < 8) (hy : y < 8) : hasB xs (x : Int) (y : Int) = bitB (rowD xs y) x := by
 rw [Bool.eq_iff_iff, hasB_iff, Int.toNat_natCast, Int.toNat_natCast]
 constructor
 ·exact fun k => k.2.2.2.2.2
 ·exact fun k => ⟨h, by omega, by omega, by omega, by omega, k⟩
theorem ok_nat {x y : Int} (h : Ok x y) : ∃ (x' y' : Nat), x = (x' : Int) ∧ y = (y' : Int) ∧ x' < 8 ∧ y' < 8 := by
 obtain ⟨a, b, c, d⟩ := h
 exact ⟨x.toNat, y.toNat, by omega, by omega, by omega, by omega⟩
set_option maxRecDepth 100000 in
set_option maxHeartbeats 1000000 in
theorem sHasCell (w : World) (A : Option Addr) (n cap B : Nat) (xs : List Int) (hx : xs.length = n) (hn : (n : Int) ≤ 9223372036854775807) (h : RowB w B A xs) (hB : B ≤ w.heap.size) (x y : Int) :
  Calls Tryz.prog 63 #[.agg #[.slice A n cap], .agg #[.int .i64 x, .int .i64 y]] w (Bol (hasB xs x y) w) := by
 have T0 := Lh (fun T T' => rc_start (T := T) (T' := T') (.slice A n cap) x y w)
 have HOk := Lh (fun W (hr : RC w (.slice A n cap) x y W) => sRegionOk W A n cap B xs hx hn (h.below hr.1 hB) (by have := hr.2.1; omega))
 have HHs := Lh (fun W (x' y' : Nat) (ho : okR xs) (hr : RC w (.slice A n cap) x y W) hx8 hy8 => sHas W A n cap B xs hx ho (h.below hr.1 hB) (by have := hr.2.1; omega) x' y' hx8 hy8)
 clear hx hn h hB
 go_enter Tryz.func63, Tryz.ntmps63
 go_wp2_with fail
 have T1 := T0.out 26 79
 refine (HOk.out _ T1).mono ?_
 rintro e w1 ⟨rfl, hb1⟩
 have T2 := T1.on hb1
 clear T0 T1 hb1 HOk
 by_cases ho : okR xs
 ·rw [okRB_of ho]
  obtain ⟨_, _, c0, c1, c2⟩ := id T2
  go_wp2_with fail
  refine (sCellOk x y _).mono ?_
  rintro e w2 ⟨rfl, hb2⟩
  have T3 := T2.on hb2
  clear T2 c0 c1 c2 hb2
  by_cases hok : Ok x y
  ·rw [okB_of hok]
   obtain ⟨x', y', rfl, rfl, hx8, hy8⟩ := ok_nat hok
   have HE := Lh (has_at ho hx8 hy8)
   obtain ⟨_, _, c0, c1, c2⟩ := id T3
   have HC := Lh (HHs.out w2 x' y' ho T3 hx8 hy8)
   clear HHs hok hx8 hy8 ho
   go_wp2_with fail
   refine HC.out.mono ?_
   rintro e w3 ⟨rfl, hb3⟩
   have hb := (T3.on hb3).1
   clear T3 HC hb3 c0 c1 c2
   go_wp2
   go_ret
   exact mkBol HE.out.symm hb
  ·rw [okB_not hok]
   have HE := Lh (has_no_cell (xs := xs) hok)
   have hb := T3.1
   clear T3 hok ho HHs
   go_wp2
   go_ret
   exact mkBol HE.out.symm hb
 ·rw [okRB_not ho]
  have HE := Lh (has_no_ok ho x y)
  have hb := T2.1
  clear T2 ho HHs
  go_wp2
  go_ret
  exact mkBol HE.out.symm hb
theorem kindN' (r : Int) (k : Nat) (h0 : 0 ≤ r) (h1 : r ≤ 255) (hk : k < 8) (w : World) :
  Calls Tryz.prog 118 #[.int .i64 r, .int .i64 (k : Int)] w (Num (kindN r k) w) := by
 refine (iKindAt r k h0 h1 hk w).mono ?_
 rintro e w' ⟨rfl, rfl⟩
 exact ⟨rfl, Below.refl _ _⟩
set_option maxRecDepth 100000 in
set_option maxHeartbeats 2000000 in
theorem iHasCell (w : World) (A : Option Addr) (n cap B : Nat) (xs : List Int) (hx : xs.length = n) (hn : (n : Int) ≤ 9223372036854775807) (h : RowB w B A xs) (hB : B ≤ w.heap.size) (x y : Int) :
  Calls Tryz.prog 104 #[.agg #[.slice A n cap], .agg #[.int .i64 x, .int .i64 y]] w (Bol (hasB xs x y) w) := by
 have T0 := Lh (fun T T' => rc_start (T := T) (T' := T') (.slice A n cap) x y w)
 have HOk := Lh (fun W (hr : RC w (.slice A n cap) x y W) => iRegionOk W A n cap B xs hx hn (h.below hr.1 hB) (by have := hr.2.1; omega))
 have HRw := Lh (fun W (y' : Nat) (hr : RC w (.slice A n cap) x y W) => iRowAt W A n cap B xs hx hn (h.below hr.1 hB) (by have := hr.2.1; omega) y')
 clear hx hn h hB
 by_cases ho : okR xs
 ·rw [okRB_of ho] at HOk
  by_cases hok : Ok x y
  ·have HCk := Lh (fun W => cellOk x y W)
   rw [okB_of hok] at HCk
   obtain ⟨x', y', rfl, rfl, hx8, hy8⟩ := ok_nat hok
   have HE := Lh (has_at ho hx8 hy8)
   have HRo := Lh (fun W => HRw.out W y')
   have hr := rowD_ok ho y'
   clear HRw
   generalize rowD xs y' = r at HE HRo hr
   have HKd := Lh (fun W => kindN' r x' hr.1 hr.2 hx8 W)
   have hkn : bitB r x' = true ∧ kindN r x' = 1 ∨ bitB r x' = false ∧ kindN r x' = 0 := by
    cases hb : bitB r x' with
    | true => exact .inl ⟨rfl, kindN_yes hb⟩
    | false => exact .inr ⟨rfl, kindN_no hb⟩
   generalize kindN r x' = kd at HKd hkn
   rw [HE.out]
   clear hr hx8 hy8 ho hok HE
   rcases hkn with ⟨hb, rfl⟩ | ⟨hb, rfl⟩
   all_goals
    rw [hb]
    clear hb
    go_enter Tryz.func104, Tryz.ntmps104
    go_wp2_with fail
    have T1 := T0.out 26 79
    generalize (w.alloc (.cells #[.slice A n cap] 26)).alloc (.cells #[.int .i64 (x' : Int), .int .i64 (y' : Int)] 79) = W at T1 ⊢
    clear T0
    go_region_held3 (fun w' => Below w.heap.size w w' ∧ w.heap.size + 2 ≤ w'.heap.size ∧ w'.cell? ⟨w.heap.size, 0, none⟩ = some (.slice A n cap) ∧ w'.cell? ⟨w.heap.size + 1, 0, none⟩ = some (.int .i64 (x' : Int)) ∧ w'.cell? ⟨w.heap.size + 1, 1, none⟩ = some (.int .i64 (y' : Int)))
     (first | assumption | exact RC.drew (by assumption) | exact RC.on (by assumption) (by assumption))
     (first | (go_at_call 75; refine (HOk.out _ (by assumption)).mono ?_; rintro e wx ⟨rfl, hbx⟩) | (go_at_call 126; refine (HCk.out _).mono ?_; rintro e wx ⟨rfl, hbx⟩) | (go_at_call 127; refine (HRo.out _ (by assumption)).mono ?_; rintro e wx ⟨rfl, hbx⟩) | (go_at_call 118; refine (HKd.out _).mono ?_; rintro e wx ⟨rfl, hbx⟩))
    all_goals
     have T9 : RC w (.slice A n cap) (x' : Int) (y' : Int) wx := by assumption
     have hb := T9.1
     clear T9
     go_wp2
     go_ret
     exact mkBol rfl hb
  ·have HCk := Lh (fun W => cellOk x y W)
   rw [okB_not hok] at HCk
   have HE := Lh (has_no_cell (xs := xs) hok)
   clear HRw hok ho
   go_enter Tryz.func104, Tryz.ntmps104
   go_wp2_with fail
   have T1 := T0.out 26 79
   generalize (w.alloc (.cells #[.slice A n cap] 26)).alloc (.cells #[.int .i64 x, .int .i64 y] 79) = W at T1 ⊢
   clear T0
   refine wp_region_noPanic ?_
   refine wp_region_held_drew (S := (fun w' => Below w.heap.size w w' ∧ w.heap.size + 2 ≤ w'.heap.size ∧ w'.cell? ⟨w.heap.size, 0, none⟩ = some (.slice A n cap) ∧ w'.cell? ⟨w.heap.size + 1, 0, none⟩ = some (.int .i64 x) ∧ w'.cell? ⟨w.heap.size + 1, 1, none⟩ = some (.int .i64 y))) (by kernel_rfl) (RC.drew T1) (fun hHeld => ?_)
   refine tk 0 ?_
   try simp only [Act.put, List.getElem_toArray, List.getElem_cons_zero, List.setIfInBounds_toArray, List.set_cons_zero, List.set_cons_succ]
   refine tr 1 fun K hK => ?_
   go_simp
   refine (HOk.out _ (by assumption)).mono ?_
   rintro e wx ⟨rfl, hbx⟩
   go_wp2_with fail
   refine hK.out _ _ (RC.on (by assumption) hbx) (fun hHeld => ?_)
   clear hK K
   try simp only [Act.put, zk]
   refine tk 2 ?_; try simp only [Act.put, zk]
   refine tk 3 ?_; try simp only [Act.put, zk]
   refine tr 4 fun K hK => ?_
   go_simp
   refine (HCk.out _).mono ?_
   rintro e wx ⟨rfl, hbx⟩
   go_wp2_with fail
   refine hK.out _ _ (RC.on (by assumption) hbx) (fun hHeld => ?_)
   clear hK K
   try simp only [Act.put, zk]
   refine tk 5 ?_; try simp only [Act.put, zk]
   refine tk 6 ?_; try simp only [Act.put, zk]
   refine tu 7 ?_; try simp only [Act.put, zk]
   refine tu 8 ?_; try simp only [Act.put, zk]
   refine tu 9 ?_; try simp only [Act.put, zk]
   refine tu 10 ?_; try simp only [Act.put, zk]
   refine tu 11 ?_; try simp only [Act.put, zk]
   refine tu 12 ?_; try simp only [Act.put, zk]
   refine tu 13 ?_; try simp only [Act.put, zk]
   refine tu 14 ?_; try simp only [Act.put, zk]
   refine tk 15 ?_; try simp only [Act.put, zk]
   refine tk 16 ?_; try simp only [Act.put, zk]
   refine wpAnyH_done (by kernel_rfl) (NoPanic.normal ?_) _
   have T9 : RC w (.slice A n cap) x y wx := by assumption
   have hb := T9.1
   clear T9
   go_wp2
   go_ret
   exact mkBol HE.out.symm hb
 ·rw [okRB_not ho] at HOk
  have HE := Lh (has_no_ok ho x y)
  clear HRw ho
  go_enter Tryz.func104, Tryz.ntmps104
  go_wp2_with fail
  have T1 := T0.out 26 79
  generalize (w.alloc (.cells #[.slice A n cap] 26)).alloc (.cells #[.int .i64 x, .int .i64 y] 79) = W at T1 ⊢
  clear T0
  refine wp_region_noPanic ?_
  refine wp_region_held_drew (S := (fun w' => Below w.heap.size w w' ∧ w.heap.size + 2 ≤ w'.heap.size ∧ w'.cell? ⟨w.heap.size, 0, none⟩ = some (.slice A n cap) ∧ w'.cell? ⟨w.heap.size + 1, 0, none⟩ = some (.int .i64 x) ∧ w'.cell? ⟨w.heap.size + 1, 1, none⟩ = some (.int .i64 y))) (by kernel_rfl) (RC.drew T1) (fun hHeld => ?_)
  refine tk 0 ?_
  try simp only [Act.put, List.getElem_toArray, List.getElem_cons_zero, List.setIfInBounds_toArray, List.set_cons_zero, List.set_cons_succ]
  refine tr 1 fun K hK => ?_
  go_simp
  refine (HOk.out _ (by assumption)).mono ?_
  rintro e wx ⟨rfl, hbx⟩
  go_wp2_with fail
  refine hK.out _ _ (RC.on (by assumption) hbx) (fun hHeld => ?_)
  clear hK K
  try simp only [Act.put, zk]
  refine tk 2 ?_; try simp only [Act.put, zk]
  refine tu 3 ?_; try simp only [Act.put, zk]
  refine tu 4 ?_; try simp only [Act.put, zk]
  refine tk 5 ?_; try simp only [Act.put, zk]
  refine tk 6 ?_; try simp only [Act.put, zk]
  refine tu 7 ?_; try simp only [Act.put, zk]
  refine tu 8 ?_; try simp only [Act.put, zk]
  refine tu 9 ?_; try simp only [Act.put, zk]
  refine tu 10 ?_; try simp only [Act.put, zk]
  refine tu 11 ?_; try simp only [Act.put, zk]
  refine tu 12 ?_; try simp only [Act.put, zk]
  refine tu 13 ?_; try simp only [Act.put, zk]
  refine tu 14 ?_; try simp only [Act.put, zk]
  refine tk 15 ?_; try simp only [Act.put, zk]
  refine tk 16 ?_; try simp only [Act.put, zk]
  refine wpAnyH_done (by kernel_rfl) (NoPanic.normal ?_) _
  have T9 : RC w (.slice A n cap) x y wx := by assumption
  have hb := T9.1
  clear T9
  go_wp2
  go_ret
  exact mkBol HE.out.symm hb
end Go.Proofs.YtmajllgfmclcoaaGreatDoor.Reg
namespace Go.Proofs.YtmajllgfmclcoaaGreatDoor.Reg
open Go.RowKit Go.Joins
def RB (w : World) (v : Value) (W : World) : Prop :=
 Below w.heap.size w W ∧ w.heap.size + 1 ≤ W.heap.size ∧ W.cell? ⟨w.heap.size, 0, none⟩ = some v
theorem rb_start {T : TypeId} (v : Value) (w : World) : RB w v (w.alloc (.cells #[v] T)) :=
 ⟨below_alloc1 w _, by simp, (cell_of_row _ _ 0 _ _ _ (heap_alloc_new w _)).trans rfl⟩
theorem RB.onB {w W W' : World} {v : Value} {B : Nat} (h : RB w v W) (hb : Below B W W') (hB : w.heap.size + 1 ≤ B) : RB w v W' := by
 obtain ⟨h0, h1, h2⟩ := h
 have hz := hb.size
 refine ⟨h0.trans (hb.mono (by omega)), by omega, ?_⟩
 rw [hb.cell (by show w.heap.size < _; omega)]; exact h2
theorem RB.on {w W W' : World} {v : Value} (h : RB w v W) (hb : Below W.heap.size W W') : RB w v W' := h.onB hb h.2.1
theorem RB.drew {w W : World} {v : Value} (h : RB w v W) : RB w v W.drew := ⟨h.1.drew, h.2⟩
end Go.Proofs.YtmajllgfmclcoaaGreatDoor.Reg
