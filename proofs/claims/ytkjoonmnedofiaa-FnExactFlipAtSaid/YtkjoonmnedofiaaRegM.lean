/- Regions in memory, and what the laws do with them: a region is copied, two are compared, numbers are written into one and read again. -/
import Derived.Test.YtkjoonmnedofiaaRows
import Derived.Test.YtkjoonmnedofiaaBase
import Derived.Test.YtkjoonmnedofiaaPure
import Derived.WalkKit
import Derived.WalkSpells
import Derived.WalkLawsBesides
import Derived.Below
import Derived.OwnWalk
import Derived.Laws.AppendOwn
import Derived.Laws.OwnMore
import Derived.Deep.AppendLies
import Derived.Lib.Hide
import Derived.Lib.SmallJoins
import Derived.Deep.QuietTactic
import Derived.BigQuiet
namespace Go.Proofs.Ytkjoonmnedofiaa.Reg
set_option linter.unusedVariables false
open Go.RowKit Go.Proofs.Ytkjoonmnedofiaa.Base Go.Proofs.Ytkjoonmnedofiaa.Pure Go.Joins

/-- numbers, as they lie in memory. -/
def ints (xs : List Int) : List Value := xs.map (Value.int .i64)
theorem ints_length (xs : List Int) : (ints xs).length = xs.length := by unfold ints; simp
theorem ints_at {xs : List Int} {j : Nat} {x : Int} (h : xs[j]? = some x) : (ints xs)[j]? = some (.int .i64 x) := by unfold ints; simp [h]
theorem ints_snoc (xs : List Int) (x : Int) : ints (xs ++ [x]) = ints xs ++ [.int .i64 x] := by unfold ints; simp
theorem ints_set (xs : List Int) (j : Nat) (x : Int) : (ints xs).set j (.int .i64 x) = ints (xs.set j x) := by unfold ints; rw [List.map_set]
/-- numbers in a row below block B can be read. -/
def RowB (w : World) (B : Nat) (A : Option Addr) (xs : List Int) : Prop :=
  ∃ b off : Nat, (0 < xs.length → A = some ⟨b, off, none⟩ ∧ b < B) ∧ ∀ j x, xs[j]? = some x → w.cell? ⟨b, off + j, none⟩ = some (.int .i64 x)
theorem RowB.mono {w : World} {B B' : Nat} {A : Option Addr} {xs : List Int} (h : RowB w B A xs) (hB : B ≤ B') : RowB w B' A xs := by
  obtain ⟨b, off, h1, h2⟩ := h
  exact ⟨b, off, fun k => ⟨(h1 k).1, by have := (h1 k).2; omega⟩, h2⟩
theorem RowB.below {w w' : World} {B B' : Nat} {A : Option Addr} {xs : List Int} (h : RowB w B A xs) (hb : Below B' w w') (hB : B ≤ B') : RowB w' B A xs := by
  obtain ⟨b, off, h1, h2⟩ := h
  refine ⟨b, off, h1, fun j x hx => ?_⟩
  have hl : 0 < xs.length := by
    rcases Nat.eq_zero_or_pos xs.length with h0 | h0
    · rw [List.eq_nil_of_length_eq_zero h0] at hx; simp at hx
    · exact h0
  rw [hb.cell (p := ⟨b, off + j, none⟩) (by show b < B'; have := (h1 hl).2; omega)]
  exact h2 j x hx
theorem RowB.drew {w : World} {B : Nat} {A : Option Addr} {xs : List Int} (h : RowB w B A xs) : RowB w.drew B A xs := h
theorem rowB_own {w : World} {base e n cap : Nat} {A : Option Addr} {xs : List Int} (h : w.ownsRow base e 1 (.slice A n cap) n (ints xs)) : RowB w w.heap.size A xs := by
  have hn : xs.length = n := by have := h.1; rw [ints_length] at this; omega
  by_cases h0 : xs.length = 0
  · have : xs = [] := List.eq_nil_of_length_eq_zero h0
    subst this
    exact ⟨0, 0, fun h => by simp at h, fun j u hu => by simp at hu⟩
  · obtain ⟨g, c, hv, _, hlt⟩ := h.form (by omega)
    injection hv with hA
    subst hA
    refine ⟨g, 0, fun _ => ⟨rfl, hlt⟩, fun j x hx => ?_⟩
    have := h.cells (g := g) rfl j _ (ints_at hx)
    rw [add_plain] at this
    simpa using this
theorem own_below {w w' : World} {base e size n : Nat} {v : Value} {xs : List Value} {B : Nat} (h : w.ownsRow base e size v n xs) (hb : Below B w w') (hB : w.heap.size ≤ B) : w'.ownsRow base e size v n xs :=
  h.kept (row := none) ⟨hb.os, hb.tape, hb.output, hb.size, fun i hi _ => hb.block i (by omega)⟩ (by cases v <;> simp [Value.ownBlock] <;> (try (split <;> simp)))
theorem own_base {w : World} {B B' e size n : Nat} {v : Value} {xs : List Value} (h : w.ownsRow B e size v n xs) (hB : B' ≤ B) : w.ownsRow B' e size v n xs := by
  refine ⟨h.1, ?_⟩
  rcases h.2 with h | ⟨g, cap, cur, a, b, c⟩
  · exact .inl h
  · exact .inr ⟨g, cap, cur, a, by omega, c⟩
theorem drewN_below {B : Nat} {a w : World} (h : Below B a w) (n : Nat) : Below B a (w.drewN n) := ⟨h.os, h.tape, h.output, h.size, h.block⟩

/-- nothing has turned but blocks from lo on, below hi; new blocks may have come. -/
structure Apart (lo hi : Nat) (w w' : World) : Prop where
  os : w'.os = w.os
  tape : w'.tape = w.tape
  output : w'.output = w.output
  size : w.heap.size ≤ w'.heap.size
  block : ∀ k, k < w.heap.size → k < lo ∨ hi ≤ k → w'.heap[k]? = w.heap[k]?
theorem Apart.refl (lo hi : Nat) (w : World) : Apart lo hi w w := ⟨rfl, rfl, rfl, Nat.le_refl _, fun _ _ _ => rfl⟩
theorem Apart.trans {lo hi : Nat} {a b c : World} (h : Apart lo hi a b) (k : Apart lo hi b c) : Apart lo hi a c :=
  ⟨k.os.trans h.os, k.tape.trans h.tape, k.output.trans h.output, Nat.le_trans h.size k.size, fun j hj hr => (k.block j (Nat.lt_of_lt_of_le hj h.size) hr).trans (h.block j hj hr)⟩
theorem apart_of_below {w w' : World} (h : Below w.heap.size w w') (lo hi : Nat) : Apart lo hi w w' := ⟨h.os, h.tape, h.output, h.size, fun k hk _ => h.block k hk⟩
theorem Apart.below {lo hi : Nat} {w w' : World} (h : Apart lo hi w w') {B : Nat} (hB : B ≤ lo) (hw : B ≤ w.heap.size) : Below B w w' := ⟨h.os, h.tape, h.output, h.size, fun k hk => h.block k (by omega) (.inl (by omega))⟩
theorem Apart.setCell {lo hi : Nat} {a w : World} (h : Apart lo hi a w) {p : Addr} (h0 : lo ≤ p.block) (h1 : p.block < hi) (u : Value) : Apart lo hi a (w.setCell p u) :=
  ⟨h.os, h.tape, h.output, by have := h.size; simpa [World.setCell] using this, fun k hk hr => (Below.heap_setCell w p u k (by omega)).trans (h.block k hk hr)⟩
theorem Apart.cell {lo hi : Nat} {w w' : World} (h : Apart lo hi w w') {p : Addr} (hp : p.block < w.heap.size) (hr : p.block < lo ∨ hi ≤ p.block) : w'.cell? p = w.cell? p := World.cell?_of_block (w := w) (h.block p.block hp hr)
/-- a row of the law's own, its block from lo on, below hi. -/
def RowIn (W : World) (lo hi e size : Nat) (v : Value) (n : Nat) (xs : List Value) : Prop := W.ownsRow lo e size v n xs ∧ ∀ g, v.ownBlock = some g → g < hi
theorem RowIn.on {W W' : World} {lo hi e size n : Nat} {v : Value} {xs : List Value} (h : RowIn W lo hi e size v n xs) (hb : Below W.heap.size W W') : RowIn W' lo hi e size v n xs := ⟨own_below h.1 hb (Nat.le_refl _), h.2⟩
theorem RowIn.drew {W : World} {lo hi e size n : Nat} {v : Value} {xs : List Value} (h : RowIn W lo hi e size v n xs) : RowIn W.drew lo hi e size v n xs := h
theorem RowIn.apart {W W' : World} {lo hi lo' hi' e size n : Nat} {v : Value} {xs : List Value} (h : RowIn W lo hi e size v n xs) (hb : Apart lo' hi' W W') (hd : hi ≤ lo' ∨ hi' ≤ lo) : RowIn W' lo hi e size v n xs := by
  refine ⟨⟨h.1.1, ?_⟩, h.2⟩
  rcases h.1.2 with hn | ⟨g, cap, cur, rfl, hg, hgg, rest⟩
  · exact .inl hn
  · refine .inr ⟨g, cap, cur, rfl, hg, ?_, rest⟩
    have h2 := h.2 g rfl
    rw [hb.block g (Array.getElem?_eq_some_iff.1 hgg).1 (by omega)]
    exact hgg
theorem rowIn_new {W : World} {lo e size n : Nat} {v : Value} {xs : List Value} (h : W.ownsRow lo e size v n xs) : RowIn W lo W.heap.size e size v n xs := ⟨h, fun g hg => (h.lt g hg).2⟩
theorem RowIn.later {W W' : World} {lo hi e size n : Nat} {v : Value} {xs : List Value} (h : RowIn W lo hi e size v n xs) (hb : Below W.heap.size W W') : RowIn W' lo hi e size v n xs := h.on hb

theorem intInfo : (Try.prog.info? 3).map (fun i => (i.zero, i.size, i.bytes)) = some (some (.int .i64 0), 1, 8) := by kernel_rfl

/-- what is left of the room for n numbers. -/
def szR (left : Int) (n : Nat) : Int := if (n : Int) ≤ left then left - n else -1

/-- three blocks that a call made at its beginning, behind what came since. -/
theorem three {w w1 : World} {o1 o2 o3 : Obj} (h : Below (((w.alloc o1).alloc o2).alloc o3).heap.size (((w.alloc o1).alloc o2).alloc o3) w1) :
    w1.heap[w.heap.size]? = some o1 ∧ w1.heap[w.heap.size + 1]? = some o2 ∧ w1.heap[w.heap.size + 1 + 1]? = some o3 := by
  have h1 : ((w.heap.push o1).push o2).size = w.heap.size + 1 + 1 := by simp
  have h2 : (w.heap.push o1).size = w.heap.size + 1 := by simp
  refine ⟨(h.block _ (by simp; omega)).trans ?_, (h.block _ (by simp)).trans ?_, (h.block _ (by simp)).trans ?_⟩
  · show (((w.heap.push o1).push o2).push o3)[_]? = _
    rw [Array.getElem?_push_lt (by simp; omega), Array.getElem_push_lt (by simp), Array.getElem_push_eq]
  · show (((w.heap.push o1).push o2).push o3)[_]? = _
    rw [Array.getElem?_push_lt (by simp)]
    congr 1
    simp [Array.getElem_push]
  · show (((w.heap.push o1).push o2).push o3)[_]? = _
    rw [← h1]; exact Array.getElem?_push_size
theorem cellAt {w : World} {g : Nat} {cs : Array Value} {t : TypeId} (h : w.heap[g]? = some (.cells cs t (0, 0))) (k : Nat) : w.cell? ⟨g, k, none⟩ = cs[k]? ∧ w.frozen? ⟨g, k, none⟩ = false :=
  ⟨cell_of_row _ _ k _ _ _ h, by simp [World.frozen?, h]⟩

/-- numbers in memory of the call's own. -/
def IntsPost (xs : List Int) (n : Nat) (w : World) (e : Ending) (w' : World) : Prop :=
  ∃ A, e = .returned (.slice A n n) ∧ w'.ownsRow w.heap.size 3 1 (.slice A n n) n (ints xs) ∧ Below w.heap.size w w'
/-- a region in memory of the call's own. -/
def RegPost (xs : List Int) (n : Nat) (w : World) (e : Ending) (w' : World) : Prop :=
  ∃ A cap, e = .returned (.agg #[.slice A n cap]) ∧ w'.ownsRow w.heap.size 3 1 (.slice A n cap) n (ints xs) ∧ Below w.heap.size w w'

theorem copied_step (xs : List Int) (n k : Nat) (hx : xs.length = n) (hk : k < n) : (ints (xs.take k) ++ List.replicate (n - k) (Value.int .i64 0)).set k (.int .i64 xs[k]) = ints (xs.take (k + 1)) ++ List.replicate (n - (k + 1)) (.int .i64 0) := by
  have hl : (ints (xs.take k)).length = k := by rw [ints_length, List.length_take]; omega
  rw [List.set_append_right _ _ (by omega), hl, Nat.sub_self, show n - k = (n - (k + 1)) + 1 by omega, List.replicate_succ, List.set_cons_zero, List.take_succ_eq_append_getElem (by omega), ints_snoc, List.append_assoc]
  rfl

/-- the numbers from k on. -/
def marksI (k n : Nat) : List Int := (List.range n).map fun j => ((k + j : Nat) : Int)
theorem marksI_length (k n : Nat) : (marksI k n).length = n := by unfold marksI; simp
theorem marksI_at (k n j : Nat) (h : j < n) : (marksI k n)[j]? = some ((k + j : Nat) : Int) := by unfold marksI; simp [List.getElem?_range h]
theorem marksI_step (k j n : Nat) (xs : List Int) (hx : xs.length = n) (hj : j < n) : (marksI k j ++ xs.drop j).set j ((k + j : Nat) : Int) = marksI k (j + 1) ++ xs.drop (j + 1) := by
  rw [List.set_append_right _ _ (by rw [marksI_length]; exact Nat.le_refl _), marksI_length, Nat.sub_self, List.drop_eq_getElem_cons (by omega), List.set_cons_zero]
  unfold marksI
  rw [List.range_succ, List.map_append, List.append_assoc]
  rfl

end Go.Proofs.Ytkjoonmnedofiaa.Reg
