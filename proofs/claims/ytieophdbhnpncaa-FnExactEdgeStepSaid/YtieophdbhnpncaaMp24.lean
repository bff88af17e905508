/- Tch, RegL2, RegLC, RegBox in one text. -/
import Derived.Test.YtieophdbhnpncaaMp17
import Derived.Test.YtieophdbhnpncaaMp23
import Derived.Deep.RegionHeld3

/- Does a region touch itself at a corner: the program's function and the model's. -/
namespace Go.Proofs.Ytieophdbhnpncaa.Flo
set_option linter.unusedVariables false
set_option linter.unusedSimpArgs false
open Go.RowKit Go.Proofs.Ytieophdbhnpncaa.Base Go.Proofs.Ytieophdbhnpncaa.Pure Go.Proofs.Ytieophdbhnpncaa.Euler Go.Proofs.Ytieophdbhnpncaa.Bal Go.Proofs.Ytieophdbhnpncaa.Cell Go.Proofs.Ytieophdbhnpncaa.Reg Go.Joins

def touchB (xs : List Int) : Bool := (List.range 64).any fun i => decide (i % 8 < 7) && decide (i / 8 < 7) && touchAt xs i
theorem touchB_iff {xs : List Int} : touchB xs = true ↔ Bal.Touch xs := by
  unfold touchB Bal.Touch
  rw [List.any_eq_true]
  constructor
  · rintro ⟨i, hi, h⟩
    simp only [Bool.and_eq_true, decide_eq_true_eq] at h
    exact ⟨i, List.mem_range.1 hi, h.1.1, h.1.2, h.2⟩
  · rintro ⟨i, hi, h1, h2, h3⟩
    exact ⟨i, List.mem_range.2 hi, by rw [h3, decide_eq_true h1, decide_eq_true h2]; rfl⟩
/-- no corner so far. -/
def NoT (xs : List Int) (y x : Nat) : Prop := ∀ i, i % 8 < 7 → i / 8 < 7 → (i / 8 < y ∨ (i / 8 = y ∧ i % 8 < x)) → touchAt xs i = false
theorem NoT.start (xs : List Int) : NoT xs 0 0 := fun i _ _ h => by omega
theorem NoT.next {xs : List Int} {y x : Nat} (h : NoT xs y x) (hx : x < 7) (ht : touchAt xs (8 * y + x) = false) : NoT xs y (x + 1) := by
  intro i h1 h2 h3
  by_cases e : i = 8 * y + x
  · subst e; exact ht
  · exact h i h1 h2 (by omega)
theorem NoT.row {xs : List Int} {y : Nat} (h : NoT xs y 7) : NoT xs (y + 1) 0 := fun i h1 h2 h3 => h i h1 h2 (by omega)
theorem NoT.done {xs : List Int} (h : NoT xs 7 0) : touchB xs = false := by
  cases q : touchB xs
  · rfl
  · obtain ⟨i, _, h1, h2, h3⟩ := touchB_iff.1 q
    rw [h i h1 h2 (by omega)] at h3; cases h3
theorem touch_yes {xs : List Int} {y x : Nat} (hx : x < 7) (hy : y < 7) (ht : touchAt xs (8 * y + x) = true) : touchB xs = true := touchB_iff.2 ⟨8 * y + x, by omega, by omega, by omega, ht⟩
/-- the four bits. -/
theorem four {xs : List Int} (ho : okR xs) {y x : Nat} (hx : x < 7) (hy : y < 7) : touchAt xs (8 * y + x) = ((bitB (rowD xs y) x == bitB (rowD xs (y + 1)) (x + 1)) && (bitB (rowD xs y) (x + 1) == bitB (rowD xs (y + 1)) x) && (bitB (rowD xs y) x != bitB (rowD xs y) (x + 1))) := by
  unfold touchAt bitI
  rw [show (8 * y + x) / 8 = y by omega, show (8 * y + x) % 8 = x by omega, show (8 * y + x + 9) / 8 = y + 1 by omega, show (8 * y + x + 9) % 8 = x + 1 by omega, show (8 * y + x + 1) / 8 = y by omega, show (8 * y + x + 1) % 8 = x + 1 by omega, show (8 * y + x + 8) / 8 = y + 1 by omega, show (8 * y + x + 8) % 8 = x by omega]

set_option maxRecDepth 100000 in
set_option maxHeartbeats 4000000 in
theorem sTouches (w : World) (A : Option Addr) (n cap B : Nat) (xs : List Int) (hx : xs.length = n) (hn : (n : Int) ≤ 9223372036854775807) (ho : okR xs) (h : RowB w B A xs) (hB : B ≤ w.heap.size) :
    Calls Try.prog 50 #[.agg #[.slice A n cap]] w (Bol (touchB xs) w) := by
  have HH := Lib.hid (fun W (x y : Nat) (X Y : Int) (hX : X = (x : Int)) (hY : Y = (y : Int)) (hb : Below w.heap.size w W) hx8 hy8 => show Calls Try.prog 54 #[.agg #[.slice A n cap], .agg #[.int .i64 X, .int .i64 Y]] W (Bol (bitB (rowD xs y) x) W) by
    rw [hX, hY]; exact sHas W A n cap B xs hx ho (h.below hb hB) (by have := hb.size; omega) x y hx8 hy8)
  have T0 := Lib.hid (fun T => rb_start (T := T) (.slice A n cap) w)
  have HF := Lib.hid (fun (y x : Nat) hx hy => four (y := y) (x := x) ho hx hy)
  clear hx hn h ho
  go_enter Try.func50, Try.ntmps50
  go_wp2_with fail
  have T1 := T0.out 31
  clear T0
  generalize w.alloc (.cells #[.slice A n cap] 31) = W1 at T1 ⊢
  go_loopw [3] (fun i wr => ∃ y : Nat, y ≤ 7 ∧ i = .int .i64 y ∧ NoT xs y 0 ∧ RB w (.slice A n cap) wr) (fun i _ => 7 - (intOf i).toNat)
  case atStart => exact ⟨0, by omega, rfl, NoT.start xs, T1⟩
  case round =>
    clear T1
    obtain ⟨y, hy, rfl, hno, T⟩ := hrel
    have HNo := Lib.hid hno
    have HT := Lib.hid T
    by_cases hlt : y < 7
    · clear hno T
      go_wp2_with fail
      have hdy : decide ((y : Int) + 1 < 8) = true := decide_eq_true (by omega)
      go_loopw [4] (fun i wr => ∃ x : Nat, x ≤ 7 ∧ i = .int .i64 x ∧ NoT xs y x ∧ RB w (.slice A n cap) wr) (fun i _ => 7 - (intOf i).toNat)
      case atStart => exact ⟨0, by omega, rfl, HNo.out, HT.out⟩
      case round =>
        clear HNo HT
        obtain ⟨x, hx, rfl, hno, T⟩ := hrel
        have HNo := Lib.hid hno
        clear hno
        by_cases hlx : x < 7
        · have hf := HF.out y x hlx hlt
          have H1 := Lib.hid (fun W hb => HH.out W x y (x : Int) (y : Int) rfl rfl hb (by omega) (by omega))
          have H2 := Lib.hid (fun W hb => HH.out W (x + 1) y ((x : Int) + 1) (y : Int) rfl rfl hb (by omega) (by omega))
          have H3 := Lib.hid (fun W hb => HH.out W x (y + 1) (x : Int) ((y : Int) + 1) rfl rfl hb (by omega) (by omega))
          have H4 := Lib.hid (fun W hb => HH.out W (x + 1) (y + 1) ((x : Int) + 1) ((y : Int) + 1) rfl rfl hb (by omega) (by omega))
          have HFf := Lib.hid hf
          clear hf
          generalize bitB (rowD xs y) x = b1 at H1 HFf
          generalize bitB (rowD xs y) (x + 1) = b2 at H2 HFf
          generalize bitB (rowD xs (y + 1)) x = b3 at H3 HFf
          generalize bitB (rowD xs (y + 1)) (x + 1) = b4 at H4 HFf
          obtain ⟨_, _, c0⟩ := id T
          go_wp2_with fail
          refine (H1.out _ T.1).mono ?_
          rintro e w2 ⟨rfl, hb2⟩
          have T2 := T.on hb2
          obtain ⟨_, _, c2⟩ := id T2
          clear T c0 hb2
          go_wp2_with fail
          refine (H2.out _ T2.1).mono ?_
          rintro e w3 ⟨rfl, hb3⟩
          have T3 := T2.on hb3
          obtain ⟨_, _, c3⟩ := id T3
          clear T2 c2 hb3
          go_wp2_with fail
          refine (H3.out _ T3.1).mono ?_
          rintro e w4 ⟨rfl, hb4⟩
          have T4 := T3.on hb4
          obtain ⟨_, _, c4⟩ := id T4
          clear T3 c3 hb4
          go_wp2_with fail
          refine (H4.out _ T4.1).mono ?_
          rintro e w5 ⟨rfl, hb5⟩
          have T5 := Lib.hid (T4.on hb5)
          clear T4 c4 hb5 H1 H2 H3 H4
          cases ht : touchAt xs (8 * y + x) with
          | true =>
            have HR := Lib.hid (touch_yes hlx hlt ht)
            have hb := T5.out.1
            rw [ht] at HFf
            clear ht
            have hff := HFf.out
            cases b1 <;> cases b2 <;> cases b3 <;> cases b4 <;> first
              | (exact absurd hff (by decide))
              | (clear hff HFf
                 go_wp2
                 go_ret
                 exact mkBol HR.out.symm hb)
          | false =>
            have HNx := Lib.hid (HNo.out.next hlx ht)
            rw [ht] at HFf
            clear ht
            have hff := HFf.out
            cases b1 <;> cases b2 <;> cases b3 <;> cases b4 <;> first
              | (exact absurd hff (by decide))
              | (clear hff HFf
                 go_wp2
                 go_roundw
                 case rel =>
                   repeat apply Exists.intro
                   refine ⟨⟨x + 1, by omega, ?_, HNx.out, T5.out⟩, ?_⟩
                   rotate_left
                   · rw [hdy]
                   · go_num
                 case measure => (simp [intOf] <;> omega))
        · obtain rfl : x = 7 := by omega
          have HNx := Lib.hid HNo.out.row
          go_wp2
          go_roundw
          case rel => exact ⟨y + 1, by omega, by go_num, HNx.out, T⟩
          case measure => (simp [intOf] <;> omega)
    · obtain rfl : y = 7 := by omega
      have HR := Lib.hid HNo.out.done
      have hb := T.1
      clear hno T
      go_wp2
      go_ret
      exact mkBol HR.out.symm hb
end Go.Proofs.Ytieophdbhnpncaa.Flo

/- What a law about a region holds in memory while it asks for an answer that lies in memory: its parameter's box, a copy of the region in a box, the model's answer. -/
namespace Go.Proofs.Ytieophdbhnpncaa.Reg
set_option linter.unusedVariables false
open Go.RowKit Go.Proofs.Ytieophdbhnpncaa.Base Go.Proofs.Ytieophdbhnpncaa.Pure Go.Proofs.Ytieophdbhnpncaa.Cell Go.Joins

theorem RowIn.belowB {W W' : World} {lo hi B e size n : Nat} {v : Value} {xs : List Value} (h : RowIn W lo hi e size v n xs) (hb : Below B W W') (hB : hi ≤ B) : RowIn W' lo hi e size v n xs := by
  refine ⟨⟨h.1.1, ?_⟩, h.2⟩
  rcases h.1.2 with hn | ⟨g, cap, cur, rfl, hg, hgg, rest⟩
  · exact .inl hn
  · refine .inr ⟨g, cap, cur, rfl, hg, ?_, rest⟩
    have h2 := h.2 g rfl
    rw [hb.block g (by omega)]
    exact hgg
/-- the law's state: v in the parameter's box; va, the copy, in the box p, its row from lx on, below hx; the model's answer vw, its row from lw on, below hw. -/
def LS (w : World) (v : Value) (p : Nat) (va : Value) (lx hx n : Nat) (xs : List Value) (lw hw e size : Nat) (vw : Value) (m : Nat) (cs : List Value) (W : World) : Prop :=
  Below w.heap.size w W ∧ w.heap.size + 1 ≤ W.heap.size ∧ W.cell? ⟨w.heap.size, 0, none⟩ = some v ∧ W.cell? ⟨p, 0, none⟩ = some va ∧ (p < W.heap.size ∧ RowIn W lx hx 3 1 va n xs ∧ RowIn W lw hw e size vw m cs)
section
variable {w : World} {v : Value} {p : Nat} {va : Value} {lx hx n : Nat} {xs : List Value} {lw hw e size : Nat} {vw : Value} {m : Nat} {cs : List Value} {W W' : World}
theorem LS.rb (h : LS w v p va lx hx n xs lw hw e size vw m cs W) : RB w v W := ⟨h.1, h.2.1, h.2.2.1⟩
theorem LS.x (h : LS w v p va lx hx n xs lw hw e size vw m cs W) : RowIn W lx hx 3 1 va n xs := h.2.2.2.2.2.1
theorem LS.ans (h : LS w v p va lx hx n xs lw hw e size vw m cs W) : RowIn W lw hw e size vw m cs := h.2.2.2.2.2.2
theorem LS.on (h : LS w v p va lx hx n xs lw hw e size vw m cs W) (hb : Below W.heap.size W W') : LS w v p va lx hx n xs lw hw e size vw m cs W' := by
  obtain ⟨a, b, c⟩ := h.rb.on hb
  obtain ⟨_, _, _, d, f, g1, g2⟩ := h
  exact ⟨a, b, c, (hb.cell (by show p < _; omega)).trans d, by have := hb.size; omega, g1.on hb, g2.on hb⟩
theorem LS.drew (h : LS w v p va lx hx n xs lw hw e size vw m cs W) : LS w v p va lx hx n xs lw hw e size vw m cs W.drew := ⟨h.1.drew, h.2⟩
theorem LS.onB {B : Nat} (h : LS w v p va lx hx n xs lw hw e size vw m cs W) (hb : Below B W W') (h1 : w.heap.size + 1 ≤ B) (h2 : p < B) (h3 : hx ≤ B) (h4 : hw ≤ B) : LS w v p va lx hx n xs lw hw e size vw m cs W' := by
  obtain ⟨a, b, c⟩ := h.rb.onB hb h1
  obtain ⟨_, _, _, d, f, g1, g2⟩ := h
  exact ⟨a, b, c, (hb.cell (by show p < _; omega)).trans d, by have := hb.size; omega, g1.belowB hb h3, g2.belowB hb h4⟩
/-- numbers are written into the copy. -/
theorem LS.marked {ys : List Value} (h : LS w v p va lx hx n xs lw hw e size vw m cs W) (hr : RowIn W' lx hx 3 1 va n ys) (ha : Apart lx hx W W') (h1 : w.heap.size + 1 ≤ lx) (h2 : hx ≤ p) (h3 : hw ≤ lx) : LS w v p va lx hx n ys lw hw e size vw m cs W' := by
  obtain ⟨a, b, c, d, f, _, g2⟩ := h
  have hz := ha.size
  exact ⟨a.trans (ha.below (by omega) (by omega)), by omega, (ha.cell (by show w.heap.size < _; omega) (by show w.heap.size < _ ∨ _; omega)).trans c, (ha.cell (by show p < _; omega) (by show p < _ ∨ _ ≤ p; omega)).trans d, by omega, hr, g2.apart ha (by omega)⟩
theorem ls_start {T : TypeId} (h : RB w v W) (hx1 : RowIn W lx hx 3 1 va n xs) (hw1 : RowIn W lw hw e size vw m cs) : LS w v W.heap.size va lx hx n xs lw hw e size vw m cs (W.alloc (.cells #[va] T)) := by
  have hb := below_alloc1 W (.cells #[va] T)
  obtain ⟨a, b, c⟩ := h.on hb
  exact ⟨a, b, c, (cell_of_row _ _ 0 _ _ _ (heap_alloc_new W _)).trans rfl, by simp, hx1.on hb, hw1.on hb⟩
end
end Go.Proofs.Ytieophdbhnpncaa.Reg

/- Laws about a region and a cell: what a law holds in memory while it asks. -/
namespace Go.Proofs.Ytieophdbhnpncaa.Reg
set_option linter.unusedVariables false
open Go.RowKit Go.Proofs.Ytieophdbhnpncaa.Base Go.Proofs.Ytieophdbhnpncaa.Pure Go.Proofs.Ytieophdbhnpncaa.Cell Go.Joins

/-- a copy of the region in memory of the law's own, in a box p, beside the two parameters' boxes. -/
def RY (w : World) (v : Value) (x y : Int) (p : Nat) (A : Option Addr) (n cap : Nat) (xs : List Int) (W : World) : Prop :=
  Below w.heap.size w W ∧ w.heap.size + 2 ≤ W.heap.size ∧ W.cell? ⟨w.heap.size, 0, none⟩ = some v ∧ W.cell? ⟨w.heap.size + 1, 0, none⟩ = some (.int .i64 x) ∧ W.cell? ⟨w.heap.size + 1, 1, none⟩ = some (.int .i64 y) ∧
    W.cell? ⟨p, 0, none⟩ = some (.slice A n cap) ∧ (w.heap.size ≤ p ∧ p < W.heap.size ∧ W.ownsRow (w.heap.size + 2) 3 1 (.slice A n cap) n (ints xs))
theorem ry_start {w W W1 : World} {v : Value} {x y : Int} {A : Option Addr} {n cap : Nat} {xs : List Int} {B : Nat} (h : RC w v x y W) (hB : w.heap.size + 2 ≤ B) (ho : W.ownsRow B 3 1 (.slice A n cap) n (ints xs)) {T : TypeId}
    (h1 : Below (W.alloc (.cells #[.slice A n cap] T)).heap.size (W.alloc (.cells #[.slice A n cap] T)) W1) : RY w v x y W.heap.size A n cap xs W1 := by
  have hb : Below W.heap.size W W1 := (below_alloc1 W _).trans (h1.mono (by simp))
  obtain ⟨a, b, c, d, e⟩ := h.on hb
  refine ⟨a, b, c, d, e, ?_, by have := h.1.size; omega, by have := h1.size; simp at this; omega, own_base (own_below ho hb (Nat.le_refl _)) hB⟩
  rw [h1.cell (by simp)]
  exact (cell_of_row _ _ 0 _ _ _ (heap_alloc_new W _)).trans rfl
theorem RY.onB {w W W' : World} {v : Value} {x y : Int} {p : Nat} {A : Option Addr} {n cap : Nat} {xs : List Int} {B : Nat} (h : RY w v x y p A n cap xs W) (hb : Below B W W') (hB : W.heap.size ≤ B) : RY w v x y p A n cap xs W' := by
  obtain ⟨h0, h1, h2, h3, h4, h5, h6, h7, h8⟩ := h
  have hz := hb.size
  refine ⟨h0.trans (hb.mono (by omega)), by omega, ?_, ?_, ?_, ?_, h6, by omega, own_below h8 hb hB⟩
  · rw [hb.cell (by show w.heap.size < _; omega)]; exact h2
  · rw [hb.cell (by show w.heap.size + 1 < _; omega)]; exact h3
  · rw [hb.cell (by show w.heap.size + 1 < _; omega)]; exact h4
  · rw [hb.cell (by show p < _; omega)]; exact h5
theorem RY.on {w W W' : World} {v : Value} {x y : Int} {p : Nat} {A : Option Addr} {n cap : Nat} {xs : List Int} (h : RY w v x y p A n cap xs W) (hb : Below W.heap.size W W') : RY w v x y p A n cap xs W' := h.onB hb (Nat.le_refl _)
theorem RY.drew {w W : World} {v : Value} {x y : Int} {p : Nat} {A : Option Addr} {n cap : Nat} {xs : List Int} (h : RY w v x y p A n cap xs W) : RY w v x y p A n cap xs W.drew := ⟨h.1.drew, h.2⟩
theorem RY.row {w W : World} {v : Value} {x y : Int} {p : Nat} {A : Option Addr} {n cap : Nat} {xs : List Int} (h : RY w v x y p A n cap xs W) : RowB W W.heap.size A xs := rowB_own h.2.2.2.2.2.2.2.2
theorem RY.rc {w W : World} {v : Value} {x y : Int} {p : Nat} {A : Option Addr} {n cap : Nat} {xs : List Int} (h : RY w v x y p A n cap xs W) : RC w v x y W := ⟨h.1, h.2.1, h.2.2.1, h.2.2.2.1, h.2.2.2.2.1⟩
theorem RC.onB {w W W' : World} {v : Value} {x y : Int} {B : Nat} (h : RC w v x y W) (hb : Below B W W') (hB : w.heap.size + 2 ≤ B) : RC w v x y W' := by
  obtain ⟨h0, h1, h2, h3, h4⟩ := h
  have hz := hb.size
  refine ⟨h0.trans (hb.mono (by omega)), by omega, ?_, ?_, ?_⟩
  · rw [hb.cell (by show w.heap.size < _; omega)]; exact h2
  · rw [hb.cell (by show w.heap.size + 1 < _; omega)]; exact h3
  · rw [hb.cell (by show w.heap.size + 1 < _; omega)]; exact h4
theorem row_on {W W' : World} {A : Option Addr} {xs : List Int} (h : RowB W W.heap.size A xs) (hb : Below W.heap.size W W') : RowB W' W'.heap.size A xs := (h.below hb (Nat.le_refl _)).mono hb.size
end Go.Proofs.Ytieophdbhnpncaa.Reg

/- Regions of a law's own, each in a box; regions of statements that draw their order and end in such a box. -/
namespace Go.Proofs.Ytieophdbhnpncaa.Reg
set_option linter.unusedVariables false
open Go.RowKit Go.Proofs.Ytieophdbhnpncaa.Base Go.Proofs.Ytieophdbhnpncaa.Pure Go.Proofs.Ytieophdbhnpncaa.Cell Go.Joins

/-- the value va in the box p, its row beside it, all of it from block B on, below block H. -/
def BoxAt (W : World) (B H p : Nat) (va : Value) (n : Nat) (ys : List Value) : Prop :=
  W.heap[p]? = some (.cells #[va] 31) ∧ B ≤ p ∧ p < H ∧ H ≤ W.heap.size ∧ ∃ lo hi, B ≤ lo ∧ lo ≤ hi ∧ hi ≤ H ∧ RowIn W lo hi 3 1 va n ys ∧ (p < lo ∨ hi ≤ p)
theorem own_range {W : World} {B e size n : Nat} {v : Value} {xs : List Value} (h : W.ownsRow B e size v n xs) (hB : B ≤ W.heap.size) : ∃ lo hi, B ≤ lo ∧ lo ≤ hi ∧ hi ≤ lo + 1 ∧ hi ≤ W.heap.size ∧ RowIn W lo hi e size v n xs := by
  rcases h.2 with ⟨rfl, rfl⟩ | ⟨g, cap, cur, rfl, hg, hgg, rest⟩
  · exact ⟨B, B, Nat.le_refl _, Nat.le_refl _, by omega, hB, ⟨h.1, .inl ⟨rfl, rfl⟩⟩, fun g hg => by simp [Value.ownBlock] at hg⟩
  · have hl := (Array.getElem?_eq_some_iff.1 hgg).1
    exact ⟨g, g + 1, hg, by omega, by omega, by omega, ⟨h.1, .inr ⟨g, cap, cur, rfl, Nat.le_refl _, hgg, rest⟩⟩, fun q hq => by simp [Value.ownBlock] at hq; omega⟩
section
variable {W W' : World} {B H p : Nat} {va : Value} {n : Nat} {ys : List Value}
theorem BoxAt.cell (h : BoxAt W B H p va n ys) : W.cell? ⟨p, 0, none⟩ = some va := (cellAt h.1 0).1.trans rfl
theorem BoxAt.own (h : BoxAt W B H p va n ys) : W.ownsRow B 3 1 va n ys := by
  obtain ⟨_, _, _, _, lo, hi, h1, h2, h3, h4, _⟩ := h
  exact own_base h4.1 h1
theorem BoxAt.on (h : BoxAt W B H p va n ys) (hb : Below W.heap.size W W') : BoxAt W' B H p va n ys := by
  obtain ⟨a, b, c, d, lo, hi, h1, h2, h3, h4, h5⟩ := h
  have := hb.size
  exact ⟨(hb.block p (by omega)).trans a, b, c, by omega, lo, hi, h1, h2, h3, h4.on hb, h5⟩
theorem BoxAt.drew (h : BoxAt W B H p va n ys) : BoxAt W.drew B H p va n ys := h
theorem BoxAt.far {B' H' : Nat} (h : BoxAt W B H p va n ys) (ha : Apart B' H' W W') (hd : H ≤ B' ∨ H' ≤ B) : BoxAt W' B H p va n ys := by
  obtain ⟨a, b, c, d, lo, hi, h1, h2, h3, h4, h5⟩ := h
  have := ha.size
  exact ⟨(ha.block p (by omega) (by omega)).trans a, b, c, by omega, lo, hi, h1, h2, h3, h4.apart ha (by omega), h5⟩
theorem BoxAt.row {A : Option Addr} {cap : Nat} {xs : List Int} (h : BoxAt W B H p (.slice A n cap) n (ints xs)) : RowB W W.heap.size A xs := rowB_own h.own
/-- a box that is made when its row is there. -/
theorem box_last (ho : W.ownsRow B 3 1 va n ys) (hB : B ≤ W.heap.size) : BoxAt (W.alloc (.cells #[va] 31)) B (W.alloc (.cells #[va] 31)).heap.size W.heap.size va n ys := by
  obtain ⟨lo, hi, h1, h2, h3, h4, h5⟩ := own_range ho hB
  exact ⟨heap_alloc_new W _, hB, by simp, Nat.le_refl _, lo, hi, h1, h2, by simp; omega, h5.on (below_alloc1 W _), .inr h4⟩
/-- a box that was there ahead of its row. -/
theorem box_first {u : Value} {B' q : Nat} (hq : W.heap[q]? = some (.cells #[u] 31)) (ho : W.ownsRow B' 3 1 va n ys) (hB : B' ≤ W.heap.size) (hq1 : q < B') (hq2 : B ≤ q) :
    BoxAt (W.setCell ⟨q, 0, none⟩ va) B (W.setCell ⟨q, 0, none⟩ va).heap.size q va n ys := by
  obtain ⟨lo, hi, h1, h2, h3, h4, h5⟩ := own_range ho hB
  have hz : (W.setCell ⟨q, 0, none⟩ va).heap.size = W.heap.size := by simp [World.setCell]
  refine ⟨?_, hq2, by omega, Nat.le_refl _, lo, hi, by omega, h2, by omega, ?_, .inl (by omega)⟩
  · have := block_setCell hq va (i := 0)
    rw [this]; rfl
  · exact h5.apart (lo' := q) (hi' := q + 1) ((Apart.refl q (q + 1) W).setCell (p := ⟨q, 0, none⟩) (Nat.le_refl _) (by show q < q + 1; omega) va) (.inr (by omega))
end
theorem markBox (W : World) (B H p n cap : Nat) (A : Option Addr) (xs : List Int) (m : Int) (hm : m = ((1 + n : Nat) : Int)) (hn : (n : Int) ≤ 9000000) (hr : BoxAt W B H p (.slice A n cap) n (ints xs)) :
    Calls Try.prog 17 #[.agg #[.slice A n cap], .int .i64 1] W fun e w' => e = .returned (.int .i64 m) ∧ BoxAt w' B H p (.slice A n cap) n (ints (marksI 1 n)) ∧ Apart B H W w' := by
  obtain ⟨a, b, c, d, lo, hi, h1, h2, h3, h4, h5⟩ := hr
  refine (markReg1 W lo hi n cap A xs m hm hn h4).mono ?_
  rintro e w' ⟨rfl, hr', ha⟩
  have hz := ha.size
  exact ⟨rfl, ⟨(ha.block p (by omega) h5).trans a, b, c, by omega, lo, hi, h1, h2, h3, hr', h5⟩, ⟨ha.os, ha.tape, ha.output, ha.size, fun k hk hkr => ha.block k hk (by omega)⟩⟩

/-- a fresh box, from block K on, at a world that came later. -/
def Fresh (K : Nat) (W : World) (q : Nat) : Prop := W.heap[q]? = some (.cells #[.slice none 0 0] 31) ∧ W.cell? ⟨q, 0, none⟩ = some (.slice none 0 0) ∧ W.frozen? ⟨q, 0, none⟩ = false ∧ K ≤ q ∧ q < W.heap.size
theorem fresh_of {K : Nat} {W : World} {q : Nat} (h : W.heap[q]? = some (.cells #[.slice none 0 0] 31)) (hq : K ≤ q) : Fresh K W q :=
  ⟨h, (cellAt h 0).1.trans rfl, (cellAt h 0).2, hq, (Array.getElem?_eq_some_iff.1 h).1⟩
theorem fresh_new {K : Nat} {X W : World} (h : K ≤ X.heap.size) (hb : Below (X.alloc (.cells #[.slice none 0 0] 31)).heap.size (X.alloc (.cells #[.slice none 0 0] 31)) W) : Fresh K W X.heap.size :=
  fresh_of ((hb.block _ (by simp)).trans (heap_alloc_new X _)) h
theorem fresh_newD {K : Nat} {X W : World} (h : K ≤ X.heap.size) (hb : Below (X.drew.alloc (.cells #[.slice none 0 0] 31)).heap.size (X.drew.alloc (.cells #[.slice none 0 0] 31)) W) : Fresh K W X.heap.size :=
  show Fresh K W X.drew.heap.size from fresh_new (X := X.drew) h hb
theorem fresh_old {K : Nat} {X W : World} {q : Nat} (h : Fresh K X q) (hb : Below X.heap.size X W) : Fresh K W q := fresh_of ((hb.block _ h.2.2.2.2).trans h.1) h.2.2.2.1
/-- what a statement reads, at worlds that came behind W7. -/
def RK (W7 : World) (g : Nat) (v : Value) (x y : Int) (px : Nat) (vx : Value) (W : World) : Prop :=
  Below W7.heap.size W7 W ∧ W.cell? ⟨g, 0, none⟩ = some v ∧ W.cell? ⟨g + 1, 0, none⟩ = some (.int .i64 x) ∧ W.cell? ⟨g + 1, 1, none⟩ = some (.int .i64 y) ∧ W.cell? ⟨px, 0, none⟩ = some vx ∧ (g + 2 ≤ W7.heap.size ∧ px < W7.heap.size)
section
variable {W7 W W' : World} {g : Nat} {v : Value} {x y : Int} {px : Nat} {vx : Value}
theorem RK.onB {B : Nat} (h : RK W7 g v x y px vx W) (hb : Below B W W') (hB : W7.heap.size ≤ B) : RK W7 g v x y px vx W' := by
  obtain ⟨a, b, c, d, e, f1, f2⟩ := h
  exact ⟨a.trans (hb.mono hB), (hb.cell (by show g < _; omega)).trans b, (hb.cell (by show g + 1 < _; omega)).trans c, (hb.cell (by show g + 1 < _; omega)).trans d, (hb.cell (by show px < _; omega)).trans e, f1, f2⟩
theorem RK.on (h : RK W7 g v x y px vx W) (hb : Below W.heap.size W W') : RK W7 g v x y px vx W' := h.onB hb h.1.size
theorem RK.drew (h : RK W7 g v x y px vx W) : RK W7 g v x y px vx W.drew := ⟨h.1.drew, h.2⟩
theorem RK.store (h : RK W7 g v x y px vx W) {q : Nat} (hq : W7.heap.size ≤ q) (u : Value) : RK W7 g v x y px vx (W.setCell ⟨q, 0, none⟩ u) :=
  h.onB ((Below.refl W7.heap.size W).setCell (p := ⟨q, 0, none⟩) hq u) (Nat.le_refl _)
theorem rk_start {w : World} (h : RC w v x y W7) (hx : W7.cell? ⟨px, 0, none⟩ = some vx) (hp : px < W7.heap.size) : RK W7 w.heap.size v x y px vx W7 := ⟨Below.refl _ _, h.2.2.1, h.2.2.2.1, h.2.2.2.2, hx, h.2.1, hp⟩
end
theorem RC.store {w W : World} {v : Value} {x y : Int} (h : RC w v x y W) {q : Nat} (hq : w.heap.size + 2 ≤ q) (u : Value) : RC w v x y (W.setCell ⟨q, 0, none⟩ u) :=
  h.onB ((Below.refl (w.heap.size + 2) W).setCell (p := ⟨q, 0, none⟩) hq u) (Nat.le_refl _)

theorem own_none {w : World} {base e size n cap : Nat} {A : Option Addr} {xs : List Value} (h : w.ownsRow base e size (.slice A n cap) n xs) : A = none → n = 0 ∧ cap = 0 := by
  intro hA
  subst hA
  rcases h.2 with ⟨h', h0⟩ | ⟨g, cap', cur, h', _⟩
  · simp only [Value.slice.injEq] at h'
    exact ⟨h0, h'.2.2⟩
  · simp at h'
theorem row_on2 {W W' : World} {B B' : Nat} {A : Option Addr} {xs : List Int} (h : RowB W B A xs) (hb : Below B' W W') (hB : B ≤ B' := by exact Nat.le_refl _) : RowB W' B A xs := h.below hb hB
theorem wp_of_rest5 {P : Program} {c : Code} {Q : Exit → Act → World → Prop} {a : Act} {w : World} (F : Option Addr → Nat → Nat → Option Addr → Nat → Act) (Rel : World → Nat → Option Addr → Nat → Prop)
    (h : ∀ Q, (∀ W p A1 c1 A2 c2, Rel W p A2 c2 → Q .normal (F A1 c1 p A2 c2) W) → c.wp P Q a w) (k : ∀ W p A1 c1 A2 c2, Rel W p A2 c2 → Q .normal (F A1 c1 p A2 c2) W) : c.wp P Q a w := h Q k
theorem wp_of_rest3 {P : Program} {c : Code} {Q : Exit → Act → World → Prop} {a : Act} {w : World} (F : Nat → Option Addr → Nat → Act) (Rel : World → Nat → Option Addr → Nat → Prop)
    (h : ∀ Q, (∀ W p A2 c2, Rel W p A2 c2 → Q .normal (F p A2 c2) W) → c.wp P Q a w) (k : ∀ W p A2 c2, Rel W p A2 c2 → Q .normal (F p A2 c2) W) : c.wp P Q a w := h Q k
end Go.Proofs.Ytieophdbhnpncaa.Reg
