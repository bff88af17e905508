/- The model's draws out of a code: a cursor in a block of the call's own; each draw returns a number in its range, writes into the cursor's block alone, and leaves the cursor as a cursor. -/
import Derived.Test.YtcncikgcieigaaaRows
import Derived.Test.YtcncikgcieigaaaBase
import Derived.WalkKit
import Derived.WalkSpells
import Derived.WalkLawsBesides
import Derived.Lib.Hide
import Derived.OpenShut
import Derived.Laws.BitsAllLaws
import Derived.Laws.BitsLemmas
import Derived.Deep.QuietTactic
import Derived.BigQuiet
namespace Go.Proofs.Ytcncikgcieigaaa.Draw
set_option linter.unusedVariables false
open Go.RowKit Go.Proofs.Ytcncikgcieigaaa.Base

/-- the bytes of the code can be read, below block B. -/
def Rd (w : World) (B : Nat) (A : Option Addr) (len : Nat) : Prop :=
  ∃ (b off : Nat) (f : Nat → Int), (0 < len → b < B ∧ A = some ⟨b, off, none⟩) ∧ ∀ j, j < len → w.cell? ⟨b, off + j, none⟩ = some (.int .u8 (f j)) ∧ 0 ≤ f j ∧ f j ≤ 255
/-- a cursor over the code lies in block g, at B or past it. -/
def Cur (w : World) (B g : Nat) (A : Option Addr) (len cap : Nat) : Prop :=
  B ≤ g ∧ len ≤ 1048576 ∧ Rd w B A len ∧ ∃ (i : Nat) (h : Int), i ≤ len ∧ w.heap[g]? = some (.cells #[.slice A len cap, .int .i64 i, .int .i64 h] 75 (0, 0))
/-- a draw: a number that P holds of; the cursor is a cursor still; nothing but its block has turned. -/
def Drew (P : Int → Prop) (w : World) (B g : Nat) (A : Option Addr) (len cap : Nat) (e : Ending) (w' : World) : Prop :=
  ∃ x : Int, P x ∧ e = .returned (.int .i64 x) ∧ Cur w' B g A len cap ∧ w.grownBy w' (some g)

theorem grown_trans {a b c : World} {row : Option Nat} (h : a.grownBy b row) (k : b.grownBy c row) : a.grownBy c row :=
  ⟨k.os.trans h.os, k.tape.trans h.tape, k.output.trans h.output, Nat.le_trans h.size k.size, fun i hi hn => (k.block i (Nat.lt_of_lt_of_le hi h.size) hn).trans (h.block i hi hn)⟩
theorem grown_drewN {a b : World} {row : Option Nat} (h : a.grownBy b row) (n : Nat) : a.grownBy (b.drewN n) row := ⟨h.os, h.tape, h.output, h.size, h.block⟩
theorem Rd.grown {w w' : World} {B g : Nat} {A : Option Addr} {len : Nat} (h : Rd w B A len) (hB : B ≤ w.heap.size) (hg : B ≤ g) (hgr : w.grownBy w' (some g)) : Rd w' B A len := by
  obtain ⟨b, off, f, hA, hc⟩ := h
  refine ⟨b, off, f, hA, fun j hj => ⟨?_, (hc j hj).2⟩⟩
  have hb := (hA (by omega)).1
  have := World.cell?_of_block (w := w) (w' := w') (a := ⟨b, off + j, none⟩) (hgr.block b (by omega) (by intro he; injection he; omega))
  rw [this]; exact (hc j hj).1

theorem Rd.below {w w' : World} {B : Nat} {A : Option Addr} {len : Nat} (h : Rd w B A len) (hb : Below B w w') : Rd w' B A len := by
  obtain ⟨b, off, f, hA, hc⟩ := h
  exact ⟨b, off, f, hA, fun j hj => ⟨(hb.cell (p := ⟨b, off + j, none⟩) (hA (by omega)).1).trans (hc j hj).1, (hc j hj).2⟩⟩

theorem and255 (a : Int) : 0 ≤ bits .and .i64 a 255 ∧ bits .and .i64 a 255 ≤ 255 := by
  have h : (BitVec.ofInt 64 a &&& BitVec.ofInt 64 255).toNat ≤ 255 := by
    rw [BitVec.toNat_and]
    exact Nat.le_trans Nat.and_le_right (by decide)
  show 0 ≤ IntKind.i64.wrap ((BitVec.ofInt 64 a &&& BitVec.ofInt 64 255).toNat : Int) ∧ IntKind.i64.wrap ((BitVec.ofInt 64 a &&& BitVec.ofInt 64 255).toNat : Int) ≤ 255
  rw [IntKind.wrap_i64]
  omega

/-- one cell of the cursor is written. -/
theorem set_cursor {w : World} {g k : Nat} {cs cs' : Array Value} {t : TypeId} {u : Value} (hbl : w.heap[g]? = some (.cells cs t (0, 0))) (hcs : cs.setIfInBounds k u = cs') :
    (w.setCell ⟨g, k, none⟩ u).heap[g]? = some (.cells cs' t (0, 0)) ∧ w.grownBy (w.setCell ⟨g, k, none⟩ u) (some g) := by
  subst hcs
  refine ⟨by simp [World.setCell, Array.getElem?_modify, hbl], rfl, rfl, rfl, by simp [World.setCell], fun j hj hne => Below.heap_setCell w _ u j (fun e => hne (by rw [e]))⟩

set_option maxHeartbeats 400000 in
theorem byte (w : World) (B g : Nat) (A : Option Addr) (len cap : Nat) (h0 : Cur w B g A len cap) :
    Calls Try.prog 63 #[.pointer (some ⟨g, 0, none⟩)] w (Drew (fun x => 0 ≤ x ∧ x ≤ 255) w B g A len cap) := by
  obtain ⟨hBg, hlen, hrd, i, h, hi, hbl⟩ := h0
  have hgs : g < w.heap.size := (Array.getElem?_eq_some_iff.1 hbl).1
  have hc2 : w.cell? ⟨g, 2, none⟩ = some (.int .i64 h) := (cell_of_row w g 2 _ _ _ hbl).trans rfl
  have hf2 : w.frozen? ⟨g, 2, none⟩ = false := by simp [World.frozen?, hbl]
  have HB := Lib.hid hbl
  clear hbl
  go_enter Try.func63, Try.ntmps63
  go_wp2_with fail
  generalize wrap64 (wrap64 (h * 6364136223846793005) + 1442695040888963407) = h2
  obtain ⟨hb2, hg2⟩ := set_cursor (k := 2) (u := .int .i64 h2) (cs' := #[.slice A len cap, .int .i64 i, .int .i64 h2]) HB.out rfl
  generalize w.setCell ⟨g, 2, none⟩ (.int .i64 h2) = W at hb2 hg2 ⊢
  clear HB hc2 hf2
  have hc0 : W.cell? ⟨g, 0, none⟩ = some (.slice A len cap) := (cell_of_row W g 0 _ _ _ hb2).trans rfl
  have hc1 : W.cell? ⟨g, 1, none⟩ = some (.int .i64 i) := (cell_of_row W g 1 _ _ _ hb2).trans rfl
  have hc2 : W.cell? ⟨g, 2, none⟩ = some (.int .i64 h2) := (cell_of_row W g 2 _ _ _ hb2).trans rfl
  have hf1 : W.frozen? ⟨g, 1, none⟩ = false := by simp [World.frozen?, hb2]
  have HB2 := Lib.hid hb2
  clear hb2
  have hrdW : Rd W B A len := hrd.grown (by omega) hBg hg2
  by_cases hlt : i < len
  · obtain ⟨b, off, f, hA, hcode⟩ := hrdW
    obtain ⟨hb, rfl⟩ := hA (by omega)
    obtain ⟨hci, hf0, hf255⟩ := hcode i hlt
    clear hcode hA
    go_quiet (fail)
    go_wp2_with fail
    go_quiet (fail)
    go_wp2_with fail
    go_quiet (fail)
    go_wp2_with fail
    go_ret
    obtain ⟨hb3, hg3⟩ := set_cursor (w := W.drewN _) (k := 1) (u := .int .i64 ((i : Int) + 1)) (cs' := #[.slice (some ⟨b, off, none⟩) len cap, .int .i64 ((i + 1 : Nat) : Int), .int .i64 h2]) HB2.out rfl
    have hgw := grown_trans (grown_drewN hg2 _) hg3
    exact ⟨_, and255 _, rfl, ⟨hBg, hlen, hrd.grown (by omega) hBg hgw, i + 1, h2, by omega, hb3⟩, hgw⟩
  · go_quiet (fail)
    go_wp2_with fail
    go_quiet (fail)
    go_wp2
    go_ret
    exact ⟨_, and255 _, rfl, ⟨hBg, hlen, hrdW, i, h2, hi, HB2.out⟩, grown_drewN (grown_drewN hg2 _) _⟩

/-- what 'l01Below' returns: 0 where n is not above 0, a number from 0 to n - 1 otherwise. -/
def InBelow (n x : Int) : Prop := (n ≤ 0 → x = 0) ∧ (0 < n → 0 ≤ x ∧ x < n)
theorem grown_refl (w : World) (row : Option Nat) : w.grownBy w row := ⟨rfl, rfl, rfl, Nat.le_refl _, fun _ _ _ => rfl⟩
theorem emod_in (x n : Int) (hn : 0 < n) : InBelow n (x % n) :=
  ⟨fun h => by omega, fun _ => ⟨Int.emod_nonneg _ (by omega), Int.emod_lt_of_pos _ hn⟩⟩

set_option maxHeartbeats 400000 in
theorem below (w : World) (B g : Nat) (A : Option Addr) (len cap : Nat) (n : Int) (h0 : Cur w B g A len cap) :
    Calls Try.prog 51 #[.pointer (some ⟨g, 0, none⟩), .int .i64 n] w (Drew (InBelow n) w B g A len cap) := by
  have HC := Lib.hid h0
  clear h0
  by_cases h1 : n ≤ 0
  · go_enter Try.func51, Try.ntmps51
    go_wp2
    go_ret
    exact ⟨0, ⟨fun _ => rfl, fun h => by omega⟩, rfl, HC.out, grown_refl _ _⟩
  · have hne : (n == 0) = false := by simp; omega
    by_cases h2 : n ≤ 256
    · go_enter Try.func51, Try.ntmps51
      go_wp2_with fail
      refine (byte w B g A len cap HC.out).mono ?_
      rintro e w1 ⟨x, ⟨x0, x1⟩, rfl, hc, hg⟩
      have HC1 := Lib.hid hc
      clear hc
      go_wp2
      go_ret
      exact ⟨_, emod_in _ _ h1, rfl, HC1.out, hg⟩
    · go_enter Try.func51, Try.ntmps51
      go_wp2_with fail
      refine (byte w B g A len cap HC.out).mono ?_
      rintro e w1 ⟨x, ⟨x0, x1⟩, rfl, hc, hg1⟩
      have HC1 := Lib.hid hc
      clear hc
      go_wp2_with fail
      refine (byte w1 B g A len cap HC1.out).mono ?_
      rintro e w2 ⟨y, ⟨y0, y1⟩, rfl, hc, hg2⟩
      have HC2 := Lib.hid hc
      clear hc
      go_wp2_with fail
      refine (byte w2 B g A len cap HC2.out).mono ?_
      rintro e w3 ⟨z, ⟨z0, z1⟩, rfl, hc, hg3⟩
      have HC3 := Lib.hid hc
      clear hc
      go_wp2_with fail
      refine (byte w3 B g A len cap HC3.out).mono ?_
      rintro e w4 ⟨v, ⟨v0, v1⟩, rfl, hc, hg4⟩
      have HC4 := Lib.hid hc
      clear hc
      go_wp2
      go_ret
      exact ⟨_, emod_in _ _ h1, rfl, HC4.out, grown_trans hg1 (grown_trans hg2 (grown_trans hg3 hg4))⟩

theorem Cur.alloc {w : World} {B g : Nat} {A : Option Addr} {len cap : Nat} (h : Cur w B g A len cap) (o : Obj) : Cur (w.alloc o) B g A len cap := by
  obtain ⟨hBg, hlen, hrd, i, x, hi, hbl⟩ := h
  have hgs : g < w.heap.size := (Array.getElem?_eq_some_iff.1 hbl).1
  exact ⟨hBg, hlen, hrd.grown (by omega) hBg (World.grownBy_alloc w o (some g)), i, x, hi, (Below.heap_alloc w o g hgs).trans hbl⟩
theorem Cur.lt {w : World} {B g : Nat} {A : Option Addr} {len cap : Nat} (h : Cur w B g A len cap) : B ≤ g ∧ g < w.heap.size := by
  obtain ⟨hBg, _, _, i, x, _, hbl⟩ := h
  exact ⟨hBg, (Array.getElem?_eq_some_iff.1 hbl).1⟩

/-- the code of a law: nil, or a row of bytes below block B. -/
def Coded (w : World) (B : Nat) (A : Option Addr) (len : Nat) : Prop := len ≤ 1048576 ∧ Rd w B A len

/-- the cursor at the start: a new block. -/
def NewPost (w : World) (A : Option Addr) (len cap : Nat) (e : Ending) (w' : World) : Prop :=
  ∃ g, e = .returned (.pointer (some ⟨g, 0, none⟩)) ∧ Cur w' w.heap.size g A len cap ∧ Below w.heap.size w w'

set_option maxHeartbeats 400000 in
theorem new (w : World) (A : Option Addr) (len cap : Nat) (h0 : Coded w w.heap.size A len) :
    Calls Try.prog 28 #[.slice A len cap] w (NewPost w A len cap) := by
  obtain ⟨hlen, hrd⟩ := h0
  have HR := Lib.hid hrd
  obtain ⟨b, off, f, hA, hcode⟩ := hrd
  have HA := Lib.hid hA
  have HF := Lib.hid hcode
  clear hA hcode
  go_enter Try.func28, Try.ntmps28
  go_wp2_with fail
  go_loop [3, 4] (fun h i => ∃ (k : Nat) (x : Int), k ≤ len ∧ i = .int .i64 k ∧ h = .int .i64 x) (fun _ i => len - (intOf i).toNat)
  case atStart => exact ⟨0, _, Nat.zero_le _, rfl, rfl⟩
  case round =>
    obtain ⟨k, x, hk, rfl, rfl⟩ := hrel
    by_cases hlt : k < len
    · obtain ⟨hc1, _, _⟩ := HF.out k hlt
      obtain ⟨hb, rfl⟩ := HA.out (by omega)
      by_cases h4 : (k : Int) < 4000
      · go_wp2
        go_round
        case rel => exact ⟨k + 1, _, by omega, by go_num, rfl⟩
        case measure => simp [intOf]; omega
      · go_wp2
        go_ret
        exact ⟨w.heap.size, rfl, ⟨Nat.le_refl _, hlen, HR.out.below ((Below.refl _ _).alloc (Nat.le_refl _) _), 0, x, Nat.zero_le _, heap_alloc_new _ _⟩, (Below.refl _ _).alloc (Nat.le_refl _) _⟩
    · go_wp2
      go_ret
      exact ⟨w.heap.size, rfl, ⟨Nat.le_refl _, hlen, HR.out.below ((Below.refl _ _).alloc (Nat.le_refl _) _), 0, x, Nat.zero_le _, heap_alloc_new _ _⟩, (Below.refl _ _).alloc (Nat.le_refl _) _⟩

/-- what a law's shell says of a slice of numbers that came in. -/
def IsRow (k : IntKind) (w : World) (a : Option Addr) (len cap : Nat) (zs : List Int) : Prop :=
  (a = none ∧ len = 0 ∧ cap = 0 ∧ zs = []) ∨
  ∃ x, a = some x ∧ len ≤ cap ∧ cap ≤ maxLen ∧ zs.length = cap ∧ (∀ i, i < zs.length → w.cell? (x.add i) = some (.int k (zs.getD i 0))) ∧ ∀ n ∈ zs, (Lit.int k n).wf = true
theorem add_none (b o j : Nat) : (⟨b, o, none⟩ : Addr).add j = ⟨b, o + j, none⟩ := by unfold Addr.add; split <;> simp_all
theorem coded_of_row {w : World} {a : Option Addr} {len cap : Nat} {zs : List Int} (h : IsRow .u8 w a len cap zs) (hl : len ≤ 1048576) : Coded w w.heap.size a len := by
  refine ⟨hl, ?_⟩
  rcases h with ⟨rfl, rfl, rfl, rfl⟩ | ⟨x, rfl, hlc, hcm, hz, hcell, hwf⟩
  · exact ⟨0, 0, fun _ => 0, fun h => by omega, fun j hj => by omega⟩
  · by_cases h0 : len = 0
    · subst h0; exact ⟨0, 0, fun _ => 0, fun h => by omega, fun j hj => by omega⟩
    · obtain ⟨b, off, spot⟩ := x
      have hc := hcell 0 (by omega)
      have hs : spot = none := by
        have h1 := World.cell?_spot hc
        simpa [Addr.add] using h1
      subst hs
      refine ⟨b, off, fun j => zs.getD j 0, fun _ => ⟨?_, rfl⟩, fun j hj => ?_⟩
      · rw [add_none] at hc
        exact World.block_lt_of_cell? w _ hc
      · have hc := hcell j (by omega)
        rw [add_none] at hc
        refine ⟨hc, ?_⟩
        have hj' : j < zs.length := by omega
        exact bounds_u8 (hwf (zs.getD j 0) (by simp [List.getElem?_eq_getElem hj']))

/-- is the code too long to be asked? -/
theorem big (w : World) (A : Option Addr) (len cap : Nat) (hl : len ≤ 9223372036854775807) :
    Calls Try.prog 9 #[.slice A len cap] w fun e w' => e = .returned (.bool (decide (1048576 < (len : Int)))) ∧ w = w' := by
  by_cases h : (1048576 : Int) < (len : Int)
  all_goals
    go_enter Try.func9, Try.ntmps9
    go_wp2
    go_ret
    exact ⟨by simp [h], rfl⟩
theorem row_len {k : IntKind} {w : World} {a : Option Addr} {len cap : Nat} {zs : List Int} (h : IsRow k w a len cap zs) : len ≤ 9223372036854775807 := by
  rcases h with ⟨_, rfl, _, _⟩ | ⟨_, _, h1, h2, _⟩
  · omega
  · unfold maxLen at h2; omega
end Go.Proofs.Ytcncikgcieigaaa.Draw
