/- Draw0, DrawA, RegRc, RegWc, DrawR in one text. -/
import Derived.Test.YtkjoonmnedofiaaRows
import Derived.Test.YtkjoonmnedofiaaBase
import Derived.WalkKit
import Derived.WalkSpells
import Derived.WalkLawsBesides
import Derived.Lib.Hide
import Derived.OpenShut
import Derived.Laws.BitsAllLaws
import Derived.Laws.BitsLemmas
import Derived.Deep.QuietTactic
import Derived.BigQuiet
import Derived.Test.YtkjoonmnedofiaaCellB
import Derived.Test.YtkjoonmnedofiaaRegM
import Derived.Deep.RegionHeld3
import Derived.Deep.DeepAppendRoom
import Derived.Deep.RegionLaw
import Derived.BigRegion
import Derived.Test.YtkjoonmnedofiaaMgTil
import Derived.Laws.CopyOwn
import Derived.StillTailTactics

/- The model's draws out of a code: a cursor in a block of the call's own; each draw returns a number in its range, writes into the cursor's block alone, and leaves the cursor as a cursor. -/
namespace Go.Proofs.Ytkjoonmnedofiaa.Draw
set_option linter.unusedVariables false
open Go.RowKit Go.Proofs.Ytkjoonmnedofiaa.Base

/-- the bytes of the code can be read, below block B. -/
def Rd (w : World) (B : Nat) (A : Option Addr) (len : Nat) : Prop :=
  ∃ (b off : Nat) (f : Nat → Int), (0 < len → b < B ∧ A = some ⟨b, off, none⟩) ∧ ∀ j, j < len → w.cell? ⟨b, off + j, none⟩ = some (.int .u8 (f j)) ∧ 0 ≤ f j ∧ f j ≤ 255
/-- a cursor over the code lies in block g, at B or past it. -/
def Cur (w : World) (B g : Nat) (A : Option Addr) (len cap : Nat) : Prop :=
  B ≤ g ∧ len ≤ 1048576 ∧ Rd w B A len ∧ ∃ (i : Nat) (h : Int), i ≤ len ∧ w.heap[g]? = some (.cells #[.slice A len cap, .int .i64 i, .int .i64 h] 85 (0, 0))
/-- a draw: a number that P holds of; the cursor is a cursor still; nothing but its block has turned. -/
def Drew (P : Int → Prop) (w : World) (B g : Nat) (A : Option Addr) (len cap : Nat) (e : Ending) (w' : World) : Prop :=
  ∃ x : Int, P x ∧ e = .returned (.int .i64 x) ∧ Cur w' B g A len cap ∧ w.grownBy w' (some g)

theorem grown_trans {a b c : World} {row : Option Nat} (h : a.grownBy b row) (k : b.grownBy c row) : a.grownBy c row :=
  ⟨k.os.trans h.os, k.tape.trans h.tape, k.output.trans h.output, Nat.le_trans h.size k.size, fun i hi hn => (k.block i (Nat.lt_of_lt_of_le hi h.size) hn).trans (h.block i hi hn)⟩
theorem grown_drewN {a b : World} {row : Option Nat} (h : a.grownBy b row) (n : Nat) : a.grownBy (b.drewN n) row := ⟨h.os, h.tape, h.output, h.size, h.block⟩
theorem Rd.grown {w w' : World} {B g : Nat} {A : Option Addr} {len : Nat} (h : Rd w B A len) (hB : B ≤ w.heap.size) (hg : B ≤ g) (hgr : w.grownBy w' (some g)) : Rd w' B A len := by
  obtain ⟨b, off, f, hA, hc⟩ := h
  refine ⟨b, off, f, hA, fun j hj => ⟨?_, (hc j hj).2⟩⟩
  have hb := (hA (by omega)).1
  have := World.cell?_of_block (w := w) (w' := w') (a := ⟨b, off + j, none⟩) (hgr.block b (by omega) (by intro he; injection he; omega))
  rw [this]; exact (hc j hj).1

theorem Rd.below {w w' : World} {B : Nat} {A : Option Addr} {len : Nat} (h : Rd w B A len) (hb : Below B w w') : Rd w' B A len := by
  obtain ⟨b, off, f, hA, hc⟩ := h
  exact ⟨b, off, f, hA, fun j hj => ⟨(hb.cell (p := ⟨b, off + j, none⟩) (hA (by omega)).1).trans (hc j hj).1, (hc j hj).2⟩⟩

theorem and255 (a : Int) : 0 ≤ bits .and .i64 a 255 ∧ bits .and .i64 a 255 ≤ 255 := by
  have h : (BitVec.ofInt 64 a &&& BitVec.ofInt 64 255).toNat ≤ 255 := by
    rw [BitVec.toNat_and]
    exact Nat.le_trans Nat.and_le_right (by decide)
  show 0 ≤ IntKind.i64.wrap ((BitVec.ofInt 64 a &&& BitVec.ofInt 64 255).toNat : Int) ∧ IntKind.i64.wrap ((BitVec.ofInt 64 a &&& BitVec.ofInt 64 255).toNat : Int) ≤ 255
  rw [IntKind.wrap_i64]
  omega

/-- one cell of the cursor is written. -/
theorem set_cursor {w : World} {g k : Nat} {cs cs' : Array Value} {t : TypeId} {u : Value} (hbl : w.heap[g]? = some (.cells cs t (0, 0))) (hcs : cs.setIfInBounds k u = cs') :
    (w.setCell ⟨g, k, none⟩ u).heap[g]? = some (.cells cs' t (0, 0)) ∧ w.grownBy (w.setCell ⟨g, k, none⟩ u) (some g) := by
  subst hcs
  refine ⟨by simp [World.setCell, Array.getElem?_modify, hbl], rfl, rfl, rfl, by simp [World.setCell], fun j hj hne => Below.heap_setCell w _ u j (fun e => hne (by rw [e]))⟩

set_option maxHeartbeats 400000 in
theorem byte (w : World) (B g : Nat) (A : Option Addr) (len cap : Nat) (h0 : Cur w B g A len cap) :
    Calls Try.prog 81 #[.pointer (some ⟨g, 0, none⟩)] w (Drew (fun x => 0 ≤ x ∧ x ≤ 255) w B g A len cap) := by
  obtain ⟨hBg, hlen, hrd, i, h, hi, hbl⟩ := h0
  have hgs : g < w.heap.size := (Array.getElem?_eq_some_iff.1 hbl).1
  have hc2 : w.cell? ⟨g, 2, none⟩ = some (.int .i64 h) := (cell_of_row w g 2 _ _ _ hbl).trans rfl
  have hf2 : w.frozen? ⟨g, 2, none⟩ = false := by simp [World.frozen?, hbl]
  have HB := Lib.hid hbl
  clear hbl
  go_enter Try.func81, Try.ntmps81
  go_wp2_with fail
  generalize wrap64 (wrap64 (h * 6364136223846793005) + 1442695040888963407) = h2
  obtain ⟨hb2, hg2⟩ := set_cursor (k := 2) (u := .int .i64 h2) (cs' := #[.slice A len cap, .int .i64 i, .int .i64 h2]) HB.out rfl
  generalize w.setCell ⟨g, 2, none⟩ (.int .i64 h2) = W at hb2 hg2 ⊢
  clear HB hc2 hf2
  have hc0 : W.cell? ⟨g, 0, none⟩ = some (.slice A len cap) := (cell_of_row W g 0 _ _ _ hb2).trans rfl
  have hc1 : W.cell? ⟨g, 1, none⟩ = some (.int .i64 i) := (cell_of_row W g 1 _ _ _ hb2).trans rfl
  have hc2 : W.cell? ⟨g, 2, none⟩ = some (.int .i64 h2) := (cell_of_row W g 2 _ _ _ hb2).trans rfl
  have hf1 : W.frozen? ⟨g, 1, none⟩ = false := by simp [World.frozen?, hb2]
  have HB2 := Lib.hid hb2
  clear hb2
  have hrdW : Rd W B A len := hrd.grown (by omega) hBg hg2
  by_cases hlt : i < len
  · obtain ⟨b, off, f, hA, hcode⟩ := hrdW
    obtain ⟨hb, rfl⟩ := hA (by omega)
    obtain ⟨hci, hf0, hf255⟩ := hcode i hlt
    clear hcode hA
    go_quiet (fail)
    go_wp2_with fail
    go_quiet (fail)
    go_wp2_with fail
    go_quiet (fail)
    go_wp2_with fail
    go_ret
    obtain ⟨hb3, hg3⟩ := set_cursor (w := W.drewN _) (k := 1) (u := .int .i64 ((i : Int) + 1)) (cs' := #[.slice (some ⟨b, off, none⟩) len cap, .int .i64 ((i + 1 : Nat) : Int), .int .i64 h2]) HB2.out rfl
    have hgw := grown_trans (grown_drewN hg2 _) hg3
    exact ⟨_, and255 _, rfl, ⟨hBg, hlen, hrd.grown (by omega) hBg hgw, i + 1, h2, by omega, hb3⟩, hgw⟩
  · go_quiet (fail)
    go_wp2_with fail
    go_quiet (fail)
    go_wp2
    go_ret
    exact ⟨_, and255 _, rfl, ⟨hBg, hlen, hrdW, i, h2, hi, HB2.out⟩, grown_drewN (grown_drewN hg2 _) _⟩

/-- what 'l01Below' returns: 0 where n is not above 0, a number from 0 to n - 1 otherwise. -/
def InBelow (n x : Int) : Prop := (n ≤ 0 → x = 0) ∧ (0 < n → 0 ≤ x ∧ x < n)
theorem grown_refl (w : World) (row : Option Nat) : w.grownBy w row := ⟨rfl, rfl, rfl, Nat.le_refl _, fun _ _ _ => rfl⟩
theorem emod_in (x n : Int) (hn : 0 < n) : InBelow n (x % n) :=
  ⟨fun h => by omega, fun _ => ⟨Int.emod_nonneg _ (by omega), Int.emod_lt_of_pos _ hn⟩⟩

set_option maxHeartbeats 400000 in
theorem below (w : World) (B g : Nat) (A : Option Addr) (len cap : Nat) (n : Int) (h0 : Cur w B g A len cap) :
    Calls Try.prog 57 #[.pointer (some ⟨g, 0, none⟩), .int .i64 n] w (Drew (InBelow n) w B g A len cap) := by
  have HC := Lib.hid h0
  clear h0
  by_cases h1 : n ≤ 0
  · go_enter Try.func57, Try.ntmps57
    go_wp2
    go_ret
    exact ⟨0, ⟨fun _ => rfl, fun h => by omega⟩, rfl, HC.out, grown_refl _ _⟩
  · have hne : (n == 0) = false := by simp; omega
    by_cases h2 : n ≤ 256
    · go_enter Try.func57, Try.ntmps57
      go_wp2_with fail
      refine (byte w B g A len cap HC.out).mono ?_
      rintro e w1 ⟨x, ⟨x0, x1⟩, rfl, hc, hg⟩
      have HC1 := Lib.hid hc
      clear hc
      go_wp2
      go_ret
      exact ⟨_, emod_in _ _ h1, rfl, HC1.out, hg⟩
    · go_enter Try.func57, Try.ntmps57
      go_wp2_with fail
      refine (byte w B g A len cap HC.out).mono ?_
      rintro e w1 ⟨x, ⟨x0, x1⟩, rfl, hc, hg1⟩
      have HC1 := Lib.hid hc
      clear hc
      go_wp2_with fail
      refine (byte w1 B g A len cap HC1.out).mono ?_
      rintro e w2 ⟨y, ⟨y0, y1⟩, rfl, hc, hg2⟩
      have HC2 := Lib.hid hc
      clear hc
      go_wp2_with fail
      refine (byte w2 B g A len cap HC2.out).mono ?_
      rintro e w3 ⟨z, ⟨z0, z1⟩, rfl, hc, hg3⟩
      have HC3 := Lib.hid hc
      clear hc
      go_wp2_with fail
      refine (byte w3 B g A len cap HC3.out).mono ?_
      rintro e w4 ⟨v, ⟨v0, v1⟩, rfl, hc, hg4⟩
      have HC4 := Lib.hid hc
      clear hc
      go_wp2
      go_ret
      exact ⟨_, emod_in _ _ h1, rfl, HC4.out, grown_trans hg1 (grown_trans hg2 (grown_trans hg3 hg4))⟩

theorem Cur.alloc {w : World} {B g : Nat} {A : Option Addr} {len cap : Nat} (h : Cur w B g A len cap) (o : Obj) : Cur (w.alloc o) B g A len cap := by
  obtain ⟨hBg, hlen, hrd, i, x, hi, hbl⟩ := h
  have hgs : g < w.heap.size := (Array.getElem?_eq_some_iff.1 hbl).1
  exact ⟨hBg, hlen, hrd.grown (by omega) hBg (World.grownBy_alloc w o (some g)), i, x, hi, (Below.heap_alloc w o g hgs).trans hbl⟩
theorem Cur.lt {w : World} {B g : Nat} {A : Option Addr} {len cap : Nat} (h : Cur w B g A len cap) : B ≤ g ∧ g < w.heap.size := by
  obtain ⟨hBg, _, _, i, x, _, hbl⟩ := h
  exact ⟨hBg, (Array.getElem?_eq_some_iff.1 hbl).1⟩

/-- the code of a law: nil, or a row of bytes below block B. -/
def Coded (w : World) (B : Nat) (A : Option Addr) (len : Nat) : Prop := len ≤ 1048576 ∧ Rd w B A len

/-- the cursor at the start: a new block. -/
def NewPost (w : World) (A : Option Addr) (len cap : Nat) (e : Ending) (w' : World) : Prop :=
  ∃ g, e = .returned (.pointer (some ⟨g, 0, none⟩)) ∧ Cur w' w.heap.size g A len cap ∧ Below w.heap.size w w'

set_option maxHeartbeats 400000 in
theorem new (w : World) (A : Option Addr) (len cap : Nat) (h0 : Coded w w.heap.size A len) :
    Calls Try.prog 36 #[.slice A len cap] w (NewPost w A len cap) := by
  obtain ⟨hlen, hrd⟩ := h0
  have HR := Lib.hid hrd
  obtain ⟨b, off, f, hA, hcode⟩ := hrd
  have HA := Lib.hid hA
  have HF := Lib.hid hcode
  clear hA hcode
  go_enter Try.func36, Try.ntmps36
  go_wp2_with fail
  go_loop [3, 4] (fun h i => ∃ (k : Nat) (x : Int), k ≤ len ∧ i = .int .i64 k ∧ h = .int .i64 x) (fun _ i => len - (intOf i).toNat)
  case atStart => exact ⟨0, _, Nat.zero_le _, rfl, rfl⟩
  case round =>
    obtain ⟨k, x, hk, rfl, rfl⟩ := hrel
    by_cases hlt : k < len
    · obtain ⟨hc1, _, _⟩ := HF.out k hlt
      obtain ⟨hb, rfl⟩ := HA.out (by omega)
      by_cases h4 : (k : Int) < 4000
      · go_wp2
        go_round
        case rel => exact ⟨k + 1, _, by omega, by go_num, rfl⟩
        case measure => simp [intOf]; omega
      · go_wp2
        go_ret
        exact ⟨w.heap.size, rfl, ⟨Nat.le_refl _, hlen, HR.out.below ((Below.refl _ _).alloc (Nat.le_refl _) _), 0, x, Nat.zero_le _, heap_alloc_new _ _⟩, (Below.refl _ _).alloc (Nat.le_refl _) _⟩
    · go_wp2
      go_ret
      exact ⟨w.heap.size, rfl, ⟨Nat.le_refl _, hlen, HR.out.below ((Below.refl _ _).alloc (Nat.le_refl _) _), 0, x, Nat.zero_le _, heap_alloc_new _ _⟩, (Below.refl _ _).alloc (Nat.le_refl _) _⟩

/-- what a law's shell says of a slice of numbers that came in. -/
def IsRow (k : IntKind) (w : World) (a : Option Addr) (len cap : Nat) (zs : List Int) : Prop :=
  (a = none ∧ len = 0 ∧ cap = 0 ∧ zs = []) ∨
  ∃ x, a = some x ∧ len ≤ cap ∧ cap ≤ maxLen ∧ zs.length = cap ∧ (∀ i, i < zs.length → w.cell? (x.add i) = some (.int k (zs.getD i 0))) ∧ ∀ n ∈ zs, (Lit.int k n).wf = true
theorem add_none (b o j : Nat) : (⟨b, o, none⟩ : Addr).add j = ⟨b, o + j, none⟩ := by unfold Addr.add; split <;> simp_all
theorem coded_of_row {w : World} {a : Option Addr} {len cap : Nat} {zs : List Int} (h : IsRow .u8 w a len cap zs) (hl : len ≤ 1048576) : Coded w w.heap.size a len := by
  refine ⟨hl, ?_⟩
  rcases h with ⟨rfl, rfl, rfl, rfl⟩ | ⟨x, rfl, hlc, hcm, hz, hcell, hwf⟩
  · exact ⟨0, 0, fun _ => 0, fun h => by omega, fun j hj => by omega⟩
  · by_cases h0 : len = 0
    · subst h0; exact ⟨0, 0, fun _ => 0, fun h => by omega, fun j hj => by omega⟩
    · obtain ⟨b, off, spot⟩ := x
      have hc := hcell 0 (by omega)
      have hs : spot = none := by
        have h1 := World.cell?_spot hc
        simpa [Addr.add] using h1
      subst hs
      refine ⟨b, off, fun j => zs.getD j 0, fun _ => ⟨?_, rfl⟩, fun j hj => ?_⟩
      · rw [add_none] at hc
        exact World.block_lt_of_cell? w _ hc
      · have hc := hcell j (by omega)
        rw [add_none] at hc
        refine ⟨hc, ?_⟩
        have hj' : j < zs.length := by omega
        exact bounds_u8 (hwf (zs.getD j 0) (by simp [List.getElem?_eq_getElem hj']))

/-- is the code too long to be asked? -/
theorem big (w : World) (A : Option Addr) (len cap : Nat) (hl : len ≤ 9223372036854775807) :
    Calls Try.prog 9 #[.slice A len cap] w fun e w' => e = .returned (.bool (decide (1048576 < (len : Int)))) ∧ w = w' := by
  by_cases h : (1048576 : Int) < (len : Int)
  all_goals
    go_enter Try.func9, Try.ntmps9
    go_wp2
    go_ret
    exact ⟨by simp [h], rfl⟩
theorem row_len {k : IntKind} {w : World} {a : Option Addr} {len cap : Nat} {zs : List Int} (h : IsRow k w a len cap zs) : len ≤ 9223372036854775807 := by
  rcases h with ⟨_, rfl, _, _⟩ | ⟨_, _, h1, h2, _⟩
  · omega
  · unfold maxLen at h2; omega
end Go.Proofs.Ytkjoonmnedofiaa.Draw

/- Numbers out of a code, as the laws take them; bools as numbers. -/
namespace Go.Proofs.Ytkjoonmnedofiaa.Draw
set_option linter.unusedVariables false
open Go.RowKit Go.Proofs.Ytkjoonmnedofiaa.Base Go.Proofs.Ytkjoonmnedofiaa.Cell

set_option maxRecDepth 100000 in
set_option maxHeartbeats 1000000 in
theorem at0 (w : World) (A : Option Addr) (len cap B : Nat) (h : len ≤ 1048576) (hr : Rd w B A len) :
    Calls Try.prog 14 #[.slice A len cap, .int .i64 0] w fun e w' => ∃ x : Int, (0 ≤ x ∧ x ≤ 255) ∧ e = .returned (.int .i64 x) ∧ w' = w := by
  by_cases h0 : len = 0
  · subst h0
    go_enter Try.func14, Try.ntmps14
    go_wp2
    go_ret
    exact ⟨0, ⟨by omega, by omega⟩, rfl, rfl⟩
  · obtain ⟨b, off, f, hA, hc⟩ := hr
    obtain ⟨hb, rfl⟩ := hA (by omega)
    obtain ⟨j, hj⟩ : ∃ j, j = 1 % len := ⟨_, rfl⟩
    have hjl : j < len := by rw [hj]; exact Nat.mod_lt _ (by omega)
    have hji : ((1 : Int) % (len : Int)) = (j : Int) := by rw [hj]; rfl
    obtain ⟨hcj, hf0, hf1⟩ := hc j hjl
    have hne : ((len : Int) == 0) = false := by simp; omega
    have hl0 : (len : Int) ≠ 0 := by omega
    have hl1 : (0 : Int) < (len : Int) := by omega
    have hb1 : (0 : Int) ≤ (j : Int) := by omega
    have hb2 : (j : Int) < (len : Int) := by omega
    clear hA hc hj
    generalize f j = v at hcj hf0 hf1
    go_enter Try.func14, Try.ntmps14
    go_wp2
    go_ret
    exact ⟨v, ⟨hf0, hf1⟩, by first | rfl | go_num, rfl⟩

set_option maxRecDepth 100000 in
set_option maxHeartbeats 1000000 in
theorem at1 (w : World) (A : Option Addr) (len cap B : Nat) (h : len ≤ 1048576) (hr : Rd w B A len) :
    Calls Try.prog 14 #[.slice A len cap, .int .i64 1] w fun e w' => ∃ x : Int, (0 ≤ x ∧ x ≤ 255) ∧ e = .returned (.int .i64 x) ∧ w' = w := by
  by_cases h0 : len = 0
  · subst h0
    go_enter Try.func14, Try.ntmps14
    go_wp2
    go_ret
    exact ⟨0, ⟨by omega, by omega⟩, rfl, rfl⟩
  · obtain ⟨b, off, f, hA, hc⟩ := hr
    obtain ⟨hb, rfl⟩ := hA (by omega)
    obtain ⟨j, hj⟩ : ∃ j, j = 6 % len := ⟨_, rfl⟩
    have hjl : j < len := by rw [hj]; exact Nat.mod_lt _ (by omega)
    have hji : ((6 : Int) % (len : Int)) = (j : Int) := by rw [hj]; rfl
    obtain ⟨hcj, hf0, hf1⟩ := hc j hjl
    have hne : ((len : Int) == 0) = false := by simp; omega
    have hl0 : (len : Int) ≠ 0 := by omega
    have hl1 : (0 : Int) < (len : Int) := by omega
    have hb1 : (0 : Int) ≤ (j : Int) := by omega
    have hb2 : (j : Int) < (len : Int) := by omega
    clear hA hc hj
    generalize f j = v at hcj hf0 hf1
    go_enter Try.func14, Try.ntmps14
    go_wp2
    go_ret
    exact ⟨v, ⟨hf0, hf1⟩, by first | rfl | go_num, rfl⟩

set_option maxRecDepth 100000 in
set_option maxHeartbeats 1000000 in
theorem at2 (w : World) (A : Option Addr) (len cap B : Nat) (h : len ≤ 1048576) (hr : Rd w B A len) :
    Calls Try.prog 14 #[.slice A len cap, .int .i64 2] w fun e w' => ∃ x : Int, (0 ≤ x ∧ x ≤ 255) ∧ e = .returned (.int .i64 x) ∧ w' = w := by
  by_cases h0 : len = 0
  · subst h0
    go_enter Try.func14, Try.ntmps14
    go_wp2
    go_ret
    exact ⟨0, ⟨by omega, by omega⟩, rfl, rfl⟩
  · obtain ⟨b, off, f, hA, hc⟩ := hr
    obtain ⟨hb, rfl⟩ := hA (by omega)
    obtain ⟨j, hj⟩ : ∃ j, j = 11 % len := ⟨_, rfl⟩
    have hjl : j < len := by rw [hj]; exact Nat.mod_lt _ (by omega)
    have hji : ((11 : Int) % (len : Int)) = (j : Int) := by rw [hj]; rfl
    obtain ⟨hcj, hf0, hf1⟩ := hc j hjl
    have hne : ((len : Int) == 0) = false := by simp; omega
    have hl0 : (len : Int) ≠ 0 := by omega
    have hl1 : (0 : Int) < (len : Int) := by omega
    have hb1 : (0 : Int) ≤ (j : Int) := by omega
    have hb2 : (j : Int) < (len : Int) := by omega
    clear hA hc hj
    generalize f j = v at hcj hf0 hf1
    go_enter Try.func14, Try.ntmps14
    go_wp2
    go_ret
    exact ⟨v, ⟨hf0, hf1⟩, by first | rfl | go_num, rfl⟩

end Go.Proofs.Ytkjoonmnedofiaa.Draw

/- Rectangle: the program's function and the model's give the same region, in new memory. -/
namespace Go.Proofs.Ytkjoonmnedofiaa.Reg
set_option linter.unusedVariables false
open Go.RowKit Go.Proofs.Ytkjoonmnedofiaa.Base Go.Proofs.Ytkjoonmnedofiaa.Pure Go.Proofs.Ytkjoonmnedofiaa.Cell Go.Joins

theorem filled_step (v : Int) (n k : Nat) (hk : k < n) : (ints (List.replicate k v) ++ List.replicate (n - k) (Value.int .i64 0)).set k (.int .i64 v) = ints (List.replicate (k + 1) v) ++ List.replicate (n - (k + 1)) (Value.int .i64 0) := by
  have hl : (ints (List.replicate k v)).length = k := by rw [ints_length, List.length_replicate]
  rw [List.set_append_right _ _ (by omega), hl, Nat.sub_self, show n - k = (n - (k + 1)) + 1 by omega, List.replicate_succ, List.set_cons_zero, List.replicate_succ' (n := k), ints_snoc, List.append_assoc]
  rfl
theorem row_value {k : Nat} (h1 : 1 ≤ k) (h8 : k ≤ 8) : wrap64 (wrap64 ((2 : Int) ^ k) - 1) = 2 ^ k - 1 := by
  have hcs : k = 1 ∨ k = 2 ∨ k = 3 ∨ k = 4 ∨ k = 5 ∨ k = 6 ∨ k = 7 ∨ k = 8 := by omega
  rcases hcs with rfl | rfl | rfl | rfl | rfl | rfl | rfl | rfl <;> (unfold wrap64; decide)

theorem row_value' {k : Nat} (h1 : 1 ≤ k) (h8 : k ≤ 8) : IntKind.i64.wrap (IntKind.i64.wrap ((2 : Int) ^ k) - 1) = 2 ^ k - 1 := by
  have hcs : k = 1 ∨ k = 2 ∨ k = 3 ∨ k = 4 ∨ k = 5 ∨ k = 6 ∨ k = 7 ∨ k = 8 := by omega
  rcases hcs with rfl | rfl | rfl | rfl | rfl | rfl | rfl | rfl <;> (rw [IntKind.wrap_i64, IntKind.wrap_i64]; decide)

theorem two_boxes (w : World) (o1 o2 : Obj) : ((w.alloc o1).alloc o2).heap[w.heap.size]? = some o1 ∧ ((w.alloc o1).alloc o2).heap[w.heap.size + 1]? = some o2 := by
  have h1 : (w.heap.push o1).size = w.heap.size + 1 := by simp
  constructor
  · show ((w.heap.push o1).push o2)[_]? = _
    rw [Array.getElem?_push_lt (by simp)]
    simp
  · show ((w.heap.push o1).push o2)[_]? = _
    rw [← h1]; exact Array.getElem?_push_size

/-- the result's box and the region's, in the model's Rectangle. -/
def SR (w : World) (v : Value) (W : World) : Prop :=
  Below w.heap.size w W ∧ w.heap.size + 2 ≤ W.heap.size ∧ W.heap[w.heap.size]? = some (.cells #[.slice none 0 0] 26) ∧ W.heap[w.heap.size + 1]? = some (.cells #[v] 26)
theorem SR.grown {w W W' : World} {v : Value} {row : Option Nat} (h : SR w v W) (hg : W.grownBy W' row) (hr : ∀ k, row = some k → w.heap.size + 2 ≤ k) : SR w v W' := by
  obtain ⟨a, b, c, d⟩ := h
  have hz := hg.size
  refine ⟨a.grown hg (by omega) (fun k hk => by have := hr k hk; omega), by omega, ?_, ?_⟩
  · rw [hg.block _ (by omega) (fun e => by have := hr _ e.symm; omega)]; exact c
  · rw [hg.block _ (by omega) (fun e => by have := hr _ e.symm; omega)]; exact d
theorem SR.alloc {w W : World} {v : Value} (h : SR w v W) (o : Obj) : SR w v (W.alloc o) := h.grown (World.grownBy_alloc W o none) (by simp)
theorem SR.drew {w W : World} {v : Value} (h : SR w v W) : SR w v W.drew := ⟨h.1.drew, h.2⟩
theorem SR.store {w W : World} {v : Value} (h : SR w v W) (u : Value) : SR w u (W.setCell ⟨w.heap.size + 1, 0, none⟩ u) := by
  obtain ⟨a, b, c, d⟩ := h
  refine ⟨a.setCell (by show w.heap.size ≤ w.heap.size + 1; omega) _, by simpa [World.setCell] using b, ?_, ?_⟩
  · exact (Below.heap_setCell W _ _ _ (by show w.heap.size ≠ w.heap.size + 1; omega)).trans c
  · have := block_setCell d u (i := 0)
    rw [this]; rfl

set_option maxRecDepth 100000 in
set_option maxHeartbeats 2000000 in
theorem sRectIn (w : World) (k n : Nat) (h1 : 1 ≤ k) (h8 : k ≤ 8) (n1 : 1 ≤ n) (n8 : n ≤ 8) :
    Calls Try.prog 78 #[.int .i64 (k : Int), .int .i64 (n : Int)] w (RegPost (List.replicate n (2 ^ k - 1)) n w) := by
  obtain ⟨i0, hi, hz0, hz1, hz2⟩ := info_parts intInfo
  have hv := row_value h1 h8
  have HX := Lib.hid (row_value' h1 h8)
  obtain ⟨v, hvv⟩ : ∃ v, v = (2 : Int) ^ k - 1 := ⟨_, rfl⟩
  rw [← hvv] at hv HX ⊢
  clear hvv
  have HS := Lib.hid (show SR w (.slice none 0 0) ((w.alloc (.cells #[.slice none 0 0] 26)).alloc (.cells #[.slice none 0 0] 26)) from ⟨below_alloc2 w _ _, by simp, (two_boxes w _ _).1, (two_boxes w _ _).2⟩)
  have HI := Lib.hid (fun W => l01In (k : Int) 1 8 W)
  have HJ := Lib.hid (fun W => l01In (n : Int) 1 8 W)
  rw [inB_of (by omega)] at HI HJ
  go_enter Try.func78, Try.ntmps78
  go_wp2_with fail
  go_loopw [6] (fun i wr => ∃ (j : Nat) (u : Value), j ≤ n ∧ i = .int .i64 j ∧ wr.ownsRow (w.heap.size + 2) 3 1 u j (ints (List.replicate j v)) ∧ SR w u wr) (fun i _ => n - (intOf i).toNat)
  case atStart => exact ⟨0, .slice none 0 0, Nat.zero_le _, rfl, World.ownsRow_nil _ _ _ _, HS.out⟩
  case round =>
    clear HS
    obtain ⟨j, u, hj, rfl, hown, hs⟩ := hrel
    have hsz := hs.2.1
    by_cases hlt : j < n
    · obtain ⟨c1, f1⟩ := cellAt hs.2.2.2 0
      have HSR := Lib.hid hs
      have HOwn := Lib.hid hown
      clear hown hs
      go_wp2_with fail
      refine (HI.out _).mono ?_
      rintro e w1 ⟨rfl, rfl⟩
      go_wp2_with fail
      refine (HJ.out _).mono ?_
      rintro e w2 ⟨rfl, rfl⟩
      have ca : ∀ o, (w2.alloc o).cell? ⟨w.heap.size + 1, 0, none⟩ = some u := fun o => (cellAt (HSR.out.alloc o).2.2.2 0).1.trans rfl
      have fa : ∀ o, (w2.alloc o).frozen? ⟨w.heap.size + 1, 0, none⟩ = false := fun o => (cellAt (HSR.out.alloc o).2.2.2 0).2
      go_wp2_with fail
      go_region_law (first | (refine step_append_lies _ (by rfl) _ _ _ (by rfl) (w.heap.size + 2) 3 i0 _ 1 8 Try.underlying24 hi hz0 hz1 hz2 rfl (by omega) u j (ints (List.replicate j v)) (by rfl) ((HOwn.out.alloc _).drew) ⟨w2.heap.size, 0, none⟩ 1 1 [.int .i64 (IntKind.i64.wrap (IntKind.i64.wrap (2 ^ k) - 1))] (by rfl) (by rfl) (World.news_of_block (cs := #[.int .i64 (IntKind.i64.wrap (IntKind.i64.wrap (2 ^ k) - 1))]) (t := 3) (fr := (0, 0)) (heap_alloc_new w2 _)) (by simp [Value.oneCell']) (by omega) (by unfold maxLen; omega) (by omega) (by simp; omega) (w2.heap.size + 1) (by simp) ?_; intro gg cap w3 hown3 hgrow hat hlt3; obtain ⟨d1, g1⟩ := cellAt (((HSR.out.alloc (.cells #[.int .i64 (IntKind.i64.wrap (IntKind.i64.wrap (2 ^ k) - 1))] 3)).drew.grown hgrow (fun q hq => (HOwn.out.lt q hq).1)).2.2.2) 0))
      all_goals
        have hX := HX.out
        rw [hX] at hown3 hgrow
        have hs4 := Lib.hid (((SR.drew (HSR.out.alloc _)).grown hgrow (fun q hq => (HOwn.out.lt q hq).1)).store (.slice (some ⟨gg, 0, none⟩) (j + 1) cap))
        have R := Lib.hid (show (w3.setCell ⟨w.heap.size + 1, 0, none⟩ (.slice (some ⟨gg, 0, none⟩) (j + 1) cap)).ownsRow (w.heap.size + 2) 3 1 (.slice (some ⟨gg, 0, none⟩) (j + 1) cap) (j + 1) (ints (List.replicate (j + 1) v)) by
          rw [List.replicate_succ' (n := j), ints_snoc]
          exact ownsRow_setCell_below hown3 (by show w.heap.size + 1 < w.heap.size + 2; omega) _)
        clear hown3 hgrow hat d1 g1 hX HOwn HSR ca fa c1 f1 hlt3
        go_wp2
        go_roundw
        case rel => exact ⟨j + 1, _, by omega, by go_num, R.out, hs4.out⟩
        case measure => (simp [intOf] <;> omega)
    · obtain rfl : j = n := by omega
      obtain ⟨A, cap, rfl⟩ := own_shape hown
      obtain ⟨c1, f1⟩ := cellAt hs.2.2.2 0
      obtain ⟨c2, f2⟩ := cellAt hs.2.2.1 0
      have HSR := Lib.hid hs
      have HOwn := Lib.hid hown
      clear hown hs
      go_wp2
      have hres := World.cell?_setCell_same (w := wr) ⟨w.heap.size, 0, none⟩ (.slice A j cap) (u := .slice none 0 0) c2
      refine bodyPost_ret (v := .agg #[.slice A j cap]) (by simp [results, Try.results78, go_sem, hres]) rfl ⟨A, cap, rfl, ?_, HSR.out.1.setCell (Nat.le_refl _) _⟩
      exact own_base (ownsRow_setCell_below HOwn.out (by show w.heap.size < w.heap.size + 2; omega) _) (by omega)

set_option maxRecDepth 100000 in
set_option maxHeartbeats 2000000 in
theorem sRectOut (w : World) (a b : Int) (h : ¬ (1 ≤ a ∧ a ≤ 8 ∧ 1 ≤ b ∧ b ≤ 8)) :
    Calls Try.prog 78 #[.int .i64 a, .int .i64 b] w (RegPost [] 0 w) := by
  have HS := Lib.hid (show SR w (.slice none 0 0) ((w.alloc (.cells #[.slice none 0 0] 26)).alloc (.cells #[.slice none 0 0] 26)) from ⟨below_alloc2 w _ _, by simp, (two_boxes w _ _).1, (two_boxes w _ _).2⟩)
  have HI := Lib.hid (fun W => l01In a 1 8 W)
  have HJ := Lib.hid (fun W => l01In b 1 8 W)
  have HR := Lib.hid (fun (W : World) (hW : Below w.heap.size w W) => (show RegPost [] 0 w (.returned (.agg #[.slice none 0 0])) W from ⟨none, 0, rfl, World.ownsRow_nil _ _ _ _, hW⟩))
  have hab : inB a 1 8 = false ∨ inB a 1 8 = true ∧ inB b 1 8 = false := by
    by_cases k : 1 ≤ a ∧ a ≤ 8
    · exact .inr ⟨inB_of k, inB_not fun q => h ⟨k.1, k.2, q.1, q.2⟩⟩
    · exact .inl (inB_not k)
  generalize inB a 1 8 = x at HI hab
  generalize inB b 1 8 = y at HJ hab
  clear h
  go_enter Try.func78, Try.ntmps78
  go_wp2_with fail
  go_loopw [6] (fun i wr => i = .int .i64 0 ∧ SR w (.slice none 0 0) wr) (fun i _ => (intOf i).toNat)
  case atStart => exact ⟨rfl, HS.out⟩
  case round =>
    clear HS
    obtain ⟨rfl, hs⟩ := hrel
    obtain ⟨c1, f1⟩ := cellAt hs.2.2.2 0
    obtain ⟨c2, f2⟩ := cellAt hs.2.2.1 0
    have HSR := Lib.hid hs
    have hres := World.cell?_setCell_same (w := wr) ⟨w.heap.size, 0, none⟩ (.slice none 0 0) (u := .slice none 0 0) c2
    clear hs
    by_cases hb : 0 < b
    · go_wp2_with fail
      refine (HI.out _).mono ?_
      rintro e w1 ⟨rfl, rfl⟩
      rcases hab with rfl | ⟨rfl, rfl⟩
      · go_wp2
        refine bodyPost_ret (v := .agg #[.slice none 0 0]) (by simp [results, Try.results78, go_sem, hres]) rfl (HR.out _ (HSR.out.1.setCell (Nat.le_refl _) _))
      · go_wp2_with fail
        refine (HJ.out _).mono ?_
        rintro e w2 ⟨rfl, rfl⟩
        go_wp2
        refine bodyPost_ret (v := .agg #[.slice none 0 0]) (by simp [results, Try.results78, go_sem, hres]) rfl (HR.out _ (HSR.out.1.setCell (Nat.le_refl _) _))
    · go_wp2
      refine bodyPost_ret (v := .agg #[.slice none 0 0]) (by simp [results, Try.results78, go_sem, hres]) rfl (HR.out _ (HSR.out.1.setCell (Nat.le_refl _) _))

theorem rect_nat {a b : Int} (h : 1 ≤ a ∧ a ≤ 8 ∧ 1 ≤ b ∧ b ≤ 8) : ∃ k n : Nat, a = (k : Int) ∧ b = (n : Int) ∧ 1 ≤ k ∧ k ≤ 8 ∧ 1 ≤ n ∧ n ≤ 8 ∧ rectR a b = List.replicate n (2 ^ k - 1) := by
  refine ⟨a.toNat, b.toNat, by omega, by omega, by omega, by omega, by omega, by omega, ?_⟩
  rw [rectR_in h]
theorem sRectangle (w : World) (a b : Int) :
    Calls Try.prog 78 #[.int .i64 a, .int .i64 b] w (RegPost (rectR a b) (rectR a b).length w) := by
  by_cases h : 1 ≤ a ∧ a ≤ 8 ∧ 1 ≤ b ∧ b ≤ 8
  · obtain ⟨k, n, rfl, rfl, h1, h2, h3, h4, he⟩ := rect_nat h
    rw [he, List.length_replicate]
    exact sRectIn w k n h1 h2 h3 h4
  · rw [rectR_out h]
    exact sRectOut w a b h
end Go.Proofs.Ytkjoonmnedofiaa.Reg

/- WithCell, the program's: a region with a cell put in or taken out, in new memory. -/
namespace Go.Proofs.Ytkjoonmnedofiaa.Reg
set_option linter.unusedVariables false
open Go.RowKit Go.Proofs.Ytkjoonmnedofiaa.Base Go.Proofs.Ytkjoonmnedofiaa.Pure Go.Proofs.Ytkjoonmnedofiaa.Cell Go.Joins

/-- the region with a cell or without it; the same region if one of the two is not valid. -/
def withX (xs : List Int) (x y : Int) (on : Bool) : List Int := if okR xs ∧ Ok x y then withR xs x.toNat y.toNat on else xs
def withB (xs : List Int) (x y : Int) : Bool := decide (okR xs ∧ Ok x y)
theorem withX_in {xs : List Int} {x y : Nat} (ho : okR xs) (hx : x < 8) (hy : y < 8) (on : Bool) : withX xs (x : Int) (y : Int) on = withR xs x y on ∧ withB xs (x : Int) (y : Int) = true := by
  have hk : okR xs ∧ Ok (x : Int) (y : Int) := ⟨ho, by unfold Ok; omega⟩
  unfold withX withB
  rw [if_pos hk, Int.toNat_natCast, Int.toNat_natCast]
  exact ⟨rfl, decide_eq_true hk⟩
theorem withX_out {xs : List Int} {x y : Int} (h : ¬ (okR xs ∧ Ok x y)) (on : Bool) : withX xs x y on = xs ∧ withB xs x y = false := by
  unfold withX withB
  rw [if_neg h]
  exact ⟨rfl, decide_eq_false h⟩
/-- an answer: a region in memory of the call's own, and a bool. -/
def WithPost (xs : List Int) (n : Nat) (b : Bool) (w : World) (e : Ending) (w' : World) : Prop :=
  ∃ A cap, e = .returned (.tuple #[.agg #[.slice A n cap], .bool b]) ∧ w'.ownsRow w.heap.size 3 1 (.slice A n cap) n (ints xs) ∧ Below w.heap.size w w'
theorem padded (xs : List Int) (h : xs.length ≤ 8) : splice (List.replicate 8 (Value.int .i64 0)) 0 (ints xs) = ints (pad8 xs) := by
  unfold splice pad8
  rw [List.take_zero, List.nil_append, Nat.zero_add, List.drop_replicate, ints_length]
  unfold ints
  rw [List.map_append, List.map_replicate]
theorem own_full {w : World} {base e n g : Nat} {xs : List Value} (h : w.ownsRow base e 1 (.slice (some ⟨g, 0, none⟩) n n) n xs) : w.heap[g]? = some (.cells xs.toArray e (0, 0)) := by
  rcases h.2 with ⟨h', _⟩ | ⟨g', cap', cur, h', _, hg, _, _, hcs, htake⟩
  · simp at h'
  · simp only [Value.slice.injEq, Option.some.injEq, Addr.mk.injEq, and_true, true_and] at h'
    obtain ⟨rfl, rfl⟩ := h'
    rw [hg]
    have : cur = xs.toArray := by
      rw [← htake, List.take_of_length_le (by rw [Array.length_toList]; omega)]
    rw [this]
theorem pow_wrap {x : Nat} (hx : x < 8) : wrap64 ((2 : Int) ^ x) = 2 ^ x ∧ IntKind.i64.wrap ((2 : Int) ^ x) = 2 ^ x := by
  have hcs : x = 0 ∨ x = 1 ∨ x = 2 ∨ x = 3 ∨ x = 4 ∨ x = 5 ∨ x = 6 ∨ x = 7 := by omega
  rcases hcs with rfl | rfl | rfl | rfl | rfl | rfl | rfl | rfl <;> exact ⟨by unfold wrap64; decide, by rw [IntKind.wrap_i64]; decide⟩
/-- three boxes of a call's own at its beginning: the region's, the cell's, the answer's. -/
def RW3 (w : World) (v : Value) (x y : Int) (u : Value) (W : World) : Prop :=
  Below w.heap.size w W ∧ w.heap.size + 3 ≤ W.heap.size ∧ W.heap[w.heap.size]? = some (.cells #[v] 26) ∧ W.heap[w.heap.size + 1]? = some (.cells #[.int .i64 x, .int .i64 y] 35) ∧ W.heap[w.heap.size + 1 + 1]? = some (.cells #[u] 26)
section
variable {w W W' : World} {v : Value} {x y : Int} {u : Value}
theorem rw3_start (w : World) (v : Value) (x y : Int) (u : Value) : RW3 w v x y u (((w.alloc (.cells #[v] 26)).alloc (.cells #[.int .i64 x, .int .i64 y] 35)).alloc (.cells #[u] 26)) := by
  obtain ⟨a, b, c⟩ := three (w := w) (Below.refl _ (((w.alloc (.cells #[v] 26)).alloc (.cells #[.int .i64 x, .int .i64 y] 35)).alloc (.cells #[u] 26)))
  exact ⟨below_alloc3 _ _ _ _, by simp, a, b, c⟩
theorem RW3.on {B : Nat} (h : RW3 w v x y u W) (hb : Below B W W') (hB : w.heap.size + 3 ≤ B) : RW3 w v x y u W' := by
  obtain ⟨a, b, c, d, e⟩ := h
  have hz := hb.size
  exact ⟨a.trans (hb.mono (by omega)), by omega, (hb.block _ (by omega)).trans c, (hb.block _ (by omega)).trans d, (hb.block _ (by omega)).trans e⟩
theorem RW3.cells (h : RW3 w v x y u W) : W.cell? ⟨w.heap.size, 0, none⟩ = some v ∧ W.cell? ⟨w.heap.size + 1, 0, none⟩ = some (.int .i64 x) ∧ W.cell? ⟨w.heap.size + 1, 1, none⟩ = some (.int .i64 y) ∧ W.cell? ⟨w.heap.size + 1 + 1, 0, none⟩ = some u ∧ W.frozen? ⟨w.heap.size + 1 + 1, 0, none⟩ = false := by
  obtain ⟨_, _, c, d, e⟩ := h
  exact ⟨(cellAt c 0).1.trans rfl, (cellAt d 0).1.trans rfl, (cellAt d 1).1.trans rfl, (cellAt e 0).1.trans rfl, (cellAt e 0).2⟩
end
theorem rowB_src {w : World} {B : Nat} {A : Option Addr} {xs : List Int} (h : RowB w B A xs) (h0 : 0 < (ints xs).length) : ∃ ad, A = some ad ∧ ∀ j v, (ints xs)[j]? = some v → w.cell? (ad.add j) = some v := by
  rw [ints_length] at h0
  obtain ⟨b, off, h1, h2⟩ := h
  refine ⟨⟨b, off, none⟩, (h1 h0).1, fun j v hv => ?_⟩
  unfold ints at hv
  rw [List.getElem?_map] at hv
  obtain ⟨x, hx, rfl⟩ := Option.map_eq_some_iff.1 hv
  rw [show (⟨b, off, none⟩ : Addr).add j = ⟨b, off + j, none⟩ by unfold Addr.add; split <;> simp_all]
  exact h2 j x hx
theorem rowB_src' {w : World} {B : Nat} {ad : Addr} {xs : List Int} (h : RowB w B (some ad) xs) : ∀ j v, (ints xs)[j]? = some v → w.cell? (ad.add j) = some v := by
  intro j v hv
  have h0 : 0 < (ints xs).length := by
    rcases Nat.eq_zero_or_pos (ints xs).length with k | k
    · rw [List.eq_nil_of_length_eq_zero k] at hv; simp at hv
    · exact k
  obtain ⟨ad', ha, hc⟩ := rowB_src h h0
  injection ha with ha
  subst ha
  exact hc j v hv
theorem own_of_block {w : World} {base e g n : Nat} {xs : List Value} (hg : w.heap[g]? = some (.cells xs.toArray e (0, 0))) (hn : xs.length = n) (hb : base ≤ g) (hm : n ≤ maxLen) : w.ownsRow base e 1 (.slice (some ⟨g, 0, none⟩) n n) n xs :=
  ⟨by omega, .inr ⟨g, n, xs.toArray, rfl, hb, hg, Nat.le_refl _, hm, by rw [Nat.mul_one, ← hn]; simp, by rw [Nat.mul_one, ← hn]; simp⟩⟩
theorem ints_oneCell (xs : List Int) : ∀ v ∈ ints xs, v.oneCell' = true := by
  intro v hv
  unfold ints at hv
  obtain ⟨x, _, rfl⟩ := List.mem_map.1 hv
  rfl
theorem row_cell {w : World} {base n g cap : Nat} {ys : List Int} (h : w.ownsRow base 3 1 (.slice (some ⟨g, 0, none⟩) n cap) n (ints ys)) {y : Nat} (hy : y < n) : w.cell? ⟨g, y, none⟩ = some (.int .i64 (rowD ys y)) ∧ w.frozen? ⟨g, y, none⟩ = false := by
  have hl : ys.length = n := by have := h.1; rw [ints_length] at this; omega
  refine ⟨?_, h.frozenAt y⟩
  rw [h.cellAt y (by omega)]
  exact ints_at (by rw [rowD_at (List.getElem?_eq_getElem (by omega))]; exact List.getElem?_eq_getElem (by omega))
/-- the end of both functions: the answer's box is written and read. -/
theorem with_end {w W : World} {v u : Value} {x y : Int} {A : Option Addr} {m cap : Nat} {ys : List Int} {b : Bool} (h : RW3 w v x y u W) (ho : W.ownsRow (w.heap.size + 3) 3 1 (.slice A m cap) m (ints ys)) :
    (W.setCell ⟨w.heap.size + 1 + 1, 0, none⟩ (.slice A m cap)).cell? ⟨w.heap.size + 1 + 1, 0, none⟩ = some (.slice A m cap) ∧ WithPost ys m b w (.returned (.tuple #[.agg #[.slice A m cap], .bool b])) (W.setCell ⟨w.heap.size + 1 + 1, 0, none⟩ (.slice A m cap)) := by
  refine ⟨World.cell?_setCell_same (w := W) _ _ h.cells.2.2.2.1, A, cap, rfl, ?_, h.1.setCell (by show w.heap.size ≤ w.heap.size + 1 + 1; omega) _⟩
  exact own_base (ownsRow_setCell_below ho (by show w.heap.size + 1 + 1 < w.heap.size + 3; omega) _) (by omega)

end Go.Proofs.Ytkjoonmnedofiaa.Reg

/- The model's draw of a valid region: a rectangle, some of whose cells are taken out, with two cells at one row's end or without. -/
namespace Go.Proofs.Ytkjoonmnedofiaa.Draw
set_option linter.unusedVariables false
open Go.RowKit Go.Proofs.Ytkjoonmnedofiaa.Base Go.Proofs.Ytkjoonmnedofiaa.Pure Go.Proofs.Ytkjoonmnedofiaa.Cell Go.Proofs.Ytkjoonmnedofiaa.Reg Go.Joins

theorem Cur.later {w w' : World} {B g : Nat} {A : Option Addr} {len cap : Nat} (h : Cur w B g A len cap) {row : Option Nat} (hg : w.grownBy w' row) (hr : row ≠ some g) (hB : ∀ k, row = some k → B ≤ k) : Cur w' B g A len cap := by
  obtain ⟨hBg, hlen, hrd, i, x, hi, hbl⟩ := h
  have hgs := (Array.getElem?_eq_some_iff.1 hbl).1
  refine ⟨hBg, hlen, ?_, i, x, hi, (hg.block g hgs (fun e => hr e.symm)).trans hbl⟩
  obtain ⟨b, off, f, hA, hc⟩ := hrd
  refine ⟨b, off, f, hA, fun j hj => ⟨?_, (hc j hj).2⟩⟩
  have hb := (hA (by omega)).1
  rw [World.cell?_of_block (w := w) (w' := w') (a := ⟨b, off + j, none⟩) (hg.block b (by omega) (fun e => by have := hB b e.symm; omega))]
  exact (hc j hj).1
theorem grown_below {w w' : World} (h : Below w.heap.size w w') (row : Option Nat) : w.grownBy w' row := ⟨h.os, h.tape, h.output, h.size, fun i hi _ => h.block i hi⟩

set_option maxHeartbeats 400000 in
theorem once (w : World) (B g : Nat) (A : Option Addr) (len cap : Nat) (n : Int) (h0 : Cur w B g A len cap) :
    Calls Try.prog 87 #[.pointer (some ⟨g, 0, none⟩), .int .i64 n] w fun e w' => ∃ b : Bool, e = .returned (.bool b) ∧ Cur w' B g A len cap ∧ w.grownBy w' (some g) := by
  have HB := Lib.hid (below w B g A len cap n h0)
  clear h0
  go_enter Try.func87, Try.ntmps87
  go_wp2_with fail
  refine HB.out.mono ?_
  rintro e w1 ⟨x, _, rfl, hc, hg⟩
  have HC := Lib.hid hc
  clear hc
  go_wp2
  go_ret
  exact ⟨_, rfl, HC.out, hg⟩

/-- rows of at most six cells. -/
def Rng (ys : List Int) : Prop := ∀ r ∈ ys, 0 ≤ r ∧ r ≤ 63
theorem rng_at {ys : List Int} (h : Rng ys) {y : Nat} (hy : y < ys.length) : 0 ≤ rowD ys y ∧ rowD ys y ≤ 63 := by
  rw [rowD_at (List.getElem?_eq_getElem hy)]; exact h _ (List.getElem_mem hy)
theorem rng_set {ys : List Int} (h : Rng ys) {y : Nat} {v : Int} (h0 : 0 ≤ v) (h1 : v ≤ 63) : Rng (ys.set y v) := by
  intro r hr
  rcases List.mem_or_eq_of_mem_set hr with k | rfl
  · exact h r k
  · exact ⟨h0, h1⟩
theorem ok_of_rng {ys : List Int} (h : Rng ys) (hl : ys.length ≤ 8) : okR ys := ⟨hl, fun r hr => by have := h r hr; omega⟩
theorem ok_set {ys : List Int} (h : Rng ys) (hl : ys.length ≤ 8) {y : Nat} {v : Int} (h0 : 0 ≤ v) (h1 : v ≤ 255) : okR (ys.set y v) := by
  refine ⟨by rw [List.length_set]; exact hl, fun r hr => ?_⟩
  rcases List.mem_or_eq_of_mem_set hr with k | rfl
  · have := h r k; omega
  · exact ⟨h0, h1⟩
theorem rng_rect {k n : Nat} (h1 : 1 ≤ k) (h6 : k ≤ 6) : Rng (List.replicate n ((2 : Int) ^ k - 1)) := by
  intro r hr
  rw [(List.mem_replicate.1 hr).2]
  have hcs : k = 1 ∨ k = 2 ∨ k = 3 ∨ k = 4 ∨ k = 5 ∨ k = 6 := by omega
  rcases hcs with rfl | rfl | rfl | rfl | rfl | rfl <;> decide
theorem or_table : ∀ r : Fin 64, ∀ k : Fin 6, 0 ≤ bits .or .i64 ((r.val : Nat) : Int) (3 * 2 ^ k.val) ∧ bits .or .i64 ((r.val : Nat) : Int) (3 * 2 ^ k.val) ≤ 255 := by decide +kernel
theorem or_in {r : Int} (h0 : 0 ≤ r) (h1 : r ≤ 63) {k : Nat} (hk : k < 6) : 0 ≤ bits .or .i64 r (3 * 2 ^ k) ∧ bits .or .i64 r (3 * 2 ^ k) ≤ 255 := by
  have h := or_table ⟨r.toNat, by omega⟩ ⟨k, hk⟩
  have e : ((r.toNat : Nat) : Int) = r := Int.toNat_of_nonneg h0
  simp only [e] at h
  exact h
theorem wrap3 {k : Nat} (hk : k < 6) : IntKind.i64.wrap (3 * (2 : Int) ^ k) = 3 * 2 ^ k := by
  have hcs : k = 0 ∨ k = 1 ∨ k = 2 ∨ k = 3 ∨ k = 4 ∨ k = 5 := by omega
  rcases hcs with rfl | rfl | rfl | rfl | rfl | rfl <;> (rw [IntKind.wrap_i64]; decide)
theorem wrap3' {k : Nat} (hk : k < 6) : wrap64 (3 * (2 : Int) ^ k) = 3 * 2 ^ k := by
  have hcs : k = 0 ∨ k = 1 ∨ k = 2 ∨ k = 3 ∨ k = 4 ∨ k = 5 := by omega
  rcases hcs with rfl | rfl | rfl | rfl | rfl | rfl <;> (unfold wrap64; decide)
theorem put_le {r : Int} (h0 : 0 ≤ r) (h1 : r ≤ 63) {k : Nat} (hk : k < 8) (hb : bitB r k = true) : putB r k false = r - 2 ^ k ∧ 0 ≤ r - 2 ^ k ∧ r - 2 ^ k ≤ 63 := by
  have e : putB r k false = r - 2 ^ k := by unfold putB; rw [hb]; rfl
  have t := table h0 (by omega) hk
  have h2 := t.2.2.2.2.2.2.2.1
  rw [e] at h2
  have hp : (0 : Int) ≤ 2 ^ k := Int.pow_nonneg (by decide)
  exact ⟨e, h2, by omega⟩

/-- the state: the cursor; the answer's box at w's end; the region in a box p. -/
def DS (w : World) (B g : Nat) (A : Option Addr) (len cap p : Nat) (va : Value) (k : Nat) (ys : List Int) (W : World) : Prop :=
  (Cur W B g A len cap ∧ g < w.heap.size) ∧ w.grownBy W (some g) ∧ W.heap[w.heap.size]? = some (.cells #[.slice none 0 0] 26) ∧ W.heap[p]? = some (.cells #[va] 26) ∧ w.heap.size < p ∧ W.ownsRow (w.heap.size + 1) 3 1 va k (ints ys) ∧ va.ownBlock ≠ some p
section
variable {w : World} {B g : Nat} {A : Option Addr} {len cap p : Nat} {va : Value} {k : Nat} {ys : List Int} {W W' : World}
theorem DS.on (h : DS w B g A len cap p va k ys W) (hc : Cur W' B g A len cap) (hg : W.grownBy W' (some g)) : DS w B g A len cap p va k ys W' := by
  obtain ⟨⟨a, a2⟩, b, c, d, e, f, f2⟩ := h
  have hpl := (Array.getElem?_eq_some_iff.1 d).1
  have hrl := (Array.getElem?_eq_some_iff.1 c).1
  refine ⟨⟨hc, a2⟩, grown_trans b hg, (hg.block _ hrl (fun q => by injection q; omega)).trans c, (hg.block _ hpl (fun q => by injection q; omega)).trans d, e, f.kept hg (.inr (fun q => ?_)), f2⟩
  have := (f.lt g q).1
  omega
theorem DS.cells (h : DS w B g A len cap p va k ys W) : W.cell? ⟨p, 0, none⟩ = some va ∧ W.cell? ⟨w.heap.size, 0, none⟩ = some (.slice none 0 0) ∧ W.frozen? ⟨w.heap.size, 0, none⟩ = false :=
  ⟨(cellAt h.2.2.2.1 0).1.trans rfl, (cellAt h.2.2.1 0).1.trans rfl, (cellAt h.2.2.1 0).2⟩
theorem DS.drew (h : DS w B g A len cap p va k ys W) : DS w B g A len cap p va k ys W.drew := by
  obtain ⟨⟨a, a2⟩, b, r⟩ := h
  exact ⟨⟨a, a2⟩, ⟨b.os, b.tape, b.output, b.size, b.block⟩, r⟩
theorem DS.put {gg cc j : Nat} {z : Int} (h : DS w B g A len cap p (.slice (some ⟨gg, 0, none⟩) k cc) k ys W) : DS w B g A len cap p (.slice (some ⟨gg, 0, none⟩) k cc) k (ys.set j z) (W.setCell ⟨gg, j, none⟩ (.int .i64 z)) := by
  obtain ⟨⟨a, a2⟩, b, c, d, e, f, f2⟩ := h
  have hgg := (f.lt gg rfl).1
  have hne : gg ≠ p := fun q => f2 (by rw [← q]; rfl)
  have hs := f.stored j (.int .i64 z)
  refine ⟨⟨a.later hs.2 (fun q => by injection q; omega) (fun q hq => by injection hq with hq; have := a.1; omega), a2⟩, ?_, (Below.heap_setCell W _ _ _ (by show w.heap.size ≠ gg; omega)).trans c, (Below.heap_setCell W _ _ _ (fun q => hne q.symm)).trans d, e, ?_, f2⟩
  · exact ⟨b.os, b.tape, b.output, by have := b.size; simpa [World.setCell] using this, fun i hi hne => (Below.heap_setCell W _ _ _ (by show i ≠ gg; omega)).trans (b.block i hi hne)⟩
  · rw [← ints_set]; exact hs.1
end

/-- a drawn region: valid, in memory of the call's own. -/
def DrewR (w : World) (B g : Nat) (A : Option Addr) (len cap : Nat) (e : Ending) (w' : World) : Prop :=
  ∃ (ys : List Int) (A2 : Option Addr) (n c2 : Nat), Hid (okR ys) ∧ Hid (ys.length = n) ∧ e = .returned (.agg #[.slice A2 n c2]) ∧ w'.ownsRow w.heap.size 3 1 (.slice A2 n c2) n (ints ys) ∧ w.grownBy w' (some g) ∧ 1 ≤ n ∧ Cur w' B g A len cap
theorem Cur.setCell {W : World} {B g : Nat} {A : Option Addr} {len cap : Nat} {p : Addr} (h : Cur W B g A len cap) (hp : B ≤ p.block) (hne : g ≠ p.block) (u : Value) : Cur (W.setCell p u) B g A len cap := by
  obtain ⟨hBg, hlen, hrd, i, x, hi, hbl⟩ := h
  exact ⟨hBg, hlen, hrd.below ((Below.refl B W).setCell hp u), i, x, hi, (Below.heap_setCell W p u g hne).trans hbl⟩

theorem region_end {w : World} {B g : Nat} {A : Option Addr} {len cap p : Nat} {A2 : Option Addr} {n c2 : Nat} {ys : List Int} {W : World} (h : DS w B g A len cap p (.slice A2 n c2) n ys W) (ho : Hid (okR ys)) (hl : Hid (ys.length = n)) (h1 : 1 ≤ n) :
    (W.setCell ⟨w.heap.size, 0, none⟩ (.slice A2 n c2)).cell? ⟨w.heap.size, 0, none⟩ = some (.slice A2 n c2) ∧ DrewR w B g A len cap (.returned (.agg #[.slice A2 n c2])) (W.setCell ⟨w.heap.size, 0, none⟩ (.slice A2 n c2)) := by
  refine ⟨World.cell?_setCell_same (w := W) _ _ h.cells.2.1, ys, A2, n, c2, ho, hl, rfl, ?_, ?_, h1, h.1.1.setCell (by have := h.1.1.lt; have := h.1.2; show B ≤ w.heap.size; omega) (by have := h.1.2; show g ≠ w.heap.size; omega) _⟩
  · exact own_base (ownsRow_setCell_below h.2.2.2.2.2.1 (by show w.heap.size < w.heap.size + 1; omega) _) (by omega)
  · have b := h.2.1
    exact ⟨b.os, b.tape, b.output, by have := b.size; simpa [World.setCell] using this, fun i hi hne => (Below.heap_setCell W _ _ _ (by show i ≠ w.heap.size; omega)).trans (b.block i hi hne)⟩

set_option maxRecDepth 100000 in
set_option maxHeartbeats 4000000 in
theorem region (w : World) (B g : Nat) (A : Option Addr) (len cap : Nat) (h0 : Cur w B g A len cap) :
    Calls Try.prog 76 #[.pointer (some ⟨g, 0, none⟩)] w (DrewR w B g A len cap) := by
  have HCur := Lib.hid h0
  have hgw := h0.lt
  have HD := Lib.hid (fun W n (hc : Cur W B g A len cap) => below W B g A len cap n hc)
  have HOn := Lib.hid (fun W n (hc : Cur W B g A len cap) => once W B g A len cap n hc)
  have HA0 := Lib.hid (h0.alloc (.cells #[.slice none 0 0] 26))
  have HG0 := Lib.hid (show w.grownBy (w.alloc (.cells #[.slice none 0 0] 26)) (some g) from World.grownBy_alloc w _ _)
  have HR0 := Lib.hid (heap_alloc_new w (.cells #[.slice none 0 0] 26))
  have HZ0 := Lib.hid (show (w.alloc (.cells #[.slice none 0 0] 26)).heap.size = w.heap.size + 1 by simp)
  clear h0 HCur
  go_enter Try.func76, Try.ntmps76
  go_wp2_with fail
  refine (HD.out _ 6 HA0.out).mono ?_
  rintro e w1 ⟨x1, hx1, rfl, hc1, hg1⟩
  have hb1 := hx1.2 (by omega)
  have HC1 := Lib.hid hc1
  have HG1 := Lib.hid (grown_trans HG0.out hg1)
  have HR1 := Lib.hid ((hg1.block w.heap.size (by rw [HZ0.out]; omega) (by intro q; injection q; omega)).trans HR0.out)
  have HZ1 := Lib.hid (show w.heap.size + 1 ≤ w1.heap.size by have := hg1.size; rw [HZ0.out] at this; exact this)
  clear hc1 hg1 hx1 HA0 HG0 HR0 HZ0
  obtain ⟨a, rfl, ha⟩ : ∃ a : Nat, x1 = (a : Int) ∧ a < 6 := ⟨x1.toNat, by omega, by omega⟩
  clear hb1
  go_wp2_with fail
  refine (HD.out _ 5 HC1.out).mono ?_
  rintro e w2 ⟨x2, hx2, rfl, hc2, hg2⟩
  have hb2 := hx2.2 (by omega)
  have HC2 := Lib.hid hc2
  have HG2 := Lib.hid (grown_trans HG1.out hg2)
  have HR2 := Lib.hid ((hg2.block w.heap.size (by have := HZ1.out; omega) (by intro q; injection q; omega)).trans HR1.out)
  have HZ2 := Lib.hid (show w.heap.size + 1 ≤ w2.heap.size by have := hg2.size; have := HZ1.out; omega)
  clear hc2 hg2 hx2 HC1 HG1 HR1 HZ1
  obtain ⟨c, rfl, hc⟩ : ∃ c : Nat, x2 = (c : Int) ∧ c < 5 := ⟨x2.toNat, by omega, by omega⟩
  clear hb2
  obtain ⟨kw, hkw⟩ : ∃ kw, kw = a + 1 := ⟨_, rfl⟩
  obtain ⟨kh, hkh⟩ : ∃ kh, kh = c + 1 := ⟨_, rfl⟩
  have ew : (1 : Int) + (a : Int) = (kw : Int) := by omega
  have eh : (1 : Int) + (c : Int) = (kh : Int) := by omega
  have hkw1 : 1 ≤ kw := by omega
  have hkw6 : kw ≤ 6 := by omega
  have hkh1 : 1 ≤ kh := by omega
  have hkh5 : kh ≤ 5 := by omega
  clear hkw hkh ha hc
  go_wp2_with fail
  refine (sRectIn w2 kw kh hkw1 (by omega) hkh1 (by omega)).mono ?_
  rintro e w3 ⟨A3, c3, rfl, hown3, hb3⟩
  have S0 := Lib.hid (show DS w B g A len cap w3.heap.size (.slice A3 kh c3) kh (List.replicate kh ((2 : Int) ^ kw - 1)) (w3.alloc (.cells #[.slice A3 kh c3] 26)) from by
    have hgr := grown_below hb3 (some g)
    have hz := hb3.size
    have hz2 := HZ2.out
    have hgl := HC2.out.lt
    have hown := own_base hown3 hz2
    have hal := below_alloc1 w3 (.cells #[.slice A3 kh c3] 26)
    refine ⟨⟨(HC2.out.later (grown_below hb3 none) (by simp) (by simp)).later (grown_below hal none) (by simp) (by simp), hgw.2⟩, grown_trans (grown_trans HG2.out hgr) (grown_below hal _), (hal.block _ (by omega)).trans ((hb3.block _ (by omega)).trans HR2.out), heap_alloc_new w3 _, by omega, hown.alloc _, fun q => ?_⟩
    have := (hown.lt _ q).2
    omega)
  have HRg := Lib.hid (rng_rect (n := kh) hkw1 hkw6)
  have HLn := Lib.hid (List.length_replicate (n := kh) (a := (2 : Int) ^ kw - 1))
  clear hown3 hb3 HC2 HG2 HR2 HZ2
  generalize List.replicate kh ((2 : Int) ^ kw - 1) = ys at S0 HRg HLn
  go_wp2_with fail
  have S1 := S0.out
  clear S0
  generalize w3.alloc (.cells #[.slice A3 kh c3] 26) = W3 at S1 ⊢
  generalize w3.heap.size = p at S1 ⊢
  refine (HD.out _ 5 S1.1.1).mono ?_
  rintro e w4 ⟨x4, hx4, rfl, hc4, hg4⟩
  have hb4 := hx4.2 (by omega)
  have S2 := S1.on hc4 hg4
  clear S1 hc4 hg4 hx4
  obtain ⟨k4, rfl, hk4⟩ : ∃ c : Nat, x4 = (c : Int) ∧ c < 5 := ⟨x4.toNat, by omega, by omega⟩
  clear hb4
  obtain ⟨gg, gc, hv, hg1, hg2⟩ := S2.2.2.2.2.2.1.form (by omega)
  injection hv with hA3 hz8 hcc
  subst hA3
  clear hz8 hcc hg2
  go_wp2_with fail
  go_loopw [6] (fun i wr => ∃ (q : Nat) (zs : List Int), q ≤ 5 ∧ i = .int .i64 q ∧ Hid (Rng zs) ∧ Hid (zs.length = kh) ∧ DS w B g A len cap p (.slice (some ⟨gg, 0, none⟩) kh c3) kh zs wr) (fun i _ => (intOf i).toNat)
  case atStart => exact ⟨k4, ys, by omega, rfl, HRg, HLn, S2⟩
  case round =>
    clear S2 HRg HLn
    obtain ⟨q, zs, hq5, rfl, HRz, HLz, S3⟩ := hrel
    by_cases hq : 0 < (q : Int)
    · go_wp2_with fail
      refine (HD.out _ (kh : Int) S3.1.1).mono ?_
      rintro e w5 ⟨x5, hx5, rfl, hc5, hg5⟩
      have hb5 := hx5.2 (by omega)
      have S4 := S3.on hc5 hg5
      clear S3 hc5 hg5 hx5
      obtain ⟨y, rfl, hy⟩ : ∃ c : Nat, x5 = (c : Int) ∧ c < kh := ⟨x5.toNat, by omega, by omega⟩
      clear hb5
      go_wp2_with fail
      refine (HD.out _ (kw : Int) S4.1.1).mono ?_
      rintro e w6 ⟨x6, hx6, rfl, hc6, hg6⟩
      have hb6 := hx6.2 (by omega)
      have S5 := S4.on hc6 hg6
      clear S4 hc6 hg6 hx6
      obtain ⟨x, rfl, hx⟩ : ∃ c : Nat, x6 = (c : Int) ∧ c < kw := ⟨x6.toNat, by omega, by omega⟩
      clear hb6
      obtain ⟨hrc, hrf⟩ := row_cell S5.2.2.2.2.2.1 hy
      have hr := rng_at HRz.out (y := y) (by rw [HLz.out]; exact hy)
      obtain ⟨cp, _, _⟩ := S5.cells
      have hyI : (y : Int) < (kh : Int) := by omega
      have hx8 : x < 8 := by omega
      have HSet := Lib.hid (fun v h0 h1 => rng_set HRz.out (y := y) (v := v) h0 h1)
      generalize rowD zs y = r at hrc hr
      cases hbit : bitB r x with
      | false =>
        have hz := shr_no hr.1 (by omega) hx8 hbit
        clear hbit
        go_wp2
        go_roundw
        case rel => exact ⟨q - 1, zs, by omega, by first | (congr 1; omega) | go_num, HRz, HLz, S5⟩
        case measure => (simp [intOf] <;> omega)
      | true =>
        have hz := shr_yes hr.1 (by omega) hx8 hbit
        obtain ⟨_, hv0, hv1⟩ := put_le hr.1 hr.2 hx8 hbit
        obtain ⟨hp1, hp2⟩ := pow_wrap hx8
        have hsh : Op.shift .shl .i64 1 .i64 (x : Int) = pure (.int .i64 (2 ^ x)) := by
          rw [shift_shl .i64 .i64 1 (x : Int) (by omega) (by show (x : Int) ≤ 64; omega), Int.one_mul, Int.toNat_natCast, (pow_wrap hx8).2]
        obtain ⟨v, hv⟩ : ∃ v, v = r - 2 ^ x := ⟨_, rfl⟩
        rw [← hv] at hv0 hv1
        have hsub : wrap64 (r - 2 ^ x) = v := by rw [← hv]; unfold wrap64; omega
        have hsub2 : IntKind.i64.wrap (r - 2 ^ x) = v := by rw [← hv, IntKind.wrap_i64]; omega
        have HRv := Lib.hid (HSet.out v hv0 hv1)
        clear hbit hv hv0 hv1 HSet
        go_wp2_with fail
        go_still_tail 11, (by kernel_rfl)
        change wpList _ _ _ _ _ w6.drew
        have S6 := S5.drew
        clear hrc hrf cp S5 hsh
        generalize w6.drew = W6 at S6 ⊢
        obtain ⟨hrc, hrf⟩ := row_cell S6.2.2.2.2.2.1 hy
        have S7 := Lib.hid (S6.put (j := y) (z := v))
        have HLv := Lib.hid (show (zs.set y v).length = kh by rw [List.length_set]; exact HLz.out)
        clear S6 hsub hsub2
        go_wp2
        go_roundw
        case rel => exact ⟨q - 1, zs.set y v, by omega, by first | (congr 1; omega) | go_num, HRv, HLv, S7.out⟩
        case measure => (simp [intOf] <;> omega)
    · obtain rfl : q = 0 := by omega
      have HOk := Lib.hid (ok_of_rng HRz.out (by rw [HLz.out]; omega))
      by_cases hk6 : (kw : Int) < 6
      · go_wp2_with fail
        refine (HOn.out _ 3 S3.1.1).mono ?_
        rintro e w5 ⟨b, rfl, hc5, hg5⟩
        have S4 := S3.on hc5 hg5
        clear S3 hc5 hg5
        cases b with
        | false =>
          have HEnd := Lib.hid (region_end S4 HOk HLz hkh1)
          obtain ⟨cp, cr, fr⟩ := S4.cells
          have hres := HEnd.out.1
          clear S4
          go_wp2
          exact bodyPost_ret (v := .agg #[.slice (some ⟨gg, 0, none⟩) kh c3]) (by simp [results, Try.results76, go_sem, hres]) rfl HEnd.out.2
        | true =>
          go_wp2_with fail
          refine (HD.out _ (kh : Int) S4.1.1).mono ?_
          rintro e w6 ⟨x5, hx5, rfl, hc5, hg5⟩
          have hb5 := hx5.2 (by omega)
          have S5 := S4.on hc5 hg5
          clear S4 hc5 hg5 hx5
          obtain ⟨y, rfl, hy⟩ : ∃ c : Nat, x5 = (c : Int) ∧ c < kh := ⟨x5.toNat, by omega, by omega⟩
          clear hb5
          obtain ⟨hrc, hrf⟩ := row_cell S5.2.2.2.2.2.1 hy
          have hr := rng_at HRz.out (y := y) (by rw [HLz.out]; exact hy)
          obtain ⟨cp, _, _⟩ := S5.cells
          have hyI : (y : Int) < (kh : Int) := by omega
          have hor := or_in hr.1 hr.2 (k := kw) (by omega)
          have hp1 := wrap3' (k := kw) (by omega)
          have hp2 := wrap3 (k := kw) (by omega)
          have hsh : Op.shift .shl .i64 3 .i64 (kw : Int) = pure (.int .i64 (3 * 2 ^ kw)) := by
            rw [shift_shl .i64 .i64 3 (kw : Int) (by omega) (by show (kw : Int) ≤ 64; omega), Int.toNat_natCast, wrap3 (by omega)]
          have HSet := Lib.hid (fun v h0 h1 => ok_set HRz.out (y := y) (v := v) (by rw [HLz.out]; omega) h0 h1)
          generalize rowD zs y = r at hrc hr hor
          obtain ⟨v, hv⟩ : ∃ v, v = bits .or .i64 r (3 * 2 ^ kw) := ⟨_, rfl⟩
          rw [← hv] at hor
          have HOv := Lib.hid (HSet.out v hor.1 hor.2)
          have HLv := Lib.hid (show (zs.set y v).length = kh by rw [List.length_set]; exact HLz.out)
          have hov := hv.symm
          clear hv hor HSet
          go_wp2_with fail
          go_still_tail 11, (by kernel_rfl)
          change wpList _ _ _ _ _ w6.drew
          have S6 := S5.drew
          clear hrc hrf cp S5 hsh
          generalize w6.drew = W6 at S6 ⊢
          obtain ⟨hrc, hrf⟩ := row_cell S6.2.2.2.2.2.1 hy
          have S7 := S6.put (j := y) (z := v)
          have HEnd := Lib.hid (region_end S7 HOv HLv hkh1)
          obtain ⟨cp, cr, fr⟩ := S7.cells
          have hres := HEnd.out.1
          clear S6 S7
          go_wp2
          exact bodyPost_ret (v := .agg #[.slice (some ⟨gg, 0, none⟩) kh c3]) (by simp [results, Try.results76, go_sem, hres]) rfl HEnd.out.2
      · have HEnd := Lib.hid (region_end S3 HOk HLz hkh1)
        obtain ⟨cp, cr, fr⟩ := S3.cells
        have hres := HEnd.out.1
        clear S3
        go_wp2
        exact bodyPost_ret (v := .agg #[.slice (some ⟨gg, 0, none⟩) kh c3]) (by simp [results, Try.results76, go_sem, hres]) rfl HEnd.out.2

theorem Rd.mono {w : World} {B B' : Nat} {A : Option Addr} {len : Nat} (h : Rd w B A len) (hB : B ≤ B') : Rd w B' A len := by
  obtain ⟨b, off, f, hA, hc⟩ := h
  exact ⟨b, off, f, fun h0 => ⟨by have := (hA h0).1; omega, (hA h0).2⟩, hc⟩

end Go.Proofs.Ytkjoonmnedofiaa.Draw
