/- Draw0, RegRc, RegWc in one text. -/
import Derived.Test.YtmajllgfmclcoaaGreatDoorRows
import Derived.Test.YtmajllgfmclcoaaGreatDoorMd00
import Derived.WalkKit
import Derived.WalkSpells
import Derived.WalkLawsBesides
import Derived.Lib.Hide
import Derived.OpenShut
import Derived.Laws.BitsAllLaws
import Derived.Laws.BitsLemmas
import Derived.Deep.QuietTactic
import Derived.BigQuiet
import Derived.Test.YtmajllgfmclcoaaGreatDoorMd09
import Derived.Deep.RegionHeld3
import Derived.Deep.DeepAppendRoom
import Derived.Deep.RegionLaw
import Derived.BigRegion
import Derived.Laws.CopyOwn
set_option linter.unusedVariables false
namespace Go.Proofs.YtmajllgfmclcoaaGreatDoor.Draw
open Go.RowKit
def Rd (w : World) (B : Nat) (A : Option Addr) (len : Nat) : Prop :=
 ∃ (b off : Nat) (f : Nat → Int), (0 < len → b < B ∧ A = some ⟨b, off, none⟩) ∧ ∀ j, j < len → w.cell? ⟨b, off + j, none⟩ = some (.int .u8 (f j)) ∧ 0 ≤ f j ∧ f j ≤ 255
def Cur (w : World) (B g : Nat) (A : Option Addr) (len cap : Nat) : Prop :=
 B ≤ g ∧ len ≤ 1048576 ∧ Rd w B A len ∧ ∃ (i : Nat) (h : Int), i ≤ len ∧ w.heap[g]? = some (.cells #[.slice A len cap, .int .i64 i, .int .i64 h] 71 (0, 0))
def Drew (P : Int → Prop) (w : World) (B g : Nat) (A : Option Addr) (len cap : Nat) (e : Ending) (w' : World) : Prop :=
 ∃ x : Int, P x ∧ e = .returned (.int .i64 x) ∧ Cur w' B g A len cap ∧ w.grownBy w' (some g)
theorem grown_trans {a b c : World} {row : Option Nat} (h : a.grownBy b row) (k : b.grownBy c row) : a.grownBy c row :=
 ⟨k.os.trans h.os, k.tape.trans h.tape, k.output.trans h.output, Nat.le_trans h.size k.size, fun i hi hn => (k.block i (Nat.lt_of_lt_of_le hi h.size) hn).trans (h.block i hi hn)⟩
theorem grown_drewN {a b : World} {row : Option Nat} (h : a.grownBy b row) (n : Nat) : a.grownBy (b.drewN n) row := ⟨h.os, h.tape, h.output, h.size, h.block⟩
theorem Rd.grown {w w' : World} {B g : Nat} {A : Option Addr} {len : Nat} (h : Rd w B A len) (hB : B ≤ w.heap.size) (hg : B ≤ g) (hgr : w.grownBy w' (some g)) : Rd w' B A len := by
 obtain ⟨b, off, f, hA, hc⟩ := h
 refine ⟨b, off, f, hA, fun j hj => ⟨?_, (hc j hj).2⟩⟩
 have hb := (hA (by omega)).1
 have := World.cell?_of_block (w := w) (w' := w') (a := ⟨b, off + j, none⟩) (hgr.block b (by omega) (by intro he; injection he; omega))
 rw [this]; exact (hc j hj).1
theorem Rd.below {w w' : World} {B : Nat} {A : Option Addr} {len : Nat} (h : Rd w B A len) (hb : Below B w w') : Rd w' B A len := by
 obtain ⟨b, off, f, hA, hc⟩ := h
 exact ⟨b, off, f, hA, fun j hj => ⟨(hb.cell (p := ⟨b, off + j, none⟩) (hA (by omega)).1).trans (hc j hj).1, (hc j hj).2⟩⟩
theorem and255 (a : Int) : 0 ≤ bits .and .i64 a 255 ∧ bits .and .i64 a 255 ≤ 255 := by
 have h : (BitVec.ofInt 64 a &&& BitVec.ofInt 64 255).toNat ≤ 255 := by
  rw [BitVec.toNat_and]
  exact Nat.le_trans Nat.and_le_right (by decide)
 show 0 ≤ IntKind.i64.wrap ((BitVec.ofInt 64 a &&& BitVec.ofInt 64 255).toNat : Int) ∧ IntKind.i64.wrap ((BitVec.ofInt 64 a &&& BitVec.ofInt 64 255).toNat : Int) ≤ 255
 rw [IntKind.wrap_i64]
 omega
theorem set_cursor {w : World} {g k : Nat} {cs cs' : Array Value} {t : TypeId} {u : Value} (hbl : w.heap[g]? = some (.cells cs t (0, 0))) (hcs : cs.setIfInBounds k u = cs') :
  (w.setCell ⟨g, k, none⟩ u).heap[g]? = some (.cells cs' t (0, 0)) ∧ w.grownBy (w.setCell ⟨g, k, none⟩ u) (some g) := by
 subst hcs
 refine ⟨by simp [World.setCell, Array.getElem?_modify, hbl], rfl, rfl, rfl, by simp [World.setCell], fun j hj hne => Below.heap_setCell w _ u j (fun e => hne (by rw [e]))⟩
set_option maxHeartbeats 400000 in
theorem byte (w : World) (B g : Nat) (A : Option Addr) (len cap : Nat) (h0 : Cur w B g A len cap) :
  Calls Tryz.prog 73 #[.pointer (some ⟨g, 0, none⟩)] w (Drew (fun x => 0 ≤ x ∧ x ≤ 255) w B g A len cap) := by
 obtain ⟨hBg, hlen, hrd, i, h, hi, hbl⟩ := h0
 have hgs : g < w.heap.size := (Array.getElem?_eq_some_iff.1 hbl).1
 have hc2 : w.cell? ⟨g, 2, none⟩ = some (.int .i64 h) := (cell_of_row w g 2 _ _ _ hbl).trans rfl
 have hf2 : w.frozen? ⟨g, 2, none⟩ = false := by simp [World.frozen?, hbl]
 have HB := Lh hbl
 clear hbl
 go_enter Tryz.func73, Tryz.ntmps73
 go_wp2_with fail
 generalize wrap64 (wrap64 (h * 6364136223846793005) + 1442695040888963407) = h2
 obtain ⟨hb2, hg2⟩ := set_cursor (k := 2) (u := .int .i64 h2) (cs' := #[.slice A len cap, .int .i64 i, .int .i64 h2]) HB.out rfl
 generalize w.setCell ⟨g, 2, none⟩ (.int .i64 h2) = W at hb2 hg2 ⊢
 clear HB hc2 hf2
 have hc0 : W.cell? ⟨g, 0, none⟩ = some (.slice A len cap) := (cell_of_row W g 0 _ _ _ hb2).trans rfl
 have hc1 : W.cell? ⟨g, 1, none⟩ = some (.int .i64 i) := (cell_of_row W g 1 _ _ _ hb2).trans rfl
 have hc2 : W.cell? ⟨g, 2, none⟩ = some (.int .i64 h2) := (cell_of_row W g 2 _ _ _ hb2).trans rfl
 have hf1 : W.frozen? ⟨g, 1, none⟩ = false := by simp [World.frozen?, hb2]
 have HB2 := Lh hb2
 clear hb2
 have hrdW : Rd W B A len := hrd.grown (by omega) hBg hg2
 by_cases hlt : i < len
 ·obtain ⟨b, off, f, hA, hcode⟩ := hrdW
  obtain ⟨hb, rfl⟩ := hA (by omega)
  obtain ⟨hci, hf0, hf255⟩ := hcode i hlt
  clear hcode hA
  go_quiet (fail)
  go_wp2_with fail
  go_quiet (fail)
  go_wp2_with fail
  go_quiet (fail)
  go_wp2_with fail
  go_ret
  obtain ⟨hb3, hg3⟩ := set_cursor (w := W.drewN _) (k := 1) (u := .int .i64 ((i : Int) + 1)) (cs' := #[.slice (some ⟨b, off, none⟩) len cap, .int .i64 ((i + 1 : Nat) : Int), .int .i64 h2]) HB2.out rfl
  have hgw := grown_trans (grown_drewN hg2 _) hg3
  exact ⟨_, and255 _, rfl, ⟨hBg, hlen, hrd.grown (by omega) hBg hgw, i + 1, h2, by omega, hb3⟩, hgw⟩
 ·go_quiet (fail)
  go_wp2_with fail
  go_quiet (fail)
  go_wp2
  go_ret
  exact ⟨_, and255 _, rfl, ⟨hBg, hlen, hrdW, i, h2, hi, HB2.out⟩, grown_drewN (grown_drewN hg2 _) _⟩
def InBelow (n x : Int) : Prop := (n ≤ 0 → x = 0) ∧ (0 < n → 0 ≤ x ∧ x < n)
theorem grown_refl (w : World) (row : Option Nat) : w.grownBy w row := ⟨rfl, rfl, rfl, Nat.le_refl _, fun _ _ _ => rfl⟩
theorem emod_in (x n : Int) (hn : 0 < n) : InBelow n (x % n) :=
 ⟨fun h => by omega, fun _ => ⟨Int.emod_nonneg _ (by omega), Int.emod_lt_of_pos _ hn⟩⟩
set_option maxHeartbeats 400000 in
theorem below (w : World) (B g : Nat) (A : Option Addr) (len cap : Nat) (n : Int) (h0 : Cur w B g A len cap) :
  Calls Tryz.prog 49 #[.pointer (some ⟨g, 0, none⟩), .int .i64 n] w (Drew (InBelow n) w B g A len cap) := by
 have HC := Lh h0
 clear h0
 by_cases h1 : n ≤ 0
 ·go_enter Tryz.func49, Tryz.ntmps49
  go_wp2
  go_ret
  exact ⟨0, ⟨fun _ => rfl, fun h => by omega⟩, rfl, HC.out, grown_refl _ _⟩
 ·have hne : (n == 0) = false := by simp; omega
  by_cases h2 : n ≤ 256
  ·go_enter Tryz.func49, Tryz.ntmps49
   go_wp2_with fail
   refine (byte w B g A len cap HC.out).mono ?_
   rintro e w1 ⟨x, ⟨x0, x1⟩, rfl, hc, hg⟩
   have HC1 := Lh hc
   clear hc
   go_wp2
   go_ret
   exact ⟨_, emod_in _ _ h1, rfl, HC1.out, hg⟩
  ·go_enter Tryz.func49, Tryz.ntmps49
   go_wp2_with fail
   refine (byte w B g A len cap HC.out).mono ?_
   rintro e w1 ⟨x, ⟨x0, x1⟩, rfl, hc, hg1⟩
   have HC1 := Lh hc
   clear hc
   go_wp2_with fail
   refine (byte w1 B g A len cap HC1.out).mono ?_
   rintro e w2 ⟨y, ⟨y0, y1⟩, rfl, hc, hg2⟩
   have HC2 := Lh hc
   clear hc
   go_wp2_with fail
   refine (byte w2 B g A len cap HC2.out).mono ?_
   rintro e w3 ⟨z, ⟨z0, z1⟩, rfl, hc, hg3⟩
   have HC3 := Lh hc
   clear hc
   go_wp2_with fail
   refine (byte w3 B g A len cap HC3.out).mono ?_
   rintro e w4 ⟨v, ⟨v0, v1⟩, rfl, hc, hg4⟩
   have HC4 := Lh hc
   clear hc
   go_wp2
   go_ret
   exact ⟨_, emod_in _ _ h1, rfl, HC4.out, grown_trans hg1 (grown_trans hg2 (grown_trans hg3 hg4))⟩
theorem Cur.alloc {w : World} {B g : Nat} {A : Option Addr} {len cap : Nat} (h : Cur w B g A len cap) (o : Obj) : Cur (w.alloc o) B g A len cap := by
 obtain ⟨hBg, hlen, hrd, i, x, hi, hbl⟩ := h
 have hgs : g < w.heap.size := (Array.getElem?_eq_some_iff.1 hbl).1
 exact ⟨hBg, hlen, hrd.grown (by omega) hBg (World.grownBy_alloc w o (some g)), i, x, hi, (Below.heap_alloc w o g hgs).trans hbl⟩
theorem Cur.lt {w : World} {B g : Nat} {A : Option Addr} {len cap : Nat} (h : Cur w B g A len cap) : B ≤ g ∧ g < w.heap.size := by
 obtain ⟨hBg, _, _, i, x, _, hbl⟩ := h
 exact ⟨hBg, (Array.getElem?_eq_some_iff.1 hbl).1⟩
def Coded (w : World) (B : Nat) (A : Option Addr) (len : Nat) : Prop := len ≤ 1048576 ∧ Rd w B A len
def NewPost (w : World) (A : Option Addr) (len cap : Nat) (e : Ending) (w' : World) : Prop :=
 ∃ g, e = .returned (.pointer (some ⟨g, 0, none⟩)) ∧ Cur w' w.heap.size g A len cap ∧ Below w.heap.size w w'
set_option maxHeartbeats 400000 in
theorem new (w : World) (A : Option Addr) (len cap : Nat) (h0 : Coded w w.heap.size A len) :
  Calls Tryz.prog 27 #[.slice A len cap] w (NewPost w A len cap) := by
 obtain ⟨hlen, hrd⟩ := h0
 have HR := Lh hrd
 obtain ⟨b, off, f, hA, hcode⟩ := hrd
 have HA := Lh hA
 have HF := Lh hcode
 clear hA hcode
 go_enter Tryz.func27, Tryz.ntmps27
 go_wp2_with fail
 go_loop [3, 4] (fun h i => ∃ (k : Nat) (x : Int), k ≤ len ∧ i = .int .i64 k ∧ h = .int .i64 x) (fun _ i => len - (intOf i).toNat)
 case atStart => exact ⟨0, _, Nat.zero_le _, rfl, rfl⟩
 case round =>
  obtain ⟨k, x, hk, rfl, rfl⟩ := hrel
  by_cases hlt : k < len
  ·obtain ⟨hc1, _, _⟩ := HF.out k hlt
   obtain ⟨hb, rfl⟩ := HA.out (by omega)
   by_cases h4 : (k : Int) < 4000
   ·go_wp2
    go_round
    case rel => exact ⟨k + 1, _, by omega, by go_num, rfl⟩
    case measure => simp [intOf]; omega
   ·go_wp2
    go_ret
    exact ⟨w.heap.size, rfl, ⟨Nat.le_refl _, hlen, HR.out.below ((Below.refl _ _).alloc NR _), 0, x, Nat.zero_le _, heap_alloc_new _ _⟩, (Below.refl _ _).alloc NR _⟩
  ·go_wp2
   go_ret
   exact ⟨w.heap.size, rfl, ⟨Nat.le_refl _, hlen, HR.out.below ((Below.refl _ _).alloc NR _), 0, x, Nat.zero_le _, heap_alloc_new _ _⟩, (Below.refl _ _).alloc NR _⟩
def IsRow (k : IntKind) (w : World) (a : Option Addr) (len cap : Nat) (zs : List Int) : Prop :=
 (a = none ∧ len = 0 ∧ cap = 0 ∧ zs = []) ∨
 ∃ x, a = some x ∧ len ≤ cap ∧ cap ≤ maxLen ∧ zs.length = cap ∧ (∀ i, i < zs.length → w.cell? (x.add i) = some (.int k (zs.getD i 0))) ∧ ∀ n ∈ zs, (Lit.int k n).wf = true
theorem add_none (b o j : Nat) : (⟨b, o, none⟩ : Addr).add j = ⟨b, o + j, none⟩ := by unfold Addr.add; split <;> simp_all
theorem coded_of_row {w : World} {a : Option Addr} {len cap : Nat} {zs : List Int} (h : IsRow .u8 w a len cap zs) (hl : len ≤ 1048576) : Coded w w.heap.size a len := by
 refine ⟨hl, ?_⟩
 rcases h with ⟨rfl, rfl, rfl, rfl⟩ | ⟨x, rfl, hlc, hcm, hz, hcell, hwf⟩
 ·exact ⟨0, 0, fun _ => 0, fun h => by omega, fun j hj => by omega⟩
 ·by_cases h0 : len = 0
  ·subst h0; exact ⟨0, 0, fun _ => 0, fun h => by omega, fun j hj => by omega⟩
  ·obtain ⟨b, off, spot⟩ := x
   have hc := hcell 0 (by omega)
   have hs : spot = none := by
    have h1 := World.cell?_spot hc
    simpa [Addr.add] using h1
   subst hs
   refine ⟨b, off, fun j => zs.getD j 0, fun _ => ⟨?_, rfl⟩, fun j hj => ?_⟩
   ·rw [add_none] at hc
    exact World.block_lt_of_cell? w _ hc
   ·have hc := hcell j (by omega)
    rw [add_none] at hc
    refine ⟨hc, ?_⟩
    have hj' : j < zs.length := by omega
    exact bounds_u8 (hwf (zs.getD j 0) (by simp [List.getElem?_eq_getElem hj']))
theorem big (w : World) (A : Option Addr) (len cap : Nat) (hl : len ≤ 9223372036854775807) :
  Calls Tryz.prog 6 #[.slice A len cap] w fun e w' => e = .returned (.bool (decide (1048576 < (len : Int)))) ∧ w = w' := by
 by_cases h : (1048576 : Int) < (len : Int)
 all_goals
  go_enter Tryz.func6, Tryz.ntmps6
  go_wp2
  go_ret
  exact ⟨by simp [h], rfl⟩
theorem row_len {k : IntKind} {w : World} {a : Option Addr} {len cap : Nat} {zs : List Int} (h : IsRow k w a len cap zs) : len ≤ 9223372036854775807 := by
 rcases h with ⟨_, rfl, _, _⟩ | ⟨_, _, h1, h2, _⟩
 ·omega
 ·unfold maxLen at h2; omega
end Go.Proofs.YtmajllgfmclcoaaGreatDoor.Draw
namespace Go.Proofs.YtmajllgfmclcoaaGreatDoor.Reg
open Go.RowKit Base Go.Proofs.YtmajllgfmclcoaaGreatDoor.Pure Go.Proofs.YtmajllgfmclcoaaGreatDoor.Cell Go.Joins
theorem row_value {k : Nat} (h1 : 1 ≤ k) (h8 : k ≤ 8) : wrap64 (wrap64 ((2 : Int) ^ k) - 1) = 2 ^ k - 1 := by
 have hcs : k = 1 ∨ k = 2 ∨ k = 3 ∨ k = 4 ∨ k = 5 ∨ k = 6 ∨ k = 7 ∨ k = 8 := by omega
 rcases hcs with rfl | rfl | rfl | rfl | rfl | rfl | rfl | rfl <;> (unfold wrap64; decide)
theorem row_value' {k : Nat} (h1 : 1 ≤ k) (h8 : k ≤ 8) : IntKind.i64.wrap (IntKind.i64.wrap ((2 : Int) ^ k) - 1) = 2 ^ k - 1 := by
 have hcs : k = 1 ∨ k = 2 ∨ k = 3 ∨ k = 4 ∨ k = 5 ∨ k = 6 ∨ k = 7 ∨ k = 8 := by omega
 rcases hcs with rfl | rfl | rfl | rfl | rfl | rfl | rfl | rfl <;> (rw [IntKind.wrap_i64, IntKind.wrap_i64]; decide)
theorem two_boxes (w : World) (o1 o2 : Obj) : ((w.alloc o1).alloc o2).heap[w.heap.size]? = some o1 ∧ ((w.alloc o1).alloc o2).heap[w.heap.size + 1]? = some o2 := by
 have h1 : (w.heap.push o1).size = w.heap.size + 1 := by simp
 constructor
 ·show ((w.heap.push o1).push o2)[_]? = _
  rw [Array.getElem?_push_lt (by simp)]
  simp
 ·show ((w.heap.push o1).push o2)[_]? = _
  rw [← h1]; exact Array.getElem?_push_size
def SR (w : World) (v : Value) (W : World) : Prop :=
 Below w.heap.size w W ∧ w.heap.size + 2 ≤ W.heap.size ∧ W.heap[w.heap.size]? = some (.cells #[.slice none 0 0] 26) ∧ W.heap[w.heap.size + 1]? = some (.cells #[v] 26)
theorem SR.grown {w W W' : World} {v : Value} {row : Option Nat} (h : SR w v W) (hg : W.grownBy W' row) (hr : ∀ k, row = some k → w.heap.size + 2 ≤ k) : SR w v W' := by
 obtain ⟨a, b, c, d⟩ := h
 have hz := hg.size
 refine ⟨a.grown hg (by omega) (fun k hk => by have := hr k hk; omega), by omega, ?_, ?_⟩
 ·rw [hg.block _ (by omega) (fun e => by have := hr _ e.symm; omega)]; exact c
 ·rw [hg.block _ (by omega) (fun e => by have := hr _ e.symm; omega)]; exact d
theorem SR.alloc {w W : World} {v : Value} (h : SR w v W) (o : Obj) : SR w v (W.alloc o) := h.grown (World.grownBy_alloc W o none) (by simp)
theorem SR.drew {w W : World} {v : Value} (h : SR w v W) : SR w v W.drew := ⟨h.1.drew, h.2⟩
theorem SR.store {w W : World} {v : Value} (h : SR w v W) (u : Value) : SR w u (W.setCell ⟨w.heap.size + 1, 0, none⟩ u) := by
 obtain ⟨a, b, c, d⟩ := h
 refine ⟨a.setCell (by show w.heap.size ≤ w.heap.size + 1; omega) _, by simpa [World.setCell] using b, ?_, ?_⟩
 ·exact (Below.heap_setCell W _ _ _ (by show w.heap.size ≠ w.heap.size + 1; omega)).trans c
 ·have := block_setCell d u (i := 0)
  rw [this]; rfl
set_option maxRecDepth 100000 in
set_option maxHeartbeats 2000000 in
theorem sRectIn (w : World) (k n : Nat) (h1 : 1 ≤ k) (h8 : k ≤ 8) (n1 : 1 ≤ n) (n8 : n ≤ 8) :
  Calls Tryz.prog 72 #[.int .i64 (k : Int), .int .i64 (n : Int)] w (RegPost (List.replicate n (2 ^ k - 1)) n w) := by
 obtain ⟨i0, hi, hz0, hz1, hz2⟩ := info_parts intInfo
 have hv := row_value h1 h8
 have HX := Lh (row_value' h1 h8)
 obtain ⟨v, hvv⟩ : ∃ v, v = (2 : Int) ^ k - 1 := ⟨_, rfl⟩
 rw [← hvv] at hv HX ⊢
 clear hvv
 have HS := Lh (show SR w (.slice none 0 0) ((w.alloc (.cells #[.slice none 0 0] 26)).alloc (.cells #[.slice none 0 0] 26)) from ⟨below_alloc2 w _ _, by simp, (two_boxes w _ _).1, (two_boxes w _ _).2⟩)
 have HI := Lh (fun W => l01In (k : Int) 1 8 W)
 have HJ := Lh (fun W => l01In (n : Int) 1 8 W)
 rw [inB_of (by omega)] at HI HJ
 go_enter Tryz.func72, Tryz.ntmps72
 go_wp2_with fail
 go_loopw [6] (fun i wr => ∃ (j : Nat) (u : Value), j ≤ n ∧ i = .int .i64 j ∧ wr.ownsRow (w.heap.size + 2) 3 1 u j (ints (List.replicate j v)) ∧ SR w u wr) (fun i _ => n - (intOf i).toNat)
 case atStart => exact ⟨0, .slice none 0 0, Nat.zero_le _, rfl, World.ownsRow_nil _ _ _ _, HS.out⟩
 case round =>
  clear HS
  obtain ⟨j, u, hj, rfl, hown, hs⟩ := hrel
  have hsz := hs.2.1
  by_cases hlt : j < n
  ·obtain ⟨c1, f1⟩ := cellAt hs.2.2.2 0
   have HSR := Lh hs
   have HOwn := Lh hown
   clear hown hs
   go_wp2_with fail
   refine (HI.out _).mono ?_
   rintro e w1 ⟨rfl, rfl⟩
   go_wp2_with fail
   refine (HJ.out _).mono ?_
   rintro e w2 ⟨rfl, rfl⟩
   have ca : ∀ o, (w2.alloc o).cell? ⟨w.heap.size + 1, 0, none⟩ = some u := fun o => (cellAt (HSR.out.alloc o).2.2.2 0).1.trans rfl
   have fa : ∀ o, (w2.alloc o).frozen? ⟨w.heap.size + 1, 0, none⟩ = false := fun o => (cellAt (HSR.out.alloc o).2.2.2 0).2
   go_wp2_with fail
   go_region_law (first | (refine step_append_lies _ (by rfl) _ _ _ (by rfl) (w.heap.size + 2) 3 i0 _ 1 8 Tryz.underlying24 hi hz0 hz1 hz2 rfl (by omega) u j (ints (List.replicate j v)) (by rfl) ((HOwn.out.alloc _).drew) ⟨w2.heap.size, 0, none⟩ 1 1 [.int .i64 (IntKind.i64.wrap (IntKind.i64.wrap (2 ^ k) - 1))] (by rfl) (by rfl) (World.news_of_block (cs := #[.int .i64 (IntKind.i64.wrap (IntKind.i64.wrap (2 ^ k) - 1))]) (t := 3) (fr := (0, 0)) (heap_alloc_new w2 _)) (by simp [Value.oneCell']) (by omega) (by unfold maxLen; omega) (by omega) (by simp; omega) (w2.heap.size + 1) (by simp) ?_; intro gg cap w3 hown3 hgrow hat hlt3; obtain ⟨d1, g1⟩ := cellAt (((HSR.out.alloc (.cells #[.int .i64 (IntKind.i64.wrap (IntKind.i64.wrap (2 ^ k) - 1))] 3)).drew.grown hgrow (fun q hq => (HOwn.out.lt q hq).1)).2.2.2) 0))
   all_goals
    have hX := HX.out
    rw [hX] at hown3 hgrow
    have hs4 := Lh (((SR.drew (HSR.out.alloc _)).grown hgrow (fun q hq => (HOwn.out.lt q hq).1)).store (.slice (some ⟨gg, 0, none⟩) (j + 1) cap))
    have R := Lh (show (w3.setCell ⟨w.heap.size + 1, 0, none⟩ (.slice (some ⟨gg, 0, none⟩) (j + 1) cap)).ownsRow (w.heap.size + 2) 3 1 (.slice (some ⟨gg, 0, none⟩) (j + 1) cap) (j + 1) (ints (List.replicate (j + 1) v)) by
     rw [List.replicate_succ' (n := j), ints_snoc]
     exact ownsRow_setCell_below hown3 (by show w.heap.size + 1 < w.heap.size + 2; omega) _)
    clear hown3 hgrow hat d1 g1 hX HOwn HSR ca fa c1 f1 hlt3
    go_wp2
    go_roundw
    case rel => exact ⟨j + 1, _, by omega, by go_num, R.out, hs4.out⟩
    case measure => (simp [intOf] <;> omega)
  ·obtain rfl : j = n := by omega
   obtain ⟨A, cap, rfl⟩ := own_shape hown
   obtain ⟨c1, f1⟩ := cellAt hs.2.2.2 0
   obtain ⟨c2, f2⟩ := cellAt hs.2.2.1 0
   have HSR := Lh hs
   have HOwn := Lh hown
   clear hown hs
   go_wp2
   have hres := World.cell?_setCell_same (w := wr) ⟨w.heap.size, 0, none⟩ (.slice A j cap) (u := .slice none 0 0) c2
   refine bodyPost_ret (v := .agg #[.slice A j cap]) (by simp [results, Tryz.results72, go_sem, hres]) rfl ⟨A, cap, rfl, ?_, HSR.out.1.setCell NR _⟩
   exact own_base (ownsRow_setCell_below HOwn.out (by show w.heap.size < w.heap.size + 2; omega) _) (by omega)
set_option maxRecDepth 100000 in
set_option maxHeartbeats 2000000 in
theorem sRectOut (w : World) (a b : Int) (h : ¬ (1 ≤ a ∧ a ≤ 8 ∧ 1 ≤ b ∧ b ≤ 8)) :
  Calls Tryz.prog 72 #[.int .i64 a, .int .i64 b] w (RegPost [] 0 w) := by
 have HS := Lh (show SR w (.slice none 0 0) ((w.alloc (.cells #[.slice none 0 0] 26)).alloc (.cells #[.slice none 0 0] 26)) from ⟨below_alloc2 w _ _, by simp, (two_boxes w _ _).1, (two_boxes w _ _).2⟩)
 have HI := Lh (fun W => l01In a 1 8 W)
 have HJ := Lh (fun W => l01In b 1 8 W)
 have HR := Lh (fun (W : World) (hW : Below w.heap.size w W) => (show RegPost [] 0 w (.returned (.agg #[.slice none 0 0])) W from ⟨none, 0, rfl, World.ownsRow_nil _ _ _ _, hW⟩))
 have hab : inB a 1 8 = false ∨ inB a 1 8 = true ∧ inB b 1 8 = false := by
  by_cases k : 1 ≤ a ∧ a ≤ 8
  ·exact .inr ⟨inB_of k, inB_not fun q => h ⟨k.1, k.2, q.1, q.2⟩⟩
  ·exact .inl (inB_not k)
 generalize inB a 1 8 = x at HI hab
 generalize inB b 1 8 = y at HJ hab
 clear h
 go_enter Tryz.func72, Tryz.ntmps72
 go_wp2_with fail
 go_loopw [6] (fun i wr => i = .int .i64 0 ∧ SR w (.slice none 0 0) wr) (fun i _ => (intOf i).toNat)
 case atStart => exact ⟨rfl, HS.out⟩
 case round =>
  clear HS
  obtain ⟨rfl, hs⟩ := hrel
  obtain ⟨c1, f1⟩ := cellAt hs.2.2.2 0
  obtain ⟨c2, f2⟩ := cellAt hs.2.2.1 0
  have HSR := Lh hs
  have hres := World.cell?_setCell_same (w := wr) ⟨w.heap.size, 0, none⟩ (.slice none 0 0) (u := .slice none 0 0) c2
  clear hs
  by_cases hb : 0 < b
  ·go_wp2_with fail
   refine (HI.out _).mono ?_
   rintro e w1 ⟨rfl, rfl⟩
   rcases hab with rfl | ⟨rfl, rfl⟩
   ·go_wp2
    refine bodyPost_ret (v := .agg #[.slice none 0 0]) (by simp [results, Tryz.results72, go_sem, hres]) rfl (HR.out _ (HSR.out.1.setCell NR _))
   ·go_wp2_with fail
    refine (HJ.out _).mono ?_
    rintro e w2 ⟨rfl, rfl⟩
    go_wp2
    refine bodyPost_ret (v := .agg #[.slice none 0 0]) (by simp [results, Tryz.results72, go_sem, hres]) rfl (HR.out _ (HSR.out.1.setCell NR _))
  ·go_wp2
   refine bodyPost_ret (v := .agg #[.slice none 0 0]) (by simp [results, Tryz.results72, go_sem, hres]) rfl (HR.out _ (HSR.out.1.setCell NR _))
theorem rect_nat {a b : Int} (h : 1 ≤ a ∧ a ≤ 8 ∧ 1 ≤ b ∧ b ≤ 8) : ∃ k n : Nat, a = (k : Int) ∧ b = (n : Int) ∧ 1 ≤ k ∧ k ≤ 8 ∧ 1 ≤ n ∧ n ≤ 8 ∧ rectR a b = List.replicate n (2 ^ k - 1) := by
 refine ⟨a.toNat, b.toNat, by omega, by omega, by omega, by omega, by omega, by omega, ?_⟩
 rw [rectR_in h]
theorem sRectangle (w : World) (a b : Int) :
  Calls Tryz.prog 72 #[.int .i64 a, .int .i64 b] w (RegPost (rectR a b) (rectR a b).length w) := by
 by_cases h : 1 ≤ a ∧ a ≤ 8 ∧ 1 ≤ b ∧ b ≤ 8
 ·obtain ⟨k, n, rfl, rfl, h1, h2, h3, h4, he⟩ := rect_nat h
  rw [he, List.length_replicate]
  exact sRectIn w k n h1 h2 h3 h4
 ·rw [rectR_out h]
  exact sRectOut w a b h
end Go.Proofs.YtmajllgfmclcoaaGreatDoor.Reg
namespace Go.Proofs.YtmajllgfmclcoaaGreatDoor.Reg
open Go.RowKit Go.Proofs.YtmajllgfmclcoaaGreatDoor.Pure Go.Joins
theorem pow_wrap {x : Nat} (hx : x < 8) : wrap64 ((2 : Int) ^ x) = 2 ^ x ∧ IntKind.i64.wrap ((2 : Int) ^ x) = 2 ^ x := by
 have hcs : x = 0 ∨ x = 1 ∨ x = 2 ∨ x = 3 ∨ x = 4 ∨ x = 5 ∨ x = 6 ∨ x = 7 := by omega
 rcases hcs with rfl | rfl | rfl | rfl | rfl | rfl | rfl | rfl <;> exact ⟨by unfold wrap64; decide, by rw [IntKind.wrap_i64]; decide⟩
section
variable {w W W' : World} {v : Value} {x y : Int} {u : Value}
end
theorem row_cell {w : World} {base n g cap : Nat} {ys : List Int} (h : w.ownsRow base 3 1 (.slice (some ⟨g, 0, none⟩) n cap) n (ints ys)) {y : Nat} (hy : y < n) : w.cell? ⟨g, y, none⟩ = some (.int .i64 (rowD ys y)) ∧ w.frozen? ⟨g, y, none⟩ = false := by
 have hl : ys.length = n := by have := h.1; rw [ints_length] at this; omega
 refine ⟨?_, h.frozenAt y⟩
 rw [h.cellAt y (by omega)]
 exact ints_at (by rw [rowD_at (List.getElem?_eq_getElem (by omega))]; exact List.getElem?_eq_getElem (by omega))
end Go.Proofs.YtmajllgfmclcoaaGreatDoor.Reg
