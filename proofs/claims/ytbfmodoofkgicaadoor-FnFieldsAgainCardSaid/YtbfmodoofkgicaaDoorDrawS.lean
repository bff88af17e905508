/- The model's draws of strings: each returns a string of a bounded length, and leaves the cursor as a cursor. -/
import Derived.Test.YtbfmodoofkgicaaDoorDraw
import Derived.Deep.AppendLies
import Derived.Laws.OwnMore
namespace Go.Proofs.YtbfmodoofkgicaaDoor.Draw
set_option linter.unusedVariables false
open Go.RowKit Go.Proofs.YtbfmodoofkgicaaDoor.Base

theorem u8row : (Tryd.prog.info? 5).map (fun i => (i.zero, i.size, i.bytes)) = some (some (.int .u8 0), 1, 1) := by kernel_rfl

theorem Cur.grown {w w' : World} {B g : Nat} {A : Option Addr} {len cap : Nat} {row : Option Nat} (h : Cur w B g A len cap) (hg : w.grownBy w' row) (hne : some g ≠ row) (hr : ∀ k, row = some k → B ≤ k) : Cur w' B g A len cap := by
  obtain ⟨hBg, hlen, hrd, i, x, hi, hbl⟩ := h
  have hgs : g < w.heap.size := (Array.getElem?_eq_some_iff.1 hbl).1
  refine ⟨hBg, hlen, ?_, i, x, hi, (hg.block g hgs hne).trans hbl⟩
  obtain ⟨b, off, f, hA, hc⟩ := hrd
  refine ⟨b, off, f, hA, fun j hj => ⟨?_, (hc j hj).2⟩⟩
  have hb := (hA (by omega)).1
  rw [World.cell?_of_block (w := w) (w' := w') (a := ⟨b, off + j, none⟩) (hg.block b (by omega) (fun e => by have := hr b e.symm; omega))]
  exact (hc j hj).1
theorem grown_own {a w w' : World} {g : Nat} {v : Value} {base e size n : Nat} {xs : List Value} (h : a.grownBy w (some g)) (ho : w.ownsRow base e size v n xs) (hb : base = a.heap.size) (k : w.grownBy w' v.ownBlock) : a.grownBy w' (some g) :=
  ⟨k.os.trans h.os, k.tape.trans h.tape, k.output.trans h.output, Nat.le_trans h.size k.size, fun i hi hn =>
    (k.block i (Nat.lt_of_lt_of_le hi h.size) (fun e => by have := (ho.lt i e.symm).1; omega)).trans (h.block i hi hn)⟩

/-- a draw of a string. -/
def DrewS (P : ByteArray → Prop) (w : World) (B g : Nat) (A : Option Addr) (len cap : Nat) (e : Ending) (w' : World) : Prop :=
  ∃ s : ByteArray, P s ∧ e = .returned (.string s) ∧ Cur w' B g A len cap ∧ w.grownBy w' (some g)

set_option maxRecDepth 100000 in
set_option maxHeartbeats 400000 in
theorem text (w : World) (B g : Nat) (A : Option Addr) (len cap : Nat) (n : Int) (h0 : Cur w B g A len cap) (hn : n ≤ 5000) :
    Calls Tryd.prog 29 #[.pointer (some ⟨g, 0, none⟩), .int .i64 n] w (DrewS (fun s => (s.size : Int) ≤ max n 0) w B g A len cap) := by
  obtain ⟨i0, hi, hz0, hz1, hz2⟩ := info_parts u8row
  have HC := Lib.hid h0
  have hgs := h0.lt
  have hnot : ¬ (5000 : Int) < n := by omega
  have HN := Lib.hid hn
  clear h0 hn
  go_enter Tryd.func29, Tryd.ntmps29
  go_wp2_with fail
  go_loopw [5, 6] (fun v i wr => ∃ (k : Nat) (xs : List Int), (k : Int) ≤ max n 0 ∧ i = .int .i64 k ∧ wr.ownsRow w.heap.size 5 1 v k (xs.map (Value.int .u8)) ∧ Hid (Cur wr B g A len cap) ∧ w.grownBy wr (some g)) (fun _ i _ => (n - intOf i).toNat)
  case atStart => exact ⟨0, [], by omega, rfl, World.ownsRow_made w #[] 0 (Nat.le_refl _) (by unfold maxLen; omega) rfl, Lib.hid (HC.out.alloc _), World.grownBy_alloc _ _ _⟩
  case round =>
    obtain ⟨k, xs, hk, rfl, hown, HCr, hgr⟩ := hrel
    by_cases hlt : (k : Int) < n
    · have hn5 : n ≤ 65536 := by have := HN.out; omega
      go_wp2_with fail
      refine (byte wr B g A len cap HCr.out).mono ?_
      rintro e w1 ⟨x, ⟨x0, x1⟩, rfl, hc, hg1⟩
      have hne : u5.ownBlock ≠ some g := fun e => by have := (hown.lt g e).1; omega
      have hown1 := hown.kept hg1 (.inr hne)
      have HC1 := Lib.hid hc
      have hgr1 := grown_trans hgr hg1
      have hs1 := hgr1.size
      clear hc hown hg1
      go_wp2_with (first
        | (at_builtin; refine wpList_append_own _ rfl _ _ 22 rfl w.heap.size 5 i0 (.int .u8 0) 1 1 Tryd.underlying22 hi hz0 hz1 hz2 rfl (by decide) _ _ _ rfl (hown1.alloc _) ⟨w1.heap.size, 0, none⟩ 1 1 [.int .u8 x] rfl rfl (World.news_of_block (cs := #[.int .u8 x]) (t := 5) (fr := (0, 0)) (heap_alloc_new w1 _)) (by simp [Value.oneCell']) (by unfold maxLen; omega) (by omega) (by simp; omega) ?_; intro v2 w2 hown2 hg2 _))
      have hne2 : some g ≠ u5.ownBlock := fun e => hne e.symm
      have hgr2 := grown_own (grown_trans hgr1 (World.grownBy_alloc w1 _ (some g))) (hown1.alloc _) rfl hg2
      have HC2 := Lib.hid ((HC1.out.alloc _).grown hg2 hne2 (fun k hk => by have := (hown1.lt k hk).1; omega))
      have R := Lib.hid (show w2.ownsRow w.heap.size 5 1 v2 (k + 1) ((xs ++ [x]).map (Value.int .u8)) by rw [List.map_append]; exact hown2)
      clear hown2 hg2 hown1 hgr1 hgr
      go_wp2
      go_roundw
      case rel => exact ⟨k + 1, xs ++ [x], by omega, by go_num, R.out, HC2, hgr2⟩
      case measure => simp [intOf]; omega
    · have hc := convert_own hown Tryd.underlying22 Tryd.underlying5 Tryd.underlying9
      have hsz : (strOfNums xs).size = k := by rw [strOfNums_size]; simpa using hown.1
      have HZ := Lib.hid (show ((strOfNums xs).size : Int) ≤ max n 0 by rw [hsz]; exact hk)
      clear hown hsz
      go_wp2
      go_ret
      exact ⟨_, HZ.out, rfl, HCr.out, hgr⟩

set_option maxRecDepth 100000 in
set_option maxHeartbeats 400000 in
theorem long (w : World) (n : Nat) (x : Int) (hn : n ≤ 1048576) :
    Calls Tryd.prog 27 #[.int .i64 (n : Int), .int .u8 x] w fun e w' => ∃ s : ByteArray, s.size = n ∧ e = .returned (.string s) ∧ Below w.heap.size w w' := by
  obtain ⟨i0, hi, hz0, hz1, hz2⟩ := info_parts u8row
  go_enter Tryd.func27, Tryd.ntmps27
  go_wp2_with (first
    | (at_make; refine wpList_make_full _ rfl _ _ 22 rfl w.heap.size 5 i0 (.int .u8 0) 1 Tryd.underlying22 hi hz0 hz1 .i64 .i64 (n : Int) (n : Int) n rfl rfl rfl rfl (by rw [hz2]; omega) (by unfold maxLen; omega) (Nat.le_refl _) ?_; intro w1 hown1 hg1))
  go_loopw [6] (fun i wr => ∃ (k : Nat) (xs : List Int), k ≤ n ∧ i = .int .i64 k ∧ xs.length = n ∧ wr.ownsRow w.heap.size 5 1 (.slice (some ⟨w.heap.size, 0, none⟩) n n) n (xs.map (Value.int .u8)) ∧ Below w.heap.size w wr) (fun i _ => n - (intOf i).toNat)
  case atStart => exact ⟨0, List.replicate n 0, Nat.zero_le _, rfl, by simp, by rw [show (Value.int IntKind.u8 0).cells = #[.int .u8 0] from rfl, toList_madeCells_one, Nat.mul_one] at hown1; rw [List.map_replicate]; exact hown1, (Below.refl _ _).grown hg1 (Nat.le_refl _) (by simp)⟩
  case round =>
    clear hown1 hg1
    obtain ⟨k, xs, hk, rfl, hlen, hown, hb⟩ := hrel
    have HL := Lib.hid hlen
    clear hlen
    by_cases hlt : k < n
    · have hcell : wr.cell? ⟨w.heap.size, k, none⟩ = some (.int .u8 (xs.getD k 0)) := by
        rw [hown.cellAt k (by omega)]
        have := HL.out
        simp [List.getElem?_eq_getElem (by omega : k < xs.length)]
      have hfr := hown.frozenAt k
      obtain ⟨hst, hg2⟩ := hown.stored k (.int .u8 x)
      have R := Lib.hid (show (wr.setCell ⟨w.heap.size, k, none⟩ (.int .u8 x)).ownsRow w.heap.size 5 1 (.slice (some ⟨w.heap.size, 0, none⟩) n n) n ((xs.set k x).map (Value.int .u8)) by rw [List.map_set]; exact hst)
      have hb2 : Below w.heap.size w (wr.setCell ⟨w.heap.size, k, none⟩ (.int .u8 x)) := hb.setCell (Nat.le_refl _) _
      clear hown hst hg2
      go_wp2
      go_roundw
      case rel => exact ⟨k + 1, xs.set k x, by omega, by go_num, by rw [List.length_set]; exact HL.out, R.out, hb2⟩
      case measure => simp [intOf]; omega
    · have hc := convert_own hown Tryd.underlying22 Tryd.underlying5 Tryd.underlying9
      clear hown
      go_wp2
      go_ret
      exact ⟨_, by rw [strOfNums_size]; exact HL.out, rfl, hb⟩
end Go.Proofs.YtbfmodoofkgicaaDoor.Draw
