/- DrawH, DrV, LisU, DrQ in one text. -/
import Derived.Test.YtmenmepdmojnfaaGreatDoorMw44
import Derived.StillTailTactics
import Derived.Test.YtmenmepdmojnfaaGreatDoorMw43
import Derived.Test.YtmenmepdmojnfaaGreatDoorMw06
import Derived.Deep.Cut
import Derived.Test.YtmenmepdmojnfaaGreatDoorMw13
import Derived.Test.YtmenmepdmojnfaaGreatDoorMw16
import Derived.Test.YtmenmepdmojnfaaGreatDoorMw05

namespace Go.Proofs.YtmenmepdmojnfaaGreatDoor.Draw
set_option linter.unusedVariables false
open Go.RowKit Go.Proofs.YtmenmepdmojnfaaGreatDoor.Pure Go.Proofs.YtmenmepdmojnfaaGreatDoor.Reg Go.Joins

def DT (w : World) (B g : Nat) (A : Option Addr) (len cap p : Nat) (va : Value) (k : Nat) (ys : List Int) (W : World) : Prop :=
 (Cur W B g A len cap ∧ g < w.heap.size) ∧ w.grownBy W (some g) ∧ W.heap[p]? = some (.cells #[va] 26) ∧ w.heap.size ≤ p ∧ W.ownsRow w.heap.size 3 1 va k (ints ys) ∧ va.ownBlock ≠ some p
section
variable {w : World} {B g : Nat} {A : Option Addr} {len cap p : Nat} {va : Value} {k : Nat} {ys : List Int} {W W' : World}
theorem DT.on (h : DT w B g A len cap p va k ys W) (hc : Cur W' B g A len cap) (hg : W.grownBy W' (some g)) : DT w B g A len cap p va k ys W' := by
 obtain ⟨⟨a, a2⟩, b, d, e, f, f2⟩ := h
 have hpl := (Array.getElem?_eq_some_iff.1 d).1
 refine ⟨⟨hc, a2⟩, grown_trans b hg, (hg.block _ hpl (fun q => by injection q; omega)).trans d, e, f.kept hg (.inr (fun q => ?_)), f2⟩
 have := (f.lt g q).1
 omega
theorem DT.cell (h : DT w B g A len cap p va k ys W) : W.cell? ⟨p, 0, none⟩ = some va := (cellAt h.2.2.1 0).1.trans rfl
theorem DT.drew (h : DT w B g A len cap p va k ys W) : DT w B g A len cap p va k ys W.drew := by
 obtain ⟨⟨a, a2⟩, b, r⟩ := h
 exact ⟨⟨a, a2⟩, ⟨b.os, b.tape, b.output, b.size, b.block⟩, r⟩
theorem DT.put {gg cc j : Nat} {z : Int} (h : DT w B g A len cap p (.slice (some ⟨gg, 0, none⟩) k cc) k ys W) : DT w B g A len cap p (.slice (some ⟨gg, 0, none⟩) k cc) k (ys.set j z) (W.setCell ⟨gg, j, none⟩ (.int .i64 z)) := by
 obtain ⟨⟨a, a2⟩, b, d, e, f, f2⟩ := h
 have hg1 := (f.lt gg rfl).1
 have hne : gg ≠ p := fun q => f2 (by rw [q]; rfl)
 have hl := a.lt
 obtain ⟨hs, _⟩ := f.stored j (.int .i64 z)
 refine ⟨⟨a.setCell (by show B ≤ gg; omega) (by show g ≠ gg; omega) _, a2⟩, ⟨b.os, b.tape, b.output, by rw [Flo.setCell_size]; exact b.size, fun i hi hn => ?_⟩, ?_, e, ?_, f2⟩
 ·rw [Below.heap_setCell W ⟨gg, j, none⟩ _ i (by show i ≠ gg; omega)]
  exact b.block i hi hn
 ·rw [Below.heap_setCell W ⟨gg, j, none⟩ _ p (by show p ≠ gg; exact fun q => hne q.symm)]
  exact d
 ·rw [← ints_set]; exact hs
end
def Drawn (w : World) (e : Ending) (w' : World) : Prop :=
 ∃ (ys : List Int) (A2 : Option Addr) (n c2 : Nat), Hid (ys.length = n) ∧ n ≤ 9 ∧ e = .returned (.agg #[.slice A2 n c2]) ∧ w'.ownsRow w.heap.size 3 1 (.slice A2 n c2) n (ints ys) ∧ Below w.heap.size w w'

set_option maxRecDepth 100000 in
set_option maxHeartbeats 4000000 in
theorem drawHoles (w : World) (A : Option Addr) (len cap : Nat) (h0 : Coded w w.heap.size A len) :
  Calls Tryz.prog 87 #[.slice A len cap] w (Drawn w) := by
 have hb0 := below_alloc1 w (.cells #[.slice none 0 0] 26)
 have HC := Lib.hid (show Coded (w.alloc (.cells #[.slice none 0 0] 26)) (w.alloc (.cells #[.slice none 0 0] 26)).heap.size A len from ⟨h0.1, (h0.2.below hb0).mono hb0.size⟩)
 have HR := Lib.hid (heap_alloc_new w (.cells #[.slice none 0 0] 26))
 have HZ := Lib.hid (show (w.alloc (.cells #[.slice none 0 0] 26)).heap.size = w.heap.size + 1 by simp)
 have HB := Lib.hid hb0
 clear h0 hb0
 go_enter Tryz.func87, Tryz.ntmps87
 go_wp2_with fail
 refine (new _ A len cap HC.out).mono ?_
 rintro e w1 ⟨g, rfl, hc1, hb1⟩
 have hg0 := hc1.1
 rw [HZ.out] at hg0 hc1
 have HB1 := Lib.hid (HB.out.trans (hb1.mono HB.out.size))
 have HR1 := Lib.hid ((hb1.block w.heap.size (by rw [HZ.out]; omega)).trans HR.out)
 have HZ1 := Lib.hid (show w.heap.size + 1 ≤ w1.heap.size by have := hb1.size; rw [HZ.out] at this; exact this)
 have hgl := hc1.lt
 obtain ⟨B, hB⟩ : ∃ B, B = w.heap.size + 1 := ⟨_, rfl⟩
 rw [← hB] at hc1
 have HD := Lib.hid (fun W n (hc : Cur W B g A len cap) => below W B g A len cap n hc)
 have HAny := Lib.hid (fun W (hc : Cur W B g A len cap) => any W B g A len cap hc)
 have HCur := Lib.hid hc1
 clear hc1 hb1 HC HB HR HZ hB
 go_wp2_with fail
 refine (once w1 B g A len cap 3 HCur.out).mono ?_
 rintro e w2 ⟨b, rfl, hc2, hg2⟩
 have HC2 := Lib.hid hc2
 have HG2 := Lib.hid hg2
 clear hc2 hg2 HCur
 cases b with
 | false =>
  go_wp2_with fail
  refine (HAny.out w2 HC2.out).mono ?_
  rintro e w3 ⟨ys, A2, n, c2, hl, h9, rfl, hown, hg3⟩
  have hg13 := grown_trans HG2.out hg3
  have hz1 := HZ1.out
  have HR3 := Lib.hid ((hg13.block w.heap.size (by omega) (fun q => by injection q; omega)).trans HR1.out)
  have HB3 := Lib.hid (HB1.out.grown hg13 (by omega) (fun k hk => by injection hk with hk; omega))
  have HO := Lib.hid hown
  have hz2 := HG2.out.size
  clear hown hg3 hg13 HR1 HB1 HAny HD
  obtain ⟨c0, f0⟩ := cellAt HR3.out 0
  have hres := World.cell?_setCell_same (w := w3) ⟨w.heap.size, 0, none⟩ (.slice A2 n c2) (u := .slice none 0 0) c0
  go_wp2
  refine bodyPost_ret (v := .agg #[.slice A2 n c2]) (by simp [results, Tryz.results87, go_sem, hres]) rfl ⟨ys, A2, n, c2, hl, h9, rfl, ?_, HB3.out.setCell (Nat.le_refl _) _⟩
  exact own_base (ownsRow_setCell_below HO.out (by show w.heap.size < w2.heap.size; omega) _) (by omega)
 | true =>
  clear HAny
  go_wp2_with fail
  refine (HD.out _ 4 HC2.out).mono ?_
  rintro e w3 ⟨x3, hx3, rfl, hc3, hg3⟩
  have hb3 := hx3.2 (by omega)
  have HC3 := Lib.hid hc3
  have HG3 := Lib.hid (grown_trans HG2.out hg3)
  clear hc3 hg3 hx3 HC2 HG2
  obtain ⟨a, rfl, ha⟩ : ∃ a : Nat, x3 = (a : Int) ∧ a < 4 := ⟨x3.toNat, by omega, by omega⟩
  clear hb3
  go_wp2_with fail
  refine (HD.out _ 3 HC3.out).mono ?_
  rintro e w4 ⟨x4, hx4, rfl, hc4, hg4⟩
  have hb4 := hx4.2 (by omega)
  have HC4 := Lib.hid hc4
  have HG4 := Lib.hid (grown_trans HG3.out hg4)
  clear hc4 hg4 hx4 HC3 HG3
  obtain ⟨c, rfl, hc⟩ : ∃ c : Nat, x4 = (c : Int) ∧ c < 3 := ⟨x4.toNat, by omega, by omega⟩
  clear hb4
  obtain ⟨kw, hkw⟩ : ∃ kw, kw = a + 3 := ⟨_, rfl⟩
  obtain ⟨kh, hkh⟩ : ∃ kh, kh = c + 3 := ⟨_, rfl⟩
  have ew : (3 : Int) + (a : Int) = (kw : Int) := by omega
  have eh : (3 : Int) + (c : Int) = (kh : Int) := by omega
  have hkw3 : 3 ≤ kw := by omega
  have hkw6 : kw ≤ 6 := by omega
  have hkh3 : 3 ≤ kh := by omega
  have hkh5 : kh ≤ 5 := by omega
  clear hkw hkh ha hc
  go_wp2_with fail
  refine (sRectIn w4 kw kh (by omega) (by omega) (by omega) (by omega)).mono ?_
  rintro e w5 ⟨A3, c3, rfl, hown5, hb5⟩
  have S0 := Lib.hid (show DT w1 B g A len cap w5.heap.size (.slice A3 kh c3) kh (List.replicate kh ((2 : Int) ^ kw - 1)) (w5.alloc (.cells #[.slice A3 kh c3] 26)) from by
   have hgr := grown_below hb5 (some g)
   have hz := hb5.size
   have hz4 := HG4.out.size
   have hown := own_base hown5 hz4
   have hal := below_alloc1 w5 (.cells #[.slice A3 kh c3] 26)
   refine ⟨⟨(HC4.out.later (grown_below hb5 none) (by simp) (by simp)).later (grown_below hal none) (by simp) (by simp), hgl.2⟩, grown_trans (grown_trans HG4.out hgr) (grown_below hal _), heap_alloc_new w5 _, by omega, hown.alloc _, fun q => ?_⟩
   have := (hown.lt _ q).2
   omega)
  have HRg := Lib.hid (rng_rect (n := kh) (by omega : 1 ≤ kw) hkw6)
  have HLn := Lib.hid (List.length_replicate (n := kh) (a := (2 : Int) ^ kw - 1))
  clear hown5 hb5 HC4 HG4
  generalize List.replicate kh ((2 : Int) ^ kw - 1) = ys at S0 HRg HLn
  go_wp2_with fail
  have S1 := S0.out
  clear S0
  generalize w5.alloc (.cells #[.slice A3 kh c3] 26) = W5 at S1 ⊢
  generalize w5.heap.size = p at S1 ⊢
  refine (HD.out _ 3 S1.1.1).mono ?_
  rintro e w6 ⟨x6, hx6, rfl, hc6, hg6⟩
  have hb6 := hx6.2 (by omega)
  have S2 := S1.on hc6 hg6
  clear S1 hc6 hg6 hx6
  obtain ⟨k4, hk4, hk5⟩ : ∃ c : Nat, (1 : Int) + x6 = (c : Int) ∧ c ≤ 3 := ⟨(1 + x6).toNat, by omega, by omega⟩
  obtain ⟨gg, gc, hv, hg1, hg2⟩ := S2.2.2.2.2.1.form (by omega)
  injection hv with hA3 hz8 hcc
  subst hA3
  clear hz8 hcc hg2
  go_wp2_with fail
  clear hk4 hb6
  go_loopw [5] (fun i wr => ∃ (q : Nat) (zs : List Int), q ≤ 3 ∧ i = .int .i64 q ∧ Hid (Rng zs) ∧ Hid (zs.length = kh) ∧ DT w1 B g A len cap p (.slice (some ⟨gg, 0, none⟩) kh c3) kh zs wr) (fun i _ => (intOf i).toNat)
  case atStart => exact ⟨k4, ys, by omega, rfl, HRg, HLn, S2⟩
  case round =>
   clear S2 HRg HLn
   obtain ⟨q, zs, hq5, rfl, HRz, HLz, S3⟩ := hrel
   have hcp := S3.cell
   by_cases hq : 0 < (q : Int)
   ·have hkI : (kh : Int) - 2 ≤ 3 := by omega
    go_wp2_with fail
    refine (HD.out _ ((kh : Int) - 2) S3.1.1).mono ?_
    rintro e w7 ⟨x7, hx7, rfl, hc7, hg7⟩
    have hb7 := hx7.2 (by omega)
    have S4 := S3.on hc7 hg7
    clear S3 hc7 hg7 hx7 hcp
    obtain ⟨y, hy, hy2⟩ : ∃ c : Nat, (1 : Int) + x7 = (c : Int) ∧ c < kh := ⟨(1 + x7).toNat, by omega, by omega⟩
    go_wp2_with fail
    refine (HD.out _ 3 S4.1.1).mono ?_
    rintro e w8 ⟨x8, hx8, rfl, hc8, hg8⟩
    have hb8 := hx8.2 (by omega)
    have S5 := S4.on hc8 hg8
    clear S4 hc8 hg8 hx8
    obtain ⟨x, hx, hx3⟩ : ∃ c : Nat, (1 : Int) + x8 = (c : Int) ∧ c ≤ 3 := ⟨(1 + x8).toNat, by omega, by omega⟩
    obtain ⟨hrc, hrf⟩ := row_cell S5.2.2.2.2.1 hy2
    have hr := rng_at HRz.out (y := y) (by rw [HLz.out]; exact hy2)
    have cp := S5.cell
    have hyI : (y : Int) < (kh : Int) := by omega
    have hx8' : x < 8 := by omega
    have HSet := Lib.hid (fun v h0 h1 => rng_set HRz.out (y := y) (v := v) h0 h1)
    generalize rowD zs y = r at hrc hr
    cases hbit : bitB r x with
    | false =>
     have hz := shr_no hr.1 (by omega) hx8' hbit
     clear hbit
     go_wp2
     go_roundw
     case rel => exact ⟨q - 1, zs, by omega, by first | (congr 1; omega) | go_num, HRz, HLz, S5⟩
     case measure => (simp [intOf] <;> omega)
    | true =>
     have hz := shr_yes hr.1 (by omega) hx8' hbit
     obtain ⟨_, hv0, hv1⟩ := put_le hr.1 hr.2 hx8' hbit
     obtain ⟨hp1, hp2⟩ := pow_wrap hx8'
     have hsh : Op.shift .shl .i64 1 .i64 (x : Int) = pure (.int .i64 (2 ^ x)) := by
      rw [shift_shl .i64 .i64 1 (x : Int) (by omega) (by show (x : Int) ≤ 64; omega), Int.one_mul, Int.toNat_natCast, (pow_wrap hx8').2]
     obtain ⟨v, hv⟩ : ∃ v, v = r - 2 ^ x := ⟨_, rfl⟩
     rw [← hv] at hv0 hv1
     have hsub : wrap64 (r - 2 ^ x) = v := by rw [← hv]; unfold wrap64; omega
     have hsub2 : IntKind.i64.wrap (r - 2 ^ x) = v := by rw [← hv, IntKind.wrap_i64]; omega
     have HRv := Lib.hid (HSet.out v hv0 hv1)
     clear hbit hv hv0 hv1 HSet
     go_wp2_with fail
     go_still_tail 12, (by kernel_rfl)
     change wpList _ _ _ _ _ w8.drew
     have S6 := S5.drew
     clear hrc hrf cp S5 hsh
     generalize w8.drew = W8 at S6 ⊢
     obtain ⟨hrc, hrf⟩ := row_cell S6.2.2.2.2.1 hy2
     have S7 := Lib.hid (S6.put (j := y) (z := v))
     have HLv := Lib.hid (show (zs.set y v).length = kh by rw [List.length_set]; exact HLz.out)
     clear S6 hsub hsub2
     go_wp2
     go_roundw
     case rel => exact ⟨q - 1, zs.set y v, by omega, by first | (congr 1; omega) | go_num, HRv, HLv, S7.out⟩
     case measure => (simp [intOf] <;> omega)
   ·obtain rfl : q = 0 := by omega
    have hz1 := HZ1.out
    have HR3 := Lib.hid ((S3.2.1.block w.heap.size (by omega) (fun q => by injection q; omega)).trans HR1.out)
    have HB3 := Lib.hid (HB1.out.grown S3.2.1 (by omega) (fun k hk => by injection hk with hk; omega))
    have HO := Lib.hid S3.2.2.2.2.1
    clear S3 HR1 HB1 HD
    obtain ⟨c0, f0⟩ := cellAt HR3.out 0
    have hres := World.cell?_setCell_same (w := wr) ⟨w.heap.size, 0, none⟩ (.slice (some ⟨gg, 0, none⟩) kh c3) (u := .slice none 0 0) c0
    go_wp2
    refine bodyPost_ret (v := .agg #[.slice (some ⟨gg, 0, none⟩) kh c3]) (by simp [results, Tryz.results87, go_sem, hres]) rfl ⟨zs, _, kh, c3, HLz, by omega, rfl, ?_, HB3.out.setCell (Nat.le_refl _) _⟩
    exact own_base (ownsRow_setCell_below HO.out (by show w.heap.size < w1.heap.size; omega) _) (by omega)
end Go.Proofs.YtmenmepdmojnfaaGreatDoor.Draw

namespace Go.Proofs.YtmenmepdmojnfaaGreatDoor.Tile
set_option linter.unusedVariables false
set_option maxRecDepth 100000
set_option linter.unusedSimpArgs false
open Go.RowKit Go.Proofs.YtmenmepdmojnfaaGreatDoor.Pure Go.Proofs.YtmenmepdmojnfaaGreatDoor.Cell Go.Proofs.YtmenmepdmojnfaaGreatDoor.Reg Go.Proofs.YtmenmepdmojnfaaGreatDoor.Draw Go.Joins
open Go.Proofs.YtmenmepdmojnfaaGreatDoor.Cnt hiding own_cell

def DrewV (w : World) (B g : Nat) (A : Option Addr) (len cap : Nat) (e : Ending) (w' : World) : Prop :=
 ∃ (ys : List Int) (A2 : Option Addr) (n c2 : Nat), Hid (okR ys ∧ 1 ≤ tilesR ys ∧ tilesR ys ≤ 60) ∧ Hid (ys.length = n) ∧ e = .returned (.agg #[.slice A2 n c2]) ∧ w'.ownsRow w.heap.size 3 1 (.slice A2 n c2) n (ints ys) ∧ w.grownBy w' (some g) ∧ Cur w' B g A len cap
section
variable {w W W' : World} {B g : Nat} {A : Option Addr} {len cap : Nat}
theorem few_end {A2 : Option Addr} {n c2 base : Nat} {ys : List Int} (h : Dt w B g A len cap W) (hb : w.heap.size < base) (ho : W.ownsRow base 3 1 (.slice A2 n c2) n (ints ys)) (hok : Hid (okR ys ∧ 1 ≤ tilesR ys ∧ tilesR ys ≤ 60)) (hl : Hid (ys.length = n)) :
  (W.setCell ⟨w.heap.size, 0, none⟩ (.slice A2 n c2)).cell? ⟨w.heap.size, 0, none⟩ = some (.slice A2 n c2) ∧ DrewV w B g A len cap (.returned (.agg #[.slice A2 n c2])) (W.setCell ⟨w.heap.size, 0, none⟩ (.slice A2 n c2)) := by
 refine ⟨World.cell?_setCell_same (w := W) _ _ h.cell.1, ys, A2, n, c2, hok, hl, rfl, ?_, ?_, Cur.setCell h.1.1 (p := ⟨w.heap.size, 0, none⟩) (by have := h.1.1.1; have := h.1.2; show B ≤ w.heap.size; omega) (by have := h.1.2; show g ≠ w.heap.size; omega) _⟩
 ·exact own_base (ownsRow_setCell_below ho (by show w.heap.size < base; omega) _) (by omega)
 ·have b := h.2.1
  exact ⟨b.os, b.tape, b.output, by have := b.size; simpa [World.setCell] using this, fun i hi hne => (Below.heap_setCell W _ _ _ (by show i ≠ w.heap.size; omega)).trans (b.block i hi hne)⟩
theorem Dt.put (h : Dt w B g A len cap W) {p : Nat} (hp : w.heap.size < p) (v : Value) : Dt w B g A len cap (W.setCell ⟨p, 0, none⟩ v) := by
 obtain ⟨⟨h0, h1⟩, h2, h3, h4⟩ := h
 exact ⟨⟨h0.setCell (p := ⟨p, 0, none⟩) (by have := h0.1; show B ≤ p; omega) (by show g ≠ p; omega) v, h1⟩, ⟨h2.os, h2.tape, h2.output, by have := h2.size; simpa [World.setCell] using this, fun i hi hne => (Below.heap_setCell W _ _ _ (by show i ≠ p; omega)).trans (h2.block i hi hne)⟩, by simpa [World.setCell] using h3, (Below.heap_setCell W _ _ _ (by show w.heap.size ≠ p; omega)).trans h4⟩
end
theorem rect_43 : okR (rectR 4 3) ∧ 1 ≤ tilesR (rectR 4 3) ∧ tilesR (rectR 4 3) ≤ 60 := by
 have h := rect_tiles (a := 4) (b := 3) (by omega) (by omega)
 have e : W (gq 4 3) 64 0 0 = 11 := by decide +kernel
 rw [e] at h
 have h2 : tilesR (rectR 4 3) = 11 := by
  show tilesR (rectR ((4 : Nat) : Int) ((3 : Nat) : Int)) = 11
  rw [h]; unfold wrap64; omega
 exact ⟨rect_okT (by omega), by omega, by omega⟩
theorem coded4 (W : World) (a b c d : Int) (ha : 0 ≤ a ∧ a < 256) (hb : 0 ≤ b ∧ b < 256) (hc : 0 ≤ c ∧ c < 256) (hd : 0 ≤ d ∧ d < 256) : Coded (W.alloc (.cells #[.int .u8 a, .int .u8 b, .int .u8 c, .int .u8 d] 5)) (W.alloc (.cells #[.int .u8 a, .int .u8 b, .int .u8 c, .int .u8 d] 5)).heap.size (some ⟨W.heap.size, 0, none⟩) 4 := by
 refine ⟨by omega, W.heap.size, 0, fun j => [a, b, c, d].getD j 0, fun _ => ⟨by simp, rfl⟩, fun j hj => ?_⟩
 have hbl := heap_alloc_new W (.cells #[.int .u8 a, .int .u8 b, .int .u8 c, .int .u8 d] 5)
 rw [Nat.zero_add]
 rcases j with _ | _ | _ | _ | j
 ·exact ⟨(cell_of_row _ _ 0 _ _ _ hbl).trans rfl, by simp; omega, by simp; omega⟩
 ·exact ⟨(cell_of_row _ _ 1 _ _ _ hbl).trans rfl, by simp; omega, by simp; omega⟩
 ·exact ⟨(cell_of_row _ _ 2 _ _ _ hbl).trans rfl, by simp; omega, by simp; omega⟩
 ·exact ⟨(cell_of_row _ _ 3 _ _ _ hbl).trans rfl, by simp; omega, by simp; omega⟩
 ·omega

set_option maxHeartbeats 4000000 in
theorem fewRegion (w : World) (B g : Nat) (A : Option Addr) (len cap : Nat) (h0 : Cur w B g A len cap) :
  Calls Tryz.prog 61 #[.pointer (some ⟨g, 0, none⟩)] w (DrewV w B g A len cap) := by
 have hgw := h0.lt
 have T0 := Lib.hid (show Dt w B g A len cap (w.alloc (.cells #[.slice none 0 0] 26)) from
  ⟨⟨h0.alloc _, hgw.2⟩, World.grownBy_alloc w _ _, by simp, heap_alloc_new w _⟩)
 have HD := Lib.hid (fun W n (hc : Cur W B g A len cap) => below W B g A len cap n hc)
 have HOn := Lib.hid (fun W (hc : Cur W B g A len cap) => once W B g A len cap 4 hc)
 have HRg := Lib.hid (fun W (hc : Cur W B g A len cap) => Draw.region W B g A len cap hc)
 clear h0 hgw
 go_enter Tryz.func61, Tryz.ntmps61
 go_wp2_with fail
 go_loopw [3] (fun kv wr => ∃ k : Nat, k ≤ 6 ∧ kv = .int .i64 (k : Int) ∧ Dt w B g A len cap wr) (fun kv _ => 6 - (intOf kv).toNat)
 case atStart => exact ⟨0, by omega, rfl, T0.out⟩
 case round =>
  clear T0
  obtain ⟨k, hk, rfl, T1⟩ := hrel
  by_cases hlt : k < 6
  ·go_wp2_with fail
   refine (HRg.out _ T1.1.1).mono ?_
   rintro e w2 ⟨ys, A2, n, c2, ho, hl, rfl, hown, hg, _, hc⟩
   have T2 := T1.on hc hg
   have hz1 := T1.2.2.1
   have hz12 := hg.size
   clear T1 hc hg
   go_upto_region 5 with fail
   have hba := below_alloc1 w2 (.cells #[.slice A2 n c2] 26)
   have hbl := heap_alloc_new w2 (.cells #[.slice A2 n c2] 26)
   have T3 := T2.later hba
   have own3 := own_below hown hba (Nat.le_refl _)
   have hpw : w.heap.size < w2.heap.size := by omega
   generalize w2.alloc (.cells #[.slice A2 n c2] 26) = W3 at hbl T3 own3 ⊢
   generalize w2.heap.size = p at hbl hpw ⊢
   have hpl := (Array.getElem?_eq_some_iff.1 hbl).1
   have hgp : g < w.heap.size := T3.1.2
   clear hba hown T2
   go_wp2_with fail
   refine (HOn.out W3 T3.1.1).mono ?_
   rintro e w4 ⟨b, rfl, hc4, hg4⟩
   have T4 := T3.on hc4 hg4
   have hb4 := (hg4.block p hpl (fun q => by injection q; omega)).trans hbl
   have own4 := own3.kept hg4 (by
    cases hv : (Value.slice A2 n c2).ownBlock with
    | none => exact .inl rfl
    | some q => right; intro e; injection e with e; have := (own3.lt q hv).1; omega)
   have hn9 : n ≤ 9 := by have := ho.out.1; have := hl.out; omega
   clear T3 hbl own3 hc4 hg4 hpl
   cases b with
   | false =>
    clear ho
    have cp := (cellAt hb4 0).1.trans (show _ = some (Value.slice A2 n c2) from rfl)
    go_wp2_with fail
    refine (sRegionOk w4 A2 n c2 w4.heap.size ys hl.out (by omega) (rowB_own own4) (Nat.le_refl _)).mono ?_
    rintro e w5 ⟨rfl, hb5⟩
    have T5 := T4.later hb5
    have own5 := own_below own4 hb5 (Nat.le_refl _)
    have hp5 := (hb5.block p (Array.getElem?_eq_some_iff.1 hb4).1).trans hb4
    have cp5 := (cellAt hp5 0).1.trans (show _ = some (Value.slice A2 n c2) from rfl)
    clear cp T4 own4 hb4 hb5
    by_cases hok : okR ys
    ·rw [okRB_of hok]
     go_wp2_with fail
     refine (sCount w5 A2 n c2 w5.heap.size ys hl.out hok (rowB_own own5) (Nat.le_refl _)).mono ?_
     rintro e w6 ⟨rfl, hb6⟩
     have T6 := T5.later hb6
     have own6 := own_below own5 hb6 (Nat.le_refl _)
     have hp6 := (hb6.block p (Array.getElem?_eq_some_iff.1 hp5).1).trans hp5
     have cp6 := (cellAt hp6 0).1.trans (show _ = some (Value.slice A2 n c2) from rfl)
     have HTi := Lib.hid (show ∀ h : 1 ≤ wrap64 (tiles (gR ys) : Nat) ∧ wrap64 (tiles (gR ys) : Nat) ≤ 60, okR ys ∧ 1 ≤ tilesR ys ∧ tilesR ys ≤ 60 from fun h => ⟨hok, by rw [tilesR_ok hok]; exact h⟩)
     clear cp5 T5 own5 hp5 hb6 hok
     generalize wrap64 (tiles (gR ys) : Nat) = t at HTi ⊢
     go_wp2_with fail
     refine (l01In t 1 60 w6).mono ?_
     rintro e w7 ⟨rfl, rfl⟩
     by_cases hin : 1 ≤ t ∧ t ≤ 60
     ·rw [inB_of hin]
      have HEnd := Lib.hid (few_end T6 (by omega) own6 (Lib.hid (HTi.out hin)) hl)
      obtain ⟨cr, fr⟩ := T6.cell
      have hres := HEnd.out.1
      clear own6 T6 hin HTi hl
      go_wp2
      exact bodyPost_ret (v := .agg #[.slice A2 n c2]) (by simp [results, Tryz.results61, go_sem, hres]) rfl HEnd.out.2
     ·rw [inB_not hin]
      have HT6 := Lib.hid T6
      clear own6 T6 hin HTi hl cp6
      go_wp2
      go_roundw
      case rel => exact ⟨k + 1, by omega, by go_num, HT6.out⟩
      case measure => (simp [intOf] <;> omega)
    ·rw [okRB_not hok]
     have HT5 := Lib.hid T5
     clear own5 T5 hl cp5
     go_wp2
     go_roundw
     case rel => exact ⟨k + 1, by omega, by go_num, HT5.out⟩
     case measure => (simp [intOf] <;> omega)
   | true =>
    clear own4 hl ho hn9
    go_wp2_with fail
    refine (HD.out w4 256 T4.1.1).mono ?_
    rintro e v0 ⟨xa, hxa, rfl, hcn, hgn⟩
    have Sa := T4.on hcn hgn
    have ba := (hgn.block p (Array.getElem?_eq_some_iff.1 hb4).1 (fun q => by injection q; omega)).trans hb4
    have ha := hxa.2 (by omega)
    have ea : IntKind.u8.wrap xa = xa := by rw [IntKind.wrap_u8]; omega
    clear hcn hgn hxa T4 hb4
    go_wp2_with fail
    refine (HD.out v0 256 Sa.1.1).mono ?_
    rintro e v1 ⟨xb, hxb, rfl, hcn, hgn⟩
    have Sb := Sa.on hcn hgn
    have bb := (hgn.block p (Array.getElem?_eq_some_iff.1 ba).1 (fun q => by injection q; omega)).trans ba
    have hb := hxb.2 (by omega)
    have eb : IntKind.u8.wrap xb = xb := by rw [IntKind.wrap_u8]; omega
    clear hcn hgn hxb Sa ba
    go_wp2_with fail
    refine (HD.out v1 256 Sb.1.1).mono ?_
    rintro e v2 ⟨xc, hxc, rfl, hcn, hgn⟩
    have Sc := Sb.on hcn hgn
    have bc := (hgn.block p (Array.getElem?_eq_some_iff.1 bb).1 (fun q => by injection q; omega)).trans bb
    have hc := hxc.2 (by omega)
    have ec : IntKind.u8.wrap xc = xc := by rw [IntKind.wrap_u8]; omega
    clear hcn hgn hxc Sb bb
    go_wp2_with fail
    refine (HD.out v2 256 Sc.1.1).mono ?_
    rintro e v3 ⟨xd, hxd, rfl, hcn, hgn⟩
    have Sd := Sc.on hcn hgn
    have bd := (hgn.block p (Array.getElem?_eq_some_iff.1 bc).1 (fun q => by injection q; omega)).trans bc
    have hd := hxd.2 (by omega)
    have ed : IntKind.u8.wrap xd = xd := by rw [IntKind.wrap_u8]; omega
    clear hcn hgn hxd Sc bc
    go_wp2_with fail
    have hba := below_alloc1 v3 (.cells #[.int .u8 xa, .int .u8 xb, .int .u8 xc, .int .u8 xd] 5)
    have Hco := coded4 v3 xa xb xc xd ha hb hc hd
    have S5 := Sd.later hba
    have b5 := (hba.block p (Array.getElem?_eq_some_iff.1 bd).1).trans bd
    have hz5 := S5.2.2.1
    generalize v3.alloc (.cells #[.int .u8 xa, .int .u8 xb, .int .u8 xc, .int .u8 xd] 5) = W5 at Hco S5 b5 hz5 ⊢
    clear Sd bd hba ha hb hc hd ea eb ec ed
    refine (drawHoles W5 _ 4 4 Hco).mono ?_
    rintro e w8 ⟨ys, A3, n3, c3, hl, hn9, rfl, hown8, hb8⟩
    have S8 := S5.later hb8
    have hpl5 := (Array.getElem?_eq_some_iff.1 b5).1
    have b8 := (hb8.block p hpl5).trans b5
    have cp8 := (cellAt b8 0).1.trans (show _ = some (Value.slice A2 n c2) from rfl)
    have fp8 := (cellAt b8 0).2
    have S9 := S8.put hpw (.slice A3 n3 c3)
    have own9 := ownsRow_setCell_below hown8 (a := ⟨p, 0, none⟩) (by show p < W5.heap.size; omega) (.slice A3 n3 c3)
    have b9 : (w8.setCell ⟨p, 0, none⟩ (.slice A3 n3 c3)).heap[p]? = some (.cells #[.slice A3 n3 c3] 26) := by
     obtain ⟨hp, he⟩ := Array.getElem?_eq_some_iff.1 b8
     simp [World.setCell, b8, Array.getElem?_modify]
    clear S8 hown8 b8 S5 b5 Hco hb8
    go_upto_region 7 with fail
    clear cp8 fp8
    generalize w8.setCell ⟨p, 0, none⟩ (.slice A3 n3 c3) = W9 at S9 own9 b9 ⊢
    have cp := (cellAt b9 0).1.trans (show _ = some (Value.slice A3 n3 c3) from rfl)
    go_wp2_with fail
    refine (sRegionOk W9 A3 n3 c3 W9.heap.size ys hl.out (by omega) (rowB_own own9) (Nat.le_refl _)).mono ?_
    rintro e w5 ⟨rfl, hb5⟩
    have T5 := S9.later hb5
    have own5 := own_below own9 hb5 (Nat.le_refl _)
    have hp5 := (hb5.block p (Array.getElem?_eq_some_iff.1 b9).1).trans b9
    have cp5 := (cellAt hp5 0).1.trans (show _ = some (Value.slice A3 n3 c3) from rfl)
    clear cp S9 own9 b9 hb5
    by_cases hok : okR ys
    ·rw [okRB_of hok]
     go_wp2_with fail
     refine (sCount w5 A3 n3 c3 w5.heap.size ys hl.out hok (rowB_own own5) (Nat.le_refl _)).mono ?_
     rintro e w6 ⟨rfl, hb6⟩
     have T6 := T5.later hb6
     have own6 := own_below own5 hb6 (Nat.le_refl _)
     have hp6 := (hb6.block p (Array.getElem?_eq_some_iff.1 hp5).1).trans hp5
     have cp6 := (cellAt hp6 0).1.trans (show _ = some (Value.slice A3 n3 c3) from rfl)
     have HTi := Lib.hid (show ∀ h : 1 ≤ wrap64 (tiles (gR ys) : Nat) ∧ wrap64 (tiles (gR ys) : Nat) ≤ 60, okR ys ∧ 1 ≤ tilesR ys ∧ tilesR ys ≤ 60 from fun h => ⟨hok, by rw [tilesR_ok hok]; exact h⟩)
     clear cp5 T5 own5 hp5 hb6 hok
     generalize wrap64 (tiles (gR ys) : Nat) = t at HTi ⊢
     go_wp2_with fail
     refine (l01In t 1 60 w6).mono ?_
     rintro e w7 ⟨rfl, rfl⟩
     by_cases hin : 1 ≤ t ∧ t ≤ 60
     ·rw [inB_of hin]
      have HEnd := Lib.hid (few_end T6 (by omega) own6 (Lib.hid (HTi.out hin)) hl)
      obtain ⟨cr, fr⟩ := T6.cell
      have hres := HEnd.out.1
      clear own6 T6 hin HTi hl
      go_wp2
      exact bodyPost_ret (v := .agg #[.slice A3 n3 c3]) (by simp [results, Tryz.results61, go_sem, hres]) rfl HEnd.out.2
     ·rw [inB_not hin]
      have HT6 := Lib.hid T6
      clear own6 T6 hin HTi hl cp6
      go_wp2
      go_roundw
      case rel => exact ⟨k + 1, by omega, by go_num, HT6.out⟩
      case measure => (simp [intOf] <;> omega)
    ·rw [okRB_not hok]
     have HT5 := Lib.hid T5
     clear own5 T5 hl cp5
     go_wp2
     go_roundw
     case rel => exact ⟨k + 1, by omega, by go_num, HT5.out⟩
     case measure => (simp [intOf] <;> omega)
  ·go_wp2_with fail
   refine (sRectangle wr 4 3).mono ?_
   rintro e w4 ⟨A2, c2, rfl, hown, hb4⟩
   have hz3 := T1.2.2.1
   have T4 := T1.later hb4
   have HOk := Lib.hid rect_43
   generalize rectR 4 3 = ys at hown HOk ⊢
   have HEnd := Lib.hid (few_end T4 (by omega) hown HOk (Lib.hid rfl))
   obtain ⟨cr, fr⟩ := T4.cell
   have hres := HEnd.out.1
   clear T4 T1 hown hb4 hz3 HOk
   generalize ys.length = n at HEnd hres ⊢
   go_wp2
   exact bodyPost_ret (v := .agg #[.slice A2 n c2]) (by simp [results, Tryz.results61, go_sem, hres]) rfl HEnd.out.2
end Go.Proofs.YtmenmepdmojnfaaGreatDoor.Tile

namespace Go.Proofs.YtmenmepdmojnfaaGreatDoor.LisU
set_option linter.unusedVariables false
set_option linter.unusedSimpArgs false
set_option maxRecDepth 100000
open Go.RowKit Go.Proofs.YtmenmepdmojnfaaGreatDoor.Pure Go.Proofs.YtmenmepdmojnfaaGreatDoor.Cell Go.Proofs.YtmenmepdmojnfaaGreatDoor.Dms Go.Proofs.YtmenmepdmojnfaaGreatDoor.Til Go.Proofs.YtmenmepdmojnfaaGreatDoor.Dss Go.Proofs.YtmenmepdmojnfaaGreatDoor.Lis Go.Joins
open Go.Proofs.YtmenmepdmojnfaaGreatDoor.Cnt (gR tiles gR_in gR_out idxs idxs_cells tilesR tilesR_ok tilesR_not)
open Go.Proofs.YtmenmepdmojnfaaGreatDoor.Prof (sCountTilings)
open Go.Proofs.YtmenmepdmojnfaaGreatDoor.Reg hiding add_none

def allR (xs : List Int) : List (List Dm) := if okR xs then allT xs else []
theorem allR_ok {xs : List Int} (h : okR xs) : allR xs = allT xs := if_pos h
theorem allR_not {xs : List Int} (h : ¬ okR xs) : allR xs = [] := if_neg h
def halfR (xs : List Int) : Nat := (cellsR xs).length / 2
theorem allR_half {xs : List Int} : ∀ L ∈ allR xs, L.length = halfR xs := by
 intro L hL
 by_cases h : okR xs
 ·rw [allR_ok h] at hL; exact all_half h L hL
 ·rw [allR_not h] at hL; cases hL
def SSP (L : List (List Dm)) (h : Nat) (w : World) (e : Ending) (w' : World) : Prop := ∃ A cap, e = .returned (.slice A L.length cap) ∧ SSIn w' w.heap.size w'.heap.size A L.length cap h L ∧ Below w.heap.size w w'
def listR (xs : List Int) : List (List Dm) := if (allR xs).length ≤ 300 then allR xs else []
theorem listR_half {xs : List Int} : ∀ L ∈ listR xs, L.length = halfR xs := by
 intro L hL
 unfold listR at hL
 split at hL
 ·exact allR_half L hL
 ·cases hL
theorem halfR_le (xs : List Int) : halfR xs ≤ 32 := by unfold halfR; have := cellsR_length xs; omega
theorem allR_count (xs : List Int) : ((allR xs).length : Int) = tilesR xs := by
 by_cases h : okR xs
 ·rw [allR_ok h, all_length h]
 ·rw [allR_not h, tilesR_not h]; rfl

set_option maxHeartbeats 1000000 in
theorem sListTilings (w : World) (A : Option Addr) (n cap B : Nat) (xs : List Int) (hx : xs.length = n) (hn : (n : Int) ≤ 9223372036854775807) (hrow : RowB w B A xs) (hB : B ≤ w.heap.size) :
  Calls Tryz.prog 52 #[.agg #[.slice A n cap]] w (SSP (listR xs) (halfR xs) w) := by
 have HCt := Lib.hid (fun W (hb : Below w.heap.size w W) => sCountTilings W A n cap B xs hx hn (hrow.below hb hB) (by have := hb.size; omega))
 have HR := Lib.hid (Rg.new w (.slice A n cap))
 have HS := Lib.hid (below_alloc1 w (.cells #[.slice A n cap] 26))
 have hcnt := allR_count xs
 have HIn := Lib.hid (fun W => l01In (tilesR xs) 1 300 W)
 by_cases hin : 1 ≤ tilesR xs ∧ tilesR xs ≤ 300
 ·have ho : okR xs := by
   by_cases q : okR xs
   ·exact q
   ·rw [tilesR_not q] at hin; omega
  rw [inB_of hin] at HIn
  have HL := Lib.hid (fun W (hb : Below w.heap.size w W) (g : Nat) (hd : Hd W g 0 []) => by
   have := sList xs n hx ho A cap B (halfR xs) rfl 65 W (hrow.below hb hB) (by have := hb.size; omega) [] 0 (Beg.zero xs) (Nat.zero_le _) (fun i hi => by omega) (by have := unc_length [] (cellsR xs); have := cellsR_length xs; omega) g 0 hd (by simp) 300 (by omega) (Nat.le_refl _)
   rw [show List.take 300 (cont xs []) = listR xs by
    unfold listR
    rw [if_pos (by omega), cont_nil, allR_ok ho]
    rw [allR_ok ho] at hcnt
    exact List.take_of_length_le (by show (allT xs).length ≤ 300; omega)] at this
   exact show Calls Tryz.prog 84 #[.agg #[.slice A n cap], .slice (some ⟨g, 0, none⟩) 0 0, .int .i64 300] W (SSPost (listR xs) (halfR xs) W) from this)
  have HMd := Lib.hid (fun (W : World) => World.ownsRow_made (base := 0) (e := 73) (size := 3) W #[] 0 (Nat.zero_le _) (by unfold maxLen; omega) rfl)
  generalize tilesR xs = q at HCt HIn
  generalize halfR xs = h at HL ⊢
  generalize listR xs = L at HL ⊢
  clear hcnt hin ho hx hn hrow hB
  go_enter Tryz.func52, Tryz.ntmps52
  go_wp2_with fail
  have c0 := HR.out.c0
  have R0 := HR.out
  have B0 := HS.out
  generalize w.alloc (.cells #[.slice A n cap] 26) = W0 at c0 R0 B0 ⊢
  refine (HCt.out _ B0).mono ?_
  rintro e w1 ⟨rfl, hb1⟩
  have R1 := R0.on hb1
  have B1 := B0.trans (hb1.mono B0.size)
  clear R0 B0 hb1 HR HS HCt c0
  go_wp2_with fail
  refine (HIn.out _).mono ?_
  rintro e w2 ⟨rfl, hw⟩
  have hw := hw.symm
  subst hw
  have c1 := R1.c0
  have B2 := B1.alloc B1.size (.cells #[] 73)
  have hsz := B1.size
  go_wp2_with fail
  refine (HL.out _ B2 _ (HMd.out w1)).mono ?_
  rintro e w3 ⟨g, c, rfl, hss, hb3⟩
  have HP := Lib.hid (show SSP L h w (.returned (.slice (some ⟨g, 0, none⟩) L.length c)) w3 from ⟨_, c, rfl, hss.wide (by simp; omega) (Nat.le_refl _), B2.trans (hb3.mono B2.size)⟩)
  clear hss hb3 HL HMd
  go_wp2
  go_ret
  exact HP.out
 ·have hE : listR xs = [] := by
   unfold listR
   split
   ·exact List.eq_nil_of_length_eq_zero (by omega)
   ·rfl
  rw [inB_not hin] at HIn
  have HP := Lib.hid (fun (w1 : World) (hb : Below w.heap.size w w1) => show SSP (listR xs) (halfR xs) w (.returned (.slice (some ⟨w1.heap.size, 0, none⟩) 0 0)) (w1.alloc (.cells #[] 27)) by
   rw [hE]
   have hn := World.ownsRow_made (base := w.heap.size) (e := 27) (size := 1) w1 #[] 0 hb.size (by unfold maxLen; omega) rfl
   exact ⟨_, 0, rfl, ⟨[], ⟨hn, fun g hg => (hn.lt g hg).2⟩, Ins.nil _ _ _ _⟩, hb.alloc hb.size _⟩)
  generalize tilesR xs = q at HCt HIn
  clear hcnt hin hE hx hn hrow hB
  go_enter Tryz.func52, Tryz.ntmps52
  go_wp2_with fail
  have c0 := HR.out.c0
  have B0 := HS.out
  generalize w.alloc (.cells #[.slice A n cap] 26) = W0 at c0 B0 ⊢
  refine (HCt.out _ B0).mono ?_
  rintro e w1 ⟨rfl, hb1⟩
  have B1 := B0.trans (hb1.mono B0.size)
  clear B0 hb1 HR HS HCt c0
  go_wp2_with fail
  refine (HIn.out _).mono ?_
  rintro e w2 ⟨rfl, hw⟩
  have hw := hw.symm
  subst hw
  go_wp2
  go_ret
  exact HP.out _ B1

end Go.Proofs.YtmenmepdmojnfaaGreatDoor.LisU

namespace Go.Proofs.YtmenmepdmojnfaaGreatDoor.Tile
set_option linter.unusedVariables false
set_option maxRecDepth 100000
set_option linter.unusedSimpArgs false
open Go.RowKit Go.Joins
open Go.Proofs.YtmenmepdmojnfaaGreatDoor.Cnt (tilesR)

theorem own_kept {w w' : World} {base e size n g : Nat} {v : Value} {xs : List Value} (h : w.ownsRow base e size v n xs) (hg : w.grownBy w' (some g)) (hb : g < base) : w'.ownsRow base e size v n xs :=
 h.kept hg (by
  cases hv : v.ownBlock with
  | none => exact .inl rfl
  | some q => right; intro e; injection e with e; have := (h.lt q hv).1; omega)
end Go.Proofs.YtmenmepdmojnfaaGreatDoor.Tile
