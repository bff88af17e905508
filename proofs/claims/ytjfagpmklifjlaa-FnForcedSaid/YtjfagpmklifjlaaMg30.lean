/- DrawR, DrT, RegBox in one text. -/
import Derived.Test.YtjfagpmklifjlaaMg29
import Derived.Test.YtjfagpmklifjlaaMg14
import Derived.Test.YtjfagpmklifjlaaMg08
import Derived.StillTailTactics
import Derived.Test.YtjfagpmklifjlaaMg16
import Derived.Test.YtjfagpmklifjlaaMg07

namespace Go.Proofs.Ytjfagpmklifjlaa.Draw
set_option linter.unusedVariables false
open Go.RowKit Go.Proofs.Ytjfagpmklifjlaa.Pure Go.Proofs.Ytjfagpmklifjlaa.Reg Go.Joins

theorem Cur.later {w w' : World} {B g : Nat} {A : Option Addr} {len cap : Nat} (h : Cur w B g A len cap) {row : Option Nat} (hg : w.grownBy w' row) (hr : row ≠ some g) (hB : ∀ k, row = some k → B ≤ k) : Cur w' B g A len cap := by
 obtain ⟨hBg, hlen, hrd, i, x, hi, hbl⟩ := h
 have hgs := (Array.getElem?_eq_some_iff.1 hbl).1
 refine ⟨hBg, hlen, ?_, i, x, hi, (hg.block g hgs (fun e => hr e.symm)).trans hbl⟩
 obtain ⟨b, off, f, hA, hc⟩ := hrd
 refine ⟨b, off, f, hA, fun j hj => ⟨?_, (hc j hj).2⟩⟩
 have hb := (hA (by omega)).1
 rw [World.cell?_of_block (w := w) (w' := w') (a := ⟨b, off + j, none⟩) (hg.block b (by omega) (fun e => by have := hB b e.symm; omega))]
 exact (hc j hj).1
theorem grown_below {w w' : World} (h : Below w.heap.size w w') (row : Option Nat) : w.grownBy w' row := ⟨h.os, h.tape, h.output, h.size, fun i hi _ => h.block i hi⟩

set_option maxHeartbeats 400000 in
theorem once (w : World) (B g : Nat) (A : Option Addr) (len cap : Nat) (n : Int) (h0 : Cur w B g A len cap) :
  Calls Try.prog 90 #[.pointer (some ⟨g, 0, none⟩), .int .i64 n] w fun e w' => ∃ b : Bool, e = .returned (.bool b) ∧ Cur w' B g A len cap ∧ w.grownBy w' (some g) := by
 have HB := Lib.hid (below w B g A len cap n h0)
 clear h0
 go_enter Try.func90, Try.ntmps90
 go_wp2_with fail
 refine HB.out.mono ?_
 rintro e w1 ⟨x, _, rfl, hc, hg⟩
 have HC := Lib.hid hc
 clear hc
 go_wp2
 go_ret
 exact ⟨_, rfl, HC.out, hg⟩

def Rng (ys : List Int) : Prop := ∀ r ∈ ys, 0 ≤ r ∧ r ≤ 63
theorem rng_at {ys : List Int} (h : Rng ys) {y : Nat} (hy : y < ys.length) : 0 ≤ rowD ys y ∧ rowD ys y ≤ 63 := by
 rw [rowD_at (List.getElem?_eq_getElem hy)]; exact h _ (List.getElem_mem hy)
theorem rng_set {ys : List Int} (h : Rng ys) {y : Nat} {v : Int} (h0 : 0 ≤ v) (h1 : v ≤ 63) : Rng (ys.set y v) := by
 intro r hr
 rcases List.mem_or_eq_of_mem_set hr with k | rfl
 ·exact h r k
 ·exact ⟨h0, h1⟩
theorem ok_of_rng {ys : List Int} (h : Rng ys) (hl : ys.length ≤ 8) : okR ys := ⟨hl, fun r hr => by have := h r hr; omega⟩
theorem ok_set {ys : List Int} (h : Rng ys) (hl : ys.length ≤ 8) {y : Nat} {v : Int} (h0 : 0 ≤ v) (h1 : v ≤ 255) : okR (ys.set y v) := by
 refine ⟨by rw [List.length_set]; exact hl, fun r hr => ?_⟩
 rcases List.mem_or_eq_of_mem_set hr with k | rfl
 ·have := h r k; omega
 ·exact ⟨h0, h1⟩
theorem rng_rect {k n : Nat} (h1 : 1 ≤ k) (h6 : k ≤ 6) : Rng (List.replicate n ((2 : Int) ^ k - 1)) := by
 intro r hr
 rw [(List.mem_replicate.1 hr).2]
 have hcs : k = 1 ∨ k = 2 ∨ k = 3 ∨ k = 4 ∨ k = 5 ∨ k = 6 := by omega
 rcases hcs with rfl | rfl | rfl | rfl | rfl | rfl <;> decide
theorem or_table : ∀ r : Fin 64, ∀ k : Fin 6, 0 ≤ bits .or .i64 ((r.val : Nat) : Int) (3 * 2 ^ k.val) ∧ bits .or .i64 ((r.val : Nat) : Int) (3 * 2 ^ k.val) ≤ 255 := by decide +kernel
theorem or_in {r : Int} (h0 : 0 ≤ r) (h1 : r ≤ 63) {k : Nat} (hk : k < 6) : 0 ≤ bits .or .i64 r (3 * 2 ^ k) ∧ bits .or .i64 r (3 * 2 ^ k) ≤ 255 := by
 have h := or_table ⟨r.toNat, by omega⟩ ⟨k, hk⟩
 have e : ((r.toNat : Nat) : Int) = r := Int.toNat_of_nonneg h0
 simp only [e] at h
 exact h
theorem wrap3 {k : Nat} (hk : k < 6) : IntKind.i64.wrap (3 * (2 : Int) ^ k) = 3 * 2 ^ k := by
 have hcs : k = 0 ∨ k = 1 ∨ k = 2 ∨ k = 3 ∨ k = 4 ∨ k = 5 := by omega
 rcases hcs with rfl | rfl | rfl | rfl | rfl | rfl <;> (rw [IntKind.wrap_i64]; decide)
theorem wrap3' {k : Nat} (hk : k < 6) : wrap64 (3 * (2 : Int) ^ k) = 3 * 2 ^ k := by
 have hcs : k = 0 ∨ k = 1 ∨ k = 2 ∨ k = 3 ∨ k = 4 ∨ k = 5 := by omega
 rcases hcs with rfl | rfl | rfl | rfl | rfl | rfl <;> (unfold wrap64; decide)
theorem put_le {r : Int} (h0 : 0 ≤ r) (h1 : r ≤ 63) {k : Nat} (hk : k < 8) (hb : bitB r k = true) : putB r k false = r - 2 ^ k ∧ 0 ≤ r - 2 ^ k ∧ r - 2 ^ k ≤ 63 := by
 have e : putB r k false = r - 2 ^ k := by unfold putB; rw [hb]; rfl
 have t := table h0 (by omega) hk
 have h2 := t.2.2.2.2.2.2.2.1
 rw [e] at h2
 have hp : (0 : Int) ≤ 2 ^ k := Int.pow_nonneg (by decide)
 exact ⟨e, h2, by omega⟩

def DS (w : World) (B g : Nat) (A : Option Addr) (len cap p : Nat) (va : Value) (k : Nat) (ys : List Int) (W : World) : Prop :=
 (Cur W B g A len cap ∧ g < w.heap.size) ∧ w.grownBy W (some g) ∧ W.heap[w.heap.size]? = some (.cells #[.slice none 0 0] 26) ∧ W.heap[p]? = some (.cells #[va] 26) ∧ w.heap.size < p ∧ W.ownsRow (w.heap.size + 1) 3 1 va k (ints ys) ∧ va.ownBlock ≠ some p
section
variable {w : World} {B g : Nat} {A : Option Addr} {len cap p : Nat} {va : Value} {k : Nat} {ys : List Int} {W W' : World}
theorem DS.on (h : DS w B g A len cap p va k ys W) (hc : Cur W' B g A len cap) (hg : W.grownBy W' (some g)) : DS w B g A len cap p va k ys W' := by
 obtain ⟨⟨a, a2⟩, b, c, d, e, f, f2⟩ := h
 have hpl := (Array.getElem?_eq_some_iff.1 d).1
 have hrl := (Array.getElem?_eq_some_iff.1 c).1
 refine ⟨⟨hc, a2⟩, grown_trans b hg, (hg.block _ hrl (fun q => by injection q; omega)).trans c, (hg.block _ hpl (fun q => by injection q; omega)).trans d, e, f.kept hg (.inr (fun q => ?_)), f2⟩
 have := (f.lt g q).1
 omega
theorem DS.cells (h : DS w B g A len cap p va k ys W) : W.cell? ⟨p, 0, none⟩ = some va ∧ W.cell? ⟨w.heap.size, 0, none⟩ = some (.slice none 0 0) ∧ W.frozen? ⟨w.heap.size, 0, none⟩ = false :=
 ⟨(cellAt h.2.2.2.1 0).1.trans rfl, (cellAt h.2.2.1 0).1.trans rfl, (cellAt h.2.2.1 0).2⟩
theorem DS.drew (h : DS w B g A len cap p va k ys W) : DS w B g A len cap p va k ys W.drew := by
 obtain ⟨⟨a, a2⟩, b, r⟩ := h
 exact ⟨⟨a, a2⟩, ⟨b.os, b.tape, b.output, b.size, b.block⟩, r⟩
theorem DS.put {gg cc j : Nat} {z : Int} (h : DS w B g A len cap p (.slice (some ⟨gg, 0, none⟩) k cc) k ys W) : DS w B g A len cap p (.slice (some ⟨gg, 0, none⟩) k cc) k (ys.set j z) (W.setCell ⟨gg, j, none⟩ (.int .i64 z)) := by
 obtain ⟨⟨a, a2⟩, b, c, d, e, f, f2⟩ := h
 have hgg := (f.lt gg rfl).1
 have hne : gg ≠ p := fun q => f2 (by rw [← q]; rfl)
 have hs := f.stored j (.int .i64 z)
 refine ⟨⟨a.later hs.2 (fun q => by injection q; omega) (fun q hq => by injection hq with hq; have := a.1; omega), a2⟩, ?_, (Below.heap_setCell W _ _ _ (by show w.heap.size ≠ gg; omega)).trans c, (Below.heap_setCell W _ _ _ (fun q => hne q.symm)).trans d, e, ?_, f2⟩
 ·exact ⟨b.os, b.tape, b.output, by have := b.size; simpa [World.setCell] using this, fun i hi hne => (Below.heap_setCell W _ _ _ (by show i ≠ gg; omega)).trans (b.block i hi hne)⟩
 ·rw [← ints_set]; exact hs.1
end

def DrewR (w : World) (B g : Nat) (A : Option Addr) (len cap : Nat) (e : Ending) (w' : World) : Prop :=
 ∃ (ys : List Int) (A2 : Option Addr) (n c2 : Nat), Hid (okR ys) ∧ Hid (ys.length = n) ∧ e = .returned (.agg #[.slice A2 n c2]) ∧ w'.ownsRow w.heap.size 3 1 (.slice A2 n c2) n (ints ys) ∧ w.grownBy w' (some g) ∧ 1 ≤ n ∧ Cur w' B g A len cap
theorem Cur.setCell {W : World} {B g : Nat} {A : Option Addr} {len cap : Nat} {p : Addr} (h : Cur W B g A len cap) (hp : B ≤ p.block) (hne : g ≠ p.block) (u : Value) : Cur (W.setCell p u) B g A len cap := by
 obtain ⟨hBg, hlen, hrd, i, x, hi, hbl⟩ := h
 exact ⟨hBg, hlen, hrd.below ((Below.refl B W).setCell hp u), i, x, hi, (Below.heap_setCell W p u g hne).trans hbl⟩

theorem region_end {w : World} {B g : Nat} {A : Option Addr} {len cap p : Nat} {A2 : Option Addr} {n c2 : Nat} {ys : List Int} {W : World} (h : DS w B g A len cap p (.slice A2 n c2) n ys W) (ho : Hid (okR ys)) (hl : Hid (ys.length = n)) (h1 : 1 ≤ n) :
  (W.setCell ⟨w.heap.size, 0, none⟩ (.slice A2 n c2)).cell? ⟨w.heap.size, 0, none⟩ = some (.slice A2 n c2) ∧ DrewR w B g A len cap (.returned (.agg #[.slice A2 n c2])) (W.setCell ⟨w.heap.size, 0, none⟩ (.slice A2 n c2)) := by
 refine ⟨World.cell?_setCell_same (w := W) _ _ h.cells.2.1, ys, A2, n, c2, ho, hl, rfl, ?_, ?_, h1, h.1.1.setCell (by have := h.1.1.lt; have := h.1.2; show B ≤ w.heap.size; omega) (by have := h.1.2; show g ≠ w.heap.size; omega) _⟩
 ·exact own_base (ownsRow_setCell_below h.2.2.2.2.2.1 (by show w.heap.size < w.heap.size + 1; omega) _) (by omega)
 ·have b := h.2.1
  exact ⟨b.os, b.tape, b.output, by have := b.size; simpa [World.setCell] using this, fun i hi hne => (Below.heap_setCell W _ _ _ (by show i ≠ w.heap.size; omega)).trans (b.block i hi hne)⟩

set_option maxRecDepth 100000 in
set_option maxHeartbeats 4000000 in
theorem region (w : World) (B g : Nat) (A : Option Addr) (len cap : Nat) (h0 : Cur w B g A len cap) :
  Calls Try.prog 70 #[.pointer (some ⟨g, 0, none⟩)] w (DrewR w B g A len cap) := by
 have HCur := Lib.hid h0
 have hgw := h0.lt
 have HD := Lib.hid (fun W n (hc : Cur W B g A len cap) => below W B g A len cap n hc)
 have HOn := Lib.hid (fun W n (hc : Cur W B g A len cap) => once W B g A len cap n hc)
 have HA0 := Lib.hid (h0.alloc (.cells #[.slice none 0 0] 26))
 have HG0 := Lib.hid (show w.grownBy (w.alloc (.cells #[.slice none 0 0] 26)) (some g) from World.grownBy_alloc w _ _)
 have HR0 := Lib.hid (heap_alloc_new w (.cells #[.slice none 0 0] 26))
 have HZ0 := Lib.hid (show (w.alloc (.cells #[.slice none 0 0] 26)).heap.size = w.heap.size + 1 by simp)
 clear h0 HCur
 go_enter Try.func70, Try.ntmps70
 go_wp2_with fail
 refine (HD.out _ 6 HA0.out).mono ?_
 rintro e w1 ⟨x1, hx1, rfl, hc1, hg1⟩
 have hb1 := hx1.2 (by omega)
 have HC1 := Lib.hid hc1
 have HG1 := Lib.hid (grown_trans HG0.out hg1)
 have HR1 := Lib.hid ((hg1.block w.heap.size (by rw [HZ0.out]; omega) (by intro q; injection q; omega)).trans HR0.out)
 have HZ1 := Lib.hid (show w.heap.size + 1 ≤ w1.heap.size by have := hg1.size; rw [HZ0.out] at this; exact this)
 clear hc1 hg1 hx1 HA0 HG0 HR0 HZ0
 obtain ⟨a, rfl, ha⟩ : ∃ a : Nat, x1 = (a : Int) ∧ a < 6 := ⟨x1.toNat, by omega, by omega⟩
 clear hb1
 go_wp2_with fail
 refine (HD.out _ 5 HC1.out).mono ?_
 rintro e w2 ⟨x2, hx2, rfl, hc2, hg2⟩
 have hb2 := hx2.2 (by omega)
 have HC2 := Lib.hid hc2
 have HG2 := Lib.hid (grown_trans HG1.out hg2)
 have HR2 := Lib.hid ((hg2.block w.heap.size (by have := HZ1.out; omega) (by intro q; injection q; omega)).trans HR1.out)
 have HZ2 := Lib.hid (show w.heap.size + 1 ≤ w2.heap.size by have := hg2.size; have := HZ1.out; omega)
 clear hc2 hg2 hx2 HC1 HG1 HR1 HZ1
 obtain ⟨c, rfl, hc⟩ : ∃ c : Nat, x2 = (c : Int) ∧ c < 5 := ⟨x2.toNat, by omega, by omega⟩
 clear hb2
 obtain ⟨kw, hkw⟩ : ∃ kw, kw = a + 1 := ⟨_, rfl⟩
 obtain ⟨kh, hkh⟩ : ∃ kh, kh = c + 1 := ⟨_, rfl⟩
 have ew : (1 : Int) + (a : Int) = (kw : Int) := by omega
 have eh : (1 : Int) + (c : Int) = (kh : Int) := by omega
 have hkw1 : 1 ≤ kw := by omega
 have hkw6 : kw ≤ 6 := by omega
 have hkh1 : 1 ≤ kh := by omega
 have hkh5 : kh ≤ 5 := by omega
 clear hkw hkh ha hc
 go_wp2_with fail
 refine (sRectIn w2 kw kh hkw1 (by omega) hkh1 (by omega)).mono ?_
 rintro e w3 ⟨A3, c3, rfl, hown3, hb3⟩
 have S0 := Lib.hid (show DS w B g A len cap w3.heap.size (.slice A3 kh c3) kh (List.replicate kh ((2 : Int) ^ kw - 1)) (w3.alloc (.cells #[.slice A3 kh c3] 26)) from by
  have hgr := grown_below hb3 (some g)
  have hz := hb3.size
  have hz2 := HZ2.out
  have hgl := HC2.out.lt
  have hown := own_base hown3 hz2
  have hal := below_alloc1 w3 (.cells #[.slice A3 kh c3] 26)
  refine ⟨⟨(HC2.out.later (grown_below hb3 none) (by simp) (by simp)).later (grown_below hal none) (by simp) (by simp), hgw.2⟩, grown_trans (grown_trans HG2.out hgr) (grown_below hal _), (hal.block _ (by omega)).trans ((hb3.block _ (by omega)).trans HR2.out), heap_alloc_new w3 _, by omega, hown.alloc _, fun q => ?_⟩
  have := (hown.lt _ q).2
  omega)
 have HRg := Lib.hid (rng_rect (n := kh) hkw1 hkw6)
 have HLn := Lib.hid (List.length_replicate (n := kh) (a := (2 : Int) ^ kw - 1))
 clear hown3 hb3 HC2 HG2 HR2 HZ2
 generalize List.replicate kh ((2 : Int) ^ kw - 1) = ys at S0 HRg HLn
 go_wp2_with fail
 have S1 := S0.out
 clear S0
 generalize w3.alloc (.cells #[.slice A3 kh c3] 26) = W3 at S1 ⊢
 generalize w3.heap.size = p at S1 ⊢
 refine (HD.out _ 5 S1.1.1).mono ?_
 rintro e w4 ⟨x4, hx4, rfl, hc4, hg4⟩
 have hb4 := hx4.2 (by omega)
 have S2 := S1.on hc4 hg4
 clear S1 hc4 hg4 hx4
 obtain ⟨k4, rfl, hk4⟩ : ∃ c : Nat, x4 = (c : Int) ∧ c < 5 := ⟨x4.toNat, by omega, by omega⟩
 clear hb4
 obtain ⟨gg, gc, hv, hg1, hg2⟩ := S2.2.2.2.2.2.1.form (by omega)
 injection hv with hA3 hz8 hcc
 subst hA3
 clear hz8 hcc hg2
 go_wp2_with fail
 go_loopw [6] (fun i wr => ∃ (q : Nat) (zs : List Int), q ≤ 5 ∧ i = .int .i64 q ∧ Hid (Rng zs) ∧ Hid (zs.length = kh) ∧ DS w B g A len cap p (.slice (some ⟨gg, 0, none⟩) kh c3) kh zs wr) (fun i _ => (intOf i).toNat)
 case atStart => exact ⟨k4, ys, by omega, rfl, HRg, HLn, S2⟩
 case round =>
  clear S2 HRg HLn
  obtain ⟨q, zs, hq5, rfl, HRz, HLz, S3⟩ := hrel
  by_cases hq : 0 < (q : Int)
  ·go_wp2_with fail
   refine (HD.out _ (kh : Int) S3.1.1).mono ?_
   rintro e w5 ⟨x5, hx5, rfl, hc5, hg5⟩
   have hb5 := hx5.2 (by omega)
   have S4 := S3.on hc5 hg5
   clear S3 hc5 hg5 hx5
   obtain ⟨y, rfl, hy⟩ : ∃ c : Nat, x5 = (c : Int) ∧ c < kh := ⟨x5.toNat, by omega, by omega⟩
   clear hb5
   go_wp2_with fail
   refine (HD.out _ (kw : Int) S4.1.1).mono ?_
   rintro e w6 ⟨x6, hx6, rfl, hc6, hg6⟩
   have hb6 := hx6.2 (by omega)
   have S5 := S4.on hc6 hg6
   clear S4 hc6 hg6 hx6
   obtain ⟨x, rfl, hx⟩ : ∃ c : Nat, x6 = (c : Int) ∧ c < kw := ⟨x6.toNat, by omega, by omega⟩
   clear hb6
   obtain ⟨hrc, hrf⟩ := row_cell S5.2.2.2.2.2.1 hy
   have hr := rng_at HRz.out (y := y) (by rw [HLz.out]; exact hy)
   obtain ⟨cp, _, _⟩ := S5.cells
   have hyI : (y : Int) < (kh : Int) := by omega
   have hx8 : x < 8 := by omega
   have HSet := Lib.hid (fun v h0 h1 => rng_set HRz.out (y := y) (v := v) h0 h1)
   generalize rowD zs y = r at hrc hr
   cases hbit : bitB r x with
   | false =>
    have hz := shr_no hr.1 (by omega) hx8 hbit
    clear hbit
    go_wp2
    go_roundw
    case rel => exact ⟨q - 1, zs, by omega, by first | (congr 1; omega) | go_num, HRz, HLz, S5⟩
    case measure => (simp [intOf] <;> omega)
   | true =>
    have hz := shr_yes hr.1 (by omega) hx8 hbit
    obtain ⟨_, hv0, hv1⟩ := put_le hr.1 hr.2 hx8 hbit
    obtain ⟨hp1, hp2⟩ := pow_wrap hx8
    have hsh : Op.shift .shl .i64 1 .i64 (x : Int) = pure (.int .i64 (2 ^ x)) := by
     rw [shift_shl .i64 .i64 1 (x : Int) (by omega) (by show (x : Int) ≤ 64; omega), Int.one_mul, Int.toNat_natCast, (pow_wrap hx8).2]
    obtain ⟨v, hv⟩ : ∃ v, v = r - 2 ^ x := ⟨_, rfl⟩
    rw [← hv] at hv0 hv1
    have hsub : wrap64 (r - 2 ^ x) = v := by rw [← hv]; unfold wrap64; omega
    have hsub2 : IntKind.i64.wrap (r - 2 ^ x) = v := by rw [← hv, IntKind.wrap_i64]; omega
    have HRv := Lib.hid (HSet.out v hv0 hv1)
    clear hbit hv hv0 hv1 HSet
    go_wp2_with fail
    go_still_tail 11, (by kernel_rfl)
    change wpList _ _ _ _ _ w6.drew
    have S6 := S5.drew
    clear hrc hrf cp S5 hsh
    generalize w6.drew = W6 at S6 ⊢
    obtain ⟨hrc, hrf⟩ := row_cell S6.2.2.2.2.2.1 hy
    have S7 := Lib.hid (S6.put (j := y) (z := v))
    have HLv := Lib.hid (show (zs.set y v).length = kh by rw [List.length_set]; exact HLz.out)
    clear S6 hsub hsub2
    go_wp2
    go_roundw
    case rel => exact ⟨q - 1, zs.set y v, by omega, by first | (congr 1; omega) | go_num, HRv, HLv, S7.out⟩
    case measure => (simp [intOf] <;> omega)
  ·obtain rfl : q = 0 := by omega
   have HOk := Lib.hid (ok_of_rng HRz.out (by rw [HLz.out]; omega))
   by_cases hk6 : (kw : Int) < 6
   ·go_wp2_with fail
    refine (HOn.out _ 3 S3.1.1).mono ?_
    rintro e w5 ⟨b, rfl, hc5, hg5⟩
    have S4 := S3.on hc5 hg5
    clear S3 hc5 hg5
    cases b with
    | false =>
     have HEnd := Lib.hid (region_end S4 HOk HLz hkh1)
     obtain ⟨cp, cr, fr⟩ := S4.cells
     have hres := HEnd.out.1
     clear S4
     go_wp2
     exact bodyPost_ret (v := .agg #[.slice (some ⟨gg, 0, none⟩) kh c3]) (by simp [results, Try.results70, go_sem, hres]) rfl HEnd.out.2
    | true =>
     go_wp2_with fail
     refine (HD.out _ (kh : Int) S4.1.1).mono ?_
     rintro e w6 ⟨x5, hx5, rfl, hc5, hg5⟩
     have hb5 := hx5.2 (by omega)
     have S5 := S4.on hc5 hg5
     clear S4 hc5 hg5 hx5
     obtain ⟨y, rfl, hy⟩ : ∃ c : Nat, x5 = (c : Int) ∧ c < kh := ⟨x5.toNat, by omega, by omega⟩
     clear hb5
     obtain ⟨hrc, hrf⟩ := row_cell S5.2.2.2.2.2.1 hy
     have hr := rng_at HRz.out (y := y) (by rw [HLz.out]; exact hy)
     obtain ⟨cp, _, _⟩ := S5.cells
     have hyI : (y : Int) < (kh : Int) := by omega
     have hor := or_in hr.1 hr.2 (k := kw) (by omega)
     have hp1 := wrap3' (k := kw) (by omega)
     have hp2 := wrap3 (k := kw) (by omega)
     have hsh : Op.shift .shl .i64 3 .i64 (kw : Int) = pure (.int .i64 (3 * 2 ^ kw)) := by
      rw [shift_shl .i64 .i64 3 (kw : Int) (by omega) (by show (kw : Int) ≤ 64; omega), Int.toNat_natCast, wrap3 (by omega)]
     have HSet := Lib.hid (fun v h0 h1 => ok_set HRz.out (y := y) (v := v) (by rw [HLz.out]; omega) h0 h1)
     generalize rowD zs y = r at hrc hr hor
     obtain ⟨v, hv⟩ : ∃ v, v = bits .or .i64 r (3 * 2 ^ kw) := ⟨_, rfl⟩
     rw [← hv] at hor
     have HOv := Lib.hid (HSet.out v hor.1 hor.2)
     have HLv := Lib.hid (show (zs.set y v).length = kh by rw [List.length_set]; exact HLz.out)
     have hov := hv.symm
     clear hv hor HSet
     go_wp2_with fail
     go_still_tail 11, (by kernel_rfl)
     change wpList _ _ _ _ _ w6.drew
     have S6 := S5.drew
     clear hrc hrf cp S5 hsh
     generalize w6.drew = W6 at S6 ⊢
     obtain ⟨hrc, hrf⟩ := row_cell S6.2.2.2.2.2.1 hy
     have S7 := S6.put (j := y) (z := v)
     have HEnd := Lib.hid (region_end S7 HOv HLv hkh1)
     obtain ⟨cp, cr, fr⟩ := S7.cells
     have hres := HEnd.out.1
     clear S6 S7
     go_wp2
     exact bodyPost_ret (v := .agg #[.slice (some ⟨gg, 0, none⟩) kh c3]) (by simp [results, Try.results70, go_sem, hres]) rfl HEnd.out.2
   ·have HEnd := Lib.hid (region_end S3 HOk HLz hkh1)
    obtain ⟨cp, cr, fr⟩ := S3.cells
    have hres := HEnd.out.1
    clear S3
    go_wp2
    exact bodyPost_ret (v := .agg #[.slice (some ⟨gg, 0, none⟩) kh c3]) (by simp [results, Try.results70, go_sem, hres]) rfl HEnd.out.2

theorem Rd.mono {w : World} {B B' : Nat} {A : Option Addr} {len : Nat} (h : Rd w B A len) (hB : B ≤ B') : Rd w B' A len := by
 obtain ⟨b, off, f, hA, hc⟩ := h
 exact ⟨b, off, f, fun h0 => ⟨by have := (hA h0).1; omega, (hA h0).2⟩, hc⟩

end Go.Proofs.Ytjfagpmklifjlaa.Draw

namespace Go.Proofs.Ytjfagpmklifjlaa.Tile
set_option linter.unusedVariables false
set_option maxRecDepth 100000
set_option linter.unusedSimpArgs false
open Go.RowKit Go.Proofs.Ytjfagpmklifjlaa.Pure Go.Proofs.Ytjfagpmklifjlaa.Cell Go.Proofs.Ytjfagpmklifjlaa.Reg Go.Proofs.Ytjfagpmklifjlaa.Draw Go.Joins
open Go.Proofs.Ytjfagpmklifjlaa.Cnt hiding own_cell
open Go.Proofs.Ytjfagpmklifjlaa.Prof

def DrewT (w : World) (g : Nat) (e : Ending) (w' : World) : Prop :=
 ∃ (ys : List Int) (A2 : Option Addr) (n c2 : Nat), Hid (okR ys ∧ 1 ≤ tilesR ys ∧ tilesR ys ≤ 300) ∧ Hid (ys.length = n) ∧ e = .returned (.agg #[.slice A2 n c2]) ∧ w'.ownsRow w.heap.size 3 1 (.slice A2 n c2) n (ints ys) ∧ w.grownBy w' (some g)
def Dt (w : World) (B g : Nat) (A : Option Addr) (len cap : Nat) (W : World) : Prop :=
 (Cur W B g A len cap ∧ g < w.heap.size) ∧ w.grownBy W (some g) ∧ w.heap.size + 1 ≤ W.heap.size ∧ W.heap[w.heap.size]? = some (.cells #[.slice none 0 0] 26)
section
variable {w W W' : World} {B g : Nat} {A : Option Addr} {len cap : Nat}
theorem Dt.on (h : Dt w B g A len cap W) (hc : Cur W' B g A len cap) (hg : W.grownBy W' (some g)) : Dt w B g A len cap W' := by
 obtain ⟨⟨_, h1⟩, h2, h3, h4⟩ := h
 have hz := hg.size
 exact ⟨⟨hc, h1⟩, grown_trans h2 hg, by omega, (hg.block w.heap.size (by omega) (fun e => by injection e with e; omega)).trans h4⟩
theorem Dt.later (h : Dt w B g A len cap W) (hb : Below W.heap.size W W') : Dt w B g A len cap W' :=
 h.on (h.1.1.later (grown_below hb none) (by simp) (fun k hk => by cases hk)) (grown_below hb _)
theorem Dt.cell (h : Dt w B g A len cap W) : W.cell? ⟨w.heap.size, 0, none⟩ = some (.slice none 0 0) ∧ W.frozen? ⟨w.heap.size, 0, none⟩ = false := ⟨(cellAt h.2.2.2 0).1.trans rfl, (cellAt h.2.2.2 0).2⟩
theorem tile_end {A2 : Option Addr} {n c2 base : Nat} {ys : List Int} (h : Dt w B g A len cap W) (hb : w.heap.size < base) (ho : W.ownsRow base 3 1 (.slice A2 n c2) n (ints ys)) (hok : Hid (okR ys ∧ 1 ≤ tilesR ys ∧ tilesR ys ≤ 300)) (hl : Hid (ys.length = n)) :
  (W.setCell ⟨w.heap.size, 0, none⟩ (.slice A2 n c2)).cell? ⟨w.heap.size, 0, none⟩ = some (.slice A2 n c2) ∧ DrewT w g (.returned (.agg #[.slice A2 n c2])) (W.setCell ⟨w.heap.size, 0, none⟩ (.slice A2 n c2)) := by
 refine ⟨World.cell?_setCell_same (w := W) _ _ h.cell.1, ys, A2, n, c2, hok, hl, rfl, ?_, ?_⟩
 ·exact own_base (ownsRow_setCell_below ho (by show w.heap.size < base; omega) _) (by omega)
 ·have b := h.2.1
  exact ⟨b.os, b.tape, b.output, by have := b.size; simpa [World.setCell] using this, fun i hi hne => (Below.heap_setCell W _ _ _ (by show i ≠ w.heap.size; omega)).trans (b.block i hi hne)⟩
end
theorem tile_in {ys : List Int} (ho : okR ys) (h : 1 ≤ wrap64 (tiles (gR ys) : Nat) ∧ wrap64 (tiles (gR ys) : Nat) ≤ 300) : okR ys ∧ 1 ≤ tilesR ys ∧ tilesR ys ≤ 300 := ⟨ho, by rw [tilesR_ok ho]; exact h⟩
theorem tile_rect {a b : Int} (ha : 0 ≤ a ∧ a < 2) (hb : 0 ≤ b ∧ b < 3) : okR (rectR (2 + 2 * a) (2 + b)) ∧ 1 ≤ tilesR (rectR (2 + 2 * a) (2 + b)) ∧ tilesR (rectR (2 + 2 * a) (2 + b)) ≤ 300 := by
 have h := rect_some (a := (2 + 2 * a).toNat) (b := (2 + b).toNat) (by omega) (by omega)
 rw [Int.toNat_of_nonneg (by omega), Int.toNat_of_nonneg (by omega)] at h
 exact ⟨rect_ok' (by omega), h⟩

set_option maxRecDepth 100000 in
set_option maxHeartbeats 2000000 in
theorem tileRegion (w : World) (B g : Nat) (A : Option Addr) (len cap : Nat) (h0 : Cur w B g A len cap) :
  Calls Try.prog 39 #[.pointer (some ⟨g, 0, none⟩)] w (DrewT w g) := by
 have hgw := h0.lt
 have T0 := Lib.hid (show Dt w B g A len cap (w.alloc (.cells #[.slice none 0 0] 26)) from
  ⟨⟨h0.alloc _, hgw.2⟩, World.grownBy_alloc w _ _, by simp, heap_alloc_new w _⟩)
 have HD := Lib.hid (fun W n (hc : Cur W B g A len cap) => below W B g A len cap n hc)
 have HRg := Lib.hid (fun W (hc : Cur W B g A len cap) => Draw.region W B g A len cap hc)
 clear h0 hgw
 go_enter Try.func39, Try.ntmps39
 go_wp2_with fail
 go_loopw [3, 4] (fun kv _ wr => ∃ k : Nat, k ≤ 6 ∧ kv = .int .i64 (k : Int) ∧ Dt w B g A len cap wr) (fun kv _ _ => 6 - (intOf kv).toNat)
 case atStart => exact ⟨0, by omega, rfl, T0.out⟩
 case round =>
  clear T0
  obtain ⟨k, hk, rfl, T1⟩ := hrel
  by_cases hlt : k < 6
  ·go_wp2_with fail
   refine (HRg.out _ T1.1.1).mono ?_
   rintro e w2 ⟨ys, A2, n, c2, ho, hl, rfl, hown, hg, _, hc⟩
   have T2 := T1.on hc hg
   have hz1 := T1.2.2.1
   clear T1 hc hg
   go_upto_region 5 with fail
   have hba := below_alloc1 w2 (.cells #[.slice A2 n c2] 26)
   have hbl := heap_alloc_new w2 (.cells #[.slice A2 n c2] 26)
   have T3 := T2.later hba
   have own3 := own_below hown hba (Nat.le_refl _)
   generalize w2.alloc (.cells #[.slice A2 n c2] 26) = W3 at hbl T3 own3 ⊢
   generalize w2.heap.size = p at hbl ⊢
   have c3 := (cellAt hbl 0).1.trans (show _ = some (Value.slice A2 n c2) from rfl)
   clear hba hown T2
   go_wp2_with fail
   refine (sCount W3 A2 n c2 W3.heap.size ys hl.out ho.out (rowB_own own3) (Nat.le_refl _)).mono ?_
   rintro e w4 ⟨rfl, hb4⟩
   have T4 := T3.later hb4
   have own4 := own_below own3 hb4 (Nat.le_refl _)
   have hbl4 := (hb4.block p (Array.getElem?_eq_some_iff.1 hbl).1).trans hbl
   have c4 := (cellAt hbl4 0).1.trans (show _ = some (Value.slice A2 n c2) from rfl)
   clear c3 hbl T3 own3 hb4 hbl4
   have HTi := Lib.hid (fun h => tile_in (ys := ys) ho.out h)
   generalize wrap64 (tiles (gR ys) : Nat) = t at HTi ⊢
   go_wp2_with fail
   refine (l01In t 1 300 w4).mono ?_
   rintro e w5 ⟨rfl, rfl⟩
   by_cases hin : 1 ≤ t ∧ t ≤ 300
   ·rw [inB_of hin]
    have HEnd := Lib.hid (tile_end T4 (by omega) own4 (Lib.hid (HTi.out hin)) hl)
    obtain ⟨cr, fr⟩ := T4.cell
    have hres := HEnd.out.1
    clear own4 T4 hin HTi ho hl
    go_wp2
    exact bodyPost_ret (v := .agg #[.slice A2 n c2]) (by simp [results, Try.results39, go_sem, hres]) rfl HEnd.out.2
   ·rw [inB_not hin]
    have HT4 := Lib.hid T4
    clear own4 T4 hin HTi ho hl c4
    go_wp2
    go_roundw
    case rel => exact ⟨k + 1, by omega, by go_num, HT4.out⟩
    case measure => (simp [intOf] <;> omega)
  ·go_wp2_with fail
   refine (HD.out _ 2 T1.1.1).mono ?_
   rintro e w2 ⟨a, ha, rfl, hc2, hg2⟩
   have T2 := T1.on hc2 hg2
   clear T1 hc2 hg2
   have ha := ha.2 (by omega)
   go_wp2_with fail
   refine (HD.out _ 3 T2.1.1).mono ?_
   rintro e w3 ⟨b, hb, rfl, hc3, hg3⟩
   have T3 := T2.on hc3 hg3
   clear T2 hc3 hg3
   have hb := hb.2 (by omega)
   have HOk := Lib.hid (tile_rect ha hb)
   go_wp2_with fail
   refine (sRectangle w3 (2 + 2 * a) (2 + b)).mono ?_
   rintro e w4 ⟨A2, c2, rfl, hown, hb4⟩
   have hz3 := T3.2.2.1
   have T4 := T3.later hb4
   generalize rectR (2 + 2 * a) (2 + b) = ys at hown HOk ⊢
   have HEnd := Lib.hid (tile_end T4 (by omega) hown HOk (Lib.hid rfl))
   obtain ⟨cr, fr⟩ := T4.cell
   have hres := HEnd.out.1
   clear T4 T3 hown hb4 hz3 HOk ha hb
   generalize ys.length = n at HEnd hres ⊢
   go_wp2
   exact bodyPost_ret (v := .agg #[.slice A2 n c2]) (by simp [results, Try.results39, go_sem, hres]) rfl HEnd.out.2

def TilePost (w : World) (e : Ending) (w' : World) : Prop :=
 ∃ (ys : List Int) (A2 : Option Addr) (n c2 : Nat), Hid (okR ys ∧ 1 ≤ tilesR ys ∧ tilesR ys ≤ 300) ∧ Hid (ys.length = n) ∧ e = .returned (.agg #[.slice A2 n c2]) ∧ w'.ownsRow w.heap.size 3 1 (.slice A2 n c2) n (ints ys) ∧ Below w.heap.size w w'

set_option maxRecDepth 100000 in
set_option maxHeartbeats 1000000 in
theorem drawTileable (w : World) (A : Option Addr) (len cap : Nat) (h0 : Coded w w.heap.size A len) :
  Calls Try.prog 10 #[.slice A len cap] w (TilePost w) := by
 have hb0 := below_alloc1 w (.cells #[.slice none 0 0] 26)
 have HC := Lib.hid (show Coded (w.alloc (.cells #[.slice none 0 0] 26)) (w.alloc (.cells #[.slice none 0 0] 26)).heap.size A len from ⟨h0.1, (h0.2.below hb0).mono hb0.size⟩)
 have HR := Lib.hid (heap_alloc_new w (.cells #[.slice none 0 0] 26))
 have HZ := Lib.hid (show (w.alloc (.cells #[.slice none 0 0] 26)).heap.size = w.heap.size + 1 by simp)
 have HB := Lib.hid hb0
 clear h0 hb0
 go_enter Try.func10, Try.ntmps10
 go_wp2_with fail
 refine (new _ A len cap HC.out).mono ?_
 rintro e w1 ⟨g, rfl, hc1, hb1⟩
 have hg0 := hc1.1
 rw [HZ.out] at hg0
 have HCur := Lib.hid hc1
 have HB1 := Lib.hid (HB.out.trans (hb1.mono HB.out.size))
 have HR1 := Lib.hid ((hb1.block w.heap.size (by rw [HZ.out]; omega)).trans HR.out)
 have HZ1 := Lib.hid (show w.heap.size + 1 ≤ w1.heap.size by have := hb1.size; rw [HZ.out] at this; exact this)
 clear hc1 hb1 HC HB HR HZ
 go_wp2_with fail
 refine (tileRegion w1 _ g A len cap HCur.out).mono ?_
 rintro e w2 ⟨ys, A2, n, c2, ho, hl, rfl, hown, hg⟩
 have hz := hg.size
 have hz1 := HZ1.out
 have HR2 := Lib.hid ((hg.block w.heap.size (by omega) (fun q => by injection q; omega)).trans HR1.out)
 have HB2 := Lib.hid (HB1.out.grown hg (by omega) (fun k hk => by injection hk with hk; omega))
 have HO := Lib.hid hown
 clear hown hg HR1 HB1
 obtain ⟨c0, f0⟩ := cellAt HR2.out 0
 have hres := World.cell?_setCell_same (w := w2) ⟨w.heap.size, 0, none⟩ (.slice A2 n c2) (u := .slice none 0 0) c0
 go_wp2
 refine bodyPost_ret (v := .agg #[.slice A2 n c2]) (by simp [results, Try.results10, go_sem, hres]) rfl ⟨ys, A2, n, c2, ho, hl, rfl, ?_, HB2.out.setCell (Nat.le_refl _) _⟩
 exact own_base (ownsRow_setCell_below HO.out (by show w.heap.size < w1.heap.size; omega) _) (by omega)
end Go.Proofs.Ytjfagpmklifjlaa.Tile

namespace Go.Proofs.Ytjfagpmklifjlaa.Reg
set_option linter.unusedVariables false
open Go.RowKit Go.Joins

section
variable {W W' : World} {B H p : Nat} {va : Value} {n : Nat} {ys : List Value}
end
section
variable {W7 W W' : World} {g : Nat} {v : Value} {x y : Int} {px : Nat} {vx : Value}
end
theorem own_none {w : World} {base e size n cap : Nat} {A : Option Addr} {xs : List Value} (h : w.ownsRow base e size (.slice A n cap) n xs) : A = none → n = 0 ∧ cap = 0 := by
 intro hA
 subst hA
 rcases h.2 with ⟨h', h0⟩ | ⟨g, cap', cur, h', _⟩
 ·simp only [Value.slice.injEq] at h'
  exact ⟨h0, h'.2.2⟩
 ·simp at h'
end Go.Proofs.Ytjfagpmklifjlaa.Reg
