/- The drawing of DrawCountHoles: a rectangle with cells taken out, or any region. -/
import Derived.Test.YtocjnplbjdpieaaDrawN
import Derived.StillTailTactics
namespace Go.Proofs.Ytocjnplbjdpieaa.Draw
set_option linter.unusedVariables false
open Go.RowKit Go.Proofs.Ytocjnplbjdpieaa.Base Go.Proofs.Ytocjnplbjdpieaa.Pure Go.Proofs.Ytocjnplbjdpieaa.Cell Go.Proofs.Ytocjnplbjdpieaa.Reg Go.Joins

/-- the state: the cursor; the region in a box p. -/
def DT (w : World) (B g : Nat) (A : Option Addr) (len cap p : Nat) (va : Value) (k : Nat) (ys : List Int) (W : World) : Prop :=
  (Cur W B g A len cap ∧ g < w.heap.size) ∧ w.grownBy W (some g) ∧ W.heap[p]? = some (.cells #[va] 26) ∧ w.heap.size ≤ p ∧ W.ownsRow w.heap.size 3 1 va k (ints ys) ∧ va.ownBlock ≠ some p
section
variable {w : World} {B g : Nat} {A : Option Addr} {len cap p : Nat} {va : Value} {k : Nat} {ys : List Int} {W W' : World}
theorem DT.on (h : DT w B g A len cap p va k ys W) (hc : Cur W' B g A len cap) (hg : W.grownBy W' (some g)) : DT w B g A len cap p va k ys W' := by
  obtain ⟨⟨a, a2⟩, b, d, e, f, f2⟩ := h
  have hpl := (Array.getElem?_eq_some_iff.1 d).1
  refine ⟨⟨hc, a2⟩, grown_trans b hg, (hg.block _ hpl (fun q => by injection q; omega)).trans d, e, f.kept hg (.inr (fun q => ?_)), f2⟩
  have := (f.lt g q).1
  omega
theorem DT.cell (h : DT w B g A len cap p va k ys W) : W.cell? ⟨p, 0, none⟩ = some va := (cellAt h.2.2.1 0).1.trans rfl
theorem DT.drew (h : DT w B g A len cap p va k ys W) : DT w B g A len cap p va k ys W.drew := by
  obtain ⟨⟨a, a2⟩, b, r⟩ := h
  exact ⟨⟨a, a2⟩, ⟨b.os, b.tape, b.output, b.size, b.block⟩, r⟩
theorem DT.put {gg cc j : Nat} {z : Int} (h : DT w B g A len cap p (.slice (some ⟨gg, 0, none⟩) k cc) k ys W) : DT w B g A len cap p (.slice (some ⟨gg, 0, none⟩) k cc) k (ys.set j z) (W.setCell ⟨gg, j, none⟩ (.int .i64 z)) := by
  obtain ⟨⟨a, a2⟩, b, d, e, f, f2⟩ := h
  have hg1 := (f.lt gg rfl).1
  have hne : gg ≠ p := fun q => f2 (by rw [q]; rfl)
  have hl := a.lt
  obtain ⟨hs, _⟩ := f.stored j (.int .i64 z)
  refine ⟨⟨a.setCell (by show B ≤ gg; omega) (by show g ≠ gg; omega) _, a2⟩, ⟨b.os, b.tape, b.output, by rw [Flo.setCell_size]; exact b.size, fun i hi hn => ?_⟩, ?_, e, ?_, f2⟩
  · rw [Below.heap_setCell W ⟨gg, j, none⟩ _ i (by show i ≠ gg; omega)]
    exact b.block i hi hn
  · rw [Below.heap_setCell W ⟨gg, j, none⟩ _ p (by show p ≠ gg; exact fun q => hne q.symm)]
    exact d
  · rw [← ints_set]; exact hs
end
/-- a drawn region, valid or not. -/
def Drawn (w : World) (e : Ending) (w' : World) : Prop :=
  ∃ (ys : List Int) (A2 : Option Addr) (n c2 : Nat), Hid (ys.length = n) ∧ n ≤ 9 ∧ e = .returned (.agg #[.slice A2 n c2]) ∧ w'.ownsRow w.heap.size 3 1 (.slice A2 n c2) n (ints ys) ∧ Below w.heap.size w w'

set_option maxRecDepth 100000 in
set_option maxHeartbeats 4000000 in
theorem drawHoles (w : World) (A : Option Addr) (len cap : Nat) (h0 : Coded w w.heap.size A len) :
    Calls Try.prog 11 #[.slice A len cap] w (Drawn w) := by
  have hb0 := below_alloc1 w (.cells #[.slice none 0 0] 26)
  have HC := Lib.hid (show Coded (w.alloc (.cells #[.slice none 0 0] 26)) (w.alloc (.cells #[.slice none 0 0] 26)).heap.size A len from ⟨h0.1, (h0.2.below hb0).mono hb0.size⟩)
  have HR := Lib.hid (heap_alloc_new w (.cells #[.slice none 0 0] 26))
  have HZ := Lib.hid (show (w.alloc (.cells #[.slice none 0 0] 26)).heap.size = w.heap.size + 1 by simp)
  have HB := Lib.hid hb0
  clear h0 hb0
  go_enter Try.func11, Try.ntmps11
  go_wp2_with fail
  refine (new _ A len cap HC.out).mono ?_
  rintro e w1 ⟨g, rfl, hc1, hb1⟩
  have hg0 := hc1.1
  rw [HZ.out] at hg0 hc1
  have HB1 := Lib.hid (HB.out.trans (hb1.mono HB.out.size))
  have HR1 := Lib.hid ((hb1.block w.heap.size (by rw [HZ.out]; omega)).trans HR.out)
  have HZ1 := Lib.hid (show w.heap.size + 1 ≤ w1.heap.size by have := hb1.size; rw [HZ.out] at this; exact this)
  have hgl := hc1.lt
  obtain ⟨B, hB⟩ : ∃ B, B = w.heap.size + 1 := ⟨_, rfl⟩
  rw [← hB] at hc1
  have HD := Lib.hid (fun W n (hc : Cur W B g A len cap) => below W B g A len cap n hc)
  have HAny := Lib.hid (fun W (hc : Cur W B g A len cap) => any W B g A len cap hc)
  have HCur := Lib.hid hc1
  clear hc1 hb1 HC HB HR HZ hB
  go_wp2_with fail
  refine (once w1 B g A len cap 3 HCur.out).mono ?_
  rintro e w2 ⟨b, rfl, hc2, hg2⟩
  have HC2 := Lib.hid hc2
  have HG2 := Lib.hid hg2
  clear hc2 hg2 HCur
  cases b with
  | false =>
    go_wp2_with fail
    refine (HAny.out w2 HC2.out).mono ?_
    rintro e w3 ⟨ys, A2, n, c2, hl, h9, rfl, hown, hg3⟩
    have hg13 := grown_trans HG2.out hg3
    have hz1 := HZ1.out
    have HR3 := Lib.hid ((hg13.block w.heap.size (by omega) (fun q => by injection q; omega)).trans HR1.out)
    have HB3 := Lib.hid (HB1.out.grown hg13 (by omega) (fun k hk => by injection hk with hk; omega))
    have HO := Lib.hid hown
    have hz2 := HG2.out.size
    clear hown hg3 hg13 HR1 HB1 HAny HD
    obtain ⟨c0, f0⟩ := cellAt HR3.out 0
    have hres := World.cell?_setCell_same (w := w3) ⟨w.heap.size, 0, none⟩ (.slice A2 n c2) (u := .slice none 0 0) c0
    go_wp2
    refine bodyPost_ret (v := .agg #[.slice A2 n c2]) (by simp [results, Try.results11, go_sem, hres]) rfl ⟨ys, A2, n, c2, hl, h9, rfl, ?_, HB3.out.setCell (Nat.le_refl _) _⟩
    exact own_base (ownsRow_setCell_below HO.out (by show w.heap.size < w2.heap.size; omega) _) (by omega)
  | true =>
    clear HAny
    go_wp2_with fail
    refine (HD.out _ 4 HC2.out).mono ?_
    rintro e w3 ⟨x3, hx3, rfl, hc3, hg3⟩
    have hb3 := hx3.2 (by omega)
    have HC3 := Lib.hid hc3
    have HG3 := Lib.hid (grown_trans HG2.out hg3)
    clear hc3 hg3 hx3 HC2 HG2
    obtain ⟨a, rfl, ha⟩ : ∃ a : Nat, x3 = (a : Int) ∧ a < 4 := ⟨x3.toNat, by omega, by omega⟩
    clear hb3
    go_wp2_with fail
    refine (HD.out _ 3 HC3.out).mono ?_
    rintro e w4 ⟨x4, hx4, rfl, hc4, hg4⟩
    have hb4 := hx4.2 (by omega)
    have HC4 := Lib.hid hc4
    have HG4 := Lib.hid (grown_trans HG3.out hg4)
    clear hc4 hg4 hx4 HC3 HG3
    obtain ⟨c, rfl, hc⟩ : ∃ c : Nat, x4 = (c : Int) ∧ c < 3 := ⟨x4.toNat, by omega, by omega⟩
    clear hb4
    obtain ⟨kw, hkw⟩ : ∃ kw, kw = a + 3 := ⟨_, rfl⟩
    obtain ⟨kh, hkh⟩ : ∃ kh, kh = c + 3 := ⟨_, rfl⟩
    have ew : (3 : Int) + (a : Int) = (kw : Int) := by omega
    have eh : (3 : Int) + (c : Int) = (kh : Int) := by omega
    have hkw3 : 3 ≤ kw := by omega
    have hkw6 : kw ≤ 6 := by omega
    have hkh3 : 3 ≤ kh := by omega
    have hkh5 : kh ≤ 5 := by omega
    clear hkw hkh ha hc
    go_wp2_with fail
    refine (sRectIn w4 kw kh (by omega) (by omega) (by omega) (by omega)).mono ?_
    rintro e w5 ⟨A3, c3, rfl, hown5, hb5⟩
    have S0 := Lib.hid (show DT w1 B g A len cap w5.heap.size (.slice A3 kh c3) kh (List.replicate kh ((2 : Int) ^ kw - 1)) (w5.alloc (.cells #[.slice A3 kh c3] 26)) from by
      have hgr := grown_below hb5 (some g)
      have hz := hb5.size
      have hz4 := HG4.out.size
      have hown := own_base hown5 hz4
      have hal := below_alloc1 w5 (.cells #[.slice A3 kh c3] 26)
      refine ⟨⟨(HC4.out.later (grown_below hb5 none) (by simp) (by simp)).later (grown_below hal none) (by simp) (by simp), hgl.2⟩, grown_trans (grown_trans HG4.out hgr) (grown_below hal _), heap_alloc_new w5 _, by omega, hown.alloc _, fun q => ?_⟩
      have := (hown.lt _ q).2
      omega)
    have HRg := Lib.hid (rng_rect (n := kh) (by omega : 1 ≤ kw) hkw6)
    have HLn := Lib.hid (List.length_replicate (n := kh) (a := (2 : Int) ^ kw - 1))
    clear hown5 hb5 HC4 HG4
    generalize List.replicate kh ((2 : Int) ^ kw - 1) = ys at S0 HRg HLn
    go_wp2_with fail
    have S1 := S0.out
    clear S0
    generalize w5.alloc (.cells #[.slice A3 kh c3] 26) = W5 at S1 ⊢
    generalize w5.heap.size = p at S1 ⊢
    refine (HD.out _ 3 S1.1.1).mono ?_
    rintro e w6 ⟨x6, hx6, rfl, hc6, hg6⟩
    have hb6 := hx6.2 (by omega)
    have S2 := S1.on hc6 hg6
    clear S1 hc6 hg6 hx6
    obtain ⟨k4, hk4, hk5⟩ : ∃ c : Nat, (1 : Int) + x6 = (c : Int) ∧ c ≤ 3 := ⟨(1 + x6).toNat, by omega, by omega⟩
    obtain ⟨gg, gc, hv, hg1, hg2⟩ := S2.2.2.2.2.1.form (by omega)
    injection hv with hA3 hz8 hcc
    subst hA3
    clear hz8 hcc hg2
    go_wp2_with fail
    clear hk4 hb6
    go_loopw [5] (fun i wr => ∃ (q : Nat) (zs : List Int), q ≤ 3 ∧ i = .int .i64 q ∧ Hid (Rng zs) ∧ Hid (zs.length = kh) ∧ DT w1 B g A len cap p (.slice (some ⟨gg, 0, none⟩) kh c3) kh zs wr) (fun i _ => (intOf i).toNat)
    case atStart => exact ⟨k4, ys, by omega, rfl, HRg, HLn, S2⟩
    case round =>
      clear S2 HRg HLn
      obtain ⟨q, zs, hq5, rfl, HRz, HLz, S3⟩ := hrel
      have hcp := S3.cell
      by_cases hq : 0 < (q : Int)
      · have hkI : (kh : Int) - 2 ≤ 3 := by omega
        go_wp2_with fail
        refine (HD.out _ ((kh : Int) - 2) S3.1.1).mono ?_
        rintro e w7 ⟨x7, hx7, rfl, hc7, hg7⟩
        have hb7 := hx7.2 (by omega)
        have S4 := S3.on hc7 hg7
        clear S3 hc7 hg7 hx7 hcp
        obtain ⟨y, hy, hy2⟩ : ∃ c : Nat, (1 : Int) + x7 = (c : Int) ∧ c < kh := ⟨(1 + x7).toNat, by omega, by omega⟩
        go_wp2_with fail
        refine (HD.out _ 3 S4.1.1).mono ?_
        rintro e w8 ⟨x8, hx8, rfl, hc8, hg8⟩
        have hb8 := hx8.2 (by omega)
        have S5 := S4.on hc8 hg8
        clear S4 hc8 hg8 hx8
        obtain ⟨x, hx, hx3⟩ : ∃ c : Nat, (1 : Int) + x8 = (c : Int) ∧ c ≤ 3 := ⟨(1 + x8).toNat, by omega, by omega⟩
        obtain ⟨hrc, hrf⟩ := row_cell S5.2.2.2.2.1 hy2
        have hr := rng_at HRz.out (y := y) (by rw [HLz.out]; exact hy2)
        have cp := S5.cell
        have hyI : (y : Int) < (kh : Int) := by omega
        have hx8' : x < 8 := by omega
        have HSet := Lib.hid (fun v h0 h1 => rng_set HRz.out (y := y) (v := v) h0 h1)
        generalize rowD zs y = r at hrc hr
        cases hbit : bitB r x with
        | false =>
          have hz := shr_no hr.1 (by omega) hx8' hbit
          clear hbit
          go_wp2
          go_roundw
          case rel => exact ⟨q - 1, zs, by omega, by first | (congr 1; omega) | go_num, HRz, HLz, S5⟩
          case measure => (simp [intOf] <;> omega)
        | true =>
          have hz := shr_yes hr.1 (by omega) hx8' hbit
          obtain ⟨_, hv0, hv1⟩ := put_le hr.1 hr.2 hx8' hbit
          obtain ⟨hp1, hp2⟩ := pow_wrap hx8'
          have hsh : Op.shift .shl .i64 1 .i64 (x : Int) = pure (.int .i64 (2 ^ x)) := by
            rw [shift_shl .i64 .i64 1 (x : Int) (by omega) (by show (x : Int) ≤ 64; omega), Int.one_mul, Int.toNat_natCast, (pow_wrap hx8').2]
          obtain ⟨v, hv⟩ : ∃ v, v = r - 2 ^ x := ⟨_, rfl⟩
          rw [← hv] at hv0 hv1
          have hsub : wrap64 (r - 2 ^ x) = v := by rw [← hv]; unfold wrap64; omega
          have hsub2 : IntKind.i64.wrap (r - 2 ^ x) = v := by rw [← hv, IntKind.wrap_i64]; omega
          have HRv := Lib.hid (HSet.out v hv0 hv1)
          clear hbit hv hv0 hv1 HSet
          go_wp2_with fail
          go_still_tail 12, (by kernel_rfl)
          change wpList _ _ _ _ _ w8.drew
          have S6 := S5.drew
          clear hrc hrf cp S5 hsh
          generalize w8.drew = W8 at S6 ⊢
          obtain ⟨hrc, hrf⟩ := row_cell S6.2.2.2.2.1 hy2
          have S7 := Lib.hid (S6.put (j := y) (z := v))
          have HLv := Lib.hid (show (zs.set y v).length = kh by rw [List.length_set]; exact HLz.out)
          clear S6 hsub hsub2
          go_wp2
          go_roundw
          case rel => exact ⟨q - 1, zs.set y v, by omega, by first | (congr 1; omega) | go_num, HRv, HLv, S7.out⟩
          case measure => (simp [intOf] <;> omega)
      · obtain rfl : q = 0 := by omega
        have hz1 := HZ1.out
        have HR3 := Lib.hid ((S3.2.1.block w.heap.size (by omega) (fun q => by injection q; omega)).trans HR1.out)
        have HB3 := Lib.hid (HB1.out.grown S3.2.1 (by omega) (fun k hk => by injection hk with hk; omega))
        have HO := Lib.hid S3.2.2.2.2.1
        clear S3 HR1 HB1 HD
        obtain ⟨c0, f0⟩ := cellAt HR3.out 0
        have hres := World.cell?_setCell_same (w := wr) ⟨w.heap.size, 0, none⟩ (.slice (some ⟨gg, 0, none⟩) kh c3) (u := .slice none 0 0) c0
        go_wp2
        refine bodyPost_ret (v := .agg #[.slice (some ⟨gg, 0, none⟩) kh c3]) (by simp [results, Try.results11, go_sem, hres]) rfl ⟨zs, _, kh, c3, HLz, by omega, rfl, ?_, HB3.out.setCell (Nat.le_refl _) _⟩
        exact own_base (ownsRow_setCell_below HO.out (by show w.heap.size < w1.heap.size; omega) _) (by omega)
end Go.Proofs.Ytocjnplbjdpieaa.Draw
