/- FlC, Cnt, PieI, App in one text. -/
import Derived.Test.YtmajllgfmclcoaaMb19
import Derived.Test.YtmajllgfmclcoaaMb00
import Derived.OwnWalk
import Derived.Laws.AppendOwn
import Derived.Deep.AppendLies

namespace Go.Proofs.Ytmajllgfmclcoaa.Flo
set_option linter.unusedVariables false
open Go.RowKit Go.Proofs.Ytmajllgfmclcoaa.Pure Go.Proofs.Ytmajllgfmclcoaa.Bal Go.Proofs.Ytmajllgfmclcoaa.Cell Go.Proofs.Ytmajllgfmclcoaa.Reg Go.Joins

def hasP (xs : List Int) (u : Nat) : Bool := hasB xs (plC u).1 (plC u).2
def partsV (xs : List Int) (g : Bool) : Nat := if okR xs then partsTo xs g 100 else 0
def PC (xs : List Int) (g : Bool) (k c : Nat) (M : Nat → Bool) : Prop := (okR xs → Cl xs g k M ∧ c = partsTo xs g k) ∧ (¬ okR xs → c = 0) ∧ c ≤ k
theorem hasP_ok {xs : List Int} (ho : okR xs) {u : Nat} (hu : u < 100) : hasP xs u = cR xs u := (cR_has ho hu).symm
theorem hasP_no {xs : List Int} (ho : ¬ okR xs) (u : Nat) : hasP xs u = false := has_no_ok ho _ _
theorem PC.start (xs : List Int) (g : Bool) : PC xs g 0 0 (fun _ => false) := ⟨fun _ => ⟨Cl.start xs g, rfl⟩, fun _ => rfl, Nat.le_refl _⟩
theorem PC.no {xs : List Int} {g : Bool} {k c : Nat} {M : Nat → Bool} (h : PC xs g k c M) (hk : k < 100) (hc : (hasP xs k == g) = false) : PC xs g (k + 1) c M := by
 refine ⟨fun ho => ?_, h.2.1, by have := h.2.2; omega⟩
 obtain ⟨a, b⟩ := h.1 ho
 rw [hasP_ok ho hk] at hc
 obtain ⟨q1, q2⟩ := a.out hc
 exact ⟨q1, b.trans q2.symm⟩
theorem PC.old {xs : List Int} {g : Bool} {k c : Nat} {M : Nat → Bool} (h : PC xs g k c M) (hk : k < 100) (hm : M k = true) : PC xs g (k + 1) c M := by
 refine ⟨fun ho => ?_, h.2.1, by have := h.2.2; omega⟩
 obtain ⟨a, b⟩ := h.1 ho
 obtain ⟨q1, q2⟩ := a.old hk hm
 exact ⟨q1, b.trans q2.symm⟩
theorem PC.new {xs : List Int} {g : Bool} {k c : Nat} {M M' : Nat → Bool} (h : PC xs g k c M) (hk : k < 100) (ho : okR xs) (hc : (hasP xs k == g) = true) (hm : M k = false) (hs : Spr xs g M k M') : PC xs g (k + 1) (c + 1) M' := by
 refine ⟨fun _ => ?_, fun hn => absurd ho hn, by have := h.2.2; omega⟩
 obtain ⟨a, b⟩ := h.1 ho
 rw [hasP_ok ho hk] at hc
 obtain ⟨q1, q2⟩ := a.new hk hc hm hs
 exact ⟨q1, by rw [q2, b]⟩
theorem PC.done {xs : List Int} {g : Bool} {c : Nat} {M : Nat → Bool} (h : PC xs g 100 c M) : c = partsV xs g := by
 unfold partsV
 by_cases ho : okR xs
 ·rw [if_pos ho]; exact (h.1 ho).2
 ·rw [if_neg ho]; exact h.2.1 ho
theorem plC_at {x y : Nat} (hx : x < 10) : plC (10 * y + x) = ((x : Int) - 1, (y : Int) - 1) := by
 unfold plC
 rw [show (10 * y + x) % 10 = x by omega, show (10 * y + x) / 10 = y by omega]

def CP (w : World) (u : Value) (M : Nat → Bool) (W : World) : Prop :=
 Below w.heap.size w W ∧ W.cell? ⟨w.heap.size, 0, none⟩ = some u ∧ Mks W (w.heap.size + 1) M
theorem CP.on {w W W' : World} {u : Value} {M : Nat → Bool} (h : CP w u M W) (hb : Below W.heap.size W W') : CP w u M W' := by
 obtain ⟨h0, h1, h2⟩ := h
 have := h2.lt
 exact ⟨h0.trans (hb.mono h0.size), (hb.cell (by show w.heap.size < _; omega)).trans h1, h2.on hb⟩
theorem CP.marked {w W W' : World} {u : Value} {M M' : Nat → Bool} (h : CP w u M W) (ha : Apart (w.heap.size + 1) (w.heap.size + 1 + 1) W W') (hm : Mks W' (w.heap.size + 1) M') : CP w u M' W' := by
 obtain ⟨h0, h1, h2⟩ := h
 have := h2.lt
 exact ⟨h0.trans (ha.below (by omega) (by omega)), (ha.cell (by show w.heap.size < _; omega) (.inl (by show w.heap.size < _; omega))).trans h1, hm⟩

theorem zero_marks : Try.zeroCells108 = Array.replicate 100 (.bool false) := by kernel_rfl
theorem mks_new (W : World) : Mks (W.alloc (.cells Try.zeroCells108 108)) W.heap.size (fun _ => false) := by
 rw [zero_marks]
 exact ⟨_, _, heap_alloc_new W _, by simp, fun v hv => by simp [hv]⟩
theorem cp_start {T : TypeId} (u : Value) (w : World) : CP w u (fun _ => false) ((w.alloc (.cells #[u] T)).alloc (.cells Try.zeroCells108 108)) := by
 refine ⟨below_alloc2 w _ _, ?_, ?_⟩
 ·have := (rb_start (T := T) u w).on (below_alloc1 _ (.cells Try.zeroCells108 108))
  exact this.2.2
 ·have := mks_new (w.alloc (.cells #[u] T))
  simpa using this

set_option maxRecDepth 100000 in
set_option maxHeartbeats 4000000 in
theorem countParts (A : Option Addr) (n cap : Nat) (xs : List Int) (hx : xs.length = n) (hn : (n : Int) ≤ 9223372036854775807) (g : Bool) (hog : okR xs ∨ g = true) (w : World) (B : Nat) (hR : RowB w B A xs) (hB : B ≤ w.heap.size) :
  Calls Try.prog 72 #[.agg #[.slice A n cap], .bool g] w (Num ((partsV xs g : Nat) : Int) w) := by
 have HHas := Lib.hid (fun W (u : Nat) (ha : Below w.heap.size w W) X Y (hX : X = (plC u).1) (hY : Y = (plC u).2) => show Calls Try.prog 73 #[.agg #[.slice A n cap], .agg #[.int .i64 X, .int .i64 Y]] W (Bol (hasP xs u) W) by
  rw [hX, hY]
  exact iHasCell W A n cap B xs hx hn (hR.below ha hB) (by have := ha.size; omega) _ _)
 have HSp := Lib.hid (fun W (u : Nat) M X Y (hu : u < 100) (hm : M u = false) (hcl : (hasP xs u == g) = true) (hM : Mks W (w.heap.size + 1) M) (ha : Below w.heap.size w W) (hX : X = (plC u).1) (hY : Y = (plC u).2) => show okR xs ∧ Calls Try.prog 84 #[.pointer (some ⟨w.heap.size + 1, 0, none⟩), .agg #[.slice A n cap], .agg #[.int .i64 X, .int .i64 Y]] W (SprPost xs g M u (w.heap.size + 1) W) by
  have ho : okR xs := by
   by_cases ho : okR xs
   ·exact ho
   ·rcases hog with h | rfl
    ·exact h
    ·rw [hasP_no ho] at hcl; cases hcl
  rw [hasP_ok ho hu] at hcl
  exact ⟨ho, spread A n cap xs hx hn ho g (openN M) W (w.heap.size + 1) u M X Y (Nat.le_refl _) hu hm hcl hM ((hR.below ha hB).mono (by omega)) hX hY⟩)
 have T0 := Lib.hid (fun T => cp_start (T := T) (.slice A n cap) w)
 clear hx hn hog hR hB
 go_enter Try.func72, Try.ntmps72
 go_wp2_with fail
 have T1 := T0.out 29
 clear T0
 generalize (w.alloc (.cells #[.slice A n cap] 29)).alloc (.cells Try.zeroCells108 108) = W1 at T1 ⊢
 go_loopw [6, 10] (fun s i wr => ∃ (y c : Nat) (M : Nat → Bool), y ≤ 10 ∧ i = .int .i64 y ∧ s = .int .i64 c ∧ c ≤ 100 ∧ PC xs g (10 * y) c M ∧ CP w (.slice A n cap) M wr) (fun _ i _ => 10 - (intOf i).toNat)
 case atStart => exact ⟨0, 0, _, by omega, rfl, rfl, by omega, PC.start xs g, T1⟩
 case round =>
  clear T1
  obtain ⟨y, c, M, hy, rfl, rfl, hc, hpc, hcp⟩ := hrel
  by_cases hlt : y < 10
  ·have HPC := Lib.hid hpc
   have HCP := Lib.hid hcp
   clear hpc hcp
   go_wp2_with fail
   go_loopw [6, 13] (fun s i wr => ∃ (x c : Nat) (M : Nat → Bool), x ≤ 10 ∧ i = .int .i64 x ∧ s = .int .i64 c ∧ c ≤ 100 ∧ PC xs g (10 * y + x) c M ∧ CP w (.slice A n cap) M wr) (fun _ i _ => 10 - (intOf i).toNat)
   case atStart => exact ⟨0, c, M, by omega, rfl, rfl, hc, HPC.out, HCP.out⟩
   case round =>
    clear HPC HCP hc
    obtain ⟨x, c', M', hx, rfl, rfl, hc', hpc, hcp⟩ := hrel
    by_cases hlx : x < 10
    ·obtain ⟨hb, cr, hM⟩ := id hcp
     have hk : 10 * y + x < 100 := by omega
     have hpl := plC_at (y := y) hlx
     have hX : (x : Int) - 1 = (plC (10 * y + x)).1 := by rw [hpl]
     have hY : (y : Int) - 1 = (plC (10 * y + x)).2 := by rw [hpl]
     have HXY := Lib.hid (And.intro hX hY)
     have HPC := Lib.hid hpc
     have HCP := Lib.hid hcp
     have hbl := hM.lt
     have cr1 : ∀ o, (wr.alloc o).cell? ⟨w.heap.size, 0, none⟩ = some (.slice A n cap) := fun o => ((below_alloc1 wr o).cell (by show w.heap.size < _; omega)).trans cr
     have hdy : decide ((y : Int) < 10) = true := decide_eq_true (by omega)
     clear hpl hX hY hpc hcp hM cr
     go_wp2_with fail
     have hB7 := below_alloc1 wr (.cells #[.int .i64 ((x : Int) - 1), .int .i64 ((y : Int) - 1)] 56)
     refine (HHas.out _ (10 * y + x) (hb.trans (hB7.mono hb.size)) _ _ HXY.out.1 HXY.out.2).mono ?_
     rintro e w8 ⟨rfl, hb8⟩
     generalize hxi : (x : Int) - 1 = X at HXY hB7 hb8 ⊢
     generalize hyi : (y : Int) - 1 = Y at HXY hB7 hb8 ⊢
     have hb78 : Below wr.heap.size wr w8 := hB7.trans (hb8.mono (by simp))
     have hbl2 := heap_alloc_new wr (.cells #[.int .i64 X, .int .i64 Y] 56)
     have hn0 : w8.cell? ⟨wr.heap.size, 0, none⟩ = some (.int .i64 X) := (hb8.cell (by simp)).trans ((cell_of_row _ _ 0 _ _ _ hbl2).trans rfl)
     have hn1 : w8.cell? ⟨wr.heap.size, 1, none⟩ = some (.int .i64 Y) := (hb8.cell (by simp)).trans ((cell_of_row _ _ 1 _ _ _ hbl2).trans rfl)
     have hz8 : wr.heap.size < w8.heap.size := by have := hb8.size; simp at this; omega
     have HCP8 := Lib.hid (HCP.out.on hb78)
     clear hB7 hb8 hb78 hbl2 HCP cr1 hxi hyi hb hbl
     obtain ⟨cb, hcb⟩ : ∃ cb, cb = hasP xs (10 * y + x) := ⟨_, rfl⟩
     rw [← hcb]
     by_cases hcg : cb = g
     ·have HCu := Lib.hid (show (hasP xs (10 * y + x) == g) = true by rw [← hcb, hcg, beq_self_eq_true])
      have hbe : (cb == g) = true := by rw [hcg, beq_self_eq_true]
      clear hcb
      go_wp2_with fail
      refine (mHas' w8 _ M' HCP8.out.2.2 (10 * y + x) hk X Y HXY.out.1 HXY.out.2).mono ?_
      rintro e w9 ⟨rfl, hb9⟩
      have hn2 := (hb9.cell (p := ⟨wr.heap.size, 0, none⟩) hz8).trans hn0
      have hn3 := (hb9.cell (p := ⟨wr.heap.size, 1, none⟩) hz8).trans hn1
      have HCP9 := Lib.hid (HCP8.out.on hb9)
      clear hn0 hn1 hb9 HCP8 hz8
      cases hMu : M' (10 * y + x) with
      | true =>
       have HNx := Lib.hid (show PC xs g (10 * y + (x + 1)) c' M' from HPC.out.old hk hMu)
       clear hMu
       go_wp2
       go_roundw
       case rel =>
        repeat apply Exists.intro
        refine ⟨⟨x + 1, c', M', by omega, ?_, ?_, ?_, HNx.out, HCP9.out⟩, ?_⟩
        rotate_left 3
        ·rw [hdy]
        ·go_num
        ·go_num
        ·omega
       case measure => (simp [intOf] <;> omega)
      | false =>
       obtain ⟨hb9, cr9, hM9⟩ := id HCP9.out
       have HSp' := Lib.hid (HSp.out w9 (10 * y + x) M' X Y hk hMu HCu.out hM9 hb9 HXY.out.1 HXY.out.2)
       have HMu := Lib.hid hMu
       clear hMu hb9 hM9
       go_wp2_with fail
       refine HSp'.out.2.mono ?_
       rintro e w10 ⟨rfl, M2, hs2, hM2, ha2⟩
       have HNx := Lib.hid (show PC xs g (10 * y + (x + 1)) (c' + 1) M2 from HPC.out.new hk HSp'.out.1 HCu.out HMu.out hs2)
       have HCP10 := Lib.hid (HCP9.out.marked ha2 hM2)
       have hcc : c' + 1 ≤ 100 := by have := HNx.out.2.2; omega
       clear hs2 hM2 ha2 hn2 hn3 cr9
       go_wp2
       go_roundw
       case rel =>
        repeat apply Exists.intro
        refine ⟨⟨x + 1, c' + 1, M2, by omega, ?_, ?_, ?_, HNx.out, HCP10.out⟩, ?_⟩
        rotate_left 3
        ·rw [hdy]
        ·go_num
        ·go_num
        ·omega
       case measure => (simp [intOf] <;> omega)
     ·have HNx := Lib.hid (show PC xs g (10 * y + (x + 1)) c' M' from HPC.out.no hk (by rw [← hcb, beq_eq_false_iff_ne]; exact hcg))
      have hbe : (cb == g) = false := by rw [beq_eq_false_iff_ne]; exact hcg
      clear hcb
      go_wp2
      go_roundw
      case rel =>
       repeat apply Exists.intro
       refine ⟨⟨x + 1, c', M', by omega, ?_, ?_, ?_, HNx.out, HCP8.out⟩, ?_⟩
       rotate_left 3
       ·rw [hdy]
       ·go_num
       ·go_num
       ·omega
      case measure => (simp [intOf] <;> omega)
    ·obtain rfl : x = 10 := by omega
     have HPC := Lib.hid (show PC xs g (10 * (y + 1)) c' M' by rw [show 10 * (y + 1) = 10 * y + 10 by omega]; exact hpc)
     clear hpc
     go_wp2
     go_roundw
     case rel => exact ⟨y + 1, c', M', by omega, by go_num, rfl, hc', HPC.out, hcp⟩
     case measure => (simp [intOf] <;> omega)
  ·obtain rfl : y = 10 := by omega
   have HD := Lib.hid hpc.done
   have hb := hcp.1
   clear hpc hcp
   go_wp2
   go_ret
   exact mkNum (by rw [HD.out]) hb
end Go.Proofs.Ytmajllgfmclcoaa.Flo

namespace Go.Proofs.Ytmajllgfmclcoaa.Flo
set_option linter.unusedVariables false
open Go.RowKit Go.Proofs.Ytmajllgfmclcoaa.Pure Go.Proofs.Ytmajllgfmclcoaa.Euler Go.Proofs.Ytmajllgfmclcoaa.Bal Go.Proofs.Ytmajllgfmclcoaa.Cell Go.Proofs.Ytmajllgfmclcoaa.Reg Go.Joins

def pcsN (xs : List Int) : Nat := if okR xs then piecesN xs else 0
def holN (xs : List Int) : Nat := if okR xs then outsN xs - 1 else 0
theorem cnt_max (p : Nat → Bool) : ∀ n, cnt n p ≤ n
 | 0 => Nat.le_refl _
 | n + 1 => by
  have := cnt_max p n
  have h2 : (p n).toNat ≤ 1 := by cases p n <;> decide
  simp only [cnt]; omega
theorem pcsN_le (xs : List Int) : pcsN xs ≤ 64 := by
 unfold pcsN
 split
 ·exact cnt_max _ 64
 ·omega
theorem holN_le (xs : List Int) : holN xs ≤ 100 := by
 unfold holN
 split
 ·have : outsN xs ≤ 100 := cnt_max _ 100
  omega
 ·omega
theorem partsV_true (xs : List Int) : partsV xs true = pcsN xs := by unfold partsV pcsN; rw [parts_true]
theorem partsV_false {xs : List Int} (ho : okR xs) : ((partsV xs false : Nat) : Int) = (holN xs : Int) + 1 := by
 unfold partsV holN
 rw [if_pos ho, if_pos ho, parts_false]
 have := outs_pos xs
 omega

set_option maxHeartbeats 400000 in
theorem iCountPieces (w : World) (A : Option Addr) (n cap B : Nat) (xs : List Int) (hx : xs.length = n) (hn : (n : Int) ≤ 9223372036854775807) (h : RowB w B A xs) (hB : B ≤ w.heap.size) :
  Calls Try.prog 60 #[.agg #[.slice A n cap]] w (Num ((pcsN xs : Nat) : Int) w) := by
 have HC := Lib.hid (fun W (hb : Below w.heap.size w W) => countParts A n cap xs hx hn true (.inr rfl) W B (h.below hb hB) (by have := hb.size; omega))
 have T0 := Lib.hid (fun T => rb_start (T := T) (.slice A n cap) w)
 rw [partsV_true] at HC
 clear hx hn h
 generalize ((pcsN xs : Nat) : Int) = z at HC ⊢
 go_enter Try.func60, Try.ntmps60
 go_wp2_with fail
 have T1 := T0.out 29
 clear T0
 refine (HC.out _ T1.1).mono ?_
 rintro e w1 ⟨rfl, hb1⟩
 have hb := (T1.on hb1).1
 clear T1 hb1 HC
 go_wp2
 go_ret
 exact mkNum rfl hb

set_option maxHeartbeats 1000000 in
theorem iCountHoles (w : World) (A : Option Addr) (n cap B : Nat) (xs : List Int) (hx : xs.length = n) (hn : (n : Int) ≤ 9223372036854775807) (h : RowB w B A xs) (hB : B ≤ w.heap.size) :
  Calls Try.prog 61 #[.agg #[.slice A n cap]] w (Num ((holN xs : Nat) : Int) w) := by
 have HOk := Lib.hid (fun W (hb : Below w.heap.size w W) => iRegionOk W A n cap B xs hx hn (h.below hb hB) (by have := hb.size; omega))
 have HC := Lib.hid (fun W (ho : okR xs) (hb : Below w.heap.size w W) => countParts A n cap xs hx hn false (.inl ho) W B (h.below hb hB) (by have := hb.size; omega))
 have T0 := Lib.hid (fun T => rb_start (T := T) (.slice A n cap) w)
 clear hx hn h
 go_enter Try.func61, Try.ntmps61
 go_wp2_with fail
 have T1 := T0.out 29
 clear T0
 refine (HOk.out _ T1.1).mono ?_
 rintro e w1 ⟨rfl, hb1⟩
 have T2 := T1.on hb1
 clear T1 hb1 HOk
 obtain ⟨hbw, _, c0⟩ := id T2
 by_cases ho : okR xs
 ·have HC := Lib.hid (fun W hb => HC.out W ho hb)
  have hv := partsV_false ho
  have hle := holN_le xs
  rw [okRB_of ho]
  generalize hz : ((partsV xs false : Nat) : Int) = z at HC hv
  have hz0 : 0 ≤ z := by omega
  have hz1 : z ≤ 101 := by omega
  have hz2 : z - 1 = ((holN xs : Nat) : Int) := by omega
  have HY := Lib.hid hz2
  clear hz hv hle ho hz2
  go_wp2_with fail
  refine (HC.out _ hbw).mono ?_
  rintro e w2 ⟨rfl, hb2⟩
  have hb := (T2.on hb2).1
  clear hb2 HC T2 c0 hbw
  go_wp2
  go_ret
  exact mkNum HY.out hb
 ·have e : holN xs = 0 := by unfold holN; rw [if_neg ho]
  have HE := Lib.hid (show (0 : Int) = ((holN xs : Nat) : Int) by rw [e]; rfl)
  rw [okRB_not ho]
  clear HC T2 e ho
  go_wp2
  go_ret
  exact mkNum HE.out hbw
end Go.Proofs.Ytmajllgfmclcoaa.Flo

namespace Go.Proofs.Ytmajllgfmclcoaa.Flo
set_option linter.unusedVariables false
open Go.RowKit Go.Proofs.Ytmajllgfmclcoaa.Pure Go.Proofs.Ytmajllgfmclcoaa.Euler Go.Proofs.Ytmajllgfmclcoaa.Bal Go.Joins

def pieceR (xs : List Int) (x y : Int) : List (Int × Int) := if hasB xs x y then pieceTo xs (8 * y.toNat + x.toNat) 64 else []
theorem plC_io (j : Nat) : plC (io j) = cellI j := by
 unfold plC io cellI
 exact Prod.ext (by simp only; omega) (by simp only; omega)
theorem has_index {xs : List Int} {x y : Int} (h : hasB xs x y = true) : ∃ a, a < 64 ∧ a = 8 * y.toNat + x.toNat ∧ x = (plC (io a)).1 ∧ y = (plC (io a)).2 ∧ bitI xs a = true := by
 obtain ⟨ho, x0, x7, y0, y7, b⟩ := hasB_iff.1 h
 refine ⟨8 * y.toNat + x.toNat, by omega, rfl, ?_, ?_, ?_⟩
 ·rw [plC_io]; unfold cellI; simp only; omega
 ·rw [plC_io]; unfold cellI; simp only; omega
 ·unfold bitI
  rw [show (8 * y.toNat + x.toNat) / 8 = y.toNat by omega, show (8 * y.toNat + x.toNat) % 8 = x.toNat by omega]
  exact b

end Go.Proofs.Ytmajllgfmclcoaa.Flo

namespace Go.Proofs.Ytmajllgfmclcoaa.App
set_option linter.unusedVariables false
open Go.RowKit

section
variable {P : Program} (w : World)
theorem own_where {base e size n m cap g : Nat} {i : TypeInfo} {z : Value} {t ty : TypeId} {xs news : List Value} {ad : Addr} {c : Nat} {v' : Value} {w' : World}
  (ht : P.underlying t = some (.slice e)) (hi : P.info? e = some i) (hz : i.zero = some z) (hsize : i.size = size) (hzs : z.cells.size = size)
  (hown : w.ownsRow base e size (.slice (some ⟨g, 0, none⟩) n cap) n xs) (hl : news.length = m * size) (hnews : ∀ j u, news[j]? = some u → w.cell? (ad.add j) = some u) (h1 : ∀ u ∈ news, u.oneCell' = true)
  (h63 : n + m ≤ maxLen) (hbytes : (n + m) * i.bytes ≤ 140737488355328)
  (hr : (Builtin.append_ #[t, t] ty #[.slice (some ⟨g, 0, none⟩) n cap, .slice (some ad) m c]).run P w = .ok v' w') : v'.ownBlock = some g ∨ v'.ownBlock = some w.heap.size := by
 have hsmall : n + m ≤ 9223372036854775807 := by simp only [maxLen] at h63; omega
 obtain ⟨hx, hrest⟩ := hown
 subst hsize
 rcases hrest with ⟨q, _⟩ | ⟨g', cap', cur, q, _, hg, hnc, hcm, hcs, htk⟩
 ·cases q
 ·cases q
  by_cases hroom : n + m ≤ cap
  ·have hfit : n * i.size + news.length ≤ cur.size := by rw [hl, hcs, ← Nat.add_mul]; exact Nat.mul_le_mul_right _ hroom
   have h2 := run_append_room (P := P) w t ty e i ht hi g n cap cur hg ad m c news hl hnews h1 hroom hfit
   rw [hr] at h2
   injection h2 with hv _
   left; rw [hv]; rfl
  ·have holds : ∀ j u, xs[j]? = some u → w.cell? ((⟨g, 0, none⟩ : Addr).add j) = some u := World.ownsRow.cells (w := w) (base := 0) (e := e) (size := i.size) (v := .slice (some ⟨g, 0, none⟩) n cap) (n := n) ⟨hx, .inr ⟨g, cap, cur, rfl, Nat.zero_le _, hg, hnc, hcm, hcs, htk⟩⟩ rfl
   have h2 := run_append_grow (P := P) w t ty e i z ht hi hz ⟨g, 0, none⟩ n cap xs hx holds ad m c news hl hnews (by omega) (by omega) (growslice_fits (by omega) hbytes)
   rw [hr] at h2
   injection h2 with hv _
   right; rw [hv]; rfl
theorem wpList_append_at {ops : Array Oper} {rest : List Oper} {o : Oper} {a : Act} {Q : Exit → Act → World → Prop} (hgd : o.guard = none) (s x : Operand) (t : TypeId)
  (ho : o.op = .call { callee := .builtin .append, args := #[s, x], argTypes := #[t, t] })
  (base : Nat) (e : TypeId) (i : TypeInfo) (z : Value) (size bytes : Nat) (ht : P.underlying t = some (.slice e)) (hi : P.info? e = some i) (hz : i.zero = some z)
  (hsize : i.size = size) (hby : i.bytes = bytes) (hzs : z.cells.size = size) (hsz : 0 < size)
  (g cap n : Nat) (xs : List Value) (hs : a.eval s = .slice (some ⟨g, 0, none⟩) n cap) (hown : w.ownsRow base e size (.slice (some ⟨g, 0, none⟩) n cap) n xs)
  (ad : Addr) (m c : Nat) (news : List Value) (hx : a.eval x = .slice (some ad) m c) (hl : news.length = m * size) (hnews : ∀ j u, news[j]? = some u → w.cell? (ad.add j) = some u) (h1 : ∀ u ∈ news, u.oneCell' = true)
  (h63 : n + m ≤ maxLen) (hbytes : (n + m) * bytes ≤ 140737488355328) (hbase : base ≤ w.heap.size)
  (h : ∀ v' w', w'.ownsRow base e size v' (n + m) (xs ++ news) → w.grownBy w' (some g) → (v'.ownBlock = some g ∨ v'.ownBlock = some w.heap.size) → wpList P ops Q rest (a.put o.dst v') w') : wpList P ops Q (o :: rest) a w := by
 subst hby
 refine wpList_plain hgd fun K hK => ?_
 obtain ⟨v', w', hr, h2, h3, _⟩ := run_append_own (P := P) w base t o.type e i z size _ ht hi hz hsize rfl hzs hsz _ n xs hown ad m c news hl hnews h1 h63 hbytes hbase
 have h4 := own_where w ht hi hz hsize hzs hown hl hnews h1 h63 hbytes hr
 unfold Oper.wp execOp
 simp only [ho, resolve, invoke, builtin, Sem.run_bind, Sem.run_pure, Result.andThen_ok, List.map_toArray, List.map_cons, List.map_nil, hs, hx, hr]
 exact hK _ _ (h v' w' h2 h3 h4)
end
end Go.Proofs.Ytmajllgfmclcoaa.App
