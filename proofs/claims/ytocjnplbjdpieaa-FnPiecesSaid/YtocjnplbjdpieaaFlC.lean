/- The program's count of parts: of the cells of a region, or of the rest. -/
import Derived.Test.YtocjnplbjdpieaaFlS
namespace Go.Proofs.Ytocjnplbjdpieaa.Flo
set_option linter.unusedVariables false
open Go.RowKit Go.Proofs.Ytocjnplbjdpieaa.Base Go.Proofs.Ytocjnplbjdpieaa.Pure Go.Proofs.Ytocjnplbjdpieaa.Euler Go.Proofs.Ytocjnplbjdpieaa.Bal Go.Proofs.Ytocjnplbjdpieaa.Cell Go.Proofs.Ytocjnplbjdpieaa.Reg Go.Proofs.Ytocjnplbjdpieaa.Cels Go.Joins

def hasP (xs : List Int) (u : Nat) : Bool := hasB xs (plC u).1 (plC u).2
def partsV (xs : List Int) (g : Bool) : Nat := if okR xs then partsTo xs g 100 else 0
/-- after k places, with count c. -/
def PC (xs : List Int) (g : Bool) (k c : Nat) (M : Nat → Bool) : Prop := (okR xs → Cl xs g k M ∧ c = partsTo xs g k) ∧ (¬ okR xs → c = 0) ∧ c ≤ k
theorem hasP_ok {xs : List Int} (ho : okR xs) {u : Nat} (hu : u < 100) : hasP xs u = cR xs u := (cR_has ho hu).symm
theorem hasP_no {xs : List Int} (ho : ¬ okR xs) (u : Nat) : hasP xs u = false := has_no_ok ho _ _
theorem PC.start (xs : List Int) (g : Bool) : PC xs g 0 0 (fun _ => false) := ⟨fun _ => ⟨Cl.start xs g, rfl⟩, fun _ => rfl, Nat.le_refl _⟩
theorem PC.no {xs : List Int} {g : Bool} {k c : Nat} {M : Nat → Bool} (h : PC xs g k c M) (hk : k < 100) (hc : (hasP xs k == g) = false) : PC xs g (k + 1) c M := by
  refine ⟨fun ho => ?_, h.2.1, by have := h.2.2; omega⟩
  obtain ⟨a, b⟩ := h.1 ho
  rw [hasP_ok ho hk] at hc
  obtain ⟨q1, q2⟩ := a.out hc
  exact ⟨q1, b.trans q2.symm⟩
theorem PC.old {xs : List Int} {g : Bool} {k c : Nat} {M : Nat → Bool} (h : PC xs g k c M) (hk : k < 100) (hm : M k = true) : PC xs g (k + 1) c M := by
  refine ⟨fun ho => ?_, h.2.1, by have := h.2.2; omega⟩
  obtain ⟨a, b⟩ := h.1 ho
  obtain ⟨q1, q2⟩ := a.old hk hm
  exact ⟨q1, b.trans q2.symm⟩
theorem PC.new {xs : List Int} {g : Bool} {k c : Nat} {M M' : Nat → Bool} (h : PC xs g k c M) (hk : k < 100) (ho : okR xs) (hc : (hasP xs k == g) = true) (hm : M k = false) (hs : Spr xs g M k M') : PC xs g (k + 1) (c + 1) M' := by
  refine ⟨fun _ => ?_, fun hn => absurd ho hn, by have := h.2.2; omega⟩
  obtain ⟨a, b⟩ := h.1 ho
  rw [hasP_ok ho hk] at hc
  obtain ⟨q1, q2⟩ := a.new hk hc hm hs
  exact ⟨q1, by rw [q2, b]⟩
theorem PC.done {xs : List Int} {g : Bool} {c : Nat} {M : Nat → Bool} (h : PC xs g 100 c M) : c = partsV xs g := by
  unfold partsV
  by_cases ho : okR xs
  · rw [if_pos ho]; exact (h.1 ho).2
  · rw [if_neg ho]; exact h.2.1 ho
theorem plC_at {x y : Nat} (hx : x < 10) : plC (10 * y + x) = ((x : Int) - 1, (y : Int) - 1) := by
  unfold plC
  rw [show (10 * y + x) % 10 = x by omega, show (10 * y + x) / 10 = y by omega]

/-- the region's box and the marks behind it. -/
def CP (w : World) (u : Value) (M : Nat → Bool) (W : World) : Prop :=
  Below w.heap.size w W ∧ W.cell? ⟨w.heap.size, 0, none⟩ = some u ∧ Mks W (w.heap.size + 1) M
theorem CP.on {w W W' : World} {u : Value} {M : Nat → Bool} (h : CP w u M W) (hb : Below W.heap.size W W') : CP w u M W' := by
  obtain ⟨h0, h1, h2⟩ := h
  have := h2.lt
  exact ⟨h0.trans (hb.mono h0.size), (hb.cell (by show w.heap.size < _; omega)).trans h1, h2.on hb⟩
theorem CP.marked {w W W' : World} {u : Value} {M M' : Nat → Bool} (h : CP w u M W) (ha : Apart (w.heap.size + 1) (w.heap.size + 1 + 1) W W') (hm : Mks W' (w.heap.size + 1) M') : CP w u M' W' := by
  obtain ⟨h0, h1, h2⟩ := h
  have := h2.lt
  exact ⟨h0.trans (ha.below (by omega) (by omega)), (ha.cell (by show w.heap.size < _; omega) (.inl (by show w.heap.size < _; omega))).trans h1, hm⟩

theorem zero_marks : Try.zeroCells63 = Array.replicate 100 (.bool false) := by kernel_rfl
theorem mks_new (W : World) : Mks (W.alloc (.cells Try.zeroCells63 63)) W.heap.size (fun _ => false) := by
  rw [zero_marks]
  exact ⟨_, _, heap_alloc_new W _, by simp, fun v hv => by simp [hv]⟩
theorem cp_start {T : TypeId} (u : Value) (w : World) : CP w u (fun _ => false) ((w.alloc (.cells #[u] T)).alloc (.cells Try.zeroCells63 63)) := by
  refine ⟨below_alloc2 w _ _, ?_, ?_⟩
  · have := (rb_start (T := T) u w).on (below_alloc1 _ (.cells Try.zeroCells63 63))
    exact this.2.2
  · have := mks_new (w.alloc (.cells #[u] T))
    simpa using this

set_option maxRecDepth 100000 in
set_option maxHeartbeats 4000000 in
theorem countParts (A : Option Addr) (n cap : Nat) (xs : List Int) (hx : xs.length = n) (hn : (n : Int) ≤ 9223372036854775807) (g : Bool) (hog : okR xs ∨ g = true) (w : World) (B : Nat) (hR : RowB w B A xs) (hB : B ≤ w.heap.size) :
    Calls Try.prog 46 #[.agg #[.slice A n cap], .bool g] w (Num ((partsV xs g : Nat) : Int) w) := by
  have HHas := Lib.hid (fun W (u : Nat) (ha : Below w.heap.size w W) X Y (hX : X = (plC u).1) (hY : Y = (plC u).2) => show Calls Try.prog 50 #[.agg #[.slice A n cap], .agg #[.int .i64 X, .int .i64 Y]] W (Bol (hasP xs u) W) by
    rw [hX, hY]
    exact iHasCell W A n cap B xs hx hn (hR.below ha hB) (by have := ha.size; omega) _ _)
  have HSp := Lib.hid (fun W (u : Nat) M X Y (hu : u < 100) (hm : M u = false) (hcl : (hasP xs u == g) = true) (hM : Mks W (w.heap.size + 1) M) (ha : Below w.heap.size w W) (hX : X = (plC u).1) (hY : Y = (plC u).2) => show okR xs ∧ Calls Try.prog 51 #[.pointer (some ⟨w.heap.size + 1, 0, none⟩), .agg #[.slice A n cap], .agg #[.int .i64 X, .int .i64 Y]] W (SprPost xs g M u (w.heap.size + 1) W) by
    have ho : okR xs := by
      by_cases ho : okR xs
      · exact ho
      · rcases hog with h | rfl
        · exact h
        · rw [hasP_no ho] at hcl; cases hcl
    rw [hasP_ok ho hu] at hcl
    exact ⟨ho, spread A n cap xs hx hn ho g (openN M) W (w.heap.size + 1) u M X Y (Nat.le_refl _) hu hm hcl hM ((hR.below ha hB).mono (by omega)) hX hY⟩)
  have T0 := Lib.hid (fun T => cp_start (T := T) (.slice A n cap) w)
  clear hx hn hog hR hB
  go_enter Try.func46, Try.ntmps46
  go_wp2_with fail
  have T1 := T0.out 26
  clear T0
  generalize (w.alloc (.cells #[.slice A n cap] 26)).alloc (.cells Try.zeroCells63 63) = W1 at T1 ⊢
  go_loopw [6, 10] (fun s i wr => ∃ (y c : Nat) (M : Nat → Bool), y ≤ 10 ∧ i = .int .i64 y ∧ s = .int .i64 c ∧ c ≤ 100 ∧ PC xs g (10 * y) c M ∧ CP w (.slice A n cap) M wr) (fun _ i _ => 10 - (intOf i).toNat)
  case atStart => exact ⟨0, 0, _, by omega, rfl, rfl, by omega, PC.start xs g, T1⟩
  case round =>
    clear T1
    obtain ⟨y, c, M, hy, rfl, rfl, hc, hpc, hcp⟩ := hrel
    by_cases hlt : y < 10
    · have HPC := Lib.hid hpc
      have HCP := Lib.hid hcp
      clear hpc hcp
      go_wp2_with fail
      go_loopw [6, 13] (fun s i wr => ∃ (x c : Nat) (M : Nat → Bool), x ≤ 10 ∧ i = .int .i64 x ∧ s = .int .i64 c ∧ c ≤ 100 ∧ PC xs g (10 * y + x) c M ∧ CP w (.slice A n cap) M wr) (fun _ i _ => 10 - (intOf i).toNat)
      case atStart => exact ⟨0, c, M, by omega, rfl, rfl, hc, HPC.out, HCP.out⟩
      case round =>
        clear HPC HCP hc
        obtain ⟨x, c', M', hx, rfl, rfl, hc', hpc, hcp⟩ := hrel
        by_cases hlx : x < 10
        · obtain ⟨hb, cr, hM⟩ := id hcp
          have hk : 10 * y + x < 100 := by omega
          have hpl := plC_at (y := y) hlx
          have hX : (x : Int) - 1 = (plC (10 * y + x)).1 := by rw [hpl]
          have hY : (y : Int) - 1 = (plC (10 * y + x)).2 := by rw [hpl]
          have HXY := Lib.hid (And.intro hX hY)
          have HPC := Lib.hid hpc
          have HCP := Lib.hid hcp
          have hbl := hM.lt
          have cr1 : ∀ o, (wr.alloc o).cell? ⟨w.heap.size, 0, none⟩ = some (.slice A n cap) := fun o => ((below_alloc1 wr o).cell (by show w.heap.size < _; omega)).trans cr
          have hdy : decide ((y : Int) < 10) = true := decide_eq_true (by omega)
          clear hpl hX hY hpc hcp hM cr
          go_wp2_with fail
          have hB7 := below_alloc1 wr (.cells #[.int .i64 ((x : Int) - 1), .int .i64 ((y : Int) - 1)] 34)
          refine (HHas.out _ (10 * y + x) (hb.trans (hB7.mono hb.size)) _ _ HXY.out.1 HXY.out.2).mono ?_
          rintro e w8 ⟨rfl, hb8⟩
          generalize hxi : (x : Int) - 1 = X at HXY hB7 hb8 ⊢
          generalize hyi : (y : Int) - 1 = Y at HXY hB7 hb8 ⊢
          have hb78 : Below wr.heap.size wr w8 := hB7.trans (hb8.mono (by simp))
          have hbl2 := heap_alloc_new wr (.cells #[.int .i64 X, .int .i64 Y] 34)
          have hn0 : w8.cell? ⟨wr.heap.size, 0, none⟩ = some (.int .i64 X) := (hb8.cell (by simp)).trans ((cell_of_row _ _ 0 _ _ _ hbl2).trans rfl)
          have hn1 : w8.cell? ⟨wr.heap.size, 1, none⟩ = some (.int .i64 Y) := (hb8.cell (by simp)).trans ((cell_of_row _ _ 1 _ _ _ hbl2).trans rfl)
          have hz8 : wr.heap.size < w8.heap.size := by have := hb8.size; simp at this; omega
          have HCP8 := Lib.hid (HCP.out.on hb78)
          clear hB7 hb8 hb78 hbl2 HCP cr1 hxi hyi hb hbl
          obtain ⟨cb, hcb⟩ : ∃ cb, cb = hasP xs (10 * y + x) := ⟨_, rfl⟩
          rw [← hcb]
          by_cases hcg : cb = g
          · have HCu := Lib.hid (show (hasP xs (10 * y + x) == g) = true by rw [← hcb, hcg, beq_self_eq_true])
            have hbe : (cb == g) = true := by rw [hcg, beq_self_eq_true]
            clear hcb
            go_wp2_with fail
            refine (mHas' w8 _ M' HCP8.out.2.2 (10 * y + x) hk X Y HXY.out.1 HXY.out.2).mono ?_
            rintro e w9 ⟨rfl, hb9⟩
            have hn2 := (hb9.cell (p := ⟨wr.heap.size, 0, none⟩) hz8).trans hn0
            have hn3 := (hb9.cell (p := ⟨wr.heap.size, 1, none⟩) hz8).trans hn1
            have HCP9 := Lib.hid (HCP8.out.on hb9)
            clear hn0 hn1 hb9 HCP8 hz8
            cases hMu : M' (10 * y + x) with
            | true =>
              have HNx := Lib.hid (show PC xs g (10 * y + (x + 1)) c' M' from HPC.out.old hk hMu)
              clear hMu
              go_wp2
              go_roundw
              case rel =>
                repeat apply Exists.intro
                refine ⟨⟨x + 1, c', M', by omega, ?_, ?_, ?_, HNx.out, HCP9.out⟩, ?_⟩
                rotate_left 3
                · rw [hdy]
                · go_num
                · go_num
                · omega
              case measure => (simp [intOf] <;> omega)
            | false =>
              obtain ⟨hb9, cr9, hM9⟩ := id HCP9.out
              have HSp' := Lib.hid (HSp.out w9 (10 * y + x) M' X Y hk hMu HCu.out hM9 hb9 HXY.out.1 HXY.out.2)
              have HMu := Lib.hid hMu
              clear hMu hb9 hM9
              go_wp2_with fail
              refine HSp'.out.2.mono ?_
              rintro e w10 ⟨rfl, M2, hs2, hM2, ha2⟩
              have HNx := Lib.hid (show PC xs g (10 * y + (x + 1)) (c' + 1) M2 from HPC.out.new hk HSp'.out.1 HCu.out HMu.out hs2)
              have HCP10 := Lib.hid (HCP9.out.marked ha2 hM2)
              have hcc : c' + 1 ≤ 100 := by have := HNx.out.2.2; omega
              clear hs2 hM2 ha2 hn2 hn3 cr9
              go_wp2
              go_roundw
              case rel =>
                repeat apply Exists.intro
                refine ⟨⟨x + 1, c' + 1, M2, by omega, ?_, ?_, ?_, HNx.out, HCP10.out⟩, ?_⟩
                rotate_left 3
                · rw [hdy]
                · go_num
                · go_num
                · omega
              case measure => (simp [intOf] <;> omega)
          · have HNx := Lib.hid (show PC xs g (10 * y + (x + 1)) c' M' from HPC.out.no hk (by rw [← hcb, beq_eq_false_iff_ne]; exact hcg))
            have hbe : (cb == g) = false := by rw [beq_eq_false_iff_ne]; exact hcg
            clear hcb
            go_wp2
            go_roundw
            case rel =>
              repeat apply Exists.intro
              refine ⟨⟨x + 1, c', M', by omega, ?_, ?_, ?_, HNx.out, HCP8.out⟩, ?_⟩
              rotate_left 3
              · rw [hdy]
              · go_num
              · go_num
              · omega
            case measure => (simp [intOf] <;> omega)
        · obtain rfl : x = 10 := by omega
          have HPC := Lib.hid (show PC xs g (10 * (y + 1)) c' M' by rw [show 10 * (y + 1) = 10 * y + 10 by omega]; exact hpc)
          clear hpc
          go_wp2
          go_roundw
          case rel => exact ⟨y + 1, c', M', by omega, by go_num, rfl, hc', HPC.out, hcp⟩
          case measure => (simp [intOf] <;> omega)
    · obtain rfl : y = 10 := by omega
      have HD := Lib.hid hpc.done
      have hb := hcp.1
      clear hpc hcp
      go_wp2
      go_ret
      exact mkNum (by rw [HD.out]) hb
end Go.Proofs.Ytocjnplbjdpieaa.Flo
