/- TchI in one text. -/
import Derived.Test.YtmajllgfmclcoaaGreatDoorMe11

namespace Go.Proofs.YtmajllgfmclcoaaGreatDoor.Flo
set_option linter.unusedVariables false
set_option linter.unusedSimpArgs false
open Go.RowKit Go.Proofs.YtmajllgfmclcoaaGreatDoor.Pure Go.Proofs.YtmajllgfmclcoaaGreatDoor.Euler Go.Proofs.YtmajllgfmclcoaaGreatDoor.Bal Go.Proofs.YtmajllgfmclcoaaGreatDoor.Cell Go.Proofs.YtmajllgfmclcoaaGreatDoor.Reg Go.Joins

theorem wp_of_rest0 {P : Program} {c : Code} {Q : Exit → Act → World → Prop} {a : Act} {w : World} (F : Act) (Rel : World → Prop) (h : ∀ Q, (∀ W, Rel W → Q .normal F W) → c.wp P Q a w) (k : ∀ W, Rel W → Q .normal F W) : c.wp P Q a w := h Q k
def TC (w : World) (v : Value) (p : Nat) (x y : Int) (W : World) : Prop :=
  (Below w.heap.size w W ∧ w.heap.size + 1 ≤ W.heap.size) ∧ W.cell? ⟨w.heap.size, 0, none⟩ = some v ∧ W.cell? ⟨p, 0, none⟩ = some (.int .i64 x) ∧ W.cell? ⟨p, 1, none⟩ = some (.int .i64 y) ∧ p < W.heap.size
theorem TC.rb {w W : World} {v : Value} {p : Nat} {x y : Int} (h : TC w v p x y W) : RB w v W := ⟨h.1.1, h.1.2, h.2.1⟩
theorem TC.drew {w W : World} {v : Value} {p : Nat} {x y : Int} (h : TC w v p x y W) : TC w v p x y W.drew := ⟨⟨h.1.1.drew, h.1.2⟩, h.2⟩
theorem TC.on {w W W' : World} {v : Value} {p : Nat} {x y : Int} (h : TC w v p x y W) (hb : Below W.heap.size W W') : TC w v p x y W' := by
  obtain ⟨a, b, c⟩ := h.rb.on hb
  obtain ⟨_, _, d, e, f⟩ := h
  have hz := hb.size
  exact ⟨⟨a, b⟩, c, (hb.cell (by show p < _; omega)).trans d, (hb.cell (by show p < _; omega)).trans e, by omega⟩
theorem tc_start {T : TypeId} {w W : World} {v : Value} {x y : Int} (h : RB w v W) : TC w v W.heap.size x y (W.alloc (.cells #[.int .i64 x, .int .i64 y] T)) := by
  obtain ⟨a, b, c⟩ := h.on (below_alloc1 W (.cells #[.int .i64 x, .int .i64 y] T))
  have hbl := heap_alloc_new W (.cells #[.int .i64 x, .int .i64 y] T)
  exact ⟨⟨a, b⟩, c, (cell_of_row _ _ 0 _ _ _ hbl).trans rfl, (cell_of_row _ _ 1 _ _ _ hbl).trans rfl, by simp⟩

set_option maxRecDepth 100000 in
set_option maxHeartbeats 4000000 in
theorem iTouches (w : World) (A : Option Addr) (n cap B : Nat) (xs : List Int) (hx : xs.length = n) (hn : (n : Int) ≤ 9223372036854775807) (ho : okR xs) (h : RowB w B A xs) (hB : B ≤ w.heap.size) :
    Calls Tryz.prog 78 #[.agg #[.slice A n cap]] w (Bol (touchB xs) w) := by
  have HH := Lib.hid (fun W (x y : Nat) (X Y : Int) (hX : X = ((x : Nat) : Int)) (hY : Y = ((y : Nat) : Int)) (hb : Below w.heap.size w W) (hx8 : x < 8) (hy8 : y < 8) => show Calls Tryz.prog 104 #[.agg #[.slice A n cap], .agg #[.int .i64 X, .int .i64 Y]] W (Bol (bitB (rowD xs y) x) W) by
    rw [hX, hY]
    have q := iHasCell W A n cap B xs hx hn (h.below hb hB) (by have := hb.size; omega) (x : Int) (y : Int)
    rwa [has_at ho hx8 hy8] at q)
  have T0 := Lib.hid (fun T => rb_start (T := T) (.slice A n cap) w)
  have HF := Lib.hid (fun (y x : Nat) hx hy => four (y := y) (x := x) ho hx hy)
  clear hx hn h ho
  go_enter Tryz.func78, Tryz.ntmps78
  go_wp2_with fail
  have T1 := T0.out 26
  clear T0
  generalize w.alloc (.cells #[.slice A n cap] 26) = W1 at T1 ⊢
  go_loopw [10] (fun i wr => ∃ y : Nat, y ≤ 7 ∧ i = .int .i64 y ∧ NoT xs y 0 ∧ RB w (.slice A n cap) wr) (fun i _ => 7 - (intOf i).toNat)
  case atStart => exact ⟨0, by omega, rfl, NoT.start xs, T1⟩
  case round =>
    clear T1
    obtain ⟨y, hy, rfl, hno, T⟩ := hrel
    have HNo := Lib.hid hno
    have HT := Lib.hid T
    by_cases hlt : y < 7
    · clear hno T
      go_wp2_with fail
      have hdy : decide ((y : Int) < 7) = true := decide_eq_true (by omega)
      go_loopw [13] (fun i wr => ∃ x : Nat, x ≤ 7 ∧ i = .int .i64 x ∧ NoT xs y x ∧ RB w (.slice A n cap) wr) (fun i _ => 7 - (intOf i).toNat)
      case atStart => exact ⟨0, by omega, rfl, HNo.out, HT.out⟩
      case round =>
        clear HNo HT
        obtain ⟨x, hx, rfl, hno, T⟩ := hrel
        have HNo := Lib.hid hno
        clear hno
        by_cases hlx : x < 7
        · have hf := HF.out y x hlx hlt
          obtain ⟨xi, hxi⟩ : ∃ xi : Int, xi = (x : Int) := ⟨_, rfl⟩
          obtain ⟨yi, hyi⟩ : ∃ yi : Int, yi = (y : Int) := ⟨_, rfl⟩
          obtain ⟨xj, hxj⟩ : ∃ xj : Int, xj = (x : Int) + 1 := ⟨_, rfl⟩
          obtain ⟨yj, hyj⟩ : ∃ yj : Int, yj = (y : Int) + 1 := ⟨_, rfl⟩
          have H1 := Lib.hid (fun W hb => HH.out W x y xi yi hxi hyi hb (by omega) (by omega))
          have H2 := Lib.hid (fun W hb => HH.out W (x + 1) y xj yi (by rw [hxj]; rfl) hyi hb (by omega) (by omega))
          have H3 := Lib.hid (fun W hb => HH.out W x (y + 1) xi yj hxi (by rw [hyj]; rfl) hb (by omega) (by omega))
          have H4 := Lib.hid (fun W hb => HH.out W (x + 1) (y + 1) xj yj (by rw [hxj]; rfl) (by rw [hyj]; rfl) hb (by omega) (by omega))
          have M2 := Lib.hid (fun W => show Calls Tryz.prog 108 #[.agg #[.int .i64 xi, .int .i64 yi], .int .i64 1, .int .i64 0] W (Cel xj yi W) by
            have q := moved xi yi 1 0 W
            rwa [show wrap64 (xi + 1) = xj by rw [hxj, hxi]; unfold wrap64; omega, show wrap64 (yi + 0) = yi by rw [hyi]; unfold wrap64; omega] at q)
          have M3 := Lib.hid (fun W => show Calls Tryz.prog 108 #[.agg #[.int .i64 xi, .int .i64 yi], .int .i64 0, .int .i64 1] W (Cel xi yj W) by
            have q := moved xi yi 0 1 W
            rwa [show wrap64 (xi + 0) = xi by rw [hxi]; unfold wrap64; omega, show wrap64 (yi + 1) = yj by rw [hyj, hyi]; unfold wrap64; omega] at q)
          have M4 := Lib.hid (fun W => show Calls Tryz.prog 108 #[.agg #[.int .i64 xi, .int .i64 yi], .int .i64 1, .int .i64 1] W (Cel xj yj W) by
            have q := moved xi yi 1 1 W
            rwa [show wrap64 (xi + 1) = xj by rw [hxj, hxi]; unfold wrap64; omega, show wrap64 (yi + 1) = yj by rw [hyj, hyi]; unfold wrap64; omega] at q)
          have HFf := Lib.hid hf
          clear hf
          generalize bitB (rowD xs y) x = b1 at H1 HFf
          generalize bitB (rowD xs y) (x + 1) = b2 at H2 HFf
          generalize bitB (rowD xs (y + 1)) x = b3 at H3 HFf
          generalize bitB (rowD xs (y + 1)) (x + 1) = b4 at H4 HFf
          have TC0 := Lib.hid (fun T' => tc_start (T := T') (x := xi) (y := yi) T)
          rw [hxi, hyi] at TC0
          go_wp2_with fail
          have HTC := Lib.hid (TC0.out 79)
          rw [← hxi, ← hyi] at HTC ⊢
          generalize wr.heap.size = pc at HTC ⊢
          generalize wr.alloc (.cells #[.int .i64 xi, .int .i64 yi] 79) = W3 at HTC ⊢
          have HXi := Lib.hid hxi
          have HYi := Lib.hid hyi
          clear TC0 T hxj hyj hxi hyi
          have HS := Lib.hid (fun W (h : TC w (.slice A n cap) pc xi yi W) => show TC w (.slice A n cap) pc xi yi W ∧ W.cell? ⟨w.heap.size, 0, none⟩ = some (.slice A n cap) ∧ W.cell? ⟨pc, 0, none⟩ = some (.int .i64 xi) ∧ W.cell? ⟨pc, 1, none⟩ = some (.int .i64 yi) from ⟨h, h.2.1, h.2.2.1, h.2.2.2.1⟩)
          refine' wp_of_rest0 _ (TC w (.slice A n cap) pc xi yi) ?_ ?_
          rotate_left
          · intro Q R
            have R := Lib.hid R
            refine wp_region_noPanic ?_
            refine wp_region_held_drew (S := fun W => TC w (.slice A n cap) pc xi yi W ∧ W.cell? ⟨w.heap.size, 0, none⟩ = some (.slice A n cap) ∧ W.cell? ⟨pc, 0, none⟩ = some (.int .i64 xi) ∧ W.cell? ⟨pc, 1, none⟩ = some (.int .i64 yi)) (by kernel_rfl) (HS.out _ HTC.out.drew) (fun hHeld => ?_)
            refine wpAnyH_take (i := 0) (v := ?_) rfl (by kernel_rfl) (by kernel_rfl) (by kernel_rfl) (fun _ _ _ h => h) (Or.inl ⟨by rfl, ?_⟩) (by assumption) ?_
            rotate_left
            · (intro w' hS; (try dsimp only at hS); go_simp; try with_reducible rfl)
            try simp only [Act.put, List.getElem_toArray, List.getElem_cons_succ, List.getElem_cons_zero, List.setIfInBounds_toArray, List.set_cons_zero, List.set_cons_succ]
            refine wpAnyH_take (i := 1) (v := ?_) rfl (by kernel_rfl) (by kernel_rfl) (by kernel_rfl) (fun _ _ _ h => h) (Or.inl ⟨by rfl, ?_⟩) (by assumption) ?_
            rotate_left
            · (intro w' hS; (try dsimp only at hS); go_simp; try with_reducible rfl)
            try simp only [Act.put, List.getElem_toArray, List.getElem_cons_succ, List.getElem_cons_zero, List.setIfInBounds_toArray, List.set_cons_zero, List.set_cons_succ]
            refine wpAnyH_take (i := 3) (v := ?_) rfl (by kernel_rfl) (by kernel_rfl) (by kernel_rfl) (fun _ _ _ h => h) (Or.inl ⟨by rfl, ?_⟩) (by assumption) ?_
            rotate_left
            · (intro w' hS; (try dsimp only at hS); go_simp; try with_reducible rfl)
            try simp only [Act.put, List.getElem_toArray, List.getElem_cons_succ, List.getElem_cons_zero, List.setIfInBounds_toArray, List.set_cons_zero, List.set_cons_succ]
            refine wpAnyH_take (i := 4) (v := ?_) rfl (by kernel_rfl) (by kernel_rfl) (by kernel_rfl) (fun _ _ _ h => h) (Or.inl ⟨by rfl, ?_⟩) (by assumption) ?_
            rotate_left
            · (intro w' hS; (try dsimp only at hS); go_simp; try with_reducible rfl)
            try simp only [Act.put, List.getElem_toArray, List.getElem_cons_succ, List.getElem_cons_zero, List.setIfInBounds_toArray, List.set_cons_zero, List.set_cons_succ]
            refine wpAnyH_ready (rs := [2]) (by kernel_rfl) (by simp) ?_
            refine AllReadyH.cons rfl (fun K hK => ?_) AllReadyH.nil
            go_simp
            refine (H1.out _ hHeld.1.rb.1).mono ?_
            rintro e wx ⟨rfl, hbx⟩
            go_wp2_with fail
            refine hK.out _ _ (HS.out _ (hHeld.1.on hbx)) (fun hHeld => ?_)
            clear hK K
            try simp only [Act.put, List.getElem_toArray, List.getElem_cons_succ, List.getElem_cons_zero, List.setIfInBounds_toArray, List.set_cons_zero, List.set_cons_succ]
            refine wpAnyH_ready (rs := [5]) (by kernel_rfl) (by simp) ?_
            refine AllReadyH.cons rfl (fun K hK => ?_) AllReadyH.nil
            go_simp
            refine (M2.out _).mono ?_
            rintro e wx ⟨rfl, hbx⟩
            go_wp2_with fail
            refine hK.out _ _ (HS.out _ (hHeld.1.on hbx)) (fun hHeld => ?_)
            clear hK K
            try simp only [Act.put, List.getElem_toArray, List.getElem_cons_succ, List.getElem_cons_zero, List.setIfInBounds_toArray, List.set_cons_zero, List.set_cons_succ]
            refine wpAnyH_ready (rs := [6]) (by kernel_rfl) (by simp) ?_
            refine AllReadyH.cons rfl (fun K hK => ?_) AllReadyH.nil
            go_simp
            refine (H2.out _ hHeld.1.rb.1).mono ?_
            rintro e wx ⟨rfl, hbx⟩
            go_wp2_with fail
            refine hK.out _ _ (HS.out _ (hHeld.1.on hbx)) (fun hHeld => ?_)
            clear hK K
            try simp only [Act.put, List.getElem_toArray, List.getElem_cons_succ, List.getElem_cons_zero, List.setIfInBounds_toArray, List.set_cons_zero, List.set_cons_succ]
            refine wpAnyH_take (i := 7) (v := ?_) rfl (by kernel_rfl) (by kernel_rfl) (by kernel_rfl) (fun _ _ _ h => h) (Or.inl ⟨by rfl, ?_⟩) (by assumption) ?_
            rotate_left
            · (intro w' hS; (try dsimp only at hS); go_simp; try with_reducible rfl)
            try simp only [Act.put, List.getElem_toArray, List.getElem_cons_succ, List.getElem_cons_zero, List.setIfInBounds_toArray, List.set_cons_zero, List.set_cons_succ]
            refine wpAnyH_take (i := 8) (v := ?_) rfl (by kernel_rfl) (by kernel_rfl) (by kernel_rfl) (fun _ _ _ h => h) (Or.inl ⟨by rfl, ?_⟩) (by assumption) ?_
            rotate_left
            · (intro w' hS; (try dsimp only at hS); go_simp; try with_reducible rfl)
            try simp only [Act.put, List.getElem_toArray, List.getElem_cons_succ, List.getElem_cons_zero, List.setIfInBounds_toArray, List.set_cons_zero, List.set_cons_succ]
            refine wpAnyH_done (by kernel_rfl) ?_ _
            refine NoPanic.normal ?_
            exact R.out _ hHeld.1
          · intro W4 T4
            clear HTC
            have HTC := Lib.hid T4
            clear T4
            go_wp2_with fail
            refine' wp_of_rest0 _ (TC w (.slice A n cap) pc xi yi) ?_ ?_
            rotate_left
            · intro Q R
              have R := Lib.hid R
              refine wp_region_noPanic ?_
              refine wp_region_held_drew (S := fun W => TC w (.slice A n cap) pc xi yi W ∧ W.cell? ⟨w.heap.size, 0, none⟩ = some (.slice A n cap) ∧ W.cell? ⟨pc, 0, none⟩ = some (.int .i64 xi) ∧ W.cell? ⟨pc, 1, none⟩ = some (.int .i64 yi)) (by kernel_rfl) (HS.out _ HTC.out.drew) (fun hHeld => ?_)
              refine wpAnyH_take (i := 0) (v := ?_) rfl (by kernel_rfl) (by kernel_rfl) (by kernel_rfl) (fun _ _ _ h => h) (Or.inl ⟨by rfl, ?_⟩) (by assumption) ?_
              rotate_left
              · (intro w' hS; (try dsimp only at hS); go_simp; try with_reducible rfl)
              try simp only [Act.put, List.getElem_toArray, List.getElem_cons_succ, List.getElem_cons_zero, List.setIfInBounds_toArray, List.set_cons_zero, List.set_cons_succ]
              refine wpAnyH_take (i := 1) (v := ?_) rfl (by kernel_rfl) (by kernel_rfl) (by kernel_rfl) (fun _ _ _ h => h) (Or.inl ⟨by rfl, ?_⟩) (by assumption) ?_
              rotate_left
              · (intro w' hS; (try dsimp only at hS); go_simp; try with_reducible rfl)
              try simp only [Act.put, List.getElem_toArray, List.getElem_cons_succ, List.getElem_cons_zero, List.setIfInBounds_toArray, List.set_cons_zero, List.set_cons_succ]
              refine wpAnyH_take (i := 4) (v := ?_) rfl (by kernel_rfl) (by kernel_rfl) (by kernel_rfl) (fun _ _ _ h => h) (Or.inl ⟨by rfl, ?_⟩) (by assumption) ?_
              rotate_left
              · (intro w' hS; (try dsimp only at hS); go_simp; try with_reducible rfl)
              try simp only [Act.put, List.getElem_toArray, List.getElem_cons_succ, List.getElem_cons_zero, List.setIfInBounds_toArray, List.set_cons_zero, List.set_cons_succ]
              refine wpAnyH_take (i := 5) (v := ?_) rfl (by kernel_rfl) (by kernel_rfl) (by kernel_rfl) (fun _ _ _ h => h) (Or.inl ⟨by rfl, ?_⟩) (by assumption) ?_
              rotate_left
              · (intro w' hS; (try dsimp only at hS); go_simp; try with_reducible rfl)
              try simp only [Act.put, List.getElem_toArray, List.getElem_cons_succ, List.getElem_cons_zero, List.setIfInBounds_toArray, List.set_cons_zero, List.set_cons_succ]
              refine wpAnyH_ready (rs := [2]) (by kernel_rfl) (by simp) ?_
              refine AllReadyH.cons rfl (fun K hK => ?_) AllReadyH.nil
              go_simp
              refine (M3.out _).mono ?_
              rintro e wx ⟨rfl, hbx⟩
              go_wp2_with fail
              refine hK.out _ _ (HS.out _ (hHeld.1.on hbx)) (fun hHeld => ?_)
              clear hK K
              try simp only [Act.put, List.getElem_toArray, List.getElem_cons_succ, List.getElem_cons_zero, List.setIfInBounds_toArray, List.set_cons_zero, List.set_cons_succ]
              refine wpAnyH_ready (rs := [3]) (by kernel_rfl) (by simp) ?_
              refine AllReadyH.cons rfl (fun K hK => ?_) AllReadyH.nil
              go_simp
              refine (H3.out _ hHeld.1.rb.1).mono ?_
              rintro e wx ⟨rfl, hbx⟩
              go_wp2_with fail
              refine hK.out _ _ (HS.out _ (hHeld.1.on hbx)) (fun hHeld => ?_)
              clear hK K
              try simp only [Act.put, List.getElem_toArray, List.getElem_cons_succ, List.getElem_cons_zero, List.setIfInBounds_toArray, List.set_cons_zero, List.set_cons_succ]
              refine wpAnyH_ready (rs := [6]) (by kernel_rfl) (by simp) ?_
              refine AllReadyH.cons rfl (fun K hK => ?_) AllReadyH.nil
              go_simp
              refine (M4.out _).mono ?_
              rintro e wx ⟨rfl, hbx⟩
              go_wp2_with fail
              refine hK.out _ _ (HS.out _ (hHeld.1.on hbx)) (fun hHeld => ?_)
              clear hK K
              try simp only [Act.put, List.getElem_toArray, List.getElem_cons_succ, List.getElem_cons_zero, List.setIfInBounds_toArray, List.set_cons_zero, List.set_cons_succ]
              refine wpAnyH_ready (rs := [7]) (by kernel_rfl) (by simp) ?_
              refine AllReadyH.cons rfl (fun K hK => ?_) AllReadyH.nil
              go_simp
              refine (H4.out _ hHeld.1.rb.1).mono ?_
              rintro e wx ⟨rfl, hbx⟩
              go_wp2_with fail
              refine hK.out _ _ (HS.out _ (hHeld.1.on hbx)) (fun hHeld => ?_)
              clear hK K
              try simp only [Act.put, List.getElem_toArray, List.getElem_cons_succ, List.getElem_cons_zero, List.setIfInBounds_toArray, List.set_cons_zero, List.set_cons_succ]
              refine wpAnyH_take (i := 8) (v := ?_) rfl (by kernel_rfl) (by kernel_rfl) (by kernel_rfl) (fun _ _ _ h => h) (Or.inl ⟨by rfl, ?_⟩) (by assumption) ?_
              rotate_left
              · (intro w' hS; (try dsimp only at hS); go_simp; try with_reducible rfl)
              try simp only [Act.put, List.getElem_toArray, List.getElem_cons_succ, List.getElem_cons_zero, List.setIfInBounds_toArray, List.set_cons_zero, List.set_cons_succ]
              refine wpAnyH_take (i := 9) (v := ?_) rfl (by kernel_rfl) (by kernel_rfl) (by kernel_rfl) (fun _ _ _ h => h) (Or.inl ⟨by rfl, ?_⟩) (by assumption) ?_
              rotate_left
              · (intro w' hS; (try dsimp only at hS); go_simp; try with_reducible rfl)
              try simp only [Act.put, List.getElem_toArray, List.getElem_cons_succ, List.getElem_cons_zero, List.setIfInBounds_toArray, List.set_cons_zero, List.set_cons_succ]
              refine wpAnyH_done (by kernel_rfl) ?_ _
              refine NoPanic.normal ?_
              exact R.out _ hHeld.1
            · intro W5 T5
              clear HTC
              have T6 := Lib.hid T5.rb
              clear T5 H1 H2 H3 H4 M2 M3 M4 HS
              have hxi := HXi.out
              have hyi := HYi.out
              clear HXi HYi
              subst hxi
              subst hyi
              cases ht : touchAt xs (8 * y + x) with
              | true =>
                have HR := Lib.hid (touch_yes hlx hlt ht)
                have hb := T6.out.1
                rw [ht] at HFf
                clear ht
                have hff := HFf.out
                cases b1 <;> cases b2 <;> cases b3 <;> cases b4 <;> first
                  | (exact absurd hff (by decide))
                  | (clear hff HFf
                     go_wp2
                     go_ret
                     exact mkBol HR.out.symm hb)
              | false =>
                have HNx := Lib.hid (HNo.out.next hlx ht)
                rw [ht] at HFf
                clear ht
                have hff := HFf.out
                cases b1 <;> cases b2 <;> cases b3 <;> cases b4 <;> first
                  | (exact absurd hff (by decide))
                  | (clear hff HFf
                     go_wp2
                     go_roundw
                     case rel => exact ⟨x + 1, by omega, by go_num, HNx.out, T6.out⟩
                     case measure => (simp [intOf] <;> omega))
        · obtain rfl : x = 7 := by omega
          have HNx := Lib.hid HNo.out.row
          go_wp2
          go_roundw
          case rel => exact ⟨y + 1, by omega, by go_num, HNx.out, T⟩
          case measure => (simp [intOf] <;> omega)
    · obtain rfl : y = 7 := by omega
      have HR := Lib.hid HNo.out.done
      have hb := T.1
      clear hno T
      go_wp2
      go_ret
      exact mkBol HR.out.symm hb
end Go.Proofs.YtmajllgfmclcoaaGreatDoor.Flo
