/- Tch, RegL2, TchI in one text. -/
import Derived.Test.YtmajllgfmclcoaaGreatDoorMd07
import Derived.Test.YtmajllgfmclcoaaGreatDoorMd09
import Derived.Deep.RegionHeld3
set_option linter.unusedVariables false
set_option linter.unusedSimpArgs false
namespace Go.Proofs.YtmajllgfmclcoaaGreatDoor.Flo
open Go.RowKit Go.Proofs.YtmajllgfmclcoaaGreatDoor.Pure Euler Bal Go.Proofs.YtmajllgfmclcoaaGreatDoor.Cell Reg Go.Joins
def touchB (xs : List Int) : Bool := (List.range 64).any fun i => decide (i % 8 < 7) && decide (i / 8 < 7) && touchAt xs i
theorem touchB_iff {xs : List Int} : touchB xs = true ↔ Bal.Touch xs := by
  unfold touchB Bal.Touch
  rw [List.any_eq_true]
  constructor
  · rintro ⟨i, hi, h⟩
    simp only [Bool.and_eq_true, decide_eq_true_eq] at h
    exact ⟨i, List.mem_range.1 hi, h.1.1, h.1.2, h.2⟩
  · rintro ⟨i, hi, h1, h2, h3⟩
    exact ⟨i, List.mem_range.2 hi, by rw [h3, decide_eq_true h1, decide_eq_true h2]; rfl⟩
def NoT (xs : List Int) (y x : Nat) : Prop := ∀ i, i % 8 < 7 → i / 8 < 7 → (i / 8 < y ∨ (i / 8 = y ∧ i % 8 < x)) → touchAt xs i = false
theorem NoT.start (xs : List Int) : NoT xs 0 0 := fun i _ _ h => by omega
theorem NoT.next {xs : List Int} {y x : Nat} (h : NoT xs y x) (hx : x < 7) (ht : touchAt xs (8 * y + x) = false) : NoT xs y (x + 1) := by
  intro i h1 h2 h3
  by_cases e : i = 8 * y + x
  · subst e; exact ht
  · exact h i h1 h2 (by omega)
theorem NoT.row {xs : List Int} {y : Nat} (h : NoT xs y 7) : NoT xs (y + 1) 0 := fun i h1 h2 h3 => h i h1 h2 (by omega)
theorem NoT.done {xs : List Int} (h : NoT xs 7 0) : touchB xs = false := by
  cases q : touchB xs
  · rfl
  · obtain ⟨i, _, h1, h2, h3⟩ := touchB_iff.1 q
    rw [h i h1 h2 (by omega)] at h3; cases h3
theorem touch_yes {xs : List Int} {y x : Nat} (hx : x < 7) (hy : y < 7) (ht : touchAt xs (8 * y + x) = true) : touchB xs = true := touchB_iff.2 ⟨8 * y + x, by omega, by omega, by omega, ht⟩
theorem four {xs : List Int} (ho : okR xs) {y x : Nat} (hx : x < 7) (hy : y < 7) : touchAt xs (8 * y + x) = ((bitB (rowD xs y) x == bitB (rowD xs (y + 1)) (x + 1)) && (bitB (rowD xs y) (x + 1) == bitB (rowD xs (y + 1)) x) && (bitB (rowD xs y) x != bitB (rowD xs y) (x + 1))) := by
  unfold touchAt bitI
  rw [show (8 * y + x) / 8 = y by omega, show (8 * y + x) % 8 = x by omega, show (8 * y + x + 9) / 8 = y + 1 by omega, show (8 * y + x + 9) % 8 = x + 1 by omega, show (8 * y + x + 1) / 8 = y by omega, show (8 * y + x + 1) % 8 = x + 1 by omega, show (8 * y + x + 8) / 8 = y + 1 by omega, show (8 * y + x + 8) % 8 = x by omega]
set_option maxRecDepth 100000 in
set_option maxHeartbeats 4000000 in
theorem sTouches (w : World) (A : Option Addr) (n cap B : Nat) (xs : List Int) (hx : xs.length = n) (hn : (n : Int) ≤ 9223372036854775807) (ho : okR xs) (h : RowB w B A xs) (hB : B ≤ w.heap.size) :
    Calls Tryz.prog 96 #[.agg #[.slice A n cap]] w (Bol (touchB xs) w) := by
  have HH := Lh (fun W (x y : Nat) (X Y : Int) (hX : X = (x : Int)) (hY : Y = (y : Int)) (hb : Below w.heap.size w W) hx8 hy8 => show Calls Tryz.prog 93 #[.agg #[.slice A n cap], .agg #[.int .i64 X, .int .i64 Y]] W (Bol (bitB (rowD xs y) x) W) by
    rw [hX, hY]; exact sHas W A n cap B xs hx ho (h.below hb hB) (by have := hb.size; omega) x y hx8 hy8)
  have T0 := Lh (fun T => rb_start (T := T) (.slice A n cap) w)
  have HF := Lh (fun (y x : Nat) hx hy => four (y := y) (x := x) ho hx hy)
  clear hx hn h ho
  go_enter Tryz.func96, Tryz.ntmps96
  go_wp2_with fail
  have T1 := T0.out 26
  clear T0
  generalize w.alloc (.cells #[.slice A n cap] 26) = W1 at T1 ⊢
  go_loopw [3] (fun i wr => ∃ y : Nat, y ≤ 7 ∧ i = .int .i64 y ∧ NoT xs y 0 ∧ RB w (.slice A n cap) wr) (fun i _ => 7 - (intOf i).toNat)
  case atStart => exact ⟨0, by omega, rfl, NoT.start xs, T1⟩
  case round =>
    clear T1
    obtain ⟨y, hy, rfl, hno, T⟩ := hrel
    have HNo := Lh hno
    have HT := Lh T
    by_cases hlt : y < 7
    · clear hno T
      go_wp2_with fail
      have hdy : decide ((y : Int) + 1 < 8) = true := decide_eq_true (by omega)
      go_loopw [4] (fun i wr => ∃ x : Nat, x ≤ 7 ∧ i = .int .i64 x ∧ NoT xs y x ∧ RB w (.slice A n cap) wr) (fun i _ => 7 - (intOf i).toNat)
      case atStart => exact ⟨0, by omega, rfl, HNo.out, HT.out⟩
      case round =>
        clear HNo HT
        obtain ⟨x, hx, rfl, hno, T⟩ := hrel
        have HNo := Lh hno
        clear hno
        by_cases hlx : x < 7
        · have hf := HF.out y x hlx hlt
          have H1 := Lh (fun W hb => HH.out W x y (x : Int) (y : Int) rfl rfl hb (by omega) (by omega))
          have H2 := Lh (fun W hb => HH.out W (x + 1) y ((x : Int) + 1) (y : Int) rfl rfl hb (by omega) (by omega))
          have H3 := Lh (fun W hb => HH.out W x (y + 1) (x : Int) ((y : Int) + 1) rfl rfl hb (by omega) (by omega))
          have H4 := Lh (fun W hb => HH.out W (x + 1) (y + 1) ((x : Int) + 1) ((y : Int) + 1) rfl rfl hb (by omega) (by omega))
          have HFf := Lh hf
          clear hf
          generalize bitB (rowD xs y) x = b1 at H1 HFf
          generalize bitB (rowD xs y) (x + 1) = b2 at H2 HFf
          generalize bitB (rowD xs (y + 1)) x = b3 at H3 HFf
          generalize bitB (rowD xs (y + 1)) (x + 1) = b4 at H4 HFf
          obtain ⟨_, _, c0⟩ := id T
          go_wp2_with fail
          refine (H1.out _ T.1).mono ?_
          rintro e w2 ⟨rfl, hb2⟩
          have T2 := T.on hb2
          obtain ⟨_, _, c2⟩ := id T2
          clear T c0 hb2
          go_wp2_with fail
          refine (H2.out _ T2.1).mono ?_
          rintro e w3 ⟨rfl, hb3⟩
          have T3 := T2.on hb3
          obtain ⟨_, _, c3⟩ := id T3
          clear T2 c2 hb3
          go_wp2_with fail
          refine (H3.out _ T3.1).mono ?_
          rintro e w4 ⟨rfl, hb4⟩
          have T4 := T3.on hb4
          obtain ⟨_, _, c4⟩ := id T4
          clear T3 c3 hb4
          go_wp2_with fail
          refine (H4.out _ T4.1).mono ?_
          rintro e w5 ⟨rfl, hb5⟩
          have T5 := Lh (T4.on hb5)
          clear T4 c4 hb5 H1 H2 H3 H4
          cases ht : touchAt xs (8 * y + x) with
          | true =>
            have HR := Lh (touch_yes hlx hlt ht)
            have hb := T5.out.1
            rw [ht] at HFf
            clear ht
            have hff := HFf.out
            cases b1 <;> cases b2 <;> cases b3 <;> cases b4 <;> first
              | (exact absurd hff (by decide))
              | (clear hff HFf
                 go_wp2
                 go_ret
                 exact mkBol HR.out.symm hb)
          | false =>
            have HNx := Lh (HNo.out.next hlx ht)
            rw [ht] at HFf
            clear ht
            have hff := HFf.out
            cases b1 <;> cases b2 <;> cases b3 <;> cases b4 <;> first
              | (exact absurd hff (by decide))
              | (clear hff HFf
                 go_wp2
                 go_roundw
                 case rel =>
                   repeat apply Exists.intro
                   refine ⟨⟨x + 1, by omega, ?_, HNx.out, T5.out⟩, ?_⟩
                   rotate_left
                   · rw [hdy]
                   · go_num
                 case measure => (simp [intOf] <;> omega))
        · obtain rfl : x = 7 := by omega
          have HNx := Lh HNo.out.row
          go_wp2
          go_roundw
          case rel => exact ⟨y + 1, by omega, by go_num, HNx.out, T⟩
          case measure => (simp [intOf] <;> omega)
    · obtain rfl : y = 7 := by omega
      have HR := Lh HNo.out.done
      have hb := T.1
      clear hno T
      go_wp2
      go_ret
      exact mkBol HR.out.symm hb
end Go.Proofs.YtmajllgfmclcoaaGreatDoor.Flo
namespace Go.Proofs.YtmajllgfmclcoaaGreatDoor.Reg
open Go.RowKit Go.Joins
theorem RowIn.belowB {W W' : World} {lo hi B e size n : Nat} {v : Value} {xs : List Value} (h : RowIn W lo hi e size v n xs) (hb : Below B W W') (hB : hi ≤ B) : RowIn W' lo hi e size v n xs := by
 refine ⟨⟨h.1.1, ?_⟩, h.2⟩
 rcases h.1.2 with hn | ⟨g, cap, cur, rfl, hg, hgg, rest⟩
 ·exact .inl hn
 ·refine .inr ⟨g, cap, cur, rfl, hg, ?_, rest⟩
  have h2 := h.2 g rfl
  rw [hb.block g (by omega)]
  exact hgg
section
variable {w : World} {v : Value} {p : Nat} {va : Value} {lx hx n : Nat} {xs : List Value} {lw hw e size : Nat} {vw : Value} {m : Nat} {cs : List Value} {W W' : World}
end
end Go.Proofs.YtmajllgfmclcoaaGreatDoor.Reg
namespace Go.Proofs.YtmajllgfmclcoaaGreatDoor.Flo
open Go.RowKit Go.Proofs.YtmajllgfmclcoaaGreatDoor.Pure Euler Bal Go.Proofs.YtmajllgfmclcoaaGreatDoor.Cell Reg Go.Joins
theorem wp_of_rest0 {P : Program} {c : Code} {Q : Exit → Act → World → Prop} {a : Act} {w : World} (F : Act) (Rel : World → Prop) (h : ∀ Q, (∀ W, Rel W → Q .normal F W) → c.wp P Q a w) (k : ∀ W, Rel W → Q .normal F W) : c.wp P Q a w := h Q k
def TC (w : World) (v : Value) (p : Nat) (x y : Int) (W : World) : Prop :=
  (Below w.heap.size w W ∧ w.heap.size + 1 ≤ W.heap.size) ∧ W.cell? ⟨w.heap.size, 0, none⟩ = some v ∧ W.cell? ⟨p, 0, none⟩ = some (.int .i64 x) ∧ W.cell? ⟨p, 1, none⟩ = some (.int .i64 y) ∧ p < W.heap.size
theorem TC.rb {w W : World} {v : Value} {p : Nat} {x y : Int} (h : TC w v p x y W) : RB w v W := ⟨h.1.1, h.1.2, h.2.1⟩
theorem TC.drew {w W : World} {v : Value} {p : Nat} {x y : Int} (h : TC w v p x y W) : TC w v p x y W.drew := ⟨⟨h.1.1.drew, h.1.2⟩, h.2⟩
theorem TC.on {w W W' : World} {v : Value} {p : Nat} {x y : Int} (h : TC w v p x y W) (hb : Below W.heap.size W W') : TC w v p x y W' := by
  obtain ⟨a, b, c⟩ := h.rb.on hb
  obtain ⟨_, _, d, e, f⟩ := h
  have hz := hb.size
  exact ⟨⟨a, b⟩, c, (hb.cell (by show p < _; omega)).trans d, (hb.cell (by show p < _; omega)).trans e, by omega⟩
theorem tc_start {T : TypeId} {w W : World} {v : Value} {x y : Int} (h : RB w v W) : TC w v W.heap.size x y (W.alloc (.cells #[.int .i64 x, .int .i64 y] T)) := by
  obtain ⟨a, b, c⟩ := h.on (below_alloc1 W (.cells #[.int .i64 x, .int .i64 y] T))
  have hbl := heap_alloc_new W (.cells #[.int .i64 x, .int .i64 y] T)
  exact ⟨⟨a, b⟩, c, (cell_of_row _ _ 0 _ _ _ hbl).trans rfl, (cell_of_row _ _ 1 _ _ _ hbl).trans rfl, by simp⟩
set_option maxRecDepth 100000 in
set_option maxHeartbeats 4000000 in
theorem iTouches (w : World) (A : Option Addr) (n cap B : Nat) (xs : List Int) (hx : xs.length = n) (hn : (n : Int) ≤ 9223372036854775807) (ho : okR xs) (h : RowB w B A xs) (hB : B ≤ w.heap.size) :
    Calls Tryz.prog 78 #[.agg #[.slice A n cap]] w (Bol (touchB xs) w) := by
  have HH := Lh (fun W (x y : Nat) (X Y : Int) (hX : X = ((x : Nat) : Int)) (hY : Y = ((y : Nat) : Int)) (hb : Below w.heap.size w W) (hx8 : x < 8) (hy8 : y < 8) => show Calls Tryz.prog 104 #[.agg #[.slice A n cap], .agg #[.int .i64 X, .int .i64 Y]] W (Bol (bitB (rowD xs y) x) W) by
    rw [hX, hY]
    have q := iHasCell W A n cap B xs hx hn (h.below hb hB) (by have := hb.size; omega) (x : Int) (y : Int)
    rwa [has_at ho hx8 hy8] at q)
  have T0 := Lh (fun T => rb_start (T := T) (.slice A n cap) w)
  have HF := Lh (fun (y x : Nat) hx hy => four (y := y) (x := x) ho hx hy)
  clear hx hn h ho
  go_enter Tryz.func78, Tryz.ntmps78
  go_wp2_with fail
  have T1 := T0.out 26
  clear T0
  generalize w.alloc (.cells #[.slice A n cap] 26) = W1 at T1 ⊢
  go_loopw [10] (fun i wr => ∃ y : Nat, y ≤ 7 ∧ i = .int .i64 y ∧ NoT xs y 0 ∧ RB w (.slice A n cap) wr) (fun i _ => 7 - (intOf i).toNat)
  case atStart => exact ⟨0, by omega, rfl, NoT.start xs, T1⟩
  case round =>
    clear T1
    obtain ⟨y, hy, rfl, hno, T⟩ := hrel
    have HNo := Lh hno
    have HT := Lh T
    by_cases hlt : y < 7
    · clear hno T
      go_wp2_with fail
      have hdy : decide ((y : Int) < 7) = true := decide_eq_true (by omega)
      go_loopw [13] (fun i wr => ∃ x : Nat, x ≤ 7 ∧ i = .int .i64 x ∧ NoT xs y x ∧ RB w (.slice A n cap) wr) (fun i _ => 7 - (intOf i).toNat)
      case atStart => exact ⟨0, by omega, rfl, HNo.out, HT.out⟩
      case round =>
        clear HNo HT
        obtain ⟨x, hx, rfl, hno, T⟩ := hrel
        have HNo := Lh hno
        clear hno
        by_cases hlx : x < 7
        · have hf := HF.out y x hlx hlt
          obtain ⟨xi, hxi⟩ : ∃ xi : Int, xi = (x : Int) := ⟨_, rfl⟩
          obtain ⟨yi, hyi⟩ : ∃ yi : Int, yi = (y : Int) := ⟨_, rfl⟩
          obtain ⟨xj, hxj⟩ : ∃ xj : Int, xj = (x : Int) + 1 := ⟨_, rfl⟩
          obtain ⟨yj, hyj⟩ : ∃ yj : Int, yj = (y : Int) + 1 := ⟨_, rfl⟩
          have H1 := Lh (fun W hb => HH.out W x y xi yi hxi hyi hb (by omega) (by omega))
          have H2 := Lh (fun W hb => HH.out W (x + 1) y xj yi (by rw [hxj]; rfl) hyi hb (by omega) (by omega))
          have H3 := Lh (fun W hb => HH.out W x (y + 1) xi yj hxi (by rw [hyj]; rfl) hb (by omega) (by omega))
          have H4 := Lh (fun W hb => HH.out W (x + 1) (y + 1) xj yj (by rw [hxj]; rfl) (by rw [hyj]; rfl) hb (by omega) (by omega))
          have M2 := Lh (fun W => show Calls Tryz.prog 108 #[.agg #[.int .i64 xi, .int .i64 yi], .int .i64 1, .int .i64 0] W (Cel xj yi W) by
            have q := moved xi yi 1 0 W
            rwa [show wrap64 (xi + 1) = xj by rw [hxj, hxi]; unfold wrap64; omega, show wrap64 (yi + 0) = yi by rw [hyi]; unfold wrap64; omega] at q)
          have M3 := Lh (fun W => show Calls Tryz.prog 108 #[.agg #[.int .i64 xi, .int .i64 yi], .int .i64 0, .int .i64 1] W (Cel xi yj W) by
            have q := moved xi yi 0 1 W
            rwa [show wrap64 (xi + 0) = xi by rw [hxi]; unfold wrap64; omega, show wrap64 (yi + 1) = yj by rw [hyj, hyi]; unfold wrap64; omega] at q)
          have M4 := Lh (fun W => show Calls Tryz.prog 108 #[.agg #[.int .i64 xi, .int .i64 yi], .int .i64 1, .int .i64 1] W (Cel xj yj W) by
            have q := moved xi yi 1 1 W
            rwa [show wrap64 (xi + 1) = xj by rw [hxj, hxi]; unfold wrap64; omega, show wrap64 (yi + 1) = yj by rw [hyj, hyi]; unfold wrap64; omega] at q)
          have HFf := Lh hf
          clear hf
          generalize bitB (rowD xs y) x = b1 at H1 HFf
          generalize bitB (rowD xs y) (x + 1) = b2 at H2 HFf
          generalize bitB (rowD xs (y + 1)) x = b3 at H3 HFf
          generalize bitB (rowD xs (y + 1)) (x + 1) = b4 at H4 HFf
          have TC0 := Lh (fun T' => tc_start (T := T') (x := xi) (y := yi) T)
          rw [hxi, hyi] at TC0
          go_wp2_with fail
          have HTC := Lh (TC0.out 79)
          rw [← hxi, ← hyi] at HTC ⊢
          generalize wr.heap.size = pc at HTC ⊢
          generalize wr.alloc (.cells #[.int .i64 xi, .int .i64 yi] 79) = W3 at HTC ⊢
          have HXi := Lh hxi
          have HYi := Lh hyi
          clear TC0 T hxj hyj hxi hyi
          have HS := Lh (fun W (h : TC w (.slice A n cap) pc xi yi W) => show TC w (.slice A n cap) pc xi yi W ∧ W.cell? ⟨w.heap.size, 0, none⟩ = some (.slice A n cap) ∧ W.cell? ⟨pc, 0, none⟩ = some (.int .i64 xi) ∧ W.cell? ⟨pc, 1, none⟩ = some (.int .i64 yi) from ⟨h, h.2.1, h.2.2.1, h.2.2.2.1⟩)
          refine' wp_of_rest0 _ (TC w (.slice A n cap) pc xi yi) ?_ ?_
          rotate_left
          · intro Q R
            have R := Lh R
            refine wp_region_noPanic ?_
            refine wp_region_held_drew (S := fun W => TC w (.slice A n cap) pc xi yi W ∧ W.cell? ⟨w.heap.size, 0, none⟩ = some (.slice A n cap) ∧ W.cell? ⟨pc, 0, none⟩ = some (.int .i64 xi) ∧ W.cell? ⟨pc, 1, none⟩ = some (.int .i64 yi)) (by kernel_rfl) (HS.out _ HTC.out.drew) (fun hHeld => ?_)
            refine tk 0 ?_; try simp only [Act.put, zk]
            refine tk 1 ?_; try simp only [Act.put, zk]
            refine tk 3 ?_; try simp only [Act.put, zk]
            refine tk 4 ?_; try simp only [Act.put, zk]
            refine tr 2 fun K hK => ?_
            go_simp
            refine (H1.out _ hHeld.1.rb.1).mono ?_
            rintro e wx ⟨rfl, hbx⟩
            go_wp2_with fail
            refine hK.out _ _ (HS.out _ (hHeld.1.on hbx)) (fun hHeld => ?_)
            clear hK K
            try simp only [Act.put, zk]
            refine tr 5 fun K hK => ?_
            go_simp
            refine (M2.out _).mono ?_
            rintro e wx ⟨rfl, hbx⟩
            go_wp2_with fail
            refine hK.out _ _ (HS.out _ (hHeld.1.on hbx)) (fun hHeld => ?_)
            clear hK K
            try simp only [Act.put, zk]
            refine tr 6 fun K hK => ?_
            go_simp
            refine (H2.out _ hHeld.1.rb.1).mono ?_
            rintro e wx ⟨rfl, hbx⟩
            go_wp2_with fail
            refine hK.out _ _ (HS.out _ (hHeld.1.on hbx)) (fun hHeld => ?_)
            clear hK K
            try simp only [Act.put, zk]
            refine tk 7 ?_; try simp only [Act.put, zk]
            refine tk 8 ?_; try simp only [Act.put, zk]
            refine wpAnyH_done (by kernel_rfl) (NoPanic.normal ?_) _
            exact R.out _ hHeld.1
          · intro W4 T4
            clear HTC
            have HTC := Lh T4
            clear T4
            go_wp2_with fail
            refine' wp_of_rest0 _ (TC w (.slice A n cap) pc xi yi) ?_ ?_
            rotate_left
            · intro Q R
              have R := Lh R
              refine wp_region_noPanic ?_
              refine wp_region_held_drew (S := fun W => TC w (.slice A n cap) pc xi yi W ∧ W.cell? ⟨w.heap.size, 0, none⟩ = some (.slice A n cap) ∧ W.cell? ⟨pc, 0, none⟩ = some (.int .i64 xi) ∧ W.cell? ⟨pc, 1, none⟩ = some (.int .i64 yi)) (by kernel_rfl) (HS.out _ HTC.out.drew) (fun hHeld => ?_)
              refine tk 0 ?_; try simp only [Act.put, zk]
              refine tk 1 ?_; try simp only [Act.put, zk]
              refine tk 4 ?_; try simp only [Act.put, zk]
              refine tk 5 ?_; try simp only [Act.put, zk]
              refine tr 2 fun K hK => ?_
              go_simp
              refine (M3.out _).mono ?_
              rintro e wx ⟨rfl, hbx⟩
              go_wp2_with fail
              refine hK.out _ _ (HS.out _ (hHeld.1.on hbx)) (fun hHeld => ?_)
              clear hK K
              try simp only [Act.put, zk]
              refine tr 3 fun K hK => ?_
              go_simp
              refine (H3.out _ hHeld.1.rb.1).mono ?_
              rintro e wx ⟨rfl, hbx⟩
              go_wp2_with fail
              refine hK.out _ _ (HS.out _ (hHeld.1.on hbx)) (fun hHeld => ?_)
              clear hK K
              try simp only [Act.put, zk]
              refine tr 6 fun K hK => ?_
              go_simp
              refine (M4.out _).mono ?_
              rintro e wx ⟨rfl, hbx⟩
              go_wp2_with fail
              refine hK.out _ _ (HS.out _ (hHeld.1.on hbx)) (fun hHeld => ?_)
              clear hK K
              try simp only [Act.put, zk]
              refine tr 7 fun K hK => ?_
              go_simp
              refine (H4.out _ hHeld.1.rb.1).mono ?_
              rintro e wx ⟨rfl, hbx⟩
              go_wp2_with fail
              refine hK.out _ _ (HS.out _ (hHeld.1.on hbx)) (fun hHeld => ?_)
              clear hK K
              try simp only [Act.put, zk]
              refine tk 8 ?_; try simp only [Act.put, zk]
              refine tk 9 ?_; try simp only [Act.put, zk]
              refine wpAnyH_done (by kernel_rfl) (NoPanic.normal ?_) _
              exact R.out _ hHeld.1
            · intro W5 T5
              clear HTC
              have T6 := Lh T5.rb
              clear T5 H1 H2 H3 H4 M2 M3 M4 HS
              have hxi := HXi.out
              have hyi := HYi.out
              clear HXi HYi
              subst hxi
              subst hyi
              cases ht : touchAt xs (8 * y + x) with
              | true =>
                have HR := Lh (touch_yes hlx hlt ht)
                have hb := T6.out.1
                rw [ht] at HFf
                clear ht
                have hff := HFf.out
                cases b1 <;> cases b2 <;> cases b3 <;> cases b4 <;> first
                  | (exact absurd hff (by decide))
                  | (clear hff HFf
                     go_wp2
                     go_ret
                     exact mkBol HR.out.symm hb)
              | false =>
                have HNx := Lh (HNo.out.next hlx ht)
                rw [ht] at HFf
                clear ht
                have hff := HFf.out
                cases b1 <;> cases b2 <;> cases b3 <;> cases b4 <;> first
                  | (exact absurd hff (by decide))
                  | (clear hff HFf
                     go_wp2
                     go_roundw
                     case rel => exact ⟨x + 1, by omega, by go_num, HNx.out, T6.out⟩
                     case measure => (simp [intOf] <;> omega))
        · obtain rfl : x = 7 := by omega
          have HNx := Lh HNo.out.row
          go_wp2
          go_roundw
          case rel => exact ⟨y + 1, by omega, by go_num, HNx.out, T⟩
          case measure => (simp [intOf] <;> omega)
    · obtain rfl : y = 7 := by omega
      have HR := Lh HNo.out.done
      have hb := T.1
      clear hno T
      go_wp2
      go_ret
      exact mkBol HR.out.symm hb
end Go.Proofs.YtmajllgfmclcoaaGreatDoor.Flo
