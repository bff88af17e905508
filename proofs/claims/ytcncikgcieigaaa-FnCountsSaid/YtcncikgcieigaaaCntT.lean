/- The model's count of partial tilings: one call. -/
import Derived.Test.YtcncikgcieigaaaCntQ
import Derived.Deep.RegionHeld3
namespace Go.Proofs.Ytcncikgcieigaaa.Cnt
set_option linter.unusedVariables false
set_option linter.unusedSimpArgs false
open Go.RowKit Go.Proofs.Ytcncikgcieigaaa.Base Go.Proofs.Ytcncikgcieigaaa.Pure Go.Proofs.Ytcncikgcieigaaa.Cell Go.Proofs.Ytcncikgcieigaaa.CellN Go.Proofs.Ytcncikgcieigaaa.Reg Go.Joins

/-- what the test of two places reads. -/
def QS (w : World) (cb off L ub : Nat) (C : Nat → Nat) (u : Nat → Bool) (f k : Nat) (W : World) : Prop := (Bks W ub L u ∧ Apart ub (ub + 1) w W ∧ cb < W.heap.size) ∧ W.cell? ⟨ub, k, none⟩ = some (.bool false) ∧ W.cell? ⟨cb, off + f * 2, none⟩ = some (.int .i64 ((C f % 8 : Nat) : Int)) ∧ W.cell? ⟨cb, off + f * 2 + 1, none⟩ = some (.int .i64 ((C f / 8 : Nat) : Int)) ∧ W.cell? ⟨cb, off + k * 2, none⟩ = some (.int .i64 ((C k % 8 : Nat) : Int)) ∧ W.cell? ⟨cb, off + k * 2 + 1, none⟩ = some (.int .i64 ((C k / 8 : Nat) : Int))
theorem QS.on {w W W' : World} {cb off L ub f k : Nat} {C : Nat → Nat} {u : Nat → Bool} (h : QS w cb off L ub C u f k W) (hb : Below W.heap.size W W') : QS w cb off L ub C u f k W' := by
  obtain ⟨⟨a1, a2, a3⟩, b0, b1, b2, b3, b4⟩ := h
  have hl := a1.lt
  have hz := hb.size
  refine ⟨⟨a1.on hb, a2.trans (apart_of_below hb _ _), by omega⟩, ?_, ?_, ?_, ?_, ?_⟩
  · exact (hb.cell (by show ub < _; omega)).trans b0
  · exact (hb.cell (by show cb < _; omega)).trans b1
  · exact (hb.cell (by show cb < _; omega)).trans b2
  · exact (hb.cell (by show cb < _; omega)).trans b3
  · exact (hb.cell (by show cb < _; omega)).trans b4
theorem QS.drew {w W : World} {cb off L ub f k : Nat} {C : Nat → Nat} {u : Nat → Bool} (h : QS w cb off L ub C u f k W) : QS w cb off L ub C u f k W.drew := h.on (drewN_below (Below.refl _ _) 1)
theorem wrap64_add2 (a b : Int) : wrap64 (wrap64 a + wrap64 b) = wrap64 (a + b) := by unfold wrap64; omega
theorem nb_adj {a b : Nat} (ha : a < 64) (hb : b < 64) : nbB ((a % 8 : Nat) : Int) ((a / 8 : Nat) : Int) ((b % 8 : Nat) : Int) ((b / 8 : Nat) : Int) = adj a b := by
  rw [Bool.eq_iff_iff, nbB_iff, adj_iff]
  unfold Ok
  omega

set_option maxRecDepth 100000 in
set_option maxHeartbeats 4000000 in
theorem sPartials (C : Nat → Nat) (A : Option Addr) (U : Option Addr) (L cap ucap cb off ub : Nat) (hL : L ≤ 64) (hC : ∀ i, i < L → C i < 64) (hA : 0 < L → A = some ⟨cb, off, none⟩) (hU : 0 < L → U = some ⟨ub, 0, none⟩) (hne : cb ≠ ub) : ∀ (n f m : Nat) (w : World) (u : Nat → Bool), f + n = L → m ≤ 64 → Bks w ub L u → CLs w cb off L C →
    Calls Try.prog 47 #[.slice A L cap, .slice U L ucap, .int .i64 (f : Int), .int .i64 (m : Int)] w (PPost (wrap64 (R C L n f m u : Nat)) ub L u w) := by
  intro n
  induction n with
  | zero =>
    intro f m w u hf hm hb hc
    cases m with
    | zero => exact sPartials0 C A U L cap ucap 0 f w ub u hf hb
    | succ m => obtain rfl : f = L := by omega
                exact sPartialsE C A U f cap ucap hL m (by omega) w ub u hb
  | succ n ih =>
    intro f m w u hf hm hb hc
    cases m with
    | zero => exact sPartials0 C A U L cap ucap (n + 1) f w ub u hf hb
    | succ m =>
      have hfL : f < L := by omega
      obtain rfl := hA (by omega)
      obtain rfl := hU (by omega)
      have h1 := ih (f + 1) (m + 1) w u (by omega) hm hb hc
      have HI := Lib.hid (fun W k (ha : Apart ub (ub + 1) w W) (hk : Bks W ub L (fun i => u i || decide (i = k))) => ih (f + 1) m W (fun i => u i || decide (i = k)) (by omega) (by omega) hk (hc.apart hne ha))
      have HC := Lib.hid (fun W (ha : Apart ub (ub + 1) w W) => hc.apart hne ha)
      have hR : R C L (n + 1) f (m + 1) u = R C L n (f + 1) (m + 1) u + if u f = true then 0 else sm L (fun k => if f < k ∧ u k = false ∧ adj (C f) (C k) = true then R C L n (f + 1) m (fun i => u i || decide (i = k)) else 0) := rfl
      generalize R C L (n + 1) f (m + 1) u = r at hR ⊢
      generalize R C L n (f + 1) (m + 1) u = r1 at hR h1
      have hz : ((m + 1 : Nat) : Int) ≠ 0 := by omega
      have hf1 : wrap64 ((f : Int) + 1) = ((f + 1 : Nat) : Int) := by unfold wrap64; omega
      have hm1 : wrap64 (((m + 1 : Nat) : Int) - 1) = (m : Int) := by unfold wrap64; omega
      generalize ((m + 1 : Nat) : Int) = M at hz hm1 h1 ⊢
      have H1 := Lib.hid h1
      clear h1 ih hA hU hb hc
      cases huf : u f with
      | true =>
        rw [huf, if_pos rfl] at hR
        have HR := Lib.hid hR
        have HU := Lib.hid huf
        clear hR huf HI HC
        go_enter Try.func47, Try.ntmps47
        go_wp2_with fail
        refine H1.out.mono ?_
        rintro e w1 ⟨rfl, hb1, ha1⟩
        have hcf := hb1.cell hfL
        rw [HU.out] at hcf
        have HB := Lib.hid hb1
        have HA := Lib.hid ha1
        clear hb1 ha1 H1
        go_wp2_with fail
        go_loopw [9, 10] (fun lv i wr => i = .int .i64 ((f + 1 : Nat) : Int) ∧ lv = .int .i64 (wrap64 (r1 : Nat)) ∧ wr = w1) (fun _ _ _ => 0)
        case atStart => exact ⟨by simp [hf1], rfl, rfl⟩
        case round =>
          obtain ⟨rfl, rfl, rfl⟩ := hrel
          by_cases hlt : f + 1 < L
          · go_wp2
            go_ret
            exact ⟨by rw [HR.out]; rfl, HB.out, HA.out⟩
          · go_wp2
            go_ret
            exact ⟨by rw [HR.out]; rfl, HB.out, HA.out⟩
      | false =>
        rw [huf, if_neg (by simp)] at hR
        obtain ⟨F, hF⟩ : ∃ F : Nat → Nat, F = fun k => if f < k ∧ u k = false ∧ adj (C f) (C k) = true then R C L n (f + 1) m (fun i => u i || decide (i = k)) else 0 := ⟨_, rfl⟩
        rw [← hF] at hR
        have HR := Lib.hid hR
        have HU := Lib.hid huf
        have HF0 := Lib.hid (show sm (f + 1) F = 0 from sm_zero (fun i hi => by rw [hF]; exact if_neg (fun q => by omega)))
        have HFk := Lib.hid hF
        clear hR huf hF
        go_enter Try.func47, Try.ntmps47
        go_wp2_with fail
        refine H1.out.mono ?_
        rintro e w1 ⟨rfl, hb1, ha1⟩
        have HB := Lib.hid hb1
        have HA := Lib.hid ha1
        clear hb1 ha1 H1
        go_wp2_with fail
        go_loopw [9, 10] (fun lv i wr => ∃ k : Nat, f + 1 ≤ k ∧ k ≤ L ∧ i = .int .i64 (k : Int) ∧ lv = .int .i64 (wrap64 (r1 + sm k F : Nat)) ∧ Bks wr ub L u ∧ Apart ub (ub + 1) w wr) (fun _ i _ => L - (intOf i).toNat)
        case atStart => exact ⟨f + 1, Nat.le_refl _, by omega, by simp [hf1], by rw [HF0.out]; rfl, HB.out, HA.out⟩
        case round =>
          clear HB HA
          obtain ⟨k, hk1, hk2, rfl, rfl, hb1, ha1⟩ := hrel
          have HB := Lib.hid hb1
          have HA := Lib.hid ha1
          by_cases hlt : k < L
          · have hcf := hb1.cell hfL
            rw [HU.out] at hcf
            have hck := hb1.cell hlt
            obtain ⟨_, cf0, cf1⟩ := HC.out _ ha1 f hfL
            obtain ⟨_, ck0, ck1⟩ := HC.out _ ha1 k hlt
            clear hb1 ha1
            cases huk : u k with
            | true =>
              rw [huk] at hck
              have HS := Lib.hid (show sm (k + 1) F = sm k F from by show sm k F + F k = _; rw [HFk.out]; show _ + (if _ then _ else _) = _; rw [if_neg (by rw [huk]; simp), Nat.add_zero])
              go_wp2_with fail
              go_quiet (fail)
              go_wp2
              go_roundw
              case rel => exact ⟨k + 1, by omega, by omega, by go_num, by rw [HS.out], HB.out, HA.out.trans (apart_of_below (drewN_below (Below.refl _ _) _) _ _)⟩
              case measure => (simp [intOf] <;> omega)
            | false =>
              rw [huk] at hck
              have HN := Lib.hid (fun W => show Calls Try.prog 61 #[.agg #[.int .i64 ((C f % 8 : Nat) : Int), .int .i64 ((C f / 8 : Nat) : Int)], .agg #[.int .i64 ((C k % 8 : Nat) : Int), .int .i64 ((C k / 8 : Nat) : Int)]] W (Bol (adj (C f) (C k)) W) from by rw [← nb_adj (hC f hfL) (hC k hlt)]; exact sAreNeighbors _ _ _ _ W)
              go_wp2_with fail
              have T0 : QS w cb off L ub C u f k wr := ⟨⟨HB.out, HA.out, (HC.out _ HA.out k hlt).1⟩, hck, cf0, cf1, ck0, ck1⟩
              go_region_held3 (fun w' => (Bks w' ub L u ∧ Apart ub (ub + 1) w w' ∧ cb < w'.heap.size) ∧ w'.cell? ⟨ub, k, none⟩ = some (.bool false) ∧ w'.cell? ⟨cb, off + f * 2, none⟩ = some (.int .i64 ((C f % 8 : Nat) : Int)) ∧ w'.cell? ⟨cb, off + f * 2 + 1, none⟩ = some (.int .i64 ((C f / 8 : Nat) : Int)) ∧ w'.cell? ⟨cb, off + k * 2, none⟩ = some (.int .i64 ((C k % 8 : Nat) : Int)) ∧ w'.cell? ⟨cb, off + k * 2 + 1, none⟩ = some (.int .i64 ((C k / 8 : Nat) : Int)))
                (first | assumption | exact QS.drew (by assumption) | exact QS.on (by assumption) (by assumption))
                (first | (go_at_call 61; refine (HN.out _).mono ?_; rintro e wx ⟨rfl, hbx⟩))
              have T2 : QS w cb off L ub C u f k wx := by assumption
              obtain ⟨⟨b2, a2, _⟩, _⟩ := T2
              cases hq : adj (C f) (C k) with
              | false =>
                have HS := Lib.hid (show sm (k + 1) F = sm k F from by show sm k F + F k = _; rw [HFk.out]; show _ + (if _ then _ else _) = _; rw [if_neg (by rw [hq]; simp), Nat.add_zero])
                have HB2 := Lib.hid b2
                have HA2 := Lib.hid a2
                clear b2 a2
                go_wp2
                go_roundw
                case rel => exact ⟨k + 1, by omega, by omega, by go_num, by rw [HS.out]; go_num, HB2.out, HA2.out⟩
                case measure => (simp [intOf] <;> omega)
              | true =>
                have HS := Lib.hid (show sm (k + 1) F = sm k F + R C L n (f + 1) m (fun i => u i || decide (i = k)) from by show sm k F + F k = _; rw [HFk.out]; show _ + (if _ then _ else _) = _; rw [if_pos ⟨by omega, huk, hq⟩])
                have hcx := b2.cell hlt
                have hfz := b2.frozen k
                have b3 : Bks (wx.setCell ⟨ub, k, none⟩ (.bool true)) ub L (fun i => u i || decide (i = k)) := (b2.set hlt true).same (fun i hi => by by_cases e : i = k <;> simp [e])
                have a3 : Apart ub (ub + 1) w (wx.setCell ⟨ub, k, none⟩ (.bool true)) := a2.setCell (p := ⟨ub, k, none⟩) (Nat.le_refl _) (Nat.lt_succ_self _) (.bool true)
                have H3 := Lib.hid (HI.out _ k a3 b3)
                have HA3 := Lib.hid a3
                clear b2 a2 b3 a3
                go_wp2_with fail
                refine H3.out.mono ?_
                rintro e w4 ⟨rfl, b4, a4⟩
                have hc4 := b4.cell hlt
                have hfz4 := b4.frozen k
                have HB5 := Lib.hid (show Bks (w4.setCell ⟨ub, k, none⟩ (.bool false)) ub L u from (b4.set hlt false).same (fun i hi => by by_cases e : i = k <;> simp [e, huk]))
                have HA5 := Lib.hid ((HA3.out.trans a4).setCell (p := ⟨ub, k, none⟩) (Nat.le_refl _) (Nat.lt_succ_self _) (.bool false))
                clear b4 a4
                go_wp2
                go_roundw
                case rel => exact ⟨k + 1, by omega, by omega, by go_num, by rw [HS.out]; exact congrArg (Value.int .i64) ((wrap64_add2 _ _).trans (congrArg wrap64 (by omega))), HB5.out, HA5.out⟩
                case measure => (simp [intOf] <;> omega)
          · clear hb1 ha1
            go_wp2
            go_ret
            refine ⟨?_, HB.out, HA.out⟩
            rw [HR.out]
            have : k = L := by omega
            subst this
            rfl
end Go.Proofs.Ytcncikgcieigaaa.Cnt
